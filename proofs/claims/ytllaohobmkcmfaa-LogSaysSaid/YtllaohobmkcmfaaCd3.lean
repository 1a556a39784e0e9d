/- The document's log: ClosedDeeds, the walk. -/
import Derived.Test.YtllaohobmkcmfaaCd2
import Derived.Test.YtllaohobmkcmfaaLg5
import Derived.Test.YtllaohobmkcmfaaGrow
namespace Go.Proofs.Ytllaohobmkcmfaa
open Go.RowKit Go.PlainAid
attribute [local go_sem ↓] Go.wp_at_zero Go.wp_at_succ

theorem parseE_pos {s : ByteArray} (h : ¬ parseE s = 0) : 0 < parseE s := by
  unfold parseE at h ⊢
  split
  · simp
  · split
    · rename_i h1 h2; simp [h1, h2] at h
    · simp

/-- What ClosedDeeds returns. -/
def ClosedRet (w : World) (R : List (List Ch) × Nat) (e : Ending) (w' : World) : Prop :=
  ∃ v, e = .returned (.tuple #[v, .int .i64 (R.2 : Int)]) ∧ DeedsAt w' w.heap.size v R.1 ∧ (R.1 = [] → v = .slice none 0 0) ∧ Below w.heap.size w w'

set_option maxHeartbeats 8000000 in
set_option maxRecDepth 100000 in
theorem closed_any (w : World) (A : Option Addr) (cA : Nat) (l : List ByteArray) (first : Nat) (hA : ∀ w', Below w.heap.size w w' → ∀ i, (hi : i < l.length) → ∃ b off, A = some ⟨b, off, none⟩ ∧ w'.cell? ⟨b, off + i, none⟩ = some (.string l[i])) (h80 : ∀ x ∈ l, x.size = 80) (hn : l.length ≤ 1000) (hf : first ≤ 100000000) :
    Calls Try.prog 13 #[.slice A l.length cA, .int .i64 (first : Int)] w (ClosedRet w (lgRead first l 0 [] [] 0)) := by
  obtain ⟨R, hR⟩ : ∃ R, lgRead first l 0 [] [] 0 = R := ⟨_, rfl⟩
  rw [hR]
  have HR0 := Lib.hid (show lgRead first (l.drop 0) 0 [] [] 0 = R by simpa using hR)
  obtain ⟨inf, hin, hz0, hz1, hz2⟩ := info_parts Try.infoChZ
  obtain ⟨inf2, hin2, hy0, hy1, hy2⟩ := info_parts Try.infoDeedZ
  have HIN := Lib.hid hin
  have HZ0 := Lib.hid hz0
  have HZ1 := Lib.hid hz1
  have HZ2 := Lib.hid hz2
  have HIN2 := Lib.hid hin2
  have HY0 := Lib.hid hy0
  have HY1 := Lib.hid hy1
  have HY2 := Lib.hid hy2
  clear hR hin hz0 hz1 hz2 hin2 hy0 hy1 hy2
  go_enter Try.func13, Try.ntmps13
  go_wp2
  go_loopw [6, 7, 8, 9] (fun v6 v7 u i w' => ∃ (k : Nat) (vs : List Value) (cs : List Ch) (es : List (List Ch)) (en : Nat), k ≤ l.length ∧ i = .int .i64 k ∧ u = .int .i64 (en : Int) ∧ CdSt w w' v6 v7 vs cs es ∧ lgRead first (l.drop k) k cs es en = R ∧ cs.length ≤ k ∧ es.length ≤ k) (fun _ _ _ i _ => l.length - (intOf i).toNat)
  case atStart => exact ⟨0, [], [], [], 0, Nat.zero_le _, rfl, rfl, CdSt.zero w, HR0.out, Nat.le_refl _, Nat.le_refl _⟩
  case round =>
    obtain ⟨k, vs, cs, es, en, hk, rfl, rfl, hS, hR, hcs, hes⟩ := hrel
    clear HR0
    by_cases hlt : k < l.length
    · obtain ⟨b, off, rfl, d0⟩ := hA wr hS.kept k hlt
      have hs80 := h80 _ (List.getElem_mem hlt)
      rw [List.drop_eq_getElem_cons hlt] at hR
      have HRR := Lib.hid hR
      clear hR
      generalize l[k] = s at *
      have gb := get_bt s
      obtain ⟨b5, hb5⟩ : ∃ n : Nat, bt s 5 = (n : Int) := ⟨(bt s 5).toNat, by have := bt_nonneg s 5; omega⟩
      obtain ⟨b6, hb6⟩ : ∃ n : Nat, bt s 6 = (n : Int) := ⟨(bt s 6).toNat, by have := bt_nonneg s 6; omega⟩
      have k5 : (b5 : Int) ≤ 255 := by rw [← hb5]; exact bt_le s 5
      have k6 : (b6 : Int) ≤ 255 := by rw [← hb6]; exact bt_le s 6
      have l0 : 0 < s.size := by omega
      have l5 : 5 < s.size := by omega
      have l6 : 6 < s.size := by omega
      have j5 : ((s[5]'l5).toNat : Int) = (b5 : Int) := by rw [gb 5 l5, hb5]
      have j6 : ((s[6]'l6).toNat : Int) = (b6 : Int) := by rw [gb 6 l6, hb6]
      have j0 : ((s[0]'l0).toNat : Int) = bt s 0 := gb 0 l0
      have hlen : ctLen s = b5 + 256 * b6 := by unfold ctLen; rw [hb5, hb6]; rfl
      have hct : ctText s = s.extract 7 (7 + (b5 + 256 * b6)) := by unfold ctText; rw [hlen]
      have m5 : (5 : Int) < (s.size : Int) := by omega
      have m6 : (6 : Int) < (s.size : Int) := by omega
      have m0 : (0 : Int) < (s.size : Int) := by omega
      have m05 : (5 : Int) ≤ (s.size : Int) := by omega
      have i1 : (k : Int) < (l.length : Int) := by omega
      have i0 : (0 : Int) ≤ (k : Int) := by omega
      have hOK := ctOk_eq (first + k) s hs80
      rw [hlen] at hOK
      have H4 := fun w' => four_any w' (first + k) (by omega)
      rw [show ((first + k : Nat) : Int) = (first : Int) + (k : Int) by omega] at H4
      obtain ⟨T, hT⟩ : ∃ T : ByteArray, (⟨(lit (first + k) 4).toArray⟩ : ByteArray) = T := ⟨_, rfl⟩
      have hTl : T.toList = lit (first + k) 4 := by rw [← hT]; simp
      rw [hT] at H4
      rw [← hTl] at hOK
      have H4' := Lib.hid H4
      have a1 : IntKind.i64.wrap ((first : Int) + (k : Int)) = (first : Int) + (k : Int) := IntWalk.i64_in _ (by omega)
      have a2 : IntKind.i64.wrap (256 * (b6 : Int)) = 256 * (b6 : Int) := IntWalk.i64_in _ (by omega)
      have a3 : IntKind.i64.wrap ((b5 : Int) + 256 * (b6 : Int)) = (b5 : Int) + 256 * (b6 : Int) := IntWalk.i64_in _ (by omega)
      clear gb hb5 hb6 H4 hT hTl hlen
      have hN : (b5 : Int) + 256 * (b6 : Int) = ((b5 + 256 * b6 : Nat) : Int) := by omega
      rw [hN] at a3
      generalize hnn : b5 + 256 * b6 = n at *
      clear hnn
      have HB1 := Lib.hid (fun q => below_drewN (Below.refl wr.heap.size wr) q)
      have HS := Lib.hid hS
      obtain ⟨u6A, u6c, rfl⟩ := slice_form hS.ent
      obtain ⟨u7A, u7c, rfl⟩ := slice_form hS.chg
      clear hS
      cases hok : ctOk (first + k) s with
      | false =>
        have hR := HRR.out
        rw [lgRead_stop hok] at hR
        subst hR
        have FIN := Lib.hid (fun w' (h : Below wr.heap.size wr w') => show ClosedRet w (es, en) (.returned (.tuple #[.slice u6A es.length u6c, .int .i64 (en : Int)])) w' from by
          have hS' := HS.out.below h
          exact ⟨_, rfl, ⟨vs, hS'.len, hS'.ent, fun i hi hv => (hS'.each i hi hv).1⟩, hS'.empty, hS'.kept⟩)
        rw [hok] at hOK
        by_cases heq : ((s.extract 1 5).toList == T.toList) = true
        · have h73 : (73 : Int) < (n : Int) := by
            rw [heq, Bool.and_true] at hOK
            have := of_decide_eq_false hOK.symm
            omega
          clear hok hOK HRR HS j0 hct
          go_wp2_with fail
          go_quiet (fail)
          clear hN j5 j6 a2
          go_wp2_with fail
          go_region_with (go_at_call 27; refine (H4'.out _).mono ?_; rintro e w2 ⟨rfl, hb2⟩)
          have HB2 := Lib.hid (belowThen (HB1.out _).drew hb2)
          go_wp2
          go_ret2
          exact FIN.out _ HB2.out
        · have heq' : ((s.extract 1 5).toList == T.toList) = false := by simpa using heq
          clear hok hOK HRR HS j0 hct heq
          go_wp2_with fail
          go_quiet (fail)
          clear hN j5 j6 a2
          go_wp2_with fail
          refine wp_region_grow (by kernel_rfl) (by kernel_rfl) ?_
          repeat (go_big_quiet_step (with_reducible exact Calls.grow _ (H4'.out _)))
          refine wpQuiet_nil ?_
          intro wy hw'
          have HB2 := Lib.hid (show Below wr.heap.size wr wy from by obtain ⟨o9, h9⟩ := hw'; rw [h9]; exact belowThen (HB1.out _) o9.ok)
          clear hw'
          go_wp2
          go_ret2
          exact FIN.out _ HB2.out
      | true =>
        rw [hok] at hOK
        have hOK2 := hOK.symm
        rw [Bool.and_eq_true] at hOK2
        obtain ⟨h73, heq⟩ := hOK2
        have h73' : n ≤ 73 := of_decide_eq_true h73
        have i73 : ¬ (73 : Int) < (n : Int) := by omega
        have a4 : IntKind.i64.wrap (7 + (n : Int)) = 7 + (n : Int) := IntWalk.i64_in _ (by omega)
        have a5 : (7 + (n : Int)).toNat = 7 + n := by omega
        have a6 : (7 : Int) ≤ 7 + (n : Int) := by omega
        have a7 : 7 + (n : Int) ≤ (s.size : Int) := by omega
        have HOK := Lib.hid hok
        have HCT := Lib.hid hct
        obtain ⟨b0, hb0⟩ : ∃ b0, bt s 0 = b0 := ⟨_, rfl⟩
        rw [hb0] at j0
        have HB0 := Lib.hid hb0
        have htsz : (s.extract 7 (7 + n)).size ≤ 73 := by simp; omega
        have HCO := Lib.hid (fun w' => rparse_any (s.extract 7 (7 + n)) w' (by unfold maxLen; omega))
        have H4L := fun w' => four_any w' cs.length (by omega)
        obtain ⟨T4, hT4⟩ : ∃ T4 : ByteArray, (⟨(lit cs.length 4).toArray⟩ : ByteArray) = T4 := ⟨_, rfl⟩
        have hT4l : T4.toList = lit cs.length 4 := by rw [← hT4]; simp
        rw [hT4] at H4L
        have HT4 := Lib.hid hT4l
        have H4L' := Lib.hid H4L
        clear hok hOK h73 hct hb0 hT4 hT4l H4L
        go_wp2_with fail
        go_quiet (fail)
        clear hN j5 j6 a2
        go_wp2_with fail
        go_region_with (go_at_call 27; refine (H4'.out _).mono ?_; rintro e w2 ⟨rfl, hb2⟩)
        have hS2 := HS.out.below (belowThen (HB1.out _).drew hb2)
        clear H4' hb2 HB1 HS a1 a3
        have HS2 := Lib.hid hS2
        by_cases c99 : b0 = 99
        · subst c99
          by_cases hq : ((s.extract 7 (7 + n)).toList == T4.toList) = true
          · have hR := HRR.out
            rw [lgRead_close HOK.out HB0.out (by rw [HCT.out, ← HT4.out]; simpa using hq)] at hR
            have HR := Lib.hid hR
            clear hR HRR HCO HB0 HCT HOK hS2
            go_wp2_with fail
            ((with_reducible refine (H4L'.out _).mono ?_); rintro e w3 ⟨rfl, hb3⟩)
            have HS3 := Lib.hid (HS2.out.below hb3)
            have hbs := HS3.out.kept.size
            have FIN := Lib.hid (fun o w4 gg cap (h1 : World.grownBy (w3.alloc o) w4 (Value.slice u6A es.length u6c).ownBlock) (h2 : w4.ownsRow w.heap.size 45 1 (.slice (some ⟨gg, 0, none⟩) (es.length + 1) cap) (es.length + 1) (vs ++ [.slice u7A cs.length u7c])) => CdSt.close HS3.out h1 h2)
            clear HS2 hb3 H4L'
            go_wp2_with (at_builtin; (refine wpList_append_lies _ rfl _ _ 33 rfl w.heap.size 45 inf2 (.slice none 0 0) 1 24 Try.underlying33 HIN2.out HY0.out HY1.out HY2.out rfl (by decide) (.slice u6A es.length u6c) es.length vs rfl (World.ownsRow.alloc HS3.out.ent _) ⟨w3.heap.size, 0, none⟩ 1 1 [.slice u7A cs.length u7c] rfl rfl (cell_one_new _ _ _) (by simp [Value.oneCell']) (by omega) (by unfold maxLen; omega) (by omega) (by simp; omega) (w3.heap.size + 1) (by simp) ?_); intro gg cap w4 hO4 hg4 hat4 hlt4; have HF4 := Lib.hid (FIN.out _ w4 gg cap hg4 hO4); clear hO4 hg4 hat4)
            go_roundw
            case rel => exact ⟨k + 1, vs ++ [.slice u7A cs.length u7c], [], es ++ [cs], k + 1, by omega, by go_num, by go_num, HF4.out, HR.out, by simp, by simp; omega⟩
            case measure => simp [intOf]; omega
          · have hq' : ((s.extract 7 (7 + n)).toList == T4.toList) = false := by simpa using hq
            have hR := HRR.out
            rw [lgRead_odd HOK.out (by rw [HB0.out]; omega) (by rintro ⟨_, h⟩; rw [HCT.out, ← HT4.out] at h; simp [h] at hq)] at hR
            subst hR
            clear HRR HCO HB0 HCT HOK hS2 hq
            go_wp2_with fail
            ((with_reducible refine (H4L'.out _).mono ?_); rintro e w3 ⟨rfl, hb3⟩)
            have HSx := Lib.hid (HS2.out.below hb3)
            clear HS2 hb3 H4L'
            go_wp2
            go_ret2
            exact ⟨_, rfl, ⟨vs, HSx.out.len, HSx.out.ent, fun i hi hv => (HSx.out.each i hi hv).1⟩, HSx.out.empty, HSx.out.kept⟩
        · have c99' : (b0 == 99) = false := by simpa using c99
          by_cases c111 : b0 = 111
          · subst c111
            by_cases hpe : parseE (s.extract 7 (7 + n)) = 0
            · have hR := HRR.out
              rw [lgRead_more HOK.out HB0.out (by rw [HCT.out]; exact hpe), HCT.out] at hR
              have HCO2 := HCO.out
              rw [hpe] at HCO2
              generalize parseC (s.extract 7 (7 + n)) = c at *
              have HCO3 := Lib.hid HCO2
              have HR := Lib.hid hR
              clear hR HRR HCO HCO2 HB0 HCT HOK hS2 hpe H4L' HT4
              go_wp2_with fail
              ((with_reducible refine (HCO3.out _).mono ?_); rintro e w3 ⟨rfl, hb3⟩)
              have HS3 := Lib.hid (HS2.out.below hb3)
              have hbs := HS3.out.kept.size
              clear HS2 hb3 HCO3
              unfold chArr
              have HS9 := Lib.hid (HS3.out.below ((Below.refl _ _).alloc (Nat.le_refl _) (.cells (chArr c) 50)))
              have hrow : (w3.alloc (.cells (chArr c) 50)).heap[w3.heap.size]? = some (.cells (chArr c) 50 (0, 0)) := heap_alloc_new _ _
              obtain ⟨gx, hgx⟩ : ∃ gx, w3.heap.size = gx := ⟨_, rfl⟩
              obtain ⟨w9, hw9⟩ : ∃ w9, w3.alloc (.cells (chArr c) 50) = w9 := ⟨_, rfl⟩
              rw [hw9] at HS9 hrow
              rw [hgx] at hrow
              have HW9 := Lib.hid (show w3.alloc (.cells #[.string c.key, .string c.val, .bool c.gone] 50) = w9 from hw9)
              have HGX := Lib.hid hgx
              clear hw9 hgx
              go_upto_region 18 with (fail)
              rw [HW9.out, HGX.out]
              clear HW9 HGX HS3
              have d0 : w9.cell? ⟨gx, 0, none⟩ = some (.string c.key) := cell_of_row _ _ _ _ _ _ hrow
              have d1 : w9.cell? ⟨gx, 1, none⟩ = some (.string c.val) := cell_of_row _ _ _ _ _ _ hrow
              have d2 : w9.cell? ⟨gx, 2, none⟩ = some (.bool c.gone) := cell_of_row _ _ _ _ _ _ hrow
              have hbs9 := HS9.out.kept.size
              have FIN := Lib.hid (fun o w4 gg cap (h1 : World.grownBy (w9.alloc o) w4 (Value.slice u7A cs.length u7c).ownBlock) (h2 : w4.ownsRow w.heap.size 50 3 (.slice (some ⟨gg, 0, none⟩) (cs.length + 1) cap) (cs.length + 1) (chCells cs ++ [.string c.key, .string c.val, .bool c.gone])) (h3 : (Value.slice u7A cs.length u7c).ownBlock = some gg ∨ gg = w9.heap.size + 1) => CdSt.add HS9.out h1 h2 h3)
              clear hrow
              obtain ⟨key, val, gone⟩ := c
              simp only [] at d0 d1 d2 FIN HR
              go_wp2_with (at_builtin; (refine wpList_append_lies _ rfl _ _ 45 rfl w.heap.size 50 inf (.agg #[.string ByteArray.empty, .string ByteArray.empty, .bool false]) 3 40 Try.underlying45 HIN.out HZ0.out HZ1.out HZ2.out rfl (by decide) (.slice u7A cs.length u7c) cs.length (chCells cs) rfl (World.ownsRow.alloc HS9.out.chg _) ⟨w9.heap.size, 0, none⟩ 1 1 [.string key, .string val, .bool gone] rfl rfl (World.news_of_block (cs := #[.string key, .string val, .bool gone]) (t := 50) (fr := (0, 0)) (heap_alloc_new w9 _)) (by simp [Value.oneCell']) (by omega) (by unfold maxLen; omega) (by omega) (by simp; omega) (w9.heap.size + 1) (by simp) ?_); intro gg cap w4 hO4 hg4 hat4 hlt4; have HF4 := Lib.hid (FIN.out _ w4 gg cap hg4 hO4 hat4); clear hO4 hg4 hat4)
              refine ⟨⟨k + 1, vs, cs ++ [⟨key, val, gone⟩], es, en, by omega, by go_num, by go_num, HF4.out, HR.out, by simp; omega, by omega⟩, by simp [intOf]; omega⟩
            · have hR := HRR.out
              rw [lgRead_bad HOK.out HB0.out (by rw [HCT.out]; exact hpe)] at hR
              subst hR
              have hnn := parseE_pos hpe
              generalize parseC (s.extract 7 (7 + n)) = c at *
              generalize parseE (s.extract 7 (7 + n)) = pe at *
              clear HRR HB0 HCT HOK hS2 hpe H4L' HT4
              go_wp2_with fail
              ((with_reducible refine (HCO.out _).mono ?_); rintro e w3 ⟨rfl, hb3⟩)
              have HSx := Lib.hid (HS2.out.below hb3)
              have HSy := Lib.hid (HSx.out.below ((Below.refl _ _).alloc (Nat.le_refl _) (.cells (chArr c) 50)))
              clear HS2 hb3 HCO
              unfold chArr
              go_wp2
              go_ret2
              exact ⟨_, rfl, ⟨vs, HSy.out.len, HSy.out.ent, fun i hi hv => (HSy.out.each i hi hv).1⟩, HSy.out.empty, HSy.out.kept⟩
          · have c111' : (b0 == 111) = false := by simpa using c111
            have hR := HRR.out
            rw [lgRead_odd HOK.out (by rw [HB0.out]; exact c111) (by rintro ⟨h, _⟩; rw [HB0.out] at h; exact c99 h)] at hR
            subst hR
            have HSx := HS2
            clear HRR HCO HB0 HCT HOK hS2 H4L' HT4 HS2 c99 c111
            go_wp2
            go_ret2
            exact ⟨_, rfl, ⟨vs, HSx.out.len, HSx.out.ent, fun i hi hv => (HSx.out.each i hi hv).1⟩, HSx.out.empty, HSx.out.kept⟩
    · have hend : lgRead first (l.drop k) k cs es en = (es, en) := by rw [List.drop_eq_nil_of_le (by omega)]; rfl
      rw [hend] at hR
      subst hR
      clear hend
      go_wp2
      go_ret2
      exact ⟨_, rfl, ⟨vs, hS.len, hS.ent, fun i hi hv => (hS.each i hi hv).1⟩, hS.empty, hS.kept⟩
end Go.Proofs.Ytllaohobmkcmfaa
