/- Package log: read, the walk. -/
import Derived.Test.YthhedahfmllnoaaZqLg4
namespace Go.Proofs.Ythhedahfmllnoaa
open Go.RowKit Go.PlainAid
attribute [local go_sem ↓] Go.wp_at_zero Go.wp_at_succ

theorem Try.infoDeedZ : (Try.prog.info? 36).map (fun i => (i.zero, i.size, i.bytes)) = some (some (.slice none 0 0), 1, 24) := by kernel_rfl

/-- The texts of a log's sectors. -/
def lgTexts (D : DkM) (L : LgM) : List ByteArray := (List.range L.many).map fun i => ⟨(D.now.getD (L.frm + i) []).toArray⟩

theorem lgTexts_drop (D : DkM) (L : LgM) (k : Nat) (hk : k < L.many) : (lgTexts D L).drop k = (⟨(D.now.getD (L.frm + k) []).toArray⟩ : ByteArray) :: (lgTexts D L).drop (k + 1) := by
  rw [List.drop_eq_getElem_cons (by simp [lgTexts]; exact hk)]
  simp [lgTexts]

def ReadRet (B : Nat) (w : World) (gl g : Nat) (L : LgM) (R : List (List Ch) × Nat) (e : Ending) (w' : World) : Prop :=
  ∃ v, e = .returned (.tuple #[v, .nilIface]) ∧ DeedsAt w' w.heap.size v R.1 ∧ LgAt B w' gl g { L with fin := R.2 } ∧ Kept1 gl w w'

theorem RdSt.ret {B : Nat} {w w1 : World} {gl g : Nat} {L : LgM} {v4 v5 : Value} {vs : List Value} {cs : List Ch} {es : List (List Ch)} {e : Nat} (h : RdSt B w w1 gl g L v4 v5 vs cs es e) : ReadRet B w gl g L (es, e) (.returned (.tuple #[v4, .nilIface])) w1 :=
  ⟨v4, rfl, ⟨vs, h.len, h.ent, fun i hi hv => (h.each i hi hv).1⟩, h.log, h.kept⟩

set_option maxHeartbeats 8000000 in
set_option maxRecDepth 100000 in
theorem logRead_any (B gl g : Nat) (w : World) (D : DkM) (L : LgM) (hL : LgAt B w gl g { L with fin := 0 }) (hD : DkAt B w g D) (hdn : D.down = false) (hfit : L.frm + L.many ≤ D.now.length) (hfirst : L.first ≤ 100000000) :
    Calls Try.prog 72 #[.pointer (some ⟨gl, 0, none⟩)] w (ReadRet B w gl g L (lgRead L.first (lgTexts D L) 0 [] [] 0)) := by
  have hfew : D.now.length ≤ 260 := by obtain ⟨ho, _⟩ := hD; exact ho.few
  obtain ⟨R, hR⟩ : ∃ R, lgRead L.first (lgTexts D L) 0 [] [] 0 = R := ⟨_, rfl⟩
  rw [hR]
  have HR0 := Lib.hid (show lgRead L.first ((lgTexts D L).drop 0) 0 [] [] 0 = R by simpa using hR)
  have hgl := (Array.getElem?_eq_some_iff.1 hL.2).1
  have HST0 := Lib.hid (show RdSt B w w gl g L (.slice none 0 0) (.slice none 0 0) [] [] [] 0 from
    ⟨World.ownsRow_nil _ _ _ _, World.ownsRow_nil _ _ _ _, rfl, fun i hi => by simp at hi, hL, hgl, Kept1.refl _ _⟩)
  have c2 : w.cell? ⟨gl, 2, none⟩ = some (.int .i64 (L.many : Int)) := cell_of_row _ _ _ _ _ _ hL.2
  obtain ⟨inf, hin, hz0, hz1, hz2⟩ := info_parts Try.infoChZ
  obtain ⟨inf2, hin2, hy0, hy1, hy2⟩ := info_parts Try.infoDeedZ
  have HIN := Lib.hid hin
  have HZ0 := Lib.hid hz0
  have HZ1 := Lib.hid hz1
  have HZ2 := Lib.hid hz2
  have HIN2 := Lib.hid hin2
  have HY0 := Lib.hid hy0
  have HY1 := Lib.hid hy1
  have HY2 := Lib.hid hy2
  have HDN := Lib.hid hdn
  clear hR hin hz0 hz1 hz2 hin2 hy0 hy1 hy2 hdn
  go_enter Try.func72, Try.ntmps72
  go_wp2
  go_loopw [4, 5, 16] (fun v4 v5 i w' => ∃ (k : Nat) (vs : List Value) (cs : List Ch) (es : List (List Ch)) (en : Nat), k ≤ L.many ∧ i = .int .i64 k ∧ RdSt B w w' gl g L v4 v5 vs cs es en ∧ lgRead L.first ((lgTexts D L).drop k) k cs es en = R ∧ cs.length ≤ k ∧ es.length ≤ k) (fun _ _ i _ => L.many - (intOf i).toNat)
  case atStart => exact ⟨0, [], [], [], 0, Nat.zero_le _, rfl, HST0.out, HR0.out, Nat.le_refl _, Nat.le_refl _⟩
  case round =>
    obtain ⟨k, vs, cs, es, en, hk, rfl, hS, hR, hcs, hes⟩ := hrel
    clear HST0 HR0 c2
    have HS := Lib.hid hS
    by_cases hlt : k < L.many
    · have hDr : DkAt B wr g D := hD.step (hS.kept.step hL.1 (by have := hL.1; omega) hL.2) (by decide) (by decide) (by decide)
      have c0 : wr.cell? ⟨gl, 0, none⟩ = some (.pointer (some ⟨g, 0, none⟩)) := cell_of_row _ _ _ _ _ _ hS.log.2
      have c1 : wr.cell? ⟨gl, 1, none⟩ = some (.int .i64 (L.frm : Int)) := cell_of_row _ _ _ _ _ _ hS.log.2
      have hrd : dkReadE D ((L.frm : Int) + (k : Int)) = 0 := by unfold dkReadE; rw [if_neg (by rw [HDN.out]; simp), if_pos (by omega)]
      have htx : dkRead D ((L.frm : Int) + (k : Int)) = ⟨(D.now.getD (L.frm + k) []).toArray⟩ := by
        unfold dkRead; rw [if_pos hrd, show ((L.frm : Int) + (k : Int)).toNat = L.frm + k by omega]
      have HRD := dkRead_any B g wr.drew D ((L.frm : Int) + (k : Int)) (hDr.drewN 1)
      rw [hrd, htx, show errV 0 = .nilIface from rfl] at HRD
      rw [lgTexts_drop D L k hlt, lgRead] at hR
      have hs80 : (⟨(D.now.getD (L.frm + k) []).toArray⟩ : ByteArray).size = 80 := by
        obtain ⟨ho, _⟩ := hD
        have : (D.now.getD (L.frm + k) []).length = 80 := by
          rw [List.getD_eq_getElem?_getD, List.getElem?_eq_getElem (by omega)]
          exact ho.now _ (List.getElem_mem _)
        simpa [ByteArray.size] using this
      generalize (⟨(D.now.getD (L.frm + k) []).toArray⟩ : ByteArray) = s at *
      have a1 : IntKind.i64.wrap ((L.frm : Int) + (k : Int)) = (L.frm : Int) + (k : Int) := IntWalk.i64_in _ (by omega)
      have HRD' := Lib.hid HRD
      have hkd : L.first + k = ((L.first : Int) + (k : Int)).toNat := by omega
      have HCT := Lib.hid (fun w' (h : w'.cell? ⟨gl, 3, none⟩ = some (.int .i64 (L.first : Int))) => content_any w' gl (L.first : Int) (k : Int) s h (by omega) (by omega) (by omega) (by omega) hs80)
      rw [← hkd] at HCT
      have hbd : (ctBody (L.first + k) s).size ≤ 80 := by
        unfold ctBody; split
        · unfold ctText; simp; omega
        · simp [ByteArray.size]
      generalize ctKind (L.first + k) s = kd at *
      generalize ctBody (L.first + k) s = bd at *
      have HPA := Lib.hid (fun w' => rowParse_any bd w' (by unfold maxLen; omega))
      generalize parseE bd = pe at *
      generalize hpc : parseC bd = c at *
      clear HRD hrd htx hkd hDr hpc
      have i1 : (k : Int) < (L.many : Int) := by omega
      have HRR := Lib.hid hR
      clear hR
      go_wp2_with fail
      go_region_held3 (fun w' => w'.cell? ⟨gl, 0, none⟩ = some (.pointer (some ⟨g, 0, none⟩)) ∧ w'.cell? ⟨gl, 1, none⟩ = some (.int .i64 (L.frm : Int))) (first | exact ⟨c0, c1⟩)
        (first | ((with_reducible refine HRD'.out.mono ?_); rintro e w6 ⟨rfl, rfl⟩))
      have c3 : wr.drew.cell? ⟨gl, 3, none⟩ = some (.int .i64 (L.first : Int)) := cell_of_row _ _ _ _ _ _ hS.log.2
      go_wp2_with fail
      ((with_reducible refine (HCT.out _ c3).mono ?_); rintro e w7 ⟨rfl, hb7⟩)
      have hS7 := RdSt.below (hS.below (Below.refl _ _).drew) hb7
      clear HCT c3 hb7 c0 c1 hS HS
      go_wp2_with fail
      ((with_reducible refine (HPA.out _).mono ?_); rintro e w8 ⟨rfl, hb8⟩)
      have hS8 := hS7.below hb8
      have hS9 := hS8.below ((Below.refl _ _).alloc (Nat.le_refl _) (.cells (chArr c) 60))
      have hrow : (w8.alloc (.cells (chArr c) 60)).heap[w8.heap.size]? = some (.cells (chArr c) 60 (0, 0)) := heap_alloc_new _ _
      clear HPA hb8 hS7 hS8
      obtain ⟨gx, hgx⟩ : ∃ gx, w8.heap.size = gx := ⟨_, rfl⟩
      obtain ⟨w9, hw9⟩ : ∃ w9, w8.alloc (.cells (chArr c) 60) = w9 := ⟨_, rfl⟩
      rw [hw9] at hS9 hrow
      rw [hgx] at hrow
      have HW9 := Lib.hid (show w8.alloc (.cells #[.string c.key, .string c.val, .bool c.gone] 60) = w9 from hw9)
      have HGX := Lib.hid hgx
      clear hw9 hgx
      unfold chArr
      by_cases hA : kd = 111 ∧ pe = 0
      · have hR := HRR.out
        rw [if_pos hA] at hR
        obtain ⟨rfl, rfl⟩ := hA
        rw [show errV 0 = .nilIface from rfl]
        have HR := Lib.hid hR
        clear HRR hR
        go_upto_block 2 with (fail)
        rw [HW9.out, HGX.out]
        clear HW9 HGX
        obtain ⟨vA, vc, rfl⟩ := slice_form hS9.chg
        have d0 : w9.cell? ⟨gx, 0, none⟩ = some (.string c.key) := cell_of_row _ _ _ _ _ _ hrow
        have d1 : w9.cell? ⟨gx, 1, none⟩ = some (.string c.val) := cell_of_row _ _ _ _ _ _ hrow
        have d2 : w9.cell? ⟨gx, 2, none⟩ = some (.bool c.gone) := cell_of_row _ _ _ _ _ _ hrow
        have HCH := Lib.hid hS9.chg
        have hbs := Nat.le_trans (Nat.le_refl _) hS9.kept.size
        have FIN := Lib.hid (fun o w4 gg cap (h1 : World.grownBy (w9.alloc o) w4 (Value.slice vA cs.length vc).ownBlock) (h2 : w4.ownsRow w.heap.size 60 3 (.slice (some ⟨gg, 0, none⟩) (cs.length + 1) cap) (cs.length + 1) (chCells cs ++ [.string c.key, .string c.val, .bool c.gone])) (h3 : (Value.slice vA cs.length vc).ownBlock = some gg ∨ gg = w9.heap.size + 1) => hS9.add h1 h2 h3)
        clear hS9 hrow
        obtain ⟨key, val, gone⟩ := c
        simp only [] at d0 d1 d2 FIN HR
        go_wp2_with (at_builtin; (refine wpList_append_lies _ rfl _ _ 36 rfl w.heap.size 60 inf (.agg #[.string ByteArray.empty, .string ByteArray.empty, .bool false]) 3 40 Try.underlying36 HIN.out HZ0.out HZ1.out HZ2.out rfl (by decide) (.slice vA cs.length vc) cs.length (chCells cs) rfl (World.ownsRow.alloc HCH.out _) ⟨w9.heap.size, 0, none⟩ 1 1 [.string key, .string val, .bool gone] rfl rfl (World.news_of_block (cs := #[.string key, .string val, .bool gone]) (t := 60) (fr := (0, 0)) (heap_alloc_new w9 _)) (by simp [Value.oneCell']) (by omega) (by unfold maxLen; omega) (by omega) (by simp; omega) (w9.heap.size + 1) (by simp) ?_); intro gg cap w4 hO4 hg4 hat4 hlt4; have HF4 := Lib.hid (FIN.out _ w4 gg cap hg4 hO4 hat4); clear hO4 hg4 hat4)
        refine ⟨⟨k + 1, vs, cs ++ [⟨key, val, gone⟩], es, en, by omega, by go_num, HF4.out, HR.out, by simp; omega, by omega⟩, by simp [intOf]; omega⟩
      · by_cases hBB : kd = 99 ∧ bd.toList = lit cs.length 4
        · have hR := HRR.out
          rw [if_neg hA, if_pos hBB] at hR
          obtain ⟨rfl, hbl⟩ := hBB
          have HR := Lib.hid hR
          have HL4 := fun w' => little4 w' (cs.length : Int) (by omega)
          rw [Int.toNat_natCast] at HL4
          have hq : (bd.toList == (⟨(lit cs.length 4).toArray⟩ : ByteArray).toList) = true := by rw [hbl]; simp
          generalize (⟨(lit cs.length 4).toArray⟩ : ByteArray) = T4 at *
          have HL4' := Lib.hid HL4
          clear HRR hR HL4 hA hbl
          generalize hpv : errV pe = pv at *
          clear hpv
          go_upto_block 2 with (fail)
          rw [HW9.out, HGX.out]
          clear HW9 HGX hrow
          obtain ⟨vA, vc, rfl⟩ := slice_form hS9.chg
          go_wp2_with fail
          ((with_reducible refine (HL4'.out _).mono ?_); rintro e w10 ⟨rfl, hb10⟩)
          have hS10 := hS9.below hb10
          clear hS9 hb10 HL4'
          obtain ⟨uA, uc, rfl⟩ := slice_form hS10.ent
          have HEN := Lib.hid hS10.ent
          have hbs := hS10.kept.size
          have FIN := Lib.hid (fun o w4 gg cap (h1 : World.grownBy (w10.alloc o) w4 (Value.slice uA es.length uc).ownBlock) (h2 : w4.ownsRow w.heap.size 36 1 (.slice (some ⟨gg, 0, none⟩) (es.length + 1) cap) (es.length + 1) (vs ++ [.slice vA cs.length vc])) => RdSt.close (e' := k + 1) hS10 h1 h2)
          clear hS10
          go_wp2_with (at_builtin; (refine wpList_append_lies _ rfl _ _ 50 rfl w.heap.size 36 inf2 (.slice none 0 0) 1 24 Try.underlying50 HIN2.out HY0.out HY1.out HY2.out rfl (by decide) (.slice uA es.length uc) es.length vs rfl (World.ownsRow.alloc HEN.out _) ⟨w10.heap.size, 0, none⟩ 1 1 [.slice vA cs.length vc] rfl rfl (cell_one_new _ _ _) (by simp [Value.oneCell']) (by omega) (by unfold maxLen; omega) (by omega) (by simp; omega) (w10.heap.size + 1) (by simp) ?_); intro gg cap w4 hO4 hg4 hat4 hlt4; obtain ⟨f1, f2, f3⟩ := FIN.out _ w4 gg cap hg4 hO4; have HF4 := Lib.hid f3; clear hO4 hg4 hat4 f3)
          have HF5 := HF4.out
          rw [show ((k + 1 : Nat) : Int) = (k : Int) + 1 by omega] at HF5
          refine ⟨⟨k + 1, vs ++ [.slice vA cs.length vc], [], es ++ [cs], k + 1, by omega, by go_num, HF5, HR.out, by simp, by simp; omega⟩, by simp [intOf]; omega⟩
        · have hR := HRR.out
          rw [if_neg hA, if_neg hBB] at hR
          subst hR
          by_cases h111 : kd = 111
          · subst h111
            have hpe : ¬ pe = 0 := fun h => hA ⟨rfl, h⟩
            have hne : errV pe = .iface 64 (.int .i64 pe) := by unfold errV; rw [if_neg hpe]
            rw [hne]
            clear hne hpe hA hBB HRR
            go_upto_block 2 with (fail)
            rw [HW9.out, HGX.out]
            clear HW9 HGX hrow
            have HS9 := Lib.hid hS9
            clear hS9
            go_wp2
            go_ret2
            exact HS9.out.ret
          · have h111' : (kd == 111) = false := by simpa using h111
            generalize errV pe = pv at *
            by_cases h99 : kd = 99
            · subst h99
              have HL4 := fun w' => little4 w' (cs.length : Int) (by omega)
              rw [Int.toNat_natCast] at HL4
              have hq : (bd.toList == (⟨(lit cs.length 4).toArray⟩ : ByteArray).toList) = false := by
                have : ¬ bd.toList = lit cs.length 4 := fun h => hBB ⟨rfl, h⟩
                simpa using this
              generalize (⟨(lit cs.length 4).toArray⟩ : ByteArray) = T4 at *
              have HL4' := Lib.hid HL4
              clear HL4 hA hBB HRR h111
              go_upto_block 2 with (fail)
              rw [HW9.out, HGX.out]
              clear HW9 HGX hrow
              obtain ⟨vA, vc, rfl⟩ := slice_form hS9.chg
              go_wp2_with fail
              ((with_reducible refine (HL4'.out _).mono ?_); rintro e w10 ⟨rfl, hb10⟩)
              have HS10 := Lib.hid (hS9.below hb10)
              clear hS9 hb10 HL4'
              go_wp2
              go_ret2
              exact HS10.out.ret
            · have h99' : (kd == 99) = false := by simpa using h99
              clear hA hBB HRR h111 h99
              go_upto_block 2 with (fail)
              rw [HW9.out, HGX.out]
              clear HW9 HGX hrow
              have HS9 := Lib.hid hS9
              clear hS9
              go_wp2
              go_ret2
              exact HS9.out.ret
    · have hend : lgRead L.first ((lgTexts D L).drop k) k cs es en = (es, en) := by rw [List.drop_eq_nil_of_le (by simp [lgTexts]; omega)]; rfl
      rw [hend] at hR
      subst hR
      clear hS hend
      go_wp2
      go_ret2
      exact HS.out.ret
end Go.Proofs.Ythhedahfmllnoaa
