/- TopSpoilt: the walk. -/
import Derived.Test.YtlgahdabhnhjgaaGreatDoorZqFill
import Derived.Test.YtlgahdabhnhjgaaGreatDoorZqApR
import Derived.Test.YtlgahdabhnhjgaaGreatDoorZqRr4
import Derived.Test.YtlgahdabhnhjgaaGreatDoorZqAppC
import Derived.Deep.DeepCutAuto
import Derived.Deep.CutBlock
namespace Go.Proofs.YtlgahdabhnhjgaaGreatDoor
open Go.RowKit Go.Maps

theorem andTs (x : Int) : ∃ m : Nat, bits .and .i64 x 1023 = (m : Int) := by
  have e : bits .and .i64 x 1023 = IntKind.i64.wrap ((BitVec.ofInt 64 x &&& BitVec.ofInt 64 1023).toNat : Int) := rfl
  have h : (BitVec.ofInt 64 x &&& BitVec.ofInt 64 1023).toNat ≤ 1023 := by
    rw [BitVec.toNat_and]
    exact Nat.and_le_right
  exact ⟨_, by rw [e, IntWalk.i64_in _ (by omega)]⟩
theorem retNone2 {w : World} {l : List Int} {e : Ending} {w' : World} (h : RetInts w l e w') (hl : l = []) : ∃ A c, e = .returned (.slice A 0 c) ∧ Below w.heap.size w w' := by
  subst hl
  obtain ⟨v, rfl, hO, hb⟩ := h
  obtain ⟨A, c, rfl, _⟩ := hO.at_
  exact ⟨A, c, rfl, hb⟩
theorem turn_set (w : World) (g i : Nat) (u : Value) : Turn [g] w (w.setCell ⟨g, i, none⟩ u) :=
  ⟨rfl, rfl, rfl, by simp, fun k _ hn => Below.heap_setCell _ _ _ _ (by simpa using hn)⟩
theorem rowsM_pos (V : VauM) : 0 < (rowsM V).length := by unfold rowsM; simp; omega

set_option maxHeartbeats 4000000 in
set_option maxRecDepth 100000 in
theorem topSpoilt_walk (A : Option Addr) (cA : Nat) (l : List ActM) (c : Ch) (at_ : Int) (gone : Bool) (w : World) (hA : ActsAt w w.heap.size A l) (hk : c.key.size ≤ maxLen) (hv : c.val.size ≤ maxLen) (htab : Tab w) (herr : Errs w) :
    Calls Tryz.prog 5 #[.slice A l.length cA, .agg (chArr c), .int .i64 at_, .bool gone] w fun e w' => e = .returned (.bool true) ∧ Below w.heap.size w w' := by
  have HL3 := Lib.hid (fun w' N (h : w'.heap[N]? = some (.cells (chArr c) 49 (0, 0))) => lightChsS_any (some ⟨N, 0, none⟩) [c] 1 1 w' (by unfold maxLen; simp) (fun i hi => by
    obtain rfl : i = 0 := by simp at hi; omega
    exact ⟨N, 0, rfl, (Array.getElem?_eq_some_iff.1 h).1, cell_of_row _ _ _ _ _ _ h, cell_of_row _ _ _ _ _ _ h, cell_of_row _ _ _ _ _ _ h, hk, hv⟩))
  rw [show chArr c = #[.string c.key, .string c.val, .bool c.gone] from rfl] at HL3 ⊢
  obtain ⟨key, val, gn⟩ := c
  simp only [List.length_cons, List.length_nil, Nat.zero_add] at HL3
  have hszw : w.heap.size < (w.alloc (.cells #[.string key, .string val, .bool gn] 49)).heap.size := by simp
  have hrow0 : (w.alloc (.cells #[.string key, .string val, .bool gn] 49)).heap[w.heap.size]? = some (.cells #[.string key, .string val, .bool gn] 49 (0, 0)) := heap_alloc_new _ _
  have hb0 : Below w.heap.size w (w.alloc (.cells #[.string key, .string val, .bool gn] 49)) := (Below.refl _ _).alloc (Nat.le_refl _) _
  have HA := Lib.hid (fun w' (h : Below w.heap.size w w') => hA.below h)
  have HT := Lib.hid (fun w' (hb : Below w.heap.size w w') => htab.below hb)
  have HE := Lib.hid (fun w' (hb : Below w.heap.size w w') => herr.below hb)
  have HROW0 := Lib.hid hrow0
  have HSZ0 := Lib.hid hszw
  have HB0 := Lib.hid hb0
  clear hk hv hrow0 hszw hb0 htab herr hA
  go_enter Tryz.func5, Tryz.ntmps5
  go_wp2_with fail
  ((with_reducible refine (vaulted_any _).mono ?_); rintro e w1 ⟨rfl, hb1⟩)
  have hB1 : Below w.heap.size w w1 := HB0.out.trans (hb1.mono (Nat.le_of_lt HSZ0.out))
  have hr1 : w1.heap[w.heap.size]? = some (.cells #[.string key, .string val, .bool gn] 49 (0, 0)) := (hb1.block _ HSZ0.out).trans HROW0.out
  have hA1 := HA.out _ hB1
  clear hb1 HROW0 HB0
  go_wp2_with fail
  ((with_reducible refine (filled_any _ _ _ _ hA1).mono ?_); rintro e w2 hret)
  rcases hret with ⟨rfl, hb2⟩ | ⟨u, V, rfl, hu, hV, hsh, hsm, hfl, hb2⟩
  · replace hb2 := belowThen hB1 hb2
    go_wp2
    go_ret
    exact ⟨rfl, hb2⟩
  have hB2 := belowThen hB1 hb2
  have hr2 := (hb2.block _ (Array.getElem?_eq_some_iff.1 hr1).1).trans hr1
  have HR2 := Lib.hid hr2
  have c0 : w2.cell? ⟨w.heap.size, 0, none⟩ = some (.string key) := cell_of_row _ _ _ _ _ _ hr2
  have c1 : w2.cell? ⟨w.heap.size, 1, none⟩ = some (.string val) := cell_of_row _ _ _ _ _ _ hr2
  have c2 : w2.cell? ⟨w.heap.size, 2, none⟩ = some (.bool gn) := cell_of_row _ _ _ _ _ _ hr2
  clear hA1 hB1 hr1 hb2 hr2
  go_wp2_with fail
  ((with_reducible refine (HL3.out _ _ (heap_alloc_new _ _)).mono ?_); rintro e w3 ⟨r, rfl, hr, hb3⟩)
  replace hb3 : Below w2.heap.size w2 w3 := belowThen ((Below.refl _ _).alloc (Nat.le_refl _) _) hb3
  have hB3 := belowThen hB2 hb3
  clear HL3 c0 c1 c2
  cases r with
  | false =>
    go_wp2
    go_ret
    exact ⟨rfl, hB3⟩
  | true =>
  have HSZ := Lib.hid (show key.size ≤ 20 ∧ val.size ≤ 60 from (hr rfl).2 ⟨key, val, gn⟩ (by simp))
  obtain ⟨x, gp, bp, bn, B, lv, h⟩ := hu
  obtain ⟨R, hR⟩ : ∃ R, rowsM V = R := ⟨_, rfl⟩
  have hgood := good_own hV hfl hsm hsh
  have h100 := rowsM_100 hV.ok0 hsm
  have hlen := (rowsM_small hV.ok0 hsm).2
  have hpos := rowsM_pos V
  have hsort : SortedCh (rowsM V) := rows_inc hV
  have HR1 := Lib.hid (rows_any w3 u x gp bp bn B lv V (h.below hb3) hV.ok0 hsm (HT.out _ hB3))
  rw [hR] at h100 hlen hpos hsort HR1
  have HR3 := Lib.hid ((hb3.block _ (Array.getElem?_eq_some_iff.1 HR2.out).1).trans HR2.out)
  have HLT3 := Lib.hid (Array.getElem?_eq_some_iff.1 HR3.out).1
  clear hr h hV hsh hsm hfl hR hgood hB2 hb3 HR2
  go_wp2_with fail
  ((with_reducible refine HR1.out.mono ?_); rintro e w4 ⟨C1, c1, rfl, hO4, hb4⟩)
  clear HR1
  have hB4 := belowThen hB3 hb4
  have hr4 : w4.heap[w.heap.size]? = some (.cells #[.string key, .string val, .bool gn] 49 (0, 0)) := (hb4.block _ HLT3.out).trans HR3.out
  obtain ⟨m, hm⟩ := andTs at_
  obtain ⟨n, hn⟩ : ∃ n, R.length = n := ⟨_, rfl⟩
  rw [hn] at hO4 hlen hpos ⊢
  obtain ⟨q, hq⟩ : ∃ q, m % n = q := ⟨_, rfl⟩
  have hqn : q < n := by rw [← hq]; exact Nat.mod_lt _ hpos
  have hqi : (m : Int) % (n : Int) = (q : Int) := by rw [← hq]; simp
  have hn0 : ¬ ((n : Int) = 0) := by omega
  obtain ⟨b10, hb10⟩ : ∃ b, bits .and .i64 at_ 1024 = b := ⟨_, rfl⟩
  have k0 : w4.cell? ⟨w.heap.size, 0, none⟩ = some (.string key) := cell_of_row _ _ _ _ _ _ hr4
  have k1 : w4.cell? ⟨w.heap.size, 1, none⟩ = some (.string val) := cell_of_row _ _ _ _ _ _ hr4
  have k2 : w4.cell? ⟨w.heap.size, 2, none⟩ = some (.bool gn) := cell_of_row _ _ _ _ _ _ hr4
  have fk4 : w4.frozen? ⟨w.heap.size, 2, none⟩ = false := frozen_of_row _ _ _ _ _ hr4
  have hr5 : (w4.setCell ⟨w.heap.size, 2, none⟩ (.bool false)).heap[w.heap.size]? = some (.cells #[.string key, .string val, .bool false] 49 (0, 0)) := heap_setCell_same w4 w.heap.size 2 _ _ (.bool false) hr4
  have HX := Lib.hid (fun w' (ht : Turn [w.heap.size] w4 w') => show w'.ownsRow w3.heap.size 49 3 (.slice C1 n c1) n (chCells R) from ownsRow_keep hO4 fun b hb => ht.block b (World.ownsRow.lt hO4 b hb).2 (by have h1 := (World.ownsRow.lt hO4 b hb).1; have h2 := HLT3.out; simp; omega))
  have H100 := Lib.hid h100
  have HCH := Lib.hid (fun w' (ht : Turn [w.heap.size] w4 w') => chs_own (HX.out w' ht) fun x hx => ⟨by have := (H100.out x hx).1; unfold maxLen; omega, by have := (H100.out x hx).2; unfold maxLen; omega⟩)
  have ht5 : Turn [w.heap.size] w4 (w4.setCell ⟨w.heap.size, 2, none⟩ (.bool false)) := turn_set _ _ _ _
  have i1 : (q : Int) < (n : Int) := by omega
  have i0 : (0 : Int) ≤ (q : Int) := by omega
  clear hO4 h100 HR3 HLT3 hb4
  go_upto_if 47 with (fail)
  rw [hqi]
  clear hr4 k0 k1 k2 fk4
  obtain ⟨w5, hw5⟩ : ∃ w5, w4.setCell ⟨w.heap.size, 2, none⟩ (.bool false) = w5 := ⟨_, rfl⟩
  rw [hw5] at hr5 ht5 ⊢
  go_cut [] (fun wx => ∃ ky : ByteArray, ky.size ≤ 100 ∧ wx.heap[w.heap.size]? = some (.cells #[.string ky, .string val, .bool false] 49 (0, 0)) ∧ Turn [w.heap.size] w4 wx)
  case first =>
    cases hb1 : (b10 != 0) with
    | false =>
      go_wp2
      go_meet
      exact ⟨key, by have := HSZ.out.1; omega, hr5, ht5⟩
    | true =>
      obtain ⟨b, off, rfl, _, d0, _, _⟩ := HCH.out _ ht5 q (by omega)
      have hz := (H100.out R[q] (List.getElem_mem _)).1
      generalize R[q].key = rk at d0 hz
      have f0 : w5.frozen? ⟨w.heap.size, 0, none⟩ = false := frozen_of_row _ _ _ _ _ hr5
      have c0 : w5.cell? ⟨w.heap.size, 0, none⟩ = some (.string key) := cell_of_row _ _ _ _ _ _ hr5
      have hr6 : (w5.setCell ⟨w.heap.size, 0, none⟩ (.string rk)).heap[w.heap.size]? = some (.cells #[.string rk, .string val, .bool false] 49 (0, 0)) := heap_setCell_same w5 w.heap.size 0 _ _ (.string rk) hr5
      have HM := Lib.hid (show Turn [w.heap.size] w4 (w5.setCell ⟨w.heap.size, 0, none⟩ (.string rk)) ∧ rk.size ≤ 100 from ⟨ht5.trans (turn_set _ _ _ _), hz⟩)
      have HR6 := Lib.hid hr6
      clear hr5 hr6 ht5 hz
      go_wp2
      go_meet
      exact ⟨rk, HM.out.2, HR6.out, HM.out.1⟩
  case rest =>
    clear hr5 ht5
    obtain ⟨ky, hky, hrc, htc⟩ := hcut
    go_upto_if 54 with (fail)
    go_cut [] (fun wx => ∃ (ky vl : ByteArray) (gg : Bool), ky.size ≤ 100 ∧ vl.size ≤ 60 ∧ wx.heap[w.heap.size]? = some (.cells #[.string ky, .string vl, .bool gg] 49 (0, 0)) ∧ Turn [w.heap.size] w4 wx)
    case first =>
      cases gone with
      | false =>
        go_wp2
        go_meet
        exact ⟨ky, val, false, hky, HSZ.out.2, hrc, htc⟩
      | true =>
        obtain ⟨b, off, rfl, _, d0, _, _⟩ := HCH.out _ htc q (by omega)
        have hz := (H100.out R[q] (List.getElem_mem _)).1
        generalize R[q].key = rk at d0 hz
        have f0 : wc.frozen? ⟨w.heap.size, 0, none⟩ = false := frozen_of_row _ _ _ _ _ hrc
        have f1 : wc.frozen? ⟨w.heap.size, 1, none⟩ = false := frozen_of_row _ _ _ _ _ hrc
        have f2 : wc.frozen? ⟨w.heap.size, 2, none⟩ = false := frozen_of_row _ _ _ _ _ hrc
        have c0 : wc.cell? ⟨w.heap.size, 0, none⟩ = some (.string ky) := cell_of_row _ _ _ _ _ _ hrc
        have c1 : wc.cell? ⟨w.heap.size, 1, none⟩ = some (.string val) := cell_of_row _ _ _ _ _ _ hrc
        have c2 : wc.cell? ⟨w.heap.size, 2, none⟩ = some (.bool false) := cell_of_row _ _ _ _ _ _ hrc
        have e1 : (wc.setCell ⟨w.heap.size, 0, none⟩ (.string rk)).heap[w.heap.size]? = some (.cells #[.string rk, .string val, .bool false] 49 (0, 0)) := heap_setCell_same wc w.heap.size 0 _ _ (.string rk) hrc
        have e2 : ((wc.setCell ⟨w.heap.size, 0, none⟩ (.string rk)).setCell ⟨w.heap.size, 1, none⟩ (.string ByteArray.empty)).heap[w.heap.size]? = some (.cells #[.string rk, .string ByteArray.empty, .bool false] 49 (0, 0)) := heap_setCell_same _ w.heap.size 1 _ _ (.string ByteArray.empty) e1
        have e3 : (((wc.setCell ⟨w.heap.size, 0, none⟩ (.string rk)).setCell ⟨w.heap.size, 1, none⟩ (.string ByteArray.empty)).setCell ⟨w.heap.size, 2, none⟩ (.bool true)).heap[w.heap.size]? = some (.cells #[.string rk, .string ByteArray.empty, .bool true] 49 (0, 0)) := heap_setCell_same _ w.heap.size 2 _ _ (.bool true) e2
        have HM := Lib.hid (show rk.size ≤ 100 ∧ ByteArray.empty.size ≤ 60 ∧ (((wc.setCell ⟨w.heap.size, 0, none⟩ (.string rk)).setCell ⟨w.heap.size, 1, none⟩ (.string ByteArray.empty)).setCell ⟨w.heap.size, 2, none⟩ (.bool true)).heap[w.heap.size]? = some (.cells #[.string rk, .string ByteArray.empty, .bool true] 49 (0, 0)) ∧ Turn [w.heap.size] w4 (((wc.setCell ⟨w.heap.size, 0, none⟩ (.string rk)).setCell ⟨w.heap.size, 1, none⟩ (.string ByteArray.empty)).setCell ⟨w.heap.size, 2, none⟩ (.bool true)) from ⟨hz, by simp, e3, ((htc.trans (turn_set _ _ _ _)).trans (turn_set _ _ _ _)).trans (turn_set _ _ _ _)⟩)
        clear hz hrc htc e1 e2 e3
        go_wp2
        go_meet
        exact ⟨rk, ByteArray.empty, true, HM.out⟩
    case rest =>
      clear hrc htc hky
      obtain ⟨kc, vc, gc, hkc, hvc, hrc, htc⟩ := hcut
      have hBc : Below w.heap.size w wc := hB4.trans (htc.below hB4.size (by simp))
      have ha := (Below.refl wc.heap.size wc).alloc (Nat.le_refl _) (.cells #[.string kc, .string vc, .bool gc] 49)
      have hnw := heap_alloc_new wc (.cells #[.string kc, .string vc, .bool gc] 49)
      have hone : ChsAt (wc.alloc (.cells #[.string kc, .string vc, .bool gc] 49)) (some ⟨wc.heap.size, 0, none⟩) [⟨kc, vc, gc⟩] := fun i hi => by
        obtain rfl : i = 0 := by simp at hi; omega
        exact ⟨wc.heap.size, 0, rfl, (Array.getElem?_eq_some_iff.1 hnw).1, cell_of_row _ _ _ _ _ _ hnw, cell_of_row _ _ _ _ _ _ hnw, cell_of_row _ _ _ _ _ _ hnw, by simp only [List.getElem_cons_zero]; unfold maxLen; omega, by simp only [List.getElem_cons_zero]; unfold maxLen; omega⟩
      have hsome : C1 = none → c1 = 0 := fun h0 => by
        obtain ⟨b, off, e, _⟩ := HCH.out _ htc q (by omega)
        rw [h0] at e
        cases e
      have hap := applied_any _ C1 c1 R (some ⟨wc.heap.size, 0, none⟩) 1 [⟨kc, vc, gc⟩] ((HCH.out _ htc).below ha) hsome hone (by omega) (by simp) hsort
      have hYl := apAll_len [⟨kc, vc, gc⟩] R
      have hYm : ∀ x ∈ apAll R [⟨kc, vc, gc⟩], x.key.size ≤ 100 ∧ x.val.size ≤ 100 := fun x hx => by
        rcases apAll_mem hx with h | h
        · exact H100.out x h
        · simp only [List.mem_cons, List.not_mem_nil, or_false] at h
          subst h
          exact ⟨hkc, by show vc.size ≤ 100; omega⟩
      unfold ApplyRet at hap
      obtain ⟨Y, hY⟩ : ∃ Y, apAll R [⟨kc, vc, gc⟩] = Y := ⟨_, rfl⟩
      rw [hY] at hap hYl hYm
      rw [hn] at hap hYl
      simp only [List.length_cons, List.length_nil, Nat.zero_add] at hap hYl
      have HAP := Lib.hid hap
      have HYM := Lib.hid hYm
      have HBC := Lib.hid (belowThen hBc ha)
      have k0 : wc.cell? ⟨w.heap.size, 0, none⟩ = some (.string kc) := cell_of_row _ _ _ _ _ _ hrc
      have k1 : wc.cell? ⟨w.heap.size, 1, none⟩ = some (.string vc) := cell_of_row _ _ _ _ _ _ hrc
      have k2 : wc.cell? ⟨w.heap.size, 2, none⟩ = some (.bool gc) := cell_of_row _ _ _ _ _ _ hrc
      clear hap hYm hBc ha hnw hone hsome hrc htc hsort HX HCH H100 hY
      go_wp2_with fail
      ((with_reducible refine HAP.out.mono ?_); rintro e w5 ⟨CY, cY, rfl, hOY, hb5⟩)
      have hB5 := belowThen HBC.out hb5
      have hcY := chs_own hOY fun x hx => ⟨by have := (HYM.out x hx).1; unfold maxLen; omega, by have := (HYM.out x hx).2; unfold maxLen; omega⟩
      have HP := Lib.hid (parse_any w5 CY cY Y hcY (by omega) (fun r hr => by have := (HYM.out r hr).2; omega) (HE.out _ hB5) (HT.out _ hB5))
      have HCY := Lib.hid hcY
      have HB5 := Lib.hid hB5
      clear hcY hOY hb5 hB5 k0 k1 k2 HAP
      go_wp2_with fail
      ((with_reducible refine HP.out.mono ?_); rintro e w6 ⟨hpr, hb6⟩)
      clear HP
      rcases hpr with ⟨hgd, v, x', gp', bp', bn', lv', rfl, hy, hfy⟩ | ⟨_, rfl⟩
      case inr =>
        have hB6 := belowThen HB5.out hb6
        go_wp2
        go_ret
        exact ⟨rfl, hB6⟩
      obtain ⟨VP, hVP⟩ : ∃ VP, toV (readAll Y) = VP := ⟨_, rfl⟩
      have hgo := good_ok hgd
      rw [hVP] at hy hgo
      obtain ⟨hok, _, hsm, _, hrow⟩ := hgo
      have hB6 := belowThen HB5.out hb6
      have HR2 := Lib.hid (rows_chs w6 v x' gp' bp' bn' _ lv' VP hy hok.ok0 hsm (HT.out _ hB6) Y hrow)
      have HY6 := Lib.hid hy
      have HOK := Lib.hid hok
      have HF := Lib.hid hfy
      have HB6 := Lib.hid hb6
      have HCY6 := Lib.hid (HCY.out.below hb6)
      clear hy hok hfy hsm hrow hgd hb6 hB6 hVP HCY HT HE HA
      go_wp2_with fail
      ((with_reducible refine HR2.out.mono ?_); rintro e w7 ⟨C2, c2, rfl, _, hC2, hb7⟩)
      have hsc := sameChs_any w7 C2 CY c2 cY Y Y hC2 (HCY6.out.below hb7) (by omega)
      rw [show decide (Y = Y) = true from by simp] at hsc
      have HSC := Lib.hid hsc
      clear hsc hC2 HR2 HCY6
      go_wp2_with fail
      ((with_reducible refine HSC.out.mono ?_); rintro e w8 ⟨rfl, hb8⟩)
      have hb68 := belowThen hb7 hb8
      have hy8 := HY6.out.below hb68
      have HB8 := Lib.hid (belowThen HB6.out hb68)
      have HY8 := Lib.hid hy8
      obtain ⟨np, hnp⟩ : ∃ n, VP.L.length = n := ⟨_, rfl⟩
      have hn6 : np ≤ 6 := by rw [← hnp]; exact HOK.out.len
      obtain ⟨A0, k0, hlv0⟩ := slice_form hy8.pts
      have hpt8 := hy8.pts
      have d1 := hy8.cell1
      rw [hnp] at hlv0 hpt8
      rw [hlv0] at hpt8 d1
      have HPT8 := Lib.hid hpt8
      obtain ⟨i0, hi, hz0, hz1, hz2⟩ := info_parts Tryz.infoPt
      have HNP := Lib.hid hnp
      have HLV0 := Lib.hid hlv0
      clear hb7 hb8 hb68 hy8 HSC HB6 HY6 hpt8 hnp hlv0
      go_wp2_with (at_builtin; refine wpList_append_copy rfl _ _ 55 rfl 60 i0 _ 4 32 Tryz.underlying55 hi hz0 hz1 hz2 rfl (by decide) rfl w5.heap.size np (.slice A0 np k0) (pCells VP.L) rfl HPT8.out (pCells_one _) (by unfold maxLen; omega) (by omega) ?_; intro PA pc w9 hOP hb9)
      clear d1 hi hz0 hz1 hz2
      have HPT := Lib.hid (fun (wr : World) (hO : wr.ownsRow w8.heap.size 60 4 (.slice PA np pc) np (pCells VP.L)) (k : Nat) (hk : k < VP.L.length) => show ∃ g, PA = some ⟨g, 0, none⟩ ∧ wr.cell? ⟨g, k * 4, none⟩ = some (.int .i64 (VP.L[k].id : Int)) from by
        have hnp := HNP.out
        have ho := hO
        rcases hO.2 with ⟨_, h0⟩ | ⟨g, cap, cur, e, _⟩
        · omega
        · injection e with e1 e2 e3
          subst e1 e3
          refine ⟨g, rfl, ?_⟩
          have := ho.cellAt (k * 4) (by omega)
          rw [this, show k * 4 = k * 4 + 0 from rfl, pCells_at _ _ _ hk (by omega)]
          rfl)
      have HV9 := Lib.hid (fun wr (hb : Below w9.heap.size w9 wr) => HY8.out.below (belowThen hb9 hb))
      have HO9 := Lib.hid (fun wr (hb : Below w9.heap.size w9 wr) => ownsRow_keep hOP fun b hb' => hb.block b (World.ownsRow.lt hOP b hb').2)
      have HB9 := Lib.hid (belowThen HB8.out hb9)
      have HLT := Lib.hid (show (∀ b, (Value.slice PA np pc).ownBlock = some b → w8.heap.size ≤ b) from fun b hb => (World.ownsRow.lt hOP b hb).1)
      clear hOP hb9 HB8 HPT8
      go_wp2_with fail
      go_loopw [17] (fun i wr => ∃ k : Nat, k ≤ np ∧ i = .int .i64 k ∧ Below w9.heap.size w9 wr) (fun i _ => np - (intOf i).toNat)
      case atStart => exact ⟨0, Nat.zero_le _, rfl, Below.refl _ _⟩
      case round =>
        obtain ⟨k, hk, rfl, hb⟩ := hrel
        by_cases hlt : k < np
        · have hkl : k < VP.L.length := by have := HNP.out; omega
          obtain ⟨g, rfl, p0⟩ := HPT.out wr (HO9.out wr hb) k hkl
          obtain ⟨p, hp⟩ : ∃ p, VP.L[k] = p := ⟨_, rfl⟩
          have HBL := Lib.hid (blocks_yes wr v VP VP.L[k].id ⟨_, _, _, _, _, _, HV9.out wr hb⟩ HOK.out k (placeOf_at HOK.out.inc hkl) _ rfl)
          rw [hp] at p0 HBL
          have HBR := Lib.hid hb
          have j1 : (k : Int) < (np : Int) := by omega
          clear hp hb
          go_wp2_with fail
          ((with_reducible refine HBL.out.mono ?_); rintro e w10 ⟨tv, rfl, _, hb10⟩)
          have HB10 := Lib.hid (belowThen HBR.out hb10)
          clear hb10 p0
          go_wp2
          go_roundw
          case rel => exact ⟨k + 1, hlt, by go_num, HB10.out⟩
          case measure => simp [intOf]; omega
        · obtain rfl : k = np := by omega
          have hV := HV9.out wr hb
          have hO := HO9.out wr hb
          have HBR := Lib.hid (belowThen HB9.out hb)
          clear hb HB9 HV9 HO9
          have HOLD := Lib.hid (show v < w8.heap.size ∧ bp' < w8.heap.size ∧ bn' < w8.heap.size ∧ (∀ b, (Value.slice A0 k k0).ownBlock = some b → b < w8.heap.size) from ⟨HY8.out.lt, HY8.out.idx.pool.ltb, HY8.out.idx.ltn, fun b hb => by
            have hp := HY8.out.pts
            have hc := HY8.out.cell1
            rw [HLV0.out] at hp
            exact (World.ownsRow.lt hp b hb).2⟩)
          have HV0 := Lib.hid hV
          have HO0 := Lib.hid hO
          obtain ⟨wz, hwz⟩ : ∃ wz, wz = wr := ⟨_, rfl⟩
          subst hwz
          clear hV hO
          go_wp2_with fail
          go_loopw [20] (fun i wr => ∃ (j : Nat) (W : VauM) (lvk : Value), j ≤ k ∧ i = .int .i64 j ∧ VauAt wr v x' gp' bp' bn' w5.heap.size lvk W ∧ W.Ok ∧ Hid (W.L = VP.L.drop j) ∧ wr.ownsRow w8.heap.size 60 4 (.slice PA k pc) k (pCells VP.L) ∧ Hid (∀ b, lvk.ownBlock = some b → ¬ (Value.slice PA k pc).ownBlock = some b) ∧ Below w5.heap.size w5 wr) (fun i _ => k - (intOf i).toNat)
          case atStart => exact ⟨0, VP, .slice A0 k k0, Nat.zero_le _, rfl, by have := HV0.out; rw [HLV0.out] at this; exact this, HOK.out, Lib.hid rfl, HO0.out, Lib.hid (fun b hb hb' => by have := HOLD.out.2.2.2 b hb; have := HLT.out b hb'; omega), HBR.out⟩
          case round =>
            clear HV0 HO0 HBR
            obtain ⟨j, W, lvk, hj, rfl, hW, hWok, HD, hO, HNE, hb⟩ := hrel
            by_cases hlt2 : j < k
            · have hkl : j < VP.L.length := by have := HNP.out; omega
              obtain ⟨g, rfl, p0⟩ := HPT.out wr hO j hkl
              obtain ⟨p, hp⟩ : ∃ p, VP.L[j] = p := ⟨_, rfl⟩
              have hdr : W.L = p :: VP.L.drop (j + 1) := by rw [HD.out, List.drop_eq_getElem_cons hkl, hp]
              rw [hp] at p0
              obtain ⟨he, hok2, hl2⟩ := drop_first hWok hdr
              have HDR := Lib.hid (drop_any wr v x' gp' bp' bn' _ lvk W _ p.id hW hWok 0 he rfl)
              have HOK2 := Lib.hid hok2
              have HL := Lib.hid hl2
              have HWW := Lib.hid hW
              have HBR := Lib.hid hb
              have HO := Lib.hid hO
              have j1 : (j : Int) < (k : Int) := by omega
              clear hp hdr he hok2 hl2 hWok hW hb hO
              go_wp2_with fail
              ((with_reducible refine HDR.out.mono ?_); rintro e w9 hret)
              have hb9 := ret_below HWW.out HF.out (Nat.le_refl _) HBR.out hret
              obtain ⟨rfl, hv, ht⟩ := hret
              obtain ⟨lv9, h9, l9⟩ := hv rfl
              have hO9 := ownsRow_keep HO.out fun b hb => ht.block b (World.ownsRow.lt HO.out b hb).2 (fun hm => by
                have h0 := HOLD.out
                have h1 := HLT.out b hb
                simp only [vbs, List.mem_cons, Option.mem_toList] at hm
                rcases hm with rfl | rfl | rfl | hm
                · omega
                · omega
                · omega
                · exact HNE.out b hm hb)
              have HNE9 := Lib.hid (show ∀ b, lv9.ownBlock = some b → ¬ (Value.slice (some ⟨g, 0, none⟩) k pc).ownBlock = some b from fun b hb hb' => (l9 b hb).elim (fun h => HNE.out b h hb') (fun h => by have := (World.ownsRow.lt HO.out b hb').2; omega))
              have hv0 : errV 0 = .nilIface := rfl
              rw [hv0]
              have H9 := Lib.hid h9
              have HB9 := Lib.hid hb9
              have HO9 := Lib.hid hO9
              clear hv hv0 h9 hb9 HDR ht l9 hO9 p0
              go_wp2
              go_roundw
              case rel => exact ⟨j + 1, _, lv9, hlt2, by go_num, H9.out, HOK2.out, HL.out, HO9.out, HNE9, HB9.out⟩
              case measure => simp [intOf]; omega
            · obtain rfl : j = k := by omega
              have hWL : W.L = [] := by rw [HD.out, List.drop_eq_nil_iff]; have := HNP.out; omega
              obtain ⟨hn1, hn2⟩ := nothing hWok hWL
              have HBR := Lib.hid (belowThen HB5.out hb)
              have HKS := Lib.hid (fun w' (hb' : Below wr.heap.size wr w') => show w'.cell? ⟨v, 0, none⟩ = some (.pointer (some ⟨x', 0, none⟩)) ∧ w'.cell? ⟨x', 0, none⟩ = some (.pointer (some ⟨gp', 0, none⟩)) from ⟨(hW.below hb').cell0, (hW.below hb').idx.cell0⟩)
              have HNP2 := Lib.hid (fun w' (hb' : Below wr.heap.size wr w') => (poolNumbers_any gp' bp' 1000 w' W.X.P (hW.below hb').idx.pool).mono fun e w'' he => retNone2 he hn1)
              have HNN := Lib.hid (fun w' (hb' : Below wr.heap.size wr w') => (idxNumbers_any w' x' gp' bp' bn' 1000 W.X (hW.below hb').idx).mono fun e w'' he => retNone2 he hn2)
              have hS0 := HKS.out wr (Below.refl _ _)
              clear hW hWok hWL hn1 hn2 hO hb
              go_wp2_with fail
              ((with_reducible refine (HNN.out _ (Below.refl _ _)).mono ?_); rintro e w10 ⟨A10, c10, rfl, hb10⟩)
              have hS1 := HKS.out _ hb10
              clear hS0
              go_wp2_with fail
              ((with_reducible refine (HNP2.out _ hb10).mono ?_); rintro e w11 ⟨A11, c11, rfl, hb11⟩)
              have HB11 := Lib.hid (belowThen HBR.out (belowThen hb10 hb11))
              clear hS1 hb10 hb11
              go_wp2
              go_ret
              exact ⟨rfl, HB11.out⟩
end Go.Proofs.YtlgahdabhnhjgaaGreatDoor
