/- TopDisk: the walk. -/
import Derived.Test.YtimbdomkpdmehaaCalm
import Derived.Test.YtimbdomkpdmehaaLight
namespace Go.Proofs.Ytimbdomkpdmehaa
open Go.RowKit

def w4Arr (t : Nat → ByteArray) : Array Value := #[.string (t 0), .string (t 1), .string (t 2), .string (t 3)]
def upd (t : Nat → ByteArray) (k : Nat) (x : ByteArray) : Nat → ByteArray := fun i => if i = k then x else t i
theorem w4_get (t : Nat → ByteArray) {k : Nat} (h : k < 4) : (w4Arr t)[k]? = some (.string (t k)) := by
  rcases (show k = 0 ∨ k = 1 ∨ k = 2 ∨ k = 3 by omega) with rfl | rfl | rfl | rfl <;> rfl
theorem w4_set (t : Nat → ByteArray) {k : Nat} (h : k < 4) (x : ByteArray) : (w4Arr t).setIfInBounds k (.string x) = w4Arr (upd t k x) := by
  rcases (show k = 0 ∨ k = 1 ∨ k = 2 ∨ k = 3 by omega) with rfl | rfl | rfl | rfl <;> rfl

theorem keep_bit' (keep j : Nat) (h : keep < 18446744073709551616) (hj : j < 64) : (bits BinOp.and IntKind.u64 ((keep : Int) / 2 ^ j) 1 == 1) = kept64 keep j := by
  have := keep_bit keep j h
  rwa [Nat.mod_eq_of_lt hj] at this

/-- A sector as a text. -/
def txt (L : List (List UInt8)) (i : Nat) : ByteArray := ⟨(L.getD i []).toArray⟩
theorem txt_set (L : List (List UInt8)) (k : Nat) (s : List UInt8) (hk : k < L.length) (i : Nat) : txt (L.set k s) i = upd (txt L) k ⟨s.toArray⟩ i := by
  unfold txt upd
  by_cases h : i = k
  · subst h; rw [if_pos rfl]; simp [List.getD_eq_getElem?_getD, hk]
  · rw [if_neg h]; simp only [List.getD_eq_getElem?_getD, List.getElem?_set]; rw [if_neg (Ne.symm h)]

/-- The want of TopDisk lies at block b. -/
def WantAt (w : World) (b : Nat) (t : Nat → ByteArray) : Prop := w.heap[b]? = some (.cells (w4Arr t) 69 (0, 0))

set_option maxHeartbeats 4000000 in
set_option maxRecDepth 100000 in
theorem topDisk_walk (A M : Option Addr) (cA cM : Nat) (l more : List ActM) (keep : Nat) (hkeep : keep < 18446744073709551616) (w : World) (hA : ActsAt w w.heap.size A l) (hM : ActsAt w w.heap.size M more) :
    Calls Try.prog 5 #[.slice A l.length cA, .slice M more.length cM, .int .u64 (keep : Int)] w fun e w' => e = .returned (.bool true) ∧ Below w.heap.size w w' := by
  have hml := hA.1
  have hmm := hM.1
  unfold maxLen at hml hmm
  go_enter Try.func5, Try.ntmps5
  go_wp2_with fail
  ((with_reducible refine (dkNew_any _ 4).mono ?_); rintro e w1 hnew)
  unfold DkNew at hnew
  rw [if_pos (by omega)] at hnew
  obtain ⟨g, rfl, hD, hb1⟩ := hnew
  rw [show (4 : Int).toNat = 4 from rfl] at hD
  have HC : Calm 4 (dkNew 4) := calm_new
  have HW0 : (dkNew 4).wr.length = 0 := rfl
  generalize dkNew 4 = D at *
  have HF := dkFlush_any _ g w1 D hD
  rw [HC.stepE, HC.flush, show errV 0 = .nilIface from rfl] at HF
  have HF' := Lib.hid HF
  have HW0' := Lib.hid HW0
  clear HF HW0
  go_wp2_with fail
  ((with_reducible refine HF'.out.mono ?_); rintro e w2 ⟨rfl, hD2, hs2⟩)
  replace hb1 := hb1.trans (hs2.below)
  clear HF' hs2 hD
  have HC2 := HC.saved
  have HSZ := Lib.hid (dkSectors_any _ g w2 _ hD2)
  have HW2 : (dkSaved D).wr.length ≤ 0 := by simp [dkSaved]
  generalize dkSaved D = D at *
  rw [HC2.size] at HSZ
  clear HC HW0'
  go_wp2_with fail
  ((with_reducible refine HSZ.out.mono ?_); rintro e w3 ⟨rfl, rfl⟩)
  clear HSZ
  have hA1 := hA.below hb1
  go_wp2_with fail
  ((with_reducible refine (lightActs_any _ _ _ _ _ hA1).mono ?_); rintro e w4 ⟨r, rfl, hr, hb4⟩)
  have hD4 := hD2.below hb4
  replace hb4 := hb1.trans (hb4.mono hb1.size)
  clear hA1 hD2 hb1
  cases r
  · go_wp2
    go_ret
    exact ⟨rfl, hb4⟩
  have hl40 := hr rfl
  clear hr
  have hM1 := hM.below hb4
  go_wp2_with fail
  ((with_reducible refine (lightActs_any _ _ _ _ _ hM1).mono ?_); rintro e w5 ⟨r, rfl, hr, hb5⟩)
  have hD5 := hD4.below hb5
  replace hb5 := hb4.trans (hb5.mono hb4.size)
  clear hM1 hD4 hb4
  cases r
  · go_wp2
    go_ret
    exact ⟨rfl, hb5⟩
  have hm60 := hr rfl
  clear hr
  go_wp2
  go_loopw [9] (fun i w' => ∃ (k : Nat) (D : DkM), k ≤ l.length ∧ i = .int .i64 k ∧ DkAt w.heap.size w' g D ∧ Calm 4 D ∧ D.wr.length ≤ k ∧ Below w.heap.size w w') (fun i _ => l.length - (intOf i).toNat)
  case atStart => exact ⟨0, D, Nat.zero_le _, rfl, hD5, HC2, by omega, hb5⟩
  case round =>
    obtain ⟨k, D, hk, rfl, hD, hC, hwr, hb⟩ := hrel
    clear hD5 HC2 HW2 hb5
    by_cases hlt : k < l.length
    · obtain ⟨b, off, rfl, hact⟩ := (hA.below hb).2 k hlt
      have hbw : b < w.heap.size := by
        obtain ⟨b', off', e', hact'⟩ := hA.2 k hlt
        injection e' with e'; injection e' with e1 e2 _; subst e1; exact hact'.1
      obtain ⟨_, d1, d2, _, _⟩ := hact.cells
      have hss := hact.2.2.2.2.2.2.1
      have HWR := Lib.hid (dkWrite_any _ g wr.drew D l[k].a l[k].s (hD.drewN 1) hss (by omega))
      have HCW := hC.writes l[k].a l[k].s
      have HLE := hC.wr_le l[k].a l[k].s
      generalize dkWrite D l[k].a l[k].s = D' at *
      generalize dkWriteE D l[k].a l[k].s = en at *
      generalize l[k] = m at *
      have i1 : (k : Int) < (l.length : Int) := by omega
      have HKEEP := Lib.hid (fun w' (h : Step w.heap.size dkTypes wr.drew w') => show w'.cell? ⟨b, off + k * 9 + 1, none⟩ = some (.string m.s) ∧ w'.cell? ⟨b, off + k * 9 + 2, none⟩ = some (.int .i64 m.a) from
        ⟨(h.below.cell (p := ⟨b, off + k * 9 + 1, none⟩) hbw).trans d1, (h.below.cell (p := ⟨b, off + k * 9 + 2, none⟩) hbw).trans d2⟩)
      clear hact hss
      go_wp2_with fail
      go_region_held3 (fun w' => w'.cell? ⟨b, off + k * 9 + 1, none⟩ = some (.string m.s) ∧ w'.cell? ⟨b, off + k * 9 + 2, none⟩ = some (.int .i64 m.a)) (first | exact ⟨d1, d2⟩ | exact HKEEP.out _ t2)
        (first | ((with_reducible refine HWR.out.mono ?_); rintro e w6 ⟨rfl, t1, t2⟩))
      go_wp2
      go_roundw
      case rel => exact ⟨k + 1, D', hlt, by go_num, t1, HCW, by omega, hb.drew.trans t2.below⟩
      case measure => simp [intOf]; omega
    · have HF := dkFlush_any _ g wr D hD
      rw [hC.stepE, hC.flush, show errV 0 = .nilIface from rfl] at HF
      have HF' := Lib.hid HF
      have hC' := hC.saved
      have HWZ := Lib.hid (show (dkSaved D).wr = [] from rfl)
      have HDN := Lib.hid (show (dkSaved D).dur = (dkSaved D).now from rfl)
      generalize dkSaved D = D at *
      clear HF hC hwr
      go_wp2_with fail
      ((with_reducible refine HF'.out.mono ?_); rintro e w6 ⟨rfl, hD6, hs6⟩)
      have hb6 := hb.trans hs6.below
      clear HF' hD hs6 hb
      have hlt6 := hb6.size
      have hD7 : DkAt w.heap.size (w6.alloc (.cells (w4Arr fun _ => ByteArray.empty) 69)) g D := hD6.below ((Below.refl _ _).alloc (Nat.le_refl _) _)
      have hW7 : WantAt (w6.alloc (.cells (w4Arr fun _ => ByteArray.empty) 69)) w6.heap.size (fun _ => ByteArray.empty) := heap_alloc_new _ _
      have hb7 : Below w.heap.size w (w6.alloc (.cells (w4Arr fun _ => ByteArray.empty) 69)) := hb6.alloc hlt6 _
      go_wp2_with ((with_reducible refine isAt 10 ?_); refine wpList_alloc rfl 69 rfl (w4Arr fun _ => ByteArray.empty) (by kernel_rfl) ?_)
      generalize w6.alloc (.cells (w4Arr fun _ => ByteArray.empty) 69) = w7 at *
      generalize w6.heap.size = gw at *
      clear hD6 hb6
      go_loopw [11] (fun i w' => ∃ (k : Nat) (t : Nat → ByteArray), k ≤ 4 ∧ i = .int .i64 k ∧ DkAt w.heap.size w' g D ∧ WantAt w' gw t ∧ (∀ i, i < k → t i = txt D.now i) ∧ Below w.heap.size w w') (fun i _ => 4 - (intOf i).toNat)
      case atStart => exact ⟨0, _, Nat.zero_le _, rfl, hD7, hW7, fun i hi => by omega, hb7⟩
      case round =>
        obtain ⟨k2, t, hk2, rfl, hD, hW, ht, hb⟩ := hrel
        clear hD7 hW7 hb7
        by_cases hlt2 : k2 < 4
        · have HR := dkRead_any _ g wr D (k2 : Int) hD
          rw [hC'.readE k2 hlt2, hC'.read k2 hlt2, show errV 0 = .nilIface from rfl] at HR
          have HR' := Lib.hid HR
          have i1 : (k2 : Int) < 4 := by omega
          have i0 : (0 : Int) ≤ (k2 : Int) := by omega
          have cw : wr.cell? ⟨gw, k2, none⟩ = some (.string (t k2)) := (cell_of_row _ _ _ _ _ _ hW).trans (w4_get t hlt2)
          have fw : wr.frozen? ⟨gw, k2, none⟩ = false := frozen_of_row _ _ _ _ _ hW
          have hst : Step w.heap.size [69] wr (wr.setCell ⟨gw, k2, none⟩ (.string (txt D.now k2))) := (Step.refl w.heap.size [69] wr).set hW hlt6 (by simp) _
          have hD' := Lib.hid (hD.step hst (by decide) (by decide) (by decide))
          have hW' := Lib.hid (show WantAt (wr.setCell ⟨gw, k2, none⟩ (.string (txt D.now k2))) gw (upd t k2 (txt D.now k2)) from by
            have := heap_setCell_same wr gw k2 _ _ (.string (txt D.now k2)) hW
            rw [w4_set t hlt2] at this; exact this)
          have hb' := hb.trans hst.below
          have ht' := Lib.hid (show ∀ i, i < k2 + 1 → upd t k2 (txt D.now k2) i = txt D.now i from fun i hi => by
            unfold upd; split
            · rename_i h; rw [h]
            · rename_i h; exact ht i (by omega))
          have HTX := Lib.hid (show txt D.now k2 = ⟨(D.now.getD k2 []).toArray⟩ from rfl)
          rw [← HTX.out] at HR'
          generalize hx : txt D.now k2 = x at *
          clear HR ht hW hD hst hx HTX
          go_wp2_with fail
          ((with_reducible refine HR'.out.mono ?_); rintro e w8 ⟨rfl, rfl⟩)
          go_wp2
          go_roundw
          case rel => exact ⟨k2 + 1, _, hlt2, by go_num, hD'.out, hW'.out, ht'.out, hb'⟩
          case measure => simp [intOf]; omega
        · have hk4 := Lib.hid (show k2 = 4 by omega)
          have HT0 := Lib.hid (show ∀ i, i < 4 → t i = txt (dkKeep keep 0 D.wr D.dur) i from fun i hi => by rw [HWZ.out, HDN.out]; exact ht i (by have := hk4.out; omega))
          have HWL : D.wr.length ≤ 0 := by rw [HWZ.out]; simp
          clear ht HWZ HDN
          go_wp2
          go_loopw [14, 15] (fun n i w' => ∃ (k : Nat) (D : DkM) (t : Nat → ByteArray), k ≤ more.length ∧ i = .int .i64 k ∧ n = .int .i64 D.wr.length ∧ D.wr.length ≤ k ∧ DkAt w.heap.size w' g D ∧ Calm 4 D ∧ WantAt w' gw t ∧ (∀ i, i < 4 → t i = txt (dkKeep keep 0 D.wr D.dur) i) ∧ Below w.heap.size w w') (fun _ i _ => more.length - (intOf i).toNat)
          case atStart => exact ⟨0, D, t, Nat.zero_le _, rfl, by rw [show D.wr.length = 0 by omega]; rfl, by omega, hD, hC', hW, HT0.out, hb⟩
          case round =>
            obtain ⟨k, D, t, hk, rfl, rfl, hwr, hD, hC, hW, ht, hb⟩ := hrel
            clear HT0 HWL hC'
            by_cases hlt : k < more.length
            · obtain ⟨b, off, rfl, hact⟩ := (hM.below hb).2 k hlt
              have hbw : b < w.heap.size := by
                obtain ⟨b', off', e', hact'⟩ := hM.2 k hlt
                injection e' with e'; injection e' with e1 e2 _; subst e1; exact hact'.1
              obtain ⟨_, d1, d2, _, _⟩ := hact.cells
              have hss := hact.2.2.2.2.2.2.1
              have HWR := dkWrite_any _ g wr.drew D more[k].a more[k].s (hD.drewN 1) hss (by omega)
              have i1 : (k : Int) < (more.length : Int) := by omega
              generalize more[k] = m at *
              have HKEEP := Lib.hid (fun w' (h : Step w.heap.size dkTypes wr.drew w') => show w'.cell? ⟨b, off + k * 9 + 1, none⟩ = some (.string m.s) ∧ w'.cell? ⟨b, off + k * 9 + 2, none⟩ = some (.int .i64 m.a) from
                ⟨(h.below.cell (p := ⟨b, off + k * 9 + 1, none⟩) hbw).trans d1, (h.below.cell (p := ⟨b, off + k * 9 + 2, none⟩) hbw).trans d2⟩)
              clear hact hss
              by_cases hbad : badAt 4 m.a m.s
              · rw [hC.writeE, if_pos hbad, hC.write, if_pos hbad, show errV 1 = .iface 73 (.int .i64 1) from rfl] at HWR
                have HWR' := Lib.hid HWR
                have HT := Lib.hid ht
                clear HWR ht hbad
                go_wp2_with fail
                go_region_held3 (fun w' => w'.cell? ⟨b, off + k * 9 + 1, none⟩ = some (.string m.s) ∧ w'.cell? ⟨b, off + k * 9 + 2, none⟩ = some (.int .i64 m.a)) (first | exact ⟨d1, d2⟩ | exact HKEEP.out _ t2)
                  (first | ((with_reducible refine HWR'.out.mono ?_); rintro e w6 ⟨rfl, t1, t2⟩))
                have hW2 := t2.other _ _ _ _ hW (by decide)
                go_wp2
                go_roundw
                case rel => exact ⟨k + 1, D, t, hlt, by go_num, rfl, by omega, t1, hC, hW2, HT.out, hb.drew.trans t2.below⟩
                case measure => simp [intOf]; omega
              · have h0 : 0 ≤ m.a := by unfold badAt at hbad; omega
                obtain ⟨a, ha⟩ := Int.eq_ofNat_of_zero_le h0
                have ha4 : a < 4 := by unfold badAt at hbad; omega
                have hx80 : m.s.size ≤ 80 := by unfold badAt at hbad; omega
                rw [hC.writeE, if_neg hbad, hC.write, if_neg hbad, show errV 0 = .nilIface from rfl, show m.a.toNat = a by omega] at HWR
                have hCp := hC.put a (pad80 m.s)
                have hp80 := pad80_length m.s hx80
                have hnow : txt (dkPut D a (pad80 m.s)).now a = ⟨(pad80 m.s).toArray⟩ := by
                  have := txt_set D.now a (pad80 m.s) (by rw [hC.size]; exact ha4) a
                  rw [show (dkPut D a (pad80 m.s)).now = D.now.set a (pad80 m.s) from rfl, this]
                  unfold upd; rw [if_pos rfl]
                have hdl : D.dur.length = 4 := by obtain ⟨ho, _⟩ := hD; rw [ho.size, hC.size]
                have hlen : (dkPut D a (pad80 m.s)).wr.length = D.wr.length + 1 := by simp [dkPut]
                have hkp : dkKeep keep 0 (dkPut D a (pad80 m.s)).wr (dkPut D a (pad80 m.s)).dur = if kept64 keep D.wr.length = true then (dkKeep keep 0 D.wr D.dur).set a (pad80 m.s) else dkKeep keep 0 D.wr D.dur := by
                  simp only [dkPut, dkKeep_append, Nat.zero_add, dkKeep]
                have hkl : a < (dkKeep keep 0 D.wr D.dur).length := by rw [dkKeep_length, hdl]; exact ha4
                have HRD := fun w' (h : DkAt w.heap.size w' g (dkPut D a (pad80 m.s))) => dkRead_any _ g w' (dkPut D a (pad80 m.s)) (a : Int) h
                rw [hCp.readE a ha4, hCp.read a ha4, show errV 0 = .nilIface from rfl] at HRD
                have hnow' : (⟨((dkPut D a (pad80 m.s)).now.getD a []).toArray⟩ : ByteArray) = ⟨(pad80 m.s).toArray⟩ := hnow
                rw [hnow'] at HRD
                rw [ha] at d2 HWR HKEEP
                have KB := keep_bit' keep D.wr.length hkeep (by omega)
                have j0 : (0 : Int) ≤ (a : Int) := by omega
                have j1 : (a : Int) < 4 := by omega
                generalize hP : dkPut D a (pad80 m.s) = D' at *
                generalize pad80 m.s = sx at *
                have HWR' := Lib.hid HWR
                have HRD' := Lib.hid HRD
                have HLEN := Lib.hid hlen
                have HSH : D.wr.length < 64 := by omega
                clear HWR HRD hbad h0 ha hx80 hp80 hnow hnow' hP hdl hlen hD
                cases hkb : kept64 keep D.wr.length with
                | false =>
                  rw [hkb] at KB hkp
                  have HT' := Lib.hid (show ∀ i, i < 4 → t i = txt (dkKeep keep 0 D'.wr D'.dur) i from fun i hi => by rw [hkp]; exact ht i hi)
                  clear hkp ht hkb
                  go_wp2_with fail
                  go_region_held3 (fun w' => w'.cell? ⟨b, off + k * 9 + 1, none⟩ = some (.string m.s) ∧ w'.cell? ⟨b, off + k * 9 + 2, none⟩ = some (.int .i64 (a : Int))) (first | exact ⟨d1, d2⟩ | exact HKEEP.out _ t2)
                    (first | ((with_reducible refine HWR'.out.mono ?_); rintro e w6 ⟨rfl, t1, t2⟩))
                  have hW2 := t2.other _ _ _ _ hW (by decide)
                  go_wp2
                  go_roundw
                  case rel => exact ⟨k + 1, D', t, hlt, by go_num, by rw [HLEN.out]; go_num, by rw [HLEN.out]; omega, t1, hCp, hW2, HT'.out, hb.drew.trans t2.below⟩
                  case measure => simp [intOf]; omega
                | true =>
                  rw [hkb] at KB hkp
                  have HT' := Lib.hid (show ∀ i, i < 4 → upd t a ⟨sx.toArray⟩ i = txt (dkKeep keep 0 D'.wr D'.dur) i from fun i hi => by
                    rw [hkp, if_pos rfl, txt_set _ _ _ hkl]
                    unfold upd; split
                    · rfl
                    · exact ht i hi)
                  clear hkp ht hkb hkl
                  go_wp2_with fail
                  go_region_held3 (fun w' => w'.cell? ⟨b, off + k * 9 + 1, none⟩ = some (.string m.s) ∧ w'.cell? ⟨b, off + k * 9 + 2, none⟩ = some (.int .i64 (a : Int))) (first | exact ⟨d1, d2⟩ | exact HKEEP.out _ t2)
                    (first | ((with_reducible refine HWR'.out.mono ?_); rintro e w6 ⟨rfl, t1, t2⟩))
                  have hW2 := t2.other _ _ _ _ hW (by decide)
                  obtain ⟨d1', d2'⟩ := HKEEP.out _ t2
                  have hb6 := hb.drew.trans t2.below
                  have cw : w6.cell? ⟨gw, a, none⟩ = some (.string (t a)) := (cell_of_row _ _ _ _ _ _ hW2).trans (w4_get t ha4)
                  have fw : w6.frozen? ⟨gw, a, none⟩ = false := frozen_of_row _ _ _ _ _ hW2
                  have hst : Step w.heap.size [69] w6 (w6.setCell ⟨gw, a, none⟩ (.string ⟨sx.toArray⟩)) := (Step.refl w.heap.size [69] w6).set hW2 hlt6 (by simp) _
                  have hD' := Lib.hid (t1.step hst (by decide) (by decide) (by decide))
                  have hW' := Lib.hid (show WantAt (w6.setCell ⟨gw, a, none⟩ (.string ⟨sx.toArray⟩)) gw (upd t a ⟨sx.toArray⟩) from by
                    have := heap_setCell_same w6 gw a _ _ (.string ⟨sx.toArray⟩) hW2
                    rw [w4_set t ha4] at this; exact this)
                  have hb' := hb6.trans hst.below
                  have HR2 := Lib.hid (HRD'.out w6 t1)
                  clear HKEEP d1 d2 HRD' HWR' hst hW hb
                  generalize (⟨sx.toArray⟩ : ByteArray) = x at *
                  go_wp2_with fail
                  ((with_reducible refine HR2.out.mono ?_); rintro e w8 ⟨rfl, rfl⟩)
                  go_wp2
                  go_roundw
                  case rel => exact ⟨k + 1, D', _, hlt, by go_num, by rw [HLEN.out]; go_num, by rw [HLEN.out]; omega, hD'.out, hCp, hW'.out, HT'.out, hb'⟩
                  case measure => simp [intOf]; omega
            · have HRS := Lib.hid (dkRestart_any _ g wr D keep hD hkeep (by omega))
              have hdl : D.dur.length = 4 := by obtain ⟨ho, _⟩ := hD; rw [ho.size, hC.size]
              have hCr := Calm.restart hdl keep
              have HT := Lib.hid (show ∀ i, i < 4 → t i = txt (dkRestart D keep).now i from ht)
              generalize dkRestart D keep = D at *
              clear ht hdl hwr hC hD
              go_wp2_with fail
              ((with_reducible refine HRS.out.mono ?_); rintro e w9 ⟨rfl, hD9, hs9⟩)
              have hW9 := hs9.other _ _ _ _ hW (by decide)
              have hb9 := hb.trans hs9.below
              clear HRS hs9 hW hb
              go_wp2
              go_loopw [18] (fun i w' => ∃ (k : Nat), k ≤ 4 ∧ i = .int .i64 k ∧ w9 = w') (fun i _ => 4 - (intOf i).toNat)
              case atStart => exact ⟨0, Nat.zero_le _, rfl, rfl⟩
              case round =>
                obtain ⟨k3, hk3, rfl, rfl⟩ := hrel
                by_cases hlt3 : k3 < 4
                · have HR := dkRead_any _ g w9 D (k3 : Int) hD9
                  have HT3 := HT.out k3 hlt3
                  rw [hCr.readE k3 hlt3, hCr.read k3 hlt3, show errV 0 = .nilIface from rfl, show (⟨(D.now.getD k3 []).toArray⟩ : ByteArray) = txt D.now k3 from rfl, ← HT3] at HR
                  have HR' := Lib.hid HR
                  have i0 : (0 : Int) ≤ (k3 : Int) := by omega
                  have i1 : (k3 : Int) < 4 := by omega
                  have cw : w9.cell? ⟨gw, k3, none⟩ = some (.string (t k3)) := (cell_of_row _ _ _ _ _ _ hW9).trans (w4_get t hlt3)
                  generalize t k3 = x at *
                  clear HR HT3
                  go_wp2_with fail
                  ((with_reducible refine HR'.out.mono ?_); rintro e w8 ⟨rfl, rfl⟩)
                  go_wp2
                  go_roundw
                  case rel => exact ⟨k3 + 1, hlt3, by go_num, trivial⟩
                  case measure => simp [intOf]; omega
                · go_wp2
                  go_ret
                  exact ⟨rfl, hb9⟩
end Go.Proofs.Ytimbdomkpdmehaa
