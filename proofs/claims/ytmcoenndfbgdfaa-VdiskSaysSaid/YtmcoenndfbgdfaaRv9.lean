/- VdiskSays: the program's disk and the document's. -/
import Derived.Test.YtmcoenndfbgdfaaRv7
import Derived.Test.YtmcoenndfbgdfaaRv8
import Derived.Test.YtmcoenndfbgdfaaVd12
namespace Go.Proofs.Ytmcoenndfbgdfaa
open Go.RowKit

def tmA (R : RVm) (j : Nat) : Nat := match R.snaps[j]? with
  | some s => s.time
  | none => R.time
def dtA (R : RVm) (j : Nat) : Nat → Bool := match R.snaps[j]? with
  | some s => s.dirty
  | none => R.dirty
theorem tm_in {R : RVm} {j : Nat} (h : j < R.snaps.length) : tmA R j = R.snaps[j].time := by unfold tmA; rw [List.getElem?_eq_getElem h]
theorem tm_out {R : RVm} {j : Nat} (h : R.snaps.length ≤ j) : tmA R j = R.time := by unfold tmA; rw [List.getElem?_eq_none h]
theorem dt_in {R : RVm} {j : Nat} (h : j < R.snaps.length) : dtA R j = R.snaps[j].dirty := by unfold dtA; rw [List.getElem?_eq_getElem h]
theorem dt_out {R : RVm} {j : Nat} (h : R.snaps.length ≤ j) : dtA R j = R.dirty := by unfold dtA; rw [List.getElem?_eq_none h]

/-- What a snapshot of the program has to do with the document's next moment. -/
def Link (s : SnapM) (t t' : Nat) (d : Nat → Bool) : Prop := (s.forgot = decide (t ≠ t')) ∧ (t = t' → ∀ j : Nat, j < 16 → hasB s.touched (j : Int) = d j)
structure VRel (D : DiskM) (R : RVm) : Prop where
  size : D.now.size = R.size
  texts : ∀ i, i < 16 → D.now.texts i = R.texts i
  next : R.next = D.last + 1
  ids : D.snaps.map (·.id) = R.snaps.map (·.id)
  each : ∀ i (h1 : i < D.snaps.length) (h2 : i < R.snaps.length), D.snaps[i].was.size = R.snaps[i].size ∧ ∀ j, j < 16 → D.snaps[i].was.texts j = R.snaps[i].texts j
  mono : ∀ i, i < R.snaps.length → tmA R i ≤ tmA R (i + 1)
  link : ∀ i (h1 : i < D.snaps.length), Link D.snaps[i] (tmA R i) (tmA R (i + 1)) (dtA R (i + 1))
theorem VRel.len {D : DiskM} {R : RVm} (h : VRel D R) : D.snaps.length = R.snaps.length := by simpa using congrArg List.length h.ids
theorem VRel.pos {D : DiskM} {R : RVm} (h : VRel D R) (a : Int) : posIn D.snaps a = rposIn R.snaps a := by
  have : ∀ (L : List SnapM) (M : List RSn), L.map (·.id) = M.map (·.id) → posIn L a = rposIn M a := by
    intro L
    induction L with
    | nil => intro M e; cases M with
      | nil => rfl
      | cons => simp at e
    | cons s r ih =>
      intro M e
      cases M with
      | nil => simp at e
      | cons t q =>
        simp only [List.map_cons, List.cons.injEq] at e
        unfold posIn rposIn
        rw [e.1, ih q e.2]
  exact this _ _ h.ids

theorem uni_has (l : List Ar) (a : Ar) (j : Nat) (hj : j < 16) : hasB (uni l [a]) (j : Int) = (hasB l (j : Int) || inAr a (j : Int)) := by
  have hj' : (j : Int) < 16 := by omega
  unfold uni
  rw [areasOf_has]
  simp [hasB, hj']
theorem uni_has2 (l r : List Ar) (j : Nat) (hj : j < 16) : hasB (uni l r) (j : Int) = (hasB l (j : Int) || hasB r (j : Int)) := by
  have hj' : (j : Int) < 16 := by omega
  unfold uni
  rw [areasOf_has]
  simp [hj']

/-- Blocks touched, on both sides. -/
theorem VRel.touch {D : DiskM} {R : RVm} (h : VRel D R) (now' : Cont) (a : Ar) (texts' : Nat → ByteArray) (size' : Nat) (dirty' : Nat → Bool) (h1 : now'.size = size') (h2 : ∀ j, j < 16 → now'.texts j = texts' j) (h3 : ∀ j, j < 16 → dirty' j = (R.dirty j || inAr a (j : Int))) :
    VRel (touchM { D with now := now' } a) { R with size := size', texts := texts', dirty := dirty' } := by
  have htm : ∀ j, tmA ({ R with size := size', texts := texts', dirty := dirty' } : RVm) j = tmA R j := fun _ => rfl
  have hdi : ∀ j, j < R.snaps.length → dtA ({ R with size := size', texts := texts', dirty := dirty' } : RVm) j = dtA R j := fun j hj => (dt_in (R := { R with size := size', texts := texts', dirty := dirty' }) hj).trans (dt_in hj).symm
  cases hn : D.snaps.length with
  | zero =>
    have e0 : D.snaps = [] := List.length_eq_zero_iff.1 hn
    rw [touchM_nil (D := { D with now := now' }) a e0]
    exact ⟨h1, h2, h.next, h.ids, h.each, h.mono, fun i hi => by rw [hn] at hi; omega⟩
  | succ n =>
    rw [touchM_pos a (D := { D with now := now' }) hn]
    refine ⟨h1, h2, h.next, ?_, fun i q1 q2 => ?_, h.mono, fun i q1 => ?_⟩
    · show (D.snaps.set n (addTouch a (D.snaps[n]'(by omega)))).map (·.id) = _
      rw [List.map_set, ← h.ids]
      have : (addTouch a (D.snaps[n]'(by omega))).id = (D.snaps.map (·.id))[n]'(by simp; omega) := by simp [addTouch]
      rw [this, List.set_getElem_self]
    · have hi : i < D.snaps.length := by simpa using q1
      have := h.each i hi q2
      simp only [List.getElem_set]
      by_cases e : n = i
      · subst e; rw [if_pos rfl]; exact this
      · rw [if_neg e]; exact this
    · have hi : i < D.snaps.length := by simpa using q1
      have hl := h.link i hi
      have hlen := h.len
      simp only [List.getElem_set]
      by_cases e : n = i
      · subst e
        rw [if_pos rfl]
        refine ⟨hl.1, fun ht j hj => ?_⟩
        rw [dt_out (by show R.snaps.length ≤ n + 1; omega)]
        show hasB (uni _ [a]) _ = dirty' j
        rw [uni_has _ _ _ hj, h3 j hj, hl.2 ht j hj, dt_out (by omega)]
      · rw [if_neg e]
        refine ⟨hl.1, fun ht j hj => ?_⟩
        rw [hdi (i + 1) (by omega)]
        exact hl.2 ht j hj

theorem rel_write {D : DiskM} {R : RVm} (h : VRel D R) (k : Int) (x : ByteArray) : writeErr D k x = rvWriteE R k x ∧ VRel (writeM D k x) (rvWrite R k x) := by
  have e : writeErr D k x = rvWriteE R k x := by unfold writeErr rvWriteE; rw [h.size]
  refine ⟨e, ?_⟩
  unfold writeM rvWrite
  rw [← e]
  by_cases h0 : writeErr D k x = 0
  · rw [if_pos h0, if_pos h0]
    have hk : 0 ≤ k ∧ k < D.now.size := by
      unfold writeErr at h0
      by_cases hk : 0 ≤ k ∧ k < D.now.size
      · exact hk
      · rw [if_pos hk] at h0; omega
    refine h.touch _ _ _ _ _ h.size (fun j hj => ?_) (fun j hj => ?_)
    · show setText D.now.texts k.toNat x j = setText R.texts k.toNat x j
      unfold setText
      split
      · rfl
      · exact h.texts j hj
    · show setMark R.dirty k.toNat true j = _
      unfold setMark
      by_cases ej : j = k.toNat
      · rw [if_pos ej]
        have : inAr (k, 1) (j : Int) = true := by rw [inAr_iff]; simp only []; omega
        rw [this]; simp
      · rw [if_neg ej]
        have : inAr (k, 1) (j : Int) = false := by rw [inAr_false]; simp only []; omega
        rw [this]; simp
  · rw [if_neg h0, if_neg h0]; exact h

theorem rel_resize {D : DiskM} {R : RVm} (h : VRel D R) (n : Int) : resizeErr n = rvResizeE n ∧ VRel (resizeM D n) (rvResize R n) := by
  refine ⟨rfl, ?_⟩
  unfold resizeM rvResize
  by_cases hn : 1 ≤ n ∧ n ≤ 16
  · rw [if_pos hn, if_pos hn]
    obtain ⟨m, rfl⟩ := Int.eq_ofNat_of_zero_le (show 0 ≤ n by omega)
    rw [Int.toNat_natCast]
    unfold resizeTo
    by_cases hm : m = D.now.size
    · rw [if_pos hm]
      have hmr : m = R.size := by rw [hm, h.size]
      have e1 : ∀ j, j < 16 → (rvClr R m 16).texts j = R.texts j := fun j hj => by
        simp only [rvClr]; rw [if_neg (by omega)]
      have e2 : ∀ j, j < 16 → (rvClr R m 16).dirty j = R.dirty j := fun j hj => by
        simp only [rvClr]; rw [if_neg (by omega)]
      refine ⟨hm.symm, fun i hi => by rw [show ({ rvClr R m 16 with size := m } : RVm).texts i = (rvClr R m 16).texts i from rfl, e1 i hi]; exact h.texts i hi, h.next, h.ids, h.each, h.mono, fun i hi => ?_⟩
      have hl := h.link i hi
      refine ⟨hl.1, fun ht j hj => ?_⟩
      rw [hl.2 ht j hj]
      by_cases hq : i + 1 < R.snaps.length
      · rw [dt_in hq, dt_in (R := { rvClr R m 16 with size := m }) hq]; rfl
      · rw [dt_out (by omega), dt_out (R := { rvClr R m 16 with size := m }) (by show R.snaps.length ≤ i + 1; omega)]
        exact (e2 j hj).symm
    · rw [if_neg hm]
      have hs := h.size
      refine h.touch _ _ (rvClr R m 16).texts m (rvClr R m 16).dirty rfl (fun j hj => ?_) (fun j hj => ?_)
      · show clearText D.now.texts (min m D.now.size) (max m D.now.size) j = _
        simp only [clearText, rvClr]
        by_cases hc : min m D.now.size ≤ j ∧ j < max m D.now.size
        · rw [if_pos hc, if_pos ⟨hj, by omega⟩]; rfl
        · rw [if_neg hc, if_neg (by omega)]; exact h.texts j hj
      · simp only [rvClr]
        by_cases hc : min m D.now.size ≤ j ∧ j < max m D.now.size
        · rw [if_pos ⟨hj, by omega⟩]
          have : inAr (((min m D.now.size : Nat) : Int), ((max m D.now.size : Nat) : Int) - ((min m D.now.size : Nat) : Int)) (j : Int) = true := by rw [inAr_iff]; simp only []; omega
          rw [this]; simp
        · rw [if_neg (by omega)]
          have : inAr (((min m D.now.size : Nat) : Int), ((max m D.now.size : Nat) : Int) - ((min m D.now.size : Nat) : Int)) (j : Int) = false := by rw [inAr_false]; simp only []; omega
          rw [this]; simp
  · rw [if_neg hn, if_neg hn]; exact h
end Go.Proofs.Ytmcoenndfbgdfaa
