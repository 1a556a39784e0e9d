/- VdiskSays: the relation behind Forget, Snap, Drop. -/
import Derived.Test.YtmcoenndfbgdfaaRv9
namespace Go.Proofs.Ytmcoenndfbgdfaa
open Go.RowKit

theorem rel_forget {D : DiskM} {R : RVm} (h : VRel D R) : VRel (forgetM D) (rvForget R) := by
  have hlen := h.len
  have htm : ∀ j, j < R.snaps.length → tmA (rvForget R) j = tmA R j := fun j hj => (tm_in (R := rvForget R) hj).trans (tm_in hj).symm
  have hto : ∀ j, R.snaps.length ≤ j → tmA (rvForget R) j = R.time + 1 := fun j hj => tm_out (R := rvForget R) hj
  have hmono : ∀ i, i < (rvForget R).snaps.length → tmA (rvForget R) i ≤ tmA (rvForget R) (i + 1) := fun i hi => by
    have hi' : i < R.snaps.length := hi
    have := h.mono i hi'
    rw [htm i hi']
    by_cases hq : i + 1 < R.snaps.length
    · rw [htm _ hq]; exact this
    · rw [hto _ (by omega)]
      rw [tm_out (by omega : R.snaps.length ≤ i + 1)] at this
      omega
  cases hn : D.snaps.length with
  | zero =>
    have e0 : D.snaps = [] := List.length_eq_zero_iff.1 hn
    rw [forgetM_nil e0]
    exact ⟨h.size, h.texts, h.next, h.ids, h.each, hmono, fun i hi => by rw [hn] at hi; omega⟩
  | succ n =>
    rw [forgetM_pos hn]
    refine ⟨h.size, h.texts, h.next, ?_, fun i q1 q2 => ?_, hmono, fun i q1 => ?_⟩
    · show (D.snaps.set n (setForgot (D.snaps[n]'(by omega)))).map (·.id) = _
      rw [List.map_set]
      show _ = R.snaps.map (·.id)
      rw [← h.ids]
      have : (setForgot (D.snaps[n]'(by omega))).id = (D.snaps.map (·.id))[n]'(by simp; omega) := by simp [setForgot]
      rw [this, List.set_getElem_self]
    · have hi : i < D.snaps.length := by simpa using q1
      have := h.each i hi q2
      simp only [List.getElem_set]
      by_cases e : n = i
      · subst e; rw [if_pos rfl]; exact this
      · rw [if_neg e]; exact this
    · have hi : i < D.snaps.length := by simpa using q1
      have hl := h.link i hi
      have hm := h.mono i (by omega)
      simp only [List.getElem_set]
      by_cases e : n = i
      · subst e
        rw [if_pos rfl, htm n (by omega), hto (n + 1) (by omega)]
        rw [tm_out (by omega : R.snaps.length ≤ n + 1)] at hm
        have hne : tmA R n ≠ R.time + 1 := by omega
        refine ⟨?_, fun ht => absurd ht hne⟩
        show true = _
        rw [decide_eq_true hne]
      · rw [if_neg e, htm i (by omega), htm (i + 1) (by omega), dt_in (R := rvForget R) (show i + 1 < R.snaps.length by omega)]
        rw [dt_in (by omega : i + 1 < R.snaps.length)] at hl
        exact hl

theorem rel_snap {D : DiskM} {R : RVm} (h : VRel D R) (h5 : D.snaps.length ≤ 5) : snapErr D = rvSnapE R ∧ VRel (snapM D) (rvSnap R) := by
  have hlen := h.len
  have hnx := h.next
  have e : snapErr D = rvSnapE R := by
    unfold snapErr rvSnapE
    by_cases hf : 5 ≤ D.snaps.length ∨ 999 ≤ D.last
    · rw [if_pos hf, if_pos (by omega)]
    · rw [if_neg hf, if_neg (by omega)]
  refine ⟨e, ?_⟩
  unfold snapM rvSnap
  rw [← e]
  by_cases h0 : snapErr D = 0
  · rw [if_pos h0, if_pos h0]
    obtain ⟨R', hR'⟩ : ∃ R', ({ R with next := R.next + 1, dirty := fun _ => false, snaps := R.snaps ++ [newRSn R] } : RVm) = R' := ⟨_, rfl⟩
    have hs' : R'.snaps = R.snaps ++ [newRSn R] := by rw [← hR']
    have ht' : R'.time = R.time := by rw [← hR']
    have hd' : R'.dirty = fun _ => false := by rw [← hR']
    have htm : ∀ j, tmA R' j = tmA R j := fun j => by
      unfold tmA
      rw [hs', ht']
      by_cases hj : j < R.snaps.length
      · rw [List.getElem?_append_left hj]
      · rw [List.getElem?_append_right (by omega), List.getElem?_eq_none (l := R.snaps) (by omega)]
        by_cases hj2 : j = R.snaps.length
        · subst hj2; simp [newRSn]
        · rw [List.getElem?_eq_none (by simp; omega)]
    have hdt : ∀ j, j ≤ R.snaps.length → dtA R' j = dtA R j := fun j hj => by
      unfold dtA
      rw [hs']
      by_cases hj : j < R.snaps.length
      · rw [List.getElem?_append_left hj, List.getElem?_eq_getElem hj]
      · rw [List.getElem?_append_right (by omega), List.getElem?_eq_none (l := R.snaps) (by omega), show j = R.snaps.length by omega]
        simp [newRSn]
    rw [hR']
    refine ⟨by rw [← hR']; exact h.size, by rw [← hR']; exact h.texts, by rw [← hR']; show R.next + 1 = D.last + 1 + 1; omega, ?_, fun i q1 q2 => ?_, fun i hi => ?_, fun i q1 => ?_⟩
    · show (D.snaps ++ [newSnap D]).map (·.id) = _
      rw [hs', List.map_append, List.map_append, h.ids]
      simp [newSnap, newRSn, hnx]
    · simp only [hs'] at q2 ⊢
      by_cases hi : i < D.snaps.length
      · rw [List.getElem_append_left hi, List.getElem_append_left (by omega)]
        exact h.each i hi (by omega)
      · have hie : i = D.snaps.length := by simp at q1; omega
        subst hie
        rw [List.getElem_append_right (Nat.le_refl _), List.getElem_append_right (by omega)]
        simp only [hlen, Nat.sub_self, List.getElem_singleton]
        exact ⟨h.size, h.texts⟩
    · rw [htm, htm]
      rw [hs'] at hi
      by_cases hi2 : i < R.snaps.length
      · exact h.mono i hi2
      · rw [tm_out (by omega), tm_out (by omega)]; exact Nat.le_refl _
    · rw [htm, htm]
      by_cases hi : i < D.snaps.length
      · rw [hdt (i + 1) (by omega)]
        have := h.link i hi
        have eg : (D.snaps ++ [newSnap D])[i]'q1 = D.snaps[i] := List.getElem_append_left hi
        exact eg ▸ this
      · have hie : i = D.snaps.length := by simp at q1; omega
        have eg : (D.snaps ++ [newSnap D])[i]'q1 = newSnap D := by
          subst hie
          rw [List.getElem_append_right (Nat.le_refl _)]; simp
        show Link ((D.snaps ++ [newSnap D])[i]'q1) _ _ _
        rw [eg, tm_out (by omega), tm_out (by omega), dt_out (by rw [hs']; simp; omega), hd']
        exact ⟨by simp [newSnap], fun _ j _ => rfl⟩
  · rw [if_neg h0, if_neg h0]; exact h
end Go.Proofs.Ytmcoenndfbgdfaa
