/- VdiskSays: the relation behind Drop. -/
import Derived.Test.YtmcoenndfbgdfaaRv10
namespace Go.Proofs.Ytmcoenndfbgdfaa
open Go.RowKit

theorem mrg_tm {R : RVm} {p : Nat} (hp : p < R.snaps.length) (j : Nat) : tmA (mrg R p 16) j = tmA R j := by
  by_cases hl : p + 1 = R.snaps.length
  · rw [mrg_last hp hl]; split <;> rfl
  · rw [mrg_inner (by omega)]
    split
    · unfold tmA
      simp only [List.getElem?_set]
      by_cases e : p + 1 = j
      · subst e
        rw [if_pos rfl, if_pos (by omega), List.getElem?_eq_getElem (by omega)]
      · rw [if_neg e]
    · rfl
theorem orTo_all (a b : Nat → Bool) {q : Nat} (hq : q < 16) : orTo a b 16 q = (a q || b q) := by
  unfold orTo
  have : decide (q < 16) = true := by simpa using hq
  rw [this, Bool.true_and]
theorem mrg_dt {R : RVm} {p : Nat} (hp : p < R.snaps.length) (j : Nat) (hj : j ≤ R.snaps.length) (q : Nat) (hq : q < 16) : dtA (mrg R p 16) j q = if j = p + 1 then (dtA R (p + 1) q || (decide (tmA R (p + 1) = tmA R p) && dtA R p q)) else dtA R j q := by
  by_cases hl : p + 1 = R.snaps.length
  · rw [mrg_last hp hl, tm_out (by omega : R.snaps.length ≤ p + 1), tm_in hp, dt_out (by omega : R.snaps.length ≤ p + 1), dt_in hp]
    by_cases ht : R.time = R.snaps[p].time
    · rw [if_pos ht, decide_eq_true ht, Bool.true_and]
      by_cases e : j = p + 1
      · rw [if_pos e, dt_out (by show R.snaps.length ≤ j; omega)]
        exact orTo_all _ _ hq
      · rw [if_neg e, dt_in (by show j < R.snaps.length; omega), dt_in (by omega)]
    · rw [if_neg ht, decide_eq_false ht, Bool.false_and, Bool.or_false]
      by_cases e : j = p + 1
      · rw [if_pos e, e, dt_out (by omega)]
      · rw [if_neg e]
  · have hp1 : p + 1 < R.snaps.length := by omega
    rw [mrg_inner hp1, tm_in hp1, tm_in hp, dt_in hp1, dt_in hp]
    by_cases ht : R.snaps[p + 1].time = R.snaps[p].time
    · rw [if_pos ht, decide_eq_true ht, Bool.true_and]
      unfold dtA
      simp only [List.getElem?_set]
      by_cases e : p + 1 = j
      · subst e
        rw [if_pos rfl, if_pos hp1, if_pos rfl]
        exact orTo_all _ _ hq
      · rw [if_neg e, if_neg (by omega)]
    · rw [if_neg ht, decide_eq_false ht, Bool.false_and, Bool.or_false]
      by_cases e : j = p + 1
      · rw [if_pos e, e, dt_in hp1]
      · rw [if_neg e]
theorem erase_tm {M : RVm} {p : Nat} (j : Nat) : tmA { M with snaps := M.snaps.eraseIdx p } j = if j < p then tmA M j else tmA M (j + 1) := by
  unfold tmA
  simp only [List.getElem?_eraseIdx]
  by_cases hj : j < p
  · rw [if_pos hj, if_pos hj]
  · rw [if_neg hj, if_neg hj]
theorem erase_dt {M : RVm} {p : Nat} (j : Nat) : dtA { M with snaps := M.snaps.eraseIdx p } j = if j < p then dtA M j else dtA M (j + 1) := by
  unfold dtA
  simp only [List.getElem?_eraseIdx]
  by_cases hj : j < p
  · rw [if_pos hj, if_pos hj]
  · rw [if_neg hj, if_neg hj]
def coreR (s : RSn) : Nat × Nat × (Nat → ByteArray) := (s.id, s.size, s.texts)
theorem mrg_core {R : RVm} {p : Nat} (hp : p < R.snaps.length) : (mrg R p 16).snaps.map coreR = R.snaps.map coreR := by
  by_cases hl : p + 1 = R.snaps.length
  · rw [mrg_last hp hl]; split <;> rfl
  · rw [mrg_inner (by omega)]
    split
    · show (R.snaps.set (p + 1) _).map coreR = _
      rw [List.map_set]
      have : coreR ({ R.snaps[p + 1]'(by omega) with dirty := orTo (R.snaps[p + 1]'(by omega)).dirty R.snaps[p].dirty 16 } : RSn) = (R.snaps.map coreR)[p + 1]'(by simp; omega) := by simp [coreR]
      rw [this, List.set_getElem_self]
    · rfl
theorem mrg_now (R : RVm) (p : Nat) : (mrg R p 16).size = R.size ∧ (mrg R p 16).texts = R.texts ∧ (mrg R p 16).next = R.next := by
  unfold mrg
  split
  · split <;> exact ⟨rfl, rfl, rfl⟩
  · split <;> exact ⟨rfl, rfl, rfl⟩
  · exact ⟨rfl, rfl, rfl⟩

theorem dropL_succ {L : List SnapM} {k : Nat} (hp : k + 1 < L.length) : dropL L (k + 1) = (L.set k (merge (L[k]'(by omega)) L[k + 1])).eraseIdx (k + 1) := by
  show (match L[k]?, L[k + 1]? with
    | some s, some t => (L.set k (merge s t)).eraseIdx (k + 1)
    | _, _ => L) = _
  rw [List.getElem?_eq_getElem (show k < L.length by omega), List.getElem?_eq_getElem hp]
/-- The program's snapshots behind Drop. -/
theorem dropL_get {L : List SnapM} {p : Nat} (hp : p < L.length) (i : Nat) (hi : i + 1 < L.length) : (dropL L p)[i]? = if i < p then (if i + 1 = p then some (merge (L[i]'(by omega)) L[p]) else some (L[i]'(by omega))) else some (L[i + 1]'hi) := by
  cases p with
  | zero =>
    unfold dropL
    rw [List.getElem?_eraseIdx, if_neg (by omega), if_neg (by omega), List.getElem?_eq_getElem hi]
  | succ k =>
    rw [dropL_succ hp, List.getElem?_eraseIdx]
    by_cases h1 : i < k + 1
    · rw [if_pos h1, if_pos h1, List.getElem?_set]
      by_cases e : k = i
      · subst e; rw [if_pos rfl, if_pos (by omega), if_pos rfl]
      · rw [if_neg e, if_neg (by omega), List.getElem?_eq_getElem (by omega)]
    · rw [if_neg h1, if_neg h1, List.getElem?_set, if_neg (by omega), List.getElem?_eq_getElem hi]
theorem dropL_length {L : List SnapM} {p : Nat} (hp : p < L.length) : (dropL L p).length = L.length - 1 := by
  cases p with
  | zero => unfold dropL; rw [List.length_eraseIdx, if_pos hp]
  | succ k =>
    rw [dropL_succ hp, List.length_eraseIdx, List.length_set, if_pos hp]
theorem map_erase {α β : Type} (f : α → β) : ∀ (L : List α) (p : Nat), (L.eraseIdx p).map f = (L.map f).eraseIdx p
  | [], _ => rfl
  | a :: r, 0 => rfl
  | a :: r, p + 1 => by simp only [List.eraseIdx_cons_succ, List.map_cons]; rw [map_erase f r p]
theorem dropL_ids {L : List SnapM} {p : Nat} (hp : p < L.length) : (dropL L p).map (·.id) = (L.map (·.id)).eraseIdx p := by
  cases p with
  | zero => exact map_erase _ L 0
  | succ k =>
    rw [dropL_succ hp, map_erase, List.map_set]
    have : (merge (L[k]'(by omega)) L[k + 1]).id = (L.map (·.id))[k]'(by simp; omega) := by simp [merge]
    rw [this, List.set_getElem_self]

theorem rel_drop {D : DiskM} {R : RVm} (h : VRel D R) {p : Nat} (hp : p < D.snaps.length) : VRel { D with snaps := dropL D.snaps p } (rvDropM R p) := by
  have hlen := h.len
  have hpR : p < R.snaps.length := by omega
  have hml := mrg_len R p 16
  have hpm : p < (mrg R p 16).snaps.length := by omega
  have hRl : (rvDropM R p).snaps.length = R.snaps.length - 1 := by
    show ((mrg R p 16).snaps.eraseIdx p).length = _
    rw [List.length_eraseIdx, if_pos hpm, hml]
  have hDl : (dropL D.snaps p).length = D.snaps.length - 1 := dropL_length hp
  have htm : ∀ j, tmA (rvDropM R p) j = if j < p then tmA R j else tmA R (j + 1) := fun j => by
    show tmA { mrg R p 16 with snaps := (mrg R p 16).snaps.eraseIdx p } j = _
    rw [erase_tm, mrg_tm hpR, mrg_tm hpR]
  have hdt : ∀ j, j + 1 ≤ R.snaps.length → ∀ q, q < 16 → dtA (rvDropM R p) j q = if j < p then dtA R j q else if j = p then (dtA R (p + 1) q || (decide (tmA R (p + 1) = tmA R p) && dtA R p q)) else dtA R (j + 1) q := fun j hj q hq => by
    show dtA { mrg R p 16 with snaps := (mrg R p 16).snaps.eraseIdx p } j q = _
    rw [erase_dt]
    by_cases h1 : j < p
    · rw [if_pos h1, if_pos h1, mrg_dt hpR j (by omega) q hq, if_neg (by omega)]
    · rw [if_neg h1, if_neg h1, mrg_dt hpR (j + 1) hj q hq]
      by_cases h2 : j = p
      · rw [if_pos h2, if_pos (by omega)]
      · rw [if_neg h2, if_neg (by omega)]
  obtain ⟨n1, n2, n3⟩ := mrg_now R p
  have hcore : (rvDropM R p).snaps.map coreR = (R.snaps.map coreR).eraseIdx p := by
    show ((mrg R p 16).snaps.eraseIdx p).map coreR = _
    rw [map_erase, mrg_core hpR]
  refine ⟨h.size.trans n1.symm, fun i hi => (h.texts i hi).trans (by show R.texts i = (mrg R p 16).texts i; rw [n2]), by show (mrg R p 16).next = _; rw [n3]; exact h.next, ?_, fun i q1 q2 => ?_, fun i hi => ?_, fun i q1 => ?_⟩
  · show (dropL D.snaps p).map (·.id) = _
    rw [dropL_ids hp, h.ids]
    have : (rvDropM R p).snaps.map (·.id) = ((rvDropM R p).snaps.map coreR).map (·.1) := by rw [List.map_map]; rfl
    rw [this, hcore, map_erase, List.map_map]
    rfl
  · have hi1 : i + 1 < D.snaps.length := by have : i < (dropL D.snaps p).length := q1; omega
    have eL := dropL_get hp i hi1
    have eL2 : (dropL D.snaps p)[i]? = some ((dropL D.snaps p)[i]'q1) := List.getElem?_eq_getElem q1
    rw [eL2] at eL
    have eR : some (coreR ((rvDropM R p).snaps[i]'q2)) = if i < p then some (coreR (R.snaps[i]'(by omega))) else some (coreR (R.snaps[i + 1]'(by omega))) := by
      have := congrArg (fun l => l[i]?) hcore
      simp only [List.getElem?_map, List.getElem?_eraseIdx] at this
      rw [List.getElem?_eq_getElem q2, List.getElem?_eq_getElem (show i < R.snaps.length by omega), List.getElem?_eq_getElem (show i + 1 < R.snaps.length by omega)] at this
      exact this
    show ((dropL D.snaps p)[i]'q1).was.size = ((rvDropM R p).snaps[i]'q2).size ∧ ∀ j, j < 16 → ((dropL D.snaps p)[i]'q1).was.texts j = ((rvDropM R p).snaps[i]'q2).texts j
    by_cases h1 : i < p
    · rw [if_pos h1] at eL eR
      injection eR with eR
      simp only [coreR, Prod.mk.injEq] at eR
      rw [eR.2.1, eR.2.2]
      have he := h.each i (by omega) (by omega)
      by_cases h2 : i + 1 = p
      · rw [if_pos h2] at eL
        injection eL with eL
        rw [eL]; exact he
      · rw [if_neg h2] at eL
        injection eL with eL
        rw [eL]; exact he
    · rw [if_neg h1] at eL eR
      injection eR with eR
      injection eL with eL
      simp only [coreR, Prod.mk.injEq] at eR
      rw [eR.2.1, eR.2.2, eL]
      exact h.each (i + 1) hi1 (by omega)
  · rw [htm, htm]
    rw [hRl] at hi
    by_cases h1 : i + 1 < p
    · rw [if_pos (by omega), if_pos h1]; exact h.mono i (by omega)
    · by_cases h2 : i < p
      · rw [if_pos h2, if_neg h1]
        exact Nat.le_trans (h.mono i (by omega)) (h.mono (i + 1) (by omega))
      · rw [if_neg h2, if_neg h1]; exact h.mono (i + 1) (by omega)
  · have hi1 : i + 1 < D.snaps.length := by have : i < (dropL D.snaps p).length := q1; omega
    have eL := dropL_get hp i hi1
    have eL2 : (dropL D.snaps p)[i]? = some ((dropL D.snaps p)[i]'q1) := List.getElem?_eq_getElem q1
    rw [eL2] at eL
    show Link ((dropL D.snaps p)[i]'q1) _ _ _
    by_cases h1 : i < p
    · rw [if_pos h1] at eL
      by_cases h2 : i + 1 = p
      · rw [if_pos h2] at eL
        injection eL with eL
        subst h2
        rw [eL, htm, htm, if_pos h1, if_neg (by omega)]
        have l1 := h.link i (by omega)
        have l2 := h.link (i + 1) hi1
        have m1 := h.mono i (by omega)
        have m2 := h.mono (i + 1) (by omega)
        refine ⟨?_, fun ht j hj => ?_⟩
        · show ((D.snaps[i]'(by omega)).forgot || (D.snaps[i + 1]'hi1).forgot) = _
          rw [l1.1, l2.1]
          rw [Bool.eq_iff_iff]
          simp only [Bool.or_eq_true, decide_eq_true_eq]
          omega
        · have t1 : tmA R i = tmA R (i + 1) := by omega
          have t2 : tmA R (i + 1) = tmA R (i + 1 + 1) := by omega
          rw [hdt (i + 1) (by omega) j hj, if_neg (by omega), if_pos rfl, decide_eq_true t2.symm, Bool.true_and]
          show hasB (uni _ _) _ = _
          rw [uni_has2 _ _ j hj, l1.2 t1 j hj, l2.2 t2 j hj, Bool.or_comm]
      · rw [if_neg h2] at eL
        injection eL with eL
        rw [eL, htm, htm, if_pos h1, if_pos (by omega)]
        have l1 := h.link i (by omega)
        refine ⟨l1.1, fun ht j hj => ?_⟩
        rw [hdt (i + 1) (by omega) j hj, if_pos (by omega)]
        exact l1.2 ht j hj
    · rw [if_neg h1] at eL
      injection eL with eL
      rw [eL, htm, htm, if_neg h1, if_neg (by omega)]
      have l1 := h.link (i + 1) hi1
      refine ⟨l1.1, fun ht j hj => ?_⟩
      rw [hdt (i + 1) (by omega) j hj, if_neg (by omega), if_neg (by omega)]
      exact l1.2 ht j hj
end Go.Proofs.Ytmcoenndfbgdfaa
