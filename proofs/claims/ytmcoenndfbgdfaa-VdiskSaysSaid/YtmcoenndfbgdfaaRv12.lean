/- VdiskSays: the answers of both disks are the same. -/
import Derived.Test.YtmcoenndfbgdfaaRv11
import Derived.Test.YtmcoenndfbgdfaaVd8t
namespace Go.Proofs.Ytmcoenndfbgdfaa
open Go.RowKit

theorem seg_step {L : List SnapM} {lo n : Nat} (h : lo + n < L.length) : (L.drop lo).take (n + 1) = (L.drop lo).take n ++ [L[lo + n]] := by
  rw [List.take_succ_eq_append_getElem (by simp; omega), List.getElem_drop]
theorem tm_le {D : DiskM} {R : RVm} (h : VRel D R) (lo : Nat) : ∀ n, lo + n ≤ R.snaps.length → tmA R lo ≤ tmA R (lo + n)
  | 0, _ => Nat.le_refl _
  | n + 1, hn => Nat.le_trans (tm_le h lo n (by omega)) (h.mono (lo + n) (by omega))
theorem seg_forgot {D : DiskM} {R : RVm} (h : VRel D R) (lo : Nat) : ∀ n, lo + n ≤ R.snaps.length → ((D.snaps.drop lo).take n).any (·.forgot) = decide (tmA R lo ≠ tmA R (lo + n))
  | 0, _ => by simp
  | n + 1, hn => by
    have hlen := h.len
    rw [seg_step (by omega), List.any_append, seg_forgot h lo n (by omega)]
    have hl := h.link (lo + n) (by omega)
    have m1 := tm_le h lo n (by omega)
    have m2 := h.mono (lo + n) (by omega)
    simp only [List.any_cons, List.any_nil, Bool.or_false]
    rw [hl.1, Bool.eq_iff_iff]
    simp only [Bool.or_eq_true, decide_eq_true_eq]
    rw [show lo + (n + 1) = lo + n + 1 by omega]
    omega
theorem seg_marks {D : DiskM} {R : RVm} (h : VRel D R) (lo : Nat) : ∀ n, lo + n < R.snaps.length → tmA R lo = tmA R (lo + n) → ∀ j : Nat, j < 16 → hasB (foldT [] ((D.snaps.drop lo).take n)) (j : Int) = unionM R lo n j
  | 0, _, _, j, _ => by simp [foldT, unionM, hasB]
  | n + 1, hn, ht, j, hj => by
    have hlen := h.len
    have m1 := tm_le h lo n (by omega)
    have m2 := h.mono (lo + n) (by omega)
    rw [show lo + (n + 1) = lo + n + 1 by omega] at ht
    rw [seg_step (by omega), foldT_snoc, uni_has2 _ _ j hj, seg_marks h lo n (by omega) (by omega) j hj]
    have hl := h.link (lo + n) (by omega)
    rw [hl.2 (by omega) j hj]
    show _ = (unionM R lo n j || dirtyAt R (lo + 1 + n) j)
    rw [dt_in (by omega)]
    unfold dirtyAt
    rw [List.getElem?_eq_getElem (by omega)]
    simp only [show lo + 1 + n = lo + n + 1 by omega]

theorem rel_chg {D : DiskM} {R : RVm} (h : VRel D R) {a b : Int} {i k : Nat} (ha : posIn D.snaps a = some i) (hb : posIn D.snaps b = some k) : chgErr D a b = rvChgE R (min i k) (max i k) ∧ chgAr D a b = rvChgL R (min i k) (max i k) := by
  obtain ⟨hi, _⟩ := posIn_lt ha
  obtain ⟨hk, _⟩ := posIn_lt hb
  have hlen := h.len
  have e1 : chgErr D a b = if (seg D.snaps (min i k) (max i k)).any (·.forgot) then 7 else 0 := by unfold chgErr; rw [ha, hb]
  have e2 : chgAr D a b = if (seg D.snaps (min i k) (max i k)).any (·.forgot) then [] else foldT [] (seg D.snaps (min i k) (max i k)) := by unfold chgAr; rw [ha, hb]
  rw [e1, e2]
  have hlo : min i k < R.snaps.length := by omega
  have hhi : max i k < R.snaps.length := by omega
  have hle : min i k ≤ max i k := by omega
  generalize min i k = lo at *
  generalize max i k = hh at *
  obtain ⟨n, rfl⟩ : ∃ n, hh = lo + n := ⟨hh - lo, by omega⟩
  have es : seg D.snaps lo (lo + n) = (D.snaps.drop lo).take n := by unfold seg; rw [show lo + n - lo = n by omega]
  rw [es, seg_forgot h lo n (by omega)]
  have eE : rvChgE R lo (lo + n) = if tmA R lo = tmA R (lo + n) then 0 else 7 := by
    unfold rvChgE
    rw [List.getElem?_eq_getElem hlo, List.getElem?_eq_getElem hhi, tm_in hlo, tm_in hhi]
  by_cases ht : tmA R lo = tmA R (lo + n)
  · rw [decide_eq_false (by simpa using ht), eE, if_pos ht]
    refine ⟨rfl, ?_⟩
    unfold rvChgL
    rw [eE, if_pos ht, if_pos rfl, show lo + n - lo = n by omega]
    show foldT [] _ = _
    refine valid_ext (foldT_ok _).1 (areasOf_valid _) (fun q => ?_)
    by_cases hq0 : q < 0
    · rw [hasB_low (foldT_ok _).1 hq0, hasB_low (areasOf_valid _) hq0]
    · by_cases hq : 16 ≤ q
      · rw [hasB_high (foldT_ok _).1 hq, hasB_high (areasOf_valid _) hq]
      · obtain ⟨j, rfl⟩ := Int.eq_ofNat_of_zero_le (show 0 ≤ q by omega)
        have hj : j < 16 := by omega
        rw [seg_marks h lo n hhi ht j hj, areasOf_has]
        simp
        omega
  · rw [decide_eq_true ht, eE, if_neg ht]
    refine ⟨rfl, ?_⟩
    unfold rvChgL
    rw [eE, if_neg ht]; rfl

theorem rel_read {D : DiskM} {R : RVm} (h : VRel D R) (hz : ∀ s ∈ D.snaps, s.was.size ≤ 16) {id k : Int} {v : Value} (hv : RvReadRet R id k v) : v = .tuple #[.string (readText D id k), .int .i64 (readSize D id k), .int .i64 (readErr D id k)] := by
  have hp := h.pos id
  have hlen := h.len
  unfold RvReadRet at hv
  unfold readText readSize readErr
  rw [hp]
  cases hpo : rposIn R.snaps id with
  | none => rw [hpo] at hv; exact hv
  | some i =>
    rw [hpo] at hv
    obtain ⟨hi, _⟩ := rpos_lt hpo
    have hiD : i < D.snaps.length := by omega
    have := hv R.snaps[i] (List.getElem?_eq_getElem hi)
    obtain ⟨e1, e2⟩ := h.each i hiD hi
    have hs16 := hz _ (List.getElem_mem hiD)
    simp only [List.getElem?_eq_getElem hiD]
    by_cases hk : 0 ≤ k ∧ k < R.snaps[i].size
    · rw [this.2 hk]
      have hk' : 0 ≤ k ∧ k < D.snaps[i].was.size := by rw [e1]; exact hk
      rw [if_pos hk', if_pos hk', if_pos hk', e1, e2 k.toNat (by omega)]
    · rw [this.1 hk]
      have hk' : ¬ (0 ≤ k ∧ k < D.snaps[i].was.size) := by rw [e1]; exact hk
      rw [if_neg hk', if_neg hk', if_neg hk']
      rfl
theorem rel_sizeOf {D : DiskM} {R : RVm} (h : VRel D R) {id : Int} {v : Value} (hv : RvSizeRet R id v) : v = .tuple #[.int .i64 (sizeVal D id), .int .i64 (sizeErr D id)] := by
  have hp := h.pos id
  have hlen := h.len
  unfold RvSizeRet at hv
  unfold sizeVal sizeErr
  rw [hp]
  cases hpo : rposIn R.snaps id with
  | none => rw [hpo] at hv; exact hv
  | some i =>
    rw [hpo] at hv
    obtain ⟨hi, _⟩ := rpos_lt hpo
    have hiD : i < D.snaps.length := by omega
    have := hv R.snaps[i] (List.getElem?_eq_getElem hi)
    obtain ⟨e1, _⟩ := h.each i hiD hi
    simp only [List.getElem?_eq_getElem hiD]
    rw [this, e1]
end Go.Proofs.Ytmcoenndfbgdfaa
