/- The document's tracked disk: marks that go over, in each of the four cases. -/
import Derived.Test.YtmcoenndfbgdfaaRv6
namespace Go.Proofs.Ytmcoenndfbgdfaa
open Go.RowKit

theorem mrg_last {D : RVm} {i : Nat} (hi : i < D.snaps.length) (hl : i + 1 = D.snaps.length) (k : Nat) : mrg D i k = if D.time = D.snaps[i].time then { D with dirty := orTo D.dirty D.snaps[i].dirty k } else D := by
  unfold mrg
  rw [List.getElem?_eq_getElem hi, List.getElem?_eq_none (by omega)]
theorem mrg_inner {D : RVm} {i : Nat} (hi : i + 1 < D.snaps.length) (k : Nat) : mrg D i k = if D.snaps[i + 1].time = (D.snaps[i]'(by omega)).time then { D with snaps := D.snaps.set (i + 1) { D.snaps[i + 1] with dirty := orTo D.snaps[i + 1].dirty (D.snaps[i]'(by omega)).dirty k } } else D := by
  unfold mrg
  rw [List.getElem?_eq_getElem (show i < D.snaps.length by omega), List.getElem?_eq_getElem hi]
theorem rsArr_congr {s t : RSn} (h1 : s.id = t.id) (h2 : s.time = t.time) (h3 : s.size = t.size) (h4 : s.texts = t.texts) (h5 : ∀ j, j < 16 → s.dirty j = t.dirty j) : rsArr s = rsArr t := by
  unfold rsArr
  rw [h1, h2, h3, h4, h5 0 (by omega), h5 1 (by omega), h5 2 (by omega), h5 3 (by omega), h5 4 (by omega), h5 5 (by omega), h5 6 (by omega), h5 7 (by omega), h5 8 (by omega), h5 9 (by omega), h5 10 (by omega), h5 11 (by omega), h5 12 (by omega), h5 13 (by omega), h5 14 (by omega), h5 15 (by omega)]
theorem rsCells_set_congr {L : List RSn} {q : Nat} {s t : RSn} (h : rsArr s = rsArr t) : rsCells (L.set q s) = rsCells (L.set q t) := by
  induction L generalizing q with
  | nil => rfl
  | cons a r ih =>
    cases q with
    | zero => simp only [List.set_cons_zero, rsCells, List.flatMap_cons, h]
    | succ q => simp only [List.set_cons_succ, rsCells, List.flatMap_cons] at *; rw [ih]
theorem mrg_len (D : RVm) (i k : Nat) : (mrg D i k).snaps.length = D.snaps.length := by
  unfold mrg
  split
  · split
    · simp
    · rfl
  · split <;> rfl
  · rfl
/-- Before the first mark. -/
theorem mrg_zero {B g gb c : Nat} {w : World} {D : RVm} {i : Nat} (h : MrgAt B w g gb c D) (hi : i < D.snaps.length) : MrgAt B w g gb c (mrg D i 0) := by
  by_cases hl : i + 1 = D.snaps.length
  · rw [mrg_last hi hl]
    split
    · refine ⟨?_, h.own⟩
      rw [h.row, rvArr_congr (D := D) (D' := { D with dirty := orTo D.dirty D.snaps[i].dirty 0 }) _ rfl (fun _ _ => rfl) (fun j _ => by simp [orTo]) rfl rfl]
    · exact h
  · rw [mrg_inner (by omega)]
    split
    · refine ⟨?_, ?_⟩
      · rw [h.row]
        simp only [List.length_set]
        rfl
      · simp only [List.length_set]
        have e : rsCells (D.snaps.set (i + 1) { D.snaps[i + 1] with dirty := orTo D.snaps[i + 1].dirty D.snaps[i].dirty 0 }) = rsCells D.snaps := by
          have e1 := rsCells_set_congr (L := D.snaps) (q := i + 1) (s := ({ D.snaps[i + 1] with dirty := orTo D.snaps[i + 1].dirty D.snaps[i].dirty 0 } : RSn)) (t := D.snaps[i + 1]) (rsArr_congr rfl rfl rfl rfl (fun j _ => by simp [orTo]))
          rw [List.set_getElem_self] at e1
          exact e1
        rw [e]
        exact h.own
    · exact h
/-- A mark that is not set. -/
theorem mrg_skip {B g gb c : Nat} {w : World} {D : RVm} {i k : Nat} (hi : i < D.snaps.length) (h : MrgAt B w g gb c (mrg D i k)) (hs : D.snaps[i].dirty k = false) : MrgAt B w g gb c (mrg D i (k + 1)) := by
  have ho : ∀ (a : Nat → Bool) (j : Nat), orTo a D.snaps[i].dirty (k + 1) j = orTo a D.snaps[i].dirty k j := fun a j => by
    rw [orTo_step]
    split
    · rename_i e; subst e; simp [orTo, hs]
    · rfl
  have ho' : ∀ a : Nat → Bool, orTo a D.snaps[i].dirty (k + 1) = orTo a D.snaps[i].dirty k := fun a => funext (ho a)
  by_cases hl : i + 1 = D.snaps.length
  · rw [mrg_last hi hl, ho'] 
    rw [mrg_last hi hl] at h
    exact h
  · rw [mrg_inner (by omega), ho']
    rw [mrg_inner (by omega)] at h
    exact h
/-- Marks that go nowhere: the times differ. -/
theorem mrg_stay {B g gb c : Nat} {w : World} {D : RVm} {i k : Nat} (hi : i < D.snaps.length) (h : MrgAt B w g gb c (mrg D i k)) (hl : i + 1 = D.snaps.length) (ht : ¬ D.time = D.snaps[i].time) : MrgAt B w g gb c (mrg D i (k + 1)) := by
  rw [mrg_last hi hl, if_neg ht] at h ⊢
  exact h
theorem mrg_stay2 {B g gb c : Nat} {w : World} {D : RVm} {i k : Nat} (hi : i + 1 < D.snaps.length) (h : MrgAt B w g gb c (mrg D i k)) (ht : ¬ D.snaps[i + 1].time = (D.snaps[i]'(by omega)).time) : MrgAt B w g gb c (mrg D i (k + 1)) := by
  rw [mrg_inner hi, if_neg ht] at h ⊢
  exact h
/-- A mark of the last one goes to the disk. -/
theorem mrg_disk {B g gb c : Nat} {w : World} {D : RVm} {i k : Nat} (hB : B ≤ g) (hi : i < D.snaps.length) (h : MrgAt B w g gb c (mrg D i k)) (hl : i + 1 = D.snaps.length) (ht : D.time = D.snaps[i].time) (hk : k < 16) (hs : D.snaps[i].dirty k = true) :
    MrgAt B (w.setCell ⟨g, 17 + k, none⟩ (.bool true)) g gb c (mrg D i (k + 1)) ∧ Step B rvTypes w (w.setCell ⟨g, 17 + k, none⟩ (.bool true)) := by
  rw [mrg_last hi hl, if_pos ht] at h ⊢
  have hst : Step B rvTypes w (w.setCell ⟨g, 17 + k, none⟩ (.bool true)) := (Step.refl B rvTypes w).set h.row hB (by decide) _
  refine ⟨⟨?_, ?_⟩, hst⟩
  · rw [heap_setCell_same w g (17 + k) _ _ _ h.row, rvArr_setDirty _ _ hk]
    have e := rvArr_congr (D := { D with dirty := setMark (orTo D.dirty D.snaps[i].dirty k) k true }) (D' := { D with dirty := orTo D.dirty D.snaps[i].dirty (k + 1) }) (.slice (some ⟨gb, 0, none⟩) D.snaps.length c) rfl (fun _ _ => rfl) (fun j _ => by
      show setMark _ k true j = orTo D.dirty D.snaps[i].dirty (k + 1) j
      rw [orTo_step]
      unfold setMark
      split
      · rw [hs]; simp
      · rfl) rfl rfl
    exact congrArg (fun a => some (Obj.cells a 60 (0, 0))) e
  · have hO := h.own
    refine ⟨hO.1, ?_⟩
    rcases hO.2 with h' | ⟨gb', cap, cur, hv, hb', hh, r⟩
    · exact .inl h'
    · exact .inr ⟨gb', cap, cur, hv, hb', (Below.heap_setCell _ _ _ _ (types_ne hh h.row (by decide))).trans hh, r⟩
/-- A mark of an inner one goes to the next snapshot. -/
theorem mrg_next {B g gb c : Nat} {w : World} {D : RVm} {i k : Nat} (hi : i + 1 < D.snaps.length) (h : MrgAt B w g gb c (mrg D i k)) (ht : D.snaps[i + 1].time = (D.snaps[i]'(by omega)).time) (hk : k < 16) (hs : (D.snaps[i]'(by omega)).dirty k = true) :
    MrgAt B (w.setCell ⟨gb, (i + 1) * 35 + (19 + k), none⟩ (.bool true)) g gb c (mrg D i (k + 1)) ∧ Step B rvTypes w (w.setCell ⟨gb, (i + 1) * 35 + (19 + k), none⟩ (.bool true)) := by
  rw [mrg_inner hi, if_pos ht] at h ⊢
  obtain ⟨h1, h2⟩ := mrg_store h (i + 1) (by simpa using hi) k hk true
  refine ⟨?_, h2⟩
  simp only [List.getElem_set_self, List.set_set] at h1
  refine ⟨?_, ?_⟩
  · have := h1.row
    simp only [List.length_set] at this ⊢
    exact this
  · have := h1.own
    simp only [List.length_set] at this ⊢
    have e := rsCells_set_congr (L := D.snaps) (q := i + 1) (s := ({ D.snaps[i + 1] with dirty := setMark (orTo D.snaps[i + 1].dirty D.snaps[i].dirty k) k true } : RSn)) (t := ({ D.snaps[i + 1] with dirty := orTo D.snaps[i + 1].dirty D.snaps[i].dirty (k + 1) } : RSn)) (rsArr_congr rfl rfl rfl rfl (fun j _ => by
      show setMark _ k true j = orTo D.snaps[i + 1].dirty D.snaps[i].dirty (k + 1) j
      rw [orTo_step]
      unfold setMark
      split
      · rw [hs]; simp
      · rfl))
    exact Eq.mp (congrArg (fun x => World.ownsRow (w.setCell ⟨gb, (i + 1) * 35 + (19 + k), none⟩ (.bool true)) B 73 35 (.slice (some ⟨gb, 0, none⟩) D.snaps.length c) D.snaps.length x) e) this
end Go.Proofs.Ytmcoenndfbgdfaa
