/- Shared indexes, plainly: Set as a whole. -/
import Derived.Test.YtmgnikkbakpbdaaIdxE
namespace Go.Proofs.Ytmgnikkbakpbdaa

theorem filter_or (p q r : Int → Bool) (h : ∀ x, p x = true → q x = true ∨ r x = true) : ∀ l : List Int, (l.filter p).length ≤ (l.filter q).length + (l.filter r).length
  | [] => by simp
  | x :: l => by
    have ih := filter_or p q r h l
    have hx := h x
    cases hp : p x <;> cases hq : q x <;> cases hr : r x <;> simp_all <;> omega
theorem filter_one (k : Int) : ∀ n : Nat, ((((List.range n).map fun i => ((i : Nat) : Int) + 1).filter fun x => decide (x = k))).length ≤ 1
  | 0 => by simp
  | n + 1 => by
    have ih := filter_one k n
    rw [List.range_succ, List.map_append, List.filter_append, List.length_append]
    simp only [List.map_cons, List.map_nil]
    by_cases e : ((n : Int) + 1) = k
    · have h0 : (((List.range n).map fun i => ((i : Nat) : Int) + 1).filter fun x => decide (x = k)) = [] := by
        rw [List.filter_eq_nil_iff]
        intro x hx
        obtain ⟨i, hi, rfl⟩ := List.mem_map.1 hx
        have := List.mem_range.1 hi
        simp; omega
      rw [h0]
      simp only [List.filter_cons, List.filter_nil]
      split <;> simp
    · simp only [List.filter_cons, List.filter_nil]
      rw [if_neg (by simpa using e)]
      simpa using ih
theorem keysOf_add {N : Nat} {f g : Int → Option Value} (k : Int) (h : ∀ m, (g m).isSome = true → (f m).isSome = true ∨ m = k) : (keysOf N g).length ≤ (keysOf N f).length + 1 := by
  have h1 := filter_or (fun m => (g m).isSome) (fun m => (f m).isSome) (fun m => decide (m = k)) (fun x hx => by
    rcases h x hx with h | h
    · exact .inl h
    · exact .inr (by simp [h])) ((List.range N).map fun i => ((i : Nat) : Int) + 1)
  have h2 := filter_one k N
  unfold keysOf
  omega

theorem numsOf_add {p q : PoolM} (k : Nat) (h : ∀ n, (q n).refs ≠ 0 → (p n).refs ≠ 0 ∨ n = k) : (numsOf q).length ≤ (numsOf p).length + 1 := by
  refine keysOf_add (k : Int) fun m hm => ?_
  rw [poolMap_isSome, hasBlk_iff] at hm ⊢
  rcases h m.toNat hm.2.2 with h | h
  · exact .inl ⟨hm.1, hm.2.1, h⟩
  · exact .inr (by omega)
theorem nodsOf_add {p q : NodM} (k l : Nat) (h : ∀ n, (q n).refs ≠ 0 → (p n).refs ≠ 0 ∨ n = k ∨ n = l) : (nodsOf q).length ≤ (nodsOf p).length + 2 := by
  have h1 : (keysOf 24 fun m => if m = (k : Int) ∧ 1 ≤ m then some (Value.bool true) else nodMap p m).length ≤ (nodsOf p).length + 1 := keysOf_add (k : Int) fun m hm => by
    by_cases e : m = (k : Int)
    · exact .inr e
    · rw [if_neg (fun x => e x.1)] at hm; exact .inl hm
  have h2 : (nodsOf q).length ≤ (keysOf 24 fun m => if m = (k : Int) ∧ 1 ≤ m then some (Value.bool true) else nodMap p m).length + 1 := keysOf_add (l : Int) fun m hm => by
    rw [nodMap_isSome, hasNod_iff] at hm
    rcases h m.toNat hm.2.2 with h | h | h
    · left
      split
      · rfl
      · rw [nodMap_isSome, hasNod_iff]; exact ⟨hm.1, hm.2.1, h⟩
    · left
      rw [if_pos ⟨by omega, hm.1⟩]; rfl
    · right; omega
  omega

/-- Set, where it does not fail. -/
theorem setX_good {X : IdxM} {HR : List Nat} {root at_ : Nat} {data : ByteArray} (h : Inv X HR [] []) (hr : root = 0 ∨ root ∈ HR) (ha : at_ < 16) (he : (setX X root at_ data).2.2 = 0) :
    Inv (setX X root at_ data).1 (opt (setX X root at_ data).2.1 HR) [] [] ∧ Keep X (setX X root at_ data).1 ∧ (∀ i, i < 16 → (setX X root at_ data).1.get (setX X root at_ data).2.1 i = if i = at_ then data else X.get root i) ∧
      (numsOf (setX X root at_ data).1.P).length ≤ (numsOf X.P).length + 1 ∧ (nodsOf (setX X root at_ data).1.N).length ≤ (nodsOf X.N).length + 2 := by
  by_cases hd : data.size = 0
  · obtain rfl : data = ByteArray.empty := by
      apply ByteArray.ext
      exact Array.eq_empty_of_size_eq_zero hd
    rw [show setX X root at_ ByteArray.empty = setRest X root at_ 0 from rfl] at he ⊢
    obtain ⟨a1, a2, a3, a4, l, a5⟩ := setRest_good (b := 0) (data := ByteArray.empty) h hr ha (.inl ⟨rfl, rfl⟩) he
    exact ⟨a1, a2, a3, numsOf_add 0 fun n hn => .inl (a4 n hn), nodsOf_add l _ a5⟩
  · by_cases hp : putErr X.P data = 0
    · have e : setX X root at_ data = setRest { X with P := putP X.P data } root at_ (putId X.P data) := by unfold setX; rw [if_neg hd, if_pos hp]
      rw [e] at he ⊢
      obtain ⟨k1, k2, k3, k4⟩ := keep_put h data hp
      have h1 := h.put data hp
      have h1' : Inv { X with P := putP X.P data } HR [] (opt (putId X.P data) []) := by unfold opt; rw [if_neg k4]; exact h1
      obtain ⟨a1, a2, a3, a4, l, a5⟩ := setRest_good h1' hr ha (.inr ⟨k4, k2⟩) he
      refine ⟨a1, k1.trans a2, fun i hi => ?_, numsOf_add (putId X.P data) fun n hn => ?_, nodsOf_add l _ a5⟩
      · rw [a3 i hi, k1.get h h1 hr]
      · have := a4 n hn
        by_cases e : n = putId X.P data
        · exact .inr e
        · left
          rw [← k3 n e]; exact this
    · have e : setX X root at_ data = (X, 0, putErr X.P data) := by unfold setX; rw [if_neg hd, if_neg hp]
      rw [e] at he
      exact absurd he hp

/-- The numbers of its errors. -/
theorem setX_err (X : IdxM) (root at_ : Nat) (data : ByteArray) : (setX X root at_ data).2.2 = 0 ∨ (setX X root at_ data).2.2 = 8 ∨ (setX X root at_ data).2.2 = 3 ∧ 6 < data.size := by
  have rest : ∀ (Y : IdxM) (b : Nat), (setRest Y root at_ b).2.2 = 0 ∨ (setRest Y root at_ b).2.2 = 8 := fun Y b => by
    unfold setRest
    simp only
    split
    · exact createErr_cases _ _ _ _ _
    · exact createErr_cases _ _ _ _ _
  unfold setX
  split
  · rcases rest X 0 with h | h
    · exact .inl h
    · exact .inr (.inl h)
  · rename_i hd
    split
    · rcases rest { X with P := putP X.P data } (putId X.P data) with h | h
      · exact .inl h
      · exact .inr (.inl h)
    · rename_i hp
      rcases putErr_cases X.P data with h | h | h
      · exact absurd h hp
      · refine .inr (.inr ⟨h, ?_⟩)
        unfold putErr at h
        split at h
        · omega
        · split at h <;> cases h
      · exact .inr (.inl h)
theorem setX_id (X : IdxM) (root at_ : Nat) (data : ByteArray) : (setX X root at_ data).2.1 ≤ 24 := by
  have rest : ∀ (Y : IdxM) (b : Nat), (setRest Y root at_ b).2.1 ≤ 24 := fun Y b => by
    unfold setRest
    simp only
    split
    · simp
    · exact createId_le _ _ _ _ _
  unfold setX
  split
  · exact rest _ _
  · split
    · exact rest _ _
    · simp
end Go.Proofs.Ytmgnikkbakpbdaa
