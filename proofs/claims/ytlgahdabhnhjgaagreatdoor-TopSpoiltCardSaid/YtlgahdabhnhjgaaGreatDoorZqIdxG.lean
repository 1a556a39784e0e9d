/- Shared indexes, plainly: Share, and what Free leaves. -/
import Derived.Test.YtlgahdabhnhjgaaGreatDoorZqIdxE
/- Shared indexes, plainly: Set as a whole. -/
namespace Go.Proofs.YtlgahdabhnhjgaaGreatDoor

theorem filter_or (p q r : Int → Bool) (h : ∀ x, p x = true → q x = true ∨ r x = true) : ∀ l : List Int, (l.filter p).length ≤ (l.filter q).length + (l.filter r).length
  | [] => by simp
  | x :: l => by
    have ih := filter_or p q r h l
    have hx := h x
    cases hp : p x <;> cases hq : q x <;> cases hr : r x <;> simp_all <;> omega
theorem filter_one (k : Int) : ∀ n : Nat, ((((List.range n).map fun i => ((i : Nat) : Int) + 1).filter fun x => decide (x = k))).length ≤ 1
  | 0 => by simp
  | n + 1 => by
    have ih := filter_one k n
    rw [List.range_succ, List.map_append, List.filter_append, List.length_append]
    simp only [List.map_cons, List.map_nil]
    by_cases e : ((n : Int) + 1) = k
    · have h0 : (((List.range n).map fun i => ((i : Nat) : Int) + 1).filter fun x => decide (x = k)) = [] := by
        rw [List.filter_eq_nil_iff]
        intro x hx
        obtain ⟨i, hi, rfl⟩ := List.mem_map.1 hx
        have := List.mem_range.1 hi
        simp; omega
      rw [h0]
      simp only [List.filter_cons, List.filter_nil]
      split <;> simp
    · simp only [List.filter_cons, List.filter_nil]
      rw [if_neg (by simpa using e)]
      simpa using ih
theorem keysOf_add {N : Nat} {f g : Int → Option Value} (k : Int) (h : ∀ m, (g m).isSome = true → (f m).isSome = true ∨ m = k) : (keysOf N g).length ≤ (keysOf N f).length + 1 := by
  have h1 := filter_or (fun m => (g m).isSome) (fun m => (f m).isSome) (fun m => decide (m = k)) (fun x hx => by
    rcases h x hx with h | h
    · exact .inl h
    · exact .inr (by simp [h])) ((List.range N).map fun i => ((i : Nat) : Int) + 1)
  have h2 := filter_one k N
  unfold keysOf
  omega

theorem numsOf_add {p q : PoolM} (k : Nat) (h : ∀ n, (q n).refs ≠ 0 → (p n).refs ≠ 0 ∨ n = k) : (numsOf q).length ≤ (numsOf p).length + 1 := by
  refine keysOf_add (k : Int) fun m hm => ?_
  rw [poolMap_isSome, hasBlk_iff] at hm ⊢
  rcases h m.toNat hm.2.2 with h | h
  · exact .inl ⟨hm.1, hm.2.1, h⟩
  · exact .inr (by omega)
theorem nodsOf_add {p q : NodM} (k l : Nat) (h : ∀ n, (q n).refs ≠ 0 → (p n).refs ≠ 0 ∨ n = k ∨ n = l) : (nodsOf q).length ≤ (nodsOf p).length + 2 := by
  have h1 : (keysOf 24 fun m => if m = (k : Int) ∧ 1 ≤ m then some (Value.bool true) else nodMap p m).length ≤ (nodsOf p).length + 1 := keysOf_add (k : Int) fun m hm => by
    by_cases e : m = (k : Int)
    · exact .inr e
    · rw [if_neg (fun x => e x.1)] at hm; exact .inl hm
  have h2 : (nodsOf q).length ≤ (keysOf 24 fun m => if m = (k : Int) ∧ 1 ≤ m then some (Value.bool true) else nodMap p m).length + 1 := keysOf_add (l : Int) fun m hm => by
    rw [nodMap_isSome, hasNod_iff] at hm
    rcases h m.toNat hm.2.2 with h | h | h
    · left
      split
      · rfl
      · rw [nodMap_isSome, hasNod_iff]; exact ⟨hm.1, hm.2.1, h⟩
    · left
      rw [if_pos ⟨by omega, hm.1⟩]; rfl
    · right; omega
  omega

/-- Set, where it does not fail. -/
theorem setX_good {X : IdxM} {HR : List Nat} {root at_ : Nat} {data : ByteArray} (h : Inv X HR [] []) (hr : root = 0 ∨ root ∈ HR) (ha : at_ < 16) (he : (setX X root at_ data).2.2 = 0) :
    Inv (setX X root at_ data).1 (opt (setX X root at_ data).2.1 HR) [] [] ∧ Keep X (setX X root at_ data).1 ∧ (∀ i, i < 16 → (setX X root at_ data).1.get (setX X root at_ data).2.1 i = if i = at_ then data else X.get root i) ∧
      (numsOf (setX X root at_ data).1.P).length ≤ (numsOf X.P).length + 1 ∧ (nodsOf (setX X root at_ data).1.N).length ≤ (nodsOf X.N).length + 2 := by
  by_cases hd : data.size = 0
  · obtain rfl : data = ByteArray.empty := by
      apply ByteArray.ext
      exact Array.eq_empty_of_size_eq_zero hd
    rw [show setX X root at_ ByteArray.empty = setRest X root at_ 0 from rfl] at he ⊢
    obtain ⟨a1, a2, a3, a4, l, a5⟩ := setRest_good (b := 0) (data := ByteArray.empty) h hr ha (.inl ⟨rfl, rfl⟩) he
    exact ⟨a1, a2, a3, numsOf_add 0 fun n hn => .inl (a4 n hn), nodsOf_add l _ a5⟩
  · by_cases hp : putErr X.P data = 0
    · have e : setX X root at_ data = setRest { X with P := putP X.P data } root at_ (putId X.P data) := by unfold setX; rw [if_neg hd, if_pos hp]
      rw [e] at he ⊢
      obtain ⟨k1, k2, k3, k4⟩ := keep_put h data hp
      have h1 := h.put data hp
      have h1' : Inv { X with P := putP X.P data } HR [] (opt (putId X.P data) []) := by unfold opt; rw [if_neg k4]; exact h1
      obtain ⟨a1, a2, a3, a4, l, a5⟩ := setRest_good h1' hr ha (.inr ⟨k4, k2⟩) he
      refine ⟨a1, k1.trans a2, fun i hi => ?_, numsOf_add (putId X.P data) fun n hn => ?_, nodsOf_add l _ a5⟩
      · rw [a3 i hi, k1.get h h1 hr]
      · have := a4 n hn
        by_cases e : n = putId X.P data
        · exact .inr e
        · left
          rw [← k3 n e]; exact this
    · have e : setX X root at_ data = (X, 0, putErr X.P data) := by unfold setX; rw [if_neg hd, if_neg hp]
      rw [e] at he
      exact absurd he hp

/-- The numbers of its errors. -/
theorem setX_err (X : IdxM) (root at_ : Nat) (data : ByteArray) : (setX X root at_ data).2.2 = 0 ∨ (setX X root at_ data).2.2 = 8 ∨ (setX X root at_ data).2.2 = 3 ∧ 6 < data.size := by
  have rest : ∀ (Y : IdxM) (b : Nat), (setRest Y root at_ b).2.2 = 0 ∨ (setRest Y root at_ b).2.2 = 8 := fun Y b => by
    unfold setRest
    simp only
    split
    · exact createErr_cases _ _ _ _ _
    · exact createErr_cases _ _ _ _ _
  unfold setX
  split
  · rcases rest X 0 with h | h
    · exact .inl h
    · exact .inr (.inl h)
  · rename_i hd
    split
    · rcases rest { X with P := putP X.P data } (putId X.P data) with h | h
      · exact .inl h
      · exact .inr (.inl h)
    · rename_i hp
      rcases putErr_cases X.P data with h | h | h
      · exact absurd h hp
      · refine .inr (.inr ⟨h, ?_⟩)
        unfold putErr at h
        split at h
        · omega
        · split at h <;> cases h
      · exact .inr (.inl h)
theorem setX_id (X : IdxM) (root at_ : Nat) (data : ByteArray) : (setX X root at_ data).2.1 ≤ 24 := by
  have rest : ∀ (Y : IdxM) (b : Nat), (setRest Y root at_ b).2.1 ≤ 24 := fun Y b => by
    unfold setRest
    simp only
    split
    · simp
    · exact createId_le _ _ _ _ _
  unfold setX
  split
  · exact rest _ _
  · split
    · exact rest _ _
    · simp
end Go.Proofs.YtlgahdabhnhjgaaGreatDoor

/- Shared indexes, plainly: Share, and what Free leaves. -/
namespace Go.Proofs.YtlgahdabhnhjgaaGreatDoor

/-- One reference more to a root that is held. -/
theorem Inv.share {X : IdxM} {HR HL HB : List Nat} (h : Inv X HR HL HB) {root : Nat} (hr : root = 0 ∨ root ∈ HR) : Inv (X.refN root) (opt root HR) HL HB ∧ Keep X (X.refN root) := by
  have hat := incN_at h.nl root
  have hz : ∀ m, ((incN X.N root m).refs = 0 ↔ (X.N m).refs = 0) ∧ (incN X.N root m).top = (X.N m).top ∧ (incN X.N root m).kids = (X.N m).kids := fun m => by
    rw [hat]
    refine ⟨?_, rfl, rfl⟩
    show (X.N m).refs + _ = 0 ↔ _
    by_cases h0 : (X.N m).refs = 0
    · simp [h0]
    · constructor
      · intro e; omega
      · intro e; exact absurd e h0
  have hg : ∀ m, (X.N m).refs = 0 → incN X.N root m = X.N m := fun m hm => by
    rw [hat]
    simp [hm]
    rw [← hm]
  have hc := fun T k => refsTo_congr (T := T) hz k
  refine ⟨⟨h.pl, h.pg, fun m hm => h.nl m fun e => hm ((hz m).1.2 e), fun m hm => ?_, fun m hm ht => ?_, fun m hm ht => ?_, fun b hb => ?_, fun m hm ht k hk hk0 => ?_, fun m hm ht k hk hk0 => ?_, fun m hm => ?_, fun m hm => ?_, h.hb⟩, ⟨fun m hm => ⟨fun e => hm ((hz m).1.1 e), (hz m).2.2, (hz m).2.1⟩, fun b hb => ⟨hb, rfl⟩⟩⟩
  · have hm' := (hz m).1.1 hm
    show incN X.N root m = _
    rw [hg m hm']; exact h.ng m hm'
  · have hm' : (X.N m).refs ≠ 0 := fun x => hm ((hz m).1.2 x)
    have ht' : (X.N m).top = true := by rw [← (hz m).2.1]; exact ht
    have h0 : m ≠ 0 := fun e => by subst e; exact hm' (zeroN h)
    show (incN X.N root m).refs = _
    rw [hat, count_opt h0, ← h.top m hm' ht']
    show (X.N m).refs + _ = _
    by_cases e : root = m
    · subst e; simp [hm']
    · rw [if_neg e, if_neg (fun x => e x.2.symm)]
  · have hm' : (X.N m).refs ≠ 0 := fun x => hm ((hz m).1.2 x)
    have ht' : (X.N m).top = false := by rw [← (hz m).2.1]; exact ht
    show (incN X.N root m).refs = _ + refsTo true (incN X.N root) m
    rw [hc, ← h.leaf m hm' ht', hat]
    show (X.N m).refs + _ = _
    rw [if_neg]
    · omega
    · rintro ⟨_, e⟩
      subst e
      rcases hr with e | e
      · subst e; exact hm' (zeroN h)
      · rw [(h.hr m e).2] at ht'; cases ht'
  · show (X.P b).refs = _ + refsTo false (incN X.N root) b
    rw [hc]; exact h.blk b hb
  · have hm' : (X.N m).refs ≠ 0 := fun x => hm ((hz m).1.2 x)
    have ht' : (X.N m).top = true := by rw [← (hz m).2.1]; exact ht
    have hk' : k ∈ (X.N m).kids := by rw [← (hz m).2.2]; exact hk
    obtain ⟨a1, a2⟩ := h.kidT m hm' ht' k hk' hk0
    exact ⟨fun x => a1 ((hz k).1.1 x), (hz k).2.1.trans a2⟩
  · have hm' : (X.N m).refs ≠ 0 := fun x => hm ((hz m).1.2 x)
    have ht' : (X.N m).top = false := by rw [← (hz m).2.1]; exact ht
    have hk' : k ∈ (X.N m).kids := by rw [← (hz m).2.2]; exact hk
    exact h.kidF m hm' ht' k hk' hk0
  · rcases mem_opt hm with ⟨rfl, h0⟩ | hm
    · rcases hr with e | e
      · exact absurd e h0
      · obtain ⟨a1, a2⟩ := h.hr m e
        exact ⟨fun x => a1 ((hz m).1.1 x), (hz m).2.1.trans a2⟩
    · obtain ⟨a1, a2⟩ := h.hr m hm
      exact ⟨fun x => a1 ((hz m).1.1 x), (hz m).2.1.trans a2⟩
  · obtain ⟨a1, a2⟩ := h.hl m hm
    exact ⟨fun x => a1 ((hz m).1.1 x), (hz m).2.1.trans a2⟩

/-- What is still there refers to the same, and has the same text. -/
structure Shrink (X X' : IdxM) : Prop where
  N : ∀ n, (X'.N n).refs ≠ 0 → (X.N n).refs ≠ 0 ∧ (X'.N n).kids = (X.N n).kids ∧ (X'.N n).top = (X.N n).top
  P : ∀ b, (X'.P b).refs ≠ 0 → (X.P b).refs ≠ 0 ∧ (X'.P b).data = (X.P b).data
theorem Shrink.refl (X : IdxM) : Shrink X X := ⟨fun _ h => ⟨h, rfl, rfl⟩, fun _ h => ⟨h, rfl⟩⟩
theorem Shrink.trans {X Y Z : IdxM} (h : Shrink X Y) (k : Shrink Y Z) : Shrink X Z :=
  ⟨fun n hn => by
    obtain ⟨b1, b2, b3⟩ := k.N n hn
    obtain ⟨a1, a2, a3⟩ := h.N n b1
    exact ⟨a1, b2.trans a2, b3.trans a3⟩, fun b hb => by
    obtain ⟨b1, b2⟩ := k.P b hb
    obtain ⟨a1, a2⟩ := h.P b b1
    exact ⟨a1, b2.trans a2⟩⟩

theorem shrink_unref (X : IdxM) (k : Nat) : Shrink X (X.unrefB k) := by
  refine ⟨fun n hn => ⟨hn, rfl, rfl⟩, fun b hb => ?_⟩
  unfold IdxM.unrefB subRef at hb ⊢
  by_cases hh : hasBlk X.P k = true
  · simp only [hh, if_true] at hb ⊢
    simp only [Int.toNat_natCast, setBlk] at hb ⊢
    by_cases e : b = k
    · subst e
      simp only [if_true] at hb ⊢
      split at hb
      · exact absurd rfl hb
      · rename_i h1
        rw [if_neg h1]
        have := ((hasBlk_iff X.P b).1 hh).2.2
        exact ⟨by simpa using this, rfl⟩
    · simp only [e, if_false] at hb ⊢
      exact ⟨hb, by simp⟩
  · simp only [hh] at hb ⊢
    exact ⟨hb, rfl⟩
theorem shrink_release (op : IdxM → Nat → IdxM) (hop : ∀ X k, Shrink X (op X k)) (X : IdxM) (id : Nat) : Shrink X (releaseX op X id) := by
  unfold releaseX
  by_cases hh : hasNod X.N id = true
  · rw [if_pos hh]
    have h3 := ((hasNod_iff X.N id).1 hh).2.2
    simp only [Int.toNat_natCast] at h3
    split
    · refine Shrink.trans ?_ (Shrink.trans (hop _ _) (Shrink.trans (hop _ _) (Shrink.trans (hop _ _) (hop _ _))))
      refine ⟨fun n hn => ?_, fun b hb => ⟨hb, rfl⟩⟩
      by_cases e : n = id
      · subst e; exact absurd (by show (setNod X.N n noNod n).refs = 0; rw [setNod_same]; rfl) hn
      · have : setNod X.N id noNod n = X.N n := setNod_other _ _ e
        simp only [this] at hn ⊢
        exact ⟨hn, by simp, by simp⟩
    · refine ⟨fun n hn => ?_, fun b hb => ⟨hb, rfl⟩⟩
      by_cases e : n = id
      · subst e
        show _ ∧ (setNod X.N n _ n).kids = _ ∧ (setNod X.N n _ n).top = _
        rw [setNod_same]
        exact ⟨h3, rfl, rfl⟩
      · have : setNod X.N id { X.N id with refs := (X.N id).refs - 1 } n = X.N n := setNod_other _ _ e
        simp only [this] at hn ⊢
        exact ⟨hn, by simp, by simp⟩
  · rw [if_neg hh]; exact Shrink.refl X
theorem shrink_free (X : IdxM) (id : Nat) : Shrink X (X.free id) := shrink_release _ (fun X k => shrink_release _ shrink_unref X k) X id

/-- What a root has stays while it is held. -/
theorem Shrink.get {X X' : IdxM} {HR HL HB HR' HL' HB' : List Nat} (k : Shrink X X') (h : Inv X HR HL HB) (h' : Inv X' HR' HL' HB') {root : Nat} (hr : root = 0 ∨ root ∈ HR') (i : Nat) : X'.get root i = X.get root i := by
  rw [get_leaf, get_leaf]
  have e : (X'.N root).kid (i / 4) = (X.N root).kid (i / 4) := by
    rcases hr with rfl | hr
    · rw [h.kid0, h'.kid0]
    · exact kid_of_kids (k.N root (h'.hr root hr).1).2.1 _
  have hk := h'.kidOf hr (i / 4)
  rw [e] at hk ⊢
  generalize (X.N root).kid (i / 4) = leaf at hk ⊢
  rcases hk with rfl | ⟨hl, ht⟩
  · rw [h.leaf0, h'.leaf0]
  · obtain ⟨_, e, _⟩ := k.N leaf hl
    unfold leafText
    rw [kid_of_kids e]
    by_cases h0 : (X.N leaf).kid (i % 4) = 0
    · rw [h0, h.text0, h'.text0]
    · have hp' := h'.kidF leaf hl ht _ (kid_mem _ (i % 4)) (by rw [kid_of_kids e]; exact h0)
      rw [kid_of_kids e] at hp'
      obtain ⟨hp, hd⟩ := k.P _ hp'
      rw [h.textOf hp, h'.textOf hp', hd]
end Go.Proofs.YtlgahdabhnhjgaaGreatDoor
