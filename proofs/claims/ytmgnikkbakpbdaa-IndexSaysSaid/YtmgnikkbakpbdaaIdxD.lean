/- Shared indexes, plainly: what Set does. -/
import Derived.Test.YtmgnikkbakpbdaaIdxC
namespace Go.Proofs.Ytmgnikkbakpbdaa

/-- What was there is there, and refers to the same, and has the same text. -/
structure Keep (X X' : IdxM) : Prop where
  N : ∀ n, (X.N n).refs ≠ 0 → (X'.N n).refs ≠ 0 ∧ (X'.N n).kids = (X.N n).kids ∧ (X'.N n).top = (X.N n).top
  P : ∀ b, (X.P b).refs ≠ 0 → (X'.P b).refs ≠ 0 ∧ (X'.P b).data = (X.P b).data
theorem Keep.refl (X : IdxM) : Keep X X := ⟨fun _ h => ⟨h, rfl, rfl⟩, fun _ h => ⟨h, rfl⟩⟩
theorem Keep.trans {X Y Z : IdxM} (h : Keep X Y) (k : Keep Y Z) : Keep X Z :=
  ⟨fun n hn => by
    obtain ⟨a1, a2, a3⟩ := h.N n hn
    obtain ⟨b1, b2, b3⟩ := k.N n a1
    exact ⟨b1, b2.trans a2, b3.trans a3⟩, fun b hb => by
    obtain ⟨a1, a2⟩ := h.P b hb
    obtain ⟨b1, b2⟩ := k.P b a1
    exact ⟨b1, b2.trans a2⟩⟩

/-- The text that stands at a place of a leaf. -/
def leafText (X : IdxM) (leaf j : Nat) : ByteArray := getText X.P ((X.N leaf).kid j)
theorem get_leaf (X : IdxM) (root i : Nat) : X.get root i = leafText X ((X.N root).kid (i / 4)) (i % 4) := rfl

theorem kid_of_kids {n m : Nod} (h : n.kids = m.kids) (i : Nat) : n.kid i = m.kid i := by
  simp only [Nod.kids, List.cons.injEq, and_true] at h
  obtain ⟨h0, h1, h2, h3⟩ := h
  unfold Nod.kid
  rw [h0, h1, h2, h3]

section
variable {X X' : IdxM} {HR HL HB HR' HL' HB' : List Nat}

theorem Inv.text0 (_h : Inv X HR HL HB) : getText X.P ((0 : Nat) : Int) = ByteArray.empty := by
  unfold getText
  rw [if_neg]
  intro e
  have := (hasBlk_iff X.P _).1 e
  omega
theorem Inv.textOf (h : Inv X HR HL HB) {k : Nat} (hk : (X.P k).refs ≠ 0) : getText X.P (k : Int) = (X.P k).data := by
  unfold getText
  rw [if_pos (by rw [h.has]; simpa using hk)]
  simp
theorem Inv.kid0 (h : Inv X HR HL HB) (j : Nat) : (X.N 0).kid j = 0 := by
  rw [h.ng 0 (zeroN h)]
  unfold Nod.kid sel4 noNod
  split <;> rfl
theorem Inv.leaf0 (h : Inv X HR HL HB) (j : Nat) : leafText X 0 j = ByteArray.empty := by
  unfold leafText
  rw [h.kid0]
  exact h.text0

/-- What a leaf has stays. -/
theorem Keep.leaf (k : Keep X X') (h : Inv X HR HL HB) (h' : Inv X' HR' HL' HB') {leaf : Nat} (hl : leaf = 0 ∨ (X.N leaf).refs ≠ 0 ∧ (X.N leaf).top = false) (j : Nat) : leafText X' leaf j = leafText X leaf j := by
  rcases hl with rfl | ⟨hl, ht⟩
  · rw [h.leaf0, h'.leaf0]
  · obtain ⟨_, e, _⟩ := k.N leaf hl
    unfold leafText
    rw [kid_of_kids e]
    by_cases h0 : (X.N leaf).kid j = 0
    · rw [h0, h.text0, h'.text0]
    · have hp := h.kidF leaf hl ht _ (kid_mem _ j) h0
      obtain ⟨hp', hd⟩ := k.P _ hp
      rw [h.textOf hp, h'.textOf hp', hd]

/-- The kid of a root: nothing, or a leaf. -/
theorem Inv.kidOf (h : Inv X HR HL HB) {root : Nat} (hr : root = 0 ∨ root ∈ HR) (i : Nat) : (X.N root).kid i = 0 ∨ (X.N ((X.N root).kid i)).refs ≠ 0 ∧ (X.N ((X.N root).kid i)).top = false := by
  rcases hr with rfl | hr
  · exact .inl (h.kid0 i)
  · obtain ⟨h1, h2⟩ := h.hr root hr
    by_cases h0 : (X.N root).kid i = 0
    · exact .inl h0
    · exact .inr (h.kidT root h1 h2 _ (kid_mem _ i) h0)

/-- What a root has stays. -/
theorem Keep.get (k : Keep X X') (h : Inv X HR HL HB) (h' : Inv X' HR' HL' HB') {root : Nat} (hr : root = 0 ∨ root ∈ HR) (i : Nat) : X'.get root i = X.get root i := by
  rw [get_leaf, get_leaf]
  have e : (X'.N root).kid (i / 4) = (X.N root).kid (i / 4) := by
    rcases hr with rfl | hr
    · rw [h.kid0, h'.kid0]
    · exact kid_of_kids (k.N root (h.hr root hr).1).2.1 _
  rw [e]
  exact k.leaf h h' (h.kidOf hr _) _

theorem keep_put (_h : Inv X HR HL HB) (data : ByteArray) (he : putErr X.P data = 0) : Keep X { X with P := putP X.P data } ∧ putP X.P data (putId X.P data) = ⟨data, 1⟩ ∧ (∀ b, b ≠ putId X.P data → putP X.P data b = X.P b) ∧ putId X.P data ≠ 0 := by
  obtain ⟨n, _, e, h1, h2, h3, _, _⟩ := putId_of he
  have e2 : putP X.P data = setBlk X.P n ⟨data, 1⟩ := by unfold putP; rw [if_pos he, e]
  have h0 : (X.P n).refs = 0 := by simpa [usedBlk] using h3
  rw [e, e2]
  refine ⟨⟨fun _ h => ⟨h, rfl, rfl⟩, fun b hb => ?_⟩, by simp [setBlk], fun b hb => by simp [setBlk, hb], by omega⟩
  have : b ≠ n := fun x => by subst x; exact hb h0
  simp only [setBlk, this, if_false]
  exact ⟨hb, trivial⟩

theorem keep_leaf (h : Inv X HR HL HB) {a b c d n : Nat} (hff : firstFree 24 (usedNod X.N) = some n) : Keep X (each4 IdxM.refB { X with N := setNod X.N n ⟨a, b, c, d, 1, false⟩ } a b c d) := by
  obtain ⟨h1, h2, h3, _⟩ := firstFree_some hff
  have h0 : (X.N n).refs = 0 := by simpa [usedNod] using h3
  show Keep X ⟨addRef (addRef (addRef (addRef X.P a) b) c) d, setNod X.N n ⟨a, b, c, d, 1, false⟩⟩
  refine ⟨fun m hm => ?_, fun i hi => ?_⟩
  · have e : m ≠ n := fun e => by subst e; exact hm h0
    simp only [setNod_other _ _ e]; exact ⟨hm, trivial, trivial⟩
  · simp only [addRef4_at h.pl]
    exact ⟨by omega, trivial⟩
theorem keep_root (h : Inv X HR HL HB) {a b c d n : Nat} (hff : firstFree 24 (usedNod X.N) = some n) :
    Keep X (each4 IdxM.refN { X with N := setNod X.N n ⟨a, b, c, d, 1, true⟩ } a b c d) ∧ ((each4 IdxM.refN { X with N := setNod X.N n ⟨a, b, c, d, 1, true⟩ } a b c d).N n).kids = [a, b, c, d] ∧ ∀ m, m ≠ n → ((each4 IdxM.refN { X with N := setNod X.N n ⟨a, b, c, d, 1, true⟩ } a b c d).N m).refs = (X.N m).refs + if (X.N m).refs ≠ 0 then [a, b, c, d].count m else 0 := by
  obtain ⟨h1, h2, h3, _⟩ := firstFree_some hff
  have h0 : (X.N n).refs = 0 := by simpa [usedNod] using h3
  have hl1 : ∀ m, (setNod X.N n ⟨a, b, c, d, 1, true⟩ m).refs ≠ 0 → 1 ≤ m ∧ m ≤ 24 := fun m hm => by
    by_cases e : m = n
    · subst e; exact ⟨h1, h2⟩
    · rw [setNod_other _ _ e] at hm; exact h.nl m hm
  show Keep X ⟨X.P, incN (incN (incN (incN (setNod X.N n ⟨a, b, c, d, 1, true⟩) a) b) c) d⟩ ∧ (incN (incN (incN (incN (setNod X.N n ⟨a, b, c, d, 1, true⟩) a) b) c) d n).kids = _ ∧ ∀ m, m ≠ n → (incN (incN (incN (incN (setNod X.N n ⟨a, b, c, d, 1, true⟩) a) b) c) d m).refs = _
  refine ⟨⟨fun m hm => ?_, fun i hi => ⟨hi, rfl⟩⟩, ?_, fun m hm => ?_⟩
  · have e : m ≠ n := fun e => by subst e; exact hm h0
    simp only [incN4_at hl1, setNod_other _ _ e]
    exact ⟨by omega, rfl, trivial⟩
  · rw [incN4_at hl1, setNod_same]; rfl
  · rw [incN4_at hl1, setNod_other _ _ hm]

theorem keep_unref (h : Inv X HR HL HB) (k : Nat) (hk : (X.P k).refs ≠ 1) : Keep X (X.unrefB k) ∧ ∀ i, (X.P i).refs = 0 → ((X.unrefB k).P i).refs = 0 := by
  refine ⟨⟨fun _ h => ⟨h, rfl, rfl⟩, fun i hi => ?_⟩, fun i hi => ?_⟩
  · show (subRef X.P k i).refs ≠ 0 ∧ (subRef X.P k i).data = _
    rw [subRef_at h.pl]
    by_cases e : i = k
    · subst e
      rw [if_pos ⟨hi, rfl⟩, if_neg hk]
      exact ⟨by simp only; omega, rfl⟩
    · rw [if_neg (fun x => e x.2)]; exact ⟨hi, rfl⟩
  · show (subRef X.P k i).refs = 0
    rw [subRef_at h.pl, if_neg (fun x => x.1 hi)]; exact hi
theorem keep_relLeaf (h : Inv X HR HL HB) (l : Nat) (hl : (X.N l).refs ≠ 1) : Keep X (X.relLeaf l) ∧ (∀ n, (X.N n).refs = 0 → ((X.relLeaf l).N n).refs = 0) ∧ (X.relLeaf l).P = X.P := by
  unfold IdxM.relLeaf releaseX
  by_cases hh : hasNod X.N l = true
  · rw [if_pos hh, if_neg hl]
    have hp : (X.N l).refs ≠ 0 := by rw [h.hasN] at hh; simpa using hh
    refine ⟨⟨fun n hn => ?_, fun b hb => ⟨hb, rfl⟩⟩, fun n hn => ?_, rfl⟩
    · by_cases e : n = l
      · subst e; simp only [setNod_same]; exact ⟨by omega, rfl, trivial⟩
      · simp only [setNod_other _ _ e]; exact ⟨hn, trivial, trivial⟩
    · by_cases e : n = l
      · subst e; exact absurd hn hp
      · simp only [setNod_other _ _ e]; exact hn
  · rw [if_neg hh]; exact ⟨Keep.refl X, fun _ h => h, rfl⟩
end
end Go.Proofs.Ytmgnikkbakpbdaa
