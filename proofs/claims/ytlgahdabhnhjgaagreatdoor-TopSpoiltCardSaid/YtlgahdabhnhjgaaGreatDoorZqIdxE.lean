/- Shared indexes, plainly: Set makes a root that differs from the old one at one place, and keeps all others. -/
import Derived.Test.YtlgahdabhnhjgaaGreatDoorZqIdxC
/- Shared indexes, plainly: what Set does. -/
namespace Go.Proofs.YtlgahdabhnhjgaaGreatDoor

/-- What was there is there, and refers to the same, and has the same text. -/
structure Keep (X X' : IdxM) : Prop where
  N : ∀ n, (X.N n).refs ≠ 0 → (X'.N n).refs ≠ 0 ∧ (X'.N n).kids = (X.N n).kids ∧ (X'.N n).top = (X.N n).top
  P : ∀ b, (X.P b).refs ≠ 0 → (X'.P b).refs ≠ 0 ∧ (X'.P b).data = (X.P b).data
theorem Keep.refl (X : IdxM) : Keep X X := ⟨fun _ h => ⟨h, rfl, rfl⟩, fun _ h => ⟨h, rfl⟩⟩
theorem Keep.trans {X Y Z : IdxM} (h : Keep X Y) (k : Keep Y Z) : Keep X Z :=
  ⟨fun n hn => by
    obtain ⟨a1, a2, a3⟩ := h.N n hn
    obtain ⟨b1, b2, b3⟩ := k.N n a1
    exact ⟨b1, b2.trans a2, b3.trans a3⟩, fun b hb => by
    obtain ⟨a1, a2⟩ := h.P b hb
    obtain ⟨b1, b2⟩ := k.P b a1
    exact ⟨b1, b2.trans a2⟩⟩

/-- The text that stands at a place of a leaf. -/
def leafText (X : IdxM) (leaf j : Nat) : ByteArray := getText X.P ((X.N leaf).kid j)
theorem get_leaf (X : IdxM) (root i : Nat) : X.get root i = leafText X ((X.N root).kid (i / 4)) (i % 4) := rfl

theorem kid_of_kids {n m : Nod} (h : n.kids = m.kids) (i : Nat) : n.kid i = m.kid i := by
  simp only [Nod.kids, List.cons.injEq, and_true] at h
  obtain ⟨h0, h1, h2, h3⟩ := h
  unfold Nod.kid
  rw [h0, h1, h2, h3]

section
variable {X X' : IdxM} {HR HL HB HR' HL' HB' : List Nat}

theorem Inv.text0 (_h : Inv X HR HL HB) : getText X.P ((0 : Nat) : Int) = ByteArray.empty := by
  unfold getText
  rw [if_neg]
  intro e
  have := (hasBlk_iff X.P _).1 e
  omega
theorem Inv.textOf (h : Inv X HR HL HB) {k : Nat} (hk : (X.P k).refs ≠ 0) : getText X.P (k : Int) = (X.P k).data := by
  unfold getText
  rw [if_pos (by rw [h.has]; simpa using hk)]
  simp
theorem Inv.kid0 (h : Inv X HR HL HB) (j : Nat) : (X.N 0).kid j = 0 := by
  rw [h.ng 0 (zeroN h)]
  unfold Nod.kid sel4 noNod
  split <;> rfl
theorem Inv.leaf0 (h : Inv X HR HL HB) (j : Nat) : leafText X 0 j = ByteArray.empty := by
  unfold leafText
  rw [h.kid0]
  exact h.text0

/-- What a leaf has stays. -/
theorem Keep.leaf (k : Keep X X') (h : Inv X HR HL HB) (h' : Inv X' HR' HL' HB') {leaf : Nat} (hl : leaf = 0 ∨ (X.N leaf).refs ≠ 0 ∧ (X.N leaf).top = false) (j : Nat) : leafText X' leaf j = leafText X leaf j := by
  rcases hl with rfl | ⟨hl, ht⟩
  · rw [h.leaf0, h'.leaf0]
  · obtain ⟨_, e, _⟩ := k.N leaf hl
    unfold leafText
    rw [kid_of_kids e]
    by_cases h0 : (X.N leaf).kid j = 0
    · rw [h0, h.text0, h'.text0]
    · have hp := h.kidF leaf hl ht _ (kid_mem _ j) h0
      obtain ⟨hp', hd⟩ := k.P _ hp
      rw [h.textOf hp, h'.textOf hp', hd]

/-- The kid of a root: nothing, or a leaf. -/
theorem Inv.kidOf (h : Inv X HR HL HB) {root : Nat} (hr : root = 0 ∨ root ∈ HR) (i : Nat) : (X.N root).kid i = 0 ∨ (X.N ((X.N root).kid i)).refs ≠ 0 ∧ (X.N ((X.N root).kid i)).top = false := by
  rcases hr with rfl | hr
  · exact .inl (h.kid0 i)
  · obtain ⟨h1, h2⟩ := h.hr root hr
    by_cases h0 : (X.N root).kid i = 0
    · exact .inl h0
    · exact .inr (h.kidT root h1 h2 _ (kid_mem _ i) h0)

/-- What a root has stays. -/
theorem Keep.get (k : Keep X X') (h : Inv X HR HL HB) (h' : Inv X' HR' HL' HB') {root : Nat} (hr : root = 0 ∨ root ∈ HR) (i : Nat) : X'.get root i = X.get root i := by
  rw [get_leaf, get_leaf]
  have e : (X'.N root).kid (i / 4) = (X.N root).kid (i / 4) := by
    rcases hr with rfl | hr
    · rw [h.kid0, h'.kid0]
    · exact kid_of_kids (k.N root (h.hr root hr).1).2.1 _
  rw [e]
  exact k.leaf h h' (h.kidOf hr _) _

theorem keep_put (_h : Inv X HR HL HB) (data : ByteArray) (he : putErr X.P data = 0) : Keep X { X with P := putP X.P data } ∧ putP X.P data (putId X.P data) = ⟨data, 1⟩ ∧ (∀ b, b ≠ putId X.P data → putP X.P data b = X.P b) ∧ putId X.P data ≠ 0 := by
  obtain ⟨n, _, e, h1, h2, h3, _, _⟩ := putId_of he
  have e2 : putP X.P data = setBlk X.P n ⟨data, 1⟩ := by unfold putP; rw [if_pos he, e]
  have h0 : (X.P n).refs = 0 := by simpa [usedBlk] using h3
  rw [e, e2]
  refine ⟨⟨fun _ h => ⟨h, rfl, rfl⟩, fun b hb => ?_⟩, by simp [setBlk], fun b hb => by simp [setBlk, hb], by omega⟩
  have : b ≠ n := fun x => by subst x; exact hb h0
  simp only [setBlk, this, if_false]
  exact ⟨hb, trivial⟩

theorem keep_leaf (h : Inv X HR HL HB) {a b c d n : Nat} (hff : firstFree 24 (usedNod X.N) = some n) : Keep X (each4 IdxM.refB { X with N := setNod X.N n ⟨a, b, c, d, 1, false⟩ } a b c d) := by
  obtain ⟨h1, h2, h3, _⟩ := firstFree_some hff
  have h0 : (X.N n).refs = 0 := by simpa [usedNod] using h3
  show Keep X ⟨addRef (addRef (addRef (addRef X.P a) b) c) d, setNod X.N n ⟨a, b, c, d, 1, false⟩⟩
  refine ⟨fun m hm => ?_, fun i hi => ?_⟩
  · have e : m ≠ n := fun e => by subst e; exact hm h0
    simp only [setNod_other _ _ e]; exact ⟨hm, trivial, trivial⟩
  · simp only [addRef4_at h.pl]
    exact ⟨by omega, trivial⟩
theorem keep_root (h : Inv X HR HL HB) {a b c d n : Nat} (hff : firstFree 24 (usedNod X.N) = some n) :
    Keep X (each4 IdxM.refN { X with N := setNod X.N n ⟨a, b, c, d, 1, true⟩ } a b c d) ∧ ((each4 IdxM.refN { X with N := setNod X.N n ⟨a, b, c, d, 1, true⟩ } a b c d).N n).kids = [a, b, c, d] ∧ ∀ m, m ≠ n → ((each4 IdxM.refN { X with N := setNod X.N n ⟨a, b, c, d, 1, true⟩ } a b c d).N m).refs = (X.N m).refs + if (X.N m).refs ≠ 0 then [a, b, c, d].count m else 0 := by
  obtain ⟨h1, h2, h3, _⟩ := firstFree_some hff
  have h0 : (X.N n).refs = 0 := by simpa [usedNod] using h3
  have hl1 : ∀ m, (setNod X.N n ⟨a, b, c, d, 1, true⟩ m).refs ≠ 0 → 1 ≤ m ∧ m ≤ 24 := fun m hm => by
    by_cases e : m = n
    · subst e; exact ⟨h1, h2⟩
    · rw [setNod_other _ _ e] at hm; exact h.nl m hm
  show Keep X ⟨X.P, incN (incN (incN (incN (setNod X.N n ⟨a, b, c, d, 1, true⟩) a) b) c) d⟩ ∧ (incN (incN (incN (incN (setNod X.N n ⟨a, b, c, d, 1, true⟩) a) b) c) d n).kids = _ ∧ ∀ m, m ≠ n → (incN (incN (incN (incN (setNod X.N n ⟨a, b, c, d, 1, true⟩) a) b) c) d m).refs = _
  refine ⟨⟨fun m hm => ?_, fun i hi => ⟨hi, rfl⟩⟩, ?_, fun m hm => ?_⟩
  · have e : m ≠ n := fun e => by subst e; exact hm h0
    simp only [incN4_at hl1, setNod_other _ _ e]
    exact ⟨by omega, rfl, trivial⟩
  · rw [incN4_at hl1, setNod_same]; rfl
  · rw [incN4_at hl1, setNod_other _ _ hm]

theorem keep_unref (h : Inv X HR HL HB) (k : Nat) (hk : (X.P k).refs ≠ 1) : Keep X (X.unrefB k) ∧ ∀ i, (X.P i).refs = 0 → ((X.unrefB k).P i).refs = 0 := by
  refine ⟨⟨fun _ h => ⟨h, rfl, rfl⟩, fun i hi => ?_⟩, fun i hi => ?_⟩
  · show (subRef X.P k i).refs ≠ 0 ∧ (subRef X.P k i).data = _
    rw [subRef_at h.pl]
    by_cases e : i = k
    · subst e
      rw [if_pos ⟨hi, rfl⟩, if_neg hk]
      exact ⟨by simp only; omega, rfl⟩
    · rw [if_neg (fun x => e x.2)]; exact ⟨hi, rfl⟩
  · show (subRef X.P k i).refs = 0
    rw [subRef_at h.pl, if_neg (fun x => x.1 hi)]; exact hi
theorem keep_relLeaf (h : Inv X HR HL HB) (l : Nat) (hl : (X.N l).refs ≠ 1) : Keep X (X.relLeaf l) ∧ (∀ n, (X.N n).refs = 0 → ((X.relLeaf l).N n).refs = 0) ∧ (X.relLeaf l).P = X.P := by
  unfold IdxM.relLeaf releaseX
  by_cases hh : hasNod X.N l = true
  · rw [if_pos hh, if_neg hl]
    have hp : (X.N l).refs ≠ 0 := by rw [h.hasN] at hh; simpa using hh
    refine ⟨⟨fun n hn => ?_, fun b hb => ⟨hb, rfl⟩⟩, fun n hn => ?_, rfl⟩
    · by_cases e : n = l
      · subst e; simp only [setNod_same]; exact ⟨by omega, rfl, trivial⟩
      · simp only [setNod_other _ _ e]; exact ⟨hn, trivial, trivial⟩
    · by_cases e : n = l
      · subst e; exact absurd hn hp
      · simp only [setNod_other _ _ e]; exact hn
  · rw [if_neg hh]; exact ⟨Keep.refl X, fun _ h => h, rfl⟩
end
end Go.Proofs.YtlgahdabhnhjgaaGreatDoor

/- Shared indexes, plainly: Set makes a root that differs from the old one at one place, and keeps all others. -/
namespace Go.Proofs.YtlgahdabhnhjgaaGreatDoor

theorem rep_kid (a b c d j v i : Nat) (r : Nat) (t : Bool) (hi : i < 4) : (⟨rep a 0 j v, rep b 1 j v, rep c 2 j v, rep d 3 j v, r, t⟩ : Nod).kid i = if i = j then v else sel4 a b c d i := by
  have : i = 0 ∨ i = 1 ∨ i = 2 ∨ i = 3 := by omega
  rcases this with rfl | rfl | rfl | rfl <;> (simp only [Nod.kid, sel4, rep])
theorem rep_mem {a b c d j v k : Nat} (h : k ∈ [rep a 0 j v, rep b 1 j v, rep c 2 j v, rep d 3 j v]) : k = v ∨ k ∈ [a, b, c, d] := by
  have key : ∀ x i, rep x i j v = v ∨ rep x i j v = x := fun x i => by unfold rep; split <;> simp
  simp only [List.mem_cons, List.not_mem_nil, or_false] at h ⊢
  rcases h with h | h | h | h
  · rcases key a 0 with e | e <;> simp [h, e]
  · rcases key b 1 with e | e <;> simp [h, e]
  · rcases key c 2 with e | e <;> simp [h, e]
  · rcases key d 3 with e | e <;> simp [h, e]
theorem rep_has (a b c d : Nat) {j v : Nat} (hj : j < 4) : v ∈ [rep a 0 j v, rep b 1 j v, rep c 2 j v, rep d 3 j v] := by
  have : j = 0 ∨ j = 1 ∨ j = 2 ∨ j = 3 := by omega
  rcases this with rfl | rfl | rfl | rfl <;> simp [rep]
theorem zero_kid {a b c d : Nat} (h : isZero4 a b c d = true) (r : Nat) (t : Bool) (i : Nat) : (⟨a, b, c, d, r, t⟩ : Nod).kid i = 0 := by
  obtain ⟨rfl, rfl, rfl, rfl⟩ := (isZero4_iff a b c d).1 h
  unfold Nod.kid sel4; split <;> rfl
theorem zero_mem {a b c d k : Nat} (h : isZero4 a b c d = true) (hk : k ∈ [a, b, c, d]) : k = 0 := by
  obtain ⟨rfl, rfl, rfl, rfl⟩ := (isZero4_iff a b c d).1 h
  simpa using hk

/-- Creating a leaf. -/
theorem create_leaf {X : IdxM} {HR HB : List Nat} (h : Inv X HR [] HB) (a b c d : Nat) (hk : ∀ k ∈ [a, b, c, d], k ≠ 0 → (X.P k).refs ≠ 0) (he : createErr X a b c d = 0) :
    Inv (createX IdxM.refB false X a b c d) HR (opt (createId X a b c d) []) HB ∧ Keep X (createX IdxM.refB false X a b c d) ∧ (∀ i, ((createX IdxM.refB false X a b c d).N (createId X a b c d)).kid i = (⟨a, b, c, d, 1, false⟩ : Nod).kid i) ∧
      (∀ n, ((createX IdxM.refB false X a b c d).N n).refs ≠ 0 → (X.N n).refs ≠ 0 ∨ n = createId X a b c d) ∧ (∀ n, ((createX IdxM.refB false X a b c d).P n).refs = (X.P n).refs + if (X.P n).refs ≠ 0 then [a, b, c, d].count n else 0) := by
  cases hz : isZero4 a b c d with
  | true =>
    have e1 : createX IdxM.refB false X a b c d = X := by unfold createX; rw [hz]; rfl
    have e2 : createId X a b c d = 0 := by unfold createId; rw [hz]; rfl
    rw [e1, e2]
    refine ⟨h, Keep.refl X, fun i => by rw [h.kid0, zero_kid hz], fun n hn => .inl hn, fun n => ?_⟩
    by_cases h0 : (X.P n).refs = 0
    · rw [if_neg (by simp [h0])]; simp
    · rw [if_pos h0]
      have : [a, b, c, d].count n = 0 := List.count_eq_zero.2 fun hm => by
        have := zero_mem hz hm
        have := h.pl n h0
        omega
      omega
  | false =>
    have hff : ∃ n, firstFree 24 (usedNod X.N) = some n := by
      unfold createErr at he
      rw [hz] at he
      cases e : firstFree 24 (usedNod X.N) with
      | none => rw [e] at he; simp at he
      | some n => exact ⟨n, rfl⟩
    obtain ⟨n, hff⟩ := hff
    have e1 : createX IdxM.refB false X a b c d = each4 IdxM.refB { X with N := setNod X.N n ⟨a, b, c, d, 1, false⟩ } a b c d := by unfold createX; rw [hz, hff]; rfl
    have e2 : createId X a b c d = n := by unfold createId; rw [hz, hff]; rfl
    rw [e1, e2]
    have hn := (firstFree_some hff).1
    refine ⟨?_, keep_leaf h hff, fun i => ?_, fun m hm => ?_, fun m => ?_⟩
    · rw [show opt n [] = n :: [] by unfold opt; rw [if_neg (by omega)]]
      exact h.mkLeaf hff hk
    · show (setNod X.N n _ n).kid i = _
      rw [setNod_same]
    · by_cases e : m = n
      · exact .inr e
      · have : (setNod X.N n ⟨a, b, c, d, 1, false⟩ m).refs ≠ 0 := hm
        rw [setNod_other _ _ e] at this
        exact .inl this
    · show (addRef (addRef (addRef (addRef X.P a) b) c) d m).refs = _
      rw [addRef4_at h.pl]

/-- Creating a root. -/
theorem create_root {X : IdxM} {HR HL HB : List Nat} (h : Inv X HR HL HB) (a b c d : Nat) (hk : ∀ k ∈ [a, b, c, d], k ≠ 0 → (X.N k).refs ≠ 0 ∧ (X.N k).top = false) (he : createErr X a b c d = 0) :
    Inv (createX IdxM.refN true X a b c d) (opt (createId X a b c d) HR) HL HB ∧ Keep X (createX IdxM.refN true X a b c d) ∧ (∀ i, ((createX IdxM.refN true X a b c d).N (createId X a b c d)).kid i = (⟨a, b, c, d, 1, true⟩ : Nod).kid i) ∧
      (∀ n, ((createX IdxM.refN true X a b c d).N n).refs ≠ 0 → (X.N n).refs ≠ 0 ∨ n = createId X a b c d) ∧ (createX IdxM.refN true X a b c d).P = X.P ∧
      (∀ n, n ≠ createId X a b c d → (X.N n).refs ≠ 0 → ((createX IdxM.refN true X a b c d).N n).refs = (X.N n).refs + [a, b, c, d].count n) ∧ (createId X a b c d ≠ 0 → (X.N (createId X a b c d)).refs = 0) := by
  cases hz : isZero4 a b c d with
  | true =>
    have e1 : createX IdxM.refN true X a b c d = X := by unfold createX; rw [hz]; rfl
    have e2 : createId X a b c d = 0 := by unfold createId; rw [hz]; rfl
    rw [e1, e2]
    refine ⟨h, Keep.refl X, fun i => by rw [h.kid0, zero_kid hz], fun n hn => .inl hn, rfl, fun n _ h0 => ?_, fun e => absurd rfl e⟩
    have : [a, b, c, d].count n = 0 := List.count_eq_zero.2 fun hm => by
      have := zero_mem hz hm
      have := h.nl n h0
      omega
    omega
  | false =>
    have hff : ∃ n, firstFree 24 (usedNod X.N) = some n := by
      unfold createErr at he
      rw [hz] at he
      cases e : firstFree 24 (usedNod X.N) with
      | none => rw [e] at he; simp at he
      | some n => exact ⟨n, rfl⟩
    obtain ⟨n, hff⟩ := hff
    have e1 : createX IdxM.refN true X a b c d = each4 IdxM.refN { X with N := setNod X.N n ⟨a, b, c, d, 1, true⟩ } a b c d := by unfold createX; rw [hz, hff]; rfl
    have e2 : createId X a b c d = n := by unfold createId; rw [hz, hff]; rfl
    rw [e1, e2]
    obtain ⟨hn, _, hu, _⟩ := firstFree_some hff
    have h0 : (X.N n).refs = 0 := by simpa [usedNod] using hu
    obtain ⟨k1, k2, k3⟩ := keep_root (a := a) (b := b) (c := c) (d := d) h hff
    refine ⟨?_, k1, fun i => kid_of_kids (by rw [k2]; rfl) i, fun m hm => ?_, rfl, fun m hm hm0 => by rw [k3 m hm, if_pos hm0], fun _ => h0⟩
    · rw [show opt n HR = n :: HR by unfold opt; rw [if_neg (by omega)]]
      exact h.mkRoot hff hk
    · by_cases e : m = n
      · exact .inr e
      · refine .inl fun x => hm ?_
        rw [k3 m e]; simp [x]

theorem sel4_mem {a b c d : Nat} (i : Nat) : sel4 a b c d i ∈ [a, b, c, d] := by
  unfold sel4; split <;> simp

set_option maxRecDepth 10000 in
theorem setRest_good {X : IdxM} {HR : List Nat} {root at_ b : Nat} {data : ByteArray} (h : Inv X HR [] (opt b [])) (hr : root = 0 ∨ root ∈ HR) (ha : at_ < 16) (hb : b = 0 ∧ data = ByteArray.empty ∨ b ≠ 0 ∧ X.P b = ⟨data, 1⟩) (he : (setRest X root at_ b).2.2 = 0) :
    Inv (setRest X root at_ b).1 (opt (setRest X root at_ b).2.1 HR) [] [] ∧ Keep X (setRest X root at_ b).1 ∧ (∀ i, i < 16 → (setRest X root at_ b).1.get (setRest X root at_ b).2.1 i = if i = at_ then data else X.get root i) ∧
      (∀ n, ((setRest X root at_ b).1.P n).refs ≠ 0 → (X.P n).refs ≠ 0) ∧ ∃ l, ∀ n, ((setRest X root at_ b).1.N n).refs ≠ 0 → (X.N n).refs ≠ 0 ∨ n = l ∨ n = (setRest X root at_ b).2.1 := by
  obtain ⟨leafno, hleaf⟩ : ∃ L, (X.N root).kid (at_ / 4) = L := ⟨_, rfl⟩
  have hlf := h.kidOf hr (at_ / 4)
  rw [hleaf] at hlf
  obtain ⟨X2, hX2⟩ : ∃ X2, createX IdxM.refB false X (rep (X.N leafno).k0 0 (at_ % 4) b) (rep (X.N leafno).k1 1 (at_ % 4) b) (rep (X.N leafno).k2 2 (at_ % 4) b) (rep (X.N leafno).k3 3 (at_ % 4) b) = X2 := ⟨_, rfl⟩
  obtain ⟨l, hl⟩ : ∃ l, createId X (rep (X.N leafno).k0 0 (at_ % 4) b) (rep (X.N leafno).k1 1 (at_ % 4) b) (rep (X.N leafno).k2 2 (at_ % 4) b) (rep (X.N leafno).k3 3 (at_ % 4) b) = l := ⟨_, rfl⟩
  obtain ⟨eL, heL⟩ : ∃ e, createErr X (rep (X.N leafno).k0 0 (at_ % 4) b) (rep (X.N leafno).k1 1 (at_ % 4) b) (rep (X.N leafno).k2 2 (at_ % 4) b) (rep (X.N leafno).k3 3 (at_ % 4) b) = e := ⟨_, rfl⟩
  by_cases eL0 : eL = 0
  rotate_left
  · rw [setRest_err hleaf hX2 heL eL0] at he
    exact absurd he eL0
  subst eL0
  obtain ⟨X4, hX4⟩ : ∃ X4, createX IdxM.refN true (X2.unrefB b) (rep (X.N root).k0 0 (at_ / 4) l) (rep (X.N root).k1 1 (at_ / 4) l) (rep (X.N root).k2 2 (at_ / 4) l) (rep (X.N root).k3 3 (at_ / 4) l) = X4 := ⟨_, rfl⟩
  obtain ⟨r, hrr⟩ : ∃ r, createId (X2.unrefB b) (rep (X.N root).k0 0 (at_ / 4) l) (rep (X.N root).k1 1 (at_ / 4) l) (rep (X.N root).k2 2 (at_ / 4) l) (rep (X.N root).k3 3 (at_ / 4) l) = r := ⟨_, rfl⟩
  obtain ⟨eR, heR⟩ : ∃ e, createErr (X2.unrefB b) (rep (X.N root).k0 0 (at_ / 4) l) (rep (X.N root).k1 1 (at_ / 4) l) (rep (X.N root).k2 2 (at_ / 4) l) (rep (X.N root).k3 3 (at_ / 4) l) = e := ⟨_, rfl⟩
  have hS := setRest_ok hleaf hX2 hl heL hX4 hrr heR
  rw [hS] at he ⊢
  have he : eR = 0 := he
  subst he
  show Inv (X4.relLeaf l) (opt r HR) [] [] ∧ Keep X (X4.relLeaf l) ∧ (∀ i, i < 16 → (X4.relLeaf l).get r i = if i = at_ then data else X.get root i) ∧ (∀ n, ((X4.relLeaf l).P n).refs ≠ 0 → (X.P n).refs ≠ 0) ∧ ∃ l', ∀ n, ((X4.relLeaf l).N n).refs ≠ 0 → (X.N n).refs ≠ 0 ∨ n = l' ∨ n = r
  clear hS
  -- the leaf
  have hkL : ∀ k ∈ [rep (X.N leafno).k0 0 (at_ % 4) b, rep (X.N leafno).k1 1 (at_ % 4) b, rep (X.N leafno).k2 2 (at_ % 4) b, rep (X.N leafno).k3 3 (at_ % 4) b], k ≠ 0 → (X.P k).refs ≠ 0 := fun k hk hk0 => by
    rcases rep_mem hk with rfl | hk
    · rcases hb with ⟨e, _⟩ | ⟨_, e⟩
      · exact absurd e hk0
      · rw [e]; simp
    · rcases hlf with rfl | ⟨h1, h2⟩
      · rw [h.ng 0 (zeroN h)] at hk
        simp [noNod] at hk
        exact absurd hk hk0
      · exact h.kidF leafno h1 h2 k hk hk0
  obtain ⟨i2, k2, c2, n2, p2⟩ := create_leaf h _ _ _ _ hkL heL
  rw [hX2, hl] at i2 c2 n2
  rw [hX2] at k2 p2
  have c2' : ∀ i, i < 4 → (X2.N l).kid i = if i = at_ % 4 then b else (X.N leafno).kid i := fun i hi => by rw [c2, rep_kid _ _ _ _ _ _ _ _ _ hi]; rfl
  have hb1 : (X2.P b).refs ≠ 1 := by
    rcases hb with ⟨rfl, _⟩ | ⟨hb0, e⟩
    · rw [zeroP i2]; omega
    · have := p2 b
      rw [e] at this
      have hc : 0 < List.count b [rep (X.N leafno).k0 0 (at_ % 4) b, rep (X.N leafno).k1 1 (at_ % 4) b, rep (X.N leafno).k2 2 (at_ % 4) b, rep (X.N leafno).k3 3 (at_ % 4) b] := List.count_pos_iff.2 (rep_has _ _ _ _ (by omega))
      rw [if_pos (by simp)] at this
      simp only at this
      omega
  -- the block is given back
  have i3 := Inv.unref b i2
  obtain ⟨k3, q3⟩ := keep_unref i2 b hb1
  have kx3 : Keep X (X2.unrefB b) := k2.trans k3
  -- the root
  have hkR : ∀ k ∈ [rep (X.N root).k0 0 (at_ / 4) l, rep (X.N root).k1 1 (at_ / 4) l, rep (X.N root).k2 2 (at_ / 4) l, rep (X.N root).k3 3 (at_ / 4) l], k ≠ 0 → ((X2.unrefB b).N k).refs ≠ 0 ∧ ((X2.unrefB b).N k).top = false := fun k hk hk0 => by
    rcases rep_mem hk with rfl | hk
    · exact i3.hl k (by unfold opt; rw [if_neg hk0]; simp)
    · rcases hr with rfl | hr
      · rw [h.ng 0 (zeroN h)] at hk
        simp [noNod] at hk
        exact absurd hk hk0
      · obtain ⟨h1, h2⟩ := h.hr root hr
        obtain ⟨a1, a2⟩ := h.kidT root h1 h2 k hk hk0
        obtain ⟨b1, _, b3⟩ := kx3.N k a1
        exact ⟨b1, b3.trans a2⟩
  obtain ⟨i4, k4, c4, n4, p4, m4, z4⟩ := create_root i3 _ _ _ _ hkR heR
  rw [hX4, hrr] at i4 c4 n4 m4
  rw [hX4] at k4 p4
  rw [hrr] at z4
  have c4' : ∀ i, i < 4 → (X4.N r).kid i = if i = at_ / 4 then l else (X.N root).kid i := fun i hi => by rw [c4, rep_kid _ _ _ _ _ _ _ _ _ hi]; rfl
  have hl1 : (X4.N l).refs ≠ 1 := by
    by_cases l0 : l = 0
    · subst l0; rw [zeroN i4]; omega
    · have hlp := (i3.hl l (by unfold opt; rw [if_neg l0]; simp)).1
      have lr : l ≠ r := fun e => by
        have := z4 (by omega)
        rw [← e] at this
        exact hlp this
      rw [m4 l lr hlp]
      have hc : 0 < List.count l [rep (X.N root).k0 0 (at_ / 4) l, rep (X.N root).k1 1 (at_ / 4) l, rep (X.N root).k2 2 (at_ / 4) l, rep (X.N root).k3 3 (at_ / 4) l] := List.count_pos_iff.2 (rep_has _ _ _ _ (by omega))
      omega
  -- the leaf is given back
  have i5 := Inv.relLeaf l i4
  obtain ⟨k5, q5, p5⟩ := keep_relLeaf i4 l hl1
  have kx5 : Keep X (X4.relLeaf l) := kx3.trans (k4.trans k5)
  have k25 : Keep X2 (X4.relLeaf l) := k3.trans (k4.trans k5)
  refine ⟨i5, kx5, fun i hi => ?_, fun n hn => ?_, l, fun n hn => ?_⟩
  · have e5 : ((X4.relLeaf l).N r).kid (i / 4) = if i / 4 = at_ / 4 then l else (X.N root).kid (i / 4) := by
      rw [← c4' (i / 4) (by omega)]
      by_cases r0 : r = 0
      · subst r0; rw [i5.kid0, i4.kid0]
      · exact kid_of_kids (k5.N r (i4.hr r (by unfold opt; rw [if_neg r0]; simp)).1).2.1 _
    rw [get_leaf, e5]
    by_cases eq : i / 4 = at_ / 4
    · rw [if_pos eq]
      have hll : l = 0 ∨ (X2.N l).refs ≠ 0 ∧ (X2.N l).top = false := by
        by_cases l0 : l = 0
        · exact .inl l0
        · exact .inr (i2.hl l (by unfold opt; rw [if_neg l0]; simp))
      rw [k25.leaf i2 i5 hll]
      unfold leafText
      rw [c2' (i % 4) (by omega)]
      by_cases ej : i % 4 = at_ % 4
      · rw [if_pos ej, if_pos (by omega)]
        rcases hb with ⟨rfl, e⟩ | ⟨_, e⟩
        · rw [i2.text0, e]
        · obtain ⟨b1, b2⟩ := k2.P b (by rw [e]; simp)
          rw [i2.textOf b1, b2, e]
      · rw [if_neg ej, if_neg (fun x => ej (by rw [x])), get_leaf, eq, hleaf]
        unfold leafText
        by_cases k0 : (X.N leafno).kid (i % 4) = 0
        · rw [k0, i2.text0, h.text0]
        · have hp : (X.P ((X.N leafno).kid (i % 4))).refs ≠ 0 := by
            rcases hlf with rfl | ⟨h1, h2⟩
            · exact absurd (h.kid0 _) k0
            · exact h.kidF leafno h1 h2 _ (kid_mem _ _) k0
          obtain ⟨b1, b2⟩ := k2.P _ hp
          rw [i2.textOf b1, h.textOf hp, b2]
    · rw [if_neg eq, if_neg (fun x => eq (by rw [x])), get_leaf]
      exact kx5.leaf h i5 (h.kidOf hr _) _
  · rw [p5, p4] at hn
    have h2 : (X2.P n).refs ≠ 0 := fun e => hn (q3 n e)
    rw [p2] at h2
    intro e
    rw [e] at h2
    simp at h2
  · have h4 : (X4.N n).refs ≠ 0 := fun e => hn (q5 n e)
    rcases n4 n h4 with h3 | e
    · rcases n2 n h3 with h2 | e
      · exact .inl h2
      · exact .inr (.inl e)
    · exact .inr (.inr e)
end Go.Proofs.YtlgahdabhnhjgaaGreatDoor
