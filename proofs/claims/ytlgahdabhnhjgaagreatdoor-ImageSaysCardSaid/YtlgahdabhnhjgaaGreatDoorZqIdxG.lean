/- Shared indexes, plainly: Share, and what Free leaves. -/
import Derived.Test.YtlgahdabhnhjgaaGreatDoorZqIdxC
/- Shared indexes, plainly: what Set does. -/
namespace Go.Proofs.YtlgahdabhnhjgaaGreatDoor

/-- What was there is there, and refers to the same, and has the same text. -/
structure Keep (X X' : IdxM) : Prop where
  N : ∀ n, (X.N n).refs ≠ 0 → (X'.N n).refs ≠ 0 ∧ (X'.N n).kids = (X.N n).kids ∧ (X'.N n).top = (X.N n).top
  P : ∀ b, (X.P b).refs ≠ 0 → (X'.P b).refs ≠ 0 ∧ (X'.P b).data = (X.P b).data
theorem Keep.refl (X : IdxM) : Keep X X := ⟨fun _ h => ⟨h, rfl, rfl⟩, fun _ h => ⟨h, rfl⟩⟩
theorem Keep.trans {X Y Z : IdxM} (h : Keep X Y) (k : Keep Y Z) : Keep X Z :=
  ⟨fun n hn => by
    obtain ⟨a1, a2, a3⟩ := h.N n hn
    obtain ⟨b1, b2, b3⟩ := k.N n a1
    exact ⟨b1, b2.trans a2, b3.trans a3⟩, fun b hb => by
    obtain ⟨a1, a2⟩ := h.P b hb
    obtain ⟨b1, b2⟩ := k.P b a1
    exact ⟨b1, b2.trans a2⟩⟩

/-- The text that stands at a place of a leaf. -/
def leafText (X : IdxM) (leaf j : Nat) : ByteArray := getText X.P ((X.N leaf).kid j)
theorem get_leaf (X : IdxM) (root i : Nat) : X.get root i = leafText X ((X.N root).kid (i / 4)) (i % 4) := rfl

theorem kid_of_kids {n m : Nod} (h : n.kids = m.kids) (i : Nat) : n.kid i = m.kid i := by
  simp only [Nod.kids, List.cons.injEq, and_true] at h
  obtain ⟨h0, h1, h2, h3⟩ := h
  unfold Nod.kid
  rw [h0, h1, h2, h3]

section
variable {X X' : IdxM} {HR HL HB HR' HL' HB' : List Nat}

theorem Inv.text0 (_h : Inv X HR HL HB) : getText X.P ((0 : Nat) : Int) = ByteArray.empty := by
  unfold getText
  rw [if_neg]
  intro e
  have := (hasBlk_iff X.P _).1 e
  omega
theorem Inv.textOf (h : Inv X HR HL HB) {k : Nat} (hk : (X.P k).refs ≠ 0) : getText X.P (k : Int) = (X.P k).data := by
  unfold getText
  rw [if_pos (by rw [h.has]; simpa using hk)]
  simp
theorem Inv.kid0 (h : Inv X HR HL HB) (j : Nat) : (X.N 0).kid j = 0 := by
  rw [h.ng 0 (zeroN h)]
  unfold Nod.kid sel4 noNod
  split <;> rfl
theorem Inv.leaf0 (h : Inv X HR HL HB) (j : Nat) : leafText X 0 j = ByteArray.empty := by
  unfold leafText
  rw [h.kid0]
  exact h.text0

/-- What a leaf has stays. -/
theorem Keep.leaf (k : Keep X X') (h : Inv X HR HL HB) (h' : Inv X' HR' HL' HB') {leaf : Nat} (hl : leaf = 0 ∨ (X.N leaf).refs ≠ 0 ∧ (X.N leaf).top = false) (j : Nat) : leafText X' leaf j = leafText X leaf j := by
  rcases hl with rfl | ⟨hl, ht⟩
  · rw [h.leaf0, h'.leaf0]
  · obtain ⟨_, e, _⟩ := k.N leaf hl
    unfold leafText
    rw [kid_of_kids e]
    by_cases h0 : (X.N leaf).kid j = 0
    · rw [h0, h.text0, h'.text0]
    · have hp := h.kidF leaf hl ht _ (kid_mem _ j) h0
      obtain ⟨hp', hd⟩ := k.P _ hp
      rw [h.textOf hp, h'.textOf hp', hd]

/-- The kid of a root: nothing, or a leaf. -/
theorem Inv.kidOf (h : Inv X HR HL HB) {root : Nat} (hr : root = 0 ∨ root ∈ HR) (i : Nat) : (X.N root).kid i = 0 ∨ (X.N ((X.N root).kid i)).refs ≠ 0 ∧ (X.N ((X.N root).kid i)).top = false := by
  rcases hr with rfl | hr
  · exact .inl (h.kid0 i)
  · obtain ⟨h1, h2⟩ := h.hr root hr
    by_cases h0 : (X.N root).kid i = 0
    · exact .inl h0
    · exact .inr (h.kidT root h1 h2 _ (kid_mem _ i) h0)

/-- What a root has stays. -/
theorem Keep.get (k : Keep X X') (h : Inv X HR HL HB) (h' : Inv X' HR' HL' HB') {root : Nat} (hr : root = 0 ∨ root ∈ HR) (i : Nat) : X'.get root i = X.get root i := by
  rw [get_leaf, get_leaf]
  have e : (X'.N root).kid (i / 4) = (X.N root).kid (i / 4) := by
    rcases hr with rfl | hr
    · rw [h.kid0, h'.kid0]
    · exact kid_of_kids (k.N root (h.hr root hr).1).2.1 _
  rw [e]
  exact k.leaf h h' (h.kidOf hr _) _

theorem keep_put (_h : Inv X HR HL HB) (data : ByteArray) (he : putErr X.P data = 0) : Keep X { X with P := putP X.P data } ∧ putP X.P data (putId X.P data) = ⟨data, 1⟩ ∧ (∀ b, b ≠ putId X.P data → putP X.P data b = X.P b) ∧ putId X.P data ≠ 0 := by
  obtain ⟨n, _, e, h1, h2, h3, _, _⟩ := putId_of he
  have e2 : putP X.P data = setBlk X.P n ⟨data, 1⟩ := by unfold putP; rw [if_pos he, e]
  have h0 : (X.P n).refs = 0 := by simpa [usedBlk] using h3
  rw [e, e2]
  refine ⟨⟨fun _ h => ⟨h, rfl, rfl⟩, fun b hb => ?_⟩, by simp [setBlk], fun b hb => by simp [setBlk, hb], by omega⟩
  have : b ≠ n := fun x => by subst x; exact hb h0
  simp only [setBlk, this, if_false]
  exact ⟨hb, trivial⟩

theorem keep_leaf (h : Inv X HR HL HB) {a b c d n : Nat} (hff : firstFree 24 (usedNod X.N) = some n) : Keep X (each4 IdxM.refB { X with N := setNod X.N n ⟨a, b, c, d, 1, false⟩ } a b c d) := by
  obtain ⟨h1, h2, h3, _⟩ := firstFree_some hff
  have h0 : (X.N n).refs = 0 := by simpa [usedNod] using h3
  show Keep X ⟨addRef (addRef (addRef (addRef X.P a) b) c) d, setNod X.N n ⟨a, b, c, d, 1, false⟩⟩
  refine ⟨fun m hm => ?_, fun i hi => ?_⟩
  · have e : m ≠ n := fun e => by subst e; exact hm h0
    simp only [setNod_other _ _ e]; exact ⟨hm, trivial, trivial⟩
  · simp only [addRef4_at h.pl]
    exact ⟨by omega, trivial⟩
theorem keep_root (h : Inv X HR HL HB) {a b c d n : Nat} (hff : firstFree 24 (usedNod X.N) = some n) :
    Keep X (each4 IdxM.refN { X with N := setNod X.N n ⟨a, b, c, d, 1, true⟩ } a b c d) ∧ ((each4 IdxM.refN { X with N := setNod X.N n ⟨a, b, c, d, 1, true⟩ } a b c d).N n).kids = [a, b, c, d] ∧ ∀ m, m ≠ n → ((each4 IdxM.refN { X with N := setNod X.N n ⟨a, b, c, d, 1, true⟩ } a b c d).N m).refs = (X.N m).refs + if (X.N m).refs ≠ 0 then [a, b, c, d].count m else 0 := by
  obtain ⟨h1, h2, h3, _⟩ := firstFree_some hff
  have h0 : (X.N n).refs = 0 := by simpa [usedNod] using h3
  have hl1 : ∀ m, (setNod X.N n ⟨a, b, c, d, 1, true⟩ m).refs ≠ 0 → 1 ≤ m ∧ m ≤ 24 := fun m hm => by
    by_cases e : m = n
    · subst e; exact ⟨h1, h2⟩
    · rw [setNod_other _ _ e] at hm; exact h.nl m hm
  show Keep X ⟨X.P, incN (incN (incN (incN (setNod X.N n ⟨a, b, c, d, 1, true⟩) a) b) c) d⟩ ∧ (incN (incN (incN (incN (setNod X.N n ⟨a, b, c, d, 1, true⟩) a) b) c) d n).kids = _ ∧ ∀ m, m ≠ n → (incN (incN (incN (incN (setNod X.N n ⟨a, b, c, d, 1, true⟩) a) b) c) d m).refs = _
  refine ⟨⟨fun m hm => ?_, fun i hi => ⟨hi, rfl⟩⟩, ?_, fun m hm => ?_⟩
  · have e : m ≠ n := fun e => by subst e; exact hm h0
    simp only [incN4_at hl1, setNod_other _ _ e]
    exact ⟨by omega, rfl, trivial⟩
  · rw [incN4_at hl1, setNod_same]; rfl
  · rw [incN4_at hl1, setNod_other _ _ hm]

theorem keep_unref (h : Inv X HR HL HB) (k : Nat) (hk : (X.P k).refs ≠ 1) : Keep X (X.unrefB k) ∧ ∀ i, (X.P i).refs = 0 → ((X.unrefB k).P i).refs = 0 := by
  refine ⟨⟨fun _ h => ⟨h, rfl, rfl⟩, fun i hi => ?_⟩, fun i hi => ?_⟩
  · show (subRef X.P k i).refs ≠ 0 ∧ (subRef X.P k i).data = _
    rw [subRef_at h.pl]
    by_cases e : i = k
    · subst e
      rw [if_pos ⟨hi, rfl⟩, if_neg hk]
      exact ⟨by simp only; omega, rfl⟩
    · rw [if_neg (fun x => e x.2)]; exact ⟨hi, rfl⟩
  · show (subRef X.P k i).refs = 0
    rw [subRef_at h.pl, if_neg (fun x => x.1 hi)]; exact hi
theorem keep_relLeaf (h : Inv X HR HL HB) (l : Nat) (hl : (X.N l).refs ≠ 1) : Keep X (X.relLeaf l) ∧ (∀ n, (X.N n).refs = 0 → ((X.relLeaf l).N n).refs = 0) ∧ (X.relLeaf l).P = X.P := by
  unfold IdxM.relLeaf releaseX
  by_cases hh : hasNod X.N l = true
  · rw [if_pos hh, if_neg hl]
    have hp : (X.N l).refs ≠ 0 := by rw [h.hasN] at hh; simpa using hh
    refine ⟨⟨fun n hn => ?_, fun b hb => ⟨hb, rfl⟩⟩, fun n hn => ?_, rfl⟩
    · by_cases e : n = l
      · subst e; simp only [setNod_same]; exact ⟨by omega, rfl, trivial⟩
      · simp only [setNod_other _ _ e]; exact ⟨hn, trivial, trivial⟩
    · by_cases e : n = l
      · subst e; exact absurd hn hp
      · simp only [setNod_other _ _ e]; exact hn
  · rw [if_neg hh]; exact ⟨Keep.refl X, fun _ h => h, rfl⟩
end
end Go.Proofs.YtlgahdabhnhjgaaGreatDoor

/- Shared indexes, plainly: Set makes a root that differs from the old one at one place, and keeps all others. -/
namespace Go.Proofs.YtlgahdabhnhjgaaGreatDoor

theorem rep_kid (a b c d j v i : Nat) (r : Nat) (t : Bool) (hi : i < 4) : (⟨rep a 0 j v, rep b 1 j v, rep c 2 j v, rep d 3 j v, r, t⟩ : Nod).kid i = if i = j then v else sel4 a b c d i := by
  have : i = 0 ∨ i = 1 ∨ i = 2 ∨ i = 3 := by omega
  rcases this with rfl | rfl | rfl | rfl <;> (simp only [Nod.kid, sel4, rep])
theorem rep_mem {a b c d j v k : Nat} (h : k ∈ [rep a 0 j v, rep b 1 j v, rep c 2 j v, rep d 3 j v]) : k = v ∨ k ∈ [a, b, c, d] := by
  have key : ∀ x i, rep x i j v = v ∨ rep x i j v = x := fun x i => by unfold rep; split <;> simp
  simp only [List.mem_cons, List.not_mem_nil, or_false] at h ⊢
  rcases h with h | h | h | h
  · rcases key a 0 with e | e <;> simp [h, e]
  · rcases key b 1 with e | e <;> simp [h, e]
  · rcases key c 2 with e | e <;> simp [h, e]
  · rcases key d 3 with e | e <;> simp [h, e]
theorem rep_has (a b c d : Nat) {j v : Nat} (hj : j < 4) : v ∈ [rep a 0 j v, rep b 1 j v, rep c 2 j v, rep d 3 j v] := by
  have : j = 0 ∨ j = 1 ∨ j = 2 ∨ j = 3 := by omega
  rcases this with rfl | rfl | rfl | rfl <;> simp [rep]
theorem zero_kid {a b c d : Nat} (h : isZero4 a b c d = true) (r : Nat) (t : Bool) (i : Nat) : (⟨a, b, c, d, r, t⟩ : Nod).kid i = 0 := by
  obtain ⟨rfl, rfl, rfl, rfl⟩ := (isZero4_iff a b c d).1 h
  unfold Nod.kid sel4; split <;> rfl
theorem zero_mem {a b c d k : Nat} (h : isZero4 a b c d = true) (hk : k ∈ [a, b, c, d]) : k = 0 := by
  obtain ⟨rfl, rfl, rfl, rfl⟩ := (isZero4_iff a b c d).1 h
  simpa using hk

/-- Creating a leaf. -/
theorem create_leaf {X : IdxM} {HR HB : List Nat} (h : Inv X HR [] HB) (a b c d : Nat) (hk : ∀ k ∈ [a, b, c, d], k ≠ 0 → (X.P k).refs ≠ 0) (he : createErr X a b c d = 0) :
    Inv (createX IdxM.refB false X a b c d) HR (opt (createId X a b c d) []) HB ∧ Keep X (createX IdxM.refB false X a b c d) ∧ (∀ i, ((createX IdxM.refB false X a b c d).N (createId X a b c d)).kid i = (⟨a, b, c, d, 1, false⟩ : Nod).kid i) ∧
      (∀ n, ((createX IdxM.refB false X a b c d).N n).refs ≠ 0 → (X.N n).refs ≠ 0 ∨ n = createId X a b c d) ∧ (∀ n, ((createX IdxM.refB false X a b c d).P n).refs = (X.P n).refs + if (X.P n).refs ≠ 0 then [a, b, c, d].count n else 0) := by
  cases hz : isZero4 a b c d with
  | true =>
    have e1 : createX IdxM.refB false X a b c d = X := by unfold createX; rw [hz]; rfl
    have e2 : createId X a b c d = 0 := by unfold createId; rw [hz]; rfl
    rw [e1, e2]
    refine ⟨h, Keep.refl X, fun i => by rw [h.kid0, zero_kid hz], fun n hn => .inl hn, fun n => ?_⟩
    by_cases h0 : (X.P n).refs = 0
    · rw [if_neg (by simp [h0])]; simp
    · rw [if_pos h0]
      have : [a, b, c, d].count n = 0 := List.count_eq_zero.2 fun hm => by
        have := zero_mem hz hm
        have := h.pl n h0
        omega
      omega
  | false =>
    have hff : ∃ n, firstFree 24 (usedNod X.N) = some n := by
      unfold createErr at he
      rw [hz] at he
      cases e : firstFree 24 (usedNod X.N) with
      | none => rw [e] at he; simp at he
      | some n => exact ⟨n, rfl⟩
    obtain ⟨n, hff⟩ := hff
    have e1 : createX IdxM.refB false X a b c d = each4 IdxM.refB { X with N := setNod X.N n ⟨a, b, c, d, 1, false⟩ } a b c d := by unfold createX; rw [hz, hff]; rfl
    have e2 : createId X a b c d = n := by unfold createId; rw [hz, hff]; rfl
    rw [e1, e2]
    have hn := (firstFree_some hff).1
    refine ⟨?_, keep_leaf h hff, fun i => ?_, fun m hm => ?_, fun m => ?_⟩
    · rw [show opt n [] = n :: [] by unfold opt; rw [if_neg (by omega)]]
      exact h.mkLeaf hff hk
    · show (setNod X.N n _ n).kid i = _
      rw [setNod_same]
    · by_cases e : m = n
      · exact .inr e
      · have : (setNod X.N n ⟨a, b, c, d, 1, false⟩ m).refs ≠ 0 := hm
        rw [setNod_other _ _ e] at this
        exact .inl this
    · show (addRef (addRef (addRef (addRef X.P a) b) c) d m).refs = _
      rw [addRef4_at h.pl]

/-- Creating a root. -/
theorem create_root {X : IdxM} {HR HL HB : List Nat} (h : Inv X HR HL HB) (a b c d : Nat) (hk : ∀ k ∈ [a, b, c, d], k ≠ 0 → (X.N k).refs ≠ 0 ∧ (X.N k).top = false) (he : createErr X a b c d = 0) :
    Inv (createX IdxM.refN true X a b c d) (opt (createId X a b c d) HR) HL HB ∧ Keep X (createX IdxM.refN true X a b c d) ∧ (∀ i, ((createX IdxM.refN true X a b c d).N (createId X a b c d)).kid i = (⟨a, b, c, d, 1, true⟩ : Nod).kid i) ∧
      (∀ n, ((createX IdxM.refN true X a b c d).N n).refs ≠ 0 → (X.N n).refs ≠ 0 ∨ n = createId X a b c d) ∧ (createX IdxM.refN true X a b c d).P = X.P ∧
      (∀ n, n ≠ createId X a b c d → (X.N n).refs ≠ 0 → ((createX IdxM.refN true X a b c d).N n).refs = (X.N n).refs + [a, b, c, d].count n) ∧ (createId X a b c d ≠ 0 → (X.N (createId X a b c d)).refs = 0) := by
  cases hz : isZero4 a b c d with
  | true =>
    have e1 : createX IdxM.refN true X a b c d = X := by unfold createX; rw [hz]; rfl
    have e2 : createId X a b c d = 0 := by unfold createId; rw [hz]; rfl
    rw [e1, e2]
    refine ⟨h, Keep.refl X, fun i => by rw [h.kid0, zero_kid hz], fun n hn => .inl hn, rfl, fun n _ h0 => ?_, fun e => absurd rfl e⟩
    have : [a, b, c, d].count n = 0 := List.count_eq_zero.2 fun hm => by
      have := zero_mem hz hm
      have := h.nl n h0
      omega
    omega
  | false =>
    have hff : ∃ n, firstFree 24 (usedNod X.N) = some n := by
      unfold createErr at he
      rw [hz] at he
      cases e : firstFree 24 (usedNod X.N) with
      | none => rw [e] at he; simp at he
      | some n => exact ⟨n, rfl⟩
    obtain ⟨n, hff⟩ := hff
    have e1 : createX IdxM.refN true X a b c d = each4 IdxM.refN { X with N := setNod X.N n ⟨a, b, c, d, 1, true⟩ } a b c d := by unfold createX; rw [hz, hff]; rfl
    have e2 : createId X a b c d = n := by unfold createId; rw [hz, hff]; rfl
    rw [e1, e2]
    obtain ⟨hn, _, hu, _⟩ := firstFree_some hff
    have h0 : (X.N n).refs = 0 := by simpa [usedNod] using hu
    obtain ⟨k1, k2, k3⟩ := keep_root (a := a) (b := b) (c := c) (d := d) h hff
    refine ⟨?_, k1, fun i => kid_of_kids (by rw [k2]; rfl) i, fun m hm => ?_, rfl, fun m hm hm0 => by rw [k3 m hm, if_pos hm0], fun _ => h0⟩
    · rw [show opt n HR = n :: HR by unfold opt; rw [if_neg (by omega)]]
      exact h.mkRoot hff hk
    · by_cases e : m = n
      · exact .inr e
      · refine .inl fun x => hm ?_
        rw [k3 m e]; simp [x]

theorem sel4_mem {a b c d : Nat} (i : Nat) : sel4 a b c d i ∈ [a, b, c, d] := by
  unfold sel4; split <;> simp

set_option maxRecDepth 10000 in
theorem setRest_good {X : IdxM} {HR : List Nat} {root at_ b : Nat} {data : ByteArray} (h : Inv X HR [] (opt b [])) (hr : root = 0 ∨ root ∈ HR) (ha : at_ < 16) (hb : b = 0 ∧ data = ByteArray.empty ∨ b ≠ 0 ∧ X.P b = ⟨data, 1⟩) (he : (setRest X root at_ b).2.2 = 0) :
    Inv (setRest X root at_ b).1 (opt (setRest X root at_ b).2.1 HR) [] [] ∧ Keep X (setRest X root at_ b).1 ∧ (∀ i, i < 16 → (setRest X root at_ b).1.get (setRest X root at_ b).2.1 i = if i = at_ then data else X.get root i) ∧
      (∀ n, ((setRest X root at_ b).1.P n).refs ≠ 0 → (X.P n).refs ≠ 0) ∧ ∃ l, ∀ n, ((setRest X root at_ b).1.N n).refs ≠ 0 → (X.N n).refs ≠ 0 ∨ n = l ∨ n = (setRest X root at_ b).2.1 := by
  obtain ⟨leafno, hleaf⟩ : ∃ L, (X.N root).kid (at_ / 4) = L := ⟨_, rfl⟩
  have hlf := h.kidOf hr (at_ / 4)
  rw [hleaf] at hlf
  obtain ⟨X2, hX2⟩ : ∃ X2, createX IdxM.refB false X (rep (X.N leafno).k0 0 (at_ % 4) b) (rep (X.N leafno).k1 1 (at_ % 4) b) (rep (X.N leafno).k2 2 (at_ % 4) b) (rep (X.N leafno).k3 3 (at_ % 4) b) = X2 := ⟨_, rfl⟩
  obtain ⟨l, hl⟩ : ∃ l, createId X (rep (X.N leafno).k0 0 (at_ % 4) b) (rep (X.N leafno).k1 1 (at_ % 4) b) (rep (X.N leafno).k2 2 (at_ % 4) b) (rep (X.N leafno).k3 3 (at_ % 4) b) = l := ⟨_, rfl⟩
  obtain ⟨eL, heL⟩ : ∃ e, createErr X (rep (X.N leafno).k0 0 (at_ % 4) b) (rep (X.N leafno).k1 1 (at_ % 4) b) (rep (X.N leafno).k2 2 (at_ % 4) b) (rep (X.N leafno).k3 3 (at_ % 4) b) = e := ⟨_, rfl⟩
  by_cases eL0 : eL = 0
  rotate_left
  · rw [setRest_err hleaf hX2 heL eL0] at he
    exact absurd he eL0
  subst eL0
  obtain ⟨X4, hX4⟩ : ∃ X4, createX IdxM.refN true (X2.unrefB b) (rep (X.N root).k0 0 (at_ / 4) l) (rep (X.N root).k1 1 (at_ / 4) l) (rep (X.N root).k2 2 (at_ / 4) l) (rep (X.N root).k3 3 (at_ / 4) l) = X4 := ⟨_, rfl⟩
  obtain ⟨r, hrr⟩ : ∃ r, createId (X2.unrefB b) (rep (X.N root).k0 0 (at_ / 4) l) (rep (X.N root).k1 1 (at_ / 4) l) (rep (X.N root).k2 2 (at_ / 4) l) (rep (X.N root).k3 3 (at_ / 4) l) = r := ⟨_, rfl⟩
  obtain ⟨eR, heR⟩ : ∃ e, createErr (X2.unrefB b) (rep (X.N root).k0 0 (at_ / 4) l) (rep (X.N root).k1 1 (at_ / 4) l) (rep (X.N root).k2 2 (at_ / 4) l) (rep (X.N root).k3 3 (at_ / 4) l) = e := ⟨_, rfl⟩
  have hS := setRest_ok hleaf hX2 hl heL hX4 hrr heR
  rw [hS] at he ⊢
  have he : eR = 0 := he
  subst he
  show Inv (X4.relLeaf l) (opt r HR) [] [] ∧ Keep X (X4.relLeaf l) ∧ (∀ i, i < 16 → (X4.relLeaf l).get r i = if i = at_ then data else X.get root i) ∧ (∀ n, ((X4.relLeaf l).P n).refs ≠ 0 → (X.P n).refs ≠ 0) ∧ ∃ l', ∀ n, ((X4.relLeaf l).N n).refs ≠ 0 → (X.N n).refs ≠ 0 ∨ n = l' ∨ n = r
  clear hS
  -- the leaf
  have hkL : ∀ k ∈ [rep (X.N leafno).k0 0 (at_ % 4) b, rep (X.N leafno).k1 1 (at_ % 4) b, rep (X.N leafno).k2 2 (at_ % 4) b, rep (X.N leafno).k3 3 (at_ % 4) b], k ≠ 0 → (X.P k).refs ≠ 0 := fun k hk hk0 => by
    rcases rep_mem hk with rfl | hk
    · rcases hb with ⟨e, _⟩ | ⟨_, e⟩
      · exact absurd e hk0
      · rw [e]; simp
    · rcases hlf with rfl | ⟨h1, h2⟩
      · rw [h.ng 0 (zeroN h)] at hk
        simp [noNod] at hk
        exact absurd hk hk0
      · exact h.kidF leafno h1 h2 k hk hk0
  obtain ⟨i2, k2, c2, n2, p2⟩ := create_leaf h _ _ _ _ hkL heL
  rw [hX2, hl] at i2 c2 n2
  rw [hX2] at k2 p2
  have c2' : ∀ i, i < 4 → (X2.N l).kid i = if i = at_ % 4 then b else (X.N leafno).kid i := fun i hi => by rw [c2, rep_kid _ _ _ _ _ _ _ _ _ hi]; rfl
  have hb1 : (X2.P b).refs ≠ 1 := by
    rcases hb with ⟨rfl, _⟩ | ⟨hb0, e⟩
    · rw [zeroP i2]; omega
    · have := p2 b
      rw [e] at this
      have hc : 0 < List.count b [rep (X.N leafno).k0 0 (at_ % 4) b, rep (X.N leafno).k1 1 (at_ % 4) b, rep (X.N leafno).k2 2 (at_ % 4) b, rep (X.N leafno).k3 3 (at_ % 4) b] := List.count_pos_iff.2 (rep_has _ _ _ _ (by omega))
      rw [if_pos (by simp)] at this
      simp only at this
      omega
  -- the block is given back
  have i3 := Inv.unref b i2
  obtain ⟨k3, q3⟩ := keep_unref i2 b hb1
  have kx3 : Keep X (X2.unrefB b) := k2.trans k3
  -- the root
  have hkR : ∀ k ∈ [rep (X.N root).k0 0 (at_ / 4) l, rep (X.N root).k1 1 (at_ / 4) l, rep (X.N root).k2 2 (at_ / 4) l, rep (X.N root).k3 3 (at_ / 4) l], k ≠ 0 → ((X2.unrefB b).N k).refs ≠ 0 ∧ ((X2.unrefB b).N k).top = false := fun k hk hk0 => by
    rcases rep_mem hk with rfl | hk
    · exact i3.hl k (by unfold opt; rw [if_neg hk0]; simp)
    · rcases hr with rfl | hr
      · rw [h.ng 0 (zeroN h)] at hk
        simp [noNod] at hk
        exact absurd hk hk0
      · obtain ⟨h1, h2⟩ := h.hr root hr
        obtain ⟨a1, a2⟩ := h.kidT root h1 h2 k hk hk0
        obtain ⟨b1, _, b3⟩ := kx3.N k a1
        exact ⟨b1, b3.trans a2⟩
  obtain ⟨i4, k4, c4, n4, p4, m4, z4⟩ := create_root i3 _ _ _ _ hkR heR
  rw [hX4, hrr] at i4 c4 n4 m4
  rw [hX4] at k4 p4
  rw [hrr] at z4
  have c4' : ∀ i, i < 4 → (X4.N r).kid i = if i = at_ / 4 then l else (X.N root).kid i := fun i hi => by rw [c4, rep_kid _ _ _ _ _ _ _ _ _ hi]; rfl
  have hl1 : (X4.N l).refs ≠ 1 := by
    by_cases l0 : l = 0
    · subst l0; rw [zeroN i4]; omega
    · have hlp := (i3.hl l (by unfold opt; rw [if_neg l0]; simp)).1
      have lr : l ≠ r := fun e => by
        have := z4 (by omega)
        rw [← e] at this
        exact hlp this
      rw [m4 l lr hlp]
      have hc : 0 < List.count l [rep (X.N root).k0 0 (at_ / 4) l, rep (X.N root).k1 1 (at_ / 4) l, rep (X.N root).k2 2 (at_ / 4) l, rep (X.N root).k3 3 (at_ / 4) l] := List.count_pos_iff.2 (rep_has _ _ _ _ (by omega))
      omega
  -- the leaf is given back
  have i5 := Inv.relLeaf l i4
  obtain ⟨k5, q5, p5⟩ := keep_relLeaf i4 l hl1
  have kx5 : Keep X (X4.relLeaf l) := kx3.trans (k4.trans k5)
  have k25 : Keep X2 (X4.relLeaf l) := k3.trans (k4.trans k5)
  refine ⟨i5, kx5, fun i hi => ?_, fun n hn => ?_, l, fun n hn => ?_⟩
  · have e5 : ((X4.relLeaf l).N r).kid (i / 4) = if i / 4 = at_ / 4 then l else (X.N root).kid (i / 4) := by
      rw [← c4' (i / 4) (by omega)]
      by_cases r0 : r = 0
      · subst r0; rw [i5.kid0, i4.kid0]
      · exact kid_of_kids (k5.N r (i4.hr r (by unfold opt; rw [if_neg r0]; simp)).1).2.1 _
    rw [get_leaf, e5]
    by_cases eq : i / 4 = at_ / 4
    · rw [if_pos eq]
      have hll : l = 0 ∨ (X2.N l).refs ≠ 0 ∧ (X2.N l).top = false := by
        by_cases l0 : l = 0
        · exact .inl l0
        · exact .inr (i2.hl l (by unfold opt; rw [if_neg l0]; simp))
      rw [k25.leaf i2 i5 hll]
      unfold leafText
      rw [c2' (i % 4) (by omega)]
      by_cases ej : i % 4 = at_ % 4
      · rw [if_pos ej, if_pos (by omega)]
        rcases hb with ⟨rfl, e⟩ | ⟨_, e⟩
        · rw [i2.text0, e]
        · obtain ⟨b1, b2⟩ := k2.P b (by rw [e]; simp)
          rw [i2.textOf b1, b2, e]
      · rw [if_neg ej, if_neg (fun x => ej (by rw [x])), get_leaf, eq, hleaf]
        unfold leafText
        by_cases k0 : (X.N leafno).kid (i % 4) = 0
        · rw [k0, i2.text0, h.text0]
        · have hp : (X.P ((X.N leafno).kid (i % 4))).refs ≠ 0 := by
            rcases hlf with rfl | ⟨h1, h2⟩
            · exact absurd (h.kid0 _) k0
            · exact h.kidF leafno h1 h2 _ (kid_mem _ _) k0
          obtain ⟨b1, b2⟩ := k2.P _ hp
          rw [i2.textOf b1, h.textOf hp, b2]
    · rw [if_neg eq, if_neg (fun x => eq (by rw [x])), get_leaf]
      exact kx5.leaf h i5 (h.kidOf hr _) _
  · rw [p5, p4] at hn
    have h2 : (X2.P n).refs ≠ 0 := fun e => hn (q3 n e)
    rw [p2] at h2
    intro e
    rw [e] at h2
    simp at h2
  · have h4 : (X4.N n).refs ≠ 0 := fun e => hn (q5 n e)
    rcases n4 n h4 with h3 | e
    · rcases n2 n h3 with h2 | e
      · exact .inl h2
      · exact .inr (.inl e)
    · exact .inr (.inr e)
end Go.Proofs.YtlgahdabhnhjgaaGreatDoor

/- Shared indexes, plainly: Set as a whole. -/
namespace Go.Proofs.YtlgahdabhnhjgaaGreatDoor

theorem filter_or (p q r : Int → Bool) (h : ∀ x, p x = true → q x = true ∨ r x = true) : ∀ l : List Int, (l.filter p).length ≤ (l.filter q).length + (l.filter r).length
  | [] => by simp
  | x :: l => by
    have ih := filter_or p q r h l
    have hx := h x
    cases hp : p x <;> cases hq : q x <;> cases hr : r x <;> simp_all <;> omega
theorem filter_one (k : Int) : ∀ n : Nat, ((((List.range n).map fun i => ((i : Nat) : Int) + 1).filter fun x => decide (x = k))).length ≤ 1
  | 0 => by simp
  | n + 1 => by
    have ih := filter_one k n
    rw [List.range_succ, List.map_append, List.filter_append, List.length_append]
    simp only [List.map_cons, List.map_nil]
    by_cases e : ((n : Int) + 1) = k
    · have h0 : (((List.range n).map fun i => ((i : Nat) : Int) + 1).filter fun x => decide (x = k)) = [] := by
        rw [List.filter_eq_nil_iff]
        intro x hx
        obtain ⟨i, hi, rfl⟩ := List.mem_map.1 hx
        have := List.mem_range.1 hi
        simp; omega
      rw [h0]
      simp only [List.filter_cons, List.filter_nil]
      split <;> simp
    · simp only [List.filter_cons, List.filter_nil]
      rw [if_neg (by simpa using e)]
      simpa using ih
theorem keysOf_add {N : Nat} {f g : Int → Option Value} (k : Int) (h : ∀ m, (g m).isSome = true → (f m).isSome = true ∨ m = k) : (keysOf N g).length ≤ (keysOf N f).length + 1 := by
  have h1 := filter_or (fun m => (g m).isSome) (fun m => (f m).isSome) (fun m => decide (m = k)) (fun x hx => by
    rcases h x hx with h | h
    · exact .inl h
    · exact .inr (by simp [h])) ((List.range N).map fun i => ((i : Nat) : Int) + 1)
  have h2 := filter_one k N
  unfold keysOf
  omega

theorem numsOf_add {p q : PoolM} (k : Nat) (h : ∀ n, (q n).refs ≠ 0 → (p n).refs ≠ 0 ∨ n = k) : (numsOf q).length ≤ (numsOf p).length + 1 := by
  refine keysOf_add (k : Int) fun m hm => ?_
  rw [poolMap_isSome, hasBlk_iff] at hm ⊢
  rcases h m.toNat hm.2.2 with h | h
  · exact .inl ⟨hm.1, hm.2.1, h⟩
  · exact .inr (by omega)
theorem nodsOf_add {p q : NodM} (k l : Nat) (h : ∀ n, (q n).refs ≠ 0 → (p n).refs ≠ 0 ∨ n = k ∨ n = l) : (nodsOf q).length ≤ (nodsOf p).length + 2 := by
  have h1 : (keysOf 24 fun m => if m = (k : Int) ∧ 1 ≤ m then some (Value.bool true) else nodMap p m).length ≤ (nodsOf p).length + 1 := keysOf_add (k : Int) fun m hm => by
    by_cases e : m = (k : Int)
    · exact .inr e
    · rw [if_neg (fun x => e x.1)] at hm; exact .inl hm
  have h2 : (nodsOf q).length ≤ (keysOf 24 fun m => if m = (k : Int) ∧ 1 ≤ m then some (Value.bool true) else nodMap p m).length + 1 := keysOf_add (l : Int) fun m hm => by
    rw [nodMap_isSome, hasNod_iff] at hm
    rcases h m.toNat hm.2.2 with h | h | h
    · left
      split
      · rfl
      · rw [nodMap_isSome, hasNod_iff]; exact ⟨hm.1, hm.2.1, h⟩
    · left
      rw [if_pos ⟨by omega, hm.1⟩]; rfl
    · right; omega
  omega

/-- Set, where it does not fail. -/
theorem setX_good {X : IdxM} {HR : List Nat} {root at_ : Nat} {data : ByteArray} (h : Inv X HR [] []) (hr : root = 0 ∨ root ∈ HR) (ha : at_ < 16) (he : (setX X root at_ data).2.2 = 0) :
    Inv (setX X root at_ data).1 (opt (setX X root at_ data).2.1 HR) [] [] ∧ Keep X (setX X root at_ data).1 ∧ (∀ i, i < 16 → (setX X root at_ data).1.get (setX X root at_ data).2.1 i = if i = at_ then data else X.get root i) ∧
      (numsOf (setX X root at_ data).1.P).length ≤ (numsOf X.P).length + 1 ∧ (nodsOf (setX X root at_ data).1.N).length ≤ (nodsOf X.N).length + 2 := by
  by_cases hd : data.size = 0
  · obtain rfl : data = ByteArray.empty := by
      apply ByteArray.ext
      exact Array.eq_empty_of_size_eq_zero hd
    rw [show setX X root at_ ByteArray.empty = setRest X root at_ 0 from rfl] at he ⊢
    obtain ⟨a1, a2, a3, a4, l, a5⟩ := setRest_good (b := 0) (data := ByteArray.empty) h hr ha (.inl ⟨rfl, rfl⟩) he
    exact ⟨a1, a2, a3, numsOf_add 0 fun n hn => .inl (a4 n hn), nodsOf_add l _ a5⟩
  · by_cases hp : putErr X.P data = 0
    · have e : setX X root at_ data = setRest { X with P := putP X.P data } root at_ (putId X.P data) := by unfold setX; rw [if_neg hd, if_pos hp]
      rw [e] at he ⊢
      obtain ⟨k1, k2, k3, k4⟩ := keep_put h data hp
      have h1 := h.put data hp
      have h1' : Inv { X with P := putP X.P data } HR [] (opt (putId X.P data) []) := by unfold opt; rw [if_neg k4]; exact h1
      obtain ⟨a1, a2, a3, a4, l, a5⟩ := setRest_good h1' hr ha (.inr ⟨k4, k2⟩) he
      refine ⟨a1, k1.trans a2, fun i hi => ?_, numsOf_add (putId X.P data) fun n hn => ?_, nodsOf_add l _ a5⟩
      · rw [a3 i hi, k1.get h h1 hr]
      · have := a4 n hn
        by_cases e : n = putId X.P data
        · exact .inr e
        · left
          rw [← k3 n e]; exact this
    · have e : setX X root at_ data = (X, 0, putErr X.P data) := by unfold setX; rw [if_neg hd, if_neg hp]
      rw [e] at he
      exact absurd he hp

/-- The numbers of its errors. -/
theorem setX_err (X : IdxM) (root at_ : Nat) (data : ByteArray) : (setX X root at_ data).2.2 = 0 ∨ (setX X root at_ data).2.2 = 8 ∨ (setX X root at_ data).2.2 = 3 ∧ 6 < data.size := by
  have rest : ∀ (Y : IdxM) (b : Nat), (setRest Y root at_ b).2.2 = 0 ∨ (setRest Y root at_ b).2.2 = 8 := fun Y b => by
    unfold setRest
    simp only
    split
    · exact createErr_cases _ _ _ _ _
    · exact createErr_cases _ _ _ _ _
  unfold setX
  split
  · rcases rest X 0 with h | h
    · exact .inl h
    · exact .inr (.inl h)
  · rename_i hd
    split
    · rcases rest { X with P := putP X.P data } (putId X.P data) with h | h
      · exact .inl h
      · exact .inr (.inl h)
    · rename_i hp
      rcases putErr_cases X.P data with h | h | h
      · exact absurd h hp
      · refine .inr (.inr ⟨h, ?_⟩)
        unfold putErr at h
        split at h
        · omega
        · split at h <;> cases h
      · exact .inr (.inl h)
theorem setX_id (X : IdxM) (root at_ : Nat) (data : ByteArray) : (setX X root at_ data).2.1 ≤ 24 := by
  have rest : ∀ (Y : IdxM) (b : Nat), (setRest Y root at_ b).2.1 ≤ 24 := fun Y b => by
    unfold setRest
    simp only
    split
    · simp
    · exact createId_le _ _ _ _ _
  unfold setX
  split
  · exact rest _ _
  · split
    · exact rest _ _
    · simp
end Go.Proofs.YtlgahdabhnhjgaaGreatDoor

/- Shared indexes, plainly: Share, and what Free leaves. -/
namespace Go.Proofs.YtlgahdabhnhjgaaGreatDoor

/-- One reference more to a root that is held. -/
theorem Inv.share {X : IdxM} {HR HL HB : List Nat} (h : Inv X HR HL HB) {root : Nat} (hr : root = 0 ∨ root ∈ HR) : Inv (X.refN root) (opt root HR) HL HB ∧ Keep X (X.refN root) := by
  have hat := incN_at h.nl root
  have hz : ∀ m, ((incN X.N root m).refs = 0 ↔ (X.N m).refs = 0) ∧ (incN X.N root m).top = (X.N m).top ∧ (incN X.N root m).kids = (X.N m).kids := fun m => by
    rw [hat]
    refine ⟨?_, rfl, rfl⟩
    show (X.N m).refs + _ = 0 ↔ _
    by_cases h0 : (X.N m).refs = 0
    · simp [h0]
    · constructor
      · intro e; omega
      · intro e; exact absurd e h0
  have hg : ∀ m, (X.N m).refs = 0 → incN X.N root m = X.N m := fun m hm => by
    rw [hat]
    simp [hm]
    rw [← hm]
  have hc := fun T k => refsTo_congr (T := T) hz k
  refine ⟨⟨h.pl, h.pg, fun m hm => h.nl m fun e => hm ((hz m).1.2 e), fun m hm => ?_, fun m hm ht => ?_, fun m hm ht => ?_, fun b hb => ?_, fun m hm ht k hk hk0 => ?_, fun m hm ht k hk hk0 => ?_, fun m hm => ?_, fun m hm => ?_, h.hb⟩, ⟨fun m hm => ⟨fun e => hm ((hz m).1.1 e), (hz m).2.2, (hz m).2.1⟩, fun b hb => ⟨hb, rfl⟩⟩⟩
  · have hm' := (hz m).1.1 hm
    show incN X.N root m = _
    rw [hg m hm']; exact h.ng m hm'
  · have hm' : (X.N m).refs ≠ 0 := fun x => hm ((hz m).1.2 x)
    have ht' : (X.N m).top = true := by rw [← (hz m).2.1]; exact ht
    have h0 : m ≠ 0 := fun e => by subst e; exact hm' (zeroN h)
    show (incN X.N root m).refs = _
    rw [hat, count_opt h0, ← h.top m hm' ht']
    show (X.N m).refs + _ = _
    by_cases e : root = m
    · subst e; simp [hm']
    · rw [if_neg e, if_neg (fun x => e x.2.symm)]
  · have hm' : (X.N m).refs ≠ 0 := fun x => hm ((hz m).1.2 x)
    have ht' : (X.N m).top = false := by rw [← (hz m).2.1]; exact ht
    show (incN X.N root m).refs = _ + refsTo true (incN X.N root) m
    rw [hc, ← h.leaf m hm' ht', hat]
    show (X.N m).refs + _ = _
    rw [if_neg]
    · omega
    · rintro ⟨_, e⟩
      subst e
      rcases hr with e | e
      · subst e; exact hm' (zeroN h)
      · rw [(h.hr m e).2] at ht'; cases ht'
  · show (X.P b).refs = _ + refsTo false (incN X.N root) b
    rw [hc]; exact h.blk b hb
  · have hm' : (X.N m).refs ≠ 0 := fun x => hm ((hz m).1.2 x)
    have ht' : (X.N m).top = true := by rw [← (hz m).2.1]; exact ht
    have hk' : k ∈ (X.N m).kids := by rw [← (hz m).2.2]; exact hk
    obtain ⟨a1, a2⟩ := h.kidT m hm' ht' k hk' hk0
    exact ⟨fun x => a1 ((hz k).1.1 x), (hz k).2.1.trans a2⟩
  · have hm' : (X.N m).refs ≠ 0 := fun x => hm ((hz m).1.2 x)
    have ht' : (X.N m).top = false := by rw [← (hz m).2.1]; exact ht
    have hk' : k ∈ (X.N m).kids := by rw [← (hz m).2.2]; exact hk
    exact h.kidF m hm' ht' k hk' hk0
  · rcases mem_opt hm with ⟨rfl, h0⟩ | hm
    · rcases hr with e | e
      · exact absurd e h0
      · obtain ⟨a1, a2⟩ := h.hr m e
        exact ⟨fun x => a1 ((hz m).1.1 x), (hz m).2.1.trans a2⟩
    · obtain ⟨a1, a2⟩ := h.hr m hm
      exact ⟨fun x => a1 ((hz m).1.1 x), (hz m).2.1.trans a2⟩
  · obtain ⟨a1, a2⟩ := h.hl m hm
    exact ⟨fun x => a1 ((hz m).1.1 x), (hz m).2.1.trans a2⟩

/-- What is still there refers to the same, and has the same text. -/
structure Shrink (X X' : IdxM) : Prop where
  N : ∀ n, (X'.N n).refs ≠ 0 → (X.N n).refs ≠ 0 ∧ (X'.N n).kids = (X.N n).kids ∧ (X'.N n).top = (X.N n).top
  P : ∀ b, (X'.P b).refs ≠ 0 → (X.P b).refs ≠ 0 ∧ (X'.P b).data = (X.P b).data
theorem Shrink.refl (X : IdxM) : Shrink X X := ⟨fun _ h => ⟨h, rfl, rfl⟩, fun _ h => ⟨h, rfl⟩⟩
theorem Shrink.trans {X Y Z : IdxM} (h : Shrink X Y) (k : Shrink Y Z) : Shrink X Z :=
  ⟨fun n hn => by
    obtain ⟨b1, b2, b3⟩ := k.N n hn
    obtain ⟨a1, a2, a3⟩ := h.N n b1
    exact ⟨a1, b2.trans a2, b3.trans a3⟩, fun b hb => by
    obtain ⟨b1, b2⟩ := k.P b hb
    obtain ⟨a1, a2⟩ := h.P b b1
    exact ⟨a1, b2.trans a2⟩⟩

theorem shrink_unref (X : IdxM) (k : Nat) : Shrink X (X.unrefB k) := by
  refine ⟨fun n hn => ⟨hn, rfl, rfl⟩, fun b hb => ?_⟩
  unfold IdxM.unrefB subRef at hb ⊢
  by_cases hh : hasBlk X.P k = true
  · simp only [hh, if_true] at hb ⊢
    simp only [Int.toNat_natCast, setBlk] at hb ⊢
    by_cases e : b = k
    · subst e
      simp only [if_true] at hb ⊢
      split at hb
      · exact absurd rfl hb
      · rename_i h1
        rw [if_neg h1]
        have := ((hasBlk_iff X.P b).1 hh).2.2
        exact ⟨by simpa using this, rfl⟩
    · simp only [e, if_false] at hb ⊢
      exact ⟨hb, by simp⟩
  · simp only [hh] at hb ⊢
    exact ⟨hb, rfl⟩
theorem shrink_release (op : IdxM → Nat → IdxM) (hop : ∀ X k, Shrink X (op X k)) (X : IdxM) (id : Nat) : Shrink X (releaseX op X id) := by
  unfold releaseX
  by_cases hh : hasNod X.N id = true
  · rw [if_pos hh]
    have h3 := ((hasNod_iff X.N id).1 hh).2.2
    simp only [Int.toNat_natCast] at h3
    split
    · refine Shrink.trans ?_ (Shrink.trans (hop _ _) (Shrink.trans (hop _ _) (Shrink.trans (hop _ _) (hop _ _))))
      refine ⟨fun n hn => ?_, fun b hb => ⟨hb, rfl⟩⟩
      by_cases e : n = id
      · subst e; exact absurd (by show (setNod X.N n noNod n).refs = 0; rw [setNod_same]; rfl) hn
      · have : setNod X.N id noNod n = X.N n := setNod_other _ _ e
        simp only [this] at hn ⊢
        exact ⟨hn, by simp, by simp⟩
    · refine ⟨fun n hn => ?_, fun b hb => ⟨hb, rfl⟩⟩
      by_cases e : n = id
      · subst e
        show _ ∧ (setNod X.N n _ n).kids = _ ∧ (setNod X.N n _ n).top = _
        rw [setNod_same]
        exact ⟨h3, rfl, rfl⟩
      · have : setNod X.N id { X.N id with refs := (X.N id).refs - 1 } n = X.N n := setNod_other _ _ e
        simp only [this] at hn ⊢
        exact ⟨hn, by simp, by simp⟩
  · rw [if_neg hh]; exact Shrink.refl X
theorem shrink_free (X : IdxM) (id : Nat) : Shrink X (X.free id) := shrink_release _ (fun X k => shrink_release _ shrink_unref X k) X id

/-- What a root has stays while it is held. -/
theorem Shrink.get {X X' : IdxM} {HR HL HB HR' HL' HB' : List Nat} (k : Shrink X X') (h : Inv X HR HL HB) (h' : Inv X' HR' HL' HB') {root : Nat} (hr : root = 0 ∨ root ∈ HR') (i : Nat) : X'.get root i = X.get root i := by
  rw [get_leaf, get_leaf]
  have e : (X'.N root).kid (i / 4) = (X.N root).kid (i / 4) := by
    rcases hr with rfl | hr
    · rw [h.kid0, h'.kid0]
    · exact kid_of_kids (k.N root (h'.hr root hr).1).2.1 _
  have hk := h'.kidOf hr (i / 4)
  rw [e] at hk ⊢
  generalize (X.N root).kid (i / 4) = leaf at hk ⊢
  rcases hk with rfl | ⟨hl, ht⟩
  · rw [h.leaf0, h'.leaf0]
  · obtain ⟨_, e, _⟩ := k.N leaf hl
    unfold leafText
    rw [kid_of_kids e]
    by_cases h0 : (X.N leaf).kid (i % 4) = 0
    · rw [h0, h.text0, h'.text0]
    · have hp' := h'.kidF leaf hl ht _ (kid_mem _ (i % 4)) (by rw [kid_of_kids e]; exact h0)
      rw [kid_of_kids e] at hp'
      obtain ⟨hp, hd⟩ := k.P _ hp'
      rw [h.textOf hp, h'.textOf hp', hd]
end Go.Proofs.YtlgahdabhnhjgaaGreatDoor
