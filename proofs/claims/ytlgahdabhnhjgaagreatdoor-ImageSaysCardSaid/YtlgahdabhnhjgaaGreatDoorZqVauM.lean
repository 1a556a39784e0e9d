/- Vaults, plainly: points over an index; what Ingest, Again and Drop make of one. -/
import Derived.Test.YtlgahdabhnhjgaaGreatDoorZqIdxG
namespace Go.Proofs.YtlgahdabhnhjgaaGreatDoor

/-- Counts are small where little is held. -/
theorem refsTo_le (T : Bool) (N : NodM) (n : Nat) : refsTo T N n ≤ 100 := by
  have h : ∀ (f : Nat → Nat) k, (∀ i, f i ≤ 4) → ((List.range k).map f).sum ≤ k * 4 := fun f k hf => by
    induction k with
    | zero => simp
    | succ k ih =>
      rw [List.range_succ, List.map_append, List.sum_append]
      have := hf k
      simp only [List.map_cons, List.map_nil, List.sum_cons, List.sum_nil]
      omega
  refine Nat.le_trans (h _ 25 fun i => ?_) (by omega)
  unfold con
  split
  · refine Nat.le_trans List.count_le_length ?_
    simp [Nod.kids]
  · omega
theorem Inv.okX {X : IdxM} {HR : List Nat} (h : Inv X HR [] []) (hl : HR.length ≤ 800) : X.Ok 1000 := by
  refine ⟨⟨h.pl, fun b => ?_, h.pg⟩, ⟨h.nl, fun n => ?_, h.ng, fun n => ?_⟩⟩
  · by_cases h0 : (X.P b).refs = 0
    · omega
    · have := h.blk b h0
      have := refsTo_le false X.N b
      simp at *
      omega
  · by_cases h0 : (X.N n).refs = 0
    · omega
    · cases ht : (X.N n).top with
      | true =>
        have := h.top n h0 ht
        have : HR.count n ≤ HR.length := List.count_le_length
        omega
      | false =>
        have := h.leaf n h0 ht
        have := refsTo_le true X.N n
        simp at *
        omega
  · by_cases h0 : (X.N n).refs = 0
    · rw [h.ng n h0]; simp [noNod]
    · have key : ∀ k ∈ (X.N n).kids, k ≤ 40 := fun k hk => by
        by_cases k0 : k = 0
        · omega
        · cases ht : (X.N n).top with
          | true => have := (h.nl k (h.kidT n h0 ht k hk k0).1).2; omega
          | false => exact (h.pl k (h.kidF n h0 ht k hk k0)).2
      exact ⟨key _ (by simp [Nod.kids]), key _ (by simp [Nod.kids]), key _ (by simp [Nod.kids]), key _ (by simp [Nod.kids])⟩
theorem IdxAt.renorm {w : World} {x gp bp bn K : Nat} {X : IdxM} {HR : List Nat} (h : IdxAt w x gp bp bn K X) (hI : Inv X HR [] []) (hl : HR.length ≤ 800) : IdxAt w x gp bp bn 1000 X :=
  ⟨h.row, ⟨h.pool.row, h.pool.map, (hI.okX hl).P⟩, h.map, h.ne, (hI.okX hl).N⟩

/-- A root replaced by another. -/
def replaceX (X : IdxM) (root at_ : Nat) (data : ByteArray) : IdxM × Nat × Int :=
  if (setX X root at_ data).2.2 = 0 then ((setX X root at_ data).1.free root, (setX X root at_ data).2.1, 0) else ((setX X root at_ data).1, 0, (setX X root at_ data).2.2)

theorem opt_perm (a b : Nat) (L : List Nat) : (opt a (opt b L)).Perm (opt b (opt a L)) := by
  unfold opt
  by_cases ha : a = 0 <;> by_cases hb : b = 0 <;> simp [ha, hb]
  exact List.Perm.swap _ _ _
theorem opt_congr {L L' : List Nat} (a : Nat) (h : L.Perm L') : (opt a L).Perm (opt a L') := by
  unfold opt
  split
  · exact h
  · exact h.cons _
theorem mem_opt_self (n : Nat) (L : List Nat) : n = 0 ∨ n ∈ opt n L := by
  unfold opt
  by_cases h : n = 0
  · exact .inl h
  · rw [if_neg h]; exact .inr (by simp)
theorem held_opt {r n : Nat} {L : List Nat} (h : r = 0 ∨ r ∈ L) : r = 0 ∨ r ∈ opt n L := h.imp id mem_opt_of
theorem opt_len (n : Nat) (L : List Nat) : (opt n L).length ≤ L.length + 1 := by
  unfold opt; split <;> simp

/-- What replacing leaves: the others as they were, the new one with the text. -/
theorem replace_good {X : IdxM} {HR : List Nat} {root at_ : Nat} {data : ByteArray} {X' : IdxM} {n : Nat} (h : Inv X (opt root HR) [] []) (ha : at_ < 16) (he : replaceX X root at_ data = (X', n, 0)) :
    Inv X' (opt n HR) [] [] ∧ (∀ r, (r = 0 ∨ r ∈ HR) → ∀ i, X'.get r i = X.get r i) ∧ (∀ i, i < 16 → X'.get n i = if i = at_ then data else X.get root i) ∧ n ≤ 24 := by
  unfold replaceX at he
  split at he
  · rename_i he0
    injection he with e1 he
    injection he with e2 _
    obtain ⟨g1, g2, g3, _, _⟩ := setX_good (data := data) h (mem_opt_self root HR) ha he0
    have hn := setX_id X root at_ data
    rw [e2] at g1 g3 hn
    generalize (setX X root at_ data).1 = X1 at *
    subst e1
    have g1' := g1.perm (opt_perm n root HR)
    have i1 := Inv.free root g1'
    have s1 := shrink_free X1 root
    refine ⟨i1, fun r hr i => ?_, fun i hi => ?_, hn⟩
    · rw [s1.get g1' i1 (held_opt hr) i]
      exact g2.get h g1 (held_opt hr) i
    · rw [s1.get g1' i1 (mem_opt_self n HR) i]
      exact g3 i hi
  · rename_i he0
    injection he with _ he
    injection he with _ e3
    exact absurd e3 he0
theorem replace_err {X : IdxM} {root at_ : Nat} {data : ByteArray} {X' : IdxM} {n : Nat} {ne : Int} (he : replaceX X root at_ data = (X', n, ne)) : 0 ≤ ne ∧ n ≤ 24 ∧ (ne ≠ 0 → n = 0) := by
  have h1 := setX_err X root at_ data
  have h2 := setX_id X root at_ data
  unfold replaceX at he
  split at he
  · injection he with _ he
    injection he with e2 e3
    exact ⟨by omega, by omega, by omega⟩
  · injection he with _ he
    injection he with e2 e3
    exact ⟨by omega, by omega, by omega⟩

/-- A base without what lies behind the new size. -/
def trimX (X : IdxM) (root at_ : Nat) : Nat → IdxM × Nat × Int
  | 0 => (X, root, 0)
  | k + 1 => if (replaceX X root at_ ByteArray.empty).2.2 = 0 then trimX (replaceX X root at_ ByteArray.empty).1 (replaceX X root at_ ByteArray.empty).2.1 (at_ + 1) k else ((replaceX X root at_ ByteArray.empty).1, 0, (replaceX X root at_ ByteArray.empty).2.2)
theorem trimX_ok {X : IdxM} {root at_ k : Nat} {X1 : IdxM} {n : Nat} (h : replaceX X root at_ ByteArray.empty = (X1, n, 0)) : trimX X root at_ (k + 1) = trimX X1 n (at_ + 1) k := by
  simp [trimX, h]
theorem trimX_no {X : IdxM} {root at_ k : Nat} {X1 : IdxM} {n : Nat} {ne : Int} (h : replaceX X root at_ ByteArray.empty = (X1, n, ne)) (he : ne ≠ 0) : trimX X root at_ (k + 1) = (X1, 0, ne) := by
  simp [trimX, h, he]

/-- Puts, one after the other. -/
def putsX (X : IdxM) (root size : Nat) : List (Int × ByteArray) → IdxM × Nat × Int
  | [] => (X, root, 0)
  | p :: l =>
    if p.1 < 0 ∨ (size : Int) ≤ p.1 then (X, 0, 1)
    else if (X.get root p.1.toNat).toList == p.2.toList then putsX X root size l
    else if (replaceX X root p.1.toNat p.2).2.2 = 0 then putsX (replaceX X root p.1.toNat p.2).1 (replaceX X root p.1.toNat p.2).2.1 size l
    else ((replaceX X root p.1.toNat p.2).1, 0, (replaceX X root p.1.toNat p.2).2.2)

structure PtM where
  id : Nat
  disk : Nat
  size : Nat
  root : Nat
instance : Inhabited PtM := ⟨⟨0, 0, 0, 0⟩⟩
structure VauM where
  X : IdxM
  L : List PtM
  next : Nat
def emptyVau : VauM := ⟨emptyIdx, [], 1⟩

def heldOf (L : List PtM) : List Nat := L.foldr (fun p l => opt p.root l) []
theorem heldOf_snoc (L : List PtM) (p : PtM) : (opt p.root (heldOf L)).Perm (heldOf (L ++ [p])) := by
  induction L with
  | nil => exact List.Perm.refl _
  | cons q L ih => exact (opt_perm _ _ _).trans (opt_congr _ ih)
theorem heldOf_at (L : List PtM) (k : Nat) (hk : k < L.length) : (heldOf L).Perm (opt L[k].root (heldOf (L.eraseIdx k))) := by
  induction L generalizing k with
  | nil => simp at hk
  | cons q L ih =>
    cases k with
    | zero => exact List.Perm.refl _
    | succ k =>
      have := ih k (by simpa using hk)
      exact (opt_congr q.root this).trans (opt_perm _ _ _)
theorem heldOf_mem {L : List PtM} {p : PtM} (h : p ∈ L) : p.root = 0 ∨ p.root ∈ heldOf L := by
  induction L with
  | nil => cases h
  | cons q L ih =>
    rcases List.mem_cons.1 h with rfl | h
    · exact mem_opt_self _ _
    · exact held_opt (ih h)
theorem heldOf_len (L : List PtM) : (heldOf L).length ≤ L.length := by
  induction L with
  | nil => simp [heldOf]
  | cons q L ih =>
    have := opt_len q.root (heldOf L)
    show (opt q.root (heldOf L)).length ≤ L.length + 1
    omega

/-- A vault is in order. -/
structure VauM.Ok (V : VauM) : Prop where
  inv : Inv V.X (heldOf V.L) [] []
  len : V.L.length ≤ 6
  next : 1 ≤ V.next ∧ V.next ≤ 1000
  pts : ∀ p ∈ V.L, 1 ≤ p.id ∧ p.id < V.next ∧ 1 ≤ p.disk ∧ p.disk ≤ 999 ∧ 1 ≤ p.size ∧ p.size ≤ 16 ∧ p.root ≤ 24
  inc : V.L.Pairwise fun p q => p.id < q.id

theorem vau_empty : emptyVau.Ok := ⟨inv_empty, by simp [emptyVau], by simp [emptyVau], by simp [emptyVau], by simp [emptyVau]⟩

/-- Where a point is. -/
def placeOf (L : List PtM) (id : Int) : Option Nat := L.findIdx? fun p => decide ((p.id : Int) = id)
theorem placeOf_some {L : List PtM} {id : Int} {k : Nat} (h : placeOf L id = some k) : ∃ hk : k < L.length, (L[k].id : Int) = id := by
  unfold placeOf at h
  obtain ⟨hk, h1, _⟩ := List.findIdx?_eq_some_iff_getElem.1 h
  exact ⟨hk, by simpa using h1⟩
theorem placeOf_none {L : List PtM} {id : Int} (h : placeOf L id = none) : ∀ p ∈ L, (p.id : Int) ≠ id := by
  unfold placeOf at h
  rw [List.findIdx?_eq_none_iff] at h
  intro p hp
  simpa using h p hp
theorem pair_at {L : List PtM} (h : L.Pairwise fun p q => p.id < q.id) {i j : Nat} (hi : i < L.length) (hj : j < L.length) (e : L[i].id = L[j].id) : i = j := by
  rw [List.pairwise_iff_getElem] at h
  rcases Nat.lt_trichotomy i j with hij | hij | hij
  · have := h i j hi hj hij; omega
  · exact hij
  · have := h j i hj hi hij; omega
theorem placeOf_at {L : List PtM} (h : L.Pairwise fun p q => p.id < q.id) {k : Nat} (hk : k < L.length) : placeOf L L[k].id = some k := by
  cases hp : placeOf L L[k].id with
  | none => exact absurd rfl (placeOf_none hp L[k] (List.getElem_mem hk))
  | some j =>
    obtain ⟨hj, e⟩ := placeOf_some hp
    rw [pair_at h hj hk (by omega)]

/-- What a point has at a place. -/
def VauM.text (V : VauM) (p : PtM) (i : Nat) : ByteArray := V.X.get p.root i

/-- Adding a point. -/
def addErr (V : VauM) : Int := if 6 ≤ V.L.length ∨ 999 < V.next then 8 else 0
def addV (V : VauM) (disk size root : Nat) : VauM := ⟨V.X, V.L ++ [⟨V.next, disk, size, root⟩], V.next + 1⟩

theorem VauM.Ok.add {V : VauM} {X : IdxM} {L : List PtM} {disk size root : Nat} (h : V.Ok) (hV : L = V.L) (hI : Inv X (opt root (heldOf L)) [] []) (he : addErr V = 0) (hd : 1 ≤ disk ∧ disk ≤ 999) (hs : 1 ≤ size ∧ size ≤ 16) (hr : root ≤ 24) : (addV ⟨X, V.L, V.next⟩ disk size root).Ok := by
  subst hV
  have he' : V.L.length < 6 ∧ V.next ≤ 999 := by
    unfold addErr at he
    split at he
    · cases he
    · rename_i h'
      omega
  refine ⟨hI.perm (heldOf_snoc V.L ⟨V.next, disk, size, root⟩), by simp [addV]; omega, by have := h.next; simp [addV]; omega, fun p hp => ?_, ?_⟩
  · rcases List.mem_append.1 hp with hp | hp
    · have := h.pts p hp
      simp only [addV]
      omega
    · have := h.next
      simp at hp
      subst hp
      simp only [addV]
      omega
  · refine List.pairwise_append.2 ⟨h.inc, by simp, fun p hp q hq => ?_⟩
    simp at hq
    subst hq
    exact (h.pts p hp).2.1

/-- Where a new point starts: the root, or an error. -/
def startX (V : VauM) (base disk : Int) (size : Nat) : IdxM × Nat × Int :=
  if base = 0 then (V.X, 0, 0) else match placeOf V.L base with
    | none => (V.X, 0, 5)
    | some k => if (V.L[k]!.disk : Int) ≠ disk then (V.X, 0, 3) else trimX (V.X.refN V.L[k]!.root) V.L[k]!.root size (V.L[k]!.size - size)

def ingestErr (V : VauM) (base disk size : Int) (l : List (Int × ByteArray)) : Int :=
  if disk < 1 ∨ 999 < disk ∨ size < 1 ∨ 16 < size then 1
  else if (startX V base disk size.toNat).2.2 ≠ 0 then (startX V base disk size.toNat).2.2
  else if (putsX (startX V base disk size.toNat).1 (startX V base disk size.toNat).2.1 size.toNat l).2.2 ≠ 0 then (putsX (startX V base disk size.toNat).1 (startX V base disk size.toNat).2.1 size.toNat l).2.2
  else addErr V
def ingestV (V : VauM) (base disk size : Int) (l : List (Int × ByteArray)) : VauM :=
  addV ⟨(putsX (startX V base disk size.toNat).1 (startX V base disk size.toNat).2.1 size.toNat l).1, V.L, V.next⟩ disk.toNat size.toNat (putsX (startX V base disk size.toNat).1 (startX V base disk size.toNat).2.1 size.toNat l).2.1

/-- A text over another, by puts. -/
def overlay (f : Nat → ByteArray) : List (Int × ByteArray) → Nat → ByteArray
  | [] => f
  | p :: l => overlay (fun i => if (i : Int) = p.1 then p.2 else f i) l

theorem ba_eq {a b : ByteArray} (h : a.toList = b.toList) : a = b := by
  rw [ByteArray.toList_eq, ByteArray.toList_eq] at h
  exact ByteArray.ext (Array.toList_inj.1 h)

theorem trim_good (HR : List Nat) : ∀ (k : Nat) (X : IdxM) (root at_ : Nat) (X' : IdxM) (n : Nat), Inv X (opt root HR) [] [] → root ≤ 24 → at_ + k ≤ 16 → trimX X root at_ k = (X', n, 0) →
    Inv X' (opt n HR) [] [] ∧ (∀ r, (r = 0 ∨ r ∈ HR) → ∀ i, X'.get r i = X.get r i) ∧ (∀ i, i < 16 → X'.get n i = if at_ ≤ i ∧ i < at_ + k then ByteArray.empty else X.get root i) ∧ n ≤ 24
  | 0, X, root, at_, X', n, h, hr, _, e => by
    simp only [trimX] at e
    injection e with e1 e
    injection e with e2 _
    subst e1 e2
    exact ⟨h, fun _ _ _ => rfl, fun i _ => by rw [if_neg (by omega)], hr⟩
  | k + 1, X, root, at_, X', n, h, hr, ha, e => by
    by_cases he : (replaceX X root at_ ByteArray.empty).2.2 = 0
    · have e1 : replaceX X root at_ ByteArray.empty = ((replaceX X root at_ ByteArray.empty).1, (replaceX X root at_ ByteArray.empty).2.1, 0) := by rw [← he]
      rw [trimX_ok e1] at e
      obtain ⟨a1, a2, a3, a4⟩ := replace_good h (by omega) e1
      obtain ⟨b1, b2, b3, b4⟩ := trim_good HR k _ _ _ X' n a1 a4 (by omega) e
      refine ⟨b1, fun r hr' i => (b2 r hr' i).trans (a2 r hr' i), fun i hi => ?_, b4⟩
      rw [b3 i hi]
      by_cases hc : at_ + 1 ≤ i ∧ i < at_ + 1 + k
      · rw [if_pos hc, if_pos (by omega)]
      · rw [if_neg hc, a3 i hi]
        by_cases hi' : i = at_
        · rw [if_pos hi', if_pos (by omega)]
        · rw [if_neg hi', if_neg (by omega)]
    · have e1 : replaceX X root at_ ByteArray.empty = ((replaceX X root at_ ByteArray.empty).1, (replaceX X root at_ ByteArray.empty).2.1, (replaceX X root at_ ByteArray.empty).2.2) := rfl
      rw [trimX_no e1 he] at e
      injection e with _ e
      injection e with _ e
      exact absurd e he

theorem puts_good (HR : List Nat) (size : Nat) (hsz : size ≤ 16) : ∀ (l : List (Int × ByteArray)) (X : IdxM) (root : Nat) (X' : IdxM) (n : Nat), Inv X (opt root HR) [] [] → root ≤ 24 → putsX X root size l = (X', n, 0) →
    Inv X' (opt n HR) [] [] ∧ (∀ r, (r = 0 ∨ r ∈ HR) → ∀ i, X'.get r i = X.get r i) ∧ (∀ i, i < 16 → X'.get n i = overlay (X.get root) l i) ∧ n ≤ 24 ∧ ∀ p ∈ l, 0 ≤ p.1 ∧ p.1 < size
  | [], X, root, X', n, h, hr, e => by
    simp only [putsX] at e
    injection e with e1 e
    injection e with e2 _
    subst e1 e2
    exact ⟨h, fun _ _ _ => rfl, fun i _ => rfl, hr, by simp⟩
  | p :: l, X, root, X', n, h, hr, e => by
    unfold putsX at e
    split at e
    · injection e with _ e
      injection e with _ e
      cases e
    · rename_i hb
      have over : ∀ (f g : Nat → ByteArray) (l : List (Int × ByteArray)), (∀ i, i < 16 → f i = g i) → ∀ i, i < 16 → overlay f l i = overlay g l i := fun f g l => by
        induction l generalizing f g with
        | nil => exact fun h => h
        | cons q l ih =>
          intro hfg
          refine ih _ _ fun i hi => ?_
          show (if _ then _ else f i) = (if _ then _ else g i)
          rw [hfg i hi]
      have mem : ∀ (h : ∀ q ∈ l, 0 ≤ q.1 ∧ q.1 < (size : Int)), ∀ q ∈ p :: l, 0 ≤ q.1 ∧ q.1 < (size : Int) := fun h q hq => by
        rcases List.mem_cons.1 hq with rfl | hq
        · omega
        · exact h q hq
      split at e
      · rename_i hg
        obtain ⟨b1, b2, b3, b4, b5⟩ := puts_good HR size hsz l X root X' n h hr e
        refine ⟨b1, b2, fun i hi => ?_, b4, mem b5⟩
        rw [b3 i hi]
        refine over _ _ l (fun j _ => ?_) i hi
        show _ = (if _ then _ else _)
        by_cases hj : (j : Int) = p.1
        · rw [if_pos hj, ← ba_eq (eq_of_beq hg), ← hj]; rfl
        · rw [if_neg hj]
      · split at e
        · rename_i he
          have e1 : replaceX X root p.1.toNat p.2 = ((replaceX X root p.1.toNat p.2).1, (replaceX X root p.1.toNat p.2).2.1, 0) := by rw [← he]
          obtain ⟨a1, a2, a3, a4⟩ := replace_good h (by omega) e1
          obtain ⟨b1, b2, b3, b4, b5⟩ := puts_good HR size hsz l _ _ X' n a1 a4 e
          refine ⟨b1, fun r hr' i => (b2 r hr' i).trans (a2 r hr' i), fun i hi => ?_, b4, mem b5⟩
          rw [b3 i hi]
          refine over _ _ l (fun j hj => ?_) i hi
          rw [a3 j hj]
          show (if _ then _ else _) = (if _ then _ else _)
          by_cases hj' : (j : Int) = p.1
          · rw [if_pos hj', if_pos (by omega)]
          · rw [if_neg hj', if_neg (by omega)]
        · rename_i he
          injection e with _ e
          injection e with _ e
          exact absurd e he

/-- Where it starts: what the base has, up to the new size. -/
def baseText (V : VauM) (base : Int) (size i : Nat) : ByteArray := match placeOf V.L base with
  | none => ByteArray.empty
  | some k => if i < V.L[k]!.size ∧ size ≤ i then ByteArray.empty else V.X.get V.L[k]!.root i
theorem placeOf_zero {V : VauM} (h : V.Ok) : placeOf V.L 0 = none := by
  cases hp : placeOf V.L 0 with
  | none => rfl
  | some k =>
    obtain ⟨hk, e⟩ := placeOf_some hp
    have := (h.pts _ (List.getElem_mem hk)).1
    omega
theorem get_zero {X : IdxM} {HR : List Nat} (h : Inv X HR [] []) (i : Nat) : X.get 0 i = ByteArray.empty := by
  rw [get_leaf, h.kid0]; exact h.leaf0 _
theorem start_good {V : VauM} (h : V.Ok) (base disk : Int) (size : Nat) (hs : 1 ≤ size ∧ size ≤ 16) {X' : IdxM} {n : Nat} (e : startX V base disk size = (X', n, 0)) :
    Inv X' (opt n (heldOf V.L)) [] [] ∧ (∀ r, (r = 0 ∨ r ∈ heldOf V.L) → ∀ i, X'.get r i = V.X.get r i) ∧ (∀ i, i < 16 → X'.get n i = baseText V base size i) ∧ n ≤ 24 := by
  unfold startX at e
  split at e
  · rename_i hb
    subst hb
    injection e with e1 e
    injection e with e2 _
    subst e1 e2
    refine ⟨h.inv, fun _ _ _ => rfl, fun i _ => ?_, by omega⟩
    unfold baseText
    rw [placeOf_zero h]
    exact get_zero h.inv i
  · cases hp : placeOf V.L base with
    | none => rw [hp] at e; simp at e
    | some k =>
      rw [hp] at e
      obtain ⟨hk, _⟩ := placeOf_some hp
      simp only [getElem!_pos V.L k hk] at e
      have hpt := h.pts _ (List.getElem_mem hk)
      have hin := heldOf_mem (List.getElem_mem hk)
      unfold baseText
      rw [hp]
      simp only [getElem!_pos V.L k hk]
      generalize V.L[k] = p at *
      split at e
      · injection e with _ e
        injection e with _ e
        cases e
      · obtain ⟨s1, s2⟩ := h.inv.share hin
        obtain ⟨b1, b2, b3, b4⟩ := trim_good (heldOf V.L) (p.size - size) _ _ size X' n s1 hpt.2.2.2.2.2.2 (by omega) e
        refine ⟨b1, fun r hr i => (b2 r hr i).trans (s2.get h.inv s1 hr i), fun i hi => ?_, b4⟩
        rw [b3 i hi, s2.get h.inv s1 hin i]
        by_cases hc : i < p.size ∧ size ≤ i
        · rw [if_pos hc, if_pos (by omega)]
        · rw [if_neg hc, if_neg (by omega)]

/-- Ingest, where it does not fail. -/
theorem ingest_good {V : VauM} (h : V.Ok) {base disk size : Int} {l : List (Int × ByteArray)} (he : ingestErr V base disk size l = 0) :
    (ingestV V base disk size l).Ok ∧ (ingestV V base disk size l).next = V.next + 1 ∧ (ingestV V base disk size l).L = V.L ++ [⟨V.next, disk.toNat, size.toNat, (putsX (startX V base disk size.toNat).1 (startX V base disk size.toNat).2.1 size.toNat l).2.1⟩] ∧
      (∀ r, (r = 0 ∨ r ∈ heldOf V.L) → ∀ i, (ingestV V base disk size l).X.get r i = V.X.get r i) ∧
      (∀ i, i < 16 → (ingestV V base disk size l).X.get (putsX (startX V base disk size.toNat).1 (startX V base disk size.toNat).2.1 size.toNat l).2.1 i = overlay (baseText V base size.toNat) l i) ∧
      (1 ≤ disk ∧ disk ≤ 999 ∧ 1 ≤ size ∧ size ≤ 16) ∧ (∀ p ∈ l, 0 ≤ p.1 ∧ p.1 < size) := by
  unfold ingestErr at he
  split at he
  · cases he
  rename_i hb
  split at he
  · rename_i h1; exact absurd he h1
  rename_i h1
  split at he
  · rename_i h2; exact absurd he h2
  rename_i h2
  have h1' : (startX V base disk size.toNat).2.2 = 0 := by simpa using h1
  have h2' : (putsX (startX V base disk size.toNat).1 (startX V base disk size.toNat).2.1 size.toNat l).2.2 = 0 := by simpa using h2
  have e1 : startX V base disk size.toNat = ((startX V base disk size.toNat).1, (startX V base disk size.toNat).2.1, 0) := by rw [← h1']
  obtain ⟨a1, a2, a3, a4⟩ := start_good h base disk size.toNat (by omega) e1
  unfold ingestV
  generalize (startX V base disk size.toNat).1 = X1 at *
  generalize (startX V base disk size.toNat).2.1 = n1 at *
  have e2 : putsX X1 n1 size.toNat l = ((putsX X1 n1 size.toNat l).1, (putsX X1 n1 size.toNat l).2.1, 0) := by rw [← h2']
  obtain ⟨b1, b2, b3, b4, b5⟩ := puts_good (heldOf V.L) size.toNat (by omega) l X1 n1 _ _ a1 a4 e2
  generalize (putsX X1 n1 size.toNat l).1 = X2 at *
  generalize (putsX X1 n1 size.toNat l).2.1 = n2 at *
  refine ⟨h.add rfl b1 he (by omega) (by omega) b4, rfl, rfl, fun r hr i => (b2 r hr i).trans (a2 r hr i), fun i hi => ?_, by omega, fun p hp => ?_⟩
  · show X2.get n2 i = _
    rw [b3 i hi]
    clear e2 h2 h2' b5 b3
    clear he e1
    induction l with
    | nil => exact a3 i hi
    | cons q l ih =>
      have over : ∀ (f g : Nat → ByteArray) (l : List (Int × ByteArray)), (∀ i, i < 16 → f i = g i) → ∀ i, i < 16 → overlay f l i = overlay g l i := fun f g l => by
        induction l generalizing f g with
        | nil => exact fun h => h
        | cons q l ih =>
          intro hfg
          refine ih _ _ fun i hi => ?_
          show (if _ then _ else f i) = (if _ then _ else g i)
          rw [hfg i hi]
      exact over _ _ (q :: l) a3 i hi
  · have := b5 p hp
    omega

/-- Again. -/
def againErr (V : VauM) (id : Int) : Int := match placeOf V.L id with
  | none => 5
  | some _ => addErr V
def againV (V : VauM) (id : Int) : VauM := match placeOf V.L id with
  | none => V
  | some k => addV ⟨V.X.refN V.L[k]!.root, V.L, V.next⟩ V.L[k]!.disk V.L[k]!.size V.L[k]!.root
theorem again_good {V : VauM} (h : V.Ok) {id : Int} (he : againErr V id = 0) : ∃ k, ∃ hk : k < V.L.length, placeOf V.L id = some k ∧ (againV V id).Ok ∧ againV V id = ⟨V.X.refN V.L[k].root, V.L ++ [⟨V.next, V.L[k].disk, V.L[k].size, V.L[k].root⟩], V.next + 1⟩ ∧ addErr V = 0 ∧
    ∀ r, (r = 0 ∨ r ∈ heldOf V.L) → ∀ i, (againV V id).X.get r i = V.X.get r i := by
  unfold againErr at he
  cases hp : placeOf V.L id with
  | none => rw [hp] at he; cases he
  | some k =>
    rw [hp] at he
    obtain ⟨hk, _⟩ := placeOf_some hp
    have hpt := h.pts _ (List.getElem_mem hk)
    have hin := heldOf_mem (List.getElem_mem hk)
    obtain ⟨s1, s2⟩ := h.inv.share hin
    have e : againV V id = addV ⟨V.X.refN V.L[k].root, V.L, V.next⟩ V.L[k].disk V.L[k].size V.L[k].root := by
      unfold againV
      rw [hp]
      simp only [getElem!_pos V.L k hk]
    refine ⟨k, hk, rfl, ?_, e, he, ?_⟩
    · rw [e]
      exact h.add rfl s1 he (by omega) (by omega) hpt.2.2.2.2.2.2
    · rw [e]
      exact fun r hr i => s2.get h.inv s1 hr i

/-- Drop. -/
def dropErr (V : VauM) (id : Int) : Int := match placeOf V.L id with
  | none => 5
  | some _ => 0
def dropV (V : VauM) (id : Int) : VauM := match placeOf V.L id with
  | none => V
  | some k => ⟨V.X.free V.L[k]!.root, V.L.eraseIdx k, V.next⟩
theorem drop_good {V : VauM} (h : V.Ok) {id : Int} (he : dropErr V id = 0) : ∃ k, ∃ hk : k < V.L.length, placeOf V.L id = some k ∧ (dropV V id).Ok ∧ dropV V id = ⟨V.X.free V.L[k].root, V.L.eraseIdx k, V.next⟩ ∧
    ∀ r, (r = 0 ∨ r ∈ heldOf (V.L.eraseIdx k)) → ∀ i, (dropV V id).X.get r i = V.X.get r i := by
  unfold dropErr at he
  cases hp : placeOf V.L id with
  | none => rw [hp] at he; cases he
  | some k =>
    obtain ⟨hk, _⟩ := placeOf_some hp
    have hI := h.inv.perm (heldOf_at V.L k hk)
    have hF := Inv.free _ hI
    have e : dropV V id = ⟨V.X.free V.L[k].root, V.L.eraseIdx k, V.next⟩ := by
      unfold dropV
      rw [hp]
      simp only [getElem!_pos V.L k hk]
    refine ⟨k, hk, rfl, ?_, e, ?_⟩
    · rw [e]
      exact ⟨hF, Nat.le_trans (by simp only [List.length_eraseIdx]; split <;> omega) h.len, h.next, fun p hp => h.pts p (List.mem_of_mem_eraseIdx hp), h.inc.sublist (List.eraseIdx_sublist _ _)⟩
    · rw [e]
      exact fun r hr i => (shrink_free V.X _).get hI hF hr i
end Go.Proofs.YtlgahdabhnhjgaaGreatDoor
