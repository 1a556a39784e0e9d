/- Shared indexes: plain indexes, and how they lie in memory. -/
import Derived.Test.YtkjnipjomfbalaaZqPool
import Derived.Test.YtkjnipjomfbalaaZqNumsN
namespace Go.Proofs.Ytkjnipjomfbalaa
open Go.RowKit Go.Maps

/-- A node: what is below it, how many refer to it; and (for the proof alone) whether it is a root. -/
structure Nod where
  k0 : Nat
  k1 : Nat
  k2 : Nat
  k3 : Nat
  refs : Nat
  top : Bool
instance : Inhabited Nod := ⟨⟨0, 0, 0, 0, 0, false⟩⟩
abbrev NodM := Nat → Nod
def noNod : Nod := ⟨0, 0, 0, 0, 0, false⟩
def sel4 {α : Type} (a b c d : α) : Nat → α
  | 0 => a
  | 1 => b
  | 2 => c
  | _ => d
def Nod.kid (n : Nod) (i : Nat) : Nat := sel4 n.k0 n.k1 n.k2 n.k3 i
def nodV (n : Nod) : Value := .agg #[.int .i64 n.k0, .int .i64 n.k1, .int .i64 n.k2, .int .i64 n.k3, .int .i64 n.refs]
def hasNod (N : NodM) (id : Int) : Bool := decide (1 ≤ id) && decide (id ≤ 24) && decide ((N id.toNat).refs ≠ 0)
def nodMap (N : NodM) : Int → Option Value := fun m => if hasNod N m = true then some (nodV (N m.toNat)) else none
def usedNod (N : NodM) (n : Nat) : Bool := decide ((N n).refs ≠ 0)
def nodsOf (N : NodM) : List Int := keysOf 24 (nodMap N)
def setNod (N : NodM) (n : Nat) (b : Nod) : NodM := fun i => if i = n then b else N i

structure NodM.Ok (K : Nat) (N : NodM) : Prop where
  low : ∀ n, (N n).refs ≠ 0 → 1 ≤ n ∧ n ≤ 24
  refs : ∀ n, (N n).refs ≤ K
  gone : ∀ n, (N n).refs = 0 → N n = noNod
  kids : ∀ n, (N n).k0 ≤ 40 ∧ (N n).k1 ≤ 40 ∧ (N n).k2 ≤ 40 ∧ (N n).k3 ≤ 40

theorem NodM.Ok.mono {K K' : Nat} {N : NodM} (h : N.Ok K) (hk : K ≤ K') : N.Ok K' := ⟨h.low, fun n => Nat.le_trans (h.refs n) hk, h.gone, h.kids⟩
theorem NodM.Ok.kid {K : Nat} {N : NodM} (h : N.Ok K) (n i : Nat) : (N n).kid i ≤ 40 := by
  obtain ⟨h0, h1, h2, h3⟩ := h.kids n
  unfold Nod.kid sel4
  split <;> assumption

theorem hasNod_iff (N : NodM) (id : Int) : hasNod N id = true ↔ 1 ≤ id ∧ id ≤ 24 ∧ (N id.toNat).refs ≠ 0 := by simp [hasNod, and_assoc]
theorem hasNod_nat {K : Nat} {N : NodM} (h : N.Ok K) (n : Nat) : hasNod N n = usedNod N n := by
  rw [Bool.eq_iff_iff, hasNod_iff]
  simp only [usedNod, decide_eq_true_eq, Int.toNat_natCast]
  constructor
  · exact fun h => h.2.2
  · intro h'
    have := h.low n h'
    exact ⟨by omega, by omega, h'⟩
theorem nodMap_isSome (N : NodM) (m : Int) : (nodMap N m).isSome = hasNod N m := by
  unfold nodMap; cases hasNod N m <;> rfl
theorem nodMap_shape (N : NodM) (m : Int) (v : Value) (h : nodMap N m = some v) : ∃ (k0 k1 k2 k3 r : Int), v = .agg #[.int .i64 k0, .int .i64 k1, .int .i64 k2, .int .i64 k3, .int .i64 r] := by
  unfold nodMap at h
  split at h
  · cases h; exact ⟨_, _, _, _, _, rfl⟩
  · cases h
/-- What a look-up of a number gives: the node, or the empty one. -/
theorem nodMap_get {K : Nat} {N : NodM} (h : N.Ok K) (n : Nat) : (nodMap N n).getD (.agg #[.int .i64 0, .int .i64 0, .int .i64 0, .int .i64 0, .int .i64 0]) = nodV (N n) := by
  unfold nodMap
  cases hh : hasNod N n with
  | true => rfl
  | false =>
    rw [hasNod_nat h] at hh
    simp [usedNod] at hh
    rw [h.gone n hh]; rfl

theorem setNod_ok {K K' : Nat} {N : NodM} (h : N.Ok K) (hK : K ≤ K') {n : Nat} (h1 : 1 ≤ n) (h2 : n ≤ 24) {b : Nod} (hb : b.refs ≤ K') (hg : b.refs = 0 → b = noNod) (hk : b.k0 ≤ 40 ∧ b.k1 ≤ 40 ∧ b.k2 ≤ 40 ∧ b.k3 ≤ 40) : (setNod N n b).Ok K' := by
  refine ⟨fun m hm => ?_, fun m => ?_, fun m hm => ?_, fun m => ?_⟩
  · by_cases e : m = n
    · subst e; exact ⟨h1, h2⟩
    · simp only [setNod, e, if_false] at hm; exact h.low m hm
  · by_cases e : m = n
    · subst e; simpa [setNod] using hb
    · simp only [setNod, e, if_false]; exact Nat.le_trans (h.refs m) hK
  · by_cases e : m = n
    · subst e; simp only [setNod, if_true] at hm ⊢; exact hg hm
    · simp only [setNod, e, if_false] at hm ⊢; exact h.gone m hm
  · by_cases e : m = n
    · subst e; simpa [setNod] using hk
    · simp only [setNod, e, if_false]; exact h.kids m

theorem nodMap_set {N : NodM} {n : Nat} (h1 : 1 ≤ n) (h2 : n ≤ 24) {b : Nod} (hb : b.refs ≠ 0) (m : Int) : putAt (nodMap N) n (nodV b) m = nodMap (setNod N n b) m := by
  unfold putAt nodMap
  by_cases e : m = n
  · subst e
    have : hasNod (setNod N n b) (n : Int) = true := (hasNod_iff _ _).2 ⟨by omega, by omega, by simpa [setNod] using hb⟩
    simp [this, setNod]
  · rw [if_neg e]
    by_cases hm : 1 ≤ m
    · have en : m.toNat ≠ n := by omega
      have e1 : setNod N n b m.toNat = N m.toNat := by simp [setNod, en]
      have e2 : hasNod (setNod N n b) m = hasNod N m := by simp only [hasNod, e1]
      rw [e1, e2]
    · have e1 : hasNod N m = false := by simp [hasNod, hm]
      have e2 : hasNod (setNod N n b) m = false := by simp [hasNod, hm]
      rw [e1, e2]; rfl
theorem nodMap_del {N : NodM} {n : Nat} (m : Int) : delAt (nodMap N) n m = nodMap (setNod N n noNod) m := by
  unfold delAt nodMap
  by_cases e : m = n
  · subst e
    have : hasNod (setNod N n noNod) (n : Int) = false := by simp [hasNod, setNod, noNod]
    simp [this]
  · rw [if_neg e]
    by_cases hm : 1 ≤ m
    · have en : m.toNat ≠ n := by omega
      have e1 : setNod N n noNod m.toNat = N m.toNat := by simp [setNod, en]
      have e2 : hasNod (setNod N n noNod) m = hasNod N m := by simp only [hasNod, e1]
      rw [e1, e2]
    · have e1 : hasNod N m = false := by simp [hasNod, hm]
      have e2 : hasNod (setNod N n noNod) m = false := by simp [hasNod, hm]
      rw [e1, e2]; rfl

/-- An index: its pool, its nodes. -/
structure IdxM where
  P : PoolM
  N : NodM
def emptyIdx : IdxM := ⟨emptyPool, fun _ => noNod⟩

/-- One reference more to a node, if there is one. -/
def incN (N : NodM) (k : Nat) : NodM := if hasNod N k = true then setNod N k { N k with refs := (N k).refs + 1 } else N
def IdxM.refB (X : IdxM) (k : Nat) : IdxM := { X with P := addRef X.P k }
def IdxM.unrefB (X : IdxM) (k : Nat) : IdxM := { X with P := subRef X.P k }
def IdxM.refN (X : IdxM) (k : Nat) : IdxM := { X with N := incN X.N k }
/-- Something done to each of four kids. -/
def each4 (op : IdxM → Nat → IdxM) (X : IdxM) (a b c d : Nat) : IdxM := op (op (op (op X a) b) c) d
def isZero4 (a b c d : Nat) : Bool := decide (a = 0) && decide (b = 0) && decide (c = 0) && decide (d = 0)
/-- Creating a node. -/
def createErr (X : IdxM) (a b c d : Nat) : Int := if isZero4 a b c d = true then 0 else if firstFree 24 (usedNod X.N) = none then 8 else 0
def createId (X : IdxM) (a b c d : Nat) : Nat := if isZero4 a b c d = true then 0 else (firstFree 24 (usedNod X.N)).getD 0
def createX (op : IdxM → Nat → IdxM) (top : Bool) (X : IdxM) (a b c d : Nat) : IdxM :=
  if isZero4 a b c d = true then X else match firstFree 24 (usedNod X.N) with
    | none => X
    | some n => each4 op { X with N := setNod X.N n ⟨a, b, c, d, 1, top⟩ } a b c d
/-- Releasing a node. -/
def releaseX (op : IdxM → Nat → IdxM) (X : IdxM) (id : Nat) : IdxM :=
  if hasNod X.N id = true then
    if (X.N id).refs = 1 then each4 op { X with N := setNod X.N id noNod } (X.N id).k0 (X.N id).k1 (X.N id).k2 (X.N id).k3
    else { X with N := setNod X.N id { X.N id with refs := (X.N id).refs - 1 } }
  else X
def IdxM.relLeaf (X : IdxM) (id : Nat) : IdxM := releaseX IdxM.unrefB X id
def IdxM.free (X : IdxM) (id : Nat) : IdxM := releaseX IdxM.relLeaf X id
def IdxM.get (X : IdxM) (root at_ : Nat) : ByteArray := getText X.P ((X.N ((X.N root).kid (at_ / 4))).kid (at_ % 4))

structure IdxM.Ok (K : Nat) (X : IdxM) : Prop where
  P : X.P.Ok K
  N : X.N.Ok K
theorem IdxM.Ok.mono {K K' : Nat} {X : IdxM} (h : X.Ok K) (hk : K ≤ K') : X.Ok K' := ⟨h.P.mono hk, h.N.mono hk⟩

/-- An index in memory: its row x, its pool's row gp and map bp, its nodes' map bn. -/
structure IdxAt (w : World) (x gp bp bn K : Nat) (X : IdxM) : Prop where
  row : w.heap[x]? = some (.cells #[.pointer (some ⟨gp, 0, none⟩), .map (some bn)] 94 (0, 0))
  pool : PoolAt w gp bp K X.P
  map : MapOf w bn 24 (nodMap X.N)
  ne : bp ≠ bn
  ok : X.N.Ok K

section
variable {w w' : World} {x gp bp bn K : Nat} {X : IdxM}
theorem IdxAt.lt (h : IdxAt w x gp bp bn K X) : x < w.heap.size := (Array.getElem?_eq_some_iff.1 h.row).1
theorem IdxAt.ltn (h : IdxAt w x gp bp bn K X) : bn < w.heap.size := h.map.lt
theorem IdxAt.nexn (h : IdxAt w x gp bp bn K X) : x ≠ bn := by
  intro e
  obtain ⟨es, c, hb⟩ := h.map.ismap
  have := h.row
  rw [e, hb] at this
  cases this
theorem IdxAt.nexp (h : IdxAt w x gp bp bn K X) : x ≠ bp := by
  intro e
  obtain ⟨es, c, hb⟩ := h.pool.map.ismap
  have := h.row
  rw [e, hb] at this
  cases this
theorem IdxAt.negn (h : IdxAt w x gp bp bn K X) : gp ≠ bn := by
  intro e
  obtain ⟨es, c, hb⟩ := h.map.ismap
  have := h.pool.row
  rw [e, hb] at this
  cases this
theorem IdxAt.cell0 (h : IdxAt w x gp bp bn K X) : w.cell? ⟨x, 0, none⟩ = some (.pointer (some ⟨gp, 0, none⟩)) := cell_of_row _ _ _ _ _ _ h.row
theorem IdxAt.cell1 (h : IdxAt w x gp bp bn K X) : w.cell? ⟨x, 1, none⟩ = some (.map (some bn)) := cell_of_row _ _ _ _ _ _ h.row
theorem IdxAt.below (h : IdxAt w x gp bp bn K X) (hb : Below w.heap.size w w') : IdxAt w' x gp bp bn K X := ⟨(hb.block x h.lt).trans h.row, h.pool.below hb, h.map.keep (hb.block bn h.ltn), h.ne, h.ok⟩
theorem IdxAt.turn (h : IdxAt w x gp bp bn K X) {bs : List Nat} (ht : Turn bs w w') (h1 : x ∉ bs) (h2 : gp ∉ bs) (h3 : bp ∉ bs) (h4 : bn ∉ bs) : IdxAt w' x gp bp bn K X := ⟨(ht.block x h.lt h1).trans h.row, h.pool.turn ht h2 h3, h.map.keep (ht.block bn h.ltn h4), h.ne, h.ok⟩
theorem IdxAt.mono (h : IdxAt w x gp bp bn K X) {K' : Nat} (hK : K ≤ K') : IdxAt w x gp bp bn K' X := ⟨h.row, h.pool.mono hK, h.map, h.ne, h.ok.mono hK⟩
/-- The pool has turned. -/
theorem IdxAt.pooled (h : IdxAt w x gp bp bn K X) {K' : Nat} {p : PoolM} (hp : PoolAt w' gp bp K' p) (ht : Turn [bp] w w') (hK : K ≤ K') : IdxAt w' x gp bp bn K' { X with P := p } :=
  ⟨(ht.block x h.lt (by simpa using h.nexp)).trans h.row, hp, h.map.keep (ht.block bn h.ltn (by simpa using fun e => h.ne e.symm)), h.ne, h.ok.mono hK⟩
/-- The nodes' map has turned. -/
theorem IdxAt.noded (h : IdxAt w x gp bp bn K X) {K' : Nat} {N : NodM} {f : Int → Option Value} (hm : MapOf w' bn 24 f) (ht : w.mapTurned w' bn) (he : ∀ m, f m = nodMap N m) (hN : N.Ok K') (hK : K ≤ K') : IdxAt w' x gp bp bn K' { X with N := N } := by
  have g := ht.grown
  refine ⟨(g.block x h.lt (by intro e; cases e; exact h.nexn rfl)).trans h.row, (h.pool.keep (g.block gp h.pool.lt (by intro e; cases e; exact h.negn rfl)) (g.block bp h.pool.ltb (by intro e; cases e; exact h.ne rfl))).mono hK, hm.congr he, h.ne, hN⟩
theorem IdxAt.okX (h : IdxAt w x gp bp bn K X) : X.Ok K := ⟨h.pool.ok, h.ok⟩
theorem nodsOf_len (h : IdxAt w x gp bp bn K X) : (nodsOf X.N).length < 24 ↔ firstFree 24 (usedNod X.N) ≠ none :=
  keysOf_full fun m _ _ => by rw [nodMap_isSome, hasNod_nat h.ok]
end
end Go.Proofs.Ytkjnipjomfbalaa
