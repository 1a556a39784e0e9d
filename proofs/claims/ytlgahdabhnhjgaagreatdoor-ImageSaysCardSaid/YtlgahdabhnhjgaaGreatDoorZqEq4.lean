/- Arrays of four numbers as values: compared, built, indexed. -/
import Derived.Test.YtlgahdabhnhjgaaGreatDoorZqPool
import Derived.Test.YtlgahdabhnhjgaaGreatDoorZqSortG
/- Shared indexes: plain indexes, and how they lie in memory. -/
namespace Go.Proofs.YtlgahdabhnhjgaaGreatDoor
open Go.RowKit Go.Maps

/-- A node: what is below it, how many refer to it; and (for the proof alone) whether it is a root. -/
structure Nod where
  k0 : Nat
  k1 : Nat
  k2 : Nat
  k3 : Nat
  refs : Nat
  top : Bool
instance : Inhabited Nod := ⟨⟨0, 0, 0, 0, 0, false⟩⟩
abbrev NodM := Nat → Nod
def noNod : Nod := ⟨0, 0, 0, 0, 0, false⟩
def sel4 {α : Type} (a b c d : α) : Nat → α
  | 0 => a
  | 1 => b
  | 2 => c
  | _ => d
def Nod.kid (n : Nod) (i : Nat) : Nat := sel4 n.k0 n.k1 n.k2 n.k3 i
def nodV (n : Nod) : Value := .agg #[.int .i64 n.k0, .int .i64 n.k1, .int .i64 n.k2, .int .i64 n.k3, .int .i64 n.refs]
def hasNod (N : NodM) (id : Int) : Bool := decide (1 ≤ id) && decide (id ≤ 24) && decide ((N id.toNat).refs ≠ 0)
def nodMap (N : NodM) : Int → Option Value := fun m => if hasNod N m = true then some (nodV (N m.toNat)) else none
def usedNod (N : NodM) (n : Nat) : Bool := decide ((N n).refs ≠ 0)
def nodsOf (N : NodM) : List Int := keysOf 24 (nodMap N)
def setNod (N : NodM) (n : Nat) (b : Nod) : NodM := fun i => if i = n then b else N i

structure NodM.Ok (K : Nat) (N : NodM) : Prop where
  low : ∀ n, (N n).refs ≠ 0 → 1 ≤ n ∧ n ≤ 24
  refs : ∀ n, (N n).refs ≤ K
  gone : ∀ n, (N n).refs = 0 → N n = noNod
  kids : ∀ n, (N n).k0 ≤ 40 ∧ (N n).k1 ≤ 40 ∧ (N n).k2 ≤ 40 ∧ (N n).k3 ≤ 40

theorem NodM.Ok.mono {K K' : Nat} {N : NodM} (h : N.Ok K) (hk : K ≤ K') : N.Ok K' := ⟨h.low, fun n => Nat.le_trans (h.refs n) hk, h.gone, h.kids⟩
theorem NodM.Ok.kid {K : Nat} {N : NodM} (h : N.Ok K) (n i : Nat) : (N n).kid i ≤ 40 := by
  obtain ⟨h0, h1, h2, h3⟩ := h.kids n
  unfold Nod.kid sel4
  split <;> assumption

theorem hasNod_iff (N : NodM) (id : Int) : hasNod N id = true ↔ 1 ≤ id ∧ id ≤ 24 ∧ (N id.toNat).refs ≠ 0 := by simp [hasNod, and_assoc]
theorem hasNod_nat {K : Nat} {N : NodM} (h : N.Ok K) (n : Nat) : hasNod N n = usedNod N n := by
  rw [Bool.eq_iff_iff, hasNod_iff]
  simp only [usedNod, decide_eq_true_eq, Int.toNat_natCast]
  constructor
  · exact fun h => h.2.2
  · intro h'
    have := h.low n h'
    exact ⟨by omega, by omega, h'⟩
theorem nodMap_isSome (N : NodM) (m : Int) : (nodMap N m).isSome = hasNod N m := by
  unfold nodMap; cases hasNod N m <;> rfl
theorem nodMap_shape (N : NodM) (m : Int) (v : Value) (h : nodMap N m = some v) : ∃ (k0 k1 k2 k3 r : Int), v = .agg #[.int .i64 k0, .int .i64 k1, .int .i64 k2, .int .i64 k3, .int .i64 r] := by
  unfold nodMap at h
  split at h
  · cases h; exact ⟨_, _, _, _, _, rfl⟩
  · cases h
/-- What a look-up of a number gives: the node, or the empty one. -/
theorem nodMap_get {K : Nat} {N : NodM} (h : N.Ok K) (n : Nat) : (nodMap N n).getD (.agg #[.int .i64 0, .int .i64 0, .int .i64 0, .int .i64 0, .int .i64 0]) = nodV (N n) := by
  unfold nodMap
  cases hh : hasNod N n with
  | true => rfl
  | false =>
    rw [hasNod_nat h] at hh
    simp [usedNod] at hh
    rw [h.gone n hh]; rfl

theorem setNod_ok {K K' : Nat} {N : NodM} (h : N.Ok K) (hK : K ≤ K') {n : Nat} (h1 : 1 ≤ n) (h2 : n ≤ 24) {b : Nod} (hb : b.refs ≤ K') (hg : b.refs = 0 → b = noNod) (hk : b.k0 ≤ 40 ∧ b.k1 ≤ 40 ∧ b.k2 ≤ 40 ∧ b.k3 ≤ 40) : (setNod N n b).Ok K' := by
  refine ⟨fun m hm => ?_, fun m => ?_, fun m hm => ?_, fun m => ?_⟩
  · by_cases e : m = n
    · subst e; exact ⟨h1, h2⟩
    · simp only [setNod, e, if_false] at hm; exact h.low m hm
  · by_cases e : m = n
    · subst e; simpa [setNod] using hb
    · simp only [setNod, e, if_false]; exact Nat.le_trans (h.refs m) hK
  · by_cases e : m = n
    · subst e; simp only [setNod, if_true] at hm ⊢; exact hg hm
    · simp only [setNod, e, if_false] at hm ⊢; exact h.gone m hm
  · by_cases e : m = n
    · subst e; simpa [setNod] using hk
    · simp only [setNod, e, if_false]; exact h.kids m

theorem nodMap_set {N : NodM} {n : Nat} (h1 : 1 ≤ n) (h2 : n ≤ 24) {b : Nod} (hb : b.refs ≠ 0) (m : Int) : putAt (nodMap N) n (nodV b) m = nodMap (setNod N n b) m := by
  unfold putAt nodMap
  by_cases e : m = n
  · subst e
    have : hasNod (setNod N n b) (n : Int) = true := (hasNod_iff _ _).2 ⟨by omega, by omega, by simpa [setNod] using hb⟩
    simp [this, setNod]
  · rw [if_neg e]
    by_cases hm : 1 ≤ m
    · have en : m.toNat ≠ n := by omega
      have e1 : setNod N n b m.toNat = N m.toNat := by simp [setNod, en]
      have e2 : hasNod (setNod N n b) m = hasNod N m := by simp only [hasNod, e1]
      rw [e1, e2]
    · have e1 : hasNod N m = false := by simp [hasNod, hm]
      have e2 : hasNod (setNod N n b) m = false := by simp [hasNod, hm]
      rw [e1, e2]; rfl
theorem nodMap_del {N : NodM} {n : Nat} (m : Int) : delAt (nodMap N) n m = nodMap (setNod N n noNod) m := by
  unfold delAt nodMap
  by_cases e : m = n
  · subst e
    have : hasNod (setNod N n noNod) (n : Int) = false := by simp [hasNod, setNod, noNod]
    simp [this]
  · rw [if_neg e]
    by_cases hm : 1 ≤ m
    · have en : m.toNat ≠ n := by omega
      have e1 : setNod N n noNod m.toNat = N m.toNat := by simp [setNod, en]
      have e2 : hasNod (setNod N n noNod) m = hasNod N m := by simp only [hasNod, e1]
      rw [e1, e2]
    · have e1 : hasNod N m = false := by simp [hasNod, hm]
      have e2 : hasNod (setNod N n noNod) m = false := by simp [hasNod, hm]
      rw [e1, e2]; rfl

/-- An index: its pool, its nodes. -/
structure IdxM where
  P : PoolM
  N : NodM
def emptyIdx : IdxM := ⟨emptyPool, fun _ => noNod⟩

/-- One reference more to a node, if there is one. -/
def incN (N : NodM) (k : Nat) : NodM := if hasNod N k = true then setNod N k { N k with refs := (N k).refs + 1 } else N
def IdxM.refB (X : IdxM) (k : Nat) : IdxM := { X with P := addRef X.P k }
def IdxM.unrefB (X : IdxM) (k : Nat) : IdxM := { X with P := subRef X.P k }
def IdxM.refN (X : IdxM) (k : Nat) : IdxM := { X with N := incN X.N k }
/-- Something done to each of four kids. -/
def each4 (op : IdxM → Nat → IdxM) (X : IdxM) (a b c d : Nat) : IdxM := op (op (op (op X a) b) c) d
def isZero4 (a b c d : Nat) : Bool := decide (a = 0) && decide (b = 0) && decide (c = 0) && decide (d = 0)
/-- Creating a node. -/
def createErr (X : IdxM) (a b c d : Nat) : Int := if isZero4 a b c d = true then 0 else if firstFree 24 (usedNod X.N) = none then 8 else 0
def createId (X : IdxM) (a b c d : Nat) : Nat := if isZero4 a b c d = true then 0 else (firstFree 24 (usedNod X.N)).getD 0
def createX (op : IdxM → Nat → IdxM) (top : Bool) (X : IdxM) (a b c d : Nat) : IdxM :=
  if isZero4 a b c d = true then X else match firstFree 24 (usedNod X.N) with
    | none => X
    | some n => each4 op { X with N := setNod X.N n ⟨a, b, c, d, 1, top⟩ } a b c d
/-- Releasing a node. -/
def releaseX (op : IdxM → Nat → IdxM) (X : IdxM) (id : Nat) : IdxM :=
  if hasNod X.N id = true then
    if (X.N id).refs = 1 then each4 op { X with N := setNod X.N id noNod } (X.N id).k0 (X.N id).k1 (X.N id).k2 (X.N id).k3
    else { X with N := setNod X.N id { X.N id with refs := (X.N id).refs - 1 } }
  else X
def IdxM.relLeaf (X : IdxM) (id : Nat) : IdxM := releaseX IdxM.unrefB X id
def IdxM.free (X : IdxM) (id : Nat) : IdxM := releaseX IdxM.relLeaf X id
def IdxM.get (X : IdxM) (root at_ : Nat) : ByteArray := getText X.P ((X.N ((X.N root).kid (at_ / 4))).kid (at_ % 4))

structure IdxM.Ok (K : Nat) (X : IdxM) : Prop where
  P : X.P.Ok K
  N : X.N.Ok K
theorem IdxM.Ok.mono {K K' : Nat} {X : IdxM} (h : X.Ok K) (hk : K ≤ K') : X.Ok K' := ⟨h.P.mono hk, h.N.mono hk⟩

/-- An index in memory: its row x, its pool's row gp and map bp, its nodes' map bn. -/
structure IdxAt (w : World) (x gp bp bn K : Nat) (X : IdxM) : Prop where
  row : w.heap[x]? = some (.cells #[.pointer (some ⟨gp, 0, none⟩), .map (some bn)] 66 (0, 0))
  pool : PoolAt w gp bp K X.P
  map : MapOf w bn 24 (nodMap X.N)
  ne : bp ≠ bn
  ok : X.N.Ok K

section
variable {w w' : World} {x gp bp bn K : Nat} {X : IdxM}
theorem IdxAt.lt (h : IdxAt w x gp bp bn K X) : x < w.heap.size := (Array.getElem?_eq_some_iff.1 h.row).1
theorem IdxAt.ltn (h : IdxAt w x gp bp bn K X) : bn < w.heap.size := h.map.lt
theorem IdxAt.nexn (h : IdxAt w x gp bp bn K X) : x ≠ bn := by
  intro e
  obtain ⟨es, c, hb⟩ := h.map.ismap
  have := h.row
  rw [e, hb] at this
  cases this
theorem IdxAt.nexp (h : IdxAt w x gp bp bn K X) : x ≠ bp := by
  intro e
  obtain ⟨es, c, hb⟩ := h.pool.map.ismap
  have := h.row
  rw [e, hb] at this
  cases this
theorem IdxAt.negn (h : IdxAt w x gp bp bn K X) : gp ≠ bn := by
  intro e
  obtain ⟨es, c, hb⟩ := h.map.ismap
  have := h.pool.row
  rw [e, hb] at this
  cases this
theorem IdxAt.cell0 (h : IdxAt w x gp bp bn K X) : w.cell? ⟨x, 0, none⟩ = some (.pointer (some ⟨gp, 0, none⟩)) := cell_of_row _ _ _ _ _ _ h.row
theorem IdxAt.cell1 (h : IdxAt w x gp bp bn K X) : w.cell? ⟨x, 1, none⟩ = some (.map (some bn)) := cell_of_row _ _ _ _ _ _ h.row
theorem IdxAt.below (h : IdxAt w x gp bp bn K X) (hb : Below w.heap.size w w') : IdxAt w' x gp bp bn K X := ⟨(hb.block x h.lt).trans h.row, h.pool.below hb, h.map.keep (hb.block bn h.ltn), h.ne, h.ok⟩
theorem IdxAt.turn (h : IdxAt w x gp bp bn K X) {bs : List Nat} (ht : Turn bs w w') (h1 : x ∉ bs) (h2 : gp ∉ bs) (h3 : bp ∉ bs) (h4 : bn ∉ bs) : IdxAt w' x gp bp bn K X := ⟨(ht.block x h.lt h1).trans h.row, h.pool.turn ht h2 h3, h.map.keep (ht.block bn h.ltn h4), h.ne, h.ok⟩
theorem IdxAt.mono (h : IdxAt w x gp bp bn K X) {K' : Nat} (hK : K ≤ K') : IdxAt w x gp bp bn K' X := ⟨h.row, h.pool.mono hK, h.map, h.ne, h.ok.mono hK⟩
/-- The pool has turned. -/
theorem IdxAt.pooled (h : IdxAt w x gp bp bn K X) {K' : Nat} {p : PoolM} (hp : PoolAt w' gp bp K' p) (ht : Turn [bp] w w') (hK : K ≤ K') : IdxAt w' x gp bp bn K' { X with P := p } :=
  ⟨(ht.block x h.lt (by simpa using h.nexp)).trans h.row, hp, h.map.keep (ht.block bn h.ltn (by simpa using fun e => h.ne e.symm)), h.ne, h.ok.mono hK⟩
/-- The nodes' map has turned. -/
theorem IdxAt.noded (h : IdxAt w x gp bp bn K X) {K' : Nat} {N : NodM} {f : Int → Option Value} (hm : MapOf w' bn 24 f) (ht : w.mapTurned w' bn) (he : ∀ m, f m = nodMap N m) (hN : N.Ok K') (hK : K ≤ K') : IdxAt w' x gp bp bn K' { X with N := N } := by
  have g := ht.grown
  refine ⟨(g.block x h.lt (by intro e; cases e; exact h.nexn rfl)).trans h.row, (h.pool.keep (g.block gp h.pool.lt (by intro e; cases e; exact h.negn rfl)) (g.block bp h.pool.ltb (by intro e; cases e; exact h.ne rfl))).mono hK, hm.congr he, h.ne, hN⟩
theorem IdxAt.okX (h : IdxAt w x gp bp bn K X) : X.Ok K := ⟨h.pool.ok, h.ok⟩
theorem nodsOf_len (h : IdxAt w x gp bp bn K X) : (nodsOf X.N).length < 24 ↔ firstFree 24 (usedNod X.N) ≠ none :=
  keysOf_full fun m _ _ => by rw [nodMap_isSome, hasNod_nat h.ok]
end
end Go.Proofs.YtlgahdabhnhjgaaGreatDoor

/- Package index: New, Numbers, isPosition, refBlock, unrefBlock, refNode. -/
namespace Go.Proofs.YtlgahdabhnhjgaaGreatDoor
open Go.RowKit Go.Maps

theorem isPos_yes (n : Int) (w : World) (h1 : 0 ≤ n) (h2 : n < 16) : Calls Tryz.prog 89 #[.int .i64 n] w fun e w' => e = .returned (.bool true) ∧ w = w' := by
  go_enter Tryz.func89, Tryz.ntmps89
  go_wp2
  go_ret
  exact ⟨rfl, rfl⟩

theorem emptyIdx_ok : emptyIdx.Ok 0 := ⟨emptyPool_ok, ⟨fun _ h => absurd rfl h, fun _ => Nat.le_refl _, fun _ _ => rfl, fun _ => ⟨by simp [emptyIdx, noNod], by simp [emptyIdx, noNod], by simp [emptyIdx, noNod], by simp [emptyIdx, noNod]⟩⟩⟩

theorem idxNew_any (w : World) : Calls Tryz.prog 30 #[] w fun e w' => ∃ x gp bp bn, e = .returned (.pointer (some ⟨x, 0, none⟩)) ∧ IdxAt w' x gp bp bn 0 emptyIdx ∧ w.heap.size ≤ x ∧ w.heap.size ≤ gp ∧ w.heap.size ≤ bp ∧ w.heap.size ≤ bn ∧ Below w.heap.size w w' := by
  have hmm := @run_makeMap Tryz.prog
  go_enter Tryz.func30, Tryz.ntmps30
  go_wp2_with fail
  ((with_reducible refine (poolNew_any _).mono ?_); rintro e w1 ⟨rfl, h1, hb1⟩)
  have hz := h1.lt
  have hz' := h1.ltb
  have hsz := hb1.size
  go_wp2
  go_ret
  have b2 : Below w1.heap.size w1 ((w1.alloc (.map #[] 0)).alloc (.cells #[.pointer (some ⟨w.heap.size + 1, 0, none⟩), .map (some w1.heap.size)] 66)) := ((Below.refl _ _).alloc (Nat.le_refl _) _).alloc (by simp) _
  refine ⟨w1.heap.size + 1, w.heap.size + 1, w.heap.size, w1.heap.size, rfl, ⟨?_, h1.below b2, ?_, by omega, emptyIdx_ok.N⟩, by omega, by omega, by omega, by omega, belowThen hb1 b2⟩
  · simpa using heap_alloc_new (w1.alloc (.map #[] 0)) (.cells #[.pointer (some ⟨w.heap.size + 1, 0, none⟩), .map (some w1.heap.size)] 66)
  · exact ((MapOf.made w1 24).keep (Below.heap_alloc _ _ _ (by simp))).congr (fun m => by simp [nodMap, hasNod, emptyIdx, noNod])

theorem idxNumbers_any (w : World) (x gp bp bn K : Nat) (X : IdxM) (h : IdxAt w x gp bp bn K X) : Calls Tryz.prog 26 #[.pointer (some ⟨x, 0, none⟩)] w (RetInts w (nodsOf X.N)) := by
  have c1 := h.cell1
  go_enter Tryz.func26, Tryz.ntmps26
  go_wp2_with fail
  ((with_reducible refine (sorted_Node bn 24 (nodMap X.N) _ h.map (by omega)).mono ?_); rintro e w1 ⟨v, rfl, hO, hb1⟩)
  go_wp2
  go_ret
  exact ⟨v, rfl, hO, hb1⟩

/-- What a call on an index leaves: another index, no reference count above K'. -/
def IdxRet (w : World) (x gp bp bn K' : Nat) (X : IdxM) (v : Value) (e : Ending) (w' : World) : Prop := e = .returned v ∧ IdxAt w' x gp bp bn K' X ∧ Turn [bp, bn] w w'

theorem refBlock_any (w : World) (x gp bp bn K : Nat) (X : IdxM) (k : Nat) (h : IdxAt w x gp bp bn K X) (hk : k ≤ 1000) (hK : K ≤ 1000000000) :
    Calls Tryz.prog 120 #[.pointer (some ⟨x, 0, none⟩), .int .i64 k] w (IdxRet w x gp bp bn (K + 1) (X.refB k) (.tuple #[])) := by
  have c0 := h.cell0
  go_enter Tryz.func120, Tryz.ntmps120
  go_wp2_with fail
  ((with_reducible refine (poolRef_any gp bp K _ X.P k h.pool (by omega) hK).mono ?_); rintro e w1 ⟨rfl, h1, ht1⟩)
  go_wp2
  go_end0
  exact ⟨rfl, h.pooled h1 ht1 (by omega), ht1.mono (by simp)⟩

theorem unrefBlock_any (w : World) (x gp bp bn K : Nat) (X : IdxM) (k : Nat) (h : IdxAt w x gp bp bn K X) (hk : k ≤ 1000) (hK : K ≤ 1000000000) :
    Calls Tryz.prog 115 #[.pointer (some ⟨x, 0, none⟩), .int .i64 k] w (IdxRet w x gp bp bn K (X.unrefB k) (.tuple #[])) := by
  have c0 := h.cell0
  go_enter Tryz.func115, Tryz.ntmps115
  go_wp2_with fail
  ((with_reducible refine (poolUnref_any gp bp K _ X.P k h.pool (by omega) hK).mono ?_); rintro e w1 ⟨rfl, h1, ht1⟩)
  go_wp2
  go_end0
  exact ⟨rfl, h.pooled h1 ht1 (by omega), ht1.mono (by simp)⟩

set_option maxHeartbeats 1000000 in
set_option maxRecDepth 100000 in
theorem refNode_any (w : World) (x gp bp bn K : Nat) (X : IdxM) (k : Nat) (h : IdxAt w x gp bp bn K X) (hk : k ≤ 1000) (hK : K ≤ 1000000000) :
    Calls Tryz.prog 92 #[.pointer (some ⟨x, 0, none⟩), .int .i64 k] w (IdxRet w x gp bp bn (K + 1) (X.refN k) (.tuple #[])) := by
  have c1 := h.cell1
  have hM := h.map
  have hlt := h.lt
  have q1 := nodMap_get h.ok k
  unfold nodV at q1
  have Q1 := Lib.hid q1
  clear q1
  cases hh : hasNod X.N k with
  | true =>
    have q2 : (nodMap X.N k).isSome = true := by rw [nodMap_isSome, hh]
    have Q2 := Lib.hid q2
    obtain ⟨hn1, hn2, hn3⟩ := (hasNod_iff X.N k).1 hh
    have hrefs := h.ok.refs k
    have hok := setNod_ok (n := k) h.ok (Nat.le_succ K) (by omega) (by omega) (b := { X.N k with refs := (X.N k).refs + 1 }) (by simpa using hrefs) (by simp) (h.ok.kids k)
    have hX : X.refN k = { X with N := setNod X.N k { X.N k with refs := (X.N k).refs + 1 } } := by unfold IdxM.refN incN; rw [hh]; rfl
    have HX := Lib.hid hX
    have i1 : IntKind.i64.wrap (((X.N k).refs : Int) + 1) = ((X.N k).refs : Int) + 1 := IntWalk.i64_in _ (by omega)
    have h0 : IdxAt (w.alloc (.cells #[.int .i64 (X.N k).k0, .int .i64 (X.N k).k1, .int .i64 (X.N k).k2, .int .i64 (X.N k).k3, .int .i64 (((X.N k).refs : Int) + 1)] 81)) x gp bp bn K X := h.below ((Below.refl _ _).alloc (Nat.le_refl _) _)
    have c2 := h0.cell1
    clear hh q2 hX hn3
    go_enter Tryz.func92, Tryz.ntmps92
    go_wp2_with (first
      | (at_lookup; refine wpList_lookOk rfl _ _ 64 rfl 81 Tryz.underlying64 _ (Tryz.zeroNode _) bn 24 _ rfl hM k rfl (by omega) _ true Q1.out Q2.out ?_)
      | go_in)
    refine region_tail 6 (by kernel_rfl) (by kernel_rfl) ?_
    intro w2 hw2
    have h2 : IdxAt w2 x gp bp bn K X := by rw [hw2]; exact h0.below (Below.refl _ _).drew
    have k0 : w2.cell? ⟨w.heap.size, 0, none⟩ = some (.int .i64 (X.N k).k0) := by rw [hw2]; exact cell_of_row _ _ _ _ _ _ (heap_alloc_new w _)
    have k1 : w2.cell? ⟨w.heap.size, 1, none⟩ = some (.int .i64 (X.N k).k1) := by rw [hw2]; exact cell_of_row _ _ _ _ _ _ (heap_alloc_new w _)
    have k2 : w2.cell? ⟨w.heap.size, 2, none⟩ = some (.int .i64 (X.N k).k2) := by rw [hw2]; exact cell_of_row _ _ _ _ _ _ (heap_alloc_new w _)
    have k3 : w2.cell? ⟨w.heap.size, 3, none⟩ = some (.int .i64 (X.N k).k3) := by rw [hw2]; exact cell_of_row _ _ _ _ _ _ (heap_alloc_new w _)
    have k4 : w2.cell? ⟨w.heap.size, 4, none⟩ = some (.int .i64 (((X.N k).refs : Int) + 1)) := by rw [hw2]; exact cell_of_row _ _ _ _ _ _ (heap_alloc_new w _)
    have t2 : Turn [bp, bn] w w2 := ((Turn.refl _ _).alloc _).of_drew hw2
    have c3 := h2.cell1
    have hM2 := h2.map
    clear hw2 c2 h0
    simp only [List.take_succ_cons, List.take_zero, List.drop_succ_cons, List.drop_zero]
    repeat still_step
    refine wpStill_nil ?_
    go_wp2_with (first
      | (at_mapUpdate; refine wpList_putMap rfl _ _ _ 64 rfl 81 Tryz.underlying64 bn 24 _ rfl hM2 (by omega) k rfl (by omega) _ rfl ?_; intro w3 hM3 ht3)
      | go_in)
    go_end0
    refine ⟨rfl, ?_, t2.turned ht3 (by simp)⟩
    rw [HX.out]
    exact h2.noded hM3 ht3 (fun m => nodMap_set (by omega) (by omega) (b := { X.N k with refs := (X.N k).refs + 1 }) (by simp) m) hok (by omega)
  | false =>
    have q2 : (nodMap X.N k).isSome = false := by rw [nodMap_isSome, hh]
    have Q2 := Lib.hid q2
    have hX : X.refN k = X := by unfold IdxM.refN incN; rw [hh]; rfl
    have HX := Lib.hid hX
    clear hh q2 hX
    go_enter Tryz.func92, Tryz.ntmps92
    go_wp2_with (first
      | (at_lookup; refine wpList_lookOk rfl _ _ 64 rfl 81 Tryz.underlying64 _ (Tryz.zeroNode _) bn 24 _ rfl hM k rfl (by omega) _ false Q1.out Q2.out ?_)
      | go_in)
    go_end0
    have b1 := (Below.refl w.heap.size w).alloc (Nat.le_refl _) (.cells #[.int .i64 (X.N k).k0, .int .i64 (X.N k).k1, .int .i64 (X.N k).k2, .int .i64 (X.N k).k3, .int .i64 (X.N k).refs] 81)
    refine ⟨rfl, ?_, Turn.of_below b1⟩
    rw [HX.out]
    exact (h.below b1).mono (by omega)
end Go.Proofs.YtlgahdabhnhjgaaGreatDoor

/- Arrays of four numbers as values: compared, built, indexed. -/
namespace Go.Proofs.YtlgahdabhnhjgaaGreatDoor
open Go.RowKit Go.Maps

theorem all_range_int : ∀ (xs ys : List Int), xs.length = ys.length → ((List.range xs.length).all fun i => xs.getD i 0 == ys.getD i 0) = (xs == ys)
  | [], [], _ => rfl
  | x :: xs, y :: ys, h => by
    have ih := all_range_int xs ys (by simpa using h)
    rw [List.length_cons, List.range_succ_eq_map, List.all_cons, List.all_map]
    simp only [List.getD_cons_zero, Function.comp_def, List.getD_cons_succ, ih]
    simp [List.cons_beq_cons]
  | [], _ :: _, h => by simp at h
  | _ :: _, [], h => by simp at h

section
variable {P : Program}
theorem equal_ints (w : World) (d : Nat) (t e : TypeId) (n : Nat) (ht : P.underlying t = some (.array n e)) (he : P.underlying e = some (.int .i64)) (hsz : ∀ w, (sizeOf e).run P w = .ok 1 w)
    (xs ys : List Int) (hx : xs.length = n) (hy : ys.length = n) :
    (Op.equalIn (d + 2) t (.agg (xs.map (Value.int .i64)).toArray) (.agg (ys.map (Value.int .i64)).toArray)).run P w = .ok (xs == ys) w := by
  rw [← all_range_int xs ys (hx.trans hy.symm), hx, List.range_eq_range', Op.equalIn]
  simp only [Sem.run_bind, run_underlying ht, Result.andThen_ok, hsz, Std.Legacy.Range.forIn_eq_forIn_range', Std.Legacy.Range.size, Nat.sub_zero, Nat.add_sub_cancel, Nat.div_one]
  have hl : ∀ i ∈ List.range' 0 n 1, i < n := fun i hi => by simpa using (List.mem_range'_1.1 hi).2
  generalize List.range' 0 n 1 = l at hl ⊢
  induction l with
  | nil => simp
  | cons i l ih =>
    have hi : i < n := hl i (by simp)
    have px : (part e (xs.map (Value.int .i64)).toArray (i * 1)).run P w = .ok (.int .i64 (xs.getD i 0)) w := by
      simp [part, isAgg, run_underlying he, List.getD, List.getElem?_eq_getElem (show i < xs.length by omega)]
    have py : (part e (ys.map (Value.int .i64)).toArray (i * 1)).run P w = .ok (.int .i64 (ys.getD i 0)) w := by
      simp [part, isAgg, run_underlying he, List.getD, List.getElem?_eq_getElem (show i < ys.length by omega)]
    have pe : (Op.equalIn (d + 1) e (.int .i64 (xs.getD i 0)) (.int .i64 (ys.getD i 0))).run P w = .ok (xs.getD i 0 == ys.getD i 0) w := run_equalIn_int w d e .i64 .i64 _ _ he
    simp only [List.forIn_cons, Sem.run_bind, px, py, pe, Result.andThen_ok, List.all_cons]
    cases hb : (xs.getD i 0 == ys.getD i 0)
    · simp
    · simp only [Bool.not_true, Bool.false_eq_true, if_false, Sem.run_pure, Result.andThen_ok, Bool.true_and]
      exact ih fun j hj => hl j (by simp [hj])
end
theorem eql4 (a b c d : Int) (r : Bool) (hr : ([a, b, c, d] == [0, 0, 0, 0]) = r) (w : World) : (binOp .eql 79 (.agg #[.int .i64 a, .int .i64 b, .int .i64 c, .int .i64 d]) (.agg #[.int .i64 0, .int .i64 0, .int .i64 0, .int .i64 0])).run Tryz.prog w = .ok (.bool r) w := by
  subst hr
  rw [run_eql_struct]
  have := equal_ints (P := Tryz.prog) w 9998 79 3 4 Tryz.underlying79 Tryz.underlying3 Tryz.sizeOf3 [a, b, c, d] [0, 0, 0, 0] rfl rfl
  simp only [List.map] at this
  rw [this]; rfl
theorem build4 (w : World) : (Instr.build 79 #[]).run Tryz.prog w = .ok (.agg #[.int .i64 0, .int .i64 0, .int .i64 0, .int .i64 0]) w := by kernel_rfl
/-- An element of an array of four numbers. -/
theorem idx4 (a b c d : Int) (i : Int) (h0 : 0 ≤ i) (hi : i < 4) (w : World) : (Instr.index 79 (.agg #[.int .i64 a, .int .i64 b, .int .i64 c, .int .i64 d]) (.int .i64 i)).run Tryz.prog w = .ok (.int .i64 (sel4 a b c d i.toNat)) w := by
  have : i = 0 ∨ i = 1 ∨ i = 2 ∨ i = 3 := by omega
  rcases this with rfl | rfl | rfl | rfl
  · show _ = Result.ok (Value.int .i64 a) w
    kernel_rfl
  · show _ = Result.ok (Value.int .i64 b) w
    kernel_rfl
  · show _ = Result.ok (Value.int .i64 c) w
    kernel_rfl
  · show _ = Result.ok (Value.int .i64 d) w
    kernel_rfl
end Go.Proofs.YtlgahdabhnhjgaaGreatDoor
