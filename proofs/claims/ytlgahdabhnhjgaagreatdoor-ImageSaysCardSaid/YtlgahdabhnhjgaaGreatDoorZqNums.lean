/- numbered.Sorted, numbered.Lowest, SameNumbers, slices.Sort: numbers in memory, and a map's keys in order. -/
import Derived.Test.YtlgahdabhnhjgaaGreatDoorProg
import Derived.WalkKit
import Derived.WalkLawsBesides
import Derived.WalkSpells
import Derived.Lib.Hide
import Derived.Deep.QuietTactic
import Derived.BigQuiet
import Derived.StillTailTactics
import Derived.Deep.RegionHeld3
import Derived.Deep.DeepCutAuto
import Derived.Outline
import Derived.Maps.RangeWalk
import Derived.Shelf.Sort.Plain
import Derived.Sort.OwnSortedInts
import Derived.OwnWalk
/- What all texts share: endings, errors as values. -/
namespace Go.Proofs.YtlgahdabhnhjgaaGreatDoor
open Go.RowKit

theorem ret_int {k : IntKind} {a b : Int} (h : a = b) : Ending.returned (.int k a) = .returned (.int k b) := by rw [h]
theorem ret_bool {a b : Bool} (h : a = b) : Ending.returned (.bool a) = .returned (.bool b) := by rw [h]

/-- An error as a value: none, or one of api's numbers. -/
def errV (n : Int) : Value := if n = 0 then .nilIface else .iface 93 (.int .i64 n)

theorem belowThen {w w' w'' : World} (h : Below w.heap.size w w') (k : Below w'.heap.size w' w'') : Below w.heap.size w w'' := h.trans (k.mono h.size)
end Go.Proofs.YtlgahdabhnhjgaaGreatDoor

/- Maps keyed by numbers, in memory: what stands at each key, how that is read, written and kept. -/
namespace Go.Proofs.YtlgahdabhnhjgaaGreatDoor
open Go.RowKit Go.Maps

/-- A region that draws its order, all but whose last operations only read: the world behind the draw has a name. -/
theorem region_tail {P : Program} {id : Nat} {Q : Exit → Act → World → Prop} {a : Act} {w : World} {l : List Oper} (n : Nat) (hm : P.follows .mixedOrders = true) (hB : Region.lexTailB .any l.toArray n = true)
    (h : ∀ w2, w2 = w.drew → wpStill P l.toArray w2 (fun a' => wpList P l.toArray Q (l.drop n) a' w2) (l.take n) a) : (Code.region id l.toArray true).wp P Q a w := wp_region_still_tail n hm hB (h _ rfl)

/-- How an element reads: as itself. -/
def anyElem (v : Value) : Option (DataW Value × List MemPlace) := some (.held v, [])

theorem intKeyed : Keyed Tryz.prog 3 := int_keyed Tryz.underlying3

/-- Memory behind a step: all blocks that were, but those that are named, are as they were. -/
structure Turn (bs : List Nat) (w w' : World) : Prop where
  os : w'.os = w.os
  tape : w'.tape = w.tape
  output : w'.output = w.output
  size : w.heap.size ≤ w'.heap.size
  block : ∀ k, k < w.heap.size → k ∉ bs → w'.heap[k]? = w.heap[k]?

theorem Turn.refl (bs : List Nat) (w : World) : Turn bs w w := ⟨rfl, rfl, rfl, Nat.le_refl _, fun _ _ _ => rfl⟩
theorem Turn.trans {bs : List Nat} {a b c : World} (h : Turn bs a b) (k : Turn bs b c) : Turn bs a c :=
  ⟨k.os.trans h.os, k.tape.trans h.tape, k.output.trans h.output, Nat.le_trans h.size k.size, fun i hi hn => (k.block i (Nat.lt_of_lt_of_le hi h.size) hn).trans (h.block i hi hn)⟩
theorem Turn.mono {bs cs : List Nat} {a b : World} (h : Turn bs a b) (hs : ∀ x ∈ bs, x ∈ cs) : Turn cs a b := ⟨h.os, h.tape, h.output, h.size, fun k hk hn => h.block k hk (fun hm => hn (hs k hm))⟩
theorem Turn.of_below {bs : List Nat} {a b : World} (h : Below a.heap.size a b) : Turn bs a b := ⟨h.os, h.tape, h.output, h.size, fun k hk _ => h.block k hk⟩
theorem Turn.below {bs : List Nat} {a b : World} {B : Nat} (h : Turn bs a b) (hB : B ≤ a.heap.size) (hb : ∀ x ∈ bs, B ≤ x) : Below B a b :=
  ⟨h.os, h.tape, h.output, h.size, fun k hk => h.block k (by omega) (fun hm => by have := hb k hm; omega)⟩
theorem Turn.nil {a b : World} (h : Turn [] a b) : Below a.heap.size a b := ⟨h.os, h.tape, h.output, h.size, fun k hk => h.block k hk (by simp)⟩
theorem Turn.alloc {bs : List Nat} {a b : World} (h : Turn bs a b) (o : Obj) : Turn bs a (b.alloc o) := h.trans (Turn.of_below ((Below.refl _ _).alloc (Nat.le_refl _) o))
theorem Turn.drew {bs : List Nat} {a b : World} (h : Turn bs a b) : Turn bs a b.drew := ⟨h.os, h.tape, h.output, h.size, h.block⟩
theorem Turn.drewN {bs : List Nat} {a b : World} (h : Turn bs a b) (n : Nat) : Turn bs a (b.drewN n) := h.trans (Turn.of_below (below_drewN (Below.refl _ _) n))
theorem Turn.of_drew {bs : List Nat} {a b c : World} (h : Turn bs a b) (e : c = b.drew) : Turn bs a c := e ▸ h.drew
theorem Turn.turned {bs : List Nat} {a b c : World} (h : Turn bs a b) {x : Nat} (k : b.mapTurned c x) (hx : x ∈ bs) : Turn bs a c :=
  h.trans (by
    have g := k.grown
    exact ⟨g.os, g.tape, g.output, g.size, fun i hi hn => g.block i hi (fun e => hn (by cases e; exact hx))⟩)
theorem Turn.grown {bs : List Nat} {a b c : World} {row : Option Nat} (h : Turn bs a b) (k : b.grownBy c row) (hx : ∀ x, row = some x → x ∈ bs ∨ a.heap.size ≤ x) : Turn bs a c :=
  ⟨k.os.trans h.os, k.tape.trans h.tape, k.output.trans h.output, Nat.le_trans h.size k.size, fun i hi hn => (k.block i (Nat.lt_of_lt_of_le hi h.size) (fun e => by
    rcases hx i e.symm with h1 | h1
    · exact hn h1
    · omega)).trans (h.block i hi hn)⟩
/-- A store into a block that is new since. -/
theorem Turn.setCell {bs : List Nat} {a b : World} (h : Turn bs a b) {p : Addr} (hp : a.heap.size ≤ p.block) (u : Value) : Turn bs a (b.setCell p u) :=
  ⟨h.os, h.tape, h.output, by simpa using h.size, fun k hk hn => (Below.heap_setCell _ _ _ _ (by omega)).trans (h.block k hk hn)⟩

/-- Block b is a map that has just these elements; its keys lie between 1 and N. -/
def MapOf (w : World) (b N : Nat) (f : Int → Option Value) : Prop :=
  ∃ D : DataW Value, w.ownsMap Tryz.prog 3 anyElem b (Maps.size D) D ∧ (∀ m : Int, Maps.has D (.int .i64 m) = (f m).isSome) ∧ (∀ (m : Int) (v : Value) (z : DataW Value), f m = some v → D.atKey (.int .i64 m) z = .held v) ∧ (∀ m, (f m).isSome = true → 1 ≤ m ∧ m ≤ (N : Int))

/-- The keys, in increasing order. -/
def keysOf (N : Nat) (f : Int → Option Value) : List Int := ((List.range N).map fun i => ((i : Nat) : Int) + 1).filter fun m => (f m).isSome

def putAt (f : Int → Option Value) (k : Int) (v : Value) : Int → Option Value := fun m => if m = k then some v else f m
def delAt (f : Int → Option Value) (k : Int) : Int → Option Value := fun m => if m = k then none else f m

theorem ownsMap_norm {w : World} {b n : Nat} {D : DataW Value} (h : w.ownsMap Tryz.prog 3 anyElem b n D) : w.ownsMap Tryz.prog 3 anyElem b (Maps.size D) D := by
  obtain ⟨es, clock, hb, F, _, rfl⟩ := h
  exact ⟨es, clock, hb, F, by simp [Maps.size, length_sorted], rfl⟩

theorem MapOf.lt {w : World} {b N : Nat} {f : Int → Option Value} (h : MapOf w b N f) : b < w.heap.size := by
  obtain ⟨D, hD, _⟩ := h
  exact hD.lt
theorem MapOf.ismap {w : World} {b N : Nat} {f : Int → Option Value} (h : MapOf w b N f) : ∃ es c, w.heap[b]? = some (.map es c) := by
  obtain ⟨D, ⟨es, c, hb, _⟩, _⟩ := h
  exact ⟨es, c, hb⟩
theorem MapOf.keep {w w' : World} {b N : Nat} {f : Int → Option Value} (h : MapOf w b N f) (hk : w'.heap[b]? = w.heap[b]?) : MapOf w' b N f := by
  obtain ⟨D, ⟨es, c, hb, r⟩, q⟩ := h
  exact ⟨D, ⟨es, c, hk.trans hb, r⟩, q⟩
theorem MapOf.turn {w w' : World} {b N : Nat} {f : Int → Option Value} {bs : List Nat} (h : MapOf w b N f) (ht : Turn bs w w') (hb : b ∉ bs) : MapOf w' b N f := h.keep (ht.block b h.lt hb)
theorem MapOf.congr {w : World} {b N : Nat} {f g : Int → Option Value} (h : MapOf w b N f) (e : ∀ m, f m = g m) : MapOf w b N g := by
  have : f = g := funext e
  rw [← this]; exact h

/-- The entries' keys are numbers. -/
theorem entriesI {w : World} {b n : Nat} {D : DataW Value} (h : w.ownsMap Tryz.prog 3 anyElem b n D) : ∃ es, D = .map es ∧ es.Pairwise (fun p q => p.1 ≠ q.1) ∧ ∀ p ∈ es, ∃ x : Int, p.1 = .int .i64 x := by
  have ht := h.tidy intKeyed
  obtain ⟨es, clock, _, F, _, rfl⟩ := h
  obtain ⟨es', e, hp⟩ := ht
  cases e
  refine ⟨_, rfl, hp, fun p hp' => ?_⟩
  obtain ⟨v, hv⟩ := fit_keys F p (mem_sorted.1 hp')
  obtain ⟨x, _, hx, _⟩ := Maps.keyOf_int_inv Tryz.underlying3 hv
  exact ⟨x, hx⟩

theorem isKeyI (x : Int) : WideAt.IsKeyLit (.int .i64 x) := trivial

def litInt : Lit → Int
  | .int _ x => x
  | _ => 0

theorem sameKey_int (x y : Int) : (Lit.int .i64 x).sameKey (.int .i64 y) = decide (x = y) := by
  by_cases h : x = y
  · subst h; rw [WideAt.sameKey_self (isKeyI x)]; simp
  · rw [Maps.sameKey_ne (by intro e; injection e with _ e; exact h e)]; simp [h]

/-- A list without repeats that has just the map's keys is a permutation of the keys in order. -/
theorem perm_keys {N : Nat} {f : Int → Option Value} (hs : ∀ m, (f m).isSome = true → 1 ≤ m ∧ m ≤ (N : Int)) {l : List Int} (hn : l.Nodup) (hm : ∀ x, x ∈ l ↔ (f x).isSome = true) : l.Perm (keysOf N f) := by
  refine (List.perm_ext_iff_of_nodup hn ?_).2 fun x => ?_
  · refine List.Pairwise.filter _ ?_
    refine List.pairwise_map.2 (List.nodup_range.imp fun {a b} hab e => hab (by omega))
  · rw [hm x, keysOf, List.mem_filter, List.mem_map]
    constructor
    · intro h
      have := hs x h
      exact ⟨⟨(x - 1).toNat, List.mem_range.2 (by omega), by omega⟩, h⟩
    · exact fun h => h.2

theorem MapOf.size {w : World} {b N : Nat} {f : Int → Option Value} {D : DataW Value} {n : Nat} (hD : w.ownsMap Tryz.prog 3 anyElem b n D) (h1 : ∀ m : Int, Maps.has D (.int .i64 m) = (f m).isSome) (hs : ∀ m, (f m).isSome = true → 1 ≤ m ∧ m ≤ (N : Int)) : Maps.size D = (keysOf N f).length := by
  obtain ⟨es, rfl, hp, hi⟩ := entriesI hD
  have : (es.map fun p => litInt p.1).Perm (keysOf N f) := by
    refine perm_keys hs ?_ fun x => ?_
    · refine List.pairwise_map.2 (hp.imp_of_mem fun {p q} hp' hq' hne e => hne ?_)
      obtain ⟨a, ha⟩ := hi p hp'
      obtain ⟨c, hc⟩ := hi q hq'
      rw [ha, hc] at e ⊢
      exact congrArg _ e
    · rw [← h1 x, Maps.has_eq, List.any_eq_true, List.mem_map]
      constructor
      · rintro ⟨p, hp', rfl⟩
        obtain ⟨a, ha⟩ := hi p hp'
        exact ⟨p, hp', by rw [ha]; simp [litInt, sameKey_int]⟩
      · rintro ⟨p, hp', hk⟩
        obtain ⟨a, ha⟩ := hi p hp'
        rw [ha, sameKey_int] at hk
        exact ⟨p, hp', by rw [ha]; simpa [litInt] using hk⟩
  have := this.length_eq
  simpa [Maps.size] using this

theorem keysOf_le (N : Nat) (f : Int → Option Value) : (keysOf N f).length ≤ N := by
  have := List.length_filter_le (fun m => (f m).isSome) ((List.range N).map fun i => ((i : Nat) : Int) + 1)
  simpa [keysOf] using this

theorem wfI {m : Int} (h : -9223372036854775808 ≤ m ∧ m ≤ 9223372036854775807) : (Lit.int .i64 m).wf = true := WalkArith.wf_i64 (by omega)
theorem keyI {m : Int} (h : -9223372036854775808 ≤ m ∧ m ≤ 9223372036854775807) : keyOf Tryz.prog 3 (.int .i64 m) = some (.int .i64 m) := keyOf_int_mk Tryz.underlying3 (wfI h)

section
variable {w : World} {b N : Nat} {f : Int → Option Value}

theorem MapOf.look_ok (h : MapOf w b N f) {t e : TypeId} (ht : Tryz.prog.underlying t = some (.map 3 e)) {z : Value} (hz : (zeroValue e).run Tryz.prog w = .ok z w) {m : Int} (hm : -9223372036854775808 ≤ m ∧ m ≤ 9223372036854775807) :
    (Instr.lookup t (.map (some b)) (.int .i64 m) true).run Tryz.prog w = .ok (.tuple #[(f m).getD z, .bool (f m).isSome]) w := by
  obtain ⟨D, hD, h1, h2, _⟩ := h
  obtain ⟨v, ps, hrun, hv⟩ := hD.look_ok intKeyed ht hz (zd := .held z) (zp := []) rfl (keyI hm)
  rw [hrun, h1]
  have : v = (f m).getD z := by
    simp only [anyElem, Option.some.injEq, Prod.mk.injEq] at hv
    cases hf : f m with
    | none =>
      have hn := h1 m
      rw [hf] at hn
      rw [Maps.atKey_of_not_has hn] at hv
      injection hv.1
    | some u =>
      rw [h2 m u _ hf] at hv
      injection hv.1
  rw [this]

theorem MapOf.look (h : MapOf w b N f) {t e : TypeId} (ht : Tryz.prog.underlying t = some (.map 3 e)) {z : Value} (hz : (zeroValue e).run Tryz.prog w = .ok z w) {m : Int} (hm : -9223372036854775808 ≤ m ∧ m ≤ 9223372036854775807) :
    (Instr.lookup t (.map (some b)) (.int .i64 m) false).run Tryz.prog w = .ok ((f m).getD z) w := by
  obtain ⟨D, hD, h1, h2, _⟩ := h
  obtain ⟨v, ps, hrun, hv⟩ := hD.lookup intKeyed ht hz (zd := .held z) (zp := []) rfl (keyI hm)
  rw [hrun]
  have : v = (f m).getD z := by
    simp only [anyElem, Option.some.injEq, Prod.mk.injEq] at hv
    cases hf : f m with
    | none =>
      have hn := h1 m
      rw [hf] at hn
      rw [Maps.atKey_of_not_has hn] at hv
      injection hv.1
    | some u =>
      rw [h2 m u _ hf] at hv
      injection hv.1
  rw [this]

theorem MapOf.len (h : MapOf w b N f) {t e : TypeId} (ht : Tryz.prog.underlying t = some (.map 3 e)) (ty : TypeId) : (Builtin.len_ #[t] ty #[.map (some b)]).run Tryz.prog w = .ok (.int .i64 (keysOf N f).length) w := by
  obtain ⟨D, hD, h1, _, hs⟩ := h
  rw [hD.len ht ty, MapOf.size hD h1 hs]

theorem MapOf.store (h : MapOf w b N f) {t e : TypeId} (ht : Tryz.prog.underlying t = some (.map 3 e)) (hN : N ≤ 1000000) {m : Int} (hm : 1 ≤ m ∧ m ≤ (N : Int)) (v : Value) :
    ∃ w', (Instr.mapUpdate t (.map (some b)) (.int .i64 m) v).run Tryz.prog w = .ok () w' ∧ MapOf w' b N (putAt f m v) ∧ w.mapTurned w' b := by
  obtain ⟨D, hD, h1, h2, hs⟩ := h
  have hsz := MapOf.size hD h1 hs
  have hle := keysOf_le N f
  obtain ⟨w', hrun, hD', ht'⟩ := hD.store intKeyed ht (by rw [hsz]; unfold maxLen; omega) (d := .held v) (ps := []) (keyI (m := m) (by omega)) rfl
  refine ⟨w', hrun, ⟨_, ownsMap_norm hD', fun x => ?_, fun x u z hu => ?_, fun x hx => ?_⟩, ht'⟩
  · by_cases hx : x = m
    · subst hx; rw [Maps.has_put_same hD.isMap (isKeyI x)]; simp [putAt]
    · rw [Maps.has_put_other (by intro e; injection e with _ e; exact hx e), h1]; simp [putAt, hx]
  · by_cases hx : x = m
    · subst hx
      simp [putAt] at hu
      subst hu
      exact Maps.atKey_put_same hD.isMap (isKeyI x) _ _
    · simp [putAt, hx] at hu
      rw [Maps.atKey_put_other (by intro e; injection e with _ e; exact hx e)]
      exact h2 x u z hu
  · by_cases hxm : x = m
    · subst hxm; exact hm
    · simp [putAt, hxm] at hx
      exact hs x (by simpa using hx)

theorem MapOf.drop (h : MapOf w b N f) {t e : TypeId} (ht : Tryz.prog.underlying t = some (.map 3 e)) {m : Int} (hm : -9223372036854775808 ≤ m ∧ m ≤ 9223372036854775807) (ty : TypeId) :
    ∃ w', (Builtin.delete_ #[t, 3] ty #[.map (some b), .int .i64 m]).run Tryz.prog w = .ok (.tuple #[]) w' ∧ MapOf w' b N (delAt f m) ∧ w.mapTurned w' b := by
  obtain ⟨D, hD, h1, h2, hs⟩ := h
  obtain ⟨w', hrun, hD', ht'⟩ := hD.drop intKeyed ht (keyI hm) ty
  refine ⟨w', hrun, ⟨_, ownsMap_norm hD', fun x => ?_, fun x u z hu => ?_, fun x hx => ?_⟩, ht'⟩
  · by_cases hx : x = m
    · subst hx; rw [Maps.has_del_same]; simp [delAt]
    · rw [Maps.has_del_other (by intro e; injection e with _ e; exact hx e), h1]; simp [delAt, hx]
  · by_cases hx : x = m
    · subst hx; simp [delAt] at hu
    · simp [delAt, hx] at hu
      rw [Maps.atKey_del_other (by intro e; injection e with _ e; exact hx e)]
      exact h2 x u z hu
  · by_cases hxm : x = m
    · subst hxm; simp [delAt] at hx
    · simp [delAt, hxm] at hx
      exact hs x (by simpa using hx)

theorem MapOf.made (w : World) (N : Nat) : MapOf (w.alloc (.map #[] 0)) w.heap.size N (fun _ => none) :=
  ⟨.map [], World.ownsMap_made w _ _ _, fun m => by simp [Maps.has], fun m v z h => (by cases h), fun m h => (by cases h)⟩

end

section
variable {w : World} {ops : Array Oper} {rest : List Oper} {o : Oper} {a : Act} {Q : Exit → Act → World → Prop}

/-- 'v, ok := m[k]'. -/
theorem wpList_lookOk (hg : o.guard = none) (m x : Operand) (t : TypeId) (hop : o.op = Op.lookup t m x true) (e : TypeId) (ht : Tryz.prog.underlying t = some (.map 3 e)) (z : Value) (hz : (zeroValue e).run Tryz.prog w = .ok z w)
    (b N : Nat) (f : Int → Option Value) (hm : a.eval m = .map (some b)) (h : MapOf w b N f) (k : Int) (hx : a.eval x = .int .i64 k) (hk : -9223372036854775808 ≤ k ∧ k ≤ 9223372036854775807) (r : Value) (ok : Bool) (hr : (f k).getD z = r) (hok : (f k).isSome = ok)
    (hK : wpList Tryz.prog ops Q rest (a.put o.dst (.tuple #[r, .bool ok])) w) : wpList Tryz.prog ops Q (o :: rest) a w := by
  refine wpList_plain hg fun K' hK' => ?_
  have hrun := h.look_ok ht hz hk
  rw [hr, hok] at hrun
  unfold Oper.wp
  simp [execOp, hop, hm, hx, hrun, Result.andThen]
  exact hK' _ _ hK

/-- 'm[k]'. -/
theorem wpList_look (hg : o.guard = none) (m x : Operand) (t : TypeId) (hop : o.op = Op.lookup t m x false) (e : TypeId) (ht : Tryz.prog.underlying t = some (.map 3 e)) (z : Value) (hz : (zeroValue e).run Tryz.prog w = .ok z w)
    (b N : Nat) (f : Int → Option Value) (hm : a.eval m = .map (some b)) (h : MapOf w b N f) (k : Int) (hx : a.eval x = .int .i64 k) (hk : -9223372036854775808 ≤ k ∧ k ≤ 9223372036854775807) (r : Value) (hr : (f k).getD z = r)
    (hK : wpList Tryz.prog ops Q rest (a.put o.dst r) w) : wpList Tryz.prog ops Q (o :: rest) a w := by
  refine wpList_plain hg fun K' hK' => ?_
  have hrun := h.look ht hz hk
  rw [hr] at hrun
  unfold Oper.wp
  simp [execOp, hop, hm, hx, hrun, Result.andThen]
  exact hK' _ _ hK

/-- 'len(m)'. -/
theorem wpList_lenMap (hg : o.guard = none) (m : Operand) (t : TypeId) (hop : o.op = Op.call { callee := Callee.builtin Builtin.len, args := #[m], argTypes := #[t] }) (e : TypeId) (ht : Tryz.prog.underlying t = some (.map 3 e))
    (b N : Nat) (f : Int → Option Value) (hm : a.eval m = .map (some b)) (h : MapOf w b N f) (n : Nat) (hn : (keysOf N f).length = n)
    (hK : wpList Tryz.prog ops Q rest (a.put o.dst (.int .i64 n)) w) : wpList Tryz.prog ops Q (o :: rest) a w := by
  refine wpList_plain hg fun K' hK' => ?_
  subst hn
  unfold Oper.wp
  simp [execOp, hop, resolve, invoke, builtin, hm, h.len ht o.type, Result.andThen]
  exact hK' _ _ hK

/-- 'm[k] = v'. -/
theorem wpList_putMap (hg : o.guard = none) (m x v : Operand) (t : TypeId) (hop : o.op = Op.mapUpdate t m x v) (e : TypeId) (ht : Tryz.prog.underlying t = some (.map 3 e))
    (b N : Nat) (f : Int → Option Value) (hm : a.eval m = .map (some b)) (h : MapOf w b N f) (hN : N ≤ 1000000) (k : Int) (hx : a.eval x = .int .i64 k) (hk : 1 ≤ k ∧ k ≤ (N : Int)) (u : Value) (hv : a.eval v = u)
    (hK : ∀ w', MapOf w' b N (putAt f k u) → w.mapTurned w' b → wpList Tryz.prog ops Q rest (a.put o.dst undef) w') : wpList Tryz.prog ops Q (o :: rest) a w := by
  refine wpList_plain hg fun K' hK' => ?_
  obtain ⟨w', hrun, r1, r2⟩ := h.store ht hN hk u
  unfold Oper.wp
  simp [execOp, hop, hm, hx, hv, hrun, Result.andThen]
  exact hK' _ _ (hK w' r1 r2)

/-- 'delete(m, k)'. -/
theorem wpList_delMap (hg : o.guard = none) (m x : Operand) (t : TypeId) (hop : o.op = Op.call { callee := Callee.builtin Builtin.delete, args := #[m, x], argTypes := #[t, 3] }) (e : TypeId) (ht : Tryz.prog.underlying t = some (.map 3 e))
    (b N : Nat) (f : Int → Option Value) (hm : a.eval m = .map (some b)) (h : MapOf w b N f) (k : Int) (hx : a.eval x = .int .i64 k) (hk : -9223372036854775808 ≤ k ∧ k ≤ 9223372036854775807)
    (hK : ∀ w', MapOf w' b N (delAt f k) → w.mapTurned w' b → wpList Tryz.prog ops Q rest (a.put o.dst (.tuple #[])) w') : wpList Tryz.prog ops Q (o :: rest) a w := by
  refine wpList_plain hg fun K' hK' => ?_
  obtain ⟨w', hrun, r1, r2⟩ := h.drop ht hk o.type
  unfold Oper.wp
  simp [execOp, hop, resolve, invoke, builtin, hm, hx, hrun, Result.andThen]
  exact hK' _ _ (hK w' r1 r2)
end
end Go.Proofs.YtlgahdabhnhjgaaGreatDoor

/- numbered.Sorted, numbered.Lowest, SameNumbers, slices.Sort: numbers in memory, and a map's keys in order. -/
namespace Go.Proofs.YtlgahdabhnhjgaaGreatDoor
open Go.RowKit Go.Maps Go.Sort

def Tryz.sort189_ren : Go.Shelf.Ren := ⟨fun | 189 => 86 | 125 => 117 | 257 => 116 | 128 => 148 | 129 => 149 | 294 => 139 | 295 => 140 | 296 => 141 | 297 => 142 | 298 => 143 | 299 => 144 | 216 => 145 | 300 => 146 | 301 => 147 | 328 => 162 | 329 => 163 | 330 => 164 | 331 => 165 | 332 => 166 | 215 => 167 | 343 => 174 | n => n, fun | 28 => 61 | 3 => 3 | 46 => 143 | 0 => 0 | 51 => 172 | 53 => 35 | 4 => 4 | 183 => 188 | 182 => 187 | 131 => 184 | 5 => 5 | 9 => 9 | 218 => 209 | 222 => 213 | 228 => 223 | 229 => 39 | n => n, fun | n => n⟩
theorem Tryz.sort189 : Go.Proofs.Lays.n189 Tryz.prog Tryz.sort189_ren := {
  mixed := by kernel_rfl
  f125 := Tryz.func117.trans (congrArg some (by kernel_rfl))
  f128 := Tryz.func148.trans (congrArg some (by kernel_rfl))
  f129 := Tryz.func149.trans (congrArg some (by kernel_rfl))
  f189 := Tryz.func86.trans (congrArg some (by kernel_rfl))
  f215 := Tryz.func167.trans (congrArg some (by kernel_rfl))
  f216 := Tryz.func145.trans (congrArg some (by kernel_rfl))
  f257 := Tryz.func116.trans (congrArg some (by kernel_rfl))
  f294 := Tryz.func139.trans (congrArg some (by kernel_rfl))
  f295 := Tryz.func140.trans (congrArg some (by kernel_rfl))
  f296 := Tryz.func141.trans (congrArg some (by kernel_rfl))
  f297 := Tryz.func142.trans (congrArg some (by kernel_rfl))
  f298 := Tryz.func143.trans (congrArg some (by kernel_rfl))
  f299 := Tryz.func144.trans (congrArg some (by kernel_rfl))
  f300 := Tryz.func146.trans (congrArg some (by kernel_rfl))
  f301 := Tryz.func147.trans (congrArg some (by kernel_rfl))
  f328 := Tryz.func162.trans (congrArg some (by kernel_rfl))
  f329 := Tryz.func163.trans (congrArg some (by kernel_rfl))
  f330 := Tryz.func164.trans (congrArg some (by kernel_rfl))
  f331 := Tryz.func165.trans (congrArg some (by kernel_rfl))
  f332 := Tryz.func166.trans (congrArg some (by kernel_rfl))
  f343 := Tryz.func174.trans (congrArg some (by kernel_rfl))
  t0 := Tryz.underlying0
  a0 := Tryz.isAgg0
  z0 := Tryz.sizeOf0
  v0 := Tryz.zeroValue0
  t3 := Tryz.underlying3
  a3 := Tryz.isAgg3
  z3 := Tryz.sizeOf3
  v3 := Tryz.zeroValue3
  t4 := Tryz.underlying4
  a4 := Tryz.isAgg4
  z4 := Tryz.sizeOf4
  v4 := Tryz.zeroValue4
  t5 := Tryz.underlying5
  a5 := Tryz.isAgg5
  z5 := Tryz.sizeOf5
  v5 := Tryz.zeroValue5
  t9 := Tryz.underlying9
  a9 := Tryz.isAgg9
  z9 := Tryz.sizeOf9
  v9 := Tryz.zeroValue9
  t28 := Tryz.underlying61
  a28 := Tryz.isAgg61
  z28 := Tryz.sizeOf61
  v28 := Tryz.zeroValue61
  t46 := Tryz.underlying143
  a46 := Tryz.isAgg143
  z46 := Tryz.sizeOf143
  v46 := Tryz.zeroValue143
  t51 := Tryz.underlying172
  a51 := Tryz.isAgg172
  z51 := Tryz.sizeOf172
  v51 := Tryz.zeroValue172
  t53 := Tryz.underlying35
  a53 := Tryz.isAgg35
  z53 := Tryz.sizeOf35
  v53 := Tryz.zeroValue35
  t131 := Tryz.underlying184
  a131 := Tryz.isAgg184
  z131 := Tryz.sizeOf184
  v131 := Tryz.zeroValue184
  t182 := Tryz.underlying187
  a182 := Tryz.isAgg187
  z182 := Tryz.sizeOf187
  v182 := Tryz.zeroValue187
  t183 := Tryz.underlying188
  a183 := Tryz.isAgg188
  z183 := Tryz.sizeOf188
  v183 := Tryz.zeroValue188
  t218 := Tryz.underlying209
  a218 := Tryz.isAgg209
  z218 := Tryz.sizeOf209
  v218 := Tryz.zeroValue209
  t222 := Tryz.underlying213
  a222 := Tryz.isAgg213
  z222 := Tryz.sizeOf213
  v222 := Tryz.zeroValue213
  t228 := Tryz.underlying223
  a228 := Tryz.isAgg223
  z228 := Tryz.sizeOf223
  v228 := Tryz.zeroValue223
  t229 := Tryz.underlying39
  a229 := Tryz.isAgg39
  z229 := Tryz.sizeOf39
  v229 := Tryz.zeroValue39 }

theorem Tryz.infoInt : (Tryz.prog.info? 3).map (fun i => (i.zero, i.size, i.bytes)) = some (some (.int .i64 0), 1, 8) := by kernel_rfl

/-- Numbers of a slice that the call has made. -/
def OwnInts (w : World) (base : Nat) (v : Value) (l : List Int) : Prop := w.ownsRow base 3 1 v l.length (l.map (Value.int .i64))

/-- Numbers in memory, as a slice. -/
def IntsAt (w : World) (A : Option Addr) (l : List Int) : Prop := ∀ i, (h : i < l.length) → ∃ b off, A = some ⟨b, off, none⟩ ∧ w.cell? ⟨b, off + i, none⟩ = some (.int .i64 l[i])

theorem OwnInts.at_ {w : World} {base : Nat} {v : Value} {l : List Int} (h' : OwnInts w base v l) : ∃ A c, v = .slice A l.length c ∧ IntsAt w A l ∧ (∀ b off, A = some ⟨b, off, none⟩ → base ≤ b ∧ b < w.heap.size) := by
  have h : w.ownsRow base 3 1 v l.length (l.map (Value.int .i64)) := h'
  rcases h.2 with ⟨rfl, h0⟩ | ⟨g, cap, cur, rfl, hb, hg, hn, hm, hs, ht⟩
  · exact ⟨none, 0, by rw [h0], fun i hi => absurd hi (by omega), fun b off e => by cases e⟩
  · refine ⟨_, cap, rfl, fun i hi => ⟨g, 0, rfl, ?_⟩, fun b off e => by cases e; exact ⟨hb, (Array.getElem?_eq_some_iff.1 hg).1⟩⟩
    rw [Nat.zero_add, h.cellAt i (by omega)]
    simp [hi]

theorem IntsAt.keep {w w' : World} {A : Option Addr} {l : List Int} (h : IntsAt w A l) (hk : ∀ b off, A = some ⟨b, off, none⟩ → b < w.heap.size → w'.heap[b]? = w.heap[b]?) : IntsAt w' A l := by
  intro i hi
  obtain ⟨b, off, e, h1⟩ := h i hi
  exact ⟨b, off, e, by rw [World.cell?_of_block (w := w) (a := ⟨b, off + i, none⟩) (hk b off e (World.block_lt_of_cell? w _ h1))]; exact h1⟩
theorem IntsAt.below {w w' : World} {A : Option Addr} {l : List Int} (h : IntsAt w A l) (hb : Below w.heap.size w w') : IntsAt w' A l := h.keep fun b _ _ hlt => hb.block b hlt
theorem IntsAt.turn {w w' : World} {A : Option Addr} {l : List Int} {bs : List Nat} (h : IntsAt w A l) (ht : Turn bs w w') (hn : ∀ b off, A = some ⟨b, off, none⟩ → b ∉ bs) : IntsAt w' A l := h.keep fun b off e hlt => ht.block b hlt (hn b off e)

/-- A call that answers numbers in new memory and leaves all else as it was. -/
def RetInts (w : World) (l : List Int) (e : Ending) (w' : World) : Prop := ∃ v, e = .returned v ∧ OwnInts w' w.heap.size v l ∧ Below w.heap.size w w'

/-- Keys that were met so far. -/
def Met (D : DataW Value) (left : Lit → Bool) (ss : List Int) : Prop := ss.Nodup ∧ ∀ x, x ∈ ss ↔ (Maps.has D (.int .i64 x) = true ∧ left (.int .i64 x) = false)

theorem Met.start (D : DataW Value) : Met D (Maps.has D) [] := ⟨List.nodup_nil, fun x => by cases Maps.has D (.int .i64 x) <;> simp⟩
theorem Met.step {D : DataW Value} {left : Lit → Bool} {ss : List Int} (h : Met D left ss) {x : Int} {y : DataW Value} (hlk : left (.int .i64 x) = true) (hat : ∀ zd, D.atKey (.int .i64 x) zd = y) : Met D (fun z => left z && !z.sameKey (.int .i64 x)) (ss ++ [x]) := by
  have hhas : Maps.has D (.int .i64 x) = true := has_true_of_atKey hat
  refine ⟨?_, fun z => ?_⟩
  · rw [List.nodup_append]
    refine ⟨h.1, by simp, fun a ha b hb e => ?_⟩
    simp at hb
    subst hb e
    have := ((h.2 a).1 ha).2
    rw [hlk] at this
    cases this
  · show _ ↔ _ ∧ (left (.int .i64 z) && !(Lit.int .i64 z).sameKey (.int .i64 x)) = false
    rw [List.mem_append, h.2 z, sameKey_int]
    by_cases e : z = x
    · subst e; simp [hhas]
    · simp [e]

theorem sort_perm {l l' : List Int} (h : l.Perm l') (hs : l'.Pairwise (fun a b => a ≤ b)) : l.mergeSort (fun x y => decide (x ≤ y)) = l' := by
  have tr : ∀ a b c : Int, decide (a ≤ b) = true → decide (b ≤ c) = true → decide (a ≤ c) = true := fun a b c h1 h2 => by simp at *; omega
  have tot : ∀ a b : Int, (decide (a ≤ b) || decide (b ≤ a)) = true := fun a b => by simp; omega
  refine List.Perm.eq_of_pairwise (le := fun a b => decide (a ≤ b) = true) (fun a b _ _ h1 h2 => ?_) (List.pairwise_mergeSort tr tot l) (hs.imp (by simp)) ((List.mergeSort_perm l _).trans h)
  simp at h1 h2; omega

theorem keysOf_sorted (N : Nat) (f : Int → Option Value) : (keysOf N f).Pairwise (fun a b => a ≤ b) := by
  refine List.Pairwise.filter _ (List.pairwise_map.2 ((List.pairwise_lt_range (n := N)).imp fun {a b} h => by omega))

/-- slices.Sort of no element. -/
theorem insSort_nil (p : Option Addr) (cap : Nat) (w : World) : Calls Tryz.prog 139 #[.slice p 0 cap, .int .i64 0, .int .i64 0] w fun e w' => e = .returned (.tuple #[]) ∧ w = w' := by
  go_enter Tryz.func139, Tryz.ntmps139
  go_wp2
  refine wp_loop_rounds 1 ?_
  rw [rounds_succ]
  go_wp2
  go_end0
  exact ⟨rfl, rfl⟩

set_option maxRecDepth 100000 in
theorem pdq_nil (p : Option Addr) (cap : Nat) (w : World) : Calls Tryz.prog 116 #[.slice p 0 cap, .int .i64 0, .int .i64 0, .int .i64 0] w fun e w' => e = .returned (.tuple #[]) ∧ w = w' := by
  go_enter Tryz.func116, Tryz.ntmps116
  go_wp2
  refine wp_loop_rounds 1 ?_
  rw [rounds_succ]
  go_wp2_with fail
  ((with_reducible refine (insSort_nil p cap _).mono ?_); rintro e w' ⟨rfl, rfl⟩)
  go_wp2
  refine bodyPost_ret (results_none rfl _ _ _) rfl ?_
  exact ⟨rfl, rfl⟩

set_option maxRecDepth 100000 in
theorem len64_zero (w : World) : Calls Tryz.prog 149 #[.int .u64 0] w fun e w' => e = .returned (.int .i64 0) ∧ w = w' := by
  go_enter Tryz.func149, Tryz.ntmps149
  go_wp2
  go_ret
  exact ⟨by kernel_rfl, rfl⟩

theorem len_zero (w : World) : Calls Tryz.prog 117 #[.int .u64 0] w fun e w' => e = .returned (.int .i64 0) ∧ w = w' := by
  go_enter Tryz.func117, Tryz.ntmps117
  go_wp2_with fail
  ((with_reducible refine (len64_zero _).mono ?_); rintro e w' ⟨rfl, rfl⟩)
  go_wp2
  go_ret
  exact ⟨rfl, rfl⟩

set_option maxRecDepth 100000 in
theorem sort_nil (p : Option Addr) (cap : Nat) (w : World) : Calls Tryz.prog 86 #[.slice p 0 cap] w fun e w' => e = .returned (.tuple #[]) ∧ w = w' := by
  go_enter Tryz.func86, Tryz.ntmps86
  go_wp2_with fail
  ((with_reducible refine (len_zero _).mono ?_); rintro e w' ⟨rfl, rfl⟩)
  go_wp2_with fail
  ((with_reducible refine (pdq_nil p cap _).mono ?_); rintro e w' ⟨rfl, rfl⟩)
  go_wp2
  go_end0
  exact ⟨rfl, rfl⟩

/-- slices.Sort of numbers that the call owns. -/
theorem sort_own (w : World) (base : Nat) (v : Value) (l : List Int) (h' : OwnInts w base v l) (hl : l.length ≤ 1000) (B : Nat) (hB : B ≤ base) (hBw : B ≤ w.heap.size) :
    Calls Tryz.prog 86 #[v] w fun e w' => e = .returned (.tuple #[]) ∧ OwnInts w' base v (l.mergeSort fun x y => decide (x ≤ y)) ∧ Below B w w' := by
  have h : w.ownsRow base 3 1 v l.length (l.map (Value.int .i64)) := h'
  rcases h.2 with ⟨rfl, h0⟩ | ⟨g, cap, cur, rfl, hbase, hb, h1, h2, h3, h4⟩
  · refine (sort_nil none 0 w).mono ?_
    rintro e w' ⟨rfl, rfl⟩
    have : l = [] := List.length_eq_zero_iff.1 h0
    subst this
    exact ⟨rfl, by rw [List.mergeSort_nil]; exact World.ownsRow_nil _ _ _ _, Below.refl _ _⟩
  · have hH : Holds (Value.int .i64) w g 0 l.toArray := holds_of_blockI hb (by simpa using h4)
    have hgl : g < w.heap.size := (Array.getElem?_eq_some_iff.1 hb).1
    refine (Any.slices_Sort_int Tryz.sort189 g 0 cap l w hH hgl (by omega)).mono ?_
    rintro e w' ⟨rfl, n, os, rfl⟩
    refine ⟨rfl, ?_, (Below.refl _ _).grown (grownBy_sortedI _) hBw (fun j hj => by cases hj; omega)⟩
    have := ownsRow_sortedI (w := w) (n := n) (os := os) (ss := l) (ts := l.mergeSort fun x y => decide (x ≤ y)) (by simp) hbase hb h1 h2 h3
    unfold OwnInts
    rw [List.length_mergeSort]
    exact this

theorem ownInts_ne {w : World} {base : Nat} {v : Value} {l : List Int} (h : OwnInts w base v l) {b : Nat} (hb : b < base) : some b ≠ v.ownBlock := row_ne_low h hb

theorem take_eq_snocI (l r : List Int) (k : Nat) (hk : k < l.length) (hk' : k < r.length) (h : l.take k = r.take k) : l.take (k + 1) = r.take (k + 1) ↔ l[k] = r[k] := by
  have e1 := List.take_succ_eq_append_getElem hk
  have e2 := List.take_succ_eq_append_getElem hk'
  rw [e1, e2, h]
  constructor
  · intro x
    have := List.append_cancel_left x
    simpa using this
  · intro x; rw [x]

set_option maxHeartbeats 1000000 in
theorem sameNumbers_any (A A' : Option Addr) (cap cap' : Nat) (l l' : List Int) (w : World) (hA : IntsAt w A l) (hA' : IntsAt w A' l') (hl : l.length ≤ 1000) :
    Calls Tryz.prog 81 #[.slice A l.length cap, .slice A' l'.length cap'] w fun e w' => e = .returned (.bool (decide (l = l'))) ∧ Below w.heap.size w w' := by
  by_cases hlen : l.length = l'.length
  · have hd : ((l.length : Int) != (l'.length : Int)) = false := by simp [hlen]
    have HL := Lib.hid hlen; clear hlen
    go_enter Tryz.func81, Tryz.ntmps81
    go_wp2
    go_loopw [5] (fun i w' => ∃ k : Nat, k ≤ l.length ∧ i = .int .i64 k ∧ Hid (l.take k = l'.take k) ∧ Below w.heap.size w w') (fun i _ => l.length - (intOf i).toNat)
    case atStart => exact ⟨0, Nat.zero_le _, rfl, rfl, Below.refl _ _⟩
    case round =>
      obtain ⟨k, hk, rfl, HE, hb⟩ := hrel
      by_cases hlt : k < l.length
      · have hlt' : k < l'.length := by have := HL.out; omega
        obtain ⟨b, off, rfl, h1⟩ := (hA.below hb) k hlt
        obtain ⟨b', off', rfl, h1'⟩ := (hA'.below hb) k hlt'
        by_cases c1 : l[k] = l'[k]
        · have d1 : (l[k] != l'[k]) = false := by simp [c1]
          have C1 := Lib.hid c1; clear c1
          go_wp2
          go_quiet (fail)
          go_wp2
          go_roundw
          case rel => exact ⟨k + 1, hlt, by go_num, (take_eq_snocI l l' k hlt hlt' HE.out).2 C1.out, below_drewN hb _⟩
          case measure => simp [intOf]; omega
        · have d1 : (l[k] != l'[k]) = true := by simp [c1]
          have C1 := Lib.hid c1; clear c1
          go_wp2
          go_quiet (fail)
          go_wp2
          go_ret
          exact ⟨ret_bool (by symm; simp only [decide_eq_false_iff_not]; intro e; subst e; exact C1.out rfl), below_drewN hb _⟩
      · go_wp2
        go_ret
        have h1 : l.take k = l := List.take_of_length_le (by omega)
        have h2 : l'.take k = l' := List.take_of_length_le (by have := HL.out; omega)
        exact ⟨ret_bool (by rw [← h1, ← h2, HE.out]; simp), hb⟩
  · have hd : ((l.length : Int) != (l'.length : Int)) = true := by simp; omega
    have HL := Lib.hid hlen; clear hlen
    go_enter Tryz.func81, Tryz.ntmps81
    go_wp2
    go_ret
    exact ⟨ret_bool (by
      symm; simp only [decide_eq_false_iff_not]; intro e; exact HL.out (by rw [e])), Below.refl _ _⟩

theorem Tryz.zeroBlock (w : World) : (zeroValue 77).run Tryz.prog w = .ok (.agg #[.string ByteArray.empty, .int .i64 0]) w := by kernel_rfl

set_option maxHeartbeats 1000000 in
set_option maxRecDepth 100000 in
/-- Sorted, of a map of Blocks. -/
theorem sorted_Block (b N : Nat) (f : Int → Option Value) (w : World) (h : MapOf w b N f) (hN : N ≤ 1000) :
    Calls Tryz.prog 53 #[.map (some b)] w (RetInts w (keysOf N f)) := by
  obtain ⟨D, hD, h1, _, hs⟩ := h
  have hsize := MapOf.size hD h1 hs
  have hle := keysOf_le N f
  have hbl := hD.lt
  obtain ⟨i0, hi, hz0, hz1, hz2⟩ := info_parts Tryz.infoInt
  have HP := Lib.hid (show ∀ ss : List Int, ss.Nodup → (∀ x, x ∈ ss ↔ Maps.has D (.int .i64 x) = true) → ss.Perm (keysOf N f) from fun ss hn hm => perm_keys hs hn (fun x => by rw [hm x, h1 x]))
  have hn0 : Maps.size D ≤ 1000 := by omega
  clear h1 hs hsize
  go_enter Tryz.func53, Tryz.ntmps53
  go_wp2_with (first
    | (at_range; refine wpList_range_own _ rfl _ 95 rfl 3 77 intKeyed Tryz.underlying95 _ b (Maps.size D) _ rfl hD ?_; intro w0 hrg0 hg0 hs0)
    | go_in)
  go_frame
  go_loopw [3] (fun v wr => ∃ (left : Lit → Bool) (cnt : Nat) (ss : List Int), wr.ranges Tryz.prog 3 anyElem b w.heap.size (Maps.size D) D left cnt ∧ ss.length + cnt ≤ Maps.size D ∧ OwnInts wr w.heap.size v ss ∧ Met D left ss ∧ Below w.heap.size w wr)
    (fun _ wr => wr.rangeLeft b w.heap.size)
  case atStart =>
    exact ⟨_, _, [], hrg0, by simp, World.ownsRow_nil _ _ _ _, Met.start D, (Below.refl _ _).grown hg0 (Nat.le_refl _) (fun j hj => by cases hj)⟩
  case round =>
    obtain ⟨left, cnt, ss, hrg, hcs, hrow, hC, hnx⟩ := hrel
    go_wp2_with (first
      | (at_next; refine wpList_next_ranges _ rfl _ rfl 3 intKeyed anyElem (Value.int .i64) (fun u : Value => u) (fun key kl hk => by obtain ⟨x, hx, _⟩ := Maps.keyOf_int_inv Tryz.underlying3 hk; exact ⟨x, hx⟩) (fun v y _ => ⟨v, rfl⟩) b w.heap.size (Maps.size D) _ _ _ rfl hrg ?_ ?_)
      | go_in)
    · intro hc0 hl0
      have hsort := sort_own wr w.heap.size _ ss hrow (by omega) w.heap.size (Nat.le_refl _) hnx.size
      have HE := Lib.hid (sort_perm (HP.out ss hC.1 (fun x => by rw [hC.2 x, hl0]; simp)) (keysOf_sorted N f))
      clear hl0
      go_wp2_with fail
      ((with_reducible refine hsort.mono ?_); rintro e w' ⟨rfl, hO, hb⟩)
      go_wp2
      go_ret
      exact ⟨_, rfl, by rw [← HE.out]; exact hO, hnx.trans hb⟩
    · intro x c kl yd yp w2 cnt2 hkey hlk hv hat hrg2 hlt hg2 hs2 hen
      obtain ⟨x', ex, rfl, _⟩ := Maps.keyOf_int_inv Tryz.underlying3 hkey
      obtain rfl : x = x' := by injection ex
      have hrow2 : OwnInts w2 w.heap.size _ ss := World.ownsRow.kept hrow hg2 (Or.inr (row_ne_iter hrow hrg).symm)
      have hC2 := hC.step hlk hat
      clear hs2 hat hC
      go_wp2_with (first
        | (at_builtin; refine wpList_append_own _ rfl _ _ 61 rfl w.heap.size 3 i0 (.int .i64 0) 1 8 Tryz.underlying61 hi hz0 hz1 hz2 rfl (by decide) _ _ _ rfl (World.ownsRow.alloc hrow2 _) ⟨w2.heap.size, 0, none⟩ 1 1 [.int .i64 x] rfl rfl (cell_one_new _ _ _) (by simp [Value.oneCell']) (by unfold maxLen; omega) (by omega) (by have := hnx.size; have := hg2.size; simp; omega) ?_; intro v' w3 hown' hg3 hnil3; go_frame)
        | go_in)
      have hrg3 := (hrg2.alloc _).kept hg3 (row_ne_low hrow2 hbl) (row_ne_iter hrow2 hrg2)
      go_roundw
      case rel =>
        refine ⟨_, cnt2, ss ++ [x], hrg3, by simp; omega, ?_, hC2, ?_⟩
        · unfold OwnInts; simpa using hown'
        · exact ((hnx.grown hg2 hnx.size (fun j hj => by cases hj; exact Nat.le_refl _)).alloc (by have := hnx.size; have := hg2.size; omega) _).grown hg3 (by have := hnx.size; have := hg2.size; simp; omega) (fun j hj => (World.ownsRow.lt hrow2 j hj).1)
      case measure => rw [hrg3.left_eq, hrg.left_eq]; exact hlt

/-- Lowest, of a map of Blocks that has no element at a number n, but at all from 1 up to it. -/
theorem lowest_Block (b N : Nat) (f : Int → Option Value) (w : World) (h : MapOf w b N f) (hN : N ≤ 1000) (hf : ∀ m v, f m = some v → ∃ (d : ByteArray) (r : Int), v = .agg #[.string d, .int .i64 r]) (n : Nat) (hn : 1 ≤ n) (h0 : f n = none) (h1 : ∀ m : Nat, 1 ≤ m → m < n → (f m).isSome = true) :
    Calls Tryz.prog 150 #[.map (some b)] w fun e w' => e = .returned (.int .i64 n) ∧ Below w.heap.size w w' := by
  have hnN : n ≤ N + 1 := by
    by_cases hc : n ≤ 1
    · omega
    · have h2 := h1 (n - 1) (by omega) (by omega)
      obtain ⟨_, _, _, _, hs⟩ := h
      have := hs _ h2
      omega
  have H1 := Lib.hid h1
  have HF := Lib.hid hf
  clear h1 hf
  go_enter Tryz.func150, Tryz.ntmps150
  go_wp2
  go_loopw [3] (fun i wr => ∃ k : Nat, 1 ≤ k ∧ k ≤ n ∧ i = .int .i64 k ∧ Below w.heap.size w wr) (fun i _ => n - (intOf i).toNat)
  case atStart => exact ⟨1, Nat.le_refl _, hn, rfl, Below.refl _ _⟩
  case round =>
    obtain ⟨k, hk1, hk, rfl, hb⟩ := hrel
    have hM := h.keep (hb.block b h.lt)
    have hsz := hb.size
    by_cases hlt : k < n
    · obtain ⟨u, hu⟩ := Option.isSome_iff_exists.1 (H1.out k hk1 hlt)
      obtain ⟨ud, ur, rfl⟩ := HF.out _ _ hu
      have q1 : (f k).getD (.agg #[.string ByteArray.empty, .int .i64 0]) = .agg #[.string ud, .int .i64 ur] := by rw [hu]; rfl
      have q2 : (f k).isSome = true := by rw [hu]; rfl
      have Q1 := Lib.hid q1
      have Q2 := Lib.hid q2
      clear q1 q2 hu h0
      go_wp2_with (first
        | (at_lookup; refine wpList_lookOk rfl _ _ 95 rfl 77 Tryz.underlying95 _ (Tryz.zeroBlock _) b N f rfl hM k rfl (by omega) _ true Q1.out Q2.out ?_)
        | go_in)
      go_roundw
      case rel => exact ⟨k + 1, by omega, hlt, by go_num, hb.alloc hsz _⟩
      case measure => simp [intOf]; omega
    · obtain rfl : k = n := by omega
      have q1 : (f k).getD (.agg #[.string ByteArray.empty, .int .i64 0]) = (.agg #[.string ByteArray.empty, .int .i64 0]) := by rw [h0]; rfl
      have q2 : (f k).isSome = false := by rw [h0]; rfl
      have Q1 := Lib.hid q1
      have Q2 := Lib.hid q2
      clear q1 q2 h0
      go_wp2_with (first
        | (at_lookup; refine wpList_lookOk rfl _ _ 95 rfl 77 Tryz.underlying95 _ (Tryz.zeroBlock _) b N f rfl hM k rfl (by omega) _ false Q1.out Q2.out ?_)
        | go_in)
      go_ret
      exact ⟨rfl, hb.alloc hsz _⟩

end Go.Proofs.YtlgahdabhnhjgaaGreatDoor
