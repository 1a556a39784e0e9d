/- Maps keyed by numbers, in memory: what stands at each key, how that is read, written and kept. -/
import Derived.Test.YtlgahdabhnhjgaaGreatDoorProg
import Derived.WalkKit
import Derived.WalkLawsBesides
import Derived.WalkSpells
import Derived.Lib.Hide
import Derived.Deep.QuietTactic
import Derived.BigQuiet
import Derived.StillTailTactics
import Derived.Deep.RegionHeld3
import Derived.Deep.DeepCutAuto
import Derived.Outline
import Derived.Maps.RangeWalk
/- What all texts share: endings, errors as values. -/
namespace Go.Proofs.YtlgahdabhnhjgaaGreatDoor
open Go.RowKit

theorem ret_int {k : IntKind} {a b : Int} (h : a = b) : Ending.returned (.int k a) = .returned (.int k b) := by rw [h]
theorem ret_bool {a b : Bool} (h : a = b) : Ending.returned (.bool a) = .returned (.bool b) := by rw [h]

/-- An error as a value: none, or one of api's numbers. -/
def errV (n : Int) : Value := if n = 0 then .nilIface else .iface 93 (.int .i64 n)

theorem belowThen {w w' w'' : World} (h : Below w.heap.size w w') (k : Below w'.heap.size w' w'') : Below w.heap.size w w'' := h.trans (k.mono h.size)
end Go.Proofs.YtlgahdabhnhjgaaGreatDoor

/- Maps keyed by numbers, in memory: what stands at each key, how that is read, written and kept. -/
namespace Go.Proofs.YtlgahdabhnhjgaaGreatDoor
open Go.RowKit Go.Maps

/-- A region that draws its order, all but whose last operations only read: the world behind the draw has a name. -/
theorem region_tail {P : Program} {id : Nat} {Q : Exit → Act → World → Prop} {a : Act} {w : World} {l : List Oper} (n : Nat) (hm : P.follows .mixedOrders = true) (hB : Region.lexTailB .any l.toArray n = true)
    (h : ∀ w2, w2 = w.drew → wpStill P l.toArray w2 (fun a' => wpList P l.toArray Q (l.drop n) a' w2) (l.take n) a) : (Code.region id l.toArray true).wp P Q a w := wp_region_still_tail n hm hB (h _ rfl)

/-- How an element reads: as itself. -/
def anyElem (v : Value) : Option (DataW Value × List MemPlace) := some (.held v, [])

theorem intKeyed : Keyed Tryz.prog 3 := int_keyed Tryz.underlying3

/-- Memory behind a step: all blocks that were, but those that are named, are as they were. -/
structure Turn (bs : List Nat) (w w' : World) : Prop where
  os : w'.os = w.os
  tape : w'.tape = w.tape
  output : w'.output = w.output
  size : w.heap.size ≤ w'.heap.size
  block : ∀ k, k < w.heap.size → k ∉ bs → w'.heap[k]? = w.heap[k]?

theorem Turn.refl (bs : List Nat) (w : World) : Turn bs w w := ⟨rfl, rfl, rfl, Nat.le_refl _, fun _ _ _ => rfl⟩
theorem Turn.trans {bs : List Nat} {a b c : World} (h : Turn bs a b) (k : Turn bs b c) : Turn bs a c :=
  ⟨k.os.trans h.os, k.tape.trans h.tape, k.output.trans h.output, Nat.le_trans h.size k.size, fun i hi hn => (k.block i (Nat.lt_of_lt_of_le hi h.size) hn).trans (h.block i hi hn)⟩
theorem Turn.mono {bs cs : List Nat} {a b : World} (h : Turn bs a b) (hs : ∀ x ∈ bs, x ∈ cs) : Turn cs a b := ⟨h.os, h.tape, h.output, h.size, fun k hk hn => h.block k hk (fun hm => hn (hs k hm))⟩
theorem Turn.of_below {bs : List Nat} {a b : World} (h : Below a.heap.size a b) : Turn bs a b := ⟨h.os, h.tape, h.output, h.size, fun k hk _ => h.block k hk⟩
theorem Turn.below {bs : List Nat} {a b : World} {B : Nat} (h : Turn bs a b) (hB : B ≤ a.heap.size) (hb : ∀ x ∈ bs, B ≤ x) : Below B a b :=
  ⟨h.os, h.tape, h.output, h.size, fun k hk => h.block k (by omega) (fun hm => by have := hb k hm; omega)⟩
theorem Turn.nil {a b : World} (h : Turn [] a b) : Below a.heap.size a b := ⟨h.os, h.tape, h.output, h.size, fun k hk => h.block k hk (by simp)⟩
theorem Turn.alloc {bs : List Nat} {a b : World} (h : Turn bs a b) (o : Obj) : Turn bs a (b.alloc o) := h.trans (Turn.of_below ((Below.refl _ _).alloc (Nat.le_refl _) o))
theorem Turn.drew {bs : List Nat} {a b : World} (h : Turn bs a b) : Turn bs a b.drew := ⟨h.os, h.tape, h.output, h.size, h.block⟩
theorem Turn.drewN {bs : List Nat} {a b : World} (h : Turn bs a b) (n : Nat) : Turn bs a (b.drewN n) := h.trans (Turn.of_below (below_drewN (Below.refl _ _) n))
theorem Turn.of_drew {bs : List Nat} {a b c : World} (h : Turn bs a b) (e : c = b.drew) : Turn bs a c := e ▸ h.drew
theorem Turn.turned {bs : List Nat} {a b c : World} (h : Turn bs a b) {x : Nat} (k : b.mapTurned c x) (hx : x ∈ bs) : Turn bs a c :=
  h.trans (by
    have g := k.grown
    exact ⟨g.os, g.tape, g.output, g.size, fun i hi hn => g.block i hi (fun e => hn (by cases e; exact hx))⟩)
theorem Turn.grown {bs : List Nat} {a b c : World} {row : Option Nat} (h : Turn bs a b) (k : b.grownBy c row) (hx : ∀ x, row = some x → x ∈ bs ∨ a.heap.size ≤ x) : Turn bs a c :=
  ⟨k.os.trans h.os, k.tape.trans h.tape, k.output.trans h.output, Nat.le_trans h.size k.size, fun i hi hn => (k.block i (Nat.lt_of_lt_of_le hi h.size) (fun e => by
    rcases hx i e.symm with h1 | h1
    · exact hn h1
    · omega)).trans (h.block i hi hn)⟩
/-- A store into a block that is new since. -/
theorem Turn.setCell {bs : List Nat} {a b : World} (h : Turn bs a b) {p : Addr} (hp : a.heap.size ≤ p.block) (u : Value) : Turn bs a (b.setCell p u) :=
  ⟨h.os, h.tape, h.output, by simpa using h.size, fun k hk hn => (Below.heap_setCell _ _ _ _ (by omega)).trans (h.block k hk hn)⟩

/-- Block b is a map that has just these elements; its keys lie between 1 and N. -/
def MapOf (w : World) (b N : Nat) (f : Int → Option Value) : Prop :=
  ∃ D : DataW Value, w.ownsMap Tryz.prog 3 anyElem b (Maps.size D) D ∧ (∀ m : Int, Maps.has D (.int .i64 m) = (f m).isSome) ∧ (∀ (m : Int) (v : Value) (z : DataW Value), f m = some v → D.atKey (.int .i64 m) z = .held v) ∧ (∀ m, (f m).isSome = true → 1 ≤ m ∧ m ≤ (N : Int))

/-- The keys, in increasing order. -/
def keysOf (N : Nat) (f : Int → Option Value) : List Int := ((List.range N).map fun i => ((i : Nat) : Int) + 1).filter fun m => (f m).isSome

def putAt (f : Int → Option Value) (k : Int) (v : Value) : Int → Option Value := fun m => if m = k then some v else f m
def delAt (f : Int → Option Value) (k : Int) : Int → Option Value := fun m => if m = k then none else f m

theorem ownsMap_norm {w : World} {b n : Nat} {D : DataW Value} (h : w.ownsMap Tryz.prog 3 anyElem b n D) : w.ownsMap Tryz.prog 3 anyElem b (Maps.size D) D := by
  obtain ⟨es, clock, hb, F, _, rfl⟩ := h
  exact ⟨es, clock, hb, F, by simp [Maps.size, length_sorted], rfl⟩

theorem MapOf.lt {w : World} {b N : Nat} {f : Int → Option Value} (h : MapOf w b N f) : b < w.heap.size := by
  obtain ⟨D, hD, _⟩ := h
  exact hD.lt
theorem MapOf.ismap {w : World} {b N : Nat} {f : Int → Option Value} (h : MapOf w b N f) : ∃ es c, w.heap[b]? = some (.map es c) := by
  obtain ⟨D, ⟨es, c, hb, _⟩, _⟩ := h
  exact ⟨es, c, hb⟩
theorem MapOf.keep {w w' : World} {b N : Nat} {f : Int → Option Value} (h : MapOf w b N f) (hk : w'.heap[b]? = w.heap[b]?) : MapOf w' b N f := by
  obtain ⟨D, ⟨es, c, hb, r⟩, q⟩ := h
  exact ⟨D, ⟨es, c, hk.trans hb, r⟩, q⟩
theorem MapOf.turn {w w' : World} {b N : Nat} {f : Int → Option Value} {bs : List Nat} (h : MapOf w b N f) (ht : Turn bs w w') (hb : b ∉ bs) : MapOf w' b N f := h.keep (ht.block b h.lt hb)
theorem MapOf.congr {w : World} {b N : Nat} {f g : Int → Option Value} (h : MapOf w b N f) (e : ∀ m, f m = g m) : MapOf w b N g := by
  have : f = g := funext e
  rw [← this]; exact h

/-- The entries' keys are numbers. -/
theorem entriesI {w : World} {b n : Nat} {D : DataW Value} (h : w.ownsMap Tryz.prog 3 anyElem b n D) : ∃ es, D = .map es ∧ es.Pairwise (fun p q => p.1 ≠ q.1) ∧ ∀ p ∈ es, ∃ x : Int, p.1 = .int .i64 x := by
  have ht := h.tidy intKeyed
  obtain ⟨es, clock, _, F, _, rfl⟩ := h
  obtain ⟨es', e, hp⟩ := ht
  cases e
  refine ⟨_, rfl, hp, fun p hp' => ?_⟩
  obtain ⟨v, hv⟩ := fit_keys F p (mem_sorted.1 hp')
  obtain ⟨x, _, hx, _⟩ := Maps.keyOf_int_inv Tryz.underlying3 hv
  exact ⟨x, hx⟩

theorem isKeyI (x : Int) : WideAt.IsKeyLit (.int .i64 x) := trivial

def litInt : Lit → Int
  | .int _ x => x
  | _ => 0

theorem sameKey_int (x y : Int) : (Lit.int .i64 x).sameKey (.int .i64 y) = decide (x = y) := by
  by_cases h : x = y
  · subst h; rw [WideAt.sameKey_self (isKeyI x)]; simp
  · rw [Maps.sameKey_ne (by intro e; injection e with _ e; exact h e)]; simp [h]

/-- A list without repeats that has just the map's keys is a permutation of the keys in order. -/
theorem perm_keys {N : Nat} {f : Int → Option Value} (hs : ∀ m, (f m).isSome = true → 1 ≤ m ∧ m ≤ (N : Int)) {l : List Int} (hn : l.Nodup) (hm : ∀ x, x ∈ l ↔ (f x).isSome = true) : l.Perm (keysOf N f) := by
  refine (List.perm_ext_iff_of_nodup hn ?_).2 fun x => ?_
  · refine List.Pairwise.filter _ ?_
    refine List.pairwise_map.2 (List.nodup_range.imp fun {a b} hab e => hab (by omega))
  · rw [hm x, keysOf, List.mem_filter, List.mem_map]
    constructor
    · intro h
      have := hs x h
      exact ⟨⟨(x - 1).toNat, List.mem_range.2 (by omega), by omega⟩, h⟩
    · exact fun h => h.2

theorem MapOf.size {w : World} {b N : Nat} {f : Int → Option Value} {D : DataW Value} {n : Nat} (hD : w.ownsMap Tryz.prog 3 anyElem b n D) (h1 : ∀ m : Int, Maps.has D (.int .i64 m) = (f m).isSome) (hs : ∀ m, (f m).isSome = true → 1 ≤ m ∧ m ≤ (N : Int)) : Maps.size D = (keysOf N f).length := by
  obtain ⟨es, rfl, hp, hi⟩ := entriesI hD
  have : (es.map fun p => litInt p.1).Perm (keysOf N f) := by
    refine perm_keys hs ?_ fun x => ?_
    · refine List.pairwise_map.2 (hp.imp_of_mem fun {p q} hp' hq' hne e => hne ?_)
      obtain ⟨a, ha⟩ := hi p hp'
      obtain ⟨c, hc⟩ := hi q hq'
      rw [ha, hc] at e ⊢
      exact congrArg _ e
    · rw [← h1 x, Maps.has_eq, List.any_eq_true, List.mem_map]
      constructor
      · rintro ⟨p, hp', rfl⟩
        obtain ⟨a, ha⟩ := hi p hp'
        exact ⟨p, hp', by rw [ha]; simp [litInt, sameKey_int]⟩
      · rintro ⟨p, hp', hk⟩
        obtain ⟨a, ha⟩ := hi p hp'
        rw [ha, sameKey_int] at hk
        exact ⟨p, hp', by rw [ha]; simpa [litInt] using hk⟩
  have := this.length_eq
  simpa [Maps.size] using this

theorem keysOf_le (N : Nat) (f : Int → Option Value) : (keysOf N f).length ≤ N := by
  have := List.length_filter_le (fun m => (f m).isSome) ((List.range N).map fun i => ((i : Nat) : Int) + 1)
  simpa [keysOf] using this

theorem wfI {m : Int} (h : -9223372036854775808 ≤ m ∧ m ≤ 9223372036854775807) : (Lit.int .i64 m).wf = true := WalkArith.wf_i64 (by omega)
theorem keyI {m : Int} (h : -9223372036854775808 ≤ m ∧ m ≤ 9223372036854775807) : keyOf Tryz.prog 3 (.int .i64 m) = some (.int .i64 m) := keyOf_int_mk Tryz.underlying3 (wfI h)

section
variable {w : World} {b N : Nat} {f : Int → Option Value}

theorem MapOf.look_ok (h : MapOf w b N f) {t e : TypeId} (ht : Tryz.prog.underlying t = some (.map 3 e)) {z : Value} (hz : (zeroValue e).run Tryz.prog w = .ok z w) {m : Int} (hm : -9223372036854775808 ≤ m ∧ m ≤ 9223372036854775807) :
    (Instr.lookup t (.map (some b)) (.int .i64 m) true).run Tryz.prog w = .ok (.tuple #[(f m).getD z, .bool (f m).isSome]) w := by
  obtain ⟨D, hD, h1, h2, _⟩ := h
  obtain ⟨v, ps, hrun, hv⟩ := hD.look_ok intKeyed ht hz (zd := .held z) (zp := []) rfl (keyI hm)
  rw [hrun, h1]
  have : v = (f m).getD z := by
    simp only [anyElem, Option.some.injEq, Prod.mk.injEq] at hv
    cases hf : f m with
    | none =>
      have hn := h1 m
      rw [hf] at hn
      rw [Maps.atKey_of_not_has hn] at hv
      injection hv.1
    | some u =>
      rw [h2 m u _ hf] at hv
      injection hv.1
  rw [this]

theorem MapOf.look (h : MapOf w b N f) {t e : TypeId} (ht : Tryz.prog.underlying t = some (.map 3 e)) {z : Value} (hz : (zeroValue e).run Tryz.prog w = .ok z w) {m : Int} (hm : -9223372036854775808 ≤ m ∧ m ≤ 9223372036854775807) :
    (Instr.lookup t (.map (some b)) (.int .i64 m) false).run Tryz.prog w = .ok ((f m).getD z) w := by
  obtain ⟨D, hD, h1, h2, _⟩ := h
  obtain ⟨v, ps, hrun, hv⟩ := hD.lookup intKeyed ht hz (zd := .held z) (zp := []) rfl (keyI hm)
  rw [hrun]
  have : v = (f m).getD z := by
    simp only [anyElem, Option.some.injEq, Prod.mk.injEq] at hv
    cases hf : f m with
    | none =>
      have hn := h1 m
      rw [hf] at hn
      rw [Maps.atKey_of_not_has hn] at hv
      injection hv.1
    | some u =>
      rw [h2 m u _ hf] at hv
      injection hv.1
  rw [this]

theorem MapOf.len (h : MapOf w b N f) {t e : TypeId} (ht : Tryz.prog.underlying t = some (.map 3 e)) (ty : TypeId) : (Builtin.len_ #[t] ty #[.map (some b)]).run Tryz.prog w = .ok (.int .i64 (keysOf N f).length) w := by
  obtain ⟨D, hD, h1, _, hs⟩ := h
  rw [hD.len ht ty, MapOf.size hD h1 hs]

theorem MapOf.store (h : MapOf w b N f) {t e : TypeId} (ht : Tryz.prog.underlying t = some (.map 3 e)) (hN : N ≤ 1000000) {m : Int} (hm : 1 ≤ m ∧ m ≤ (N : Int)) (v : Value) :
    ∃ w', (Instr.mapUpdate t (.map (some b)) (.int .i64 m) v).run Tryz.prog w = .ok () w' ∧ MapOf w' b N (putAt f m v) ∧ w.mapTurned w' b := by
  obtain ⟨D, hD, h1, h2, hs⟩ := h
  have hsz := MapOf.size hD h1 hs
  have hle := keysOf_le N f
  obtain ⟨w', hrun, hD', ht'⟩ := hD.store intKeyed ht (by rw [hsz]; unfold maxLen; omega) (d := .held v) (ps := []) (keyI (m := m) (by omega)) rfl
  refine ⟨w', hrun, ⟨_, ownsMap_norm hD', fun x => ?_, fun x u z hu => ?_, fun x hx => ?_⟩, ht'⟩
  · by_cases hx : x = m
    · subst hx; rw [Maps.has_put_same hD.isMap (isKeyI x)]; simp [putAt]
    · rw [Maps.has_put_other (by intro e; injection e with _ e; exact hx e), h1]; simp [putAt, hx]
  · by_cases hx : x = m
    · subst hx
      simp [putAt] at hu
      subst hu
      exact Maps.atKey_put_same hD.isMap (isKeyI x) _ _
    · simp [putAt, hx] at hu
      rw [Maps.atKey_put_other (by intro e; injection e with _ e; exact hx e)]
      exact h2 x u z hu
  · by_cases hxm : x = m
    · subst hxm; exact hm
    · simp [putAt, hxm] at hx
      exact hs x (by simpa using hx)

theorem MapOf.drop (h : MapOf w b N f) {t e : TypeId} (ht : Tryz.prog.underlying t = some (.map 3 e)) {m : Int} (hm : -9223372036854775808 ≤ m ∧ m ≤ 9223372036854775807) (ty : TypeId) :
    ∃ w', (Builtin.delete_ #[t, 3] ty #[.map (some b), .int .i64 m]).run Tryz.prog w = .ok (.tuple #[]) w' ∧ MapOf w' b N (delAt f m) ∧ w.mapTurned w' b := by
  obtain ⟨D, hD, h1, h2, hs⟩ := h
  obtain ⟨w', hrun, hD', ht'⟩ := hD.drop intKeyed ht (keyI hm) ty
  refine ⟨w', hrun, ⟨_, ownsMap_norm hD', fun x => ?_, fun x u z hu => ?_, fun x hx => ?_⟩, ht'⟩
  · by_cases hx : x = m
    · subst hx; rw [Maps.has_del_same]; simp [delAt]
    · rw [Maps.has_del_other (by intro e; injection e with _ e; exact hx e), h1]; simp [delAt, hx]
  · by_cases hx : x = m
    · subst hx; simp [delAt] at hu
    · simp [delAt, hx] at hu
      rw [Maps.atKey_del_other (by intro e; injection e with _ e; exact hx e)]
      exact h2 x u z hu
  · by_cases hxm : x = m
    · subst hxm; simp [delAt] at hx
    · simp [delAt, hxm] at hx
      exact hs x (by simpa using hx)

theorem MapOf.made (w : World) (N : Nat) : MapOf (w.alloc (.map #[] 0)) w.heap.size N (fun _ => none) :=
  ⟨.map [], World.ownsMap_made w _ _ _, fun m => by simp [Maps.has], fun m v z h => (by cases h), fun m h => (by cases h)⟩

end

section
variable {w : World} {ops : Array Oper} {rest : List Oper} {o : Oper} {a : Act} {Q : Exit → Act → World → Prop}

/-- 'v, ok := m[k]'. -/
theorem wpList_lookOk (hg : o.guard = none) (m x : Operand) (t : TypeId) (hop : o.op = Op.lookup t m x true) (e : TypeId) (ht : Tryz.prog.underlying t = some (.map 3 e)) (z : Value) (hz : (zeroValue e).run Tryz.prog w = .ok z w)
    (b N : Nat) (f : Int → Option Value) (hm : a.eval m = .map (some b)) (h : MapOf w b N f) (k : Int) (hx : a.eval x = .int .i64 k) (hk : -9223372036854775808 ≤ k ∧ k ≤ 9223372036854775807) (r : Value) (ok : Bool) (hr : (f k).getD z = r) (hok : (f k).isSome = ok)
    (hK : wpList Tryz.prog ops Q rest (a.put o.dst (.tuple #[r, .bool ok])) w) : wpList Tryz.prog ops Q (o :: rest) a w := by
  refine wpList_plain hg fun K' hK' => ?_
  have hrun := h.look_ok ht hz hk
  rw [hr, hok] at hrun
  unfold Oper.wp
  simp [execOp, hop, hm, hx, hrun, Result.andThen]
  exact hK' _ _ hK

/-- 'm[k]'. -/
theorem wpList_look (hg : o.guard = none) (m x : Operand) (t : TypeId) (hop : o.op = Op.lookup t m x false) (e : TypeId) (ht : Tryz.prog.underlying t = some (.map 3 e)) (z : Value) (hz : (zeroValue e).run Tryz.prog w = .ok z w)
    (b N : Nat) (f : Int → Option Value) (hm : a.eval m = .map (some b)) (h : MapOf w b N f) (k : Int) (hx : a.eval x = .int .i64 k) (hk : -9223372036854775808 ≤ k ∧ k ≤ 9223372036854775807) (r : Value) (hr : (f k).getD z = r)
    (hK : wpList Tryz.prog ops Q rest (a.put o.dst r) w) : wpList Tryz.prog ops Q (o :: rest) a w := by
  refine wpList_plain hg fun K' hK' => ?_
  have hrun := h.look ht hz hk
  rw [hr] at hrun
  unfold Oper.wp
  simp [execOp, hop, hm, hx, hrun, Result.andThen]
  exact hK' _ _ hK

/-- 'len(m)'. -/
theorem wpList_lenMap (hg : o.guard = none) (m : Operand) (t : TypeId) (hop : o.op = Op.call { callee := Callee.builtin Builtin.len, args := #[m], argTypes := #[t] }) (e : TypeId) (ht : Tryz.prog.underlying t = some (.map 3 e))
    (b N : Nat) (f : Int → Option Value) (hm : a.eval m = .map (some b)) (h : MapOf w b N f) (n : Nat) (hn : (keysOf N f).length = n)
    (hK : wpList Tryz.prog ops Q rest (a.put o.dst (.int .i64 n)) w) : wpList Tryz.prog ops Q (o :: rest) a w := by
  refine wpList_plain hg fun K' hK' => ?_
  subst hn
  unfold Oper.wp
  simp [execOp, hop, resolve, invoke, builtin, hm, h.len ht o.type, Result.andThen]
  exact hK' _ _ hK

/-- 'm[k] = v'. -/
theorem wpList_putMap (hg : o.guard = none) (m x v : Operand) (t : TypeId) (hop : o.op = Op.mapUpdate t m x v) (e : TypeId) (ht : Tryz.prog.underlying t = some (.map 3 e))
    (b N : Nat) (f : Int → Option Value) (hm : a.eval m = .map (some b)) (h : MapOf w b N f) (hN : N ≤ 1000000) (k : Int) (hx : a.eval x = .int .i64 k) (hk : 1 ≤ k ∧ k ≤ (N : Int)) (u : Value) (hv : a.eval v = u)
    (hK : ∀ w', MapOf w' b N (putAt f k u) → w.mapTurned w' b → wpList Tryz.prog ops Q rest (a.put o.dst undef) w') : wpList Tryz.prog ops Q (o :: rest) a w := by
  refine wpList_plain hg fun K' hK' => ?_
  obtain ⟨w', hrun, r1, r2⟩ := h.store ht hN hk u
  unfold Oper.wp
  simp [execOp, hop, hm, hx, hv, hrun, Result.andThen]
  exact hK' _ _ (hK w' r1 r2)

/-- 'delete(m, k)'. -/
theorem wpList_delMap (hg : o.guard = none) (m x : Operand) (t : TypeId) (hop : o.op = Op.call { callee := Callee.builtin Builtin.delete, args := #[m, x], argTypes := #[t, 3] }) (e : TypeId) (ht : Tryz.prog.underlying t = some (.map 3 e))
    (b N : Nat) (f : Int → Option Value) (hm : a.eval m = .map (some b)) (h : MapOf w b N f) (k : Int) (hx : a.eval x = .int .i64 k) (hk : -9223372036854775808 ≤ k ∧ k ≤ 9223372036854775807)
    (hK : ∀ w', MapOf w' b N (delAt f k) → w.mapTurned w' b → wpList Tryz.prog ops Q rest (a.put o.dst (.tuple #[])) w') : wpList Tryz.prog ops Q (o :: rest) a w := by
  refine wpList_plain hg fun K' hK' => ?_
  obtain ⟨w', hrun, r1, r2⟩ := h.drop ht hk o.type
  unfold Oper.wp
  simp [execOp, hop, resolve, invoke, builtin, hm, hx, hrun, Result.andThen]
  exact hK' _ _ (hK w' r1 r2)
end
end Go.Proofs.YtlgahdabhnhjgaaGreatDoor
