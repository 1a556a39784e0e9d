/- Maps keyed by any numbers, in memory: the keys as a list. -/
import Derived.Test.YtlgahdabhnhjgaaGreatDoorZqMaps
import Derived.Test.YtlgahdabhnhjgaaGreatDoorZqNums
namespace Go.Proofs.YtlgahdabhnhjgaaGreatDoor
open Go.RowKit Go.Maps

/-- Block b is a map that has just the keys ks, each once, and at each what f says. -/
def MapG (w : World) (b : Nat) (ks : List Int) (f : Int → Option Value) : Prop :=
  ∃ D : DataW Value, w.ownsMap Tryz.prog 3 anyElem b (Maps.size D) D ∧ (∀ m : Int, Maps.has D (.int .i64 m) = (f m).isSome) ∧ (∀ (m : Int) (v : Value) (z : DataW Value), f m = some v → D.atKey (.int .i64 m) z = .held v) ∧ (∀ m, (f m).isSome = true ↔ m ∈ ks) ∧ ks.Nodup

section
variable {w : World} {b : Nat} {ks : List Int} {f : Int → Option Value}

theorem MapG.lt (h : MapG w b ks f) : b < w.heap.size := by
  obtain ⟨D, hD, _⟩ := h
  exact hD.lt
theorem MapG.ismap (h : MapG w b ks f) : ∃ es c, w.heap[b]? = some (.map es c) := by
  obtain ⟨D, ⟨es, c, hb, _⟩, _⟩ := h
  exact ⟨es, c, hb⟩
theorem MapG.keep {w' : World} (h : MapG w b ks f) (hk : w'.heap[b]? = w.heap[b]?) : MapG w' b ks f := by
  obtain ⟨D, ⟨es, c, hb, r⟩, q⟩ := h
  exact ⟨D, ⟨es, c, hk.trans hb, r⟩, q⟩
theorem MapG.below {w' : World} (h : MapG w b ks f) (hb : Below w.heap.size w w') : MapG w' b ks f := h.keep (hb.block b h.lt)
theorem MapG.turn {w' : World} {bs : List Nat} (h : MapG w b ks f) (ht : Turn bs w w') (hb : b ∉ bs) : MapG w' b ks f := h.keep (ht.block b h.lt hb)
theorem MapG.perm {ks' : List Int} (h : MapG w b ks f) (hp : ks.Perm ks') : MapG w b ks' f := by
  obtain ⟨D, hD, h1, h2, h3, h4⟩ := h
  exact ⟨D, hD, h1, h2, fun m => (h3 m).trans hp.mem_iff, hp.nodup_iff.1 h4⟩
/-- A map within bounds. -/
theorem MapG.mapOf {N : Nat} (h : MapG w b ks f) (hs : ∀ m, (f m).isSome = true → 1 ≤ m ∧ m ≤ (N : Int)) : MapOf w b N f := by
  obtain ⟨D, hD, h1, h2, _⟩ := h
  exact ⟨D, hD, h1, h2, hs⟩
theorem MapOf.mapG {N : Nat} (h : MapOf w b N f) : MapG w b (keysOf N f) f := by
  obtain ⟨D, hD, h1, h2, hs⟩ := h
  refine ⟨D, hD, h1, h2, fun m => ?_, ?_⟩
  · rw [keysOf, List.mem_filter, List.mem_map]
    constructor
    · intro hm
      have := hs m hm
      exact ⟨⟨(m - 1).toNat, List.mem_range.2 (by omega), by omega⟩, hm⟩
    · exact fun hm => hm.2
  · exact List.Pairwise.filter _ (List.pairwise_map.2 (List.nodup_range.imp fun {a b} hab e => hab (by omega)))

theorem MapG.size_eq {D : DataW Value} {n : Nat} (hD : w.ownsMap Tryz.prog 3 anyElem b n D) (h1 : ∀ m : Int, Maps.has D (.int .i64 m) = (f m).isSome) (h3 : ∀ m, (f m).isSome = true ↔ m ∈ ks) (h4 : ks.Nodup) : Maps.size D = ks.length := by
  obtain ⟨es, rfl, hp, hi⟩ := entriesI hD
  have : (es.map fun p => litInt p.1).Perm ks := by
    refine (List.perm_ext_iff_of_nodup ?_ h4).2 fun x => ?_
    · refine List.pairwise_map.2 (hp.imp_of_mem fun {p q} hp' hq' hne e => hne ?_)
      obtain ⟨a, ha⟩ := hi p hp'
      obtain ⟨c, hc⟩ := hi q hq'
      rw [ha, hc] at e ⊢
      exact congrArg _ e
    · rw [← h3 x, ← h1 x, Maps.has_eq, List.any_eq_true, List.mem_map]
      constructor
      · rintro ⟨p, hp', rfl⟩
        obtain ⟨a, ha⟩ := hi p hp'
        exact ⟨p, hp', by rw [ha]; simp [litInt, sameKey_int]⟩
      · rintro ⟨p, hp', hk⟩
        obtain ⟨a, ha⟩ := hi p hp'
        rw [ha, sameKey_int] at hk
        exact ⟨p, hp', by rw [ha]; simpa [litInt] using hk⟩
  have := this.length_eq
  simpa [Maps.size] using this

theorem MapG.look_ok (h : MapG w b ks f) {t e : TypeId} (ht : Tryz.prog.underlying t = some (.map 3 e)) {z : Value} (hz : (zeroValue e).run Tryz.prog w = .ok z w) {m : Int} (hm : -9223372036854775808 ≤ m ∧ m ≤ 9223372036854775807) :
    (Instr.lookup t (.map (some b)) (.int .i64 m) true).run Tryz.prog w = .ok (.tuple #[(f m).getD z, .bool (f m).isSome]) w := by
  obtain ⟨D, hD, h1, h2, _⟩ := h
  obtain ⟨v, ps, hrun, hv⟩ := hD.look_ok intKeyed ht hz (zd := .held z) (zp := []) rfl (keyI hm)
  rw [hrun, h1]
  have : v = (f m).getD z := by
    simp only [anyElem, Option.some.injEq, Prod.mk.injEq] at hv
    cases hf : f m with
    | none =>
      have hn := h1 m
      rw [hf] at hn
      rw [Maps.atKey_of_not_has hn] at hv
      injection hv.1
    | some u =>
      rw [h2 m u _ hf] at hv
      injection hv.1
  rw [this]

theorem MapG.look (h : MapG w b ks f) {t e : TypeId} (ht : Tryz.prog.underlying t = some (.map 3 e)) {z : Value} (hz : (zeroValue e).run Tryz.prog w = .ok z w) {m : Int} (hm : -9223372036854775808 ≤ m ∧ m ≤ 9223372036854775807) :
    (Instr.lookup t (.map (some b)) (.int .i64 m) false).run Tryz.prog w = .ok ((f m).getD z) w := by
  obtain ⟨D, hD, h1, h2, _⟩ := h
  obtain ⟨v, ps, hrun, hv⟩ := hD.lookup intKeyed ht hz (zd := .held z) (zp := []) rfl (keyI hm)
  rw [hrun]
  have : v = (f m).getD z := by
    simp only [anyElem, Option.some.injEq, Prod.mk.injEq] at hv
    cases hf : f m with
    | none =>
      have hn := h1 m
      rw [hf] at hn
      rw [Maps.atKey_of_not_has hn] at hv
      injection hv.1
    | some u =>
      rw [h2 m u _ hf] at hv
      injection hv.1
  rw [this]

theorem MapG.len (h : MapG w b ks f) {t e : TypeId} (ht : Tryz.prog.underlying t = some (.map 3 e)) (ty : TypeId) : (Builtin.len_ #[t] ty #[.map (some b)]).run Tryz.prog w = .ok (.int .i64 ks.length) w := by
  obtain ⟨D, hD, h1, _, h3, h4⟩ := h
  rw [hD.len ht ty, MapG.size_eq hD h1 h3 h4]

/-- The keys behind a store. -/
def putKey (ks : List Int) (m : Int) : List Int := if m ∈ ks then ks else ks ++ [m]
theorem putKey_len (ks : List Int) (m : Int) : (putKey ks m).length ≤ ks.length + 1 := by unfold putKey; split <;> simp
theorem mem_putKey (ks : List Int) (m x : Int) : x ∈ putKey ks m ↔ x = m ∨ x ∈ ks := by
  unfold putKey
  split
  · rename_i h
    constructor
    · exact .inr
    · rintro (rfl | h')
      · exact h
      · exact h'
  · simp [or_comm]
theorem putKey_nodup {ks : List Int} (h : ks.Nodup) (m : Int) : (putKey ks m).Nodup := by
  unfold putKey
  split
  · exact h
  · rename_i hm
    rw [List.nodup_append]
    refine ⟨h, by simp, fun a ha c hc e => ?_⟩
    simp at hc
    subst hc e
    exact hm ha

theorem MapG.store (h : MapG w b ks f) {t e : TypeId} (ht : Tryz.prog.underlying t = some (.map 3 e)) (hN : ks.length ≤ 1000000) {m : Int} (hm : -9223372036854775808 ≤ m ∧ m ≤ 9223372036854775807) (v : Value) :
    ∃ w', (Instr.mapUpdate t (.map (some b)) (.int .i64 m) v).run Tryz.prog w = .ok () w' ∧ MapG w' b (putKey ks m) (putAt f m v) ∧ w.mapTurned w' b := by
  obtain ⟨D, hD, h1, h2, h3, h4⟩ := h
  have hsz := MapG.size_eq hD h1 h3 h4
  obtain ⟨w', hrun, hD', ht'⟩ := hD.store intKeyed ht (by rw [hsz]; unfold maxLen; omega) (d := .held v) (ps := []) (keyI hm) rfl
  refine ⟨w', hrun, ⟨_, ownsMap_norm hD', fun x => ?_, fun x u z hu => ?_, fun x => ?_, putKey_nodup h4 m⟩, ht'⟩
  · by_cases hx : x = m
    · subst hx; rw [Maps.has_put_same hD.isMap (isKeyI x)]; simp [putAt]
    · rw [Maps.has_put_other (by intro e; injection e with _ e; exact hx e), h1]; simp [putAt, hx]
  · by_cases hx : x = m
    · subst hx
      simp [putAt] at hu
      subst hu
      exact Maps.atKey_put_same hD.isMap (isKeyI x) _ _
    · simp [putAt, hx] at hu
      rw [Maps.atKey_put_other (by intro e; injection e with _ e; exact hx e)]
      exact h2 x u z hu
  · rw [mem_putKey, ← h3 x]
    by_cases hx : x = m
    · simp [putAt, hx]
    · simp [putAt, hx]

theorem MapG.made (w : World) : MapG (w.alloc (.map #[] 0)) w.heap.size [] (fun _ => none) :=
  ⟨.map [], World.ownsMap_made w _ _ _, fun m => by simp [Maps.has], fun m v z h => (by cases h), fun m => by simp, List.nodup_nil⟩

end

section
variable {w : World} {ops : Array Oper} {rest : List Oper} {o : Oper} {a : Act} {Q : Exit → Act → World → Prop}

/-- 'v, ok := m[k]'. -/
theorem wpList_lookOkG (hg : o.guard = none) (m x : Operand) (t : TypeId) (hop : o.op = Op.lookup t m x true) (e : TypeId) (ht : Tryz.prog.underlying t = some (.map 3 e)) (z : Value) (hz : (zeroValue e).run Tryz.prog w = .ok z w)
    (b : Nat) (ks : List Int) (f : Int → Option Value) (hm : a.eval m = .map (some b)) (h : MapG w b ks f) (k : Int) (hx : a.eval x = .int .i64 k) (hk : -9223372036854775808 ≤ k ∧ k ≤ 9223372036854775807) (r : Value) (ok : Bool) (hr : (f k).getD z = r) (hok : (f k).isSome = ok)
    (hK : wpList Tryz.prog ops Q rest (a.put o.dst (.tuple #[r, .bool ok])) w) : wpList Tryz.prog ops Q (o :: rest) a w := by
  refine wpList_plain hg fun K' hK' => ?_
  have hrun := h.look_ok ht hz hk
  rw [hr, hok] at hrun
  unfold Oper.wp
  simp [execOp, hop, hm, hx, hrun, Result.andThen]
  exact hK' _ _ hK

/-- 'm[k]'. -/
theorem wpList_lookG (hg : o.guard = none) (m x : Operand) (t : TypeId) (hop : o.op = Op.lookup t m x false) (e : TypeId) (ht : Tryz.prog.underlying t = some (.map 3 e)) (z : Value) (hz : (zeroValue e).run Tryz.prog w = .ok z w)
    (b : Nat) (ks : List Int) (f : Int → Option Value) (hm : a.eval m = .map (some b)) (h : MapG w b ks f) (k : Int) (hx : a.eval x = .int .i64 k) (hk : -9223372036854775808 ≤ k ∧ k ≤ 9223372036854775807) (r : Value) (hr : (f k).getD z = r)
    (hK : wpList Tryz.prog ops Q rest (a.put o.dst r) w) : wpList Tryz.prog ops Q (o :: rest) a w := by
  refine wpList_plain hg fun K' hK' => ?_
  have hrun := h.look ht hz hk
  rw [hr] at hrun
  unfold Oper.wp
  simp [execOp, hop, hm, hx, hrun, Result.andThen]
  exact hK' _ _ hK

/-- 'len(m)'. -/
theorem wpList_lenMapG (hg : o.guard = none) (m : Operand) (t : TypeId) (hop : o.op = Op.call { callee := Callee.builtin Builtin.len, args := #[m], argTypes := #[t] }) (e : TypeId) (ht : Tryz.prog.underlying t = some (.map 3 e))
    (b : Nat) (ks : List Int) (f : Int → Option Value) (hm : a.eval m = .map (some b)) (h : MapG w b ks f) (n : Nat) (hn : ks.length = n)
    (hK : wpList Tryz.prog ops Q rest (a.put o.dst (.int .i64 n)) w) : wpList Tryz.prog ops Q (o :: rest) a w := by
  refine wpList_plain hg fun K' hK' => ?_
  subst hn
  unfold Oper.wp
  simp [execOp, hop, resolve, invoke, builtin, hm, h.len ht o.type, Result.andThen]
  exact hK' _ _ hK

/-- 'm[k] = v'. -/
theorem wpList_putMapG (hg : o.guard = none) (m x v : Operand) (t : TypeId) (hop : o.op = Op.mapUpdate t m x v) (e : TypeId) (ht : Tryz.prog.underlying t = some (.map 3 e))
    (b : Nat) (ks : List Int) (f : Int → Option Value) (hm : a.eval m = .map (some b)) (h : MapG w b ks f) (hN : ks.length ≤ 1000000) (k : Int) (hx : a.eval x = .int .i64 k) (hk : -9223372036854775808 ≤ k ∧ k ≤ 9223372036854775807) (u : Value) (hv : a.eval v = u)
    (hK : ∀ w', MapG w' b (putKey ks k) (putAt f k u) → w.mapTurned w' b → wpList Tryz.prog ops Q rest (a.put o.dst undef) w') : wpList Tryz.prog ops Q (o :: rest) a w := by
  refine wpList_plain hg fun K' hK' => ?_
  obtain ⟨w', hrun, r1, r2⟩ := h.store ht hN hk u
  unfold Oper.wp
  simp [execOp, hop, hm, hx, hv, hrun, Result.andThen]
  exact hK' _ _ (hK w' r1 r2)
end
end Go.Proofs.YtlgahdabhnhjgaaGreatDoor
