/- Numbers of maps with any keys. -/
import Derived.Test.YtlgahdabhnhjgaaGreatDoorZqNums
/- Maps keyed by any numbers, in memory: the keys as a list. -/
namespace Go.Proofs.YtlgahdabhnhjgaaGreatDoor
open Go.RowKit Go.Maps

/-- Block b is a map that has just the keys ks, each once, and at each what f says. -/
def MapG (w : World) (b : Nat) (ks : List Int) (f : Int → Option Value) : Prop :=
  ∃ D : DataW Value, w.ownsMap Tryz.prog 3 anyElem b (Maps.size D) D ∧ (∀ m : Int, Maps.has D (.int .i64 m) = (f m).isSome) ∧ (∀ (m : Int) (v : Value) (z : DataW Value), f m = some v → D.atKey (.int .i64 m) z = .held v) ∧ (∀ m, (f m).isSome = true ↔ m ∈ ks) ∧ ks.Nodup

section
variable {w : World} {b : Nat} {ks : List Int} {f : Int → Option Value}

theorem MapG.lt (h : MapG w b ks f) : b < w.heap.size := by
  obtain ⟨D, hD, _⟩ := h
  exact hD.lt
theorem MapG.ismap (h : MapG w b ks f) : ∃ es c, w.heap[b]? = some (.map es c) := by
  obtain ⟨D, ⟨es, c, hb, _⟩, _⟩ := h
  exact ⟨es, c, hb⟩
theorem MapG.keep {w' : World} (h : MapG w b ks f) (hk : w'.heap[b]? = w.heap[b]?) : MapG w' b ks f := by
  obtain ⟨D, ⟨es, c, hb, r⟩, q⟩ := h
  exact ⟨D, ⟨es, c, hk.trans hb, r⟩, q⟩
theorem MapG.below {w' : World} (h : MapG w b ks f) (hb : Below w.heap.size w w') : MapG w' b ks f := h.keep (hb.block b h.lt)
theorem MapG.turn {w' : World} {bs : List Nat} (h : MapG w b ks f) (ht : Turn bs w w') (hb : b ∉ bs) : MapG w' b ks f := h.keep (ht.block b h.lt hb)
theorem MapG.perm {ks' : List Int} (h : MapG w b ks f) (hp : ks.Perm ks') : MapG w b ks' f := by
  obtain ⟨D, hD, h1, h2, h3, h4⟩ := h
  exact ⟨D, hD, h1, h2, fun m => (h3 m).trans hp.mem_iff, hp.nodup_iff.1 h4⟩
/-- A map within bounds. -/
theorem MapG.mapOf {N : Nat} (h : MapG w b ks f) (hs : ∀ m, (f m).isSome = true → 1 ≤ m ∧ m ≤ (N : Int)) : MapOf w b N f := by
  obtain ⟨D, hD, h1, h2, _⟩ := h
  exact ⟨D, hD, h1, h2, hs⟩
theorem MapOf.mapG {N : Nat} (h : MapOf w b N f) : MapG w b (keysOf N f) f := by
  obtain ⟨D, hD, h1, h2, hs⟩ := h
  refine ⟨D, hD, h1, h2, fun m => ?_, ?_⟩
  · rw [keysOf, List.mem_filter, List.mem_map]
    constructor
    · intro hm
      have := hs m hm
      exact ⟨⟨(m - 1).toNat, List.mem_range.2 (by omega), by omega⟩, hm⟩
    · exact fun hm => hm.2
  · exact List.Pairwise.filter _ (List.pairwise_map.2 (List.nodup_range.imp fun {a b} hab e => hab (by omega)))

theorem MapG.size_eq {D : DataW Value} {n : Nat} (hD : w.ownsMap Tryz.prog 3 anyElem b n D) (h1 : ∀ m : Int, Maps.has D (.int .i64 m) = (f m).isSome) (h3 : ∀ m, (f m).isSome = true ↔ m ∈ ks) (h4 : ks.Nodup) : Maps.size D = ks.length := by
  obtain ⟨es, rfl, hp, hi⟩ := entriesI hD
  have : (es.map fun p => litInt p.1).Perm ks := by
    refine (List.perm_ext_iff_of_nodup ?_ h4).2 fun x => ?_
    · refine List.pairwise_map.2 (hp.imp_of_mem fun {p q} hp' hq' hne e => hne ?_)
      obtain ⟨a, ha⟩ := hi p hp'
      obtain ⟨c, hc⟩ := hi q hq'
      rw [ha, hc] at e ⊢
      exact congrArg _ e
    · rw [← h3 x, ← h1 x, Maps.has_eq, List.any_eq_true, List.mem_map]
      constructor
      · rintro ⟨p, hp', rfl⟩
        obtain ⟨a, ha⟩ := hi p hp'
        exact ⟨p, hp', by rw [ha]; simp [litInt, sameKey_int]⟩
      · rintro ⟨p, hp', hk⟩
        obtain ⟨a, ha⟩ := hi p hp'
        rw [ha, sameKey_int] at hk
        exact ⟨p, hp', by rw [ha]; simpa [litInt] using hk⟩
  have := this.length_eq
  simpa [Maps.size] using this

theorem MapG.look_ok (h : MapG w b ks f) {t e : TypeId} (ht : Tryz.prog.underlying t = some (.map 3 e)) {z : Value} (hz : (zeroValue e).run Tryz.prog w = .ok z w) {m : Int} (hm : -9223372036854775808 ≤ m ∧ m ≤ 9223372036854775807) :
    (Instr.lookup t (.map (some b)) (.int .i64 m) true).run Tryz.prog w = .ok (.tuple #[(f m).getD z, .bool (f m).isSome]) w := by
  obtain ⟨D, hD, h1, h2, _⟩ := h
  obtain ⟨v, ps, hrun, hv⟩ := hD.look_ok intKeyed ht hz (zd := .held z) (zp := []) rfl (keyI hm)
  rw [hrun, h1]
  have : v = (f m).getD z := by
    simp only [anyElem, Option.some.injEq, Prod.mk.injEq] at hv
    cases hf : f m with
    | none =>
      have hn := h1 m
      rw [hf] at hn
      rw [Maps.atKey_of_not_has hn] at hv
      injection hv.1
    | some u =>
      rw [h2 m u _ hf] at hv
      injection hv.1
  rw [this]

theorem MapG.look (h : MapG w b ks f) {t e : TypeId} (ht : Tryz.prog.underlying t = some (.map 3 e)) {z : Value} (hz : (zeroValue e).run Tryz.prog w = .ok z w) {m : Int} (hm : -9223372036854775808 ≤ m ∧ m ≤ 9223372036854775807) :
    (Instr.lookup t (.map (some b)) (.int .i64 m) false).run Tryz.prog w = .ok ((f m).getD z) w := by
  obtain ⟨D, hD, h1, h2, _⟩ := h
  obtain ⟨v, ps, hrun, hv⟩ := hD.lookup intKeyed ht hz (zd := .held z) (zp := []) rfl (keyI hm)
  rw [hrun]
  have : v = (f m).getD z := by
    simp only [anyElem, Option.some.injEq, Prod.mk.injEq] at hv
    cases hf : f m with
    | none =>
      have hn := h1 m
      rw [hf] at hn
      rw [Maps.atKey_of_not_has hn] at hv
      injection hv.1
    | some u =>
      rw [h2 m u _ hf] at hv
      injection hv.1
  rw [this]

theorem MapG.len (h : MapG w b ks f) {t e : TypeId} (ht : Tryz.prog.underlying t = some (.map 3 e)) (ty : TypeId) : (Builtin.len_ #[t] ty #[.map (some b)]).run Tryz.prog w = .ok (.int .i64 ks.length) w := by
  obtain ⟨D, hD, h1, _, h3, h4⟩ := h
  rw [hD.len ht ty, MapG.size_eq hD h1 h3 h4]

/-- The keys behind a store. -/
def putKey (ks : List Int) (m : Int) : List Int := if m ∈ ks then ks else ks ++ [m]
theorem putKey_len (ks : List Int) (m : Int) : (putKey ks m).length ≤ ks.length + 1 := by unfold putKey; split <;> simp
theorem mem_putKey (ks : List Int) (m x : Int) : x ∈ putKey ks m ↔ x = m ∨ x ∈ ks := by
  unfold putKey
  split
  · rename_i h
    constructor
    · exact .inr
    · rintro (rfl | h')
      · exact h
      · exact h'
  · simp [or_comm]
theorem putKey_nodup {ks : List Int} (h : ks.Nodup) (m : Int) : (putKey ks m).Nodup := by
  unfold putKey
  split
  · exact h
  · rename_i hm
    rw [List.nodup_append]
    refine ⟨h, by simp, fun a ha c hc e => ?_⟩
    simp at hc
    subst hc e
    exact hm ha

theorem MapG.store (h : MapG w b ks f) {t e : TypeId} (ht : Tryz.prog.underlying t = some (.map 3 e)) (hN : ks.length ≤ 1000000) {m : Int} (hm : -9223372036854775808 ≤ m ∧ m ≤ 9223372036854775807) (v : Value) :
    ∃ w', (Instr.mapUpdate t (.map (some b)) (.int .i64 m) v).run Tryz.prog w = .ok () w' ∧ MapG w' b (putKey ks m) (putAt f m v) ∧ w.mapTurned w' b := by
  obtain ⟨D, hD, h1, h2, h3, h4⟩ := h
  have hsz := MapG.size_eq hD h1 h3 h4
  obtain ⟨w', hrun, hD', ht'⟩ := hD.store intKeyed ht (by rw [hsz]; unfold maxLen; omega) (d := .held v) (ps := []) (keyI hm) rfl
  refine ⟨w', hrun, ⟨_, ownsMap_norm hD', fun x => ?_, fun x u z hu => ?_, fun x => ?_, putKey_nodup h4 m⟩, ht'⟩
  · by_cases hx : x = m
    · subst hx; rw [Maps.has_put_same hD.isMap (isKeyI x)]; simp [putAt]
    · rw [Maps.has_put_other (by intro e; injection e with _ e; exact hx e), h1]; simp [putAt, hx]
  · by_cases hx : x = m
    · subst hx
      simp [putAt] at hu
      subst hu
      exact Maps.atKey_put_same hD.isMap (isKeyI x) _ _
    · simp [putAt, hx] at hu
      rw [Maps.atKey_put_other (by intro e; injection e with _ e; exact hx e)]
      exact h2 x u z hu
  · rw [mem_putKey, ← h3 x]
    by_cases hx : x = m
    · simp [putAt, hx]
    · simp [putAt, hx]

theorem MapG.made (w : World) : MapG (w.alloc (.map #[] 0)) w.heap.size [] (fun _ => none) :=
  ⟨.map [], World.ownsMap_made w _ _ _, fun m => by simp [Maps.has], fun m v z h => (by cases h), fun m => by simp, List.nodup_nil⟩

end

section
variable {w : World} {ops : Array Oper} {rest : List Oper} {o : Oper} {a : Act} {Q : Exit → Act → World → Prop}

/-- 'v, ok := m[k]'. -/
theorem wpList_lookOkG (hg : o.guard = none) (m x : Operand) (t : TypeId) (hop : o.op = Op.lookup t m x true) (e : TypeId) (ht : Tryz.prog.underlying t = some (.map 3 e)) (z : Value) (hz : (zeroValue e).run Tryz.prog w = .ok z w)
    (b : Nat) (ks : List Int) (f : Int → Option Value) (hm : a.eval m = .map (some b)) (h : MapG w b ks f) (k : Int) (hx : a.eval x = .int .i64 k) (hk : -9223372036854775808 ≤ k ∧ k ≤ 9223372036854775807) (r : Value) (ok : Bool) (hr : (f k).getD z = r) (hok : (f k).isSome = ok)
    (hK : wpList Tryz.prog ops Q rest (a.put o.dst (.tuple #[r, .bool ok])) w) : wpList Tryz.prog ops Q (o :: rest) a w := by
  refine wpList_plain hg fun K' hK' => ?_
  have hrun := h.look_ok ht hz hk
  rw [hr, hok] at hrun
  unfold Oper.wp
  simp [execOp, hop, hm, hx, hrun, Result.andThen]
  exact hK' _ _ hK

/-- 'm[k]'. -/
theorem wpList_lookG (hg : o.guard = none) (m x : Operand) (t : TypeId) (hop : o.op = Op.lookup t m x false) (e : TypeId) (ht : Tryz.prog.underlying t = some (.map 3 e)) (z : Value) (hz : (zeroValue e).run Tryz.prog w = .ok z w)
    (b : Nat) (ks : List Int) (f : Int → Option Value) (hm : a.eval m = .map (some b)) (h : MapG w b ks f) (k : Int) (hx : a.eval x = .int .i64 k) (hk : -9223372036854775808 ≤ k ∧ k ≤ 9223372036854775807) (r : Value) (hr : (f k).getD z = r)
    (hK : wpList Tryz.prog ops Q rest (a.put o.dst r) w) : wpList Tryz.prog ops Q (o :: rest) a w := by
  refine wpList_plain hg fun K' hK' => ?_
  have hrun := h.look ht hz hk
  rw [hr] at hrun
  unfold Oper.wp
  simp [execOp, hop, hm, hx, hrun, Result.andThen]
  exact hK' _ _ hK

/-- 'len(m)'. -/
theorem wpList_lenMapG (hg : o.guard = none) (m : Operand) (t : TypeId) (hop : o.op = Op.call { callee := Callee.builtin Builtin.len, args := #[m], argTypes := #[t] }) (e : TypeId) (ht : Tryz.prog.underlying t = some (.map 3 e))
    (b : Nat) (ks : List Int) (f : Int → Option Value) (hm : a.eval m = .map (some b)) (h : MapG w b ks f) (n : Nat) (hn : ks.length = n)
    (hK : wpList Tryz.prog ops Q rest (a.put o.dst (.int .i64 n)) w) : wpList Tryz.prog ops Q (o :: rest) a w := by
  refine wpList_plain hg fun K' hK' => ?_
  subst hn
  unfold Oper.wp
  simp [execOp, hop, resolve, invoke, builtin, hm, h.len ht o.type, Result.andThen]
  exact hK' _ _ hK

/-- 'm[k] = v'. -/
theorem wpList_putMapG (hg : o.guard = none) (m x v : Operand) (t : TypeId) (hop : o.op = Op.mapUpdate t m x v) (e : TypeId) (ht : Tryz.prog.underlying t = some (.map 3 e))
    (b : Nat) (ks : List Int) (f : Int → Option Value) (hm : a.eval m = .map (some b)) (h : MapG w b ks f) (hN : ks.length ≤ 1000000) (k : Int) (hx : a.eval x = .int .i64 k) (hk : -9223372036854775808 ≤ k ∧ k ≤ 9223372036854775807) (u : Value) (hv : a.eval v = u)
    (hK : ∀ w', MapG w' b (putKey ks k) (putAt f k u) → w.mapTurned w' b → wpList Tryz.prog ops Q rest (a.put o.dst undef) w') : wpList Tryz.prog ops Q (o :: rest) a w := by
  refine wpList_plain hg fun K' hK' => ?_
  obtain ⟨w', hrun, r1, r2⟩ := h.store ht hN hk u
  unfold Oper.wp
  simp [execOp, hop, hm, hx, hv, hrun, Result.andThen]
  exact hK' _ _ (hK w' r1 r2)
end
end Go.Proofs.YtlgahdabhnhjgaaGreatDoor

/- numbered.Sorted, numbered.Lowest, of a map of nodes. -/
namespace Go.Proofs.YtlgahdabhnhjgaaGreatDoor
open Go.RowKit Go.Maps Go.Sort

theorem Tryz.zeroNode (w : World) : (zeroValue 81).run Tryz.prog w = .ok (.agg #[.int .i64 0, .int .i64 0, .int .i64 0, .int .i64 0, .int .i64 0]) w := by kernel_rfl

set_option maxHeartbeats 1000000 in
set_option maxRecDepth 100000 in
/-- Sorted, of a map of Nodes. -/
theorem sorted_Node (b N : Nat) (f : Int → Option Value) (w : World) (h : MapOf w b N f) (hN : N ≤ 1000) :
    Calls Tryz.prog 52 #[.map (some b)] w (RetInts w (keysOf N f)) := by
  obtain ⟨D, hD, h1, _, hs⟩ := h
  have hsize := MapOf.size hD h1 hs
  have hle := keysOf_le N f
  have hbl := hD.lt
  obtain ⟨i0, hi, hz0, hz1, hz2⟩ := info_parts Tryz.infoInt
  have HP := Lib.hid (show ∀ ss : List Int, ss.Nodup → (∀ x, x ∈ ss ↔ Maps.has D (.int .i64 x) = true) → ss.Perm (keysOf N f) from fun ss hn hm => perm_keys hs hn (fun x => by rw [hm x, h1 x]))
  have hn0 : Maps.size D ≤ 1000 := by omega
  clear h1 hs hsize
  go_enter Tryz.func52, Tryz.ntmps52
  go_wp2_with (first
    | (at_range; refine wpList_range_own _ rfl _ 64 rfl 3 81 intKeyed Tryz.underlying64 _ b (Maps.size D) _ rfl hD ?_; intro w0 hrg0 hg0 hs0)
    | go_in)
  go_frame
  go_loopw [3] (fun v wr => ∃ (left : Lit → Bool) (cnt : Nat) (ss : List Int), wr.ranges Tryz.prog 3 anyElem b w.heap.size (Maps.size D) D left cnt ∧ ss.length + cnt ≤ Maps.size D ∧ OwnInts wr w.heap.size v ss ∧ Met D left ss ∧ Below w.heap.size w wr)
    (fun _ wr => wr.rangeLeft b w.heap.size)
  case atStart =>
    exact ⟨_, _, [], hrg0, by simp, World.ownsRow_nil _ _ _ _, Met.start D, (Below.refl _ _).grown hg0 (Nat.le_refl _) (fun j hj => by cases hj)⟩
  case round =>
    obtain ⟨left, cnt, ss, hrg, hcs, hrow, hC, hnx⟩ := hrel
    go_wp2_with (first
      | (at_next; refine wpList_next_ranges _ rfl _ rfl 3 intKeyed anyElem (Value.int .i64) (fun u : Value => u) (fun key kl hk => by obtain ⟨x, hx, _⟩ := Maps.keyOf_int_inv Tryz.underlying3 hk; exact ⟨x, hx⟩) (fun v y _ => ⟨v, rfl⟩) b w.heap.size (Maps.size D) _ _ _ rfl hrg ?_ ?_)
      | go_in)
    · intro hc0 hl0
      have hsort := sort_own wr w.heap.size _ ss hrow (by omega) w.heap.size (Nat.le_refl _) hnx.size
      have HE := Lib.hid (sort_perm (HP.out ss hC.1 (fun x => by rw [hC.2 x, hl0]; simp)) (keysOf_sorted N f))
      clear hl0
      go_wp2_with fail
      ((with_reducible refine hsort.mono ?_); rintro e w' ⟨rfl, hO, hb⟩)
      go_wp2
      go_ret
      exact ⟨_, rfl, by rw [← HE.out]; exact hO, hnx.trans hb⟩
    · intro x c kl yd yp w2 cnt2 hkey hlk hv hat hrg2 hlt hg2 hs2 hen
      obtain ⟨x', ex, rfl, _⟩ := Maps.keyOf_int_inv Tryz.underlying3 hkey
      obtain rfl : x = x' := by injection ex
      have hrow2 : OwnInts w2 w.heap.size _ ss := World.ownsRow.kept hrow hg2 (Or.inr (row_ne_iter hrow hrg).symm)
      have hC2 := hC.step hlk hat
      clear hs2 hat hC
      go_wp2_with (first
        | (at_builtin; refine wpList_append_own _ rfl _ _ 61 rfl w.heap.size 3 i0 (.int .i64 0) 1 8 Tryz.underlying61 hi hz0 hz1 hz2 rfl (by decide) _ _ _ rfl (World.ownsRow.alloc hrow2 _) ⟨w2.heap.size, 0, none⟩ 1 1 [.int .i64 x] rfl rfl (cell_one_new _ _ _) (by simp [Value.oneCell']) (by unfold maxLen; omega) (by omega) (by have := hnx.size; have := hg2.size; simp; omega) ?_; intro v' w3 hown' hg3 hnil3; go_frame)
        | go_in)
      have hrg3 := (hrg2.alloc _).kept hg3 (row_ne_low hrow2 hbl) (row_ne_iter hrow2 hrg2)
      go_roundw
      case rel =>
        refine ⟨_, cnt2, ss ++ [x], hrg3, by simp; omega, ?_, hC2, ?_⟩
        · unfold OwnInts; simpa using hown'
        · exact ((hnx.grown hg2 hnx.size (fun j hj => by cases hj; exact Nat.le_refl _)).alloc (by have := hnx.size; have := hg2.size; omega) _).grown hg3 (by have := hnx.size; have := hg2.size; simp; omega) (fun j hj => (World.ownsRow.lt hrow2 j hj).1)
      case measure => rw [hrg3.left_eq, hrg.left_eq]; exact hlt

/-- Lowest, of a map of Nodes that has no element at a number n, but at all from 1 up to it. -/
theorem lowest_Node (b N : Nat) (f : Int → Option Value) (w : World) (h : MapOf w b N f) (hN : N ≤ 1000) (hf : ∀ m v, f m = some v → ∃ (k0 k1 k2 k3 r : Int), v = .agg #[.int .i64 k0, .int .i64 k1, .int .i64 k2, .int .i64 k3, .int .i64 r]) (n : Nat) (hn : 1 ≤ n) (h0 : f n = none) (h1 : ∀ m : Nat, 1 ≤ m → m < n → (f m).isSome = true) :
    Calls Tryz.prog 151 #[.map (some b)] w fun e w' => e = .returned (.int .i64 n) ∧ Below w.heap.size w w' := by
  have hnN : n ≤ N + 1 := by
    by_cases hc : n ≤ 1
    · omega
    · have h2 := h1 (n - 1) (by omega) (by omega)
      obtain ⟨_, _, _, _, hs⟩ := h
      have := hs _ h2
      omega
  have H1 := Lib.hid h1
  have HF := Lib.hid hf
  clear h1 hf
  go_enter Tryz.func151, Tryz.ntmps151
  go_wp2
  go_loopw [3] (fun i wr => ∃ k : Nat, 1 ≤ k ∧ k ≤ n ∧ i = .int .i64 k ∧ Below w.heap.size w wr) (fun i _ => n - (intOf i).toNat)
  case atStart => exact ⟨1, Nat.le_refl _, hn, rfl, Below.refl _ _⟩
  case round =>
    obtain ⟨k, hk1, hk, rfl, hb⟩ := hrel
    have hM := h.keep (hb.block b h.lt)
    have hsz := hb.size
    by_cases hlt : k < n
    · obtain ⟨u, hu⟩ := Option.isSome_iff_exists.1 (H1.out k hk1 hlt)
      obtain ⟨u0, u1, u2, u3, ur, rfl⟩ := HF.out _ _ hu
      have q1 : (f k).getD (.agg #[.int .i64 0, .int .i64 0, .int .i64 0, .int .i64 0, .int .i64 0]) = .agg #[.int .i64 u0, .int .i64 u1, .int .i64 u2, .int .i64 u3, .int .i64 ur] := by rw [hu]; rfl
      have q2 : (f k).isSome = true := by rw [hu]; rfl
      have Q1 := Lib.hid q1
      have Q2 := Lib.hid q2
      clear q1 q2 hu h0
      go_wp2_with (first
        | (at_lookup; refine wpList_lookOk rfl _ _ 64 rfl 81 Tryz.underlying64 _ (Tryz.zeroNode _) b N f rfl hM k rfl (by omega) _ true Q1.out Q2.out ?_)
        | go_in)
      go_roundw
      case rel => exact ⟨k + 1, by omega, hlt, by go_num, hb.alloc hsz _⟩
      case measure => simp [intOf]; omega
    · obtain rfl : k = n := by omega
      have q1 : (f k).getD (.agg #[.int .i64 0, .int .i64 0, .int .i64 0, .int .i64 0, .int .i64 0]) = (.agg #[.int .i64 0, .int .i64 0, .int .i64 0, .int .i64 0, .int .i64 0]) := by rw [h0]; rfl
      have q2 : (f k).isSome = false := by rw [h0]; rfl
      have Q1 := Lib.hid q1
      have Q2 := Lib.hid q2
      clear q1 q2 h0
      go_wp2_with (first
        | (at_lookup; refine wpList_lookOk rfl _ _ 64 rfl 81 Tryz.underlying64 _ (Tryz.zeroNode _) b N f rfl hM k rfl (by omega) _ false Q1.out Q2.out ?_)
        | go_in)
      go_ret
      exact ⟨rfl, hb.alloc hsz _⟩
end Go.Proofs.YtlgahdabhnhjgaaGreatDoor

/- Numbers of maps with any keys. -/
namespace Go.Proofs.YtlgahdabhnhjgaaGreatDoor
open Go.RowKit Go.Maps

def sortI (l : List Int) : List Int := l.mergeSort fun x y => decide (x ≤ y)
theorem sortI_perm (l : List Int) : (sortI l).Perm l := List.mergeSort_perm l _
theorem sortI_sorted (l : List Int) : (sortI l).Pairwise (fun a b => a ≤ b) := by
  have tr : ∀ a b c : Int, decide (a ≤ b) = true → decide (b ≤ c) = true → decide (a ≤ c) = true := fun a b c h1 h2 => by simp at *; omega
  have tot : ∀ a b : Int, (decide (a ≤ b) || decide (b ≤ a)) = true := fun a b => by simp; omega
  exact (List.pairwise_mergeSort tr tot l).imp (by simp)
theorem sort_permI {l l' : List Int} (h : l.Perm l') (hs : l'.Pairwise (fun a b => a ≤ b)) : sortI l = l' := sort_perm h hs
theorem mem_sortI (l : List Int) (x : Int) : x ∈ sortI l ↔ x ∈ l := (List.mergeSort_perm l _).mem_iff
theorem sortI_len (l : List Int) : (sortI l).length = l.length := List.length_mergeSort _

set_option maxHeartbeats 1000000 in
set_option maxRecDepth 100000 in
/-- Sorted, of a map of Blocks with any keys. -/
theorem sortedG_Block (b : Nat) (ks : List Int) (f : Int → Option Value) (w : World) (h : MapG w b ks f) (hN : ks.length ≤ 1000) :
    Calls Tryz.prog 53 #[.map (some b)] w (RetInts w (sortI ks)) := by
  obtain ⟨D, hD, h1, _, h3, h4⟩ := h
  have hsize := MapG.size_eq hD h1 h3 h4
  have hbl := hD.lt
  obtain ⟨i0, hi, hz0, hz1, hz2⟩ := info_parts Tryz.infoInt
  have HP := Lib.hid (show ∀ ss : List Int, ss.Nodup → (∀ x, x ∈ ss ↔ Maps.has D (.int .i64 x) = true) → ss.Perm ks from fun ss hn hm => (List.perm_ext_iff_of_nodup hn h4).2 fun x => by rw [hm x, h1 x, h3 x])
  have hn0 : Maps.size D ≤ 1000 := by omega
  clear h1 h3 h4 hsize
  go_enter Tryz.func53, Tryz.ntmps53
  go_wp2_with (first
    | (at_range; refine wpList_range_own _ rfl _ 95 rfl 3 77 intKeyed Tryz.underlying95 _ b (Maps.size D) _ rfl hD ?_; intro w0 hrg0 hg0 hs0)
    | go_in)
  go_frame
  go_loopw [3] (fun v wr => ∃ (left : Lit → Bool) (cnt : Nat) (ss : List Int), wr.ranges Tryz.prog 3 anyElem b w.heap.size (Maps.size D) D left cnt ∧ ss.length + cnt ≤ Maps.size D ∧ OwnInts wr w.heap.size v ss ∧ Met D left ss ∧ Below w.heap.size w wr)
    (fun _ wr => wr.rangeLeft b w.heap.size)
  case atStart =>
    exact ⟨_, _, [], hrg0, by simp, World.ownsRow_nil _ _ _ _, Met.start D, (Below.refl _ _).grown hg0 (Nat.le_refl _) (fun j hj => by cases hj)⟩
  case round =>
    obtain ⟨left, cnt, ss, hrg, hcs, hrow, hC, hnx⟩ := hrel
    go_wp2_with (first
      | (at_next; refine wpList_next_ranges _ rfl _ rfl 3 intKeyed anyElem (Value.int .i64) (fun u : Value => u) (fun key kl hk => by obtain ⟨x, hx, _⟩ := Maps.keyOf_int_inv Tryz.underlying3 hk; exact ⟨x, hx⟩) (fun v y _ => ⟨v, rfl⟩) b w.heap.size (Maps.size D) _ _ _ rfl hrg ?_ ?_)
      | go_in)
    · intro hc0 hl0
      have hsort := sort_own wr w.heap.size _ ss hrow (by omega) w.heap.size (Nat.le_refl _) hnx.size
      have HE := Lib.hid (sort_permI ((HP.out ss hC.1 (fun x => by rw [hC.2 x, hl0]; simp)).trans (sortI_perm ks).symm) (sortI_sorted ks))
      clear hl0
      go_wp2_with fail
      ((with_reducible refine hsort.mono ?_); rintro e w' ⟨rfl, hO, hb⟩)
      go_wp2
      go_ret
      exact ⟨_, rfl, HE.out ▸ hO, hnx.trans hb⟩
    · intro x c kl yd yp w2 cnt2 hkey hlk hv hat hrg2 hlt hg2 hs2 hen
      obtain ⟨x', ex, rfl, _⟩ := Maps.keyOf_int_inv Tryz.underlying3 hkey
      obtain rfl : x = x' := by injection ex
      have hrow2 : OwnInts w2 w.heap.size _ ss := World.ownsRow.kept hrow hg2 (Or.inr (row_ne_iter hrow hrg).symm)
      have hC2 := hC.step hlk hat
      clear hs2 hat hC
      go_wp2_with (first
        | (at_builtin; refine wpList_append_own _ rfl _ _ 61 rfl w.heap.size 3 i0 (.int .i64 0) 1 8 Tryz.underlying61 hi hz0 hz1 hz2 rfl (by decide) _ _ _ rfl (World.ownsRow.alloc hrow2 _) ⟨w2.heap.size, 0, none⟩ 1 1 [.int .i64 x] rfl rfl (cell_one_new _ _ _) (by simp [Value.oneCell']) (by unfold maxLen; omega) (by omega) (by have := hnx.size; have := hg2.size; simp; omega) ?_; intro v' w3 hown' hg3 hnil3; go_frame)
        | go_in)
      have hrg3 := (hrg2.alloc _).kept hg3 (row_ne_low hrow2 hbl) (row_ne_iter hrow2 hrg2)
      go_roundw
      case rel =>
        refine ⟨_, cnt2, ss ++ [x], hrg3, by simp; omega, ?_, hC2, ?_⟩
        · unfold OwnInts; simpa using hown'
        · exact ((hnx.grown hg2 hnx.size (fun j hj => by cases hj; exact Nat.le_refl _)).alloc (by have := hnx.size; have := hg2.size; omega) _).grown hg3 (by have := hnx.size; have := hg2.size; simp; omega) (fun j hj => (World.ownsRow.lt hrow2 j hj).1)
      case measure => rw [hrg3.left_eq, hrg.left_eq]; exact hlt

set_option maxHeartbeats 1000000 in
set_option maxRecDepth 100000 in
/-- Sorted, of a map of Nodes with any keys. -/
theorem sortedG_Node (b : Nat) (ks : List Int) (f : Int → Option Value) (w : World) (h : MapG w b ks f) (hN : ks.length ≤ 1000) :
    Calls Tryz.prog 52 #[.map (some b)] w (RetInts w (sortI ks)) := by
  obtain ⟨D, hD, h1, _, h3, h4⟩ := h
  have hsize := MapG.size_eq hD h1 h3 h4
  have hbl := hD.lt
  obtain ⟨i0, hi, hz0, hz1, hz2⟩ := info_parts Tryz.infoInt
  have HP := Lib.hid (show ∀ ss : List Int, ss.Nodup → (∀ x, x ∈ ss ↔ Maps.has D (.int .i64 x) = true) → ss.Perm ks from fun ss hn hm => (List.perm_ext_iff_of_nodup hn h4).2 fun x => by rw [hm x, h1 x, h3 x])
  have hn0 : Maps.size D ≤ 1000 := by omega
  clear h1 h3 h4 hsize
  go_enter Tryz.func52, Tryz.ntmps52
  go_wp2_with (first
    | (at_range; refine wpList_range_own _ rfl _ 64 rfl 3 81 intKeyed Tryz.underlying64 _ b (Maps.size D) _ rfl hD ?_; intro w0 hrg0 hg0 hs0)
    | go_in)
  go_frame
  go_loopw [3] (fun v wr => ∃ (left : Lit → Bool) (cnt : Nat) (ss : List Int), wr.ranges Tryz.prog 3 anyElem b w.heap.size (Maps.size D) D left cnt ∧ ss.length + cnt ≤ Maps.size D ∧ OwnInts wr w.heap.size v ss ∧ Met D left ss ∧ Below w.heap.size w wr)
    (fun _ wr => wr.rangeLeft b w.heap.size)
  case atStart =>
    exact ⟨_, _, [], hrg0, by simp, World.ownsRow_nil _ _ _ _, Met.start D, (Below.refl _ _).grown hg0 (Nat.le_refl _) (fun j hj => by cases hj)⟩
  case round =>
    obtain ⟨left, cnt, ss, hrg, hcs, hrow, hC, hnx⟩ := hrel
    go_wp2_with (first
      | (at_next; refine wpList_next_ranges _ rfl _ rfl 3 intKeyed anyElem (Value.int .i64) (fun u : Value => u) (fun key kl hk => by obtain ⟨x, hx, _⟩ := Maps.keyOf_int_inv Tryz.underlying3 hk; exact ⟨x, hx⟩) (fun v y _ => ⟨v, rfl⟩) b w.heap.size (Maps.size D) _ _ _ rfl hrg ?_ ?_)
      | go_in)
    · intro hc0 hl0
      have hsort := sort_own wr w.heap.size _ ss hrow (by omega) w.heap.size (Nat.le_refl _) hnx.size
      have HE := Lib.hid (sort_permI ((HP.out ss hC.1 (fun x => by rw [hC.2 x, hl0]; simp)).trans (sortI_perm ks).symm) (sortI_sorted ks))
      clear hl0
      go_wp2_with fail
      ((with_reducible refine hsort.mono ?_); rintro e w' ⟨rfl, hO, hb⟩)
      go_wp2
      go_ret
      exact ⟨_, rfl, HE.out ▸ hO, hnx.trans hb⟩
    · intro x c kl yd yp w2 cnt2 hkey hlk hv hat hrg2 hlt hg2 hs2 hen
      obtain ⟨x', ex, rfl, _⟩ := Maps.keyOf_int_inv Tryz.underlying3 hkey
      obtain rfl : x = x' := by injection ex
      have hrow2 : OwnInts w2 w.heap.size _ ss := World.ownsRow.kept hrow hg2 (Or.inr (row_ne_iter hrow hrg).symm)
      have hC2 := hC.step hlk hat
      clear hs2 hat hC
      go_wp2_with (first
        | (at_builtin; refine wpList_append_own _ rfl _ _ 61 rfl w.heap.size 3 i0 (.int .i64 0) 1 8 Tryz.underlying61 hi hz0 hz1 hz2 rfl (by decide) _ _ _ rfl (World.ownsRow.alloc hrow2 _) ⟨w2.heap.size, 0, none⟩ 1 1 [.int .i64 x] rfl rfl (cell_one_new _ _ _) (by simp [Value.oneCell']) (by unfold maxLen; omega) (by omega) (by have := hnx.size; have := hg2.size; simp; omega) ?_; intro v' w3 hown' hg3 hnil3; go_frame)
        | go_in)
      have hrg3 := (hrg2.alloc _).kept hg3 (row_ne_low hrow2 hbl) (row_ne_iter hrow2 hrg2)
      go_roundw
      case rel =>
        refine ⟨_, cnt2, ss ++ [x], hrg3, by simp; omega, ?_, hC2, ?_⟩
        · unfold OwnInts; simpa using hown'
        · exact ((hnx.grown hg2 hnx.size (fun j hj => by cases hj; exact Nat.le_refl _)).alloc (by have := hnx.size; have := hg2.size; omega) _).grown hg3 (by have := hnx.size; have := hg2.size; simp; omega) (fun j hj => (World.ownsRow.lt hrow2 j hj).1)
      case measure => rw [hrg3.left_eq, hrg.left_eq]; exact hlt

end Go.Proofs.YtlgahdabhnhjgaaGreatDoor
