/- numbered.Sorted, numbered.Lowest, SameNumbers, slices.Sort: numbers in memory, and a map's keys in order. -/
import Derived.Test.YtlgahdabhnhjgaaGreatDoorZqMaps
import Derived.Shelf.Sort.Plain
import Derived.Sort.OwnSortedInts
import Derived.OwnWalk
namespace Go.Proofs.YtlgahdabhnhjgaaGreatDoor
open Go.RowKit Go.Maps Go.Sort

def Tryz.sort189_ren : Go.Shelf.Ren := ⟨fun | 189 => 86 | 125 => 117 | 257 => 116 | 128 => 148 | 129 => 149 | 294 => 139 | 295 => 140 | 296 => 141 | 297 => 142 | 298 => 143 | 299 => 144 | 216 => 145 | 300 => 146 | 301 => 147 | 328 => 162 | 329 => 163 | 330 => 164 | 331 => 165 | 332 => 166 | 215 => 167 | 343 => 174 | n => n, fun | 28 => 61 | 3 => 3 | 46 => 143 | 0 => 0 | 51 => 172 | 53 => 35 | 4 => 4 | 183 => 188 | 182 => 187 | 131 => 184 | 5 => 5 | 9 => 9 | 218 => 209 | 222 => 213 | 228 => 223 | 229 => 39 | n => n, fun | n => n⟩
theorem Tryz.sort189 : Go.Proofs.Lays.n189 Tryz.prog Tryz.sort189_ren := {
  mixed := by kernel_rfl
  f125 := Tryz.func117.trans (congrArg some (by kernel_rfl))
  f128 := Tryz.func148.trans (congrArg some (by kernel_rfl))
  f129 := Tryz.func149.trans (congrArg some (by kernel_rfl))
  f189 := Tryz.func86.trans (congrArg some (by kernel_rfl))
  f215 := Tryz.func167.trans (congrArg some (by kernel_rfl))
  f216 := Tryz.func145.trans (congrArg some (by kernel_rfl))
  f257 := Tryz.func116.trans (congrArg some (by kernel_rfl))
  f294 := Tryz.func139.trans (congrArg some (by kernel_rfl))
  f295 := Tryz.func140.trans (congrArg some (by kernel_rfl))
  f296 := Tryz.func141.trans (congrArg some (by kernel_rfl))
  f297 := Tryz.func142.trans (congrArg some (by kernel_rfl))
  f298 := Tryz.func143.trans (congrArg some (by kernel_rfl))
  f299 := Tryz.func144.trans (congrArg some (by kernel_rfl))
  f300 := Tryz.func146.trans (congrArg some (by kernel_rfl))
  f301 := Tryz.func147.trans (congrArg some (by kernel_rfl))
  f328 := Tryz.func162.trans (congrArg some (by kernel_rfl))
  f329 := Tryz.func163.trans (congrArg some (by kernel_rfl))
  f330 := Tryz.func164.trans (congrArg some (by kernel_rfl))
  f331 := Tryz.func165.trans (congrArg some (by kernel_rfl))
  f332 := Tryz.func166.trans (congrArg some (by kernel_rfl))
  f343 := Tryz.func174.trans (congrArg some (by kernel_rfl))
  t0 := Tryz.underlying0
  a0 := Tryz.isAgg0
  z0 := Tryz.sizeOf0
  v0 := Tryz.zeroValue0
  t3 := Tryz.underlying3
  a3 := Tryz.isAgg3
  z3 := Tryz.sizeOf3
  v3 := Tryz.zeroValue3
  t4 := Tryz.underlying4
  a4 := Tryz.isAgg4
  z4 := Tryz.sizeOf4
  v4 := Tryz.zeroValue4
  t5 := Tryz.underlying5
  a5 := Tryz.isAgg5
  z5 := Tryz.sizeOf5
  v5 := Tryz.zeroValue5
  t9 := Tryz.underlying9
  a9 := Tryz.isAgg9
  z9 := Tryz.sizeOf9
  v9 := Tryz.zeroValue9
  t28 := Tryz.underlying61
  a28 := Tryz.isAgg61
  z28 := Tryz.sizeOf61
  v28 := Tryz.zeroValue61
  t46 := Tryz.underlying143
  a46 := Tryz.isAgg143
  z46 := Tryz.sizeOf143
  v46 := Tryz.zeroValue143
  t51 := Tryz.underlying172
  a51 := Tryz.isAgg172
  z51 := Tryz.sizeOf172
  v51 := Tryz.zeroValue172
  t53 := Tryz.underlying35
  a53 := Tryz.isAgg35
  z53 := Tryz.sizeOf35
  v53 := Tryz.zeroValue35
  t131 := Tryz.underlying184
  a131 := Tryz.isAgg184
  z131 := Tryz.sizeOf184
  v131 := Tryz.zeroValue184
  t182 := Tryz.underlying187
  a182 := Tryz.isAgg187
  z182 := Tryz.sizeOf187
  v182 := Tryz.zeroValue187
  t183 := Tryz.underlying188
  a183 := Tryz.isAgg188
  z183 := Tryz.sizeOf188
  v183 := Tryz.zeroValue188
  t218 := Tryz.underlying209
  a218 := Tryz.isAgg209
  z218 := Tryz.sizeOf209
  v218 := Tryz.zeroValue209
  t222 := Tryz.underlying213
  a222 := Tryz.isAgg213
  z222 := Tryz.sizeOf213
  v222 := Tryz.zeroValue213
  t228 := Tryz.underlying223
  a228 := Tryz.isAgg223
  z228 := Tryz.sizeOf223
  v228 := Tryz.zeroValue223
  t229 := Tryz.underlying39
  a229 := Tryz.isAgg39
  z229 := Tryz.sizeOf39
  v229 := Tryz.zeroValue39 }

theorem Tryz.infoInt : (Tryz.prog.info? 3).map (fun i => (i.zero, i.size, i.bytes)) = some (some (.int .i64 0), 1, 8) := by kernel_rfl

/-- Numbers of a slice that the call has made. -/
def OwnInts (w : World) (base : Nat) (v : Value) (l : List Int) : Prop := w.ownsRow base 3 1 v l.length (l.map (Value.int .i64))

/-- Numbers in memory, as a slice. -/
def IntsAt (w : World) (A : Option Addr) (l : List Int) : Prop := ∀ i, (h : i < l.length) → ∃ b off, A = some ⟨b, off, none⟩ ∧ w.cell? ⟨b, off + i, none⟩ = some (.int .i64 l[i])

theorem OwnInts.at_ {w : World} {base : Nat} {v : Value} {l : List Int} (h' : OwnInts w base v l) : ∃ A c, v = .slice A l.length c ∧ IntsAt w A l ∧ (∀ b off, A = some ⟨b, off, none⟩ → base ≤ b ∧ b < w.heap.size) := by
  have h : w.ownsRow base 3 1 v l.length (l.map (Value.int .i64)) := h'
  rcases h.2 with ⟨rfl, h0⟩ | ⟨g, cap, cur, rfl, hb, hg, hn, hm, hs, ht⟩
  · exact ⟨none, 0, by rw [h0], fun i hi => absurd hi (by omega), fun b off e => by cases e⟩
  · refine ⟨_, cap, rfl, fun i hi => ⟨g, 0, rfl, ?_⟩, fun b off e => by cases e; exact ⟨hb, (Array.getElem?_eq_some_iff.1 hg).1⟩⟩
    rw [Nat.zero_add, h.cellAt i (by omega)]
    simp [hi]

theorem IntsAt.keep {w w' : World} {A : Option Addr} {l : List Int} (h : IntsAt w A l) (hk : ∀ b off, A = some ⟨b, off, none⟩ → b < w.heap.size → w'.heap[b]? = w.heap[b]?) : IntsAt w' A l := by
  intro i hi
  obtain ⟨b, off, e, h1⟩ := h i hi
  exact ⟨b, off, e, by rw [World.cell?_of_block (w := w) (a := ⟨b, off + i, none⟩) (hk b off e (World.block_lt_of_cell? w _ h1))]; exact h1⟩
theorem IntsAt.below {w w' : World} {A : Option Addr} {l : List Int} (h : IntsAt w A l) (hb : Below w.heap.size w w') : IntsAt w' A l := h.keep fun b _ _ hlt => hb.block b hlt
theorem IntsAt.turn {w w' : World} {A : Option Addr} {l : List Int} {bs : List Nat} (h : IntsAt w A l) (ht : Turn bs w w') (hn : ∀ b off, A = some ⟨b, off, none⟩ → b ∉ bs) : IntsAt w' A l := h.keep fun b off e hlt => ht.block b hlt (hn b off e)

/-- A call that answers numbers in new memory and leaves all else as it was. -/
def RetInts (w : World) (l : List Int) (e : Ending) (w' : World) : Prop := ∃ v, e = .returned v ∧ OwnInts w' w.heap.size v l ∧ Below w.heap.size w w'

/-- Keys that were met so far. -/
def Met (D : DataW Value) (left : Lit → Bool) (ss : List Int) : Prop := ss.Nodup ∧ ∀ x, x ∈ ss ↔ (Maps.has D (.int .i64 x) = true ∧ left (.int .i64 x) = false)

theorem Met.start (D : DataW Value) : Met D (Maps.has D) [] := ⟨List.nodup_nil, fun x => by cases Maps.has D (.int .i64 x) <;> simp⟩
theorem Met.step {D : DataW Value} {left : Lit → Bool} {ss : List Int} (h : Met D left ss) {x : Int} {y : DataW Value} (hlk : left (.int .i64 x) = true) (hat : ∀ zd, D.atKey (.int .i64 x) zd = y) : Met D (fun z => left z && !z.sameKey (.int .i64 x)) (ss ++ [x]) := by
  have hhas : Maps.has D (.int .i64 x) = true := has_true_of_atKey hat
  refine ⟨?_, fun z => ?_⟩
  · rw [List.nodup_append]
    refine ⟨h.1, by simp, fun a ha b hb e => ?_⟩
    simp at hb
    subst hb e
    have := ((h.2 a).1 ha).2
    rw [hlk] at this
    cases this
  · show _ ↔ _ ∧ (left (.int .i64 z) && !(Lit.int .i64 z).sameKey (.int .i64 x)) = false
    rw [List.mem_append, h.2 z, sameKey_int]
    by_cases e : z = x
    · subst e; simp [hhas]
    · simp [e]

theorem sort_perm {l l' : List Int} (h : l.Perm l') (hs : l'.Pairwise (fun a b => a ≤ b)) : l.mergeSort (fun x y => decide (x ≤ y)) = l' := by
  have tr : ∀ a b c : Int, decide (a ≤ b) = true → decide (b ≤ c) = true → decide (a ≤ c) = true := fun a b c h1 h2 => by simp at *; omega
  have tot : ∀ a b : Int, (decide (a ≤ b) || decide (b ≤ a)) = true := fun a b => by simp; omega
  refine List.Perm.eq_of_pairwise (le := fun a b => decide (a ≤ b) = true) (fun a b _ _ h1 h2 => ?_) (List.pairwise_mergeSort tr tot l) (hs.imp (by simp)) ((List.mergeSort_perm l _).trans h)
  simp at h1 h2; omega

theorem keysOf_sorted (N : Nat) (f : Int → Option Value) : (keysOf N f).Pairwise (fun a b => a ≤ b) := by
  refine List.Pairwise.filter _ (List.pairwise_map.2 ((List.pairwise_lt_range (n := N)).imp fun {a b} h => by omega))

/-- slices.Sort of no element. -/
theorem insSort_nil (p : Option Addr) (cap : Nat) (w : World) : Calls Tryz.prog 139 #[.slice p 0 cap, .int .i64 0, .int .i64 0] w fun e w' => e = .returned (.tuple #[]) ∧ w = w' := by
  go_enter Tryz.func139, Tryz.ntmps139
  go_wp2
  refine wp_loop_rounds 1 ?_
  rw [rounds_succ]
  go_wp2
  go_end0
  exact ⟨rfl, rfl⟩

set_option maxRecDepth 100000 in
theorem pdq_nil (p : Option Addr) (cap : Nat) (w : World) : Calls Tryz.prog 116 #[.slice p 0 cap, .int .i64 0, .int .i64 0, .int .i64 0] w fun e w' => e = .returned (.tuple #[]) ∧ w = w' := by
  go_enter Tryz.func116, Tryz.ntmps116
  go_wp2
  refine wp_loop_rounds 1 ?_
  rw [rounds_succ]
  go_wp2_with fail
  ((with_reducible refine (insSort_nil p cap _).mono ?_); rintro e w' ⟨rfl, rfl⟩)
  go_wp2
  refine bodyPost_ret (results_none rfl _ _ _) rfl ?_
  exact ⟨rfl, rfl⟩

set_option maxRecDepth 100000 in
theorem len64_zero (w : World) : Calls Tryz.prog 149 #[.int .u64 0] w fun e w' => e = .returned (.int .i64 0) ∧ w = w' := by
  go_enter Tryz.func149, Tryz.ntmps149
  go_wp2
  go_ret
  exact ⟨by kernel_rfl, rfl⟩

theorem len_zero (w : World) : Calls Tryz.prog 117 #[.int .u64 0] w fun e w' => e = .returned (.int .i64 0) ∧ w = w' := by
  go_enter Tryz.func117, Tryz.ntmps117
  go_wp2_with fail
  ((with_reducible refine (len64_zero _).mono ?_); rintro e w' ⟨rfl, rfl⟩)
  go_wp2
  go_ret
  exact ⟨rfl, rfl⟩

set_option maxRecDepth 100000 in
theorem sort_nil (p : Option Addr) (cap : Nat) (w : World) : Calls Tryz.prog 86 #[.slice p 0 cap] w fun e w' => e = .returned (.tuple #[]) ∧ w = w' := by
  go_enter Tryz.func86, Tryz.ntmps86
  go_wp2_with fail
  ((with_reducible refine (len_zero _).mono ?_); rintro e w' ⟨rfl, rfl⟩)
  go_wp2_with fail
  ((with_reducible refine (pdq_nil p cap _).mono ?_); rintro e w' ⟨rfl, rfl⟩)
  go_wp2
  go_end0
  exact ⟨rfl, rfl⟩

/-- slices.Sort of numbers that the call owns. -/
theorem sort_own (w : World) (base : Nat) (v : Value) (l : List Int) (h' : OwnInts w base v l) (hl : l.length ≤ 1000) (B : Nat) (hB : B ≤ base) (hBw : B ≤ w.heap.size) :
    Calls Tryz.prog 86 #[v] w fun e w' => e = .returned (.tuple #[]) ∧ OwnInts w' base v (l.mergeSort fun x y => decide (x ≤ y)) ∧ Below B w w' := by
  have h : w.ownsRow base 3 1 v l.length (l.map (Value.int .i64)) := h'
  rcases h.2 with ⟨rfl, h0⟩ | ⟨g, cap, cur, rfl, hbase, hb, h1, h2, h3, h4⟩
  · refine (sort_nil none 0 w).mono ?_
    rintro e w' ⟨rfl, rfl⟩
    have : l = [] := List.length_eq_zero_iff.1 h0
    subst this
    exact ⟨rfl, by rw [List.mergeSort_nil]; exact World.ownsRow_nil _ _ _ _, Below.refl _ _⟩
  · have hH : Holds (Value.int .i64) w g 0 l.toArray := holds_of_blockI hb (by simpa using h4)
    have hgl : g < w.heap.size := (Array.getElem?_eq_some_iff.1 hb).1
    refine (Any.slices_Sort_int Tryz.sort189 g 0 cap l w hH hgl (by omega)).mono ?_
    rintro e w' ⟨rfl, n, os, rfl⟩
    refine ⟨rfl, ?_, (Below.refl _ _).grown (grownBy_sortedI _) hBw (fun j hj => by cases hj; omega)⟩
    have := ownsRow_sortedI (w := w) (n := n) (os := os) (ss := l) (ts := l.mergeSort fun x y => decide (x ≤ y)) (by simp) hbase hb h1 h2 h3
    unfold OwnInts
    rw [List.length_mergeSort]
    exact this

theorem ownInts_ne {w : World} {base : Nat} {v : Value} {l : List Int} (h : OwnInts w base v l) {b : Nat} (hb : b < base) : some b ≠ v.ownBlock := row_ne_low h hb

theorem take_eq_snocI (l r : List Int) (k : Nat) (hk : k < l.length) (hk' : k < r.length) (h : l.take k = r.take k) : l.take (k + 1) = r.take (k + 1) ↔ l[k] = r[k] := by
  have e1 := List.take_succ_eq_append_getElem hk
  have e2 := List.take_succ_eq_append_getElem hk'
  rw [e1, e2, h]
  constructor
  · intro x
    have := List.append_cancel_left x
    simpa using this
  · intro x; rw [x]

set_option maxHeartbeats 1000000 in
theorem sameNumbers_any (A A' : Option Addr) (cap cap' : Nat) (l l' : List Int) (w : World) (hA : IntsAt w A l) (hA' : IntsAt w A' l') (hl : l.length ≤ 1000) :
    Calls Tryz.prog 81 #[.slice A l.length cap, .slice A' l'.length cap'] w fun e w' => e = .returned (.bool (decide (l = l'))) ∧ Below w.heap.size w w' := by
  by_cases hlen : l.length = l'.length
  · have hd : ((l.length : Int) != (l'.length : Int)) = false := by simp [hlen]
    have HL := Lib.hid hlen; clear hlen
    go_enter Tryz.func81, Tryz.ntmps81
    go_wp2
    go_loopw [5] (fun i w' => ∃ k : Nat, k ≤ l.length ∧ i = .int .i64 k ∧ Hid (l.take k = l'.take k) ∧ Below w.heap.size w w') (fun i _ => l.length - (intOf i).toNat)
    case atStart => exact ⟨0, Nat.zero_le _, rfl, rfl, Below.refl _ _⟩
    case round =>
      obtain ⟨k, hk, rfl, HE, hb⟩ := hrel
      by_cases hlt : k < l.length
      · have hlt' : k < l'.length := by have := HL.out; omega
        obtain ⟨b, off, rfl, h1⟩ := (hA.below hb) k hlt
        obtain ⟨b', off', rfl, h1'⟩ := (hA'.below hb) k hlt'
        by_cases c1 : l[k] = l'[k]
        · have d1 : (l[k] != l'[k]) = false := by simp [c1]
          have C1 := Lib.hid c1; clear c1
          go_wp2
          go_quiet (fail)
          go_wp2
          go_roundw
          case rel => exact ⟨k + 1, hlt, by go_num, (take_eq_snocI l l' k hlt hlt' HE.out).2 C1.out, below_drewN hb _⟩
          case measure => simp [intOf]; omega
        · have d1 : (l[k] != l'[k]) = true := by simp [c1]
          have C1 := Lib.hid c1; clear c1
          go_wp2
          go_quiet (fail)
          go_wp2
          go_ret
          exact ⟨ret_bool (by symm; simp only [decide_eq_false_iff_not]; intro e; subst e; exact C1.out rfl), below_drewN hb _⟩
      · go_wp2
        go_ret
        have h1 : l.take k = l := List.take_of_length_le (by omega)
        have h2 : l'.take k = l' := List.take_of_length_le (by have := HL.out; omega)
        exact ⟨ret_bool (by rw [← h1, ← h2, HE.out]; simp), hb⟩
  · have hd : ((l.length : Int) != (l'.length : Int)) = true := by simp; omega
    have HL := Lib.hid hlen; clear hlen
    go_enter Tryz.func81, Tryz.ntmps81
    go_wp2
    go_ret
    exact ⟨ret_bool (by
      symm; simp only [decide_eq_false_iff_not]; intro e; exact HL.out (by rw [e])), Below.refl _ _⟩

theorem Tryz.zeroBlock (w : World) : (zeroValue 77).run Tryz.prog w = .ok (.agg #[.string ByteArray.empty, .int .i64 0]) w := by kernel_rfl

set_option maxHeartbeats 1000000 in
set_option maxRecDepth 100000 in
/-- Sorted, of a map of Blocks. -/
theorem sorted_Block (b N : Nat) (f : Int → Option Value) (w : World) (h : MapOf w b N f) (hN : N ≤ 1000) :
    Calls Tryz.prog 53 #[.map (some b)] w (RetInts w (keysOf N f)) := by
  obtain ⟨D, hD, h1, _, hs⟩ := h
  have hsize := MapOf.size hD h1 hs
  have hle := keysOf_le N f
  have hbl := hD.lt
  obtain ⟨i0, hi, hz0, hz1, hz2⟩ := info_parts Tryz.infoInt
  have HP := Lib.hid (show ∀ ss : List Int, ss.Nodup → (∀ x, x ∈ ss ↔ Maps.has D (.int .i64 x) = true) → ss.Perm (keysOf N f) from fun ss hn hm => perm_keys hs hn (fun x => by rw [hm x, h1 x]))
  have hn0 : Maps.size D ≤ 1000 := by omega
  clear h1 hs hsize
  go_enter Tryz.func53, Tryz.ntmps53
  go_wp2_with (first
    | (at_range; refine wpList_range_own _ rfl _ 95 rfl 3 77 intKeyed Tryz.underlying95 _ b (Maps.size D) _ rfl hD ?_; intro w0 hrg0 hg0 hs0)
    | go_in)
  go_frame
  go_loopw [3] (fun v wr => ∃ (left : Lit → Bool) (cnt : Nat) (ss : List Int), wr.ranges Tryz.prog 3 anyElem b w.heap.size (Maps.size D) D left cnt ∧ ss.length + cnt ≤ Maps.size D ∧ OwnInts wr w.heap.size v ss ∧ Met D left ss ∧ Below w.heap.size w wr)
    (fun _ wr => wr.rangeLeft b w.heap.size)
  case atStart =>
    exact ⟨_, _, [], hrg0, by simp, World.ownsRow_nil _ _ _ _, Met.start D, (Below.refl _ _).grown hg0 (Nat.le_refl _) (fun j hj => by cases hj)⟩
  case round =>
    obtain ⟨left, cnt, ss, hrg, hcs, hrow, hC, hnx⟩ := hrel
    go_wp2_with (first
      | (at_next; refine wpList_next_ranges _ rfl _ rfl 3 intKeyed anyElem (Value.int .i64) (fun u : Value => u) (fun key kl hk => by obtain ⟨x, hx, _⟩ := Maps.keyOf_int_inv Tryz.underlying3 hk; exact ⟨x, hx⟩) (fun v y _ => ⟨v, rfl⟩) b w.heap.size (Maps.size D) _ _ _ rfl hrg ?_ ?_)
      | go_in)
    · intro hc0 hl0
      have hsort := sort_own wr w.heap.size _ ss hrow (by omega) w.heap.size (Nat.le_refl _) hnx.size
      have HE := Lib.hid (sort_perm (HP.out ss hC.1 (fun x => by rw [hC.2 x, hl0]; simp)) (keysOf_sorted N f))
      clear hl0
      go_wp2_with fail
      ((with_reducible refine hsort.mono ?_); rintro e w' ⟨rfl, hO, hb⟩)
      go_wp2
      go_ret
      exact ⟨_, rfl, by rw [← HE.out]; exact hO, hnx.trans hb⟩
    · intro x c kl yd yp w2 cnt2 hkey hlk hv hat hrg2 hlt hg2 hs2 hen
      obtain ⟨x', ex, rfl, _⟩ := Maps.keyOf_int_inv Tryz.underlying3 hkey
      obtain rfl : x = x' := by injection ex
      have hrow2 : OwnInts w2 w.heap.size _ ss := World.ownsRow.kept hrow hg2 (Or.inr (row_ne_iter hrow hrg).symm)
      have hC2 := hC.step hlk hat
      clear hs2 hat hC
      go_wp2_with (first
        | (at_builtin; refine wpList_append_own _ rfl _ _ 61 rfl w.heap.size 3 i0 (.int .i64 0) 1 8 Tryz.underlying61 hi hz0 hz1 hz2 rfl (by decide) _ _ _ rfl (World.ownsRow.alloc hrow2 _) ⟨w2.heap.size, 0, none⟩ 1 1 [.int .i64 x] rfl rfl (cell_one_new _ _ _) (by simp [Value.oneCell']) (by unfold maxLen; omega) (by omega) (by have := hnx.size; have := hg2.size; simp; omega) ?_; intro v' w3 hown' hg3 hnil3; go_frame)
        | go_in)
      have hrg3 := (hrg2.alloc _).kept hg3 (row_ne_low hrow2 hbl) (row_ne_iter hrow2 hrg2)
      go_roundw
      case rel =>
        refine ⟨_, cnt2, ss ++ [x], hrg3, by simp; omega, ?_, hC2, ?_⟩
        · unfold OwnInts; simpa using hown'
        · exact ((hnx.grown hg2 hnx.size (fun j hj => by cases hj; exact Nat.le_refl _)).alloc (by have := hnx.size; have := hg2.size; omega) _).grown hg3 (by have := hnx.size; have := hg2.size; simp; omega) (fun j hj => (World.ownsRow.lt hrow2 j hj).1)
      case measure => rw [hrg3.left_eq, hrg.left_eq]; exact hlt

/-- Lowest, of a map of Blocks that has no element at a number n, but at all from 1 up to it. -/
theorem lowest_Block (b N : Nat) (f : Int → Option Value) (w : World) (h : MapOf w b N f) (hN : N ≤ 1000) (hf : ∀ m v, f m = some v → ∃ (d : ByteArray) (r : Int), v = .agg #[.string d, .int .i64 r]) (n : Nat) (hn : 1 ≤ n) (h0 : f n = none) (h1 : ∀ m : Nat, 1 ≤ m → m < n → (f m).isSome = true) :
    Calls Tryz.prog 150 #[.map (some b)] w fun e w' => e = .returned (.int .i64 n) ∧ Below w.heap.size w w' := by
  have hnN : n ≤ N + 1 := by
    by_cases hc : n ≤ 1
    · omega
    · have h2 := h1 (n - 1) (by omega) (by omega)
      obtain ⟨_, _, _, _, hs⟩ := h
      have := hs _ h2
      omega
  have H1 := Lib.hid h1
  have HF := Lib.hid hf
  clear h1 hf
  go_enter Tryz.func150, Tryz.ntmps150
  go_wp2
  go_loopw [3] (fun i wr => ∃ k : Nat, 1 ≤ k ∧ k ≤ n ∧ i = .int .i64 k ∧ Below w.heap.size w wr) (fun i _ => n - (intOf i).toNat)
  case atStart => exact ⟨1, Nat.le_refl _, hn, rfl, Below.refl _ _⟩
  case round =>
    obtain ⟨k, hk1, hk, rfl, hb⟩ := hrel
    have hM := h.keep (hb.block b h.lt)
    have hsz := hb.size
    by_cases hlt : k < n
    · obtain ⟨u, hu⟩ := Option.isSome_iff_exists.1 (H1.out k hk1 hlt)
      obtain ⟨ud, ur, rfl⟩ := HF.out _ _ hu
      have q1 : (f k).getD (.agg #[.string ByteArray.empty, .int .i64 0]) = .agg #[.string ud, .int .i64 ur] := by rw [hu]; rfl
      have q2 : (f k).isSome = true := by rw [hu]; rfl
      have Q1 := Lib.hid q1
      have Q2 := Lib.hid q2
      clear q1 q2 hu h0
      go_wp2_with (first
        | (at_lookup; refine wpList_lookOk rfl _ _ 95 rfl 77 Tryz.underlying95 _ (Tryz.zeroBlock _) b N f rfl hM k rfl (by omega) _ true Q1.out Q2.out ?_)
        | go_in)
      go_roundw
      case rel => exact ⟨k + 1, by omega, hlt, by go_num, hb.alloc hsz _⟩
      case measure => simp [intOf]; omega
    · obtain rfl : k = n := by omega
      have q1 : (f k).getD (.agg #[.string ByteArray.empty, .int .i64 0]) = (.agg #[.string ByteArray.empty, .int .i64 0]) := by rw [h0]; rfl
      have q2 : (f k).isSome = false := by rw [h0]; rfl
      have Q1 := Lib.hid q1
      have Q2 := Lib.hid q2
      clear q1 q2 h0
      go_wp2_with (first
        | (at_lookup; refine wpList_lookOk rfl _ _ 95 rfl 77 Tryz.underlying95 _ (Tryz.zeroBlock _) b N f rfl hM k rfl (by omega) _ false Q1.out Q2.out ?_)
        | go_in)
      go_ret
      exact ⟨rfl, hb.alloc hsz _⟩

end Go.Proofs.YtlgahdabhnhjgaaGreatDoor
