/- Package pool: New, Get, Put, Ref, Unref, Numbers. -/
import Derived.Test.YtlgahdabhnhjgaaGreatDoorZqNums
/- Pools of counted blocks: plain pools, and how they lie in memory. -/
namespace Go.Proofs.YtlgahdabhnhjgaaGreatDoor
open Go.RowKit Go.Maps

/-- The lowest number from 1 on, up to N, that is not in use. -/
def firstFree (N : Nat) (used : Nat → Bool) : Option Nat := ((List.range N).find? fun i => !used (i + 1)).map (· + 1)

theorem firstFree_some {N : Nat} {used : Nat → Bool} {n : Nat} (h : firstFree N used = some n) : 1 ≤ n ∧ n ≤ N ∧ used n = false ∧ ∀ m, 1 ≤ m → m < n → used m = true := by
  unfold firstFree at h
  rw [Option.map_eq_some_iff] at h
  obtain ⟨i, hi, rfl⟩ := h
  rw [List.find?_range_eq_some] at hi
  obtain ⟨h1, h2, h3⟩ := hi
  have := List.mem_range.1 h2
  refine ⟨by omega, by omega, by simpa using h1, fun m hm1 hm2 => ?_⟩
  have := h3 (m - 1) (by omega)
  rw [show m - 1 + 1 = m by omega] at this
  simpa using this

theorem firstFree_none {N : Nat} {used : Nat → Bool} (h : firstFree N used = none) : ∀ m, 1 ≤ m → m ≤ N → used m = true := by
  unfold firstFree at h
  rw [Option.map_eq_none_iff, List.find?_eq_none] at h
  intro m h1 h2
  have := h (m - 1) (List.mem_range.2 (by omega))
  rw [show m - 1 + 1 = m by omega] at this
  simpa using this

theorem keysOf_full {N : Nat} {f : Int → Option Value} {used : Nat → Bool} (hu : ∀ m : Nat, 1 ≤ m → m ≤ N → (f m).isSome = used m) : (keysOf N f).length < N ↔ firstFree N used ≠ none := by
  have hl := keysOf_le N f
  constructor
  · intro h hn
    have := firstFree_none hn
    have : keysOf N f = (List.range N).map fun i => ((i : Nat) : Int) + 1 := by
      unfold keysOf
      rw [List.filter_eq_self]
      intro m hm
      obtain ⟨i, hi, rfl⟩ := List.mem_map.1 hm
      have hi' := List.mem_range.1 hi
      have e : ((i : Int) + 1) = ((i + 1 : Nat) : Int) := by omega
      rw [e, hu _ (by omega) (by omega)]
      exact this _ (by omega) (by omega)
    rw [this] at h
    simp at h
  · intro h
    obtain ⟨n, hn⟩ := Option.ne_none_iff_exists'.1 h
    obtain ⟨h1, h2, h3, _⟩ := firstFree_some hn
    have hne : (keysOf N f).length ≠ N := by
      intro e
      have e2 : (keysOf N f).length = ((List.range N).map fun i => ((i : Nat) : Int) + 1).length := by simpa using e
      unfold keysOf at e2
      rw [List.length_filter_eq_length_iff] at e2
      have := e2 (n : Int) (List.mem_map.2 ⟨n - 1, List.mem_range.2 (by omega), by omega⟩)
      rw [hu n h1 h2, h3] at this
      cases this
    omega

theorem notEmpty {s : ByteArray} (h : s.size ≠ 0) : s.toList.isEmpty = false := by
  rw [List.isEmpty_eq_false_iff]
  intro e
  refine h ?_
  have := congrArg List.length e
  rw [ByteArray.toList_eq] at this
  simpa using this

structure Blk where
  data : ByteArray
  refs : Nat
instance : Inhabited Blk := ⟨⟨ByteArray.empty, 0⟩⟩
/-- A pool: of each number its block; one without references is none. -/
abbrev PoolM := Nat → Blk

def noBlk : Blk := ⟨ByteArray.empty, 0⟩
def emptyPool : PoolM := fun _ => noBlk
def blkV (b : Blk) : Value := .agg #[.string b.data, .int .i64 b.refs]
/-- Is there a block of this number? -/
def hasBlk (p : PoolM) (id : Int) : Bool := decide (1 ≤ id) && decide (id ≤ 40) && decide ((p id.toNat).refs ≠ 0)
def poolMap (p : PoolM) : Int → Option Value := fun m => if hasBlk p m = true then some (blkV (p m.toNat)) else none
def usedBlk (p : PoolM) (n : Nat) : Bool := decide ((p n).refs ≠ 0)
def numsOf (p : PoolM) : List Int := keysOf 40 (poolMap p)

/-- What every pool keeps to: no more references than K to any block. -/
structure PoolM.Ok (K : Nat) (p : PoolM) : Prop where
  low : ∀ n, (p n).refs ≠ 0 → 1 ≤ n ∧ n ≤ 40
  refs : ∀ n, (p n).refs ≤ K
  gone : ∀ n, (p n).refs = 0 → p n = noBlk

theorem PoolM.Ok.mono {K K' : Nat} {p : PoolM} (h : p.Ok K) (hk : K ≤ K') : p.Ok K' := ⟨h.low, fun n => Nat.le_trans (h.refs n) hk, h.gone⟩

theorem hasBlk_iff (p : PoolM) (id : Int) : hasBlk p id = true ↔ 1 ≤ id ∧ id ≤ 40 ∧ (p id.toNat).refs ≠ 0 := by simp [hasBlk, and_assoc]
theorem hasBlk_nat {K : Nat} {p : PoolM} (h : p.Ok K) (n : Nat) : hasBlk p n = usedBlk p n := by
  rw [Bool.eq_iff_iff, hasBlk_iff]
  simp only [usedBlk, decide_eq_true_eq, Int.toNat_natCast]
  constructor
  · exact fun h => h.2.2
  · intro h'
    have := h.low n h'
    exact ⟨by omega, by omega, h'⟩
theorem poolMap_isSome (p : PoolM) (m : Int) : (poolMap p m).isSome = hasBlk p m := by
  unfold poolMap; cases hasBlk p m <;> rfl
theorem poolMap_low (p : PoolM) (m : Int) (h : (poolMap p m).isSome = true) : 1 ≤ m ∧ m ≤ ((40 : Nat) : Int) := by
  rw [poolMap_isSome, hasBlk_iff] at h
  omega
theorem poolMap_shape (p : PoolM) (m : Int) (v : Value) (h : poolMap p m = some v) : ∃ (d : ByteArray) (r : Int), v = .agg #[.string d, .int .i64 r] := by
  unfold poolMap at h
  split at h
  · cases h; exact ⟨_, _, rfl⟩
  · cases h

def putErr (p : PoolM) (data : ByteArray) : Int := if data.size = 0 ∨ 6 < data.size then 3 else if firstFree 40 (usedBlk p) = none then 8 else 0
def putId (p : PoolM) (data : ByteArray) : Nat := if putErr p data = 0 then (firstFree 40 (usedBlk p)).getD 0 else 0
def setBlk (p : PoolM) (n : Nat) (b : Blk) : PoolM := fun i => if i = n then b else p i
def putP (p : PoolM) (data : ByteArray) : PoolM := if putErr p data = 0 then setBlk p (putId p data) ⟨data, 1⟩ else p
def refErr (p : PoolM) (id : Int) : Int := if hasBlk p id = true then 0 else 5
def addRef (p : PoolM) (id : Int) : PoolM := if hasBlk p id = true then setBlk p id.toNat ⟨(p id.toNat).data, (p id.toNat).refs + 1⟩ else p
def subRef (p : PoolM) (id : Int) : PoolM := if hasBlk p id = true then setBlk p id.toNat (if (p id.toNat).refs = 1 then noBlk else ⟨(p id.toNat).data, (p id.toNat).refs - 1⟩) else p
def getText (p : PoolM) (id : Int) : ByteArray := if hasBlk p id = true then (p id.toNat).data else ByteArray.empty

theorem emptyPool_ok : emptyPool.Ok 0 := ⟨fun _ h => absurd rfl h, fun _ => Nat.le_refl _, fun _ _ => rfl⟩

theorem setBlk_ok {K K' : Nat} {p : PoolM} (h : p.Ok K) (hK : K ≤ K') {n : Nat} (h1 : 1 ≤ n) (h2 : n ≤ 40) {b : Blk} (hb : b.refs ≤ K') (hg : b.refs = 0 → b = noBlk) : (setBlk p n b).Ok K' := by
  refine ⟨fun m hm => ?_, fun m => ?_, fun m hm => ?_⟩
  · by_cases e : m = n
    · subst e; exact ⟨h1, h2⟩
    · simp only [setBlk, e, if_false] at hm; exact h.low m hm
  · by_cases e : m = n
    · subst e; simpa [setBlk] using hb
    · simp only [setBlk, e, if_false]; exact Nat.le_trans (h.refs m) hK
  · by_cases e : m = n
    · subst e; simp only [setBlk, if_true] at hm ⊢; exact hg hm
    · simp only [setBlk, e, if_false] at hm ⊢; exact h.gone m hm

theorem putId_of {p : PoolM} {data : ByteArray} (h : putErr p data = 0) : ∃ n, firstFree 40 (usedBlk p) = some n ∧ putId p data = n ∧ 1 ≤ n ∧ n ≤ 40 ∧ usedBlk p n = false ∧ (∀ m, 1 ≤ m → m < n → usedBlk p m = true) ∧ ¬ (data.size = 0 ∨ 6 < data.size) := by
  have h' := h
  unfold putErr at h
  split at h
  · cases h
  · rename_i hd
    split at h
    · cases h
    · rename_i hn
      obtain ⟨n, hn⟩ := Option.ne_none_iff_exists'.1 hn
      obtain ⟨a, b, c, d⟩ := firstFree_some hn
      exact ⟨n, hn, by simp [putId, h', hn], a, b, c, d, hd⟩

theorem putP_ok {K : Nat} {p : PoolM} (h : p.Ok K) (data : ByteArray) : (putP p data).Ok (K + 1) := by
  unfold putP
  split
  · rename_i he
    obtain ⟨n, _, e, h1, h2, _⟩ := putId_of he
    rw [e]
    exact setBlk_ok h (by omega) h1 h2 (by simp) (by simp)
  · exact h.mono (by omega)
theorem addRef_ok {K : Nat} {p : PoolM} (h : p.Ok K) (id : Int) : (addRef p id).Ok (K + 1) := by
  unfold addRef
  split
  · rename_i he
    obtain ⟨h1, h2, _⟩ := (hasBlk_iff p id).1 he
    exact setBlk_ok h (by omega) (by omega) (by omega) (by have := h.refs id.toNat; simp; omega) (by simp)
  · exact h.mono (by omega)
theorem subRef_ok {K : Nat} {p : PoolM} (h : p.Ok K) (id : Int) : (subRef p id).Ok K := by
  unfold subRef
  split
  · rename_i he
    obtain ⟨h1, h2, h3⟩ := (hasBlk_iff p id).1 he
    have := h.refs id.toNat
    refine setBlk_ok h (Nat.le_refl _) (by omega) (by omega) ?_ ?_
    · split <;> simp [noBlk]; omega
    · split
      · exact fun _ => rfl
      · intro e; simp at e; omega
  · exact h

theorem poolMap_set {p : PoolM} {n : Nat} (h1 : 1 ≤ n) (h2 : n ≤ 40) {b : Blk} (hb : b.refs ≠ 0) (m : Int) : putAt (poolMap p) n (blkV b) m = poolMap (setBlk p n b) m := by
  unfold putAt poolMap
  by_cases e : m = n
  · subst e
    have : hasBlk (setBlk p n b) (n : Int) = true := (hasBlk_iff _ _).2 ⟨by omega, by omega, by simpa [setBlk] using hb⟩
    simp [this, setBlk]
  · rw [if_neg e]
    by_cases hm : 1 ≤ m
    · have en : m.toNat ≠ n := by omega
      have e1 : setBlk p n b m.toNat = p m.toNat := by simp [setBlk, en]
      have e2 : hasBlk (setBlk p n b) m = hasBlk p m := by simp only [hasBlk, e1]
      rw [e1, e2]
    · have e1 : hasBlk p m = false := by simp [hasBlk, hm]
      have e2 : hasBlk (setBlk p n b) m = false := by simp [hasBlk, hm]
      rw [e1, e2]; rfl
theorem poolMap_del {p : PoolM} {n : Nat} (m : Int) : delAt (poolMap p) n m = poolMap (setBlk p n noBlk) m := by
  unfold delAt poolMap
  by_cases e : m = n
  · subst e
    have : hasBlk (setBlk p n noBlk) (n : Int) = false := by simp [hasBlk, setBlk, noBlk]
    simp [this]
  · rw [if_neg e]
    by_cases hm : 1 ≤ m
    · have en : m.toNat ≠ n := by omega
      have e1 : setBlk p n noBlk m.toNat = p m.toNat := by simp [setBlk, en]
      have e2 : hasBlk (setBlk p n noBlk) m = hasBlk p m := by simp only [hasBlk, e1]
      rw [e1, e2]
    · have e1 : hasBlk p m = false := by simp [hasBlk, hm]
      have e2 : hasBlk (setBlk p n noBlk) m = false := by simp [hasBlk, hm]
      rw [e1, e2]; rfl

/-- A pool in memory: its own row, its map. -/
structure PoolAt (w : World) (g b K : Nat) (p : PoolM) : Prop where
  row : w.heap[g]? = some (.cells #[.map (some b)] 97 (0, 0))
  map : MapOf w b 40 (poolMap p)
  ok : p.Ok K

theorem PoolAt.lt {w : World} {g b K : Nat} {p : PoolM} (h : PoolAt w g b K p) : g < w.heap.size := (Array.getElem?_eq_some_iff.1 h.row).1
theorem PoolAt.ltb {w : World} {g b K : Nat} {p : PoolM} (h : PoolAt w g b K p) : b < w.heap.size := h.map.lt
theorem PoolAt.ne {w : World} {g b K : Nat} {p : PoolM} (h : PoolAt w g b K p) : g ≠ b := by
  intro e
  obtain ⟨es, c, hb⟩ := h.map.ismap
  have := h.row
  rw [e, hb] at this
  cases this
theorem PoolAt.cell {w : World} {g b K : Nat} {p : PoolM} (h : PoolAt w g b K p) : w.cell? ⟨g, 0, none⟩ = some (.map (some b)) := cell_of_row _ _ _ _ _ _ h.row
theorem PoolAt.keep {w w' : World} {g b K : Nat} {p : PoolM} (h : PoolAt w g b K p) (h1 : w'.heap[g]? = w.heap[g]?) (h2 : w'.heap[b]? = w.heap[b]?) : PoolAt w' g b K p := ⟨h1.trans h.row, h.map.keep h2, h.ok⟩
theorem PoolAt.below {w w' : World} {g b K : Nat} {p : PoolM} (h : PoolAt w g b K p) (hb : Below w.heap.size w w') : PoolAt w' g b K p := h.keep (hb.block g h.lt) (hb.block b h.ltb)
theorem PoolAt.turn {w w' : World} {g b K : Nat} {p : PoolM} {bs : List Nat} (h : PoolAt w g b K p) (ht : Turn bs w w') (h1 : g ∉ bs) (h2 : b ∉ bs) : PoolAt w' g b K p := h.keep (ht.block g h.lt h1) (ht.block b h.ltb h2)
theorem PoolAt.mono {w : World} {g b K K' : Nat} {p : PoolM} (h : PoolAt w g b K p) (hK : K ≤ K') : PoolAt w g b K' p := ⟨h.row, h.map, h.ok.mono hK⟩
/-- The map has turned: the pool is another. -/
theorem PoolAt.turned {w w' : World} {g b K K' : Nat} {p q : PoolM} (h : PoolAt w g b K p) {f : Int → Option Value} (hm : MapOf w' b 40 f) (ht : w.mapTurned w' b) (he : ∀ m, f m = poolMap q m) (hq : q.Ok K') : PoolAt w' g b K' q :=
  ⟨(ht.grown.block g h.lt (by intro e; cases e; exact h.ne rfl)).trans h.row, hm.congr he, hq⟩

theorem numsOf_len {w : World} {g b K : Nat} {p : PoolM} (h : PoolAt w g b K p) : (numsOf p).length < 40 ↔ firstFree 40 (usedBlk p) ≠ none :=
  keysOf_full fun m _ _ => by rw [poolMap_isSome, hasBlk_nat h.ok]
end Go.Proofs.YtlgahdabhnhjgaaGreatDoor

/- Package pool: New, Get, Put, Ref, Unref, Numbers. -/
namespace Go.Proofs.YtlgahdabhnhjgaaGreatDoor
open Go.RowKit Go.Maps

theorem poolNew_any (w : World) : Calls Tryz.prog 55 #[] w fun e w' => e = .returned (.pointer (some ⟨w.heap.size + 1, 0, none⟩)) ∧ PoolAt w' (w.heap.size + 1) w.heap.size 0 emptyPool ∧ Below w.heap.size w w' := by
  have hmm := @run_makeMap Tryz.prog
  go_enter Tryz.func55, Tryz.ntmps55
  go_wp2
  go_ret
  refine ⟨rfl, ⟨by simpa using heap_alloc_new (w.alloc (.map #[] 0)) (.cells #[.map (some w.heap.size)] 97), ?_, emptyPool_ok⟩, ((Below.refl _ _).alloc (Nat.le_refl _) _).alloc (by simp) _⟩
  exact ((MapOf.made w 40).keep (Below.heap_alloc _ _ _ (by simp))).congr (fun m => by simp [poolMap, hasBlk, emptyPool, noBlk])

set_option maxRecDepth 100000 in
theorem poolGet_any (g b K : Nat) (w : World) (p : PoolM) (id : Int) (h : PoolAt w g b K p) (hid : -9223372036854775808 ≤ id ∧ id ≤ 9223372036854775807) :
    Calls Tryz.prog 90 #[.pointer (some ⟨g, 0, none⟩), .int .i64 id] w fun e w' => e = .returned (.tuple #[.string (getText p id), errV (refErr p id)]) ∧ Below w.heap.size w w' := by
  have c0 := h.cell
  have hM := h.map
  cases hh : hasBlk p id with
  | true =>
    have q1 : (poolMap p id).getD (.agg #[.string ByteArray.empty, .int .i64 0]) = .agg #[.string (p id.toNat).data, .int .i64 (p id.toNat).refs] := by unfold poolMap; rw [hh]; rfl
    have q2 : (poolMap p id).isSome = true := by rw [poolMap_isSome, hh]
    rw [show getText p id = (p id.toNat).data by unfold getText; rw [hh]; rfl, show refErr p id = 0 by unfold refErr; rw [hh]; rfl]
    have Q1 := Lib.hid q1
    have Q2 := Lib.hid q2
    clear q1 q2 hh
    go_enter Tryz.func90, Tryz.ntmps90
    go_wp2_with (first
      | (at_lookup; refine wpList_lookOk rfl _ _ 95 rfl 77 Tryz.underlying95 _ (Tryz.zeroBlock _) b 40 _ rfl hM id rfl hid _ true Q1.out Q2.out ?_)
      | go_in)
    go_ret2
    exact ⟨rfl, (Below.refl _ _).alloc (Nat.le_refl _) _⟩
  | false =>
    have q1 : (poolMap p id).getD (.agg #[.string ByteArray.empty, .int .i64 0]) = .agg #[.string ByteArray.empty, .int .i64 0] := by unfold poolMap; rw [hh]; rfl
    have q2 : (poolMap p id).isSome = false := by rw [poolMap_isSome, hh]
    rw [show getText p id = ByteArray.empty by unfold getText; rw [hh]; rfl, show refErr p id = 5 by unfold refErr; rw [hh]; rfl]
    have Q1 := Lib.hid q1
    have Q2 := Lib.hid q2
    clear q1 q2 hh
    go_enter Tryz.func90, Tryz.ntmps90
    go_wp2_with (first
      | (at_lookup; refine wpList_lookOk rfl _ _ 95 rfl 77 Tryz.underlying95 _ (Tryz.zeroBlock _) b 40 _ rfl hM id rfl hid _ false Q1.out Q2.out ?_)
      | go_in)
    go_ret2
    exact ⟨rfl, (Below.refl _ _).alloc (Nat.le_refl _) _⟩

theorem lowest_pool (g b K : Nat) (w : World) (p : PoolM) (h : PoolAt w g b K p) (n : Nat) (hn : firstFree 40 (usedBlk p) = some n) :
    Calls Tryz.prog 150 #[.map (some b)] w fun e w' => e = .returned (.int .i64 n) ∧ Below w.heap.size w w' := by
  obtain ⟨h1, h2, h3, h4⟩ := firstFree_some hn
  refine lowest_Block b 40 (poolMap p) w h.map (by omega) (poolMap_shape p) n h1 ?_ (fun m hm1 hm2 => by rw [poolMap_isSome, hasBlk_nat h.ok]; exact h4 m hm1 hm2)
  have := poolMap_isSome p n
  rw [hasBlk_nat h.ok, h3] at this
  exact Option.isSome_eq_false_iff.1 this |> Option.isNone_iff_eq_none.1

set_option maxHeartbeats 1000000 in
set_option maxRecDepth 100000 in
theorem poolPut_any (g b K : Nat) (w : World) (p : PoolM) (data : ByteArray) (h : PoolAt w g b K p) (hdata : data.size ≤ 9223372036854775807) :
    Calls Tryz.prog 118 #[.pointer (some ⟨g, 0, none⟩), .string data] w fun e w' => e = .returned (.tuple #[.int .i64 (putId p data), errV (putErr p data)]) ∧ PoolAt w' g b (K + 1) (putP p data) ∧ Turn [b] w w' := by
  have c0 := h.cell
  have hM := h.map
  have hlt := h.lt
  by_cases hd0 : data.size = 0
  · obtain rfl : data = ByteArray.empty := by
      apply ByteArray.ext
      exact Array.eq_empty_of_size_eq_zero hd0
    have he : putErr p ByteArray.empty = 3 := rfl
    rw [show putId p ByteArray.empty = 0 by unfold putId; rw [he]; rfl, show putP p ByteArray.empty = p by unfold putP; rw [he]; rfl, he]
    go_enter Tryz.func118, Tryz.ntmps118
    go_wp2
    go_ret2
    exact ⟨rfl, h.mono (by omega), Turn.refl _ _⟩
  · have hne := notEmpty hd0
    by_cases hd6 : 6 < data.size
    · have he : putErr p data = 3 := by unfold putErr; rw [if_pos (Or.inr hd6)]
      rw [show putId p data = 0 by unfold putId; rw [he]; rfl, show putP p data = p by unfold putP; rw [he]; rfl, he]
      clear he
      go_enter Tryz.func118, Tryz.ntmps118
      go_wp2
      all_goals
        go_ret2
        exact ⟨rfl, h.mono (by omega), Turn.refl _ _⟩
    · have hd7 : decide (6 < (data.size : Int)) = false := by simp; omega
      obtain ⟨n, hnn⟩ : ∃ n, (numsOf p).length = n := ⟨_, rfl⟩
      have hn40 : n ≤ 40 := by rw [← hnn]; exact keysOf_le _ _
      cases hff : firstFree 40 (usedBlk p) with
      | none =>
        have he : putErr p data = 8 := by unfold putErr; rw [if_neg (by omega), if_pos hff]
        have hn : 40 ≤ n := by
          have := Nat.le_of_not_lt (fun x => (numsOf_len h).1 x hff)
          omega
        obtain rfl : n = 40 := by omega
        rw [show putId p data = 0 by unfold putId; rw [he]; rfl, show putP p data = p by unfold putP; rw [he]; rfl, he]
        have HN := Lib.hid hnn
        clear he hnn hff
        go_enter Tryz.func118, Tryz.ntmps118
        go_wp2_with (first
          | (at_len; refine wpList_lenMap rfl _ 95 rfl 77 Tryz.underlying95 b 40 _ rfl hM 40 HN.out ?_)
          | go_in)
        go_ret2
        exact ⟨rfl, h.mono (by omega), Turn.refl _ _⟩
      | some m =>
        have he : putErr p data = 0 := by unfold putErr; rw [if_neg (by omega), if_neg (by simp [hff])]
        have hid : putId p data = m := by unfold putId; rw [he, hff]; rfl
        have hn : n < 40 := by
          have := (numsOf_len h).2 (by simp [hff])
          omega
        rw [show putP p data = setBlk p m ⟨data, 1⟩ by unfold putP; rw [he, hid]; rfl, hid, he]
        obtain ⟨m1, m2, _, _⟩ := firstFree_some hff
        have hlow := fun w' (h' : PoolAt w' g b K p) => lowest_pool g b K w' p h' m hff
        have HLOW := Lib.hid hlow
        have HN := Lib.hid hnn
        have hok := h.ok
        have i1 : (n : Int) < 40 := by omega
        clear he hnn hff hid hlow
        go_enter Tryz.func118, Tryz.ntmps118
        go_wp2_with (first
          | (at_len; refine wpList_lenMap rfl _ 95 rfl 77 Tryz.underlying95 b 40 _ rfl hM n HN.out ?_)
          | fail)
        ((with_reducible refine (HLOW.out _ h).mono ?_); rintro e w1 ⟨rfl, hb1⟩)
        have h1 := h.below hb1
        have c1 := h1.cell
        have hM1 := h1.map
        go_wp2_with (first
          | (at_mapUpdate; refine wpList_putMap rfl _ _ _ 95 rfl 77 Tryz.underlying95 b 40 _ rfl hM1 (by omega) m rfl (by omega) _ rfl ?_; intro w2 hM2 ht2)
          | go_in)
        go_ret2
        exact ⟨rfl, h1.turned hM2 ht2 (fun x => poolMap_set m1 m2 (b := ⟨data, 1⟩) (by simp) x) (setBlk_ok hok (by omega) m1 m2 (by simp) (by simp)), (Turn.of_below hb1).turned ht2 (by simp)⟩

/-- A block more or less: none. -/
theorem count_no (g b K : Nat) (w : World) (p : PoolM) (id more : Int) (h : PoolAt w g b K p) (hid : -9223372036854775808 ≤ id ∧ id ≤ 9223372036854775807) (hh : hasBlk p id = false) :
    Calls Tryz.prog 161 #[.pointer (some ⟨g, 0, none⟩), .int .i64 id, .int .i64 more] w fun e w' => e = .returned (.iface 93 (.int .i64 5)) ∧ Below w.heap.size w w' := by
  have c0 := h.cell
  have hM := h.map
  have q1 : (poolMap p id).getD (.agg #[.string ByteArray.empty, .int .i64 0]) = .agg #[.string ByteArray.empty, .int .i64 0] := by unfold poolMap; rw [hh]; rfl
  have q2 : (poolMap p id).isSome = false := by rw [poolMap_isSome, hh]
  have Q1 := Lib.hid q1
  have Q2 := Lib.hid q2
  clear q1 q2 hh
  go_enter Tryz.func161, Tryz.ntmps161
  go_wp2_with (first
    | (at_lookup; refine wpList_lookOk rfl _ _ 95 rfl 77 Tryz.underlying95 _ (Tryz.zeroBlock _) b 40 _ rfl hM id rfl hid _ false Q1.out Q2.out ?_)
    | go_in)
  go_ret
  exact ⟨rfl, (Below.refl _ _).alloc (Nat.le_refl _) _⟩

set_option maxHeartbeats 1000000 in
set_option maxRecDepth 100000 in
/-- .. the block stays. -/
theorem count_stays (g b K K' : Nat) (w : World) (p : PoolM) (n r : Nat) (more : Int) (h : PoolAt w g b K p) (hh : hasBlk p n = true) (hmore : -1 ≤ more ∧ more ≤ 1) (hr : ((p n).refs : Int) + more = r) (hr1 : 1 ≤ r) (hrK : r ≤ K') (hK' : K ≤ K') (hK : K ≤ 1000000000) :
    Calls Tryz.prog 161 #[.pointer (some ⟨g, 0, none⟩), .int .i64 n, .int .i64 more] w fun e w' => e = .returned .nilIface ∧ PoolAt w' g b K' (setBlk p n ⟨(p n).data, r⟩) ∧ Turn [b] w w' := by
  have c0 := h.cell
  have hM := h.map
  have hlt := h.lt
  have hrefs := h.ok.refs n
  obtain ⟨hn1, hn2, hn3⟩ := (hasBlk_iff p n).1 hh
  have q1 : (poolMap p n).getD (.agg #[.string ByteArray.empty, .int .i64 0]) = .agg #[.string (p n).data, .int .i64 (p n).refs] := by unfold poolMap; rw [hh]; rfl
  have q2 : (poolMap p n).isSome = true := by rw [poolMap_isSome, hh]
  have hok := setBlk_ok (n := n) h.ok hK' (by omega) (by omega) (b := ⟨(p n).data, r⟩) (by simpa using hrK) (by simp; omega)
  have Q1 := Lib.hid q1
  have Q2 := Lib.hid q2
  have HR := Lib.hid hr
  have h0 : PoolAt (w.alloc (.cells #[.string (p n).data, .int .i64 r] 77)) g b K p := h.below ((Below.refl _ _).alloc (Nat.le_refl _) _)
  have c1 := h0.cell
  have hM1 := h0.map
  have i1 : IntKind.i64.wrap (((p n).refs : Int) + more) = (r : Int) := by rw [hr]; exact IntWalk.i64_in _ (by omega)
  have i2 : decide ((r : Int) < 1) = false := by simp; omega
  clear q1 q2 hh hr hn3
  go_enter Tryz.func161, Tryz.ntmps161
  go_wp2_with (first
    | (at_lookup; refine wpList_lookOk rfl _ _ 95 rfl 77 Tryz.underlying95 _ (Tryz.zeroBlock _) b 40 _ rfl hM n rfl (by omega) _ true Q1.out Q2.out ?_)
    | go_in)
  refine region_tail 6 (by kernel_rfl) (by kernel_rfl) ?_
  intro w2 hw2
  have h2 : PoolAt w2 g b K p := by rw [hw2]; exact h0.below (Below.refl _ _).drew
  have k0 : w2.cell? ⟨w.heap.size, 0, none⟩ = some (.string (p n).data) := by rw [hw2]; exact cell_of_row _ _ _ _ _ _ (heap_alloc_new w _)
  have k1 : w2.cell? ⟨w.heap.size, 1, none⟩ = some (.int .i64 r) := by rw [hw2]; exact cell_of_row _ _ _ _ _ _ (heap_alloc_new w _)
  have t2 : Turn [b] w w2 := ((Turn.refl _ _).alloc _).of_drew hw2
  have c2 := h2.cell
  have hM2 := h2.map
  clear hw2
  simp only [List.take_succ_cons, List.take_zero, List.drop_succ_cons, List.drop_zero]
  repeat still_step
  refine wpStill_nil ?_
  go_wp2_with (first
    | (at_mapUpdate; refine wpList_putMap rfl _ _ _ 95 rfl 77 Tryz.underlying95 b 40 _ rfl hM2 (by omega) n rfl (by omega) _ rfl ?_; intro w3 hM3 ht3)
    | go_in)
  go_ret
  exact ⟨rfl, h2.turned hM3 ht3 (fun x => poolMap_set (by omega) (by omega) (b := ⟨(p n).data, r⟩) (by simp; omega) x) hok, t2.turned ht3 (by simp)⟩

set_option maxHeartbeats 1000000 in
set_option maxRecDepth 100000 in
/-- .. the block goes. -/
theorem count_goes (g b K : Nat) (w : World) (p : PoolM) (n : Nat) (h : PoolAt w g b K p) (hh : hasBlk p n = true) (hr : (p n).refs = 1) :
    Calls Tryz.prog 161 #[.pointer (some ⟨g, 0, none⟩), .int .i64 n, .int .i64 (-1)] w fun e w' => e = .returned .nilIface ∧ PoolAt w' g b K (setBlk p n noBlk) ∧ Turn [b] w w' := by
  have c0 := h.cell
  have hM := h.map
  have hlt := h.lt
  obtain ⟨hn1, hn2, hn3⟩ := (hasBlk_iff p n).1 hh
  have q1 : (poolMap p n).getD (.agg #[.string ByteArray.empty, .int .i64 0]) = .agg #[.string (p n).data, .int .i64 1] := by unfold poolMap; rw [hh]; simp [blkV, hr]
  have q2 : (poolMap p n).isSome = true := by rw [poolMap_isSome, hh]
  have hok := setBlk_ok (n := n) h.ok (Nat.le_refl _) (by omega) (by omega) (b := noBlk) (by simp [noBlk]) (fun _ => rfl)
  have Q1 := Lib.hid q1
  have Q2 := Lib.hid q2
  have h0 : PoolAt (w.alloc (.cells #[.string (p n).data, .int .i64 0] 77)) g b K p := h.below ((Below.refl _ _).alloc (Nat.le_refl _) _)
  have c1 := h0.cell
  have hM1 := h0.map
  clear q1 q2 hh hr hn3
  go_enter Tryz.func161, Tryz.ntmps161
  go_wp2_with (first
    | (at_lookup; refine wpList_lookOk rfl _ _ 95 rfl 77 Tryz.underlying95 _ (Tryz.zeroBlock _) b 40 _ rfl hM n rfl (by omega) _ true Q1.out Q2.out ?_)
    | (at_delete; refine wpList_delMap rfl _ _ 95 rfl 77 Tryz.underlying95 b 40 _ rfl hM1 n rfl (by omega) ?_; intro w3 hM3 ht3)
    | go_in)
  go_ret
  exact ⟨rfl, h0.turned hM3 ht3 poolMap_del hok, ((Turn.refl _ _).alloc _).turned ht3 (by simp)⟩

/-- Ref. -/
theorem poolRef_any (g b K : Nat) (w : World) (p : PoolM) (id : Int) (h : PoolAt w g b K p) (hid : -9223372036854775808 ≤ id ∧ id ≤ 9223372036854775807) (hK : K ≤ 1000000000) :
    Calls Tryz.prog 152 #[.pointer (some ⟨g, 0, none⟩), .int .i64 id] w fun e w' => e = .returned (errV (refErr p id)) ∧ PoolAt w' g b (K + 1) (addRef p id) ∧ Turn [b] w w' := by
  cases hh : hasBlk p id with
  | true =>
    obtain ⟨h1, h2, h3⟩ := (hasBlk_iff p id).1 hh
    obtain ⟨n, rfl⟩ := Int.eq_ofNat_of_zero_le (show 0 ≤ id by omega)
    have hrefs := h.ok.refs n
    rw [show refErr p n = 0 by unfold refErr; rw [hh]; rfl, show addRef p n = setBlk p n ⟨(p n).data, (p n).refs + 1⟩ by unfold addRef; rw [hh]; rfl]
    have HC := Lib.hid (count_stays g b K (K + 1) w p n ((p n).refs + 1) 1 h hh (by omega) (by omega) (by omega) (by omega) (by omega) hK)
    clear hh h3
    go_enter Tryz.func152, Tryz.ntmps152
    go_wp2_with fail
    ((with_reducible refine HC.out.mono ?_); rintro e w1 ⟨rfl, h1, ht1⟩)
    go_wp2
    go_ret
    exact ⟨rfl, h1, ht1⟩
  | false =>
    rw [show refErr p id = 5 by unfold refErr; rw [hh]; rfl, show addRef p id = p by unfold addRef; rw [hh]; rfl]
    have HC := Lib.hid (count_no g b K w p id 1 h hid hh)
    clear hh
    go_enter Tryz.func152, Tryz.ntmps152
    go_wp2_with fail
    ((with_reducible refine HC.out.mono ?_); rintro e w1 ⟨rfl, hb1⟩)
    go_wp2
    go_ret
    exact ⟨rfl, (h.below hb1).mono (by omega), Turn.of_below hb1⟩

/-- Unref. -/
theorem poolUnref_any (g b K : Nat) (w : World) (p : PoolM) (id : Int) (h : PoolAt w g b K p) (hid : -9223372036854775808 ≤ id ∧ id ≤ 9223372036854775807) (hK : K ≤ 1000000000) :
    Calls Tryz.prog 138 #[.pointer (some ⟨g, 0, none⟩), .int .i64 id] w fun e w' => e = .returned (errV (refErr p id)) ∧ PoolAt w' g b K (subRef p id) ∧ Turn [b] w w' := by
  cases hh : hasBlk p id with
  | true =>
    obtain ⟨h1, h2, h3⟩ := (hasBlk_iff p id).1 hh
    obtain ⟨n, rfl⟩ := Int.eq_ofNat_of_zero_le (show 0 ≤ id by omega)
    have h3 : (p n).refs ≠ 0 := h3
    have hrefs := h.ok.refs n
    rw [show refErr p n = 0 by unfold refErr; rw [hh]; rfl, show subRef p n = setBlk p n (if (p n).refs = 1 then noBlk else ⟨(p n).data, (p n).refs - 1⟩) by unfold subRef; rw [hh]; rfl]
    have HC := Lib.hid (show Calls Tryz.prog 161 #[.pointer (some ⟨g, 0, none⟩), .int .i64 n, .int .i64 (-1)] w fun e w' => e = .returned .nilIface ∧ PoolAt w' g b K (setBlk p n (if (p n).refs = 1 then noBlk else ⟨(p n).data, (p n).refs - 1⟩)) ∧ Turn [b] w w' by
      by_cases hr : (p n).refs = 1
      · rw [if_pos hr]; exact count_goes g b K w p n h hh hr
      · rw [if_neg hr]; exact count_stays g b K K w p n ((p n).refs - 1) (-1) h hh (by omega) (by omega) (by omega) (by omega) (by omega) hK)
    generalize (if (p n).refs = 1 then noBlk else ⟨(p n).data, (p n).refs - 1⟩) = bb at HC ⊢
    clear hh h3
    go_enter Tryz.func138, Tryz.ntmps138
    go_wp2_with fail
    ((with_reducible refine HC.out.mono ?_); rintro e w1 ⟨rfl, h1, ht1⟩)
    go_wp2
    go_ret
    exact ⟨rfl, h1, ht1⟩
  | false =>
    rw [show refErr p id = 5 by unfold refErr; rw [hh]; rfl, show subRef p id = p by unfold subRef; rw [hh]; rfl]
    have HC := Lib.hid (count_no g b K w p id (-1) h hid hh)
    clear hh
    go_enter Tryz.func138, Tryz.ntmps138
    go_wp2_with fail
    ((with_reducible refine HC.out.mono ?_); rintro e w1 ⟨rfl, hb1⟩)
    go_wp2
    go_ret
    exact ⟨rfl, h.below hb1, Turn.of_below hb1⟩

theorem poolNumbers_any (g b K : Nat) (w : World) (p : PoolM) (h : PoolAt w g b K p) : Calls Tryz.prog 27 #[.pointer (some ⟨g, 0, none⟩)] w (RetInts w (numsOf p)) := by
  have c0 := h.cell
  go_enter Tryz.func27, Tryz.ntmps27
  go_wp2_with fail
  ((with_reducible refine (sorted_Block b 40 (poolMap p) _ h.map (by omega)).mono ?_); rintro e w1 ⟨v, rfl, hO, hb1⟩)
  go_wp2
  go_ret
  exact ⟨v, rfl, hO, hb1⟩
end Go.Proofs.YtlgahdabhnhjgaaGreatDoor
