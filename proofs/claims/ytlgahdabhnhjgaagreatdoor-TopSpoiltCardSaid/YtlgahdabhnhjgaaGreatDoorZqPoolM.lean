/- Pools of counted blocks: plain pools, and how they lie in memory. -/
import Derived.Test.YtlgahdabhnhjgaaGreatDoorZqNums
namespace Go.Proofs.YtlgahdabhnhjgaaGreatDoor
open Go.RowKit Go.Maps

/-- The lowest number from 1 on, up to N, that is not in use. -/
def firstFree (N : Nat) (used : Nat → Bool) : Option Nat := ((List.range N).find? fun i => !used (i + 1)).map (· + 1)

theorem firstFree_some {N : Nat} {used : Nat → Bool} {n : Nat} (h : firstFree N used = some n) : 1 ≤ n ∧ n ≤ N ∧ used n = false ∧ ∀ m, 1 ≤ m → m < n → used m = true := by
  unfold firstFree at h
  rw [Option.map_eq_some_iff] at h
  obtain ⟨i, hi, rfl⟩ := h
  rw [List.find?_range_eq_some] at hi
  obtain ⟨h1, h2, h3⟩ := hi
  have := List.mem_range.1 h2
  refine ⟨by omega, by omega, by simpa using h1, fun m hm1 hm2 => ?_⟩
  have := h3 (m - 1) (by omega)
  rw [show m - 1 + 1 = m by omega] at this
  simpa using this

theorem firstFree_none {N : Nat} {used : Nat → Bool} (h : firstFree N used = none) : ∀ m, 1 ≤ m → m ≤ N → used m = true := by
  unfold firstFree at h
  rw [Option.map_eq_none_iff, List.find?_eq_none] at h
  intro m h1 h2
  have := h (m - 1) (List.mem_range.2 (by omega))
  rw [show m - 1 + 1 = m by omega] at this
  simpa using this

theorem keysOf_full {N : Nat} {f : Int → Option Value} {used : Nat → Bool} (hu : ∀ m : Nat, 1 ≤ m → m ≤ N → (f m).isSome = used m) : (keysOf N f).length < N ↔ firstFree N used ≠ none := by
  have hl := keysOf_le N f
  constructor
  · intro h hn
    have := firstFree_none hn
    have : keysOf N f = (List.range N).map fun i => ((i : Nat) : Int) + 1 := by
      unfold keysOf
      rw [List.filter_eq_self]
      intro m hm
      obtain ⟨i, hi, rfl⟩ := List.mem_map.1 hm
      have hi' := List.mem_range.1 hi
      have e : ((i : Int) + 1) = ((i + 1 : Nat) : Int) := by omega
      rw [e, hu _ (by omega) (by omega)]
      exact this _ (by omega) (by omega)
    rw [this] at h
    simp at h
  · intro h
    obtain ⟨n, hn⟩ := Option.ne_none_iff_exists'.1 h
    obtain ⟨h1, h2, h3, _⟩ := firstFree_some hn
    have hne : (keysOf N f).length ≠ N := by
      intro e
      have e2 : (keysOf N f).length = ((List.range N).map fun i => ((i : Nat) : Int) + 1).length := by simpa using e
      unfold keysOf at e2
      rw [List.length_filter_eq_length_iff] at e2
      have := e2 (n : Int) (List.mem_map.2 ⟨n - 1, List.mem_range.2 (by omega), by omega⟩)
      rw [hu n h1 h2, h3] at this
      cases this
    omega

theorem notEmpty {s : ByteArray} (h : s.size ≠ 0) : s.toList.isEmpty = false := by
  rw [List.isEmpty_eq_false_iff]
  intro e
  refine h ?_
  have := congrArg List.length e
  rw [ByteArray.toList_eq] at this
  simpa using this

structure Blk where
  data : ByteArray
  refs : Nat
instance : Inhabited Blk := ⟨⟨ByteArray.empty, 0⟩⟩
/-- A pool: of each number its block; one without references is none. -/
abbrev PoolM := Nat → Blk

def noBlk : Blk := ⟨ByteArray.empty, 0⟩
def emptyPool : PoolM := fun _ => noBlk
def blkV (b : Blk) : Value := .agg #[.string b.data, .int .i64 b.refs]
/-- Is there a block of this number? -/
def hasBlk (p : PoolM) (id : Int) : Bool := decide (1 ≤ id) && decide (id ≤ 40) && decide ((p id.toNat).refs ≠ 0)
def poolMap (p : PoolM) : Int → Option Value := fun m => if hasBlk p m = true then some (blkV (p m.toNat)) else none
def usedBlk (p : PoolM) (n : Nat) : Bool := decide ((p n).refs ≠ 0)
def numsOf (p : PoolM) : List Int := keysOf 40 (poolMap p)

/-- What every pool keeps to: no more references than K to any block. -/
structure PoolM.Ok (K : Nat) (p : PoolM) : Prop where
  low : ∀ n, (p n).refs ≠ 0 → 1 ≤ n ∧ n ≤ 40
  refs : ∀ n, (p n).refs ≤ K
  gone : ∀ n, (p n).refs = 0 → p n = noBlk

theorem PoolM.Ok.mono {K K' : Nat} {p : PoolM} (h : p.Ok K) (hk : K ≤ K') : p.Ok K' := ⟨h.low, fun n => Nat.le_trans (h.refs n) hk, h.gone⟩

theorem hasBlk_iff (p : PoolM) (id : Int) : hasBlk p id = true ↔ 1 ≤ id ∧ id ≤ 40 ∧ (p id.toNat).refs ≠ 0 := by simp [hasBlk, and_assoc]
theorem hasBlk_nat {K : Nat} {p : PoolM} (h : p.Ok K) (n : Nat) : hasBlk p n = usedBlk p n := by
  rw [Bool.eq_iff_iff, hasBlk_iff]
  simp only [usedBlk, decide_eq_true_eq, Int.toNat_natCast]
  constructor
  · exact fun h => h.2.2
  · intro h'
    have := h.low n h'
    exact ⟨by omega, by omega, h'⟩
theorem poolMap_isSome (p : PoolM) (m : Int) : (poolMap p m).isSome = hasBlk p m := by
  unfold poolMap; cases hasBlk p m <;> rfl
theorem poolMap_low (p : PoolM) (m : Int) (h : (poolMap p m).isSome = true) : 1 ≤ m ∧ m ≤ ((40 : Nat) : Int) := by
  rw [poolMap_isSome, hasBlk_iff] at h
  omega
theorem poolMap_shape (p : PoolM) (m : Int) (v : Value) (h : poolMap p m = some v) : ∃ (d : ByteArray) (r : Int), v = .agg #[.string d, .int .i64 r] := by
  unfold poolMap at h
  split at h
  · cases h; exact ⟨_, _, rfl⟩
  · cases h

def putErr (p : PoolM) (data : ByteArray) : Int := if data.size = 0 ∨ 6 < data.size then 3 else if firstFree 40 (usedBlk p) = none then 8 else 0
def putId (p : PoolM) (data : ByteArray) : Nat := if putErr p data = 0 then (firstFree 40 (usedBlk p)).getD 0 else 0
def setBlk (p : PoolM) (n : Nat) (b : Blk) : PoolM := fun i => if i = n then b else p i
def putP (p : PoolM) (data : ByteArray) : PoolM := if putErr p data = 0 then setBlk p (putId p data) ⟨data, 1⟩ else p
def refErr (p : PoolM) (id : Int) : Int := if hasBlk p id = true then 0 else 5
def addRef (p : PoolM) (id : Int) : PoolM := if hasBlk p id = true then setBlk p id.toNat ⟨(p id.toNat).data, (p id.toNat).refs + 1⟩ else p
def subRef (p : PoolM) (id : Int) : PoolM := if hasBlk p id = true then setBlk p id.toNat (if (p id.toNat).refs = 1 then noBlk else ⟨(p id.toNat).data, (p id.toNat).refs - 1⟩) else p
def getText (p : PoolM) (id : Int) : ByteArray := if hasBlk p id = true then (p id.toNat).data else ByteArray.empty

theorem emptyPool_ok : emptyPool.Ok 0 := ⟨fun _ h => absurd rfl h, fun _ => Nat.le_refl _, fun _ _ => rfl⟩

theorem setBlk_ok {K K' : Nat} {p : PoolM} (h : p.Ok K) (hK : K ≤ K') {n : Nat} (h1 : 1 ≤ n) (h2 : n ≤ 40) {b : Blk} (hb : b.refs ≤ K') (hg : b.refs = 0 → b = noBlk) : (setBlk p n b).Ok K' := by
  refine ⟨fun m hm => ?_, fun m => ?_, fun m hm => ?_⟩
  · by_cases e : m = n
    · subst e; exact ⟨h1, h2⟩
    · simp only [setBlk, e, if_false] at hm; exact h.low m hm
  · by_cases e : m = n
    · subst e; simpa [setBlk] using hb
    · simp only [setBlk, e, if_false]; exact Nat.le_trans (h.refs m) hK
  · by_cases e : m = n
    · subst e; simp only [setBlk, if_true] at hm ⊢; exact hg hm
    · simp only [setBlk, e, if_false] at hm ⊢; exact h.gone m hm

theorem putId_of {p : PoolM} {data : ByteArray} (h : putErr p data = 0) : ∃ n, firstFree 40 (usedBlk p) = some n ∧ putId p data = n ∧ 1 ≤ n ∧ n ≤ 40 ∧ usedBlk p n = false ∧ (∀ m, 1 ≤ m → m < n → usedBlk p m = true) ∧ ¬ (data.size = 0 ∨ 6 < data.size) := by
  have h' := h
  unfold putErr at h
  split at h
  · cases h
  · rename_i hd
    split at h
    · cases h
    · rename_i hn
      obtain ⟨n, hn⟩ := Option.ne_none_iff_exists'.1 hn
      obtain ⟨a, b, c, d⟩ := firstFree_some hn
      exact ⟨n, hn, by simp [putId, h', hn], a, b, c, d, hd⟩

theorem putP_ok {K : Nat} {p : PoolM} (h : p.Ok K) (data : ByteArray) : (putP p data).Ok (K + 1) := by
  unfold putP
  split
  · rename_i he
    obtain ⟨n, _, e, h1, h2, _⟩ := putId_of he
    rw [e]
    exact setBlk_ok h (by omega) h1 h2 (by simp) (by simp)
  · exact h.mono (by omega)
theorem addRef_ok {K : Nat} {p : PoolM} (h : p.Ok K) (id : Int) : (addRef p id).Ok (K + 1) := by
  unfold addRef
  split
  · rename_i he
    obtain ⟨h1, h2, _⟩ := (hasBlk_iff p id).1 he
    exact setBlk_ok h (by omega) (by omega) (by omega) (by have := h.refs id.toNat; simp; omega) (by simp)
  · exact h.mono (by omega)
theorem subRef_ok {K : Nat} {p : PoolM} (h : p.Ok K) (id : Int) : (subRef p id).Ok K := by
  unfold subRef
  split
  · rename_i he
    obtain ⟨h1, h2, h3⟩ := (hasBlk_iff p id).1 he
    have := h.refs id.toNat
    refine setBlk_ok h (Nat.le_refl _) (by omega) (by omega) ?_ ?_
    · split <;> simp [noBlk]; omega
    · split
      · exact fun _ => rfl
      · intro e; simp at e; omega
  · exact h

theorem poolMap_set {p : PoolM} {n : Nat} (h1 : 1 ≤ n) (h2 : n ≤ 40) {b : Blk} (hb : b.refs ≠ 0) (m : Int) : putAt (poolMap p) n (blkV b) m = poolMap (setBlk p n b) m := by
  unfold putAt poolMap
  by_cases e : m = n
  · subst e
    have : hasBlk (setBlk p n b) (n : Int) = true := (hasBlk_iff _ _).2 ⟨by omega, by omega, by simpa [setBlk] using hb⟩
    simp [this, setBlk]
  · rw [if_neg e]
    by_cases hm : 1 ≤ m
    · have en : m.toNat ≠ n := by omega
      have e1 : setBlk p n b m.toNat = p m.toNat := by simp [setBlk, en]
      have e2 : hasBlk (setBlk p n b) m = hasBlk p m := by simp only [hasBlk, e1]
      rw [e1, e2]
    · have e1 : hasBlk p m = false := by simp [hasBlk, hm]
      have e2 : hasBlk (setBlk p n b) m = false := by simp [hasBlk, hm]
      rw [e1, e2]; rfl
theorem poolMap_del {p : PoolM} {n : Nat} (m : Int) : delAt (poolMap p) n m = poolMap (setBlk p n noBlk) m := by
  unfold delAt poolMap
  by_cases e : m = n
  · subst e
    have : hasBlk (setBlk p n noBlk) (n : Int) = false := by simp [hasBlk, setBlk, noBlk]
    simp [this]
  · rw [if_neg e]
    by_cases hm : 1 ≤ m
    · have en : m.toNat ≠ n := by omega
      have e1 : setBlk p n noBlk m.toNat = p m.toNat := by simp [setBlk, en]
      have e2 : hasBlk (setBlk p n noBlk) m = hasBlk p m := by simp only [hasBlk, e1]
      rw [e1, e2]
    · have e1 : hasBlk p m = false := by simp [hasBlk, hm]
      have e2 : hasBlk (setBlk p n noBlk) m = false := by simp [hasBlk, hm]
      rw [e1, e2]; rfl

/-- A pool in memory: its own row, its map. -/
structure PoolAt (w : World) (g b K : Nat) (p : PoolM) : Prop where
  row : w.heap[g]? = some (.cells #[.map (some b)] 97 (0, 0))
  map : MapOf w b 40 (poolMap p)
  ok : p.Ok K

theorem PoolAt.lt {w : World} {g b K : Nat} {p : PoolM} (h : PoolAt w g b K p) : g < w.heap.size := (Array.getElem?_eq_some_iff.1 h.row).1
theorem PoolAt.ltb {w : World} {g b K : Nat} {p : PoolM} (h : PoolAt w g b K p) : b < w.heap.size := h.map.lt
theorem PoolAt.ne {w : World} {g b K : Nat} {p : PoolM} (h : PoolAt w g b K p) : g ≠ b := by
  intro e
  obtain ⟨es, c, hb⟩ := h.map.ismap
  have := h.row
  rw [e, hb] at this
  cases this
theorem PoolAt.cell {w : World} {g b K : Nat} {p : PoolM} (h : PoolAt w g b K p) : w.cell? ⟨g, 0, none⟩ = some (.map (some b)) := cell_of_row _ _ _ _ _ _ h.row
theorem PoolAt.keep {w w' : World} {g b K : Nat} {p : PoolM} (h : PoolAt w g b K p) (h1 : w'.heap[g]? = w.heap[g]?) (h2 : w'.heap[b]? = w.heap[b]?) : PoolAt w' g b K p := ⟨h1.trans h.row, h.map.keep h2, h.ok⟩
theorem PoolAt.below {w w' : World} {g b K : Nat} {p : PoolM} (h : PoolAt w g b K p) (hb : Below w.heap.size w w') : PoolAt w' g b K p := h.keep (hb.block g h.lt) (hb.block b h.ltb)
theorem PoolAt.turn {w w' : World} {g b K : Nat} {p : PoolM} {bs : List Nat} (h : PoolAt w g b K p) (ht : Turn bs w w') (h1 : g ∉ bs) (h2 : b ∉ bs) : PoolAt w' g b K p := h.keep (ht.block g h.lt h1) (ht.block b h.ltb h2)
theorem PoolAt.mono {w : World} {g b K K' : Nat} {p : PoolM} (h : PoolAt w g b K p) (hK : K ≤ K') : PoolAt w g b K' p := ⟨h.row, h.map, h.ok.mono hK⟩
/-- The map has turned: the pool is another. -/
theorem PoolAt.turned {w w' : World} {g b K K' : Nat} {p q : PoolM} (h : PoolAt w g b K p) {f : Int → Option Value} (hm : MapOf w' b 40 f) (ht : w.mapTurned w' b) (he : ∀ m, f m = poolMap q m) (hq : q.Ok K') : PoolAt w' g b K' q :=
  ⟨(ht.grown.block g h.lt (by intro e; cases e; exact h.ne rfl)).trans h.row, hm.congr he, hq⟩

theorem numsOf_len {w : World} {g b K : Nat} {p : PoolM} (h : PoolAt w g b K p) : (numsOf p).length < 40 ↔ firstFree 40 (usedBlk p) ≠ none :=
  keysOf_full fun m _ _ => by rw [poolMap_isSome, hasBlk_nat h.ok]
end Go.Proofs.YtlgahdabhnhjgaaGreatDoor
