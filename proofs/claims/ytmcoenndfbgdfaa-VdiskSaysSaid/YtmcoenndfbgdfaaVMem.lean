/- Tracked disks in memory: plain disks, and how they lie in blocks. -/
import Derived.Test.YtmcoenndfbgdfaaTopArea
import Derived.Test.YtmcoenndfbgdfaaLaws
import Derived.Test.YtmcoenndfbgdfaaStep
import Derived.Laws.CopyOwn
namespace Go.Proofs.Ytmcoenndfbgdfaa
open Go.RowKit

/-- What a disk has at one moment. -/
structure Cont where
  size : Nat
  texts : Nat → ByteArray

/-- A snapshot, and what happened since, up to the next one. -/
structure SnapM where
  id : Nat
  was : Cont
  touched : List Ar
  forgot : Bool

structure DiskM where
  now : Cont
  last : Nat
  snaps : List SnapM

def setText (f : Nat → ByteArray) (k : Nat) (s : ByteArray) : Nat → ByteArray := fun i => if i = k then s else f i
def clearText (f : Nat → ByteArray) (lo hi : Nat) : Nat → ByteArray := fun i => if lo ≤ i ∧ i < hi then ByteArray.empty else f i

/-- The cells of what a disk has. -/
def contArr (c : Cont) : Array Value := #[.int .i64 c.size, .string (c.texts 0), .string (c.texts 1), .string (c.texts 2), .string (c.texts 3), .string (c.texts 4), .string (c.texts 5), .string (c.texts 6), .string (c.texts 7), .string (c.texts 8), .string (c.texts 9), .string (c.texts 10), .string (c.texts 11), .string (c.texts 12), .string (c.texts 13), .string (c.texts 14), .string (c.texts 15)]
/-- The cells of a disk. -/
def dArr (c : Cont) (last : Nat) (sv : Value) : Array Value := #[.int .i64 c.size, .string (c.texts 0), .string (c.texts 1), .string (c.texts 2), .string (c.texts 3), .string (c.texts 4), .string (c.texts 5), .string (c.texts 6), .string (c.texts 7), .string (c.texts 8), .string (c.texts 9), .string (c.texts 10), .string (c.texts 11), .string (c.texts 12), .string (c.texts 13), .string (c.texts 14), .string (c.texts 15), .int .i64 last, sv]
/-- The cells of a snapshot. -/
def sArr (s : SnapM) (tv : Value) : Array Value := #[.int .i64 s.id, .int .i64 s.was.size, .string (s.was.texts 0), .string (s.was.texts 1), .string (s.was.texts 2), .string (s.was.texts 3), .string (s.was.texts 4), .string (s.was.texts 5), .string (s.was.texts 6), .string (s.was.texts 7), .string (s.was.texts 8), .string (s.was.texts 9), .string (s.was.texts 10), .string (s.was.texts 11), .string (s.was.texts 12), .string (s.was.texts 13), .string (s.was.texts 14), .string (s.was.texts 15), tv, .bool s.forgot]

theorem cases16 {i : Nat} (hi : i < 16) : i = 0 ∨ i = 1 ∨ i = 2 ∨ i = 3 ∨ i = 4 ∨ i = 5 ∨ i = 6 ∨ i = 7 ∨ i = 8 ∨ i = 9 ∨ i = 10 ∨ i = 11 ∨ i = 12 ∨ i = 13 ∨ i = 14 ∨ i = 15 := by omega

theorem dArr_size (c : Cont) (l : Nat) (sv : Value) : (dArr c l sv).size = 19 := rfl
theorem sArr_size (s : SnapM) (tv : Value) : (sArr s tv).size = 20 := rfl
theorem contArr_size (c : Cont) : (contArr c).size = 17 := rfl
theorem dArr_text (c : Cont) (l : Nat) (sv : Value) {i : Nat} (hi : i < 16) : (dArr c l sv)[1 + i]? = some (.string (c.texts i)) := by
  rcases cases16 hi with rfl | rfl | rfl | rfl | rfl | rfl | rfl | rfl | rfl | rfl | rfl | rfl | rfl | rfl | rfl | rfl <;> rfl
theorem sArr_text (s : SnapM) (tv : Value) {i : Nat} (hi : i < 16) : (sArr s tv)[2 + i]? = some (.string (s.was.texts i)) := by
  rcases cases16 hi with rfl | rfl | rfl | rfl | rfl | rfl | rfl | rfl | rfl | rfl | rfl | rfl | rfl | rfl | rfl | rfl <;> rfl
theorem dArr_cut (c : Cont) (l : Nat) (sv : Value) : cut (dArr c l sv) 0 17 = contArr c := rfl
theorem dArr_setText (c : Cont) (l : Nat) (sv : Value) {k : Nat} (hk : k < 16) (s : ByteArray) : (dArr c l sv).setIfInBounds (1 + k) (.string s) = dArr { c with texts := setText c.texts k s } l sv := by
  rcases cases16 hk with rfl | rfl | rfl | rfl | rfl | rfl | rfl | rfl | rfl | rfl | rfl | rfl | rfl | rfl | rfl | rfl <;> rfl
theorem dArr_setSize (c : Cont) (l : Nat) (sv : Value) (n : Nat) : (dArr c l sv).setIfInBounds 0 (.int .i64 (n : Int)) = dArr { c with size := n } l sv := rfl
theorem dArr_setLast (c : Cont) (l : Nat) (sv : Value) (n : Nat) : (dArr c l sv).setIfInBounds 17 (.int .i64 (n : Int)) = dArr c n sv := rfl
theorem dArr_setSnaps (c : Cont) (l : Nat) (sv sv' : Value) : (dArr c l sv).setIfInBounds 18 sv' = dArr c l sv' := rfl

/-- Areas in a row of their own type: they stay while no row of that type is written. -/
theorem OwnAr.step {B b0 : Nat} {ts : List TypeId} {w w' : World} {v : Value} {l : List Ar} (h : OwnAr w b0 v l) (hs : Step B ts w w') (ht : 76 ∉ ts) : OwnAr w' b0 v l := by
  obtain ⟨h1, h2⟩ := h
  refine ⟨h1, ?_⟩
  rcases h2 with h2 | ⟨g, cap, cur, hv, hg, hh, r⟩
  · exact .inl h2
  · exact .inr ⟨g, cap, cur, hv, hg, hs.other _ _ _ _ hh ht, r⟩

/-- Snapshots, each with the value that holds its areas. -/
def sCells (L : List (SnapM × Value)) : List Value := L.flatMap fun p => (sArr p.1 p.2).toList

theorem sCells_length (L : List (SnapM × Value)) : (sCells L).length = L.length * 20 := by
  induction L with
  | nil => rfl
  | cons a r ih => simp only [sCells, List.flatMap_cons, List.length_append, List.length_cons] at *; rw [ih]; simp [sArr]; omega
theorem sCells_append (L R : List (SnapM × Value)) : sCells (L ++ R) = sCells L ++ sCells R := by simp [sCells]

theorem drop_len_add {α : Type} (x y : List α) (n : Nat) : (x ++ y).drop (x.length + n) = y.drop n := by
  rw [← List.drop_drop, List.drop_left]

theorem sCells_at (L : List (SnapM × Value)) (i : Nat) (h : i < L.length) : ((sCells L).drop (i * 20)).take 20 = (sArr L[i].1 L[i].2).toList := by
  induction L generalizing i with
  | nil => simp at h
  | cons a r ih =>
    cases i with
    | zero =>
      simp only [sCells, List.flatMap_cons, Nat.zero_mul, List.drop_zero]
      rw [List.take_append_of_le_length (by simp [sArr]), List.take_of_length_le (by simp [sArr])]; rfl
    | succ i =>
      have e1 : (i + 1) * 20 = (sArr a.1 a.2).toList.length + i * 20 := by simp [sArr]; omega
      simp only [sCells, List.flatMap_cons]
      rw [e1, drop_len_add]
      have := ih i (by simpa using h)
      simp only [sCells] at this
      rw [this]; rfl

/-- Snapshots in memory: the row that holds them, and the areas of each. -/
def SnapsAt (B : Nat) (w : World) (sv : Value) (L : List SnapM) : Prop :=
  ∃ LS : List (SnapM × Value), LS.map (·.1) = L ∧ w.ownsRow B 105 20 sv L.length (sCells LS) ∧ ∀ p ∈ LS, OwnAr w 0 p.2 p.1.touched

/-- What every disk keeps to. -/
structure DiskM.Ok (D : DiskM) : Prop where
  size : 1 ≤ D.now.size ∧ D.now.size ≤ 16
  last : D.last ≤ 999
  few : D.snaps.length ≤ 5
  ids : ∀ s ∈ D.snaps, 1 ≤ s.id ∧ s.id ≤ D.last
  sizes : ∀ s ∈ D.snaps, 1 ≤ s.was.size ∧ s.was.size ≤ 16
  valid : ∀ s ∈ D.snaps, ValidFrom 0 s.touched ∧ s.touched.length ≤ 16

/-- A disk in memory. -/
structure DiskAt (B : Nat) (w : World) (g : Nat) (D : DiskM) : Prop where
  base : B ≤ g
  ok : D.Ok
  mem : ∃ sv, w.heap[g]? = some (.cells (dArr D.now D.last sv) 98 (0, 0)) ∧ SnapsAt B w sv D.snaps

end Go.Proofs.Ytmcoenndfbgdfaa
