/- The document's tracked disk: how it lies in memory. -/
import Derived.Test.YtmcoenndfbgdfaaFlat
import Derived.Test.YtmcoenndfbgdfaaStep
import Derived.Test.YtmcoenndfbgdfaaRefA
import Derived.Test.YtmcoenndfbgdfaaVMem
namespace Go.Proofs.Ytmcoenndfbgdfaa
open Go.RowKit

structure RSn where
  id : Nat
  time : Nat
  size : Nat
  texts : Nat → ByteArray
  dirty : Nat → Bool
structure RVm where
  size : Nat
  texts : Nat → ByteArray
  dirty : Nat → Bool
  time : Nat
  next : Nat
  snaps : List RSn

def rsArr (s : RSn) : Array Value := #[.int .i64 s.id, .int .i64 s.time, .int .i64 s.size, .string (s.texts 0), .string (s.texts 1), .string (s.texts 2), .string (s.texts 3), .string (s.texts 4), .string (s.texts 5), .string (s.texts 6), .string (s.texts 7), .string (s.texts 8), .string (s.texts 9), .string (s.texts 10), .string (s.texts 11), .string (s.texts 12), .string (s.texts 13), .string (s.texts 14), .string (s.texts 15), .bool (s.dirty 0), .bool (s.dirty 1), .bool (s.dirty 2), .bool (s.dirty 3), .bool (s.dirty 4), .bool (s.dirty 5), .bool (s.dirty 6), .bool (s.dirty 7), .bool (s.dirty 8), .bool (s.dirty 9), .bool (s.dirty 10), .bool (s.dirty 11), .bool (s.dirty 12), .bool (s.dirty 13), .bool (s.dirty 14), .bool (s.dirty 15)]
def rvArr (D : RVm) (sv : Value) : Array Value := #[.int .i64 D.size, .string (D.texts 0), .string (D.texts 1), .string (D.texts 2), .string (D.texts 3), .string (D.texts 4), .string (D.texts 5), .string (D.texts 6), .string (D.texts 7), .string (D.texts 8), .string (D.texts 9), .string (D.texts 10), .string (D.texts 11), .string (D.texts 12), .string (D.texts 13), .string (D.texts 14), .string (D.texts 15), .bool (D.dirty 0), .bool (D.dirty 1), .bool (D.dirty 2), .bool (D.dirty 3), .bool (D.dirty 4), .bool (D.dirty 5), .bool (D.dirty 6), .bool (D.dirty 7), .bool (D.dirty 8), .bool (D.dirty 9), .bool (D.dirty 10), .bool (D.dirty 11), .bool (D.dirty 12), .bool (D.dirty 13), .bool (D.dirty 14), .bool (D.dirty 15), .int .i64 D.time, .int .i64 D.next, sv]
def txtArr (t : Nat → ByteArray) : Array Value := #[.string (t 0), .string (t 1), .string (t 2), .string (t 3), .string (t 4), .string (t 5), .string (t 6), .string (t 7), .string (t 8), .string (t 9), .string (t 10), .string (t 11), .string (t 12), .string (t 13), .string (t 14), .string (t 15)]

theorem rsArr_size (s : RSn) : (rsArr s).size = 35 := rfl
theorem rvArr_size (D : RVm) (sv : Value) : (rvArr D sv).size = 36 := rfl
theorem rsArr_text (s : RSn) {i : Nat} (hi : i < 16) : (rsArr s)[3 + i]? = some (.string (s.texts i)) := by
  rcases cases16 hi with rfl | rfl | rfl | rfl | rfl | rfl | rfl | rfl | rfl | rfl | rfl | rfl | rfl | rfl | rfl | rfl <;> rfl
theorem rsArr_dirty (s : RSn) {i : Nat} (hi : i < 16) : (rsArr s)[19 + i]? = some (.bool (s.dirty i)) := by
  rcases cases16 hi with rfl | rfl | rfl | rfl | rfl | rfl | rfl | rfl | rfl | rfl | rfl | rfl | rfl | rfl | rfl | rfl <;> rfl
theorem rvArr_text (D : RVm) (sv : Value) {i : Nat} (hi : i < 16) : (rvArr D sv)[1 + i]? = some (.string (D.texts i)) := by
  rcases cases16 hi with rfl | rfl | rfl | rfl | rfl | rfl | rfl | rfl | rfl | rfl | rfl | rfl | rfl | rfl | rfl | rfl <;> rfl
theorem rvArr_dirty (D : RVm) (sv : Value) {i : Nat} (hi : i < 16) : (rvArr D sv)[17 + i]? = some (.bool (D.dirty i)) := by
  rcases cases16 hi with rfl | rfl | rfl | rfl | rfl | rfl | rfl | rfl | rfl | rfl | rfl | rfl | rfl | rfl | rfl | rfl <;> rfl
def setMark (m : Nat → Bool) (k : Nat) (b : Bool) : Nat → Bool := fun i => if i = k then b else m i
theorem rvArr_setText (D : RVm) (sv : Value) {k : Nat} (hk : k < 16) (s : ByteArray) : (rvArr D sv).setIfInBounds (1 + k) (.string s) = rvArr { D with texts := setText D.texts k s } sv := by
  rcases cases16 hk with rfl | rfl | rfl | rfl | rfl | rfl | rfl | rfl | rfl | rfl | rfl | rfl | rfl | rfl | rfl | rfl <;> rfl
theorem rvArr_setDirty (D : RVm) (sv : Value) {k : Nat} (hk : k < 16) (b : Bool) : (rvArr D sv).setIfInBounds (17 + k) (.bool b) = rvArr { D with dirty := setMark D.dirty k b } sv := by
  rcases cases16 hk with rfl | rfl | rfl | rfl | rfl | rfl | rfl | rfl | rfl | rfl | rfl | rfl | rfl | rfl | rfl | rfl <;> rfl
theorem rsArr_setDirty (s : RSn) {k : Nat} (hk : k < 16) (b : Bool) : (rsArr s).toList.set (19 + k) (.bool b) = (rsArr { s with dirty := setMark s.dirty k b }).toList := by
  rcases cases16 hk with rfl | rfl | rfl | rfl | rfl | rfl | rfl | rfl | rfl | rfl | rfl | rfl | rfl | rfl | rfl | rfl <;> rfl
theorem rvArr_setSize (D : RVm) (sv : Value) (n : Nat) : (rvArr D sv).setIfInBounds 0 (.int .i64 (n : Int)) = rvArr { D with size := n } sv := rfl
theorem rvArr_setTime (D : RVm) (sv : Value) (n : Nat) : (rvArr D sv).setIfInBounds 33 (.int .i64 (n : Int)) = rvArr { D with time := n } sv := rfl
theorem rvArr_setNext (D : RVm) (sv : Value) (n : Nat) : (rvArr D sv).setIfInBounds 34 (.int .i64 (n : Int)) = rvArr { D with next := n } sv := rfl
theorem rvArr_setSnaps (D : RVm) (sv sv' : Value) : (rvArr D sv).setIfInBounds 35 sv' = rvArr D sv' := rfl
theorem rvArr_cutT (D : RVm) (sv : Value) : cut (rvArr D sv) 1 16 = txtArr D.texts := rfl
theorem rvArr_cutM (D : RVm) (sv : Value) : cut (rvArr D sv) 17 16 = mArr D.dirty := rfl
theorem rvArr_spliceM (D : RVm) (sv : Value) (m : Nat → Bool) : splice (rvArr D sv) 17 (mArr m) = rvArr { D with dirty := m } sv := rfl

/-- The cells of snapshots. -/
def rsCells (L : List RSn) : List Value := L.flatMap fun s => (rsArr s).toList
theorem rsCells_length (L : List RSn) : (rsCells L).length = L.length * 35 := flat_length _ _ L (fun _ _ => rfl)
theorem rsCells_get (L : List RSn) (i : Nat) (h : i < L.length) (j : Nat) (v : Value) (hj : (rsArr L[i])[j]? = some v) : (rsCells L)[i * 35 + j]? = some v :=
  flat_cell (fun s => (rsArr s).toList) 35 L (fun _ _ => rfl) i h j v (by rw [Array.getElem?_toList]; exact hj)
theorem rsCells_append (L R : List RSn) : rsCells (L ++ R) = rsCells L ++ rsCells R := by simp [rsCells]
theorem rsCells_one (L : List RSn) : ∀ v ∈ rsCells L, v.oneCell' = true := by
  intro v hv
  simp only [rsCells, List.mem_flatMap] at hv
  obtain ⟨s, _, hv⟩ := hv
  simp [rsArr] at hv
  rcases hv with rfl | rfl | rfl | rfl | rfl | rfl | rfl | rfl | rfl | rfl | rfl | rfl | rfl | rfl | rfl | rfl | rfl | rfl | rfl | rfl | rfl | rfl | rfl | rfl | rfl | rfl | rfl | rfl | rfl | rfl | rfl | rfl | rfl | rfl | rfl <;> rfl

/-- What the document's disk keeps to. -/
structure RVm.Ok (D : RVm) : Prop where
  size : 1 ≤ D.size ∧ D.size ≤ 16
  next : 1 ≤ D.next ∧ D.next ≤ 1000
  few : D.snaps.length ≤ 5
  sizes : ∀ s ∈ D.snaps, 1 ≤ s.size ∧ s.size ≤ 16

/-- The document's disk at block g. -/
structure RVAt (B : Nat) (w : World) (g : Nat) (D : RVm) : Prop where
  base : B ≤ g
  ok : D.Ok
  mem : ∃ sv, w.heap[g]? = some (.cells (rvArr D sv) 60 (0, 0)) ∧ w.ownsRow B 73 35 sv D.snaps.length (rsCells D.snaps)

abbrev rvTypes : List TypeId := [60, 73]
theorem RVAt.lt {B g : Nat} {w : World} {D : RVm} (h : RVAt B w g D) : g < w.heap.size := by
  obtain ⟨sv, hg, _⟩ := h.mem
  exact (Array.getElem?_eq_some_iff.1 hg).1
theorem row_step {B b0 : Nat} {ts : List TypeId} {w w' : World} {e : TypeId} {size : Nat} {v : Value} {n : Nat} {xs : List Value} (h : w.ownsRow b0 e size v n xs) (hs : Step B ts w w') (ht : e ∉ ts) : w'.ownsRow b0 e size v n xs := by
  obtain ⟨h1, h2⟩ := h
  refine ⟨h1, ?_⟩
  rcases h2 with h2 | ⟨g, cap, cur, hv, hg, hh, r⟩
  · exact .inl h2
  · exact .inr ⟨g, cap, cur, hv, hg, hs.other _ _ _ _ hh ht, r⟩
theorem RVAt.step {B B' g : Nat} {ts : List TypeId} {w w' : World} {D : RVm} (h : RVAt B w g D) (hs : Step B' ts w w') (h1 : 60 ∉ ts) (h2 : 73 ∉ ts) : RVAt B w' g D := by
  obtain ⟨sv, hg, hO⟩ := h.mem
  exact ⟨h.base, h.ok, sv, hs.other _ _ _ _ hg h1, row_step hO hs h2⟩
theorem RVAt.below {B g : Nat} {w w' : World} {D : RVm} (h : RVAt B w g D) (hb : Below w.heap.size w w') : RVAt B w' g D :=
  h.step (Step.of_below (B := 0) (ts := []) hb (Nat.zero_le _)) (by simp) (by simp)
/-- A cell of a snapshot, and of the disk. -/
theorem rs_cell {w : World} {B gb n c : Nat} {L : List RSn} (hO : w.ownsRow B 73 35 (.slice (some ⟨gb, 0, none⟩) n c) n (rsCells L)) (hn : L.length = n) (i : Nat) (h : i < L.length) (j : Nat) (v : Value) (hj : (rsArr L[i])[j]? = some v) : w.cell? ⟨gb, i * 35 + j, none⟩ = some v := by
  have hj35 : j < 35 := by
    have := (Array.getElem?_eq_some_iff.1 hj).1
    rw [rsArr_size] at this; exact this
  rw [hO.cellAt (i * 35 + j) (by have : (i + 1) * 35 ≤ n * 35 := Nat.mul_le_mul_right _ (by omega)
                                 omega), rsCells_get L i h j v hj]
theorem rv_form {w : World} {B g : Nat} {D : RVm} (h : RVAt B w g D) : ∃ A c, w.heap[g]? = some (.cells (rvArr D (.slice A D.snaps.length c)) 60 (0, 0)) ∧ w.ownsRow B 73 35 (.slice A D.snaps.length c) D.snaps.length (rsCells D.snaps) ∧ (0 < D.snaps.length → ∃ gb, A = some ⟨gb, 0, none⟩) := by
  obtain ⟨sv, hg, hO⟩ := h.mem
  rcases ownsRow_form hO with ⟨A, c, rfl, h0⟩ | ⟨gb, c, rfl, hp⟩
  · exact ⟨A, c, by rw [h0]; exact hg, by rw [h0] at hO ⊢; exact hO, fun hp => by omega⟩
  · exact ⟨_, c, hg, hO, fun _ => ⟨gb, rfl⟩⟩
end Go.Proofs.Ytmcoenndfbgdfaa
