/- Words for memory: areas that lie in memory, marks that lie in memory, and how they are kept. -/
import Derived.Test.YtmcoenndfbgdfaaBase
import Derived.Test.YtmcoenndfbgdfaaMathA
namespace Go.Proofs.Ytmcoenndfbgdfaa
open Go.RowKit

/-- Each area lies within the blocks that a disk can have. -/
def Bd (l : List Ar) : Prop := ∀ k, (h : k < l.length) → 0 ≤ l[k].1 ∧ 1 ≤ l[k].2 ∧ l[k].1 + l[k].2 ≤ 16

theorem ValidFrom.bd {lo : Int} {l : List Ar} (h : ValidFrom lo l) (h0 : 0 ≤ lo) : Bd l := by
  induction l generalizing lo with
  | nil => intro k hk; simp at hk
  | cons a r ih =>
    obtain ⟨h1, h2, h3, h4⟩ := h
    intro k hk
    cases k with
    | zero => exact ⟨by simp; omega, by simpa using h2, by simpa using h3⟩
    | succ k => simpa using ih h4 (by omega) k (by simpa using hk)

/-- A list of areas, as a slice of structs of two ints lies in memory below block B. -/
def AreasAt (w : World) (B : Nat) (A : Option Addr) (l : List Ar) : Prop :=
  ∀ i, (h : i < l.length) → ∃ b off, A = some ⟨b, off, none⟩ ∧ b < B ∧ w.cell? ⟨b, off + i * 2, none⟩ = some (.int .i64 l[i].1) ∧ w.cell? ⟨b, off + i * 2 + 1, none⟩ = some (.int .i64 l[i].2)

theorem AreasAt.keep {w w' : World} {B : Nat} {A : Option Addr} {l : List Ar} (h : AreasAt w B A l) (hk : ∀ b off, A = some ⟨b, off, none⟩ → b < B → w'.heap[b]? = w.heap[b]?) : AreasAt w' B A l := by
  intro i hi
  obtain ⟨b, off, e, hlt, h1, h2⟩ := h i hi
  have hk' := hk b off e hlt
  exact ⟨b, off, e, hlt, by rw [World.cell?_of_block (w := w) (a := ⟨b, off + i * 2, none⟩) hk']; exact h1, by rw [World.cell?_of_block (w := w) (a := ⟨b, off + i * 2 + 1, none⟩) hk']; exact h2⟩

theorem AreasAt.below {w w' : World} {B : Nat} {A : Option Addr} {l : List Ar} (h : AreasAt w B A l) (hb : Below B w w') : AreasAt w' B A l := h.keep fun b _ _ hlt => hb.block b hlt

theorem AreasAt.mono {w : World} {B B' : Nat} {A : Option Addr} {l : List Ar} (h : AreasAt w B A l) (hB : B ≤ B') : AreasAt w B' A l := fun i hi => by
  obtain ⟨b, off, e, hlt, h1, h2⟩ := h i hi
  exact ⟨b, off, e, by omega, h1, h2⟩

theorem AreasAt.nil (w : World) (B : Nat) (A : Option Addr) : AreasAt w B A [] := fun i hi => absurd hi (by simp)

/-- The cells of a list of areas. -/
def arCells (l : List Ar) : List Value := l.flatMap fun a => [.int .i64 a.1, .int .i64 a.2]

theorem arCells_length (l : List Ar) : (arCells l).length = l.length * 2 := by
  induction l with
  | nil => rfl
  | cons a r ih => simp only [arCells, List.flatMap_cons, List.length_append, List.length_cons, List.length_nil] at *; omega

theorem arCells_append (l r : List Ar) : arCells (l ++ r) = arCells l ++ arCells r := by simp [arCells]
theorem arCells_one (a : Ar) : arCells [a] = [.int .i64 a.1, .int .i64 a.2] := rfl

theorem arCells_at (l : List Ar) (i : Nat) (h : i < l.length) : (arCells l)[i * 2]? = some (.int .i64 l[i].1) ∧ (arCells l)[i * 2 + 1]? = some (.int .i64 l[i].2) := by
  induction l generalizing i with
  | nil => simp at h
  | cons a r ih =>
    cases i with
    | zero => exact ⟨rfl, rfl⟩
    | succ i =>
      have e1 : (i + 1) * 2 = i * 2 + 2 := by omega
      have := ih i (by simpa using h)
      rw [e1]
      simpa [arCells] using this

/-- The areas of a slice that the call has made. -/
def OwnAr (w : World) (base : Nat) (v : Value) (l : List Ar) : Prop := w.ownsRow base 76 2 v l.length (arCells l)

theorem OwnAr.at_ {w : World} {base : Nat} {v : Value} {l : List Ar} (h' : OwnAr w base v l) : ∃ A c, v = .slice A l.length c ∧ AreasAt w w.heap.size A l ∧ (∀ b off, A = some ⟨b, off, none⟩ → base ≤ b) := by
  have h : w.ownsRow base 76 2 v l.length (arCells l) := h'
  rcases h.2 with ⟨rfl, h0⟩ | ⟨g, cap, cur, rfl, hb, hg, hn, hm, hs, ht⟩
  · exact ⟨none, 0, by rw [h0], fun i hi => absurd hi (by omega), fun b off e => by cases e⟩
  · refine ⟨_, cap, rfl, fun i hi => ⟨g, 0, rfl, (Array.getElem?_eq_some_iff.1 hg).1, ?_, ?_⟩, fun b off e => by cases e; exact hb⟩
    · rw [Nat.zero_add, h.cellAt (i * 2) (by omega)]; exact (arCells_at l i hi).1
    · rw [Nat.zero_add, h.cellAt (i * 2 + 1) (by omega)]; exact (arCells_at l i hi).2

/-- A call that answers areas in new memory and leaves all else as it was. -/
def RetAr (w : World) (l : List Ar) (e : Ending) (w' : World) : Prop := ∃ v, e = .returned v ∧ OwnAr w' w.heap.size v l ∧ Below w.heap.size w w'

/-- Marks of blocks in memory. -/
def MarksAt (w : World) (g : Nat) (m : Nat → Bool) : Prop := ∀ i, i < 16 → w.cell? ⟨g, i, none⟩ = some (.bool (m i)) ∧ w.frozen? ⟨g, i, none⟩ = false

theorem MarksAt.lt {w : World} {g : Nat} {m : Nat → Bool} (h : MarksAt w g m) : g < w.heap.size := World.block_lt_of_cell? w ⟨g, 0, none⟩ (h 0 (by omega)).1

theorem MarksAt.keep {w w' : World} {g : Nat} {m : Nat → Bool} (h : MarksAt w g m) (hk : w'.heap[g]? = w.heap[g]?) : MarksAt w' g m := fun i hi =>
  ⟨by rw [World.cell?_of_block (w := w) (a := ⟨g, i, none⟩) hk]; exact (h i hi).1, by rw [World.frozen?_of_block (w := w) (a := ⟨g, i, none⟩) hk]; exact (h i hi).2⟩

theorem MarksAt.congr {w : World} {g : Nat} {m m' : Nat → Bool} (h : MarksAt w g m) (e : ∀ i, i < 16 → m i = m' i) : MarksAt w g m' := fun i hi => by rw [← e i hi]; exact h i hi

theorem MarksAt.set {w : World} {g : Nat} {m : Nat → Bool} (h : MarksAt w g m) (k : Nat) (b : Bool) : MarksAt (w.setCell ⟨g, k, none⟩ (.bool b)) g (fun i => if i = k then b else m i) := fun i hi => by
  refine ⟨?_, ?_⟩
  · by_cases e : i = k
    · subst e; simp only [if_true]
      have := (h i hi).1
      rw [World.cell?_setCell_same w _ _ this]
    · simp only [if_neg e]
      rw [World.cell?_setCell_other w _ _ _ (fun x => e (by injection x with _ y _; exact y.symm))]
      exact (h i hi).1
  · rw [World.frozen?_setCell]; exact (h i hi).2

end Go.Proofs.Ytmcoenndfbgdfaa
