/- What a call leaves of memory: below a block all is as it was, and so are all rows of types that are not named. -/
import Derived.Test.YtmcoenndfbgdfaaBase
import Derived.Test.YtmcoenndfbgdfaaLaws
import Derived.Laws.CopyOwn
namespace Go.Proofs.Ytmcoenndfbgdfaa
open Go.RowKit

/-- Memory behind a step: below block B all is as it was, and so are all rows of types that are not named. -/
structure Step (B : Nat) (ts : List TypeId) (w w' : World) : Prop where
  below : Below B w w'
  other : ∀ (k : Nat) (cs : Array Value) (t : TypeId) (fr : Nat × Nat), w.heap[k]? = some (Obj.cells cs t fr) → t ∉ ts → w'.heap[k]? = some (Obj.cells cs t fr)

theorem Step.refl (B : Nat) (ts : List TypeId) (w : World) : Step B ts w w := ⟨Below.refl _ _, fun _ _ _ _ h _ => h⟩
theorem Step.trans {B : Nat} {ts : List TypeId} {a b c : World} (h : Step B ts a b) (k : Step B ts b c) : Step B ts a c :=
  ⟨h.below.trans k.below, fun i cs t fr e ht => k.other i cs t fr (h.other i cs t fr e ht) ht⟩
theorem Step.of_below {B : Nat} {ts : List TypeId} {a b : World} (h : Below a.heap.size a b) (hB : B ≤ a.heap.size) : Step B ts a b :=
  ⟨h.mono hB, fun k cs t fr e _ => by rw [h.block k (Array.getElem?_eq_some_iff.1 e).1]; exact e⟩
theorem Step.alloc {B : Nat} {ts : List TypeId} {a b : World} (h : Step B ts a b) (hB : B ≤ b.heap.size) (o : Obj) : Step B ts a (b.alloc o) :=
  h.trans (Step.of_below ((Below.refl _ _).alloc (Nat.le_refl _) o) hB)
theorem Step.drew {B : Nat} {ts : List TypeId} {a b : World} (h : Step B ts a b) : Step B ts a b.drew := ⟨h.below.drew, h.other⟩
theorem Step.drewN {B : Nat} {ts : List TypeId} {a b : World} (h : Step B ts a b) (n : Nat) : Step B ts a (b.drewN n) := ⟨below_drewN h.below n, h.other⟩
theorem Step.mono {B B' : Nat} {ts ts' : List TypeId} {a b : World} (h : Step B ts a b) (hB : B' ≤ B) (hts : ∀ t ∈ ts, t ∈ ts') : Step B' ts' a b :=
  ⟨h.below.mono hB, fun k cs t fr e ht => h.other k cs t fr e (fun h => ht (hts t h))⟩
theorem Step.size {B : Nat} {ts : List TypeId} {a b : World} (h : Step B ts a b) : a.heap.size ≤ b.heap.size := h.below.size

/-- A store into a row of a named type. -/
theorem Step.set {B : Nat} {ts : List TypeId} {a b : World} (h : Step B ts a b) {g i : Nat} {cs : Array Value} {t : TypeId} {fr : Nat × Nat} (hg : b.heap[g]? = some (.cells cs t fr)) (hB : B ≤ g) (ht : t ∈ ts) (u : Value) : Step B ts a (b.setCell ⟨g, i, none⟩ u) := by
  refine h.trans ⟨(Below.refl _ _).setCell (p := ⟨g, i, none⟩) hB u, fun k cs' t' fr' e ht' => ?_⟩
  rw [Below.heap_setCell _ _ _ _ (show k ≠ g by rintro rfl; rw [hg] at e; injection e with e; injection e with _ e _; exact ht' (e ▸ ht))]
  exact e
theorem Step.row {B : Nat} {ts : List TypeId} {a b : World} (h : Step B ts a b) {g : Nat} {cs : Array Value} {t : TypeId} {fr : Nat × Nat} (hg : b.heap[g]? = some (.cells cs t fr)) (hB : B ≤ g) (ht : t ∈ ts) (cs' : Array Value) : Step B ts a (b.setRow g cs') := by
  refine h.trans ⟨below_setRow (Below.refl _ _) hB cs', fun k cs' t' fr' e ht' => ?_⟩
  rw [setRow_other _ _ _ _ (show k ≠ g by rintro rfl; rw [hg] at e; injection e with e; injection e with _ e _; exact ht' (e ▸ ht))]
  exact e
theorem Step.grown {B : Nat} {ts : List TypeId} {a b c : World} (h : Step B ts a b) {row : Option Nat} (hg : b.grownBy c row) (hB : B ≤ b.heap.size) (hr : ∀ k, row = some k → B ≤ k ∧ ∃ (cs : Array Value) (t : TypeId) (fr : Nat × Nat), b.heap[k]? = some (Obj.cells cs t fr) ∧ t ∈ ts) : Step B ts a c := by
  refine h.trans ⟨Below.grown (Below.refl _ _) hg hB (fun k e => (hr k e).1), fun k cs t fr e ht => ?_⟩
  rw [hg.block k (Array.getElem?_eq_some_iff.1 e).1 (fun x => by
    obtain ⟨_, cs', t', fr', e', ht'⟩ := hr k x.symm
    rw [e] at e'; injection e' with e'; injection e' with _ e' _; exact ht (e' ▸ ht'))]
  exact e

theorem types_ne {w : World} {g gb : Nat} {cs cs' : Array Value} {t t' : TypeId} {fr fr' : Nat × Nat} (h : w.heap[g]? = some (Obj.cells cs t fr)) (h' : w.heap[gb]? = some (Obj.cells cs' t' fr')) (ht : t ≠ t') : g ≠ gb := by
  rintro rfl; rw [h] at h'; injection h' with h'; injection h' with _ h' _; exact ht h'

theorem ownsRow_form {w : World} {B : Nat} {e : TypeId} {size : Nat} {v : Value} {n : Nat} {xs : List Value} (h : w.ownsRow B e size v n xs) : (∃ A c, v = .slice A 0 c ∧ n = 0) ∨ ∃ gb c, v = .slice (some ⟨gb, 0, none⟩) n c ∧ 0 < n := by
  rcases h.2 with ⟨h', h0⟩ | ⟨g', cap', cur, h', _⟩
  · exact .inl ⟨none, 0, h', h0⟩
  · cases n with
    | zero => exact .inl ⟨_, _, h', rfl⟩
    | succ n => exact .inr ⟨_, _, h', by omega⟩

end Go.Proofs.Ytmcoenndfbgdfaa
