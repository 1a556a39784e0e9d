/- Arguments that are lists of texts, opened. -/
import Derived.Test.YtllaohobmkcmfaaActs
import Derived.Test.YtllaohobmkcmfaaOpenC
namespace Go.Proofs.Ytllaohobmkcmfaa
open Go.ChangeShapes Go.WideShapes Go.ChangeAt Go.RowKit Go.Deep

/-- Texts that a call is handed. -/
def TextsIn (w : World) (A : Option Addr) (l : List ByteArray) : Prop := ∀ i, (hi : i < l.length) → ∃ b off, A = some ⟨b, off, none⟩ ∧ b < w.heap.size ∧ w.cell? ⟨b, off + i, none⟩ = some (.string l[i])
theorem TextsIn.below {w w' : World} {A : Option Addr} {l : List ByteArray} (h : TextsIn w A l) (hb : Below w.heap.size w w') : TextsIn w' A l := fun i hi => by
  obtain ⟨b, off, e, hlt, hc⟩ := h i hi
  have := hb.size
  exact ⟨b, off, e, by omega, (hb.cell (p := ⟨b, off + i, none⟩) hlt).trans hc⟩

section
variable {H : Type} {enc : TypeId × Value → H} {W : World} {base : Nat} {spare : Nat → Bool} {held : Bool}

set_option maxRecDepth 10000 in
theorem open_texts {A : Option Addr} {len cap : Nat} {d : DataW H} {p : List MemPlace} (h : DataW.Trod enc Try.prog W base spare held 22 (.slice A len cap) d p) :
    ∃ l : List ByteArray, l.length = len ∧ TextsIn W A l ∧ l.length ≤ maxLen ∧ ∀ x ∈ l, x.size ≤ maxLen := by
  obtain ⟨fuel, hf⟩ := h
  rcases open_slice Try.underlying22 hf with ⟨hcs, _⟩ | ⟨a, len', cap', m, n, D, Pl, hcs, _, hl, hm, hmm, _, hx⟩
  · simp [Value.cells] at hcs
    obtain ⟨rfl, rfl, rfl⟩ := hcs
    exact ⟨[], rfl, fun i hi => by simp at hi, by simp, by simp⟩
  · simp [Value.cells] at hcs
    obtain ⟨rfl, rfl, rfl⟩ := hcs
    have hlm : len ≤ m := by rw [hmm]; split <;> omega
    rw [Try.cellsStr] at hx
    have each : ∀ i, i < len → ∃ q : ByteArray, (∃ b off, some a = some (⟨b, off, none⟩ : Addr) ∧ b < W.heap.size ∧ W.cell? ⟨b, off + i, none⟩ = some (.string q)) ∧ q.size ≤ maxLen := by
      intro i hi
      obtain ⟨cs0, h10, _⟩ := hx 0 (by omega)
      obtain ⟨_, hlen0, hcell0⟩ := World.cells?_some h10
      have := hcell0 0 (by omega)
      simp only [Nat.zero_mul] at this
      rw [add_add, Nat.add_zero] at this
      obtain ⟨v, hv⟩ : ∃ v, cs0[0]? = some v := ⟨_, List.getElem?_eq_getElem (by omega)⟩
      rw [hv] at this
      obtain ⟨b, off, rfl⟩ := addr_zero this
      obtain ⟨cs', h1, h2⟩ := hx i (by omega)
      obtain ⟨_, hlen, hcell⟩ := World.cells?_some h1
      obtain ⟨q, rfl, _, hq⟩ := DataW.trod_string Try.underlying9 h2
      have c0 := hcell 0 (by omega)
      rw [add_add, add_lit'] at c0
      simp at c0
      exact ⟨q, ⟨b, off, rfl, World.block_lt_of_cell? W _ c0, c0⟩, hq⟩
    obtain ⟨q, hq⟩ := choose_lt each
    refine ⟨(List.range len).map q, by simp, fun i hi => ?_, by simp; omega, fun x hx' => ?_⟩
    · have hi' : i < len := by simpa using hi
      obtain ⟨⟨b, off, e, r⟩, _⟩ := hq i hi'
      exact ⟨b, off, e, by simpa using r⟩
    · obtain ⟨i, hi, rfl⟩ := List.mem_map.1 hx'
      exact (hq i (List.mem_range.1 hi)).2
end
end Go.Proofs.Ytllaohobmkcmfaa
