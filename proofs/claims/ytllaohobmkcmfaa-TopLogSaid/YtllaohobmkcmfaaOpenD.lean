/- Arguments that are lists of entries, opened. -/
import Derived.Test.YtllaohobmkcmfaaOpenC
import Derived.Test.YtllaohobmkcmfaaTl1
namespace Go.Proofs.Ytllaohobmkcmfaa
open Go.ChangeShapes Go.WideShapes Go.ChangeAt Go.RowKit Go.Deep

theorem Try.cellsChsD : Try.prog.cellsOf 45 = 1 := by kernel_rfl

section
variable {H : Type} {enc : TypeId × Value → H} {W : World} {base : Nat} {spare : Nat → Bool} {held : Bool}

theorem open_chsV {fuel : Nat} {cs : List Value} {x : DataW H × List MemPlace} (h : DataW.trod enc Try.prog W base spare held fuel 45 cs = some x) : ∃ A c, ∃ l : List Ch, cs = [.slice A l.length c] ∧ ChsAt W A l ∧ l.length ≤ maxLen := by
  have hcs : ∃ A n c, cs = [Value.slice A n c] := by
    rcases open_slice Try.underlying45 h with ⟨hcs, _⟩ | ⟨a, len, cap, m, n, D, Pl, hcs, _⟩
    · exact ⟨none, 0, 0, hcs⟩
    · exact ⟨some a, len, cap, hcs⟩
  obtain ⟨A, n, c, rfl⟩ := hcs
  obtain ⟨l, hl, hA, hm, _⟩ := open_chs (A := A) (len := n) (cap := c) (d := x.1) (p := x.2) ⟨fuel, by simpa [Value.cells] using h⟩
  subst hl
  exact ⟨A, c, l, rfl, hA, hm⟩

set_option maxRecDepth 10000 in
theorem open_deeds {A : Option Addr} {len cap : Nat} {d : DataW H} {p : List MemPlace} (h : DataW.Trod enc Try.prog W base spare held 33 (.slice A len cap) d p) :
    ∃ L : List (List Ch), L.length = len ∧ DeedsIn W A L ∧ L.length ≤ maxLen ∧ ∀ x ∈ L, x.length ≤ maxLen := by
  obtain ⟨fuel, hf⟩ := h
  rcases open_slice Try.underlying33 hf with ⟨hcs, _⟩ | ⟨a, len', cap', m, n, D, Pl, hcs, _, hl, hm, hmm, _, hx⟩
  · simp [Value.cells] at hcs
    obtain ⟨rfl, rfl, rfl⟩ := hcs
    exact ⟨[], rfl, fun i hi => by simp at hi, by simp, by simp⟩
  · simp [Value.cells] at hcs
    obtain ⟨rfl, rfl, rfl⟩ := hcs
    have hlm : len ≤ m := by rw [hmm]; split <;> omega
    rw [Try.cellsChsD] at hx
    have each : ∀ i, i < len → ∃ q : List Ch, (∃ b off Ai ci, some a = some (⟨b, off, none⟩ : Addr) ∧ b < W.heap.size ∧ W.cell? ⟨b, off + i, none⟩ = some (.slice Ai q.length ci) ∧ ChsAt W Ai q) ∧ q.length ≤ maxLen := by
      intro i hi
      obtain ⟨cs0, h10, _⟩ := hx 0 (by omega)
      obtain ⟨_, hlen0, hcell0⟩ := World.cells?_some h10
      have := hcell0 0 (by omega)
      simp only [Nat.zero_mul] at this
      rw [add_add, Nat.add_zero] at this
      obtain ⟨v, hv⟩ : ∃ v, cs0[0]? = some v := ⟨_, List.getElem?_eq_getElem (by omega)⟩
      rw [hv] at this
      obtain ⟨b, off, rfl⟩ := addr_zero this
      obtain ⟨cs', h1, h2⟩ := hx i (by omega)
      obtain ⟨_, hlen, hcell⟩ := World.cells?_some h1
      obtain ⟨Ai, ci, q, rfl, hA, hq⟩ := open_chsV h2
      have c0 := hcell 0 (by omega)
      rw [add_add, add_lit'] at c0
      simp at c0
      exact ⟨q, ⟨b, off, Ai, ci, rfl, World.block_lt_of_cell? W _ c0, c0, hA⟩, hq⟩
    obtain ⟨q, hq⟩ := choose_lt each
    refine ⟨(List.range len).map q, by simp, fun i hi => ?_, by simp; omega, fun x hx' => ?_⟩
    · have hi' : i < len := by simpa using hi
      obtain ⟨⟨b, off, Ai, ci, e, r⟩, _⟩ := hq i hi'
      exact ⟨b, off, Ai, ci, e, by simpa using r⟩
    · obtain ⟨i, hi, rfl⟩ := List.mem_map.1 hx'
      exact (hq i (List.mem_range.1 hi)).2
end
end Go.Proofs.Ytllaohobmkcmfaa
