/- Arguments that are slices of numbers, opened to lists. -/
import Derived.Test.YtnnnmpfkpckgbaaNums
import Derived.Test.YtnnnmpfkpckgbaaOpenB
import Derived.ChangeSlices
namespace Go.Proofs.Ytnnnmpfkpckgbaa
open Go.ChangeShapes Go.WideShapes Go.ChangeAt Go.RowKit Go.Deep

theorem open_nums {H : Type} {enc : TypeId × Value → H} {W : World} {base : Nat} {spare : Nat → Bool} {held : Bool} {A : Option Addr} {len cap : Nat} {d : DataW H} {p : List MemPlace}
    (h : DataW.Trod enc Try.prog W base spare held 26 (.slice A len cap) d p) : ∃ l : List Int, l.length = len ∧ IntsAt W A l ∧ l.length ≤ maxLen := by
  obtain ⟨fuel, hf⟩ := h
  rcases open_ints Try.underlying26 Try.underlying3 Try.cellsInt hf with ⟨hcs, _⟩ | ⟨a, len', cap', zs, hcs, _, hl, hm, hzl, _, hz, _⟩
  · simp [Value.cells] at hcs
    obtain ⟨rfl, rfl, rfl⟩ := hcs
    exact ⟨[], rfl, fun i hi => absurd hi (by simp), by simp⟩
  · simp [Value.cells] at hcs
    obtain ⟨rfl, rfl, rfl⟩ := hcs
    have hlz : len ≤ zs.length := by rw [hzl]; split <;> omega
    refine ⟨zs.take len, by simp; omega, fun i hi => ?_, by simp; omega⟩
    have hi' : i < len := by simp at hi; omega
    have hc := hz i (by omega)
    obtain ⟨b, off, rfl⟩ := addr_zero (by simpa using hz 0 (by omega))
    rw [add_lit'] at hc
    refine ⟨b, off, rfl, ?_⟩
    rw [hc]
    simp [List.getD, List.getElem?_eq_getElem (show i < zs.length by omega)]
end Go.Proofs.Ytnnnmpfkpckgbaa
