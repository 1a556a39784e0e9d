/- Arguments that are slices of areas, opened to lists. -/
import Derived.Test.YtdgmmmjhajbbeaaCheck
import Derived.Test.YtdgmmmjhajbbeaaOpenB
namespace Go.Proofs.Ytdgmmmjhajbbeaa
open Go.ChangeShapes Go.WideShapes Go.ChangeAt Go.RowKit Go.Deep

theorem Try.cellsArea : Try.prog.cellsOf 76 = 2 := by kernel_rfl

theorem open_areas {H : Type} {enc : TypeId × Value → H} {W : World} {base : Nat} {spare : Nat → Bool} {held : Bool} {A : Option Addr} {len cap : Nat} {d : DataW H} {p : List MemPlace}
    (h : DataW.Trod enc Try.prog W base spare held 22 (.slice A len cap) d p) : ∃ l : List Ar, l.length = len ∧ AreasAt W W.heap.size A l ∧ Wf l := by
  obtain ⟨fuel, hf⟩ := h
  rcases open_slice_pairs Try.underlying22 Try.underlying76 Try.cellsArea rfl rfl Try.cellsInt Try.cellsInt hf with ⟨hcs, _⟩ | ⟨a, len', cap', m, n, V0, V1, D0, D1, P0, P1, hcs, _, hl, hm, hmm, _, hx⟩
  · simp [Value.cells] at hcs
    obtain ⟨rfl, rfl, rfl⟩ := hcs
    exact ⟨[], rfl, AreasAt.nil _ _ _, fun k hk => by simp at hk⟩
  · simp [Value.cells] at hcs
    obtain ⟨rfl, rfl, rfl⟩ := hcs
    have hlm : len ≤ m := by rw [hmm]; split <;> omega
    have each : ∀ i, i < len → ∃ q : Ar, W.cell? (a.add (i * 2)) = some (.int .i64 q.1) ∧ W.cell? (a.add (i * 2 + 1)) = some (.int .i64 q.2) ∧ (Lit.int .i64 q.1).wf = true ∧ (Lit.int .i64 q.2).wf = true := by
      intro i hi
      obtain ⟨h1, h2, h3, h4⟩ := hx i (by omega)
      obtain ⟨x, e0, _, wx⟩ := DataW.trod_int Try.underlying3 h3
      obtain ⟨y, e1, _, wy⟩ := DataW.trod_int Try.underlying3 h4
      simp at e0 e1
      exact ⟨(x, y), by rw [h1, e0], by rw [h2, e1], wx, wy⟩
    obtain ⟨q, hq⟩ := choose_lt each
    refine ⟨(List.range len).map q, by simp, fun i hi => ?_, fun k hk => ?_⟩
    · have hi' : i < len := by simpa using hi
      obtain ⟨c1, c2, _, _⟩ := hq i hi'
      obtain ⟨b, off, rfl⟩ := addr_zero (by simpa using (hq 0 (by omega)).1)
      rw [add_lit'] at c1 c2
      refine ⟨b, off, rfl, World.block_lt_of_cell? W _ c1, by simpa using c1, ?_⟩
      rw [Nat.add_assoc]
      simpa using c2
    · have hk' : k < len := by simpa using hk
      obtain ⟨_, _, w1, w2⟩ := hq k hk'
      have b1 := wf_i64 w1
      have b2 := wf_i64 w2
      simpa using ⟨b1.1, b1.2, b2.1, b2.2⟩
end Go.Proofs.Ytdgmmmjhajbbeaa
