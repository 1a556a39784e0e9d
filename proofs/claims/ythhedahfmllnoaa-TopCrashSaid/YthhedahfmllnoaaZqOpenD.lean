/- Arguments that are lists of entries, opened. -/
import Derived.Test.YthhedahfmllnoaaZqRng
import Derived.Test.YthhedahfmllnoaaRows
import Derived.ProofKit
import Derived.OpenShut
import Derived.ShutString
import Derived.ChangeOld
import Derived.Deep.SlicePairs
import Derived.Test.YthhedahfmllnoaaZqCmp
import Derived.Test.YthhedahfmllnoaaZqSt13
/- Arguments opened: what all rows share. -/
namespace Go.Proofs.Ythhedahfmllnoaa
open Go.ChangeShapes Go.WideShapes Go.ChangeAt Go.RowKit Go.Deep

theorem Try.own : ownKnob Try.prog.godebug = none := by kernel_rfl
theorem Try.laidOut : laidOutB Try.prog = true := by kernel_rfl
theorem Try.cellsInt : Try.prog.cellsOf 3 = 1 := by kernel_rfl

theorem addr_zero {w : World} {a : Addr} {v : Value} (h : w.cell? (a.add 0) = some v) : ∃ b off, a = ⟨b, off, none⟩ := by
  obtain ⟨b, off, spot⟩ := a
  have : spot = none := by simpa [Addr.add] using World.cell?_spot h
  exact ⟨b, off, by rw [this]⟩

theorem add_lit' (b off n : Nat) : (⟨b, off, none⟩ : Addr).add n = ⟨b, off + n, none⟩ := by
  unfold Addr.add; split
  · rename_i h; subst h; rfl
  · rfl

theorem wf_i64 {n : Int} (h : (Lit.int .i64 n).wf = true) : -9223372036854775808 ≤ n ∧ n ≤ 9223372036854775807 := by
  have := bounds_i64 h
  omega
theorem wf_u64 {n : Int} (h : (Lit.int .u64 n).wf = true) : 0 ≤ n ∧ n < 18446744073709551616 := by
  have := bounds_u64 h
  omega
end Go.Proofs.Ythhedahfmllnoaa

/- Arguments that are changes, opened. -/
namespace Go.Proofs.Ythhedahfmllnoaa
open Go.ChangeShapes Go.WideShapes Go.ChangeAt Go.RowKit Go.Deep

theorem Try.cellsStrC : Try.prog.cellsOf 9 = 1 := by kernel_rfl
theorem Try.cellsChangeC : Try.prog.cellsOf 60 = 3 := by kernel_rfl
theorem Try.cellsBoolC : Try.prog.cellsOf 4 = 1 := by kernel_rfl

section
variable {H : Type} {enc : TypeId × Value → H} {W : World} {base : Nat} {spare : Nat → Bool} {held : Bool}

set_option maxRecDepth 10000 in
/-- The cells of one change. -/
theorem open_change {fuel : Nat} {cs : List Value} {x : DataW H × List MemPlace} (h : DataW.trod enc Try.prog W base spare held fuel 60 cs = some x) (hlen : cs.length = 3) : ∃ c : Ch, cs = [.string c.key, .string c.val, .bool c.gone] ∧ c.key.size ≤ maxLen ∧ c.val.size ≤ maxLen := by
  obtain ⟨xs, k, _, _, _, hxl, hf⟩ := DataW.trod_struct Try.underlying60 h
  have hxl : xs.length = 3 := hxl
  match xs, hxl, cs, hlen with
  | [y0, y1, y2], _, [v0, v1, v2], _ =>
    have g0 := hf 0 _ rfl
    have g1 := hf 1 _ rfl
    have g2 := hf 2 _ rfl
    simp [Try.cellsStrC, Try.cellsBoolC] at g0 g1 g2
    obtain ⟨s, e0, _, hs⟩ := DataW.trod_string Try.underlying9 g0
    obtain ⟨t, e1, _, ht⟩ := DataW.trod_string Try.underlying9 g1
    obtain ⟨q, e2, _⟩ := DataW.trod_bool Try.underlying4 g2
    simp at e0 e1 e2
    exact ⟨⟨s, t, q⟩, by rw [e0, e1, e2], hs, ht⟩

set_option maxRecDepth 10000 in
theorem open_chs {A : Option Addr} {len cap : Nat} {d : DataW H} {p : List MemPlace} (h : DataW.Trod enc Try.prog W base spare held 36 (.slice A len cap) d p) :
    ∃ l : List Ch, l.length = len ∧ ChsAt W A l ∧ l.length ≤ maxLen ∧ (A = none → cap = 0) := by
  obtain ⟨fuel, hf⟩ := h
  rcases open_slice Try.underlying36 hf with ⟨hcs, _⟩ | ⟨a, len', cap', m, n, D, Pl, hcs, _, hl, hm, hmm, _, hx⟩
  · simp [Value.cells] at hcs
    obtain ⟨rfl, rfl, rfl⟩ := hcs
    exact ⟨[], rfl, fun i hi => by simp at hi, by simp, fun _ => rfl⟩
  · simp [Value.cells] at hcs
    obtain ⟨rfl, rfl, rfl⟩ := hcs
    have hlm : len ≤ m := by rw [hmm]; split <;> omega
    rw [Try.cellsChangeC] at hx
    have hz : 0 < len → ∃ b off, a = ⟨b, off, none⟩ := by
      intro h0
      obtain ⟨cs', h1, _⟩ := hx 0 (by omega)
      obtain ⟨_, hlen, hcell⟩ := World.cells?_some h1
      have := hcell 0 (by omega)
      simp only [Nat.zero_mul] at this
      rw [add_add, Nat.add_zero] at this
      obtain ⟨v, hv⟩ : ∃ v, cs'[0]? = some v := ⟨_, List.getElem?_eq_getElem (by omega)⟩
      rw [hv] at this
      exact addr_zero this
    have each : ∀ i, i < len → ∃ q : Ch, ∃ b off, some a = some (⟨b, off, none⟩ : Addr) ∧ b < W.heap.size ∧ W.cell? ⟨b, off + i * 3, none⟩ = some (.string q.key) ∧ W.cell? ⟨b, off + i * 3 + 1, none⟩ = some (.string q.val) ∧ W.cell? ⟨b, off + i * 3 + 2, none⟩ = some (.bool q.gone) ∧ q.key.size ≤ maxLen ∧ q.val.size ≤ maxLen := by
      intro i hi
      obtain ⟨b, off, rfl⟩ := hz (by omega)
      obtain ⟨cs', h1, h2⟩ := hx i (by omega)
      obtain ⟨_, hlen, hcell⟩ := World.cells?_some h1
      obtain ⟨c, rfl, hs, ht⟩ := open_change h2 hlen
      have c0 := hcell 0 (by omega)
      have c1 := hcell 1 (by omega)
      have c2 := hcell 2 (by omega)
      rw [add_add, add_lit'] at c0 c1 c2
      simp at c0 c1 c2
      exact ⟨c, b, off, rfl, World.block_lt_of_cell? W _ c0, c0, by rw [Nat.add_assoc]; exact c1, by rw [Nat.add_assoc]; exact c2, hs, ht⟩
    obtain ⟨q, hq⟩ := choose_lt each
    refine ⟨(List.range len).map q, by simp, fun i hi => ?_, by simp; omega, fun h => by cases h⟩
    have hi' : i < len := by simpa using hi
    obtain ⟨b, off, e, r⟩ := hq i hi'
    exact ⟨b, off, e, by simpa using r⟩

theorem open_cap {A : Option Addr} {len cap : Nat} {d : DataW H} {p : List MemPlace} (h : DataW.Trod enc Try.prog W base spare held 36 (.slice A len cap) d p) : len ≤ cap := by
  obtain ⟨fuel, hf⟩ := h
  rcases open_slice Try.underlying36 hf with ⟨hcs, _⟩ | ⟨a, len', cap', m, n, D, Pl, hcs, _, hl, _⟩
  · simp [Value.cells] at hcs
    obtain ⟨rfl, rfl, rfl⟩ := hcs
    exact Nat.le_refl _
  · simp [Value.cells] at hcs
    obtain ⟨rfl, rfl, rfl⟩ := hcs
    exact hl
/-- One change, as an argument. -/
theorem open_changeV {cs : Array Value} {d : DataW H} {p : List MemPlace} (hsz : cs.size = 3) (h : DataW.Trod enc Try.prog W base spare held 60 (.agg cs) d p) : ∃ c : Ch, cs = chArr c ∧ c.key.size ≤ maxLen ∧ c.val.size ≤ maxLen := by
  obtain ⟨fuel, hf⟩ := h
  obtain ⟨c, e, hs, ht⟩ := open_change hf (by simpa [Value.cells] using hsz)
  refine ⟨c, ?_, hs, ht⟩
  have : cs.toList = (chArr c).toList := by simpa [Value.cells, chArr] using e
  exact Array.toList_inj.1 this
end
end Go.Proofs.Ythhedahfmllnoaa

/- Arguments that are lists of entries, opened. -/
namespace Go.Proofs.Ythhedahfmllnoaa
open Go.ChangeShapes Go.WideShapes Go.ChangeAt Go.RowKit Go.Deep

theorem Try.cellsChsD : Try.prog.cellsOf 36 = 1 := by kernel_rfl

section
variable {H : Type} {enc : TypeId × Value → H} {W : World} {base : Nat} {spare : Nat → Bool} {held : Bool}

theorem open_chsV {fuel : Nat} {cs : List Value} {x : DataW H × List MemPlace} (h : DataW.trod enc Try.prog W base spare held fuel 36 cs = some x) : ∃ A c, ∃ l : List Ch, cs = [.slice A l.length c] ∧ ChsAt W A l ∧ l.length ≤ maxLen := by
  have hcs : ∃ A n c, cs = [Value.slice A n c] := by
    rcases open_slice Try.underlying36 h with ⟨hcs, _⟩ | ⟨a, len, cap, m, n, D, Pl, hcs, _⟩
    · exact ⟨none, 0, 0, hcs⟩
    · exact ⟨some a, len, cap, hcs⟩
  obtain ⟨A, n, c, rfl⟩ := hcs
  obtain ⟨l, hl, hA, hm, _⟩ := open_chs (A := A) (len := n) (cap := c) (d := x.1) (p := x.2) ⟨fuel, by simpa [Value.cells] using h⟩
  subst hl
  exact ⟨A, c, l, rfl, hA, hm⟩

set_option maxRecDepth 10000 in
theorem open_deeds {A : Option Addr} {len cap : Nat} {d : DataW H} {p : List MemPlace} (h : DataW.Trod enc Try.prog W base spare held 50 (.slice A len cap) d p) :
    ∃ L : List (List Ch), L.length = len ∧ DeedsIn W A L ∧ L.length ≤ maxLen ∧ ∀ x ∈ L, x.length ≤ maxLen := by
  obtain ⟨fuel, hf⟩ := h
  rcases open_slice Try.underlying50 hf with ⟨hcs, _⟩ | ⟨a, len', cap', m, n, D, Pl, hcs, _, hl, hm, hmm, _, hx⟩
  · simp [Value.cells] at hcs
    obtain ⟨rfl, rfl, rfl⟩ := hcs
    exact ⟨[], rfl, fun i hi => by simp at hi, by simp, by simp⟩
  · simp [Value.cells] at hcs
    obtain ⟨rfl, rfl, rfl⟩ := hcs
    have hlm : len ≤ m := by rw [hmm]; split <;> omega
    rw [Try.cellsChsD] at hx
    have each : ∀ i, i < len → ∃ q : List Ch, (∃ b off Ai ci, some a = some (⟨b, off, none⟩ : Addr) ∧ b < W.heap.size ∧ W.cell? ⟨b, off + i, none⟩ = some (.slice Ai q.length ci) ∧ ChsAt W Ai q) ∧ q.length ≤ maxLen := by
      intro i hi
      obtain ⟨cs0, h10, _⟩ := hx 0 (by omega)
      obtain ⟨_, hlen0, hcell0⟩ := World.cells?_some h10
      have := hcell0 0 (by omega)
      simp only [Nat.zero_mul] at this
      rw [add_add, Nat.add_zero] at this
      obtain ⟨v, hv⟩ : ∃ v, cs0[0]? = some v := ⟨_, List.getElem?_eq_getElem (by omega)⟩
      rw [hv] at this
      obtain ⟨b, off, rfl⟩ := addr_zero this
      obtain ⟨cs', h1, h2⟩ := hx i (by omega)
      obtain ⟨_, hlen, hcell⟩ := World.cells?_some h1
      obtain ⟨Ai, ci, q, rfl, hA, hq⟩ := open_chsV h2
      have c0 := hcell 0 (by omega)
      rw [add_add, add_lit'] at c0
      simp at c0
      exact ⟨q, ⟨b, off, Ai, ci, rfl, World.block_lt_of_cell? W _ c0, c0, hA⟩, hq⟩
    obtain ⟨q, hq⟩ := choose_lt each
    refine ⟨(List.range len).map q, by simp, fun i hi => ?_, by simp; omega, fun x hx' => ?_⟩
    · have hi' : i < len := by simpa using hi
      obtain ⟨⟨b, off, Ai, ci, e, r⟩, _⟩ := hq i hi'
      exact ⟨b, off, Ai, ci, e, by simpa using r⟩
    · obtain ⟨i, hi, rfl⟩ := List.mem_map.1 hx'
      exact (hq i (List.mem_range.1 hi)).2
end
end Go.Proofs.Ythhedahfmllnoaa
