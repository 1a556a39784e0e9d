/- The law's same: an error, told by its number. -/
import Derived.Test.YthhedahfmllnoaaZqOpenB
import Derived.Test.YthhedahfmllnoaaZqCmp
import Derived.Test.YthhedahfmllnoaaZqRng
/- Arguments that are slices of acts, opened to lists. -/
namespace Go.Proofs.Ythhedahfmllnoaa
open Go.ChangeShapes Go.WideShapes Go.ChangeAt Go.RowKit Go.Deep

/-- An act; of its puts and changes: the slices. -/
structure ActM where
  kind : ByteArray
  s : ByteArray
  a : Int
  b : Int
  c : Int
  d : Int
  k : Int
  pA : Option Addr
  pL : Nat
  pC : Nat
  cA : Option Addr
  cL : Nat
  cC : Nat
instance : Inhabited ActM := ⟨⟨ByteArray.empty, ByteArray.empty, 0, 0, 0, 0, 0, none, 0, 0, none, 0, 0⟩⟩
def actArr (m : ActM) : Array Value := #[.string m.kind, .string m.s, .int .i64 m.a, .int .i64 m.b, .int .i64 m.c, .int .i64 m.d, .int .u64 m.k, .slice m.pA m.pL m.pC, .slice m.cA m.cL m.cC]
/-- The other numbers are numbers of 64 bits, too. -/
def Wide (m : ActM) : Prop := (-9223372036854775808 ≤ m.b ∧ m.b ≤ 9223372036854775807) ∧ (-9223372036854775808 ≤ m.c ∧ m.c ≤ 9223372036854775807) ∧ (-9223372036854775808 ≤ m.d ∧ m.d ≤ 9223372036854775807)
/-- Puts in memory, as far as they are asked for. -/
def PutsAt (w : World) (N : Nat) (A : Option Addr) (n : Nat) : Prop := n ≤ maxLen ∧ ∀ i, i < n → ∃ b off s, A = some ⟨b, off, none⟩ ∧ b < N ∧ w.cell? ⟨b, off + i * 2 + 1, none⟩ = some (.string s) ∧ s.size ≤ maxLen ∧ ∃ x : Int, w.cell? ⟨b, off + i * 2, none⟩ = some (.int .i64 x)
def ChangesAt (w : World) (N : Nat) (A : Option Addr) (n : Nat) : Prop := n ≤ maxLen ∧ ∀ i, i < n → ∃ b off s t, A = some ⟨b, off, none⟩ ∧ b < N ∧ w.cell? ⟨b, off + i * 3, none⟩ = some (.string s) ∧ w.cell? ⟨b, off + i * 3 + 1, none⟩ = some (.string t) ∧ s.size ≤ maxLen ∧ t.size ≤ maxLen ∧ ∃ q : Bool, w.cell? ⟨b, off + i * 3 + 2, none⟩ = some (.bool q)
def ActAt (w : World) (N : Nat) (b off : Nat) (m : ActM) : Prop := b < N ∧ (∀ j, j < 9 → w.cell? ⟨b, off + j, none⟩ = (actArr m)[j]?) ∧ PutsAt w N m.pA m.pL ∧ ChangesAt w N m.cA m.cL ∧ -9223372036854775808 ≤ m.a ∧ m.a ≤ 9223372036854775807 ∧ m.s.size ≤ maxLen ∧ 0 ≤ m.k ∧ m.k < 18446744073709551616 ∧ Wide m
def ActsAt (w : World) (N : Nat) (A : Option Addr) (l : List ActM) : Prop := l.length ≤ maxLen ∧ ∀ i, (hi : i < l.length) → ∃ b off, A = some ⟨b, off, none⟩ ∧ ActAt w N b (off + i * 9) l[i]

theorem PutsAt.up {w w' : World} {N M : Nat} {A : Option Addr} {n : Nat} (h : PutsAt w N A n) (hb : Below M w w') (hN : N ≤ M) (hN' : N ≤ w'.heap.size) : PutsAt w' w'.heap.size A n :=
  ⟨h.1, fun i hi => by
    obtain ⟨b, off, s, e, hlt, hc, hs, x, hx⟩ := h.2 i hi
    exact ⟨b, off, s, e, by omega, by rw [hb.cell (p := ⟨b, off + i * 2 + 1, none⟩) (show b < M by omega)]; exact hc, hs, x, by rw [hb.cell (p := ⟨b, off + i * 2, none⟩) (show b < M by omega)]; exact hx⟩⟩
theorem ChangesAt.up {w w' : World} {N M : Nat} {A : Option Addr} {n : Nat} (h : ChangesAt w N A n) (hb : Below M w w') (hN : N ≤ M) (hN' : N ≤ w'.heap.size) : ChangesAt w' w'.heap.size A n :=
  ⟨h.1, fun i hi => by
    obtain ⟨b, off, s, t, e, hlt, hc, hc', hs, ht, q, hq⟩ := h.2 i hi
    exact ⟨b, off, s, t, e, by omega, by rw [hb.cell (p := ⟨b, off + i * 3, none⟩) (show b < M by omega)]; exact hc, by rw [hb.cell (p := ⟨b, off + i * 3 + 1, none⟩) (show b < M by omega)]; exact hc', hs, ht, q, by rw [hb.cell (p := ⟨b, off + i * 3 + 2, none⟩) (show b < M by omega)]; exact hq⟩⟩

theorem Try.cellsStr : Try.prog.cellsOf 9 = 1 := by kernel_rfl
theorem Try.cellsAct : Try.prog.cellsOf 42 = 9 := by kernel_rfl
theorem Try.cellsChange : Try.prog.cellsOf 60 = 3 := by kernel_rfl
theorem Try.cellsPut : Try.prog.cellsOf 63 = 2 := by kernel_rfl
theorem Try.cellsPuts : Try.prog.cellsOf 40 = 1 := by kernel_rfl
theorem Try.cellsChanges : Try.prog.cellsOf 36 = 1 := by kernel_rfl
theorem Try.cellsBool : Try.prog.cellsOf 4 = 1 := by kernel_rfl
theorem Try.cellsU64 : Try.prog.cellsOf 39 = 1 := by kernel_rfl

section
variable {H : Type} {enc : TypeId × Value → H} {W : World} {base : Nat} {spare : Nat → Bool} {held : Bool}

theorem open_puts {fuel : Nat} {cs : List Value} {x : DataW H × List MemPlace} (h : DataW.trod enc Try.prog W base spare held fuel 40 cs = some x) : ∃ A n c, cs = [.slice A n c] ∧ PutsAt W W.heap.size A n := by
  rcases open_slice_pairs Try.underlying40 Try.underlying63 Try.cellsPut rfl rfl Try.cellsInt Try.cellsStr h with ⟨hcs, _⟩ | ⟨a, len, cap, m, n, V0, V1, D0, D1, P0, P1, hcs, _, hl, hm, hmm, _, hx⟩
  · exact ⟨none, 0, 0, hcs, by simp [maxLen], fun i hi => by omega⟩
  · have hlm : len ≤ m := by rw [hmm]; split <;> omega
    refine ⟨some a, len, cap, hcs, by omega, fun i hi => ?_⟩
    obtain ⟨h1, h2, h3, h4⟩ := hx i (by omega)
    obtain ⟨s, e1, _, hs⟩ := DataW.trod_string Try.underlying9 h4
    obtain ⟨x, e0, _, _⟩ := DataW.trod_int Try.underlying3 h3
    simp at e1 e0
    obtain ⟨b, off, rfl⟩ := addr_zero (by simpa using (hx 0 (by omega)).1)
    rw [add_lit', e1] at h2
    rw [add_lit', e0] at h1
    exact ⟨b, off, s, rfl, World.block_lt_of_cell? W _ h2, by rw [Nat.add_assoc]; exact h2, hs, x, h1⟩

set_option maxRecDepth 10000 in
theorem open_changes {fuel : Nat} {cs : List Value} {x : DataW H × List MemPlace} (h : DataW.trod enc Try.prog W base spare held fuel 36 cs = some x) : ∃ A n c, cs = [.slice A n c] ∧ ChangesAt W W.heap.size A n := by
  rcases open_slice Try.underlying36 h with ⟨hcs, _⟩ | ⟨a, len, cap, m, n, D, Pl, hcs, _, hl, hm, hmm, _, hx⟩
  · exact ⟨none, 0, 0, hcs, by simp [maxLen], fun i hi => by omega⟩
  · have hlm : len ≤ m := by rw [hmm]; split <;> omega
    rw [Try.cellsChange] at hx
    refine ⟨some a, len, cap, hcs, by omega, fun i hi => ?_⟩
    have hz : ∃ b off, a = ⟨b, off, none⟩ := by
      obtain ⟨cs', h1, _⟩ := hx 0 (by omega)
      obtain ⟨_, hlen, hcell⟩ := World.cells?_some h1
      have := hcell 0 (by omega)
      simp only [Nat.zero_mul] at this
      rw [add_add, Nat.add_zero] at this
      obtain ⟨v, hv⟩ : ∃ v, cs'[0]? = some v := ⟨_, List.getElem?_eq_getElem (by omega)⟩
      rw [hv] at this
      exact addr_zero this
    obtain ⟨b, off, rfl⟩ := hz
    obtain ⟨cs', h1, h2⟩ := hx i (by omega)
    obtain ⟨_, hlen, hcell⟩ := World.cells?_some h1
    obtain ⟨xs, k, _, _, _, hxl, hf⟩ := DataW.trod_struct Try.underlying60 h2
    have hxl : xs.length = 3 := hxl
    match xs, hxl, cs', hlen with
    | [y0, y1, y2], _, [v0, v1, v2], _ =>
      have g0 := hf 0 _ rfl
      have g1 := hf 1 _ rfl
      have g2 := hf 2 _ rfl
      simp [Try.cellsStr, Try.cellsBool] at g0 g1 g2
      obtain ⟨s, e0, _, hs⟩ := DataW.trod_string Try.underlying9 g0
      obtain ⟨t, e1, _, ht⟩ := DataW.trod_string Try.underlying9 g1
      obtain ⟨q, e2, _⟩ := DataW.trod_bool Try.underlying4 g2
      simp at e0 e1 e2
      have c0 := hcell 0 (by omega)
      have c1 := hcell 1 (by omega)
      have c2 := hcell 2 (by omega)
      rw [add_add, add_lit'] at c0 c1 c2
      simp [e0, e1, e2] at c0 c1 c2
      exact ⟨b, off, s, t, rfl, World.block_lt_of_cell? W _ c0, c0, by rw [Nat.add_assoc]; exact c1, hs, ht, q, by rw [Nat.add_assoc]; exact c2⟩

set_option maxRecDepth 10000 in
theorem open_acts {A : Option Addr} {len cap : Nat} {d : DataW H} {p : List MemPlace} (h : DataW.Trod enc Try.prog W base spare held 22 (.slice A len cap) d p) :
    ∃ l : List ActM, l.length = len ∧ ActsAt W W.heap.size A l ∧ True := by
  obtain ⟨fuel, hf⟩ := h
  rcases open_slice Try.underlying22 hf with ⟨hcs, _⟩ | ⟨a, len', cap', m, n, D, Pl, hcs, _, hl, hm, hmm, _, hx⟩
  · simp [Value.cells] at hcs
    obtain ⟨rfl, rfl, rfl⟩ := hcs
    exact ⟨[], rfl, ⟨by simp, fun i hi => by simp at hi⟩, trivial⟩
  · simp [Value.cells] at hcs
    obtain ⟨rfl, rfl, rfl⟩ := hcs
    have hlm : len ≤ m := by rw [hmm]; split <;> omega
    rw [Try.cellsAct] at hx
    have hz : 0 < len → ∃ b off, a = ⟨b, off, none⟩ := by
      intro h0
      obtain ⟨cs', h1, _⟩ := hx 0 (by omega)
      obtain ⟨_, hlen, hcell⟩ := World.cells?_some h1
      have := hcell 0 (by omega)
      simp only [Nat.zero_mul] at this
      rw [add_add, Nat.add_zero] at this
      obtain ⟨v, hv⟩ : ∃ v, cs'[0]? = some v := ⟨_, List.getElem?_eq_getElem (by omega)⟩
      rw [hv] at this
      exact addr_zero this
    have each : ∀ i, i < len → ∃ q : ActM, ∃ b off, a = ⟨b, off, none⟩ ∧ ActAt W W.heap.size b (off + i * 9) q := by
      intro i hi
      obtain ⟨b, off, rfl⟩ := hz (by omega)
      obtain ⟨cs', h1, h2⟩ := hx i (by omega)
      obtain ⟨_, hlen, hcell⟩ := World.cells?_some h1
      obtain ⟨xs, k, _, _, _, hxl, hf⟩ := DataW.trod_struct Try.underlying42 h2
      have hxl : xs.length = 9 := hxl
      match xs, hxl, cs', hlen with
      | [y0, y1, y2, y3, y4, y5, y6, y7, y8], _, [v0, v1, v2, v3, v4, v5, v6, v7, v8], _ =>
        have g0 := hf 0 _ rfl
        have g1 := hf 1 _ rfl
        have g2 := hf 2 _ rfl
        have g3 := hf 3 _ rfl
        have g4 := hf 4 _ rfl
        have g5 := hf 5 _ rfl
        have g6 := hf 6 _ rfl
        have g7 := hf 7 _ rfl
        have g8 := hf 8 _ rfl
        simp [Try.cellsStr, Try.cellsInt, Try.cellsU64, Try.cellsPuts, Try.cellsChanges] at g0 g1 g2 g3 g4 g5 g6 g7 g8
        obtain ⟨s0, e0, _, _⟩ := DataW.trod_string Try.underlying9 g0
        obtain ⟨s1, e1, _, hs1⟩ := DataW.trod_string Try.underlying9 g1
        obtain ⟨n2, e2, _, w2⟩ := DataW.trod_int Try.underlying3 g2
        obtain ⟨n3, e3, _, w3⟩ := DataW.trod_int Try.underlying3 g3
        obtain ⟨n4, e4, _, w4⟩ := DataW.trod_int Try.underlying3 g4
        obtain ⟨n5, e5, _, w5⟩ := DataW.trod_int Try.underlying3 g5
        obtain ⟨n6, e6, _, w6⟩ := DataW.trod_int Try.underlying39 g6
        obtain ⟨pA, pL, pC, e7, hp⟩ := open_puts g7
        obtain ⟨cA, cL, cC, e8, hc⟩ := open_changes g8
        simp at e0 e1 e2 e3 e4 e5 e6 e7 e8
        subst e0 e1 e2 e3 e4 e5 e6 e7 e8
        have hb : b < W.heap.size := by
          have c0 := hcell 0 (by omega)
          rw [add_add, add_lit'] at c0
          simp at c0
          exact World.block_lt_of_cell? W _ c0
        refine ⟨⟨s0, s1, n2, n3, n4, n5, n6, pA, pL, pC, cA, cL, cC⟩, b, off, rfl, hb, fun j hj => ?_, hp, hc, (wf_i64 w2).1, (wf_i64 w2).2, hs1, (wf_u64 w6).1, (wf_u64 w6).2, ⟨(wf_i64 w3).1, (wf_i64 w3).2⟩, ⟨(wf_i64 w4).1, (wf_i64 w4).2⟩, (wf_i64 w5).1, (wf_i64 w5).2⟩
        have := hcell j (by omega)
        rw [add_add, add_lit', ← Nat.add_assoc] at this
        rw [this]
        simp [actArr]
    obtain ⟨q, hq⟩ := choose_lt each
    refine ⟨(List.range len).map q, by simp, ⟨by simp; omega, fun i hi => ?_⟩, trivial⟩
    have hi' : i < len := by simpa using hi
    obtain ⟨b, off, rfl, hA⟩ := hq i hi'
    exact ⟨b, off, rfl, by simpa using hA⟩
end
end Go.Proofs.Ythhedahfmllnoaa

/- Arguments that are changes, opened. -/
namespace Go.Proofs.Ythhedahfmllnoaa
open Go.ChangeShapes Go.WideShapes Go.ChangeAt Go.RowKit Go.Deep

theorem Try.cellsStrC : Try.prog.cellsOf 9 = 1 := by kernel_rfl
theorem Try.cellsChangeC : Try.prog.cellsOf 60 = 3 := by kernel_rfl
theorem Try.cellsBoolC : Try.prog.cellsOf 4 = 1 := by kernel_rfl

section
variable {H : Type} {enc : TypeId × Value → H} {W : World} {base : Nat} {spare : Nat → Bool} {held : Bool}

set_option maxRecDepth 10000 in
/-- The cells of one change. -/
theorem open_change {fuel : Nat} {cs : List Value} {x : DataW H × List MemPlace} (h : DataW.trod enc Try.prog W base spare held fuel 60 cs = some x) (hlen : cs.length = 3) : ∃ c : Ch, cs = [.string c.key, .string c.val, .bool c.gone] ∧ c.key.size ≤ maxLen ∧ c.val.size ≤ maxLen := by
  obtain ⟨xs, k, _, _, _, hxl, hf⟩ := DataW.trod_struct Try.underlying60 h
  have hxl : xs.length = 3 := hxl
  match xs, hxl, cs, hlen with
  | [y0, y1, y2], _, [v0, v1, v2], _ =>
    have g0 := hf 0 _ rfl
    have g1 := hf 1 _ rfl
    have g2 := hf 2 _ rfl
    simp [Try.cellsStrC, Try.cellsBoolC] at g0 g1 g2
    obtain ⟨s, e0, _, hs⟩ := DataW.trod_string Try.underlying9 g0
    obtain ⟨t, e1, _, ht⟩ := DataW.trod_string Try.underlying9 g1
    obtain ⟨q, e2, _⟩ := DataW.trod_bool Try.underlying4 g2
    simp at e0 e1 e2
    exact ⟨⟨s, t, q⟩, by rw [e0, e1, e2], hs, ht⟩

set_option maxRecDepth 10000 in
theorem open_chs {A : Option Addr} {len cap : Nat} {d : DataW H} {p : List MemPlace} (h : DataW.Trod enc Try.prog W base spare held 36 (.slice A len cap) d p) :
    ∃ l : List Ch, l.length = len ∧ ChsAt W A l ∧ l.length ≤ maxLen ∧ (A = none → cap = 0) := by
  obtain ⟨fuel, hf⟩ := h
  rcases open_slice Try.underlying36 hf with ⟨hcs, _⟩ | ⟨a, len', cap', m, n, D, Pl, hcs, _, hl, hm, hmm, _, hx⟩
  · simp [Value.cells] at hcs
    obtain ⟨rfl, rfl, rfl⟩ := hcs
    exact ⟨[], rfl, fun i hi => by simp at hi, by simp, fun _ => rfl⟩
  · simp [Value.cells] at hcs
    obtain ⟨rfl, rfl, rfl⟩ := hcs
    have hlm : len ≤ m := by rw [hmm]; split <;> omega
    rw [Try.cellsChangeC] at hx
    have hz : 0 < len → ∃ b off, a = ⟨b, off, none⟩ := by
      intro h0
      obtain ⟨cs', h1, _⟩ := hx 0 (by omega)
      obtain ⟨_, hlen, hcell⟩ := World.cells?_some h1
      have := hcell 0 (by omega)
      simp only [Nat.zero_mul] at this
      rw [add_add, Nat.add_zero] at this
      obtain ⟨v, hv⟩ : ∃ v, cs'[0]? = some v := ⟨_, List.getElem?_eq_getElem (by omega)⟩
      rw [hv] at this
      exact addr_zero this
    have each : ∀ i, i < len → ∃ q : Ch, ∃ b off, some a = some (⟨b, off, none⟩ : Addr) ∧ b < W.heap.size ∧ W.cell? ⟨b, off + i * 3, none⟩ = some (.string q.key) ∧ W.cell? ⟨b, off + i * 3 + 1, none⟩ = some (.string q.val) ∧ W.cell? ⟨b, off + i * 3 + 2, none⟩ = some (.bool q.gone) ∧ q.key.size ≤ maxLen ∧ q.val.size ≤ maxLen := by
      intro i hi
      obtain ⟨b, off, rfl⟩ := hz (by omega)
      obtain ⟨cs', h1, h2⟩ := hx i (by omega)
      obtain ⟨_, hlen, hcell⟩ := World.cells?_some h1
      obtain ⟨c, rfl, hs, ht⟩ := open_change h2 hlen
      have c0 := hcell 0 (by omega)
      have c1 := hcell 1 (by omega)
      have c2 := hcell 2 (by omega)
      rw [add_add, add_lit'] at c0 c1 c2
      simp at c0 c1 c2
      exact ⟨c, b, off, rfl, World.block_lt_of_cell? W _ c0, c0, by rw [Nat.add_assoc]; exact c1, by rw [Nat.add_assoc]; exact c2, hs, ht⟩
    obtain ⟨q, hq⟩ := choose_lt each
    refine ⟨(List.range len).map q, by simp, fun i hi => ?_, by simp; omega, fun h => by cases h⟩
    have hi' : i < len := by simpa using hi
    obtain ⟨b, off, e, r⟩ := hq i hi'
    exact ⟨b, off, e, by simpa using r⟩

theorem open_cap {A : Option Addr} {len cap : Nat} {d : DataW H} {p : List MemPlace} (h : DataW.Trod enc Try.prog W base spare held 36 (.slice A len cap) d p) : len ≤ cap := by
  obtain ⟨fuel, hf⟩ := h
  rcases open_slice Try.underlying36 hf with ⟨hcs, _⟩ | ⟨a, len', cap', m, n, D, Pl, hcs, _, hl, _⟩
  · simp [Value.cells] at hcs
    obtain ⟨rfl, rfl, rfl⟩ := hcs
    exact Nat.le_refl _
  · simp [Value.cells] at hcs
    obtain ⟨rfl, rfl, rfl⟩ := hcs
    exact hl
/-- One change, as an argument. -/
theorem open_changeV {cs : Array Value} {d : DataW H} {p : List MemPlace} (hsz : cs.size = 3) (h : DataW.Trod enc Try.prog W base spare held 60 (.agg cs) d p) : ∃ c : Ch, cs = chArr c ∧ c.key.size ≤ maxLen ∧ c.val.size ≤ maxLen := by
  obtain ⟨fuel, hf⟩ := h
  obtain ⟨c, e, hs, ht⟩ := open_change hf (by simpa [Value.cells] using hsz)
  refine ⟨c, ?_, hs, ht⟩
  have : cs.toList = (chArr c).toList := by simpa [Value.cells, chArr] using e
  exact Array.toList_inj.1 this
end
end Go.Proofs.Ythhedahfmllnoaa

/- An act's changes as a list. -/
namespace Go.Proofs.Ythhedahfmllnoaa
open Go.RowKit Go.ChangeAt Go.Deep Go.ChangeShapes Go.WideShapes

/-- An act's changes as a list. -/
theorem chs_of_changes {w : World} {N : Nat} {A : Option Addr} {n : Nat} (h : ChangesAt w N A n) (hN : N ≤ w.heap.size) : ∃ l : List Ch, l.length = n ∧ ChsAt w A l := by
  have each : ∀ i, i < n → ∃ c : Ch, ∃ b off, A = some ⟨b, off, none⟩ ∧ b < w.heap.size ∧ w.cell? ⟨b, off + i * 3, none⟩ = some (.string c.key) ∧ w.cell? ⟨b, off + i * 3 + 1, none⟩ = some (.string c.val) ∧ w.cell? ⟨b, off + i * 3 + 2, none⟩ = some (.bool c.gone) ∧ c.key.size ≤ maxLen ∧ c.val.size ≤ maxLen := fun i hi => by
    obtain ⟨b, off, s, t, e, hb, h1, h2, h3, h4, q, h5⟩ := h.2 i hi
    exact ⟨⟨s, t, q⟩, b, off, e, by omega, h1, h2, h5, h3, h4⟩
  obtain ⟨q, hq⟩ := choose_lt each
  refine ⟨(List.range n).map q, by simp, fun i hi => ?_⟩
  have hi' : i < n := by simpa using hi
  obtain ⟨b, off, e, hb, h1, h2, h3, h4, h5⟩ := hq i hi'
  have : ((List.range n).map q)[i] = q i := by simp
  rw [this]
  exact ⟨b, off, e, hb, h1, h2, h3, h4, h5⟩

end Go.Proofs.Ythhedahfmllnoaa

/- The law's same: an error, told by its number. -/
namespace Go.Proofs.Ythhedahfmllnoaa
open Go.RowKit

theorem assertErrno2 (n : Int) (w : World) : (Instr.typeAssert (.iface 64 (.int .i64 n)) 27 64 true).run Try.prog w = .ok (.tuple #[.int .i64 n, .bool true]) w := by kernel_rfl

set_option maxRecDepth 100000 in
theorem said_any (n f : Int) (w : World) (hn : 0 ≤ n) :
    Calls Try.prog 8 #[errV n, .int .i64 f] w fun e w' => e = .returned (.bool (decide (n = f))) ∧ w = w' := by
  by_cases h0 : n = 0
  · subst h0
    show Calls _ _ #[.nilIface, _] _ _
    go_enter Try.func8, Try.ntmps8
    go_wp2
    go_ret
    refine ⟨ret_bool ?_, rfl⟩
    rw [Bool.eq_iff_iff]; simp; omega
  · have e : errV n = .iface 64 (.int .i64 n) := by simp [errV, h0]
    rw [e]
    have hta := assertErrno2 n w
    by_cases hf : 0 < f
    · go_enter Try.func8, Try.ntmps8
      go_wp2
      go_ret
      refine ⟨ret_bool ?_, rfl⟩
      rw [Bool.eq_iff_iff]; simp
    · have hf' : decide (0 < f) = false := by simpa using hf
      go_enter Try.func8, Try.ntmps8
      go_wp2
      go_ret
      refine ⟨ret_bool ?_, rfl⟩
      symm; simp; omega

theorem said_yes (n : Int) (w : World) (hn : 0 ≤ n) : Calls Try.prog 8 #[errV n, .int .i64 n] w fun e w' => e = .returned (.bool true) ∧ w = w' :=
  (said_any n n w hn).mono fun _ _ ⟨he, hw⟩ => ⟨by rw [he]; simp, hw⟩
theorem said_nil (w : World) : Calls Try.prog 8 #[.nilIface, .int .i64 0] w fun e w' => e = .returned (.bool true) ∧ w = w' := said_yes 0 w (by omega)
end Go.Proofs.Ythhedahfmllnoaa
