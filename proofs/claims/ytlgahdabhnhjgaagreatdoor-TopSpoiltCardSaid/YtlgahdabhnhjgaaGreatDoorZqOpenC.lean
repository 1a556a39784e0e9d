/- Arguments that are changes, opened. -/
import Derived.Test.YtlgahdabhnhjgaaGreatDoorZqImT
import Derived.LaidSub
import Derived.Test.YtlgahdabhnhjgaaGreatDoorZqPar
import Derived.Stop.LaidErr
import Derived.Test.YtlgahdabhnhjgaaGreatDoorZqOpenB
import Derived.Test.YtlgahdabhnhjgaaGreatDoorZqGv
/- The table of powers out of the laid variables. -/
namespace Go.Proofs.YtlgahdabhnhjgaaGreatDoor

theorem tab_of_head {W : World} (h : laidMet Tryz.prog [("internal/strconv.uint64pow10", Lib.tabData .u64 Lib.pow10Tab)] W) : Tab W :=
  Lib.tabIs_of_head (g := 2) (t := 216) (e := 35) (n := 20) (by kernel_rfl) (by kernel_rfl) (by kernel_rfl) (by kernel_rfl) (by kernel_rfl) (by kernel_rfl) h
theorem tab_of_laid {W : World} {l : List (String × DataW Unit)} (h : laidMetH Tryz.prog l W) (e : l.filter (fun x => x.1 == "internal/strconv.uint64pow10") = [("internal/strconv.uint64pow10", Lib.tabData .u64 Lib.pow10Tab)]) : Tab W := by
  have h1 := h.filter (fun x => x.1 == "internal/strconv.uint64pow10")
  rw [e] at h1
  exact tab_of_head h1
end Go.Proofs.YtlgahdabhnhjgaaGreatDoor

/- strconv's two errors out of the laid variables. -/
namespace Go.Proofs.YtlgahdabhnhjgaaGreatDoor
open Go.RowKit

theorem starErr : "*" ++ "errors.errorString" = "*errors.errorString" := by decide
theorem rowErr (u : TypeId) (h : Tryz.prog.typeName? 3 u = some "*errors.errorString") : u = 220 :=
  typeName_ptr_named (nm := "errors.errorString") (by rw [starErr]; kernel_rfl) (by kernel_rfl) (by decide) u (by rw [starErr]; exact h)
theorem sent_of {W : World} {n : String} {g : Nat} {text : List UInt8} (h : laidMet Tryz.prog [(n, .iface "*errors.errorString" (.ptr (.agg [.lit (.string text)])))] W) (hg : Tryz.prog.globalNamed n = some g) (ht : (Tryz.prog.globals[g]?).map (·.type) = some 32) : ∃ t p, W.var? Tryz.prog n = some #[.iface t p] := by
  obtain ⟨a, s, hv, _⟩ := laid_sentinel h hg ht Tryz.underlying32 rowErr Tryz.underlying220 Tryz.underlying222 rfl rfl Tryz.underlying9 (by kernel_rfl) (by kernel_rfl)
  exact ⟨_, _, hv⟩
theorem errs_of_laid {W : World} {l : List (String × DataW Unit)} {t0 t1 : List UInt8} (h : laidMetH Tryz.prog l W)
    (e0 : l.filter (fun x => x.1 == "strconv.ErrSyntax") = [("strconv.ErrSyntax", .iface "*errors.errorString" (.ptr (.agg [.lit (.string t0)])))])
    (e1 : l.filter (fun x => x.1 == "strconv.ErrRange") = [("strconv.ErrRange", .iface "*errors.errorString" (.ptr (.agg [.lit (.string t1)])))]) : Errs W := by
  have h0 := h.filter (fun x => x.1 == "strconv.ErrSyntax")
  have h1 := h.filter (fun x => x.1 == "strconv.ErrRange")
  rw [e0] at h0
  rw [e1] at h1
  exact ⟨sent_of h0 (g := 0) (by kernel_rfl) (by kernel_rfl), sent_of h1 (g := 1) (by kernel_rfl) (by kernel_rfl)⟩
end Go.Proofs.YtlgahdabhnhjgaaGreatDoor

/- Arguments that are changes, opened. -/
namespace Go.Proofs.YtlgahdabhnhjgaaGreatDoor
open Go.ChangeShapes Go.WideShapes Go.ChangeAt Go.RowKit Go.Deep

theorem Tryz.cellsStrC : Tryz.prog.cellsOf 9 = 1 := by kernel_rfl
theorem Tryz.cellsChangeC : Tryz.prog.cellsOf 49 = 3 := by kernel_rfl
theorem Tryz.cellsBoolC : Tryz.prog.cellsOf 4 = 1 := by kernel_rfl

section
variable {H : Type} {enc : TypeId × Value → H} {W : World} {base : Nat} {spare : Nat → Bool} {held : Bool}

set_option maxRecDepth 10000 in
/-- The cells of one change. -/
theorem open_change {fuel : Nat} {cs : List Value} {x : DataW H × List MemPlace} (h : DataW.trod enc Tryz.prog W base spare held fuel 49 cs = some x) (hlen : cs.length = 3) : ∃ c : Ch, cs = [.string c.key, .string c.val, .bool c.gone] ∧ c.key.size ≤ maxLen ∧ c.val.size ≤ maxLen := by
  obtain ⟨xs, k, _, _, _, hxl, hf⟩ := DataW.trod_struct Tryz.underlying49 h
  have hxl : xs.length = 3 := hxl
  match xs, hxl, cs, hlen with
  | [y0, y1, y2], _, [v0, v1, v2], _ =>
    have g0 := hf 0 _ rfl
    have g1 := hf 1 _ rfl
    have g2 := hf 2 _ rfl
    simp [Tryz.cellsStrC, Tryz.cellsBoolC] at g0 g1 g2
    obtain ⟨s, e0, _, hs⟩ := DataW.trod_string Tryz.underlying9 g0
    obtain ⟨t, e1, _, ht⟩ := DataW.trod_string Tryz.underlying9 g1
    obtain ⟨q, e2, _⟩ := DataW.trod_bool Tryz.underlying4 g2
    simp at e0 e1 e2
    exact ⟨⟨s, t, q⟩, by rw [e0, e1, e2], hs, ht⟩

set_option maxRecDepth 10000 in
theorem open_chs {A : Option Addr} {len cap : Nat} {d : DataW H} {p : List MemPlace} (h : DataW.Trod enc Tryz.prog W base spare held 23 (.slice A len cap) d p) :
    ∃ l : List Ch, l.length = len ∧ ChsAt W A l ∧ l.length ≤ maxLen ∧ (A = none → cap = 0) := by
  obtain ⟨fuel, hf⟩ := h
  rcases open_slice Tryz.underlying23 hf with ⟨hcs, _⟩ | ⟨a, len', cap', m, n, D, Pl, hcs, _, hl, hm, hmm, _, hx⟩
  · simp [Value.cells] at hcs
    obtain ⟨rfl, rfl, rfl⟩ := hcs
    exact ⟨[], rfl, fun i hi => by simp at hi, by simp, fun _ => rfl⟩
  · simp [Value.cells] at hcs
    obtain ⟨rfl, rfl, rfl⟩ := hcs
    have hlm : len ≤ m := by rw [hmm]; split <;> omega
    rw [Tryz.cellsChangeC] at hx
    have hz : 0 < len → ∃ b off, a = ⟨b, off, none⟩ := by
      intro h0
      obtain ⟨cs', h1, _⟩ := hx 0 (by omega)
      obtain ⟨_, hlen, hcell⟩ := World.cells?_some h1
      have := hcell 0 (by omega)
      simp only [Nat.zero_mul] at this
      rw [add_add, Nat.add_zero] at this
      obtain ⟨v, hv⟩ : ∃ v, cs'[0]? = some v := ⟨_, List.getElem?_eq_getElem (by omega)⟩
      rw [hv] at this
      exact addr_zero this
    have each : ∀ i, i < len → ∃ q : Ch, ∃ b off, some a = some (⟨b, off, none⟩ : Addr) ∧ b < W.heap.size ∧ W.cell? ⟨b, off + i * 3, none⟩ = some (.string q.key) ∧ W.cell? ⟨b, off + i * 3 + 1, none⟩ = some (.string q.val) ∧ W.cell? ⟨b, off + i * 3 + 2, none⟩ = some (.bool q.gone) ∧ q.key.size ≤ maxLen ∧ q.val.size ≤ maxLen := by
      intro i hi
      obtain ⟨b, off, rfl⟩ := hz (by omega)
      obtain ⟨cs', h1, h2⟩ := hx i (by omega)
      obtain ⟨_, hlen, hcell⟩ := World.cells?_some h1
      obtain ⟨c, rfl, hs, ht⟩ := open_change h2 hlen
      have c0 := hcell 0 (by omega)
      have c1 := hcell 1 (by omega)
      have c2 := hcell 2 (by omega)
      rw [add_add, add_lit'] at c0 c1 c2
      simp at c0 c1 c2
      exact ⟨c, b, off, rfl, World.block_lt_of_cell? W _ c0, c0, by rw [Nat.add_assoc]; exact c1, by rw [Nat.add_assoc]; exact c2, hs, ht⟩
    obtain ⟨q, hq⟩ := choose_lt each
    refine ⟨(List.range len).map q, by simp, fun i hi => ?_, by simp; omega, fun h => by cases h⟩
    have hi' : i < len := by simpa using hi
    obtain ⟨b, off, e, r⟩ := hq i hi'
    exact ⟨b, off, e, by simpa using r⟩

/-- One change, as an argument. -/
theorem open_changeV {cs : Array Value} {d : DataW H} {p : List MemPlace} (hsz : cs.size = 3) (h : DataW.Trod enc Tryz.prog W base spare held 49 (.agg cs) d p) : ∃ c : Ch, cs = chArr c ∧ c.key.size ≤ maxLen ∧ c.val.size ≤ maxLen := by
  obtain ⟨fuel, hf⟩ := h
  obtain ⟨c, e, hs, ht⟩ := open_change hf (by simpa [Value.cells] using hsz)
  refine ⟨c, ?_, hs, ht⟩
  have : cs.toList = (chArr c).toList := by simpa [Value.cells, chArr] using e
  exact Array.toList_inj.1 this
end
end Go.Proofs.YtlgahdabhnhjgaaGreatDoor
