/- maps.Clone, pool.Copy. -/
import Derived.Test.YtdgmmmjhajbbeaaPool
import Derived.Shelf.SlMaps.Clone
import Derived.Shelf.SlGeneric
namespace Go.Proofs.Ytdgmmmjhajbbeaa
open Go.RowKit Go.Maps

shelf_lay_g SlLaysW.n5 Slmc 5 at Try 98 as Try.cloneB

theorem cloneB_any (b N : Nat) (f : Int → Option Value) (w : World) (h : MapOf w b N f) :
    Calls Try.prog 98 #[.map (some b)] w fun e w' => e = .returned (.map (some w.heap.size)) ∧ MapOf w' w.heap.size N f ∧ Below w.heap.size w w' := by
  obtain ⟨D, hD, r⟩ := h
  refine (AnyW.maps_Clone_owns Try.cloneB 3 anyElem b _ D w hD).mono ?_
  rintro e w' ⟨rfl, h1, _, hb⟩
  exact ⟨rfl, ⟨D, h1, r⟩, hb⟩

theorem poolCopy_any (g b K : Nat) (w : World) (p : PoolM) (h : PoolAt w g b K p) :
    Calls Try.prog 59 #[.pointer (some ⟨g, 0, none⟩)] w fun e w' => ∃ g' b', e = .returned (.pointer (some ⟨g', 0, none⟩)) ∧ PoolAt w' g' b' K p ∧ w.heap.size ≤ g' ∧ w.heap.size ≤ b' ∧ Below w.heap.size w w' := by
  have c0 := h.cell
  go_enter Try.func59, Try.ntmps59
  go_wp2_with fail
  ((with_reducible refine (cloneB_any b 40 (poolMap p) _ h.map).mono ?_); rintro e w1 ⟨rfl, h1, hb1⟩)
  go_wp2
  go_ret
  have b2 := (Below.refl w1.heap.size w1).alloc (Nat.le_refl _) (.cells #[.map (some w.heap.size)] 112)
  exact ⟨w1.heap.size, w.heap.size, rfl, ⟨heap_alloc_new w1 _, h1.keep (b2.block _ h1.lt), h.ok⟩, hb1.size, Nat.le_refl _, belowThen hb1 b2⟩
end Go.Proofs.Ytdgmmmjhajbbeaa
