/- maps.Clone, pool.Copy. -/
import Derived.Test.YtmgnikkbakpbdaaPool
import Derived.Shelf.SlMaps.Clone
import Derived.Shelf.SlGeneric
namespace Go.Proofs.Ytmgnikkbakpbdaa
open Go.RowKit Go.Maps

def Try.cloneB_ren : Go.Shelf.Ren := ⟨fun | 5 => 39 | 7 => 53 | n => n, fun | 23 => 58 | 25 => 3 | 3 => 29 | 4 => 4 | 20 => 20 | n => n, fun | n => n⟩
theorem Try.cloneB : Go.Proofs.SlLaysW.n5 Try.prog Try.cloneB_ren := {
  mixed := by kernel_rfl
  f5 := ⟨Try.f39.name, by decide, Try.func39.trans (congrArg some (by kernel_rfl))⟩
  f7 := Try.func53.trans (congrArg some (by kernel_rfl))
  t4 := Try.underlying4
  a4 := Try.isAgg4
  z4 := Try.sizeOf4
  v4 := Try.zeroValue4
  t20 := Try.underlying20
  a20 := Try.isAgg20
  z20 := Try.sizeOf20
  v20 := Try.zeroValue20
  t23 := Try.underlying58
  a23 := Try.isAgg58
  z23 := Try.sizeOf58
  v23 := Try.zeroValue58 }

theorem cloneB_any (b N : Nat) (f : Int → Option Value) (w : World) (h : MapOf w b N f) :
    Calls Try.prog 39 #[.map (some b)] w fun e w' => e = .returned (.map (some w.heap.size)) ∧ MapOf w' w.heap.size N f ∧ Below w.heap.size w w' := by
  obtain ⟨D, hD, r⟩ := h
  refine (AnyW.maps_Clone_owns Try.cloneB 3 anyElem b _ D w hD).mono ?_
  rintro e w' ⟨rfl, h1, _, hb⟩
  exact ⟨rfl, ⟨D, h1, r⟩, hb⟩

theorem poolCopy_any (g b K : Nat) (w : World) (p : PoolM) (h : PoolAt w g b K p) :
    Calls Try.prog 15 #[.pointer (some ⟨g, 0, none⟩)] w fun e w' => ∃ g' b', e = .returned (.pointer (some ⟨g', 0, none⟩)) ∧ PoolAt w' g' b' K p ∧ w.heap.size ≤ g' ∧ w.heap.size ≤ b' ∧ Below w.heap.size w w' := by
  have c0 := h.cell
  go_enter Try.func15, Try.ntmps15
  go_wp2_with fail
  ((with_reducible refine (cloneB_any b 40 (poolMap p) _ h.map).mono ?_); rintro e w1 ⟨rfl, h1, hb1⟩)
  go_wp2
  go_ret
  have b2 := (Below.refl w1.heap.size w1).alloc (Nat.le_refl _) (.cells #[.map (some w.heap.size)] 60)
  exact ⟨w1.heap.size, w.heap.size, rfl, ⟨heap_alloc_new w1 _, h1.keep (b2.block _ h1.lt), h.ok⟩, hb1.size, Nat.le_refl _, belowThen hb1 b2⟩
end Go.Proofs.Ytmgnikkbakpbdaa
