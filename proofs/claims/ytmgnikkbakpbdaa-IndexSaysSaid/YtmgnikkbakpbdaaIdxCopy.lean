/- Package index: Copy. -/
import Derived.Test.YtmgnikkbakpbdaaClone
import Derived.Test.YtmgnikkbakpbdaaIdxM
namespace Go.Proofs.Ytmgnikkbakpbdaa
open Go.RowKit Go.Maps

def Try.cloneN_ren : Go.Shelf.Ren := ⟨fun | 5 => 50 | 7 => 53 | n => n, fun | 23 => 83 | 25 => 3 | 3 => 33 | 4 => 4 | 20 => 20 | n => n, fun | n => n⟩
theorem Try.cloneN : Go.Proofs.SlLaysW.n5 Try.prog Try.cloneN_ren := {
  mixed := by kernel_rfl
  f5 := ⟨Try.f50.name, by decide, Try.func50.trans (congrArg some (by kernel_rfl))⟩
  f7 := Try.func53.trans (congrArg some (by kernel_rfl))
  t4 := Try.underlying4
  a4 := Try.isAgg4
  z4 := Try.sizeOf4
  v4 := Try.zeroValue4
  t20 := Try.underlying20
  a20 := Try.isAgg20
  z20 := Try.sizeOf20
  v20 := Try.zeroValue20
  t23 := Try.underlying83
  a23 := Try.isAgg83
  z23 := Try.sizeOf83
  v23 := Try.zeroValue83 }

theorem cloneN_any (b N : Nat) (f : Int → Option Value) (w : World) (h : MapOf w b N f) :
    Calls Try.prog 50 #[.map (some b)] w fun e w' => e = .returned (.map (some w.heap.size)) ∧ MapOf w' w.heap.size N f ∧ Below w.heap.size w w' := by
  obtain ⟨D, hD, r⟩ := h
  refine (AnyW.maps_Clone_owns Try.cloneN 3 anyElem b _ D w hD).mono ?_
  rintro e w' ⟨rfl, h1, _, hb⟩
  exact ⟨rfl, ⟨D, h1, r⟩, hb⟩

theorem idxCopy_any (w : World) (x gp bp bn K : Nat) (X : IdxM) (h : IdxAt w x gp bp bn K X) :
    Calls Try.prog 29 #[.pointer (some ⟨x, 0, none⟩)] w fun e w' => ∃ x' gp' bp' bn', e = .returned (.pointer (some ⟨x', 0, none⟩)) ∧ IdxAt w' x' gp' bp' bn' K X ∧ w.heap.size ≤ x' ∧ w.heap.size ≤ gp' ∧ w.heap.size ≤ bp' ∧ w.heap.size ≤ bn' ∧ Below w.heap.size w w' := by
  have c0 := h.cell0
  have c1 := h.cell1
  go_enter Try.func29, Try.ntmps29
  go_wp2_with fail
  have hlt := h.lt
  have HP := Lib.hid (fun w' (hb : Below w.heap.size w w') => poolCopy_any gp bp K w' X.P (h.pool.below hb))
  have HN := Lib.hid (fun w' (hb : Below w.heap.size w w') => cloneN_any bn 24 (nodMap X.N) w' (h.map.keep (hb.block bn h.ltn)))
  have HK := Lib.hid (fun w' (hb : Below w.heap.size w w') => show w'.cell? ⟨x, 0, none⟩ = some (.pointer (some ⟨gp, 0, none⟩)) ∧ w'.cell? ⟨x, 1, none⟩ = some (.map (some bn)) from ⟨by rw [hb.cell (p := ⟨x, 0, none⟩) hlt]; exact c0, by rw [hb.cell (p := ⟨x, 1, none⟩) hlt]; exact c1⟩)
  have HOK := Lib.hid h.ok
  clear h
  go_region_held3 (fun w' => w'.cell? ⟨x, 0, none⟩ = some (.pointer (some ⟨gp, 0, none⟩)) ∧ w'.cell? ⟨x, 1, none⟩ = some (.map (some bn))) (first | exact ⟨c0, c1⟩ | exact HK.out _ (Below.trans (b := w.drew) (Below.refl _ _).drew hb1) | exact HK.out _ (belowThen (Below.trans (b := w.drew) (Below.refl _ _).drew hb1) hb2) | exact HK.out _ (belowThen (belowThen (Below.trans (b := w.drew) (Below.refl _ _).drew hb1) hb2) ((Below.refl _ _).alloc (Nat.le_refl _) _)))
    (first
      | (go_at_call 15; refine (HP.out _ (Below.refl _ _).drew).mono ?_; rintro e w1 ⟨g1, b1, rfl, hP1, hg1, hbb1, hb1⟩)
      | (go_at_call 50; refine (HN.out _ (Below.trans (b := w.drew) (Below.refl _ _).drew hb1)).mono ?_; rintro e w2 ⟨rfl, hM2, hb2⟩))
  all_goals
    have hb01 : Below w.heap.size w w1 := Below.trans (b := w.drew) (Below.refl w.heap.size w).drew hb1
    have hs1 : w.heap.size ≤ w1.heap.size := hb01.size
    have hs2 : w1.heap.size ≤ w2.heap.size := hb2.size
    have hbw : Below w.heap.size w w2 := belowThen hb01 hb2
    have b3 := (Below.refl w2.heap.size w2).alloc (Nat.le_refl _) (.cells #[.pointer (some ⟨g1, 0, none⟩), .map (some w1.heap.size)] 85)
    have hlb := hP1.ltb
    go_wp2
    go_ret
    exact ⟨w2.heap.size, g1, b1, w1.heap.size, rfl, ⟨heap_alloc_new w2 _, (hP1.below hb2).below b3, hM2.keep (b3.block _ hM2.lt), by omega, HOK.out⟩, by omega, hg1, hbb1, hs1, belowThen hbw b3⟩
end Go.Proofs.Ytmgnikkbakpbdaa
