/- Package vdisk: extend. -/
import Derived.Test.YtmcoenndfbgdfaaVd7
namespace Go.Proofs.Ytmcoenndfbgdfaa
open Go.RowKit

/-- A call that answers areas, and what it leaves of one cell. -/
theorem union_keep (W : World) (A A' : Option Addr) (c c' : Nat) (l l' : List Ar) (gb o : Nat) (v : Value) (hA : AreasAt W W.heap.size A l) (hA' : AreasAt W W.heap.size A' l') (hl : l.length ≤ 16) (hl' : l'.length ≤ 16) (hv : ValidFrom 0 l) (hv' : ValidFrom 0 l')
    (hc : W.cell? ⟨gb, o, none⟩ = some v) (hf : W.frozen? ⟨gb, o, none⟩ = false) :
    Calls Try.prog 14 #[.slice A l.length c, .slice A' l'.length c'] W (TouchRet W (uni l l') v gb o) := by
  have hgb := World.block_lt_of_cell? W _ hc
  refine (union_any A A' c c' l l' W hA hA' (by omega) (by omega) (hv.bd (by omega)) (hv'.bd (by omega))).mono ?_
  rintro e w2 ⟨u, rfl, hO, hb⟩
  obtain ⟨vA, vc, rfl, _, _⟩ := OwnAr.at_ hO
  exact ⟨vA, vc, rfl, OwnAr.base hO (Nat.zero_le _), hb, by rw [hb.cell (p := ⟨gb, o, none⟩) hgb]; exact hc, by rw [hb.frozen (p := ⟨gb, o, none⟩) hgb]; exact hf⟩

/-- What extend leaves: two cells of the snapshot are other ones. -/
def ExtRet (w : World) (l : List Ar) (f : Bool) (gb o : Nat) (e : Ending) (w' : World) : Prop :=
  e = .returned (.tuple #[]) ∧ ∃ w2 v n, OwnAr w2 0 v l ∧ Below w.heap.size w w2 ∧ w' = ((w2.setCell ⟨gb, o + 18, none⟩ v).setCell ⟨gb, o + 19, none⟩ (.bool f)).drewN n

set_option maxHeartbeats 2000000 in
set_option maxRecDepth 100000 in
theorem extend_any (w : World) (gb o : Nat) (A A' : Option Addr) (c c' : Nat) (l : List Ar) (f : Bool) (s : SnapM) (hA : AreasAt w w.heap.size A l) (hA' : AreasAt w w.heap.size A' s.touched) (hl : l.length ≤ 16) (hl' : s.touched.length ≤ 16) (hv : ValidFrom 0 l) (hv' : ValidFrom 0 s.touched)
    (c1 : w.cell? ⟨gb, o + 18, none⟩ = some (.slice A l.length c)) (c2 : w.frozen? ⟨gb, o + 18, none⟩ = false) (d1 : w.cell? ⟨gb, o + 19, none⟩ = some (.bool f)) (d2 : w.frozen? ⟨gb, o + 19, none⟩ = false) :
    Calls Try.prog 59 #[.pointer (some ⟨gb, o, none⟩), .agg (sArr s (.slice A' s.touched.length c'))] w (ExtRet w (uni l s.touched) (f || s.forgot) gb o) := by
  have hgb := World.block_lt_of_cell? w _ c1
  simp only at hgb
  have hb0 : Below w.heap.size w (w.alloc (.cells (sArr s (.slice A' s.touched.length c')) 105)) := (Below.refl _ _).alloc (Nat.le_refl _) _
  have e18 : (w.alloc (.cells (sArr s (.slice A' s.touched.length c')) 105)).cell? ⟨w.heap.size, 18, none⟩ = some (.slice A' s.touched.length c') := cell_of_row _ _ _ _ _ _ (heap_alloc_new _ _)
  have e19 : (w.alloc (.cells (sArr s (.slice A' s.touched.length c')) 105)).cell? ⟨w.heap.size, 19, none⟩ = some (.bool s.forgot) := cell_of_row _ _ _ _ _ _ (heap_alloc_new _ _)
  generalize hw1 : w.alloc (.cells (sArr s (.slice A' s.touched.length c')) 105) = w1 at hb0 e18 e19
  have g1 : w1.cell? ⟨gb, o + 18, none⟩ = some (.slice A l.length c) := by rw [hb0.cell (p := ⟨gb, o + 18, none⟩) hgb]; exact c1
  have g2 : w1.frozen? ⟨gb, o + 18, none⟩ = false := by rw [hb0.frozen (p := ⟨gb, o + 18, none⟩) hgb]; exact c2
  have g3 : w1.cell? ⟨gb, o + 19, none⟩ = some (.bool f) := by rw [hb0.cell (p := ⟨gb, o + 19, none⟩) hgb]; exact d1
  have g4 : w1.frozen? ⟨gb, o + 19, none⟩ = false := by rw [hb0.frozen (p := ⟨gb, o + 19, none⟩) hgb]; exact d2
  have hs1 := hb0.size
  have hA1 : AreasAt w1.drew w1.drew.heap.size A l := hA.up hb0.drew
  have hA1' : AreasAt w1.drew w1.drew.heap.size A' s.touched := hA'.up hb0.drew
  have hgb1 : gb < w1.heap.size := by omega
  have hnew : w.heap.size < w1.heap.size := World.block_lt_of_cell? w1 _ e18
  have HW := Lib.hid hw1
  go_enter Try.func59, Try.ntmps59
  go_wp2
  clear hw1
  go_region_with (go_at_call 14; refine (union_keep w1.drew A A' c c' l s.touched gb (o + 18) _ hA1 hA1' hl hl' hv hv' g1 g2).mono ?_; rintro e w2 ⟨vA, vc, rfl, hO2, hb2, ht2, hf2⟩)
  all_goals
    have k3 : w2.cell? ⟨gb, o + 19, none⟩ = some (.bool f) := by rw [hb2.cell (p := ⟨gb, o + 19, none⟩) hgb1]; exact g3
    have k4 : w2.frozen? ⟨gb, o + 19, none⟩ = false := by rw [hb2.frozen (p := ⟨gb, o + 19, none⟩) hgb1]; exact g4
    have k5 : w2.cell? ⟨w.heap.size, 19, none⟩ = some (.bool s.forgot) := by rw [hb2.cell (p := ⟨w.heap.size, 19, none⟩) hnew]; exact e19
    have hbw : Below w.heap.size w w2 := belowThen hb0.drew hb2
    have hne : ¬ gb = w.heap.size := by omega
    clear g1 g2 g3 g4 e18 e19 c1 c2 d1 d2
    cases f
    · go_wp2
      go_end0
      exact ⟨rfl, w2, _, 0, hO2, hbw, rfl⟩
    · go_wp2
      go_end0
      exact ⟨rfl, w2, _, 0, hO2, hbw, rfl⟩
end Go.Proofs.Ytmcoenndfbgdfaa
