/- change, changed: a disk behind acts. -/
import Derived.Test.YtmcoenndfbgdfaaLight
import Derived.Test.YtmcoenndfbgdfaaVd12
import Derived.Test.YtmcoenndfbgdfaaVd8
namespace Go.Proofs.Ytmcoenndfbgdfaa
open Go.RowKit

/-- The number that Snap answers. -/
def snapId (D : DiskM) : Int := if snapErr D = 0 then D.last + 1 else 0
theorem snap_id (B g : Nat) (w : World) (D : DiskM) (hD : DiskAt B w g D) :
    Calls Try.prog 42 #[.pointer (some ⟨g, 0, none⟩)] w fun e w' => e = .returned (.tuple #[.int .i64 (snapId D), errV (snapErr D)]) ∧ DiskAt B w' g (snapM D) ∧ Step B dTypes w w' := snap_any B g w D hD

/-- A disk behind one act. -/
def changeM (D : DiskM) (m : ActM) : DiskM :=
  if (m.kind.toList == [119, 114, 105, 116, 101]) = true then writeM D m.a m.s
  else if (m.kind.toList == [115, 105, 122, 101]) = true then resizeM D m.a
  else if (m.kind.toList == [115, 110, 97, 112]) = true then snapM D
  else if (m.kind.toList == [117, 110, 115, 110, 97, 112]) = true then dropM D m.a
  else if (m.kind.toList == [102, 111, 114, 103, 101, 116]) = true then forgetM D
  else D

set_option maxHeartbeats 2000000 in
set_option maxRecDepth 100000 in
theorem change_any (B g : Nat) (w : World) (D : DiskM) (m : ActM) (hD : DiskAt B w g D) (hs : m.s.size ≤ maxLen) :
    Calls Try.prog 57 #[.pointer (some ⟨g, 0, none⟩), .agg (actArr m)] w fun e w' => e = .returned (.tuple #[]) ∧ DiskAt B w' g (changeM D m) ∧ Step B dTypes w w' := by
  have hs9 : m.s.size ≤ 9223372036854775807 := by unfold maxLen at hs; omega
  have hB0 : B ≤ w.heap.size := Nat.le_trans hD.base (Nat.le_of_lt hD.lt)
  have hb0 : Below w.heap.size w (w.alloc (.cells (actArr m) 51)) := (Below.refl _ _).alloc (Nat.le_refl _) _
  have e0 : (w.alloc (.cells (actArr m) 51)).cell? ⟨w.heap.size, 0, none⟩ = some (.string m.kind) := cell_of_row _ _ _ _ _ _ (heap_alloc_new _ _)
  have e1 : (w.alloc (.cells (actArr m) 51)).cell? ⟨w.heap.size, 1, none⟩ = some (.string m.s) := cell_of_row _ _ _ _ _ _ (heap_alloc_new _ _)
  have e2 : (w.alloc (.cells (actArr m) 51)).cell? ⟨w.heap.size, 2, none⟩ = some (.int .i64 m.a) := cell_of_row _ _ _ _ _ _ (heap_alloc_new _ _)
  generalize hw1 : w.alloc (.cells (actArr m) 51) = w1 at hb0 e0 e1 e2
  have hD1 := hD.below hb0
  have hs1 := Lib.hid (Step.of_below (ts := dTypes) hb0 hB0)
  clear hD hb0 hs
  cases hk0 : (m.kind.toList == [119, 114, 105, 116, 101]) with
  | true =>
    rw [show changeM D m = writeM D m.a m.s by unfold changeM; rw [hk0]; rfl]
    go_enter Try.func57, Try.ntmps57
    go_wp2_with fail
    ((with_reducible refine (write_any B g _ D m.a m.s hD1 hs9).mono ?_); rintro e w2 ⟨rfl, hD2, hs2⟩)
    go_wp2
    go_end0
    exact ⟨rfl, hD2, hs1.out.trans hs2⟩
  | false =>
    cases hk1 : (m.kind.toList == [115, 105, 122, 101]) with
    | true =>
      rw [show changeM D m = resizeM D m.a by unfold changeM; rw [hk0, hk1]; rfl]
      go_enter Try.func57, Try.ntmps57
      go_wp2_with fail
      ((with_reducible refine (resize_any B g _ D m.a hD1).mono ?_); rintro e w2 ⟨rfl, hD2, hs2⟩)
      go_wp2
      go_end0
      exact ⟨rfl, hD2, hs1.out.trans hs2⟩
    | false =>
      cases hk2 : (m.kind.toList == [115, 110, 97, 112]) with
      | true =>
        rw [show changeM D m = snapM D by unfold changeM; rw [hk0, hk1, hk2]; rfl]
        go_enter Try.func57, Try.ntmps57
        go_wp2_with fail
        ((with_reducible refine (snap_id B g _ D hD1).mono ?_); rintro e w2 ⟨rfl, hD2, hs2⟩)
        go_wp2
        go_end0
        exact ⟨rfl, hD2, hs1.out.trans hs2⟩
      | false =>
        cases hk3 : (m.kind.toList == [117, 110, 115, 110, 97, 112]) with
        | true =>
          rw [show changeM D m = dropM D m.a by unfold changeM; rw [hk0, hk1, hk2, hk3]; rfl]
          go_enter Try.func57, Try.ntmps57
          go_wp2_with fail
          ((with_reducible refine (drop_any B g _ D m.a hD1).mono ?_); rintro e w2 ⟨rfl, hD2, hs2⟩)
          go_wp2
          go_end0
          exact ⟨rfl, hD2, hs1.out.trans hs2⟩
        | false =>
          cases hk4 : (m.kind.toList == [102, 111, 114, 103, 101, 116]) with
          | true =>
            rw [show changeM D m = forgetM D by unfold changeM; rw [hk0, hk1, hk2, hk3, hk4]; rfl]
            go_enter Try.func57, Try.ntmps57
            go_wp2_with fail
            ((with_reducible refine (forget_any B g _ D hD1).mono ?_); rintro e w2 ⟨rfl, hD2, hs2⟩)
            go_wp2
            go_end0
            exact ⟨rfl, hD2, hs1.out.trans hs2⟩
          | false =>
            rw [show changeM D m = D by unfold changeM; rw [hk0, hk1, hk2, hk3, hk4]; rfl]
            go_enter Try.func57, Try.ntmps57
            go_wp2
            go_end0
            exact ⟨rfl, hD1, hs1.out⟩
end Go.Proofs.Ytmcoenndfbgdfaa
