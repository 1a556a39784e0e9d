/- VdiskSays: the law's changed and changedRef. -/
import Derived.Test.YtmcoenndfbgdfaaRv12
import Derived.Test.YtmcoenndfbgdfaaChange
namespace Go.Proofs.Ytmcoenndfbgdfaa
open Go.RowKit

def chNum (D : DiskM) (m : ActM) : Int :=
  if (m.kind.toList == [119, 114, 105, 116, 101]) = true then 0
  else if (m.kind.toList == [115, 105, 122, 101]) = true then 0
  else if (m.kind.toList == [115, 110, 97, 112]) = true then snapId D
  else 0
def chE (D : DiskM) (m : ActM) : Int :=
  if (m.kind.toList == [119, 114, 105, 116, 101]) = true then writeErr D m.a m.s
  else if (m.kind.toList == [115, 105, 122, 101]) = true then resizeErr m.a
  else if (m.kind.toList == [115, 110, 97, 112]) = true then snapErr D
  else if (m.kind.toList == [117, 110, 115, 110, 97, 112]) = true then dropErr D m.a
  else 0
def rvDropX (R : RVm) (id : Int) : RVm := match rposIn R.snaps id with
  | none => R
  | some i => rvDropM R i
def rvDropXE (R : RVm) (id : Int) : Int := match rposIn R.snaps id with
  | none => 5
  | some _ => 0
def rvChange (R : RVm) (m : ActM) : RVm :=
  if (m.kind.toList == [119, 114, 105, 116, 101]) = true then rvWrite R m.a m.s
  else if (m.kind.toList == [115, 105, 122, 101]) = true then rvResize R m.a
  else if (m.kind.toList == [115, 110, 97, 112]) = true then rvSnap R
  else if (m.kind.toList == [117, 110, 115, 110, 97, 112]) = true then rvDropX R m.a
  else if (m.kind.toList == [102, 111, 114, 103, 101, 116]) = true then rvForget R
  else R
def rvId (R : RVm) : Int := if rvSnapE R = 0 then (R.next : Int) else 0
def rvNum (R : RVm) (m : ActM) : Int :=
  if (m.kind.toList == [119, 114, 105, 116, 101]) = true then 0
  else if (m.kind.toList == [115, 105, 122, 101]) = true then 0
  else if (m.kind.toList == [115, 110, 97, 112]) = true then rvId R
  else 0
def rvE (R : RVm) (m : ActM) : Int :=
  if (m.kind.toList == [119, 114, 105, 116, 101]) = true then rvWriteE R m.a m.s
  else if (m.kind.toList == [115, 105, 122, 101]) = true then rvResizeE m.a
  else if (m.kind.toList == [115, 110, 97, 112]) = true then rvSnapE R
  else if (m.kind.toList == [117, 110, 115, 110, 97, 112]) = true then rvDropXE R m.a
  else 0

theorem rvSnap_id (B g : Nat) (w : World) (R : RVm) (hD : RVAt B w g R) : Calls Try.prog 51 #[.pointer (some ⟨g, 0, none⟩)] w fun e w' => e = .returned (.tuple #[.int .i64 (rvId R), .int .i64 (rvSnapE R)]) ∧ RVAt B w' g (rvSnap R) ∧ Step B rvTypes w w' := rvSnap_any B g w R hD
set_option maxRecDepth 100000 in
theorem rvDrop_any (B g : Nat) (w : World) (R : RVm) (id : Int) (hD : RVAt B w g R) :
    Calls Try.prog 52 #[.pointer (some ⟨g, 0, none⟩), .int .i64 id] w fun e w' => e = .returned (.int .i64 (rvDropXE R id)) ∧ RVAt B w' g (rvDropX R id) ∧ Step B rvTypes w w' := by
  cases hpo : rposIn R.snaps id with
  | some i =>
    have e1 : rvDropXE R id = 0 := by unfold rvDropXE; rw [hpo]
    have e2 : rvDropX R id = rvDropM R i := by unfold rvDropX; rw [hpo]
    rw [e1, e2]
    exact rvDrop_some B g w R id hD i hpo
  | none =>
    have e1 : rvDropXE R id = 5 := by unfold rvDropXE; rw [hpo]
    have e2 : rvDropX R id = R := by unfold rvDropX; rw [hpo]
    rw [e1, e2]
    clear e1 e2
    go_enter Try.func52, Try.ntmps52
    go_wp2_with fail
    ((with_reducible refine (rvat_none B g _ R id hD hpo).mono ?_); rintro e w1 ⟨rfl, n1, rfl⟩)
    go_wp2
    go_ret
    exact ⟨rfl, hD.below (below_drewN (Below.refl _ _) _), (Step.refl _ _ _).drewN _⟩

set_option maxHeartbeats 2000000 in
set_option maxRecDepth 100000 in
theorem lawChanged_any (B g : Nat) (w : World) (D : DiskM) (m : ActM) (hD : DiskAt B w g D) (hs : m.s.size ≤ maxLen) :
    Calls Try.prog 25 #[.pointer (some ⟨g, 0, none⟩), .agg (actArr m)] w fun e w' => e = .returned (.tuple #[.int .i64 (chNum D m), errV (chE D m)]) ∧ DiskAt B w' g (changeM D m) ∧ Step B dTypes w w' := by
  have hs9 : m.s.size ≤ 9223372036854775807 := by unfold maxLen at hs; omega
  have hB0 : B ≤ w.heap.size := Nat.le_trans hD.base (Nat.le_of_lt hD.lt)
  have hb0 : Below w.heap.size w (w.alloc (.cells (actArr m) 51)) := (Below.refl _ _).alloc (Nat.le_refl _) _
  have e0 : (w.alloc (.cells (actArr m) 51)).cell? ⟨w.heap.size, 0, none⟩ = some (.string m.kind) := cell_of_row _ _ _ _ _ _ (heap_alloc_new _ _)
  have e1 : (w.alloc (.cells (actArr m) 51)).cell? ⟨w.heap.size, 1, none⟩ = some (.string m.s) := cell_of_row _ _ _ _ _ _ (heap_alloc_new _ _)
  have e2 : (w.alloc (.cells (actArr m) 51)).cell? ⟨w.heap.size, 2, none⟩ = some (.int .i64 m.a) := cell_of_row _ _ _ _ _ _ (heap_alloc_new _ _)
  generalize hw1 : w.alloc (.cells (actArr m) 51) = w1 at hb0 e0 e1 e2
  have hD1 := hD.below hb0
  have hs1 := Lib.hid (Step.of_below (ts := dTypes) hb0 hB0)
  clear hD hb0 hs
  cases hk0 : (m.kind.toList == [119, 114, 105, 116, 101]) with
  | true =>
    rw [show changeM D m = writeM D m.a m.s by unfold changeM; simp only [hk0]; simp, show chNum D m = 0 by unfold chNum; simp [hk0], show chE D m = writeErr D m.a m.s by unfold chE; simp [hk0]]
    go_enter Try.func25, Try.ntmps25
    go_wp2_with fail
    ((with_reducible refine (write_any B g _ D m.a m.s hD1 hs9).mono ?_); rintro e w2 ⟨rfl, hD2, hs2⟩)
    go_wp2
    go_ret2
    exact ⟨rfl, hD2, hs1.out.trans hs2⟩
  | false =>
    cases hk1 : (m.kind.toList == [115, 105, 122, 101]) with
    | true =>
      rw [show changeM D m = resizeM D m.a by unfold changeM; simp only [hk0, hk1]; simp, show chNum D m = 0 by unfold chNum; simp [hk0, hk1], show chE D m = resizeErr m.a by unfold chE; simp [hk0, hk1]]
      go_enter Try.func25, Try.ntmps25
      go_wp2_with fail
      ((with_reducible refine (resize_any B g _ D m.a hD1).mono ?_); rintro e w2 ⟨rfl, hD2, hs2⟩)
      go_wp2
      go_ret2
      exact ⟨rfl, hD2, hs1.out.trans hs2⟩
    | false =>
      cases hk2 : (m.kind.toList == [115, 110, 97, 112]) with
      | true =>
        rw [show changeM D m = snapM D by unfold changeM; simp only [hk0, hk1, hk2]; simp, show chNum D m = snapId D by unfold chNum; simp [hk0, hk1, hk2], show chE D m = snapErr D by unfold chE; simp [hk0, hk1, hk2]]
        go_enter Try.func25, Try.ntmps25
        go_wp2_with fail
        ((with_reducible refine (snap_id B g _ D hD1).mono ?_); rintro e w2 ⟨rfl, hD2, hs2⟩)
        go_wp2
        go_ret2
        exact ⟨rfl, hD2, hs1.out.trans hs2⟩
      | false =>
        cases hk3 : (m.kind.toList == [117, 110, 115, 110, 97, 112]) with
        | true =>
          rw [show changeM D m = dropM D m.a by unfold changeM; simp only [hk0, hk1, hk2, hk3]; simp, show chNum D m = 0 by unfold chNum; simp [hk0, hk1, hk2], show chE D m = dropErr D m.a by unfold chE; simp [hk0, hk1, hk2, hk3]]
          go_enter Try.func25, Try.ntmps25
          go_wp2_with fail
          ((with_reducible refine (drop_any B g _ D m.a hD1).mono ?_); rintro e w2 ⟨rfl, hD2, hs2⟩)
          go_wp2
          go_ret2
          exact ⟨rfl, hD2, hs1.out.trans hs2⟩
        | false =>
          cases hk4 : (m.kind.toList == [102, 111, 114, 103, 101, 116]) with
          | true =>
            rw [show changeM D m = forgetM D by unfold changeM; simp only [hk0, hk1, hk2, hk3, hk4]; simp, show chNum D m = 0 by unfold chNum; simp [hk0, hk1, hk2], show chE D m = 0 by unfold chE; simp [hk0, hk1, hk2, hk3]]
            go_enter Try.func25, Try.ntmps25
            go_wp2_with fail
            ((with_reducible refine (forget_any B g _ D hD1).mono ?_); rintro e w2 ⟨rfl, hD2, hs2⟩)
            go_wp2
            go_ret2
            exact ⟨rfl, hD2, hs1.out.trans hs2⟩
          | false =>
            rw [show changeM D m = D by unfold changeM; simp [hk0, hk1, hk2, hk3, hk4], show chNum D m = 0 by unfold chNum; simp [hk0, hk1, hk2], show chE D m = 0 by unfold chE; simp [hk0, hk1, hk2, hk3]]
            go_enter Try.func25, Try.ntmps25
            go_wp2
            go_ret2
            exact ⟨rfl, hD1, hs1.out⟩

set_option maxHeartbeats 2000000 in
set_option maxRecDepth 100000 in
theorem lawChangedRef_any (B g : Nat) (w : World) (D : RVm) (m : ActM) (hD : RVAt B w g D) (hs : m.s.size ≤ maxLen) (ht : D.time ≤ 1000000) :
    Calls Try.prog 26 #[.pointer (some ⟨g, 0, none⟩), .agg (actArr m)] w fun e w' => e = .returned (.tuple #[.int .i64 (rvNum D m), .int .i64 (rvE D m)]) ∧ RVAt B w' g (rvChange D m) ∧ Step B rvTypes w w' := by
  have hs9 : m.s.size ≤ 9223372036854775807 := by unfold maxLen at hs; omega
  have hB0 : B ≤ w.heap.size := Nat.le_trans hD.base (Nat.le_of_lt hD.lt)
  have hb0 : Below w.heap.size w (w.alloc (.cells (actArr m) 51)) := (Below.refl _ _).alloc (Nat.le_refl _) _
  have e0 : (w.alloc (.cells (actArr m) 51)).cell? ⟨w.heap.size, 0, none⟩ = some (.string m.kind) := cell_of_row _ _ _ _ _ _ (heap_alloc_new _ _)
  have e1 : (w.alloc (.cells (actArr m) 51)).cell? ⟨w.heap.size, 1, none⟩ = some (.string m.s) := cell_of_row _ _ _ _ _ _ (heap_alloc_new _ _)
  have e2 : (w.alloc (.cells (actArr m) 51)).cell? ⟨w.heap.size, 2, none⟩ = some (.int .i64 m.a) := cell_of_row _ _ _ _ _ _ (heap_alloc_new _ _)
  generalize hw1 : w.alloc (.cells (actArr m) 51) = w1 at hb0 e0 e1 e2
  have hD1 := hD.below hb0
  have hs1 := Lib.hid (Step.of_below (ts := rvTypes) hb0 hB0)
  clear hD hb0 hs
  cases hk0 : (m.kind.toList == [119, 114, 105, 116, 101]) with
  | true =>
    rw [show rvChange D m = rvWrite D m.a m.s by unfold rvChange; simp only [hk0]; simp, show rvNum D m = 0 by unfold rvNum; simp [hk0], show rvE D m = rvWriteE D m.a m.s by unfold rvE; simp [hk0]]
    go_enter Try.func26, Try.ntmps26
    go_wp2_with fail
    ((with_reducible refine (rvWrite_any B g _ D m.a m.s hD1 hs9).mono ?_); rintro e w2 ⟨rfl, hD2, hs2⟩)
    go_wp2
    go_ret2
    exact ⟨rfl, hD2, hs1.out.trans hs2⟩
  | false =>
    cases hk1 : (m.kind.toList == [115, 105, 122, 101]) with
    | true =>
      rw [show rvChange D m = rvResize D m.a by unfold rvChange; simp only [hk0, hk1]; simp, show rvNum D m = 0 by unfold rvNum; simp [hk0, hk1], show rvE D m = rvResizeE m.a by unfold rvE; simp [hk0, hk1]]
      go_enter Try.func26, Try.ntmps26
      go_wp2_with fail
      ((with_reducible refine (rvResize_any B g _ D m.a hD1).mono ?_); rintro e w2 ⟨rfl, hD2, hs2⟩)
      go_wp2
      go_ret2
      exact ⟨rfl, hD2, hs1.out.trans hs2⟩
    | false =>
      cases hk2 : (m.kind.toList == [115, 110, 97, 112]) with
      | true =>
        rw [show rvChange D m = rvSnap D by unfold rvChange; simp only [hk0, hk1, hk2]; simp, show rvNum D m = rvId D by unfold rvNum; simp [hk0, hk1, hk2], show rvE D m = rvSnapE D by unfold rvE; simp [hk0, hk1, hk2]]
        go_enter Try.func26, Try.ntmps26
        go_wp2_with fail
        ((with_reducible refine (rvSnap_id B g _ D hD1).mono ?_); rintro e w2 ⟨rfl, hD2, hs2⟩)
        go_wp2
        go_ret2
        exact ⟨rfl, hD2, hs1.out.trans hs2⟩
      | false =>
        cases hk3 : (m.kind.toList == [117, 110, 115, 110, 97, 112]) with
        | true =>
          rw [show rvChange D m = rvDropX D m.a by unfold rvChange; simp only [hk0, hk1, hk2, hk3]; simp, show rvNum D m = 0 by unfold rvNum; simp [hk0, hk1, hk2], show rvE D m = rvDropXE D m.a by unfold rvE; simp [hk0, hk1, hk2, hk3]]
          go_enter Try.func26, Try.ntmps26
          go_wp2_with fail
          ((with_reducible refine (rvDrop_any B g _ D m.a hD1).mono ?_); rintro e w2 ⟨rfl, hD2, hs2⟩)
          go_wp2
          go_ret2
          exact ⟨rfl, hD2, hs1.out.trans hs2⟩
        | false =>
          cases hk4 : (m.kind.toList == [102, 111, 114, 103, 101, 116]) with
          | true =>
            rw [show rvChange D m = rvForget D by unfold rvChange; simp only [hk0, hk1, hk2, hk3, hk4]; simp, show rvNum D m = 0 by unfold rvNum; simp [hk0, hk1, hk2], show rvE D m = 0 by unfold rvE; simp [hk0, hk1, hk2, hk3]]
            go_enter Try.func26, Try.ntmps26
            go_wp2_with fail
            ((with_reducible refine (rvForget_any B g _ D hD1 ht).mono ?_); rintro e w2 ⟨rfl, hD2, hs2⟩)
            go_wp2
            go_ret2
            exact ⟨rfl, hD2, hs1.out.trans hs2⟩
          | false =>
            rw [show rvChange D m = D by unfold rvChange; simp [hk0, hk1, hk2, hk3, hk4], show rvNum D m = 0 by unfold rvNum; simp [hk0, hk1, hk2], show rvE D m = 0 by unfold rvE; simp [hk0, hk1, hk2, hk3]]
            go_enter Try.func26, Try.ntmps26
            go_wp2
            go_ret2
            exact ⟨rfl, hD1, hs1.out⟩
end Go.Proofs.Ytmcoenndfbgdfaa
