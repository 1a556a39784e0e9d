/- number, tracked. -/
import Derived.Test.YtdgmmmjhajbbeaaChanged
import Derived.Test.YtdgmmmjhajbbeaaRefD
namespace Go.Proofs.Ytdgmmmjhajbbeaa
open Go.RowKit

set_option maxRecDepth 100000 in
theorem number_any (n : Int) (w : World) (hn : 0 ≤ n ∧ n ≤ 100) : Calls Try.prog 44 #[errV n] w fun e w' => e = .returned (.int .i64 n) ∧ w = w' := by
  by_cases h0 : n = 0
  · subst h0
    show Calls _ _ #[.nilIface] _ _
    go_enter Try.func44, Try.ntmps44
    go_wp2
    go_ret
    exact ⟨rfl, rfl⟩
  · have e : errV n = .iface 124 (.int .i64 n) := by simp [errV, h0]
    rw [e]
    have hta := assert_errno n w
    have i1 : IntKind.i64.wrap n = n := IntWalk.i64_in _ (by omega)
    go_enter Try.func44, Try.ntmps44
    go_wp2
    go_ret
    exact ⟨rfl, rfl⟩

def trD1 : DiskM := snapM (emptyDisk 4)
def trD2 : DiskM := writeM trD1 2 ⟨#[120]⟩
def trD3 : DiskM := snapM trD2

theorem tr_new (w : World) : Calls Try.prog 30 #[.int .i64 4] w fun e w' => e = .returned (.tuple #[.pointer (some ⟨w.heap.size, 0, none⟩), .nilIface]) ∧ DiskAt w.heap.size w' w.heap.size (emptyDisk 4) ∧ Below w.heap.size w w' := new_yes 4 w (by decide)
theorem tr_snap1 (B g : Nat) (w : World) (hD : DiskAt B w g (emptyDisk 4)) : Calls Try.prog 46 #[.pointer (some ⟨g, 0, none⟩)] w fun e w' => e = .returned (.tuple #[.int .i64 1, .nilIface]) ∧ DiskAt B w' g trD1 ∧ Step B dTypes w w' := snap_any B g w _ hD
theorem tr_write (B g : Nat) (w : World) (hD : DiskAt B w g trD1) : Calls Try.prog 47 #[.pointer (some ⟨g, 0, none⟩), .int .i64 2, .string ⟨#[120]⟩] w fun e w' => e = .returned .nilIface ∧ DiskAt B w' g trD2 ∧ Step B dTypes w w' := write_any B g w _ 2 ⟨#[120]⟩ hD (by decide)
theorem tr_snap2 (B g : Nat) (w : World) (hD : DiskAt B w g trD2) : Calls Try.prog 46 #[.pointer (some ⟨g, 0, none⟩)] w fun e w' => e = .returned (.tuple #[.int .i64 2, .nilIface]) ∧ DiskAt B w' g trD3 ∧ Step B dTypes w w' := snap_any B g w _ hD
theorem tr_err : chgErr trD3 1 2 = 0 := by decide +kernel
theorem tr_ar : chgAr trD3 1 2 = [(2, 1)] := by decide +kernel
theorem tr_changed (B g : Nat) (w : World) (hD : DiskAt B w g trD3) : Calls Try.prog 39 #[.pointer (some ⟨g, 0, none⟩), .int .i64 1, .int .i64 2] w fun e w' => ∃ A c, e = .returned (.tuple #[.slice A 1 c, .nilIface]) ∧ AreasAt w' w'.heap.size A [(2, 1)] ∧ Below w.heap.size w w' := by
  have h := changed_any B g w trD3 1 2 hD
  rw [tr_err, tr_ar] at h
  exact h

theorem same_lit (A : Option Addr) (c : Nat) (w : World) (hA : AreasAt w w.heap.size A [(2, 1)]) :
    Calls Try.prog 20 #[.slice A 1 c, .slice (some ⟨w.heap.size, 0, none⟩) 1 1] (w.alloc (.cells #[.int .i64 2, .int .i64 1] 76)) fun e w' => e = .returned (.bool true) ∧ Below w.heap.size w w' := by
  have hb : Below w.heap.size w (w.alloc (.cells #[.int .i64 2, .int .i64 1] 76)) := (Below.refl _ _).alloc (Nat.le_refl _) _
  exact (sameAreas_yes A _ c 1 [(2, 1)] [(2, 1)] _ (hA.up hb) ((areasAt_one w 2 1).mono (by simp)) (by simp) rfl).mono fun _ _ ⟨h, k⟩ => ⟨h, belowThen hb k⟩

set_option maxRecDepth 100000 in
theorem tracked_any (w : World) : Calls Try.prog 42 #[] w fun e w' => e = .returned (.bool true) ∧ Below w.heap.size w w' := by
  go_enter Try.func42, Try.ntmps42
  go_wp2_with fail
  ((with_reducible refine (tr_new _).mono ?_); rintro e w1 ⟨rfl, hD1, hb1⟩)
  go_wp2_with fail
  ((with_reducible refine (tr_snap1 _ _ _ hD1).mono ?_); rintro e w2 ⟨rfl, hD2, hs2⟩)
  replace hb1 := hb1.trans hs2.below
  clear hD1 hs2
  go_wp2_with fail
  ((with_reducible refine (tr_write _ _ _ hD2).mono ?_); rintro e w3 ⟨rfl, hD3, hs3⟩)
  replace hb1 := hb1.trans hs3.below
  clear hD2 hs3
  go_wp2_with fail
  ((with_reducible refine (tr_snap2 _ _ _ hD3).mono ?_); rintro e w4 ⟨rfl, hD4, hs4⟩)
  replace hb1 := hb1.trans hs4.below
  clear hD3 hs4
  go_wp2_with fail
  ((with_reducible refine (tr_changed _ _ _ hD4).mono ?_); rintro e w5 ⟨A, c, rfl, hA, hb5⟩)
  replace hb1 := belowThen hb1 hb5
  clear hD4 hb5
  go_wp2_with fail
  ((with_reducible refine (same_lit A c _ hA).mono ?_); rintro e w6 ⟨rfl, hb6⟩)
  go_wp2
  go_ret
  exact ⟨rfl, belowThen hb1 hb6⟩
end Go.Proofs.Ytdgmmmjhajbbeaa
