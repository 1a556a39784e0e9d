/- Names: the constants and errors of package api have the documented numbers. The walk of the law. -/
import Derived.Test.YtiiladlhfglfoaaDoorProg
import Derived.WalkKit
import Derived.WalkLawsBesides
import Derived.WalkSpells
import Derived.Lib.Hide
import Derived.Deep.QuietTactic
import Derived.BigQuiet
import Derived.Outline
import Derived.KernelRfl
namespace Go.Proofs.YtiiladlhfglfoaaDoor
open Go.RowKit

theorem ret_bool {a b : Bool} (h : a = b) : Ending.returned (.bool a) = .returned (.bool b) := by rw [h]

theorem assert_errno (n : Int) (w : World) : (Instr.typeAssert (.iface 23 (.int .i64 n)) 27 23 true).run Tryd.prog w = .ok (.tuple #[.int .i64 n, .bool true]) w := by kernel_rfl

set_option maxRecDepth 100000 in
theorem same_num (n : Int) (w : World) (hn : 0 < n) :
    Calls Tryd.prog 4 #[.iface 23 (.int .i64 n), .int .i64 n] w fun e w' => e = .returned (.bool true) ∧ w = w' := by
  have hta := assert_errno n w
  go_enter Tryd.func4, Tryd.ntmps4
  go_wp2
  go_ret
  exact ⟨rfl, rfl⟩

/-- Two slices of so many equal numbers. -/
theorem sameNumbers_yes (b b' n c c' : Nat) (f : Nat → Int) (w : World) (hn : n ≤ 1000) (h1 : ∀ k, k < n → w.cell? ⟨b, k, none⟩ = some (.int .i64 (f k))) (h2 : ∀ k, k < n → w.cell? ⟨b', k, none⟩ = some (.int .i64 (f k))) :
    Calls Tryd.prog 5 #[.slice (some ⟨b, 0, none⟩) n c, .slice (some ⟨b', 0, none⟩) n c'] w fun e w' => e = .returned (.bool true) ∧ Below w.heap.size w w' := by
  have H1 := Lib.hid h1
  have H2 := Lib.hid h2
  clear h1 h2
  go_enter Tryd.func5, Tryd.ntmps5
  go_wp2
  go_loopw [5] (fun i w' => ∃ k : Nat, k ≤ n ∧ i = .int .i64 k ∧ Below w.heap.size w w') (fun i _ => n - (intOf i).toNat)
  case atStart => exact ⟨0, Nat.zero_le _, rfl, Below.refl _ _⟩
  case round =>
    obtain ⟨k, hk, rfl, hb⟩ := hrel
    by_cases hlt : k < n
    · have c1 := H1.out k hlt
      have c2 := H2.out k hlt
      have d1 : wr.cell? ⟨b, k, none⟩ = some (.int .i64 (f k)) := by rw [hb.cell (p := ⟨b, k, none⟩) (World.block_lt_of_cell? w _ c1)]; exact c1
      have d2 : wr.cell? ⟨b', k, none⟩ = some (.int .i64 (f k)) := by rw [hb.cell (p := ⟨b', k, none⟩) (World.block_lt_of_cell? w _ c2)]; exact c2
      clear c1 c2
      go_wp2
      go_quiet (fail)
      go_wp2
      go_roundw
      case rel => exact ⟨k + 1, hlt, by go_num, below_drewN hb _⟩
      case measure => simp [intOf]; omega
    · go_wp2
      go_ret
      exact ⟨rfl, hb⟩

def nums : Array Value := #[.int .i64 16, .int .i64 6, .int .i64 5, .int .i64 40, .int .i64 24, .int .i64 6, .int .i64 3, .int .i64 3, .int .i64 999, .int .i64 4, .int .i64 8, .int .i64 48, .int .i64 72, .int .i64 80, .int .i64 80, .int .i64 260, .int .i64 80, .int .i64 60]
def numAt (k : Nat) : Int := [16, 6, 5, 40, 24, 6, 3, 3, 999, 4, 8, 48, 72, 80, 80, 260, 80, 60].getD k 0
theorem nums_at : ∀ k, k < 18 → nums[k]? = some (.int .i64 (numAt k)) := by
  intro k hk
  have : k = 0 ∨ k = 1 ∨ k = 2 ∨ k = 3 ∨ k = 4 ∨ k = 5 ∨ k = 6 ∨ k = 7 ∨ k = 8 ∨ k = 9 ∨ k = 10 ∨ k = 11 ∨ k = 12 ∨ k = 13 ∨ k = 14 ∨ k = 15 ∨ k = 16 ∨ k = 17 := by omega
  rcases this with rfl | rfl | rfl | rfl | rfl | rfl | rfl | rfl | rfl | rfl | rfl | rfl | rfl | rfl | rfl | rfl | rfl | rfl <;> rfl
def errs : Array Value := #[.iface 23 (.int .i64 1), .iface 23 (.int .i64 2), .iface 23 (.int .i64 3), .iface 23 (.int .i64 4), .iface 23 (.int .i64 5), .iface 23 (.int .i64 6), .iface 23 (.int .i64 7), .iface 23 (.int .i64 8), .iface 23 (.int .i64 9)]
theorem errs_at : ∀ k : Nat, k < 9 → errs[k]? = some (.iface 23 (.int .i64 ((k : Int) + 1))) := by
  intro k hk
  have : k = 0 ∨ k = 1 ∨ k = 2 ∨ k = 3 ∨ k = 4 ∨ k = 5 ∨ k = 6 ∨ k = 7 ∨ k = 8 := by omega
  rcases this with rfl | rfl | rfl | rfl | rfl | rfl | rfl | rfl | rfl <;> rfl

set_option maxRecDepth 100000 in
set_option maxHeartbeats 1000000 in
theorem error_nine (w : World) : Calls Tryd.prog 6 #[.int .i64 9] w fun e w' => e = .returned (.string ⟨#[99, 111, 117, 110, 116, 101, 114, 102, 111, 105, 108, 58, 32, 101, 114, 114, 111, 114, 32, 57]⟩) ∧ w = w' := by
  go_enter Tryd.func6, Tryd.ntmps6
  go_wp2
  go_ret
  refine ⟨?_, rfl⟩
  kernel_rfl

set_option maxRecDepth 100000 in
set_option maxHeartbeats 1000000 in
theorem names_walk (w : World) : Calls Tryd.prog 3 #[] w fun e w' => e = .returned (.bool true) ∧ Below w.heap.size w w' := by
  go_enter Tryd.func3, Tryd.ntmps3
  go_wp2
  have hW0 : Below w.heap.size w (((w.alloc (.cells nums 3)).alloc (.cells nums 3)).alloc (.cells errs 27)) := (((Below.refl _ _).alloc (Nat.le_refl _) _).alloc (by simp) _).alloc (by simp; omega) _
  have c1 : ∀ k, k < 18 → (((w.alloc (.cells nums 3)).alloc (.cells nums 3)).alloc (.cells errs 27)).cell? ⟨w.heap.size, k, none⟩ = some (.int .i64 (numAt k)) := fun k hk => by
    rw [World.cell?_alloc_lt _ _ _ (by simp; omega), World.cell?_alloc_lt _ _ _ (by simp), cell_of_row _ _ _ nums _ _ (heap_alloc_new _ _)]; exact nums_at k hk
  have c2 : ∀ k, k < 18 → (((w.alloc (.cells nums 3)).alloc (.cells nums 3)).alloc (.cells errs 27)).cell? ⟨w.heap.size + 1, k, none⟩ = some (.int .i64 (numAt k)) := fun k hk => by
    rw [World.cell?_alloc_lt _ _ _ (by simp)]
    have := cell_of_row _ (w.alloc (.cells nums 3)).heap.size k nums _ _ (heap_alloc_new (w.alloc (.cells nums 3)) (.cells nums 3))
    rw [World.size_alloc] at this
    rw [this]; exact nums_at k hk
  have c3 : ∀ k : Nat, k < 9 → (((w.alloc (.cells nums 3)).alloc (.cells nums 3)).alloc (.cells errs 27)).cell? ⟨w.heap.size + 1 + 1, k, none⟩ = some (.iface 23 (.int .i64 ((k : Int) + 1))) := fun k hk => by
    have := cell_of_row _ ((w.alloc (.cells nums 3)).alloc (.cells nums 3)).heap.size k errs _ _ (heap_alloc_new ((w.alloc (.cells nums 3)).alloc (.cells nums 3)) (.cells errs 27))
    rw [World.size_alloc, World.size_alloc] at this
    rw [this]; exact errs_at k hk
  obtain ⟨W0, hW⟩ : ∃ W0, (((w.alloc (.cells nums 3)).alloc (.cells nums 3)).alloc (.cells errs 27)) = W0 := ⟨_, rfl⟩
  have hz : w.heap.size + 3 = W0.heap.size := by rw [← hW]; simp
  rw [hW] at hW0 c1 c2 c3
  have C1 := Lib.hid c1
  have C2 := Lib.hid c2
  have C3 := Lib.hid c3
  have HW := Lib.hid hW
  have HZ := Lib.hid hz
  clear c1 c2 c3 hW hz
  go_loopw [4] (fun t w' => ∃ k : Nat, k ≤ 9 ∧ t = .int .i64 k ∧ Below W0.heap.size W0 w') (fun t _ => 9 - (intOf t).toNat)
  case atStart =>
    refine ⟨0, by omega, rfl, ?_⟩
    have : W0 = (((w.alloc (.cells nums 3)).alloc (.cells nums 3)).alloc (.cells errs 27)) := HW.out.symm
    subst this
    exact Below.refl _ _
  case round =>
    obtain ⟨k, hk, rfl, hb⟩ := hrel
    by_cases hlt : k < 9
    · have d3 : wr.cell? ⟨w.heap.size + 1 + 1, k, none⟩ = some (.iface 23 (.int .i64 ((k : Int) + 1))) := by
        rw [hb.cell (p := ⟨w.heap.size + 1 + 1, k, none⟩) (by have := HZ.out; simp; omega)]; exact C3.out k hlt
      go_wp2_with fail
      ((with_reducible refine (same_num _ _ (by omega)).mono ?_); rintro e w' ⟨rfl, rfl⟩)
      go_wp2
      go_roundw
      case rel => exact ⟨k + 1, hlt, by go_num, hb⟩
      case measure => simp [intOf]; omega
    · have e1 : ∀ k, k < 18 → wr.cell? ⟨w.heap.size, k, none⟩ = some (.int .i64 (numAt k)) := fun k hk => by
        rw [hb.cell (p := ⟨w.heap.size, k, none⟩) (by have := HZ.out; simp; omega)]; exact C1.out k hk
      have e2 : ∀ k, k < 18 → wr.cell? ⟨w.heap.size + 1, k, none⟩ = some (.int .i64 (numAt k)) := fun k hk => by
        rw [hb.cell (p := ⟨w.heap.size + 1, k, none⟩) (by have := HZ.out; simp; omega)]; exact C2.out k hk
      have E1 := Lib.hid e1
      have E2 := Lib.hid e2
      clear e1 e2
      have hbw : Below w.heap.size w wr := hW0.trans (hb.mono (by have := HZ.out; omega))
      go_wp2_with fail
      ((with_reducible refine (sameNumbers_yes _ _ 18 _ _ numAt _ (by omega) E1.out E2.out).mono ?_); rintro e w2 ⟨rfl, hb2⟩)
      go_wp2_with fail
      ((with_reducible refine (error_nine _).mono ?_); rintro e w3 ⟨rfl, rfl⟩)
      go_wp2
      go_ret
      exact ⟨rfl, hbw.trans (hb2.mono hbw.size)⟩
end Go.Proofs.YtiiladlhfglfoaaDoor
