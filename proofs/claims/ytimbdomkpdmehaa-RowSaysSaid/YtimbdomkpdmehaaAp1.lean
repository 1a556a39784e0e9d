/- Package row: how keys are compared. -/
import Derived.Test.YtimbdomkpdmehaaCmp
namespace Go.Proofs.Ytimbdomkpdmehaa
open Go.RowKit

theorem compareString_any (a b : ByteArray) (w : World) : Calls Try.prog 44 #[.string a, .string b] w fun e w' => e = .returned (.int .i64 (cmpB a b)) ∧ w' = w := by
  have hr : (callFunc 47 #[.string a, .string b]).run Try.prog w = .ok (.value (.int .i64 (cmpB a b))) w := by
    rw [run_callFunc_extern Try.func47 (by kernel_rfl) (by kernel_rfl) (by kernel_rfl) (e := Extern.BytealgCompare.compare) (by kernel_rfl), Lib.run_compareString]
    rfl
  go_enter Try.func44, Try.ntmps44
  go_wp2_with (simp only [hr])
  go_ret
  exact ⟨rfl, rfl⟩

theorem compare_any (a b : ByteArray) (w : World) : Calls Try.prog 41 #[.string a, .string b] w fun e w' => e = .returned (.int .i64 (cmpB a b)) ∧ w' = w := by
  have HC := Lib.hid (compareString_any a b)
  go_enter Try.func41, Try.ntmps41
  go_wp2_with ((with_reducible refine (HC.out _).mono ?_); rintro e w1 ⟨rfl, rfl⟩)
  go_ret
  exact ⟨rfl, rfl⟩

/-- What Apply hands to the search. -/
theorem applyCmp_any (c : Ch) (k : ByteArray) (w : World) : Calls Try.prog 40 #[.agg (chArr c), .string k] w fun e w' => e = .returned (.int .i64 (cmpB c.key k)) ∧ Below w.heap.size w w' := by
  have HC := Lib.hid (compare_any c.key k)
  rw [show chArr c = #[.string c.key, .string c.val, .bool c.gone] from rfl]
  obtain ⟨key, val, gone⟩ := c
  simp only [] at *
  have HB := Lib.hid (show Below w.heap.size w (w.alloc (.cells #[.string key, .string val, .bool gone] 55)) from (Below.refl _ _).alloc (Nat.le_refl _) _)
  go_enter Try.func40, Try.ntmps40
  go_wp2_with ((with_reducible refine (HC.out _).mono ?_); rintro e w1 ⟨rfl, rfl⟩)
  go_ret
  exact ⟨rfl, HB.out⟩
end Go.Proofs.Ytimbdomkpdmehaa
