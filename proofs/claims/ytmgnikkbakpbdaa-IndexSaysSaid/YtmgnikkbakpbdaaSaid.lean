/- The law's same: an error, told by its number. -/
import Derived.Test.YtmgnikkbakpbdaaBase
namespace Go.Proofs.Ytmgnikkbakpbdaa
open Go.RowKit

theorem assertErrno2 (n : Int) (w : World) : (Instr.typeAssert (.iface 76 (.int .i64 n)) 43 76 true).run Try.prog w = .ok (.tuple #[.int .i64 n, .bool true]) w := by kernel_rfl

set_option maxRecDepth 100000 in
theorem said_any (n f : Int) (w : World) (hn : 0 ≤ n) :
    Calls Try.prog 11 #[errV n, .int .i64 f] w fun e w' => e = .returned (.bool (decide (n = f))) ∧ w = w' := by
  by_cases h0 : n = 0
  · subst h0
    show Calls _ _ #[.nilIface, _] _ _
    go_enter Try.func11, Try.ntmps11
    go_wp2
    go_ret
    refine ⟨ret_bool ?_, rfl⟩
    rw [Bool.eq_iff_iff]; simp; omega
  · have e : errV n = .iface 76 (.int .i64 n) := by simp [errV, h0]
    rw [e]
    have hta := assertErrno2 n w
    by_cases hf : 0 < f
    · go_enter Try.func11, Try.ntmps11
      go_wp2
      go_ret
      refine ⟨ret_bool ?_, rfl⟩
      rw [Bool.eq_iff_iff]; simp
    · have hf' : decide (0 < f) = false := by simpa using hf
      go_enter Try.func11, Try.ntmps11
      go_wp2
      go_ret
      refine ⟨ret_bool ?_, rfl⟩
      symm; simp; omega

theorem said_yes (n : Int) (w : World) (hn : 0 ≤ n) : Calls Try.prog 11 #[errV n, .int .i64 n] w fun e w' => e = .returned (.bool true) ∧ w = w' :=
  (said_any n n w hn).mono fun _ _ ⟨he, hw⟩ => ⟨by rw [he]; simp, hw⟩
theorem said_nil (w : World) : Calls Try.prog 11 #[.nilIface, .int .i64 0] w fun e w' => e = .returned (.bool true) ∧ w = w' := said_yes 0 w (by omega)
end Go.Proofs.Ytmgnikkbakpbdaa
