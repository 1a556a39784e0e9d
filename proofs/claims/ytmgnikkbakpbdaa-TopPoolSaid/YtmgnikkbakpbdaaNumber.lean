/- counterfoiltop.number. -/
import Derived.Test.YtmgnikkbakpbdaaBase
namespace Go.Proofs.Ytmgnikkbakpbdaa
open Go.RowKit

theorem assertErrno (n : Int) (w : World) : (Instr.typeAssert (.iface 76 (.int .i64 n)) 43 76 true).run Try.prog w = .ok (.tuple #[.int .i64 n, .bool true]) w := by kernel_rfl

set_option maxRecDepth 100000 in
theorem num_any (n : Int) (w : World) (hn : 0 ≤ n ∧ n ≤ 100) : Calls Try.prog 35 #[errV n] w fun e w' => e = .returned (.int .i64 n) ∧ w = w' := by
  by_cases h0 : n = 0
  · subst h0
    show Calls _ _ #[.nilIface] _ _
    go_enter Try.func35, Try.ntmps35
    go_wp2
    go_ret
    exact ⟨rfl, rfl⟩
  · have e : errV n = .iface 76 (.int .i64 n) := by simp [errV, h0]
    rw [e]
    have hta := assertErrno n w
    have i1 : IntKind.i64.wrap n = n := IntWalk.i64_in _ (by omega)
    go_enter Try.func35, Try.ntmps35
    go_wp2
    go_ret
    exact ⟨rfl, rfl⟩
end Go.Proofs.Ytmgnikkbakpbdaa
