/- Package index: Share. -/
import Derived.Test.YtmgnikkbakpbdaaIdx4
namespace Go.Proofs.Ytmgnikkbakpbdaa
open Go.RowKit Go.Maps

theorem idxShare_any (w : World) (x gp bp bn K : Nat) (X : IdxM) (root : Nat) (h : IdxAt w x gp bp bn K X) (hr : root ≤ 1000) (hK : K ≤ 1000000000) :
    Calls Try.prog 25 #[.pointer (some ⟨x, 0, none⟩), .int .i64 root] w (IdxRet w x gp bp bn (K + 1) (X.refN root) (.int .i64 root)) := by
  go_enter Try.func25, Try.ntmps25
  go_wp2_with fail
  ((with_reducible refine (refNode_any _ x gp bp bn K X root h hr hK).mono ?_); rintro e w1 ⟨rfl, h1, t1⟩)
  go_wp2
  go_ret
  exact ⟨rfl, h1, t1⟩
end Go.Proofs.Ytmgnikkbakpbdaa
