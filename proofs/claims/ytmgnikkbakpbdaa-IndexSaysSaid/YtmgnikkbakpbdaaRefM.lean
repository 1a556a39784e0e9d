/- What the reference's Free and Set ask for is there. -/
import Derived.Test.YtmgnikkbakpbdaaRefN
import Derived.Test.YtmgnikkbakpbdaaIdxF
namespace Go.Proofs.Ytmgnikkbakpbdaa
open Go.RowKit Go.Maps

theorem held_has {Y : IdxM} {HR HL HB : List Nat} {k : Nat} (g : Inv Y HR (opt k HL) HB) : k = 0 ∨ hasNod Y.N k = true := by
  by_cases e : k = 0
  · exact .inl e
  · refine .inr ?_
    rw [g.hasN]
    have := (g.hl k (by unfold opt; rw [if_neg e]; simp)).1
    simpa using this
theorem free_kids {X : IdxM} {HR : List Nat} {l : Nat} (h : Inv X (l :: HR) [] []) (h1 : (X.N l).refs = 1) : ∀ i, i < 4 → (X.N l).kid i = 0 ∨ hasNod (eachUp IdxM.relLeaf { X with N := setNod X.N l noNod } (X.N l) i).N ((X.N l).kid i) = true := by
  have g0 := h.noRoot h1
  have g1 := Inv.relLeaf _ g0
  have g2 := Inv.relLeaf _ g1
  have g3 := Inv.relLeaf _ g2
  intro i hi
  match i, hi with
  | 0, _ => exact held_has g0
  | 1, _ => exact held_has g1
  | 2, _ => exact held_has g2
  | 3, _ => exact held_has g3
end Go.Proofs.Ytmgnikkbakpbdaa
