/- slices.Clone at changes. -/
import Derived.Test.YtimbdomkpdmehaaChs
namespace Go.Proofs.Ytimbdomkpdmehaa
open Go.RowKit

def CloneRet (w : World) (l : List Ch) (e : Ending) (w' : World) : Prop := ∃ A c, e = .returned (.slice A l.length c) ∧ w'.ownsRow w.heap.size 55 3 (.slice A l.length c) l.length (chCells l) ∧ Below w.heap.size w w'

set_option maxHeartbeats 1000000 in
set_option maxRecDepth 100000 in
theorem cloneChs_any (w : World) (A : Option Addr) (cA : Nat) (l : List Ch) (h : ChsAt w A l) (hA : A = none → cA = 0) (hn : l.length ≤ 1000) :
    Calls Try.prog 38 #[.slice A l.length cA] w (CloneRet w l) := by
  obtain ⟨i0, hi, hz0, hz1, hz2⟩ := info_parts Try.infoChZ
  have q22 : ∀ (w : World) (a : Option Addr) (n c n' c' : Nat), (binOp .eql 37 (.slice a n c) (.slice none n' c')).run Try.prog w = .ok (.bool a.isNone) w := fun w a n c n' c' => Lib.run_eql_slice_nil w _ _ a n c n' c' Try.underlying37
  cases A with
  | none =>
    obtain rfl := hA rfl
    rcases h.form with rfl | ⟨b, off, e, _⟩
    · go_enter Try.func38, Try.ntmps38
      go_wp2
      go_ret
      exact ⟨none, 0, rfl, World.ownsRow_nil _ _ _ _, Below.refl _ _⟩
    · cases e
  | some ad =>
    have hnews : ∀ j u, (chCells l)[j]? = some u → w.cell? (ad.add j) = some u := by
      rcases h.form with rfl | ⟨b, off, e, _⟩
      · intro j u hu; simp [chCells] at hu
      · simp only [Option.some.injEq] at e
        subst e
        exact h.cells
    have HNEWS := Lib.hid hnews
    have hlen := chCells_length l
    have h1 := chCells_one l
    clear hnews h hA
    generalize hxs : chCells l = xs at *
    have HXS := Lib.hid hxs
    clear hxs
    unfold CloneRet
    rw [HXS.out]
    generalize l.length = n at *
    go_enter Try.func38, Try.ntmps38
    go_wp2_with (at_builtin; refine wpList_append_own _ rfl _ _ 37 rfl w.heap.size 55 i0 _ 3 40 Try.underlying37 hi hz0 hz1 hz2 rfl (by decide) _ _ _ rfl (World.ownsRow_made w #[] 0 (Nat.le_refl _) (Nat.zero_le _) rfl) ad n cA xs rfl hlen (fun j u hj => Lib.cell?_alloc_some _ (HNEWS.out j u hj)) h1 (by unfold maxLen; omega) (by omega) (by simp) ?_; intro v' w3 hown' hg3 hnil3)
    go_wp2
    go_ret
    have hown2 : w3.ownsRow w.heap.size 55 3 v' n xs := by simpa using hown'
    obtain ⟨A, c, hv⟩ := slice_form hown2
    subst hv
    exact ⟨A, c, rfl, hown2, ((Below.refl _ w).alloc (Nat.le_refl _) _).grown hg3 (by simp) (fun j hj => by
      have h0 : (w.alloc (.cells #[] 55)).ownsRow w.heap.size 55 3 (.slice (some ⟨w.heap.size, 0, none⟩) 0 0) 0 [] := World.ownsRow_made w #[] 0 (Nat.le_refl _) (Nat.zero_le _) rfl
      exact (World.ownsRow.lt h0 j hj).1)⟩
end Go.Proofs.Ytimbdomkpdmehaa
