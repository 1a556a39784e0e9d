/- LightChanges, over changes that a call is handed. -/
import Derived.Test.YtllaohobmkcmfaaChs
import Derived.Test.YtllaohobmkcmfaaGrow
namespace Go.Proofs.Ytllaohobmkcmfaa
open Go.RowKit

def LightRet (w : World) (n : Nat) (most : Int) (e : Ending) (w' : World) : Prop := ∃ r, e = .returned (.bool r) ∧ (r = true → (n : Int) ≤ most) ∧ Below w.heap.size w w'

set_option maxHeartbeats 400000 in
theorem lightChs_any (A : Option Addr) (l : List Ch) (c : Nat) (most : Int) (w : World) (hm : l.length ≤ maxLen) (hA : ChsAt w A l) :
    Calls Try.prog 23 #[.slice A l.length c, .int .i64 most] w (LightRet w l.length most) := by
  unfold maxLen at hm
  go_enter Try.func23, Try.ntmps23
  by_cases h0 : most < (l.length : Int)
  · go_wp2
    go_ret
    exact ⟨_, rfl, by simp, Below.refl _ _⟩
  · go_wp2
    go_loopw [5] (fun i w' => ∃ k : Nat, k ≤ l.length ∧ i = .int .i64 k ∧ Below w.heap.size w w') (fun i _ => l.length - (intOf i).toNat)
    case atStart => exact ⟨0, Nat.zero_le _, rfl, Below.refl _ _⟩
    case round =>
      obtain ⟨k, hk, rfl, hb⟩ := hrel
      by_cases hlt : k < l.length
      · obtain ⟨b, off, rfl, hbN, h1, h2, h3, s1, s2⟩ := (hA.below hb) k hlt
        have i1 : (k : Int) < (l.length : Int) := by omega
        generalize l[k].key = s at *
        generalize l[k].val = t at *
        by_cases c1 : 20 < (s.size : Int)
        · go_wp2
          go_ret
          exact ⟨_, rfl, by simp, by first | exact hb | exact hb.drew | exact below_drewN hb _⟩
        · by_cases c2 : 60 < (t.size : Int)
          · go_wp2
            go_ret
            exact ⟨_, rfl, by simp, by first | exact hb | exact hb.drew | exact below_drewN hb _⟩
          · go_wp2
            go_roundw
            case rel => exact ⟨k + 1, hlt, by go_num, by first | exact hb | exact hb.drew | exact below_drewN hb _⟩
            case measure => simp [intOf]; omega
      · go_wp2
        go_ret
        exact ⟨_, rfl, fun _ => by omega, hb⟩

end Go.Proofs.Ytllaohobmkcmfaa
