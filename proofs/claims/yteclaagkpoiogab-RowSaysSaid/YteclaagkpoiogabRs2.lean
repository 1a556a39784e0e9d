/- RowSays: LightChanges, rows. -/
import Derived.Test.YteclaagkpoiogabRs1
import Derived.Test.YteclaagkpoiogabSaid
namespace Go.Proofs.Yteclaagkpoiogab
open Go.RowKit

def LightRet (w : World) (n : Nat) (most : Int) (e : Ending) (w' : World) : Prop := ∃ r, e = .returned (.bool r) ∧ (r = true → (n : Int) ≤ most) ∧ Below w.heap.size w w'

set_option maxHeartbeats 400000 in
theorem lightChs_any (A : Option Addr) (l : List Ch) (c : Nat) (most : Int) (w : World) (hm : l.length ≤ maxLen) (hA : ChsAt w A l) :
    Calls Try.prog 58 #[.slice A l.length c, .int .i64 most] w (LightRet w l.length most) := by
  unfold maxLen at hm
  go_enter Try.func58, Try.ntmps58
  by_cases h0 : most < (l.length : Int)
  · go_wp2
    go_ret
    exact ⟨_, rfl, by simp, Below.refl _ _⟩
  · go_wp2
    go_loopw [5] (fun i w' => ∃ k : Nat, k ≤ l.length ∧ i = .int .i64 k ∧ Below w.heap.size w w') (fun i _ => l.length - (intOf i).toNat)
    case atStart => exact ⟨0, Nat.zero_le _, rfl, Below.refl _ _⟩
    case round =>
      obtain ⟨k, hk, rfl, hb⟩ := hrel
      by_cases hlt : k < l.length
      · obtain ⟨b, off, rfl, hbN, h1, h2, h3, s1, s2⟩ := (hA.below hb) k hlt
        have i1 : (k : Int) < (l.length : Int) := by omega
        generalize l[k].key = s at *
        generalize l[k].val = t at *
        by_cases c1 : 20 < (s.size : Int)
        · go_wp2
          go_ret
          exact ⟨_, rfl, by simp, by first | exact hb | exact hb.drew | exact below_drewN hb _⟩
        · by_cases c2 : 60 < (t.size : Int)
          · go_wp2
            go_ret
            exact ⟨_, rfl, by simp, by first | exact hb | exact hb.drew | exact below_drewN hb _⟩
          · go_wp2
            go_roundw
            case rel => exact ⟨k + 1, hlt, by go_num, by first | exact hb | exact hb.drew | exact below_drewN hb _⟩
            case measure => simp [intOf]; omega
      · go_wp2
        go_ret
        exact ⟨_, rfl, fun _ => by omega, hb⟩

def kx : Ch := ⟨⟨#[107]⟩, ⟨#[120]⟩, false⟩
theorem kx_err : chErr kx = 0 := by decide
theorem kx_bytes : (chBytes kx).toList = [0, 1, 107, 120] := by decide +kernel

set_option maxRecDepth 100000 in
theorem rows_any (w : World) :
    Calls Try.prog 57 #[] w fun e w' => e = .returned (.bool true) ∧ Below w.heap.size w w' := by
  have HB := fun w' => bytes_any kx w' (by decide) (by decide)
  rw [kx_err, if_pos rfl, show errV 0 = .nilIface from rfl] at HB
  have hbt := kx_bytes
  generalize chBytes kx = bs at *
  rw [show kx.key = (⟨#[107]⟩ : ByteArray) from rfl, show kx.val = (⟨#[120]⟩ : ByteArray) from rfl, show kx.gone = false from rfl] at HB
  have HB' := Lib.hid HB
  have HSD := Lib.hid said_nil
  clear HB
  go_enter Try.func57, Try.ntmps57
  go_wp2_with (first
    | ((with_reducible refine (HB'.out _).mono ?_); rintro e w1 ⟨rfl, hb1⟩)
    | ((with_reducible refine (HSD.out _).mono ?_); rintro e w2 ⟨rfl, rfl⟩))
  go_ret
  exact ⟨rfl, hb1⟩
end Go.Proofs.Yteclaagkpoiogab
