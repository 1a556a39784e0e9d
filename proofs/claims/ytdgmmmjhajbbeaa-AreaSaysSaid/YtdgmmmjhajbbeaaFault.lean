/- counterfoilref.AreasFault: the number of the error of a list of areas. -/
import Derived.Test.YtdgmmmjhajbbeaaRefD
namespace Go.Proofs.Ytdgmmmjhajbbeaa
open Go.RowKit

set_option maxHeartbeats 4000000 in
set_option maxRecDepth 100000 in
theorem fault_any (A : Option Addr) (cap : Nat) (l : List Ar) (w : World) (hA : AreasAt w w.heap.size A l) (hl : l.length ≤ 20) :
    Calls Try.prog 17 #[.slice A l.length cap] w fun e w' => e = .returned (.int .i64 (chk none l)) ∧ Below w.heap.size w w' := by
  go_enter Try.func17, Try.ntmps17
  go_wp2
  go_loopw [3] (fun i w' => ∃ k : Nat, k ≤ l.length ∧ i = .int .i64 k ∧ Hid (chk none l = chk (pe l k) (l.drop k)) ∧ Hid (∀ j, j + 1 = k → (h : j < l.length) → 0 ≤ l[j].1 ∧ 1 ≤ l[j].2 ∧ l[j].1 + l[j].2 ≤ 16) ∧ Below w.heap.size w w') (fun i _ => l.length - (intOf i).toNat)
  case atStart => exact ⟨0, Nat.zero_le _, rfl, rfl, fun j hj => by omega, Below.refl _ _⟩
  case round =>
    obtain ⟨k, hk, rfl, HC, HP, hb⟩ := hrel
    have hsz := hb.size
    by_cases hlt : k < l.length
    · obtain ⟨b, off, rfl, hB, h1, h2⟩ := (hA.below hb) k hlt
      have hd := drop_cons l k hlt
      have HD := Lib.hid hd; clear hd
      by_cases c1 : l[k].1 < 0 ∨ l[k].2 < 1 ∨ 16 - l[k].1 < l[k].2
      · have hbad := chk_bad (pe l k) l[k] (l.drop (k + 1)) c1
        have HB := Lib.hid hbad; clear hbad
        by_cases d1 : l[k].1 < 0
        · have e1 : decide (l[k].1 < 0) = true := by simpa using d1
          clear c1
          go_wp2
          go_quiet (fail)
          go_wp2
          go_ret
          exact ⟨ret_int (by rw [HC.out, HD.out, HB.out]), by first | exact below_drewN hb _ | exact below_drewN (below_drewN hb _) _⟩
        · have e1 : decide (l[k].1 < 0) = false := by simpa using d1
          by_cases d2 : 16 < l[k].1
          · have e2 : decide (16 < l[k].1) = true := by simpa using d2
            clear c1
            go_wp2
            go_quiet (fail)
            go_wp2
            go_ret
            exact ⟨ret_int (by rw [HC.out, HD.out, HB.out]), by first | exact below_drewN hb _ | exact below_drewN (below_drewN hb _) _⟩
          · have e2 : decide (16 < l[k].1) = false := by simpa using d2
            by_cases d3 : l[k].2 < 1
            · have e3 : decide (l[k].2 < 1) = true := by simpa using d3
              clear c1
              go_wp2
              go_quiet (fail)
              go_wp2
              go_ret
              exact ⟨ret_int (by rw [HC.out, HD.out, HB.out]), by first | exact below_drewN hb _ | exact below_drewN (below_drewN hb _) _⟩
            · have e3 : decide (l[k].2 < 1) = false := by simpa using d3
              by_cases d4 : 16 < l[k].2
              · have e4 : decide (16 < l[k].2) = true := by simpa using d4
                clear c1
                go_wp2
                go_quiet (fail)
                go_wp2
                go_ret
                exact ⟨ret_int (by rw [HC.out, HD.out, HB.out]), by first | exact below_drewN hb _ | exact below_drewN (below_drewN hb _) _⟩
              · have e4 : decide (16 < l[k].2) = false := by simpa using d4
                have d5 : 16 < l[k].1 + l[k].2 := by omega
                have e5 : decide (16 < l[k].1 + l[k].2) = true := by simpa using d5
                have e6 : IntKind.i64.wrap (l[k].1 + l[k].2) = l[k].1 + l[k].2 := IntWalk.i64_in _ (by omega)
                clear c1
                go_wp2
                go_quiet (fail)
                go_wp2
                go_ret
                exact ⟨ret_int (by rw [HC.out, HD.out, HB.out]), by first | exact below_drewN hb _ | exact below_drewN (below_drewN hb _) _⟩
      · have d1 : ¬ l[k].1 < 0 := by omega
        have d2 : ¬ 16 < l[k].1 := by omega
        have d3 : ¬ l[k].2 < 1 := by omega
        have d4 : ¬ 16 < l[k].2 := by omega
        have d5 : ¬ 16 < l[k].1 + l[k].2 := by omega
        have e1 : decide (l[k].1 < 0) = false := by simpa using d1
        have e2 : decide (16 < l[k].1) = false := by simpa using d2
        have e3 : decide (l[k].2 < 1) = false := by simpa using d3
        have e4 : decide (16 < l[k].2) = false := by simpa using d4
        have e5 : decide (16 < l[k].1 + l[k].2) = false := by simpa using d5
        have HG := Lib.hid c1; clear c1
        by_cases hz : 0 < k
        · obtain ⟨j, rfl⟩ : ∃ j, k = j + 1 := ⟨k - 1, by omega⟩
          obtain ⟨p1, p2, p3⟩ := HP.out j rfl (by omega)
          obtain ⟨b', off', eb, _, i1, i2⟩ := (hA.below hb) j (by omega)
          injection eb with eb; injection eb with eb1 eb2; subst eb1; subst eb2
          have HE := Lib.hid (pe_succ l j (by omega))
          by_cases d6 : l[j + 1].1 ≤ l[j].1 + l[j].2
          · have e7 : decide (l[j + 1].1 ≤ l[j].1 + l[j].2) = true := by simpa using d6
            have e6 : IntKind.i64.wrap (l[j + 1].1 + l[j + 1].2) = l[j + 1].1 + l[j + 1].2 := IntWalk.i64_in _ (by omega)
            have e8 : IntKind.i64.wrap (l[j].1 + l[j].2) = l[j].1 + l[j].2 := IntWalk.i64_in _ (by omega)
            go_wp2
            go_quiet (fail)
            go_wp2
            go_quiet (fail)
            go_wp2
            go_ret
            exact ⟨ret_int (by rw [HC.out, HD.out, HE.out, chk_shape _ _ _ HG.out d6]), by first | exact below_drewN hb _ | exact below_drewN (below_drewN hb _) _⟩
          · have e7 : decide (l[j + 1].1 ≤ l[j].1 + l[j].2) = false := by simpa using d6
            have e6 : IntKind.i64.wrap (l[j + 1].1 + l[j + 1].2) = l[j + 1].1 + l[j + 1].2 := IntWalk.i64_in _ (by omega)
            have e8 : IntKind.i64.wrap (l[j].1 + l[j].2) = l[j].1 + l[j].2 := IntWalk.i64_in _ (by omega)
            go_wp2
            go_quiet (fail)
            go_wp2
            go_quiet (fail)
            go_wp2
            clear e1 e2 e3 e4 e5 e6 e7 e8
            go_roundw
            case rel => exact ⟨j + 1 + 1, hlt, by go_num, by rw [HC.out, HD.out, HE.out, chk_on _ _ _ HG.out (by omega), pe_succ l (j + 1) hlt]; rfl, fun i hi h => by
              obtain rfl : i = j + 1 := by omega
              exact ⟨by omega, by omega, by omega⟩, by first | exact below_drewN hb _ | exact below_drewN (below_drewN hb _) _⟩
            case measure => simp [intOf]; omega
        · have hz' : decide ((0 : Int) < (k : Int)) = false := by simp; omega
          have e6 : IntKind.i64.wrap (l[k].1 + l[k].2) = l[k].1 + l[k].2 := IntWalk.i64_in _ (by omega)
          go_wp2
          go_quiet (fail)
          go_wp2
          go_quiet (fail)
          go_wp2
          clear e1 e2 e3 e4 e5 e6
          go_roundw
          case rel => exact ⟨k + 1, hlt, by go_num, by
            obtain rfl : k = 0 := by omega
            rw [HC.out, HD.out]
            show chk none _ = _
            rw [chk_first _ _ HG.out, pe_succ l 0 hlt], fun i hi h => by
              obtain rfl : i = k := by omega
              exact ⟨by omega, by omega, by omega⟩, by first | exact below_drewN hb _ | exact below_drewN (below_drewN hb _) _⟩
          case measure => simp [intOf]; omega
    · go_wp2
      go_ret
      have hkl : l.drop k = [] := List.drop_of_length_le (by omega)
      exact ⟨ret_int (by rw [HC.out, hkl]; cases pe l k <;> rfl), hb⟩
end Go.Proofs.Ytdgmmmjhajbbeaa
