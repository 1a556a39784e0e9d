/- The walk of TopCover. -/
import Derived.Test.YtdgmmmjhajbbeaaCoverN
namespace Go.Proofs.Ytdgmmmjhajbbeaa
open Go.RowKit

theorem changed_e (B g : Nat) (w : World) (D : DiskM) (a b n : Int) (l : List Ar) (hD : DiskAt B w g D) (h1 : chgErr D a b = n) (h2 : chgAr D a b = l) :
    Calls Try.prog 39 #[.pointer (some ⟨g, 0, none⟩), .int .i64 a, .int .i64 b] w (AnsChg w l n) := by
  subst h1 h2; exact changed_any B g w D a b hD

set_option maxHeartbeats 2000000 in
set_option maxRecDepth 100000 in
theorem topCover_walk (A : Option Addr) (cA : Nat) (l : List ActM) (size a b : Int) (w : World) (hA : ActsAt w w.heap.size A l) :
    Calls Try.prog 7 #[.int .i64 size, .slice A l.length cA, .int .i64 a, .int .i64 b] w fun e w' => e = .returned (.bool true) ∧ Below w.heap.size w w' := by
  go_enter Try.func7, Try.ntmps7
  go_wp2_with fail
  ((with_reducible refine (tracked_any _).mono ?_); rintro e w1 ⟨rfl, hb1⟩)
  go_wp2_with fail
  ((with_reducible refine (changed_acts _ _ _ _ _ (hA.below hb1)).mono ?_); rintro e w2 (⟨rfl, hb2⟩ | ⟨hsz, h80, g, rfl, hD2, hb2⟩))
  · go_wp2
    go_ret
    exact ⟨rfl, belowThen hb1 hb2⟩
  replace hb1 := belowThen hb1 hb2
  clear hb2 hsz h80
  have COV := Lib.hid (covers_run (emptyDisk size.toNat) l trivial)
  generalize runM (emptyDisk size.toNat) l = D at hD2 COV
  obtain ⟨n, hn⟩ : ∃ n, chgErr D a b = n := ⟨_, rfl⟩
  obtain ⟨x, hx⟩ : ∃ x, chgAr D a b = x := ⟨_, rfl⟩
  have HN := Lib.hid hn
  have HX := Lib.hid hx
  have hn' : chgErr D b a = n := (chgErr_comm D a b).trans hn
  have hx' : chgAr D b a = x := (chgAr_comm D a b).trans hx
  have hsm : 0 ≤ n ∧ n ≤ 100 := hn ▸ chgErr_small D a b
  have hok : ValidFrom 0 x ∧ x.length ≤ 16 := hx ▸ chgAr_ok D a b
  have HOK := Lib.hid hok
  have hlen := hok.2
  clear hok
  go_wp2_with fail
  ((with_reducible refine (changed_e _ _ _ D a b n x hD2 hn hx).mono ?_); rintro e w3 ⟨X, cx, rfl, hX, hb3⟩)
  replace hb1 := belowThen hb1 hb3
  replace hD2 := hD2.below hb3
  clear hb3
  go_wp2_with fail
  ((with_reducible refine (changed_e _ _ _ D b a n x hD2 hn' hx').mono ?_); rintro e w4 ⟨Y, cy, rfl, hY, hb4⟩)
  replace hb1 := belowThen hb1 hb4
  replace hD2 := hD2.below hb4
  replace hX := hX.up hb4
  clear hb4 hn hx hn' hx'
  go_wp2_with fail
  ((with_reducible refine (number_any n _ hsm).mono ?_); rintro e w5 ⟨rfl, rfl⟩)
  go_wp2_with fail
  ((with_reducible refine (number_any n _ hsm).mono ?_); rintro e w5 ⟨rfl, rfl⟩)
  go_wp2_with fail
  ((with_reducible refine (sameAreas_yes X Y cx cy x x _ hX hY (by omega) rfl).mono ?_); rintro e w5 ⟨rfl, hb5⟩)
  replace hb1 := belowThen hb1 hb5
  replace hD2 := hD2.below hb5
  replace hX := hX.up hb5
  clear hb5 hY
  by_cases h0 : n = 0
  rotate_left
  · have hv : errV n = .iface 124 (.int .i64 n) := by simp [errV, h0]
    have hnil : x = [] := by rw [← HX.out]; exact chgAr_nil D a b (by rw [HN.out]; exact h0)
    subst hnil
    rw [hv]
    go_wp2
    go_ret
    exact ⟨rfl, hb1⟩
  subst h0
  have hv : errV 0 = .nilIface := rfl
  rw [hv]
  clear hv
  go_wp2
  go_loopw [15] (fun i w' => ∃ k : Nat, k ≤ 16 ∧ i = .int .i64 k ∧ AreasAt w' w'.heap.size X x ∧ DiskAt w1.heap.size w' g D ∧ Below w.heap.size w w') (fun i _ => 16 - (intOf i).toNat)
  case atStart => exact ⟨0, Nat.zero_le _, rfl, hX, hD2, hb1⟩
  case round =>
    obtain ⟨k, hk, rfl, hXk, hD, hb⟩ := hrel
    clear hX hD2 hb1
    by_cases hlt : k < 16
    · have i1 : (k : Int) < 16 := by omega
      go_wp2_with fail
      ((with_reducible refine (unlike_any _ _ _ D a b k hD).mono ?_); rintro e w6 ⟨r, rfl, hr, hb6⟩)
      have HR := Lib.hid hr
      clear hr
      replace hb := belowThen hb hb6
      replace hD := hD.below hb6
      replace hXk := hXk.up hb6
      clear hb6
      cases r
      · go_wp2
        go_roundw
        case rel => exact ⟨k + 1, hlt, by go_num, hXk, hD, hb⟩
        case measure => simp [intOf]; omega
      · have hhas : hasB x (k : Int) = true := by
          cases c : hasB x (k : Int) with
          | true => rfl
          | false =>
            have := HR.out (cover_fin COV.out HN.out hlt (by rw [HX.out]; exact c))
            cases this
        go_wp2_with fail
        ((with_reducible refine (has_is X cx x k true _ hXk (by omega) HOK.out.1 (by omega) hhas).mono ?_); rintro e w7 ⟨rfl, hb7⟩)
        go_wp2
        go_roundw
        case rel => exact ⟨k + 1, hlt, by go_num, hXk.up hb7, hD.below hb7, belowThen hb hb7⟩
        case measure => simp [intOf]; omega
    · go_wp2_with fail
      ((with_reducible refine (check_ok X cx x _ hXk (by omega) HOK.out.1.wf HOK.out.1).mono ?_); rintro e w6 ⟨rfl, hb6⟩)
      go_wp2
      go_ret
      exact ⟨rfl, belowThen hb hb6⟩
end Go.Proofs.Ytdgmmmjhajbbeaa
