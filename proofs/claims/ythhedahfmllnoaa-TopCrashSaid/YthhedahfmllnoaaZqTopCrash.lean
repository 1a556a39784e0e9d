/- TopCrash: the walk. -/
import Derived.Test.YthhedahfmllnoaaZqCr2
import Derived.Deep.DeepCutAuto
import Derived.Deep.CutBlock
namespace Go.Proofs.Ythhedahfmllnoaa
open Go.RowKit
attribute [local go_sem ↓] Go.wp_at_zero Go.wp_at_succ
set_option maxRecDepth 100000

theorem StInv.arm {D : DkM} {S : StM} (h : StInv D S) (n : Int) : StInv (dkArm D n) S := ⟨h.up, h.wr, h.dur, h.few, h.top, h.on⟩

/-- The same, of its rows alone. -/
def CrR (w wr : World) (g gs : Nat) (A : Option Addr) (c : Nat) (R : List Ch) : Prop := ∃ D S, S.rows = R ∧ CrSt w wr g gs D S A c
theorem CrR.facts {w wr : World} {g gs : Nat} {A : Option Addr} {c : Nat} {R : List Ch} (h : CrR w wr g gs A c R) : R.length ≤ 80 ∧ SortedCh R ∧ Below w.heap.size w wr ∧ ∃ D, CrEnd w wr g D A c R A c R := by
  obtain ⟨D, S, rfl, h⟩ := h
  exact ⟨h.inv.on.len, h.inv.on.mid.1, h.kept, D, h.stop⟩
theorem CrR.check {w wr : World} {g gs : Nat} {A : Option Addr} {c : Nat} {R : List Ch} (h : CrR w wr g gs A c R) :
    Calls Try.prog 13 #[.pointer (some ⟨gs, 0, none⟩)] wr fun e w' => (e = .returned .nilIface ∧ Hid (CrR w w' g gs A c R)) ∨ (e = .returned (.iface 64 (.int .i64 9)) ∧ ∃ D1, Hid (CrEnd w w' g D1 A c R A c R)) := by
  obtain ⟨D, S, rfl, h⟩ := h
  refine h.check.mono ?_
  rintro e w' (⟨he, D1, S1, h1, h2⟩ | ⟨he, D1, h2⟩)
  · exact .inl ⟨he, Lib.hid ⟨D1, S1, h1, h2.out⟩⟩
  · exact .inr ⟨he, D1, h2⟩
theorem CrR.commit {w wr : World} {g gs : Nat} {A : Option Addr} {c : Nat} {R : List Ch} (h : CrR w wr g gs A c R) {Al : Option Addr} {cl : Nat} {l : List Ch} (hl : ChsAt w Al l) (hln : l.length ≤ 14) :
    Calls Try.prog 11 #[.pointer (some ⟨gs, 0, none⟩), .slice Al l.length cl] wr fun e w' =>
      (∃ E : Int, e = .returned (.iface 64 (.int .i64 E)) ∧ 0 < E ∧ E ≤ 8 ∧ Hid (CrR w w' g gs A c R)) ∨
      (e = .returned .nilIface ∧ Hid (∀ w2 A2 c2, Below w'.heap.size w' w2 → OwnCh w2 w.heap.size A2 c2 (apAll R l) → CrR w w2 g gs A2 c2 (apAll R l)) ∧ Hid (OwnCh w' w.heap.size A c R) ∧ Hid (Below w.heap.size w w') ∧ Hid (∀ x ∈ apAll R l, x.key.size ≤ 200 ∧ x.val.size ≤ 200)) ∨
      (e = .returned (.iface 64 (.int .i64 9)) ∧ ∃ D1, Hid (∀ w2 A2 c2, Below w'.heap.size w' w2 → OwnCh w2 w.heap.size A2 c2 (apAll R l) → CrEnd w w2 g D1 A c R A2 c2 (apAll R l)) ∧ Hid (OwnCh w' w.heap.size A c R) ∧ Hid (Below w.heap.size w w') ∧ Hid (∀ x ∈ apAll R l, x.key.size ≤ 200 ∧ x.val.size ≤ 200)) := by
  obtain ⟨D, S, rfl, h⟩ := h
  refine (h.commit hl hln).mono ?_
  rintro e w' (⟨E, rfl, e1, e2, h2⟩ | ⟨he, D1, S1, h1, h2, h3, h4, h5⟩ | ⟨he, D1, h2, h3, h4, h5⟩)
  · exact .inl ⟨E, by unfold errV; rw [if_neg (by omega)], e1, e2, Lib.hid ⟨D, S, rfl, h2.out⟩⟩
  · refine .inr (.inl ⟨he, Lib.hid fun w2 A2 c2 hb ho => ⟨D1, S1, h1, h2.out w2 A2 c2 hb (by rw [h1]; exact ho)⟩, h3, h4, by rw [← h1]; exact h5⟩)
  · exact .inr (.inr ⟨he, D1, h2, h3, h4, h5⟩)

set_option maxHeartbeats 8000000 in
theorem topCrash_walk (A : Option Addr) (cA : Nat) (L : List (List Ch)) (fuse : Int) (keep : Nat) (w : World) (hl : DeedsIn w A L) (hn : L.length ≤ maxLen) (hs : ∀ x ∈ L, x.length ≤ maxLen) (hf1 : -9223372036854775808 ≤ fuse) (hf2 : fuse ≤ 9223372036854775807) (hk : keep < 18446744073709551616) :
    Calls Try.prog 4 #[.slice A L.length cA, .int .i64 fuse, .int .u64 (keep : Int)] w fun e w' => e = .returned (.bool true) ∧ Below w.heap.size w w' := by
  have HT := Lib.hid (storedTop_any w)
  have HLD := Lib.hid (fun w' (hb : Below w.heap.size w w') => lightDeeds_any w' A cA L 20 (hl.below hb) hn hs)
  unfold maxLen at hn
  go_enter Try.func4, Try.ntmps4
  go_wp2_with fail
  ((with_reducible refine HT.out.mono ?_); rintro e w1 ⟨rfl, hb1⟩)
  have HSD := Lib.hid (stored_any w1)
  have HB1 := Lib.hid hb1
  clear HT hb1
  go_wp2_with fail
  ((with_reducible refine HSD.out.mono ?_); rintro e w2 ⟨g, gs, D0, S0, rfl, hq0, hr0, hf0, hb2⟩)
  have HQ0 := Lib.hid (show _ ∧ _ from ⟨hq0, hr0⟩)
  have HB2 := Lib.hid (belowThen HB1.out hb2)
  have HLD2 := Lib.hid (HLD.out w2 HB2.out)
  clear HSD HLD hq0 hr0 hf0 hb2
  go_wp2_with fail
  ((with_reducible refine HLD2.out.mono ?_); rintro e w3 ⟨r, rfl, hr, hb3⟩)
  have HB3 := Lib.hid (belowThen HB2.out hb3)
  cases r with
  | false =>
    go_wp2_with fail
    go_ret
    exact ⟨rfl, HB3.out⟩
  | true =>
  obtain ⟨h20, h14⟩ := hr rfl
  have H14 := Lib.hid h14
  have HQ3 := Lib.hid (show StQ w.heap.size w3 g gs 200 D0 S0 ∧ S0.rows = [] from by
    obtain ⟨q, r⟩ := HQ0.out
    have q3 := q.below hb3
    obtain ⟨gl, A, c, hI⟩ := q3.st
    exact ⟨⟨q3.dk.weak HB1.out.size, ⟨gl, A, c, ⟨Nat.le_trans HB1.out.size hI.base, hI.row, ⟨Nat.le_trans HB1.out.size hI.log.1, hI.log.2⟩, own_weak hI.rows HB1.out.size, hI.small⟩⟩, q3.inv, q3.quiet, q3.len⟩, r⟩)
  have HAR := Lib.hid (fun q h1 h2 => (dkArm_any w.heap.size g w3 D0 q HQ3.out.1.dk h1 h2).mono (R' := fun e w5 => e = .returned (.tuple #[]) ∧ ∃ D5, Hid (CrSt w w5 g gs D5 S0 none 0)) (fun e w5 ⟨he, hd, hs5⟩ => ⟨he, _, Lib.hid (by
    obtain ⟨q, r⟩ := HQ3.out
    obtain ⟨gl, A, c, hI⟩ := q.st
    exact ⟨hd, ⟨gl, A, c, hI.step hs5 (by decide) (by decide) (by decide)⟩, q.inv.arm _, q.len, ⟨by rw [r]; exact World.ownsRow_nil _ _ _ _, by rw [r]; simp⟩, HB3.out.trans hs5.below⟩)⟩))
  have HR0 := Lib.hid HQ3.out.2
  clear hr h14 hb3 HQ0 HB2 HLD2 HQ3
  go_upto_region 10 with (fail)
  go_cut [] (fun wx => ∃ w5 D5, wx = w5 ∧ Hid (CrSt w w5 g gs D5 S0 none 0))
  case first =>
    by_cases f1 : fuse < -1
    · have f2 : ¬ -1 ≤ fuse := by omega
      go_wp2_with ((with_reducible refine (HAR.out _ (by omega) (by omega)).mono ?_); rintro e w5 ⟨rfl, D5, h5⟩)
      go_meet
      exact ⟨w5, D5, rfl, h5⟩
    · by_cases f3 : 400 < fuse
      · have f4 : ¬ fuse ≤ 400 := by omega
        go_wp2_with ((with_reducible refine (HAR.out _ (by omega) (by omega)).mono ?_); rintro e w5 ⟨rfl, D5, h5⟩)
        go_meet
        exact ⟨w5, D5, rfl, h5⟩
      · have f4 : fuse ≤ 400 := by omega
        go_wp2_with ((with_reducible refine (HAR.out _ (by omega) (by omega)).mono ?_); rintro e w5 ⟨rfl, D5, h5⟩)
        go_meet
        exact ⟨w5, D5, rfl, h5⟩
  case rest =>
    obtain ⟨w5, D5, rfl, h5⟩ := hcut
    clear HAR HB1 HB3
    go_upto_block 0 with (fail)
    go_cut [10, 11] (fun v10 v11 wx => ∃ w6 D A1 c1 want A2 c2 last, wx = w6 ∧ v10 = .slice A1 (List.length want) c1 ∧ v11 = .slice A2 (List.length last) c2 ∧ Hid (CrEnd w w6 g D A1 c1 want A2 c2 last))
    case first =>
      go_wp2_with fail
      go_loopw [10, 11, 12] (fun v10 v11 i wr => ∃ (k : Nat) (R : List Ch) (A1 : Option Addr) (c1 : Nat), k ≤ L.length ∧ i = .int .i64 k ∧ v10 = .slice A1 R.length c1 ∧ v11 = .slice A1 R.length c1 ∧ Hid (CrR w wr g gs A1 c1 R)) (fun _ _ i _ => L.length - (intOf i).toNat)
      case atStart =>
        exact ⟨0, [], none, 0, Nat.zero_le _, rfl, rfl, rfl, Lib.hid ⟨D5, S0, HR0.out, h5.out⟩⟩
      case round =>
        obtain ⟨k, R, A1, c1, hkk, rfl, rfl, rfl, HS⟩ := hrel
        clear h5 HR0
        by_cases hlt : k < L.length
        · obtain ⟨b, off, Ai, ci, rfl, hblt, d0, hci⟩ := hl k hlt
          have HCI := Lib.hid hci
          have HD := Lib.hid (fun w' (hb : Below w.heap.size w w') => (hb.cell (p := ⟨b, off + k, none⟩) hblt).trans d0)
          have h14k := H14.out _ (List.getElem_mem hlt)
          have i1 : (k : Int) < (L.length : Int) := by omega
          have i0 : (0 : Int) ≤ (k : Int) := by omega
          clear hci d0 hblt
          generalize L[k] = l at *
          by_cases h5 : k % 5 = 4
          · have q5 : ((k : Int) % 5 == 4) = true := by simp; omega
            have HCK := Lib.hid HS.out.check
            clear h5
            go_wp2_with fail
            ((with_reducible refine HCK.out.mono ?_); rintro e w6 (⟨rfl, HSz⟩ | ⟨rfl, D1, HE⟩))
            · have HN := Lib.hid (fun w' => show Calls Try.prog 21 #[.nilIface] w' fun e w2 => e = .returned (.int .i64 0) ∧ w' = w2 from num_any 0 w' (by omega))
              clear HCK HS
              go_wp2_with fail
              ((with_reducible refine (HN.out _).mono ?_); rintro e w8 ⟨rfl, rfl⟩)
              clear HN
              have HCM := Lib.hid (HSz.out.commit (cl := ci) HCI.out h14k)
              have HF := Lib.hid HSz.out.facts
              have d1 := HD.out _ HF.out.2.2.1
              clear HSz
              go_wp2_with fail
              ((with_reducible refine HCM.out.mono ?_); rintro e w7 (⟨E, rfl, e1, e2, HC⟩ | ⟨rfl, HMK, HO, HB, HZ⟩ | ⟨rfl, D1, HMK, HO, HB, HZ⟩))
              · have HN := Lib.hid (fun w' => num_any E w' (by omega))
                rw [show errV E = .iface 64 (.int .i64 E) from by unfold errV; rw [if_neg (by omega)]] at HN
                have e9 : (E == 9) = false := by simp; omega
                clear HCM d1
                go_wp2_with fail
                ((with_reducible refine (HN.out _).mono ?_); rintro e w8 ⟨rfl, rfl⟩)
                go_wp2_with fail
                go_roundw
                case rel => exact ⟨k + 1, R, A1, c1, by omega, by go_num, rfl, rfl, HC⟩
                case measure => simp [intOf]; omega
              · have d2 := HD.out _ HB.out
                have HAP := Lib.hid (applied_any w7 A1 c1 R Ai ci l HO.out.chs HO.out.none (HCI.out.below HB.out) (by have := HF.out.1; omega) (by omega) HF.out.2.1)
                unfold ApplyRet at HAP
                clear HCM d1
                go_wp2_with fail
                ((with_reducible refine HAP.out.mono ?_); rintro e w8 ⟨A5, c5, rfl, ho5, hb5⟩)
                have HC := Lib.hid (HMK.out w8 A5 c5 hb5 ⟨own_weak ho5 HB.out.size, HZ.out⟩)
                clear ho5 hb5 HAP d2
                go_wp2_with fail
                go_roundw
                case rel => exact ⟨k + 1, apAll R l, A5, c5, by omega, by go_num, rfl, rfl, HC⟩
                case measure => simp [intOf]; omega
              · have d2 := HD.out _ HB.out
                have HN := Lib.hid (fun w' => show Calls Try.prog 21 #[.iface 64 (.int .i64 9)] w' fun e w2 => e = .returned (.int .i64 9) ∧ w' = w2 from num_any 9 w' (by omega))
                have HAP := Lib.hid (applied_any w7 A1 c1 R Ai ci l HO.out.chs HO.out.none (HCI.out.below HB.out) (by have := HF.out.1; omega) (by omega) HF.out.2.1)
                unfold ApplyRet at HAP
                clear HCM d1
                go_wp2_with fail
                ((with_reducible refine (HN.out _).mono ?_); rintro e w8 ⟨rfl, rfl⟩)
                go_wp2_with fail
                ((with_reducible refine HAP.out.mono ?_); rintro e w8 ⟨A5, c5, rfl, ho5, hb5⟩)
                have HC := Lib.hid (HMK.out w8 A5 c5 hb5 ⟨own_weak ho5 HB.out.size, HZ.out⟩)
                clear ho5 hb5 HAP d2
                go_wp2_with fail
                go_meet
                exact ⟨_, _, _, _, _, _, _, _, rfl, rfl, rfl, HC⟩
            · have HN := Lib.hid (fun w' => show Calls Try.prog 21 #[.iface 64 (.int .i64 9)] w' fun e w2 => e = .returned (.int .i64 9) ∧ w' = w2 from num_any 9 w' (by omega))
              clear HCK HS
              go_wp2_with fail
              ((with_reducible refine (HN.out _).mono ?_); rintro e w8 ⟨rfl, rfl⟩)
              go_wp2_with fail
              go_meet
              exact ⟨_, _, _, _, _, _, _, _, rfl, rfl, rfl, HE⟩
          · have q5 : ((k : Int) % 5 == 4) = false := by simp; omega
            clear h5
            have HSz := HS
            clear HS
            have HCM := Lib.hid (HSz.out.commit (cl := ci) HCI.out h14k)
            have HF := Lib.hid HSz.out.facts
            have d1 := HD.out _ HF.out.2.2.1
            clear HSz
            go_wp2_with fail
            ((with_reducible refine HCM.out.mono ?_); rintro e w7 (⟨E, rfl, e1, e2, HC⟩ | ⟨rfl, HMK, HO, HB, HZ⟩ | ⟨rfl, D1, HMK, HO, HB, HZ⟩))
            · have HN := Lib.hid (fun w' => num_any E w' (by omega))
              rw [show errV E = .iface 64 (.int .i64 E) from by unfold errV; rw [if_neg (by omega)]] at HN
              have e9 : (E == 9) = false := by simp; omega
              clear HCM d1
              go_wp2_with fail
              ((with_reducible refine (HN.out _).mono ?_); rintro e w8 ⟨rfl, rfl⟩)
              go_wp2_with fail
              go_roundw
              case rel => exact ⟨k + 1, R, A1, c1, by omega, by go_num, rfl, rfl, HC⟩
              case measure => simp [intOf]; omega
            · have d2 := HD.out _ HB.out
              have HAP := Lib.hid (applied_any w7 A1 c1 R Ai ci l HO.out.chs HO.out.none (HCI.out.below HB.out) (by have := HF.out.1; omega) (by omega) HF.out.2.1)
              unfold ApplyRet at HAP
              clear HCM d1
              go_wp2_with fail
              ((with_reducible refine HAP.out.mono ?_); rintro e w8 ⟨A5, c5, rfl, ho5, hb5⟩)
              have HC := Lib.hid (HMK.out w8 A5 c5 hb5 ⟨own_weak ho5 HB.out.size, HZ.out⟩)
              clear ho5 hb5 HAP d2
              go_wp2_with fail
              go_roundw
              case rel => exact ⟨k + 1, apAll R l, A5, c5, by omega, by go_num, rfl, rfl, HC⟩
              case measure => simp [intOf]; omega
            · have d2 := HD.out _ HB.out
              have HN := Lib.hid (fun w' => show Calls Try.prog 21 #[.iface 64 (.int .i64 9)] w' fun e w2 => e = .returned (.int .i64 9) ∧ w' = w2 from num_any 9 w' (by omega))
              have HAP := Lib.hid (applied_any w7 A1 c1 R Ai ci l HO.out.chs HO.out.none (HCI.out.below HB.out) (by have := HF.out.1; omega) (by omega) HF.out.2.1)
              unfold ApplyRet at HAP
              clear HCM d1
              go_wp2_with fail
              ((with_reducible refine (HN.out _).mono ?_); rintro e w8 ⟨rfl, rfl⟩)
              go_wp2_with fail
              ((with_reducible refine HAP.out.mono ?_); rintro e w8 ⟨A5, c5, rfl, ho5, hb5⟩)
              have HC := Lib.hid (HMK.out w8 A5 c5 hb5 ⟨own_weak ho5 HB.out.size, HZ.out⟩)
              clear ho5 hb5 HAP d2
              go_wp2_with fail
              go_meet
              exact ⟨_, _, _, _, _, _, _, _, rfl, rfl, rfl, HC⟩
        · obtain rfl : k = L.length := by omega
          obtain ⟨D9, hE9⟩ := HS.out.facts.2.2.2
          have HE := Lib.hid hE9
          clear hE9
          go_wp2_with fail
          go_meet
          exact ⟨_, _, _, _, _, _, _, _, rfl, rfl, rfl, HE⟩
    case rest =>
      obtain ⟨w6, D, A1, c1, want, A2, c2, last, rfl, rfl, rfl, HE⟩ := hcut
      have HRS := Lib.hid (dkRestart_any w.heap.size g wc D keep HE.out.dk hk HE.out.few)
      go_wp2_with fail
      ((with_reducible refine HRS.out.mono ?_); rintro e w7 ⟨rfl, hd7, hs7⟩)
      obtain ⟨hlen, S, hI, hR⟩ := HE.out.aft keep
      have HB7 := Lib.hid (HE.out.kept.trans hs7.below)
      have HOw := Lib.hid (HE.out.own.step hs7 (by decide))
      have HOl := Lib.hid (HE.out.own'.step hs7 (by decide))
      have hq7 : ∀ w', DkAt w.heap.size w' g (dkRestart D keep) → ∀ gs, StAt w.heap.size w' gs g S → StQ w.heap.size w' g gs 200 (dkRestart D keep) S := fun w' h1 gs h2 => ⟨h1, h2, hI, ⟨rfl, rfl⟩, hlen⟩
      have HO := Lib.hid ((stOpenI w.heap.size g w7 _ S hd7 HB7.out.size hI).mono (R' := fun e w' => ∃ gs', e = .returned (.tuple #[.pointer (some ⟨gs', 0, none⟩), .nilIface]) ∧ Hid (StQ w.heap.size w' g gs' 200 (dkRestart D keep) S) ∧ Below w7.heap.size w7 w') (fun e w' ⟨gs', he, h1, _, h2⟩ => ⟨gs', he, Lib.hid (hq7 w' (hd7.below h2) gs' h1), h2⟩))
      have HR := Lib.hid hR
      obtain ⟨D', hD'⟩ : ∃ D', dkRestart D keep = D' := ⟨_, rfl⟩
      rw [hD'] at HO
      clear hq7 hI hlen hd7 hs7 hR HRS HE hD'
      go_wp2_with fail
      ((with_reducible refine HO.out.mono ?_); rintro e w8 ⟨gx, rfl, HQ8, hb8⟩)
      have HB8 := Lib.hid (belowThen HB7.out hb8)
      have HOw8 := Lib.hid (HOw.out.below hb8)
      have HOl8 := Lib.hid (HOl.out.below hb8)
      have HLN := Lib.hid (HQ8.out.inv.on.len)
      have HSM := Lib.hid (show ∀ x ∈ S.rows, x.key.size ≤ maxLen ∧ x.val.size ≤ maxLen from fun x hx => by have := fine_small (HQ8.out.inv.on.mid.2.1 x hx); unfold maxLen; omega)
      have HRW := Lib.hid (stRows_any w.heap.size gx g w8 S HQ8.out.st (Nat.le_trans HLN.out (by omega)))
      unfold CloneRet at HRW
      clear HO HOw HOl hb8 HB7
      go_wp2_with fail
      ((with_reducible refine HRW.out.mono ?_); rintro e w9 ⟨A9, c9, rfl, ho9, hb9⟩)
      have HB9 := Lib.hid (belowThen HB8.out hb9)
      have HGOT := Lib.hid (show OwnCh w9 w.heap.size A9 c9 S.rows from ⟨own_weak ho9 HB8.out.size, fun x hx => fine_small (HQ8.out.inv.on.mid.2.1 x hx)⟩)
      have HQ9 := Lib.hid (HQ8.out.below hb9)
      have HSW := Lib.hid (sameChs_any w9 A9 A1 c9 c1 S.rows want HGOT.out.chs (HOw8.out.below hb9).chs (Nat.le_trans HLN.out (by omega)))
      have HSL := Lib.hid (fun w' (hb : Below w9.heap.size w9 w') => sameChs_any w' A9 A2 c9 c2 S.rows last (HGOT.out.below hb).chs (((HOl8.out.below hb9).below hb)).chs (Nat.le_trans HLN.out (by omega)))
      clear ho9 HRW HB8 HQ8 HOw8 HOl8 hb9
      go_upto_region 27 with (fail)
      go_cut [98] (fun v98 wx => ∃ w10, wx = w10 ∧ v98 = .bool false ∧ Below w9.heap.size w9 w10)
      case first =>
        by_cases hw : S.rows = want
        · rw [decide_eq_true hw] at HSW
          clear hw
          go_wp2_with fail
          ((with_reducible refine HSW.out.mono ?_); rintro e w10 ⟨rfl, hb10⟩)
          go_wp2_with fail
          go_meet
          exact ⟨_, rfl, rfl, hb10⟩
        · have hlr : S.rows = last := by
            rcases HR.out with h | h
            · exact absurd h hw
            · exact h
          rw [decide_eq_false hw] at HSW
          rw [decide_eq_true hlr] at HSL
          clear hw hlr
          go_wp2_with fail
          ((with_reducible refine HSW.out.mono ?_); rintro e w10 ⟨rfl, hb10⟩)
          have HSL10 := Lib.hid (HSL.out w10 hb10)
          have HB10 := Lib.hid hb10
          clear HSL hb10 HSW
          go_wp2_with fail
          ((with_reducible refine HSL10.out.mono ?_); rintro e w11 ⟨rfl, hb11⟩)
          have HB11 := Lib.hid (belowThen HB10.out hb11)
          clear hb11
          go_wp2_with fail
          go_meet
          exact ⟨_, rfl, rfl, HB11.out⟩
      case rest =>
        obtain ⟨w10, rfl, rfl, hb10⟩ := hcut
        have HB10 := Lib.hid (belowThen HB9.out hb10)
        have HG10 := Lib.hid (HGOT.out.below hb10)
        have hq10 := HQ9.out.below hb10
        have HCM0 := commitC w.heap.size gx g 200 _ S D' none 0 [] hq10 (fun w' hs i hi => by simp at hi) (by simp)
        rw [show cmErr [] S 200 = 0 from by
          have := HLN.out
          unfold cmErr
          rw [if_neg (by simp), if_neg (by simp [chsErr]), if_neg (by simp [apAll]; omega)]] at HCM0
        have HCM := Lib.hid (show Calls Try.prog 11 #[.pointer (some ⟨gx, 0, none⟩), .slice none 0 0] wc (fun e w2 => e = .returned .nilIface ∧ Step w.heap.size stTypes wc w2 ∧ ∃ D1 S1, Hid (StQ w.heap.size w2 g gx 200 D1 S1 ∧ S1.rows = S.rows)) from HCM0.mono (by
          rintro e w2 ⟨rfl, h1, D1, S1, h2, _, h3⟩
          exact ⟨rfl, h1, D1, S1, Lib.hid ⟨h2, (h3 rfl).1⟩⟩))
        clear HCM0 hq10 hb10 HSW HSL HB9 HGOT HQ9 HR
        go_wp2_with fail
        ((with_reducible refine HCM.out.mono ?_); rintro e w11 ⟨rfl, hs11, D1, S1, HQ11⟩)
        have HB11 := Lib.hid (HB10.out.trans hs11.below)
        have HG11 := Lib.hid (HG10.out.step hs11 (by decide))
        have HCK := Lib.hid ((checkC w.heap.size gx g 200 w11 S1 D1 HQ11.out.1).mono (R' := fun e w2 => e = .returned .nilIface ∧ Step w.heap.size stTypes w11 w2 ∧ ∃ D2 S2, Hid (StQ w.heap.size w2 g gx 200 D2 S2 ∧ S2.rows = S.rows)) (fun e w2 ⟨he, h1, D2, S2, h2, h3, _⟩ => ⟨he, h1, D2, S2, Lib.hid ⟨h2, h3.trans HQ11.out.2⟩⟩))
        clear hs11 HCM HB10 HG10
        go_wp2_with fail
        ((with_reducible refine HCK.out.mono ?_); rintro e w12 ⟨rfl, hs12, D2, S2, HQ12⟩)
        have HB12 := Lib.hid (HB11.out.trans hs12.below)
        have HG12 := Lib.hid (HG11.out.step hs12 (by decide))
        have HO2 := Lib.hid (openC w.heap.size gx g 200 w12 S2 D2 HQ12.out.1 HB12.out.size)
        clear hs12 HCK HB11 HG11
        go_wp2_with fail
        ((with_reducible refine HO2.out.mono ?_); rintro e w13 ⟨gy, rfl, hq13, hb13⟩)
        have HB13 := Lib.hid (belowThen HB12.out hb13)
        have HG13 := Lib.hid (HG12.out.below hb13)
        have HRW := Lib.hid (stRows_any w.heap.size gy g w13 S2 hq13.st (Nat.le_trans hq13.inv.on.len (by omega)))
        rw [HQ12.out.2] at HRW
        unfold CloneRet at HRW
        clear hq13 hb13 HO2 HB12 HG12
        go_wp2_with fail
        ((with_reducible refine HRW.out.mono ?_); rintro e w14 ⟨A14, c14, rfl, ho14, hb14⟩)
        have HB14 := Lib.hid (belowThen HB13.out hb14)
        have HSE := sameChs_any w14 A14 A9 c14 c9 S.rows S.rows (chs_own ho14 HSM.out) (HG13.out.below hb14).chs (Nat.le_trans HLN.out (by omega))
        rw [decide_eq_true rfl] at HSE
        have HSE2 := Lib.hid HSE
        clear HSE ho14 hb14 HRW HB13 HG13
        go_wp2_with fail
        ((with_reducible refine HSE2.out.mono ?_); rintro e w15 ⟨rfl, hb15⟩)
        have HB15 := Lib.hid (belowThen HB14.out hb15)
        clear hb15
        go_wp2_with fail
        go_ret
        exact ⟨rfl, HB15.out⟩
end Go.Proofs.Ythhedahfmllnoaa
