/- DiskSays: the walk. -/
import Derived.Test.YtimbdomkpdmehaaDkS
import Derived.Test.YtimbdomkpdmehaaLight
import Derived.Deep.DeepCutAuto
import Derived.Deep.CutBlock
namespace Go.Proofs.Ytimbdomkpdmehaa
open Go.RowKit
attribute [local go_sem ↓] Go.wp_at_zero Go.wp_at_succ

/-- Both disks lie there and agree. -/
def Both (W w' : World) (g gm n k : Nat) : Prop := ∃ D M : DkM, DkAt W.heap.size w' g D ∧ RdAt W.heap.size w' gm M ∧ Agree D M ∧ D.now.length = n ∧ D.wr.length ≤ k ∧ Below W.heap.size W w'

theorem not_mem_dk : 51 ∉ dkTypes ∧ 9 ∉ dkTypes ∧ 86 ∉ dkTypes ∧ 39 ∉ dkTypes := by decide
theorem not_mem_rd : 77 ∉ rdTypes ∧ 82 ∉ rdTypes ∧ 84 ∉ rdTypes ∧ 39 ∉ rdTypes := by decide

set_option maxHeartbeats 8000000 in
set_option maxRecDepth 100000 in
theorem diskSays_walk (A : Option Addr) (cA : Nat) (l : List ActM) (n : Int) (hn1 : -9223372036854775808 ≤ n) (hn2 : n ≤ 9223372036854775807) (w : World) (hA : ActsAt w w.heap.size A l) :
    Calls Try.prog 3 #[.int .i64 n, .slice A l.length cA] w fun e w' => e = .returned (.bool true) ∧ Below w.heap.size w w' := by
  have hml := hA.1
  unfold maxLen at hml
  go_enter Try.func3, Try.ntmps3
  go_wp2_with fail
  ((with_reducible refine (spins_any _).mono ?_); rintro e w1 ⟨rfl, hb1⟩)
  have hA1 := hA.below hb1
  go_wp2_with fail
  ((with_reducible refine (lightActs_any _ _ _ _ _ hA1).mono ?_); rintro e w2 ⟨r, rfl, hr, hb2⟩)
  replace hb2 := belowThen hb1 hb2
  clear hA1 hb1
  cases r
  · go_wp2
    go_ret
    exact ⟨rfl, hb2⟩
  have hl80 := hr rfl
  clear hr
  by_cases hn : 1 ≤ n ∧ n ≤ 260
  · obtain ⟨nn, rfl⟩ := Int.eq_ofNat_of_zero_le (show 0 ≤ n by omega)
    have hn' := Lib.hid hn
    clear hn hn1 hn2
    go_wp2_with fail
    ((with_reducible refine (dkNew_any _ _).mono ?_); rintro e w3 hnew)
    unfold DkNew at hnew
    rw [if_pos hn'.out] at hnew
    obtain ⟨g, rfl, hD, hb3⟩ := hnew
    go_wp2_with fail
    ((with_reducible refine (rdNew_any _ _).mono ?_); rintro e w4 hnew)
    unfold RdNew at hnew
    rw [if_pos hn'.out] at hnew
    obtain ⟨gm, rfl, hM, hb4⟩ := hnew
    rw [Int.toNat_natCast] at hD hM
    have hbo : Both w w4 g gm nn 0 := by
      refine ⟨dkNew nn, dkNew nn, ?_, ?_, agree_new nn, by simp [dkNew], by simp [dkNew], hb2.trans ((hb3.mono hb2.size).trans (hb4.mono (Nat.le_trans hb2.size hb3.size)))⟩
      · exact DkAt.weak (hD.below hb4) hb2.size
      · exact RdAt.weak hM (Nat.le_trans hb2.size hb3.size)
    have HSZ := dkSectors_any _ g w4 _ (hD.below hb4)
    rw [show (dkNew nn).now.length = nn by simp [dkNew]] at HSZ
    have HSZ' := Lib.hid HSZ
    clear HSZ hD hM hb3 hb4 hb2
    go_wp2_with fail
    ((with_reducible refine HSZ'.out.mono ?_); rintro e w5 ⟨rfl, rfl⟩)
    clear HSZ'
    go_wp2
    go_loopw [10] (fun i w' => ∃ (k : Nat), k ≤ l.length ∧ i = .int .i64 k ∧ Both w w' g gm nn k) (fun i _ => l.length - (intOf i).toNat)
    case atStart => exact ⟨0, Nat.zero_le _, rfl, hbo⟩
    case round =>
      obtain ⟨k, hk, rfl, hB⟩ := hrel
      clear hbo
      by_cases hlt : k < l.length
      · obtain ⟨D, M, hD, hM, hag, hlen, hwr, hb⟩ := hB
        obtain ⟨ga, off, rfl, hact⟩ := (hA.below hb).2 k hlt
        have hc := hact.2.1
        have d0 : wr.cell? ⟨ga, off + k * 9, none⟩ = some (.string l[k].kind) := hc 0 (by omega)
        have d1 : wr.cell? ⟨ga, off + k * 9 + 1, none⟩ = some (.string l[k].s) := hc 1 (by omega)
        have d2 : wr.cell? ⟨ga, off + k * 9 + 2, none⟩ = some (.int .i64 l[k].a) := hc 2 (by omega)
        have d3 : wr.cell? ⟨ga, off + k * 9 + 3, none⟩ = some (.int .i64 l[k].b) := hc 3 (by omega)
        have d4 : wr.cell? ⟨ga, off + k * 9 + 4, none⟩ = some (.int .i64 l[k].c) := hc 4 (by omega)
        have d5 : wr.cell? ⟨ga, off + k * 9 + 5, none⟩ = some (.int .i64 l[k].d) := hc 5 (by omega)
        have d6 : wr.cell? ⟨ga, off + k * 9 + 6, none⟩ = some (.int .u64 l[k].k) := hc 6 (by omega)
        have d7 : wr.cell? ⟨ga, off + k * 9 + 7, none⟩ = some (.slice l[k].pA l[k].pL l[k].pC) := hc 7 (by omega)
        have d8 : wr.cell? ⟨ga, off + k * 9 + 8, none⟩ = some (.slice l[k].cA l[k].cL l[k].cC) := hc 8 (by omega)
        have hss := hact.2.2.2.2.2.2.1
        have ha1 := hact.2.2.2.2.1
        have ha2 := hact.2.2.2.2.2.1
        have hk1 := hact.2.2.2.2.2.2.2.1
        have hk2 := hact.2.2.2.2.2.2.2.2
        have i1 : (k : Int) < (l.length : Int) := by omega
        clear hc hact
        generalize l[k] = m at d0 d1 d2 d3 d4 d5 d6 d7 d8 hss ha1 ha2 hk1 hk2
        have hba := (Below.refl wr.heap.size wr).alloc (Nat.le_refl _) (.cells (actArr m) 39)
        have hDa := hD.below hba
        have hMa := hM.below hba
        have hbw := belowThen hb hba
        have hx : (wr.alloc (.cells (actArr m) 39)).heap[wr.heap.size]? = some (.cells (actArr m) 39 (0, 0)) := heap_alloc_new _ _
        obtain ⟨gx, hgx⟩ : ∃ gx, wr.heap.size = gx := ⟨_, rfl⟩
        obtain ⟨wa, hwa⟩ : ∃ wa, wr.alloc (.cells (actArr m) 39) = wa := ⟨_, rfl⟩
        rw [hwa] at hDa hMa hbw hx
        rw [hgx] at hx
        unfold actArr at hwa
        have HWA := Lib.hid hwa
        have HGX := Lib.hid hgx
        have e0 : wa.cell? ⟨gx, 0, none⟩ = some (.string m.kind) := cell_of_row _ _ _ _ _ _ hx
        have e1 : wa.cell? ⟨gx, 1, none⟩ = some (.string m.s) := cell_of_row _ _ _ _ _ _ hx
        have e2 : wa.cell? ⟨gx, 2, none⟩ = some (.int .i64 m.a) := cell_of_row _ _ _ _ _ _ hx
        have e6 : wa.cell? ⟨gx, 6, none⟩ = some (.int .u64 m.k) := cell_of_row _ _ _ _ _ _ hx
        clear hwa hgx hba hD hM hb
        go_upto_block 2 with (fail)
        rw [HWA.out, HGX.out]
        clear HWA HGX d0 d1 d2 d3 d4 d5 d6 d7 d8
        go_cut [12] (fun s12 wx => s12 = .bool true ∧ ∃ wy, wx = wy ∧ Both w wy g gm nn (k + 1))
        case first =>
          cases hk0 : (m.kind.toList == [119, 114, 105, 116, 101]) with
          | true =>
            have hne0 := dkWriteE_nonneg D m.a m.s
            have HP := dkWrite_any _ g wa.drew D m.a m.s (hDa.drewN 1) hss (by omega)
            have HR := fun w6 (h : Step w.heap.size dkTypes wa.drew w6) => rdWrite_any _ gm w6 M m.a m.s ((hMa.below (below_drewN (Below.refl _ _) 1)).step h not_mem_dk.1 not_mem_dk.2.1 not_mem_dk.2.2.1) hss (by rw [← hag.wr]; omega)
            rw [← hag.writeE] at HR
            have hag' := hag.write m.a m.s
            have hlen' := (dkWrite_len D m.a m.s).trans hlen
            have hwr' : (dkWrite D m.a m.s).wr.length ≤ k + 1 := Nat.le_trans (dkWrite_wrl D m.a m.s) (by omega)
            generalize dkWrite D m.a m.s = D' at *
            generalize rdWrite M m.a m.s = M' at *
            generalize dkWriteE D m.a m.s = ne at *
            have HP' := Lib.hid HP
            have HR' := Lib.hid HR
            have HK1 := Lib.hid (fun w6 (h : Step w.heap.size dkTypes wa.drew w6) => show w6.cell? ⟨gx, 1, none⟩ = some (.string m.s) ∧ w6.cell? ⟨gx, 2, none⟩ = some (.int .i64 m.a) from
              ⟨cell_of_row _ _ _ _ _ _ (h.other _ _ _ _ hx not_mem_dk.2.2.2), cell_of_row _ _ _ _ _ _ (h.other _ _ _ _ hx not_mem_dk.2.2.2)⟩)
            have HK2 := Lib.hid (fun w6 (h : Step w.heap.size dkTypes wa.drew w6) w7 (h7 : Step w.heap.size rdTypes w6 w7) => show w7.cell? ⟨gx, 1, none⟩ = some (.string m.s) ∧ w7.cell? ⟨gx, 2, none⟩ = some (.int .i64 m.a) from
              ⟨cell_of_row _ _ _ _ _ _ (h7.other _ _ _ _ (h.other _ _ _ _ hx not_mem_dk.2.2.2) not_mem_rd.2.2.2), cell_of_row _ _ _ _ _ _ (h7.other _ _ _ _ (h.other _ _ _ _ hx not_mem_dk.2.2.2) not_mem_rd.2.2.2)⟩)
            have FIN := Lib.hid (fun w6 (h : Step w.heap.size dkTypes wa.drew w6) (t : DkAt w.heap.size w6 g D') w7 (h7 : Step w.heap.size rdTypes w6 w7) (t7 : RdAt w.heap.size w7 gm M') => show Both w w7 g gm nn (k + 1) from
              ⟨D', M', t.step h7 not_mem_rd.1 not_mem_rd.2.1 not_mem_rd.2.2.1, t7, hag', hlen', hwr', (hbw.drew.trans h.below).trans h7.below⟩)
            have HLEN := Lib.hid hlen
            have HLEN' := Lib.hid hlen'
            clear HP HR hlen hlen' hk1 hk2 ha1 ha2
            go_wp2_with fail
            go_region_held3 (fun w' => w'.cell? ⟨gx, 1, none⟩ = some (.string m.s) ∧ w'.cell? ⟨gx, 2, none⟩ = some (.int .i64 m.a)) (first | exact ⟨e1, e2⟩ | exact HK1.out _ t6 | exact HK2.out _ t6 _ t7)
              (first
                | (go_at_call 12; refine HP'.out.mono ?_; rintro e w6 ⟨rfl, h6, t6⟩)
                | (go_at_call 13; refine (HR'.out _ t6).mono ?_; rintro e w7 ⟨rfl, h7, t7⟩)
                | (go_at_call 10; refine (said_yes ne _ hne0).mono ?_; rintro e w8 ⟨rfl, rfl⟩))
            go_wp2_with fail
            go_meet
            exact ⟨rfl, _, rfl, FIN.out _ t6 h6 _ t7 h7⟩
          | false =>
            cases hk1' : (m.kind.toList == [114, 101, 97, 100]) with
            | true =>
              have hne0 := dkReadE_nonneg D m.a
              have HP := dkRead_any _ g wa D m.a hDa
              have HR := rdRead_any _ gm wa M m.a hMa
              rw [← hag.read, ← hag.readE] at HR
              generalize dkRead D m.a = s at *
              generalize dkReadE D m.a = ne at *
              have HP' := Lib.hid HP
              have HR' := Lib.hid HR
              have FIN := Lib.hid (show Both w wa g gm nn (k + 1) from ⟨D, M, hDa, hMa, hag, hlen, by omega, hbw⟩)
              clear HP HR hlen hk1 hk2 ha1 ha2 hDa hMa hag
              go_wp2_with fail
              ((with_reducible refine HP'.out.mono ?_); rintro e w6 ⟨rfl, rfl⟩)
              go_wp2_with fail
              ((with_reducible refine HR'.out.mono ?_); rintro e w6 ⟨rfl, rfl⟩)
              go_wp2_with fail
              ((with_reducible refine (said_yes ne _ hne0).mono ?_); rintro e w6 ⟨rfl, rfl⟩)
              go_wp2_with fail
              go_meet
              exact ⟨rfl, _, rfl, FIN.out⟩
            | false =>
              cases hk2' : (m.kind.toList == [102, 108, 117, 115, 104]) with
              | true =>
                have hne0 := dkStepE_nonneg D
                have HP := dkFlush_any _ g wa D hDa
                have HR := fun w6 (h : Step w.heap.size dkTypes wa w6) => rdFlush_any _ gm w6 M (hMa.step h not_mem_dk.1 not_mem_dk.2.1 not_mem_dk.2.2.1)
                rw [← hag.stepE] at HR
                have hag' := hag.flush
                have hlen' := (dkFlush_len D).trans hlen
                have hwr' : (dkFlush D).wr.length ≤ k + 1 := Nat.le_trans (dkFlush_wrl D) (by omega)
                generalize dkFlush D = D' at *
                generalize rdFlush M = M' at *
                generalize dkStepE D = ne at *
                have HP' := Lib.hid HP
                have HR' := Lib.hid HR
                have FIN := Lib.hid (fun w6 (h : Step w.heap.size dkTypes wa w6) (t : DkAt w.heap.size w6 g D') w7 (h7 : Step w.heap.size rdTypes w6 w7) (t7 : RdAt w.heap.size w7 gm M') => show Both w w7 g gm nn (k + 1) from
                  ⟨D', M', t.step h7 not_mem_rd.1 not_mem_rd.2.1 not_mem_rd.2.2.1, t7, hag', hlen', hwr', (hbw.trans h.below).trans h7.below⟩)
                clear HP HR hlen hlen' hk1 hk2 ha1 ha2 hDa hMa hag hag'
                go_wp2_with fail
                ((with_reducible refine HP'.out.mono ?_); rintro e w6 ⟨rfl, h6, t6⟩)
                go_wp2_with fail
                ((with_reducible refine (HR'.out _ t6).mono ?_); rintro e w7 ⟨rfl, h7, t7⟩)
                go_wp2_with fail
                ((with_reducible refine (said_yes ne _ hne0).mono ?_); rintro e w8 ⟨rfl, rfl⟩)
                go_wp2_with fail
                go_meet
                exact ⟨rfl, _, rfl, FIN.out _ t6 h6 _ t7 h7⟩
              | false =>
                cases hk3' : (m.kind.toList == [97, 114, 109]) with
                | true =>
                  have HP := Lib.hid (dkArm_any _ g wa D m.a hDa ha1 ha2)
                  have hag' := hag.arm m.a
                  have FIN := Lib.hid (fun w6 (h : Step w.heap.size dkTypes wa w6) (t : DkAt w.heap.size w6 g (dkArm D m.a)) => show w6.cell? ⟨gx, 2, none⟩ = some (.int .i64 m.a) ∧ w6.cell? ⟨gm, 3, none⟩ = some (.int .i64 M.left) ∧ w6.frozen? ⟨gm, 3, none⟩ = false ∧ Hid (Both w (w6.setCell ⟨gm, 3, none⟩ (.int .i64 (max m.a (-1)))) g gm nn (k + 1)) from by
                    have hM6 := hMa.step h not_mem_dk.1 not_mem_dk.2.1 not_mem_dk.2.2.1
                    obtain ⟨hok, kv, nv, wv, hi⟩ := hM6
                    obtain ⟨q1, q2⟩ := hi.put 3 (.int .i64 (max m.a (-1))) (dkArm M (max m.a (-1))) wv rfl rfl rfl hi.wr
                    refine ⟨cell_of_row _ _ _ _ _ _ (h.other _ _ _ _ hx not_mem_dk.2.2.2), cell_of_row _ _ _ _ _ _ hi.row, frozen_of_row _ _ _ _ _ hi.row, Lib.hid ⟨dkArm D m.a, dkArm M (max m.a (-1)), t.step q2 not_mem_rd.1 not_mem_rd.2.1 not_mem_rd.2.2.1, ⟨⟨hok.size, hok.few, hok.some, hok.now, hok.dur, hok.wr, ?_, ?_⟩, kv, nv, wv, q1⟩, hag', hlen, by show D.wr.length ≤ k + 1; omega, (hbw.trans h.below).trans q2.below⟩⟩
                    · show _ ≤ max m.a (-1); omega
                    · show max m.a (-1) ≤ _; omega)
                  clear hlen hk1 hk2 hDa hMa hag hag'
                  go_wp2_with fail
                  ((with_reducible refine HP.out.mono ?_); rintro e w6 ⟨rfl, h6, t6⟩)
                  obtain ⟨f1, f2, f3, f4⟩ := FIN.out _ t6 h6
                  clear FIN HP e0 e1 e2 e6
                  go_wp2_with fail
                  all_goals
                    go_meet
                    refine ⟨rfl, _, rfl, ?_⟩
                    have f5 := f4.out
                    first
                      | exact f5
                      | (rw [show max m.a (-1) = -1 by omega] at f5; exact f5)
                      | (rw [show max m.a (-1) = m.a by omega] at f5; exact f5)
                | false =>
                  obtain ⟨kp, hkp⟩ := Int.eq_ofNat_of_zero_le hk1
                  rw [hkp] at e6 hk2
                  have hkp2 : kp < 18446744073709551616 := by omega
                  have HP := Lib.hid (dkRestart_any _ g wa D kp hDa hkp2 (by omega))
                  have HR := Lib.hid (fun w6 (h : Step w.heap.size dkTypes wa w6) => rdRestart_any _ gm w6 M kp (hMa.step h not_mem_dk.1 not_mem_dk.2.1 not_mem_dk.2.2.1) hkp2 (by rw [← hag.wr]; omega))
                  have hag' := hag.restart kp
                  have hlen' : (dkRestart D kp).now.length = nn := by
                    obtain ⟨ho, _⟩ := hDa
                    rw [dkRestart, dkKeep_length, ho.size]; exact hlen
                  have FIN := Lib.hid (fun w6 (h : Step w.heap.size dkTypes wa w6) (t : DkAt w.heap.size w6 g (dkRestart D kp)) w7 (h7 : Step w.heap.size rdTypes w6 w7) (t7 : RdAt w.heap.size w7 gm (dkRestart M kp)) => show Both w w7 g gm nn (k + 1) from
                    ⟨_, _, t.step h7 not_mem_rd.1 not_mem_rd.2.1 not_mem_rd.2.2.1, t7, hag', hlen', by simp [dkRestart], (hbw.trans h.below).trans h7.below⟩)
                  have HC := Lib.hid (fun w6 (h : Step w.heap.size dkTypes wa w6) => show w6.cell? ⟨gx, 6, none⟩ = some (.int .u64 (kp : Int)) from by
                    rw [← hkp]; exact cell_of_row _ _ _ _ _ _ (h.other _ _ _ _ hx not_mem_dk.2.2.2))
                  clear hlen hlen' hk1 hk2 ha1 ha2 hDa hMa hag hag' hkp
                  go_wp2_with fail
                  ((with_reducible refine HP.out.mono ?_); rintro e w6 ⟨rfl, h6, t6⟩)
                  have c6 := HC.out _ t6
                  clear e0 e1 e2 e6 HP HC
                  go_wp2_with fail
                  ((with_reducible refine (HR.out _ t6).mono ?_); rintro e w7 ⟨rfl, h7, t7⟩)
                  go_wp2_with fail
                  go_meet
                  exact ⟨rfl, _, rfl, FIN.out _ t6 h6 _ t7 h7⟩
        case rest =>
          obtain ⟨rfl, wx, ex, hBx⟩ := hcut
          rw [ex]
          clear ex hDa hMa hbw hx e0 e1 e2 e6 hag hlen hwr
          have hBx' := hBx
          obtain ⟨D, M, hD, hM, hag, _, _, _⟩ := hBx'
          have HDW := dkDown_any _ g wx.drew D (hD.drewN 1)
          have c4 : wx.cell? ⟨gm, 4, none⟩ = some (.bool D.down) := by
            obtain ⟨_, kv, nv, wv, hi⟩ := hM
            rw [hag.down]; exact cell_of_row _ _ _ _ _ _ hi.row
          generalize D.down = dn at *
          have HDW' := Lib.hid HDW
          have HBX := Lib.hid (fun q => show Both w (wx.drewN q) g gm nn (k + 1) from by
            obtain ⟨D, M, hD, hM, hag, h1, h2, h3⟩ := hBx
            exact ⟨D, M, hD.drewN q, hM.below (below_drewN (Below.refl _ _) q), hag, h1, h2, below_drewN h3 q⟩)
          clear HDW hBx hD hM hag
          go_wp2_with fail
          go_region_held3 (fun w' => w'.cell? ⟨gm, 4, none⟩ = some (.bool dn)) (first | exact c4)
            (first | (go_at_call 21; refine HDW'.out.mono ?_; rintro e w6 ⟨rfl, rfl⟩))
          go_wp2
          go_roundw
          case rel => exact ⟨k + 1, hlt, by go_num, HBX.out 1⟩
          case measure => simp [intOf]; omega
      · obtain ⟨D, M, hD, hM, hag, hlen, _, hb⟩ := hB
        have HBN : nn ≤ 260 := by have := hn'.out; omega
        go_wp2
        go_loopw [17] (fun i w' => ∃ (j : Nat), j ≤ nn + 2 ∧ i = .int .i64 ((j : Int) - 1) ∧ wr = w') (fun i _ => ((nn : Int) + 1 - intOf i).toNat)
        case atStart => exact ⟨0, by omega, rfl, rfl⟩
        case round =>
          obtain ⟨j, hj, rfl, rfl⟩ := hrel
          have HEND := Lib.hid hb
          by_cases hlt2 : j < nn + 2
          · have HR1 := dkRead_any _ g wr D ((j : Int) - 1) hD
            have HR2 := rdRead_any _ gm wr M ((j : Int) - 1) hM
            have hne0 := dkReadE_nonneg D ((j : Int) - 1)
            rw [← hag.read, ← hag.readE] at HR2
            have i1 : (j : Int) - 1 ≤ (nn : Int) := by omega
            generalize dkRead D ((j : Int) - 1) = s at *
            generalize dkReadE D ((j : Int) - 1) = ne at *
            have HR1' := Lib.hid HR1
            have HR2' := Lib.hid HR2
            clear HR1 HR2
            go_wp2_with fail
            ((with_reducible refine HR1'.out.mono ?_); rintro e w6 ⟨rfl, rfl⟩)
            go_wp2_with fail
            ((with_reducible refine HR2'.out.mono ?_); rintro e w6 ⟨rfl, rfl⟩)
            go_wp2_with fail
            ((with_reducible refine (said_yes ne _ hne0).mono ?_); rintro e w6 ⟨rfl, rfl⟩)
            go_wp2
            go_roundw
            case rel => exact ⟨j + 1, by omega, by congr 1; omega, by first | trivial | rfl⟩
            case measure => simp [intOf]; omega
          · have i1 : ¬ (j : Int) - 1 ≤ (nn : Int) := by omega
            go_wp2
            go_ret
            exact ⟨rfl, HEND.out⟩
  · have hnew1 : Calls Try.prog 8 #[.int .i64 n] w2 fun e w' => e = .returned (.tuple #[.pointer none, errV 1]) ∧ w2 = w' := (dkNew_any w2 n).mono (fun e w' h => by unfold DkNew at h; rw [if_neg hn] at h; exact h)
    have hnew2 : Calls Try.prog 9 #[.int .i64 n] w2 fun e w' => e = .returned (.tuple #[.pointer none, .int .i64 1]) ∧ w2 = w' := (rdNew_any w2 n).mono (fun e w' h => by unfold RdNew at h; rw [if_neg hn] at h; exact h)
    clear hn
    go_wp2_with fail
    ((with_reducible refine hnew1.mono ?_); rintro e w3 ⟨rfl, rfl⟩)
    go_wp2_with fail
    ((with_reducible refine hnew2.mono ?_); rintro e w3 ⟨rfl, rfl⟩)
    go_wp2_with fail
    ((with_reducible refine (said_yes 1 _ (by omega)).mono ?_); rintro e w3 ⟨rfl, rfl⟩)
    go_wp2
    go_ret
    exact ⟨rfl, hb2⟩
end Go.Proofs.Ytimbdomkpdmehaa
