/- PoolSays: for all acts on a pool, it answers as the document does. The walk of the law. -/
import Derived.Test.YtmgnikkbakpbdaaRefG
import Derived.Test.YtmgnikkbakpbdaaLight
import Derived.Deep.DeepCutAuto
import Derived.Deep.CutBlock
namespace Go.Proofs.Ytmgnikkbakpbdaa
open Go.RowKit Go.Maps

set_option maxHeartbeats 8000000 in
set_option maxRecDepth 100000 in
theorem poolSays_walk (A : Option Addr) (cA : Nat) (l : List ActM) (w : World) (hA : ActsAt w w.heap.size A l) :
    Calls Try.prog 3 #[.slice A l.length cA] w fun e w' => e = .returned (.bool true) ∧ Below w.heap.size w w' := by
  have hm := hA.1
  unfold maxLen at hm
  go_enter Try.func3, Try.ntmps3
  go_wp2_with fail
  ((with_reducible refine (pools_closed _).mono ?_); rintro e w1 ⟨rfl, hb1⟩)
  go_wp2_with fail
  ((with_reducible refine (lightActs_any _ _ _ _ _ (hA.below hb1)).mono ?_); rintro e w2 ⟨r, rfl, hr, hb2⟩)
  replace hb2 := belowThen hb1 hb2
  clear hb1
  cases r
  · go_wp2
    go_ret
    exact ⟨rfl, hb2⟩
  have hl120 : l.length ≤ 120 := by have := hr rfl; omega
  clear hr
  go_wp2_with fail
  ((with_reducible refine (poolNew_any _).mono ?_); rintro e w3 ⟨rfl, h3, hb3⟩)
  have hB := blks_new w3
  have hb4 := (Below.refl w3.heap.size w3).alloc (Nat.le_refl _) (.cells Try.zeroCells36 36)
  have h4 := h3.below hb4
  obtain ⟨gm, hgm⟩ : ∃ gm, w3.heap.size = gm := ⟨_, rfl⟩
  obtain ⟨w4, hw4⟩ : ∃ w4, w3.alloc (.cells Try.zeroCells36 36) = w4 := ⟨_, rfl⟩
  have hb2s := hb2.size
  have hgm1 : w2.heap.size + 1 < gm := by rw [← hgm]; exact h3.lt
  rw [hw4] at hB h4 hb4
  have hb5 : Below w.heap.size w w4 := belowThen (belowThen hb2 hb3) hb4
  rw [hgm] at hB
  clear hb4 hb3 h3 hb2
  go_wp2
  clear hw4 hgm
  go_loopw [4, 6] (fun v i w' => ∃ (k : Nat) (p : PoolM) (g b : Nat), k ≤ l.length ∧ i = .int .i64 k ∧ v = .pointer (some ⟨g, 0, none⟩) ∧ PoolAt w' g b k p ∧ BlksAt w' gm p ∧ w.heap.size ≤ g ∧ w.heap.size ≤ b ∧ g ≠ gm ∧ b ≠ gm ∧ Below w.heap.size w w') (fun _ i _ => l.length - (intOf i).toNat)
  case atStart => exact ⟨0, emptyPool, _, _, Nat.zero_le _, rfl, rfl, h4, hB, by omega, by omega, by omega, by omega, hb5⟩
  case round =>
    obtain ⟨k, p, g, b, hk, rfl, rfl, hP, hM, hg, hbb, hgne, hbne, hb⟩ := hrel
    clear h4 hB hb5
    by_cases hlt : k < l.length
    · obtain ⟨ga, off, rfl, hact⟩ := (hA.below hb).2 k hlt
      have hc := hact.2.1
      have d0 : wr.cell? ⟨ga, off + k * 9, none⟩ = some (.string l[k].kind) := hc 0 (by omega)
      have d1 : wr.cell? ⟨ga, off + k * 9 + 1, none⟩ = some (.string l[k].s) := hc 1 (by omega)
      have d2 : wr.cell? ⟨ga, off + k * 9 + 2, none⟩ = some (.int .i64 l[k].a) := hc 2 (by omega)
      have d3 : wr.cell? ⟨ga, off + k * 9 + 3, none⟩ = some (.int .i64 l[k].b) := hc 3 (by omega)
      have d4 : wr.cell? ⟨ga, off + k * 9 + 4, none⟩ = some (.int .i64 l[k].c) := hc 4 (by omega)
      have d5 : wr.cell? ⟨ga, off + k * 9 + 5, none⟩ = some (.int .i64 l[k].d) := hc 5 (by omega)
      have d6 : wr.cell? ⟨ga, off + k * 9 + 6, none⟩ = some (.int .u64 l[k].k) := hc 6 (by omega)
      have d7 : wr.cell? ⟨ga, off + k * 9 + 7, none⟩ = some (.slice l[k].pA l[k].pL l[k].pC) := hc 7 (by omega)
      have d8 : wr.cell? ⟨ga, off + k * 9 + 8, none⟩ = some (.slice l[k].cA l[k].cL l[k].cC) := hc 8 (by omega)
      have hss := hact.2.2.2.2.2.2.1
      have ha1 := hact.2.2.2.2.1
      have ha2 := hact.2.2.2.2.2.1
      unfold maxLen at hss
      have i1 : (k : Int) < (l.length : Int) := by omega
      clear hc hact
      generalize l[k] = m at d0 d1 d2 d3 d4 d5 d6 d7 d8 hss ha1 ha2
      have hba := (Below.refl wr.heap.size wr).alloc (Nat.le_refl _) (.cells (actArr m) 41)
      have hPa := hP.below hba
      have hMa := hM.below hba
      have hbw := belowThen hb hba
      have e1 : (wr.alloc (.cells (actArr m) 41)).cell? ⟨wr.heap.size, 1, none⟩ = some (.string m.s) := cell_of_row _ _ _ _ _ _ (heap_alloc_new _ _)
      have e2 : (wr.alloc (.cells (actArr m) 41)).cell? ⟨wr.heap.size, 2, none⟩ = some (.int .i64 m.a) := cell_of_row _ _ _ _ _ _ (heap_alloc_new _ _)
      obtain ⟨gx, hgx⟩ : ∃ gx, wr.heap.size = gx := ⟨_, rfl⟩
      obtain ⟨wa, hwa⟩ : ∃ wa, wr.alloc (.cells (actArr m) 41) = wa := ⟨_, rfl⟩
      have hx1 : gm < gx := by rw [← hgx]; exact hM.lt
      have hx2 : g < gx := by rw [← hgx]; exact hP.lt
      have hx3 : b < gx := by rw [← hgx]; exact hP.ltb
      rw [hwa] at hPa hMa hbw e1 e2
      rw [hgx] at e1 e2
      unfold actArr at hwa
      have HWA := Lib.hid hwa
      have HGX := Lib.hid hgx
      clear hwa hgx hba hP hM hb
      go_upto_block 2 with (fail)
      rw [HWA.out, HGX.out]
      clear HWA HGX d0 d1 d2 d3 d4 d5 d6 d7 d8
      have hK9 : ∀ n, (p n).refs ≤ 1000000000 := fun n => Nat.le_trans (hPa.ok.refs n) (by omega)
      have HK9 := Lib.hid hK9
      clear hK9
      go_cut [4, 8] (fun s4 s8 wx => ∃ (p' : PoolM) (g' b' : Nat), s4 = .pointer (some ⟨g', 0, none⟩) ∧ s8 = .bool true ∧ PoolAt wx g' b' (k + 1) p' ∧ BlksAt wx gm p' ∧ w.heap.size ≤ g' ∧ w.heap.size ≤ b' ∧ g' ≠ gm ∧ b' ≠ gm ∧ wx.cell? ⟨gx, 2, none⟩ = some (.int .i64 m.a) ∧ Below w.heap.size w wx)
      case first =>
        cases hk0 : (m.kind.toList == [112, 117, 116]) with
        | true =>
          obtain ⟨nv, hnv⟩ : ∃ nv, putId p m.s = nv := ⟨_, rfl⟩
          obtain ⟨ne, hne⟩ : ∃ ne, putErr p m.s = ne := ⟨_, rfl⟩
          obtain ⟨q, hq⟩ : ∃ q, putP p m.s = q := ⟨_, rfl⟩
          have hne0 : 0 ≤ ne := by rw [← hne]; exact putErr_nonneg _ _
          have HP := Lib.hid (fun w' (h' : PoolAt w' g b k p) => putS g b k w' p m.s nv ne q h' (by omega) hnv hne hq)
          have HR := Lib.hid (fun w' (h' : BlksAt w' gm p) => refPutS gm w' p m.s nv ne q h' (by omega) hnv hne hq)
          clear hnv hne hq
          go_wp2_with fail
          ((with_reducible refine (HP.out _ hPa).mono ?_); rintro e w6 ⟨rfl, h6, t6⟩)
          have hM6 := hMa.turn t6 (by simp; omega)
          have c6 := t6.cellKept e1 (by simp; omega)
          have c6' := t6.cellKept e2 (by simp; omega)
          have hb6 := hbw.trans (t6.below hbw.size (by simp; omega))
          clear t6 hPa hMa e1 e2 hbw HP
          go_wp2_with fail
          ((with_reducible refine (HR.out _ hM6).mono ?_); rintro e w7 ⟨rfl, h7, t7⟩)
          have hP7 := h6.turn t7 (by simp; omega) (by simp; omega)
          have c7 := t7.cellKept c6' (by simp; omega)
          have hb7 := hb6.trans (t7.below hb6.size (by simp; omega))
          clear t7 h6 hM6 c6 c6' hb6 HR
          go_wp2_with fail
          ((with_reducible refine (said_yes ne _ hne0).mono ?_); rintro e w8 ⟨rfl, rfl⟩)
          go_wp2_with fail
          go_meet
          exact ⟨q, g, b, rfl, rfl, hP7, h7, hg, hbb, hgne, hbne, c7, hb7⟩
        | false =>
          cases hk1 : (m.kind.toList == [114, 101, 102]) with
          | true =>
            obtain ⟨ne, hne⟩ : ∃ ne, refErr p m.a = ne := ⟨_, rfl⟩
            obtain ⟨q, hq⟩ : ∃ q, addRef p m.a = q := ⟨_, rfl⟩
            have hne0 : 0 ≤ ne := by rw [← hne]; exact refErr_nonneg _ _
            have HP := Lib.hid (fun w' (h' : PoolAt w' g b k p) => addS g b k w' p m.a ne q h' ⟨ha1, ha2⟩ (by omega) hne hq)
            have HR := Lib.hid (fun w6 (t6 : Turn [b] wa.drew w6) => refAddS gm w6 p m.a ne q (BlksAt.turn (w := wa.drew) (hMa.keep rfl) t6 (by simp; omega)) HK9.out hne hq)
            have HK1 := Lib.hid (fun w6 (t6 : Turn [b] wa.drew w6) => Turn.cellKept (a := wa.drew) t6 e2 (show gx ∉ [b] by simp; omega))
            have HK2 := Lib.hid (fun w6 (t6 : Turn [b] wa.drew w6) w7 (t7 : Turn [gm] w6 w7) => t7.cellKept (HK1.out w6 t6) (show gx ∉ [gm] by simp; omega))
            clear hne hq
            go_wp2_with fail
            go_region_held3 (fun w' => w'.cell? ⟨gx, 2, none⟩ = some (.int .i64 m.a)) (first | exact e2 | exact HK1.out _ t6 | exact HK2.out _ t6 _ t7)
              (first
                | (go_at_call 12; refine (HP.out _ (hPa.below (Below.refl _ _).drew)).mono ?_; rintro e w6 ⟨rfl, h6, t6⟩)
                | (go_at_call 13; refine (HR.out _ t6).mono ?_; rintro e w7 ⟨rfl, h7, t7⟩)
                | (go_at_call 11; refine (said_yes ne _ hne0).mono ?_; rintro e w8 ⟨rfl, rfl⟩))
            all_goals
              have hb6 : Below w.heap.size w w6 := Below.trans (b := wa.drew) hbw.drew (t6.below (by exact hbw.size) (by simp; omega))
              have hb7 := hb6.trans (t7.below hb6.size (by simp; omega))
              have hP7 := h6.turn t7 (by simp; omega) (by simp; omega)
              have c7 := HK2.out _ t6 _ t7
              clear t6 t7 h6 hb6 HP HR HK1 HK2 hPa hMa e1 e2 hbw
              go_wp2_with fail
              go_meet
              exact ⟨q, g, b, rfl, rfl, hP7, h7, hg, hbb, hgne, hbne, c7, hb7⟩
          | false =>
            cases hk2 : (m.kind.toList == [117, 110, 114, 101, 102]) with
            | true =>
              obtain ⟨ne, hne⟩ : ∃ ne, refErr p m.a = ne := ⟨_, rfl⟩
              obtain ⟨q, hq⟩ : ∃ q, subRef p m.a = q := ⟨_, rfl⟩
              have hne0 : 0 ≤ ne := by rw [← hne]; exact refErr_nonneg _ _
              have HP := Lib.hid (fun w' (h' : PoolAt w' g b k p) => subS g b k w' p m.a ne q h' ⟨ha1, ha2⟩ (by omega) hne hq)
              have HR := Lib.hid (fun w6 (t6 : Turn [b] wa.drew w6) => refSubS gm w6 p m.a ne q (BlksAt.turn (w := wa.drew) (hMa.keep rfl) t6 (by simp; omega)) HK9.out hne hq)
              have HK1 := Lib.hid (fun w6 (t6 : Turn [b] wa.drew w6) => Turn.cellKept (a := wa.drew) t6 e2 (show gx ∉ [b] by simp; omega))
              have HK2 := Lib.hid (fun w6 (t6 : Turn [b] wa.drew w6) w7 (t7 : Turn [gm] w6 w7) => t7.cellKept (HK1.out w6 t6) (show gx ∉ [gm] by simp; omega))
              clear hne hq
              go_wp2_with fail
              go_region_held3 (fun w' => w'.cell? ⟨gx, 2, none⟩ = some (.int .i64 m.a)) (first | exact e2 | exact HK1.out _ t6 | exact HK2.out _ t6 _ t7)
                (first
                  | (go_at_call 14; refine (HP.out _ (hPa.below (Below.refl _ _).drew)).mono ?_; rintro e w6 ⟨rfl, h6, t6⟩)
                  | (go_at_call 13; refine (HR.out _ t6).mono ?_; rintro e w7 ⟨rfl, h7, t7⟩)
                  | (go_at_call 11; refine (said_yes ne _ hne0).mono ?_; rintro e w8 ⟨rfl, rfl⟩))
              all_goals
                have hb6 : Below w.heap.size w w6 := Below.trans (b := wa.drew) hbw.drew (t6.below (by exact hbw.size) (by simp; omega))
                have hb7 := hb6.trans (t7.below hb6.size (by simp; omega))
                have hP7 := (h6.turn t7 (by simp; omega) (by simp; omega)).mono (Nat.le_succ _)
                have c7 := HK2.out _ t6 _ t7
                clear t6 t7 h6 hb6 HP HR HK1 HK2 hPa hMa e1 e2 hbw
                go_wp2_with fail
                go_meet
                exact ⟨q, g, b, rfl, rfl, hP7, h7, hg, hbb, hgne, hbne, c7, hb7⟩
            | false =>
              obtain ⟨nv, hnv⟩ : ∃ nv, putId p ⟨#[111, 108, 100]⟩ = nv := ⟨_, rfl⟩
              obtain ⟨ne, hne⟩ : ∃ ne, putErr p ⟨#[111, 108, 100]⟩ = ne := ⟨_, rfl⟩
              obtain ⟨q, hq⟩ : ∃ q, putP p ⟨#[111, 108, 100]⟩ = q := ⟨_, rfl⟩
              obtain ⟨ne', hne'⟩ : ∃ ne, refErr q m.a = ne := ⟨_, rfl⟩
              have HP := Lib.hid (fun w' (h' : PoolAt w' g b k p) => putS g b k w' p ⟨#[111, 108, 100]⟩ nv ne q h' (by decide) hnv hne hq)
              have HU := Lib.hid (fun w' (h' : PoolAt w' g b (k + 1) q) => subS g b (k + 1) w' q m.a ne' (subRef q m.a) h' ⟨ha1, ha2⟩ (by omega) hne' rfl)
              clear hnv hne hq hne'
              go_wp2_with fail
              ((with_reducible refine (poolCopy_any g b k _ p hPa).mono ?_); rintro e w6 ⟨g', b', rfl, h6, hg6, hb6', hB6⟩)
              have hs1 := hPa.lt
              have hs2 := hPa.ltb
              have hs3 := hMa.lt
              have hPo := hPa.below hB6
              have hM6 := hMa.below hB6
              have c6 := below_cellKept hB6 e2
              have hb6 := belowThen hbw hB6
              have hbws := hbw.size
              clear hB6 hPa hMa e1 e2 hbw
              go_wp2_with fail
              ((with_reducible refine (HP.out _ hPo).mono ?_); rintro e w7 ⟨rfl, h7, t7⟩)
              have hQ7 := h6.turn t7 (by simp; omega) (by simp; omega)
              have hM7 := hM6.turn t7 (by simp; omega)
              have c7 := t7.cellKept c6 (by simp; omega)
              have hb7 := hb6.trans (t7.below hb6.size (by simp; omega))
              clear t7 h6 hM6 c6 hb6 hPo HP
              go_wp2_with fail
              ((with_reducible refine (HU.out _ h7).mono ?_); rintro e w8 ⟨rfl, h8, t8⟩)
              have hQ8 := (hQ7.turn t8 (by simp; omega) (by simp; omega)).mono (Nat.le_succ _)
              have hM8 := hM7.turn t8 (by simp; omega)
              have c8 := t8.cellKept c7 (by simp; omega)
              have hb8 := hb7.trans (t8.below hb7.size (by simp; omega))
              clear t8 h7 h8 hM7 c7 hb7 hQ7 HU
              go_wp2_with fail
              go_meet
              exact ⟨p, g', b', rfl, rfl, hQ8, hM8, by omega, by omega, by omega, by omega, c8, hb8⟩
      case rest =>
        obtain ⟨p', g', b', rfl, rfl, hP', hM', hg', hb', hgne', hbne', c2, hbx⟩ := hcut
        clear hPa hMa hbw e1 e2 hx1 hx2 hx3 hg hbb hgne hbne HK9
        obtain ⟨s, hs⟩ : ∃ s, getText p' m.a = s := ⟨_, rfl⟩
        obtain ⟨ne, hne⟩ : ∃ ne, refErr p' m.a = ne := ⟨_, rfl⟩
        obtain ⟨L, hL⟩ : ∃ L, numsOf p' = L := ⟨_, rfl⟩
        obtain ⟨n, hn⟩ : ∃ n, L.length = n := ⟨_, rfl⟩
        have hne0 : 0 ≤ ne := by rw [← hne]; exact refErr_nonneg _ _
        have hn40 : n ≤ 40 := by rw [← hn, ← hL]; exact keysOf_le _ _
        have HL := Lib.hid hL
        have HN := Lib.hid hn
        have HG := Lib.hid (fun w' (h' : PoolAt w' g' b' (k + 1) p') => getS g' b' (k + 1) w' p' m.a ne s h' ⟨ha1, ha2⟩ hne hs)
        have HGR := Lib.hid (fun w' (h' : BlksAt w' gm p') => refGetS gm w' p' m.a ne s h' hne hs)
        have HNU := Lib.hid (fun w' (h' : PoolAt w' g' b' (k + 1) p') => numbersS g' b' (k + 1) w' p' L n h' hL hn)
        have HBL := Lib.hid (fun w' (h' : BlksAt w' gm p') => blocksS gm w' p' L n h' hL hn)
        have hst : (s.toList != s.toList) = false := by simp
        clear hs hne hL hn ha1 ha2 hss
        go_wp2_with fail
        ((with_reducible refine (HG.out _ hP').mono ?_); rintro e w6 ⟨rfl, hb6⟩)
        replace hP' := hP'.below hb6
        replace hM' := hM'.below hb6
        replace c2 := below_cellKept hb6 c2
        replace hb6 := belowThen hbx hb6
        clear hbx HG
        go_wp2_with fail
        ((with_reducible refine (HGR.out _ hM').mono ?_); rintro e w7 ⟨rfl, rfl⟩)
        clear HGR c2
        go_wp2_with fail
        ((with_reducible refine (said_yes ne _ hne0).mono ?_); rintro e w8 ⟨rfl, rfl⟩)
        go_wp2_with fail
        ((with_reducible refine (HNU.out _ hP').mono ?_); rintro e w9 ⟨A1, c1, rfl, hA1, hb9⟩)
        have hP9 := hP'.below hb9
        have hM9 := hM'.below hb9
        replace hb9 := belowThen hb6 hb9
        clear hP' hM' hb6
        go_wp2_with fail
        ((with_reducible refine (HBL.out _ hM9).mono ?_); rintro e w10 ⟨A2, c2, rfl, hA2, hb10⟩)
        have hP10 := hP9.below hb10
        have hM10 := hM9.below hb10
        have hA3 := hA1.below hb10
        replace hb10 := belowThen hb9 hb10
        clear hP9 hM9 hb9 hA1 HBL
        go_wp2_with fail
        ((with_reducible refine (sameS A1 A2 c1 c2 n L _ hA3 hA2 HN.out (by omega)).mono ?_); rintro e w11 ⟨rfl, hb11⟩)
        have hP11 := hP10.below hb11
        have hM11 := hM10.below hb11
        replace hb11 := belowThen hb10 hb11
        clear hP10 hM10 hb10 hA3 hA2
        go_wp2_with fail
        ((with_reducible refine (HNU.out _ hP11).mono ?_); rintro e w12 ⟨A4, c4, rfl, hA4, hb12⟩)
        have hP12 := hP11.below hb12
        have hM12 := hM11.below hb12
        replace hb12 := belowThen hb11 hb12
        clear hP11 hM11 hb11 HNU
        go_wp2
        go_loopw [19] (fun i w' => ∃ j : Nat, j ≤ n ∧ i = .int .i64 j ∧ PoolAt w' g' b' (k + 1) p' ∧ BlksAt w' gm p' ∧ IntsAt w' A4 L ∧ Below w.heap.size w w') (fun i _ => n - (intOf i).toNat)
        case atStart => exact ⟨0, Nat.zero_le _, rfl, hP12, hM12, hA4, hb12⟩
        case round =>
          obtain ⟨j, hj, rfl, hPj, hMj, hAj, hbj⟩ := hrel
          clear hP12 hM12 hA4 hb12
          by_cases hjn : j < n
          · have hjL : j < L.length := by rw [HN.out]; exact hjn
            obtain ⟨gn, on, rfl, cj⟩ := hAj j hjL
            obtain ⟨x, hx⟩ : ∃ x, L[j] = x := ⟨_, rfl⟩
            have hxm : x ∈ numsOf p' := by rw [HL.out, ← hx]; exact List.getElem_mem hjL
            have hxs : hasBlk p' x = true := by rw [← poolMap_isSome]; exact (List.mem_filter.1 hxm).2
            obtain ⟨x1, x2, _⟩ := (hasBlk_iff p' x).1 hxs
            obtain ⟨y, rfl⟩ := Int.eq_ofNat_of_zero_le (show 0 ≤ x by omega)
            rw [hx] at cj
            have hlook : ∀ z : Value, (poolMap p' y).getD z = .agg #[.string (p' y).data, .int .i64 (p' y).refs] := fun z => by
              unfold poolMap
              rw [if_pos hxs]
              rfl
            have HLK := Lib.hid hlook
            have y1 : (0 : Int) ≤ (y : Int) := by omega
            have y2 : (y : Int) < 41 := by omega
            have j1 : (j : Int) < (n : Int) := by omega
            have hy40 : y ≤ 40 := by omega
            clear hlook hxm hxs hx hjL
            go_wp2_with fail
            refine region_tail 18 (by kernel_rfl) (by kernel_rfl) ?_
            intro w13 hw13
            have hP13 : PoolAt w13 g' b' (k + 1) p' := by rw [hw13]; exact hPj.below (Below.refl _ _).drew
            have hM13 : BlksAt w13 gm p' := by rw [hw13]; exact hMj.keep rfl
            have hA13 : IntsAt w13 (some ⟨gn, on, none⟩) L := by rw [hw13]; exact hAj.below (Below.refl _ _).drew
            have c13 : w13.cell? ⟨gn, on + j, none⟩ = some (.int .i64 y) := by rw [hw13]; exact cj
            have hb13 : Below w.heap.size w w13 := by rw [hw13]; exact hbj.drew
            have k1 := hP13.cell
            have k2 := hM13.data y hy40
            have k3 := hM13.refs y hy40
            have hlk : (Instr.lookup 58 (.map (some b')) (.int .i64 y) false).run Try.prog w13 = .ok (.agg #[.string (p' y).data, .int .i64 (p' y).refs]) w13 := by
              rw [hP13.map.look Try.underlying58 (Try.zeroBlock _) (by omega), HLK.out]
            clear hw13 hPj hMj hAj cj hbj
            simp only [List.take_succ_cons, List.take_zero, List.drop_succ_cons, List.drop_zero]
            repeat still_step
            refine wpStill_nil ?_
            go_wp2
            go_roundw
            case rel => exact ⟨j + 1, hjn, by go_num, hP13, hM13, hA13, hb13⟩
            case measure => simp [intOf]; omega
          · go_wp2
            go_roundw
            case rel => exact ⟨k + 1, p', g', b', hlt, by go_num, rfl, hPj, hMj, hg', hb', hgne', hbne', hbj⟩
            case measure => simp [intOf]; omega
    · go_wp2
      go_ret
      exact ⟨rfl, hb⟩
end Go.Proofs.Ytmgnikkbakpbdaa
