/- VaultSays: the walk of the law. -/
import Derived.Test.YtkjnipjomfbalaaZqVs1
import Derived.Deep.DeepCutAuto
import Derived.Deep.CutBlock
namespace Go.Proofs.Ytkjnipjomfbalaa
open Go.RowKit Go.Maps

set_option maxHeartbeats 8000000 in
set_option maxRecDepth 100000 in
theorem vaultSays_walk (A : Option Addr) (cA : Nat) (l : List ActM) (w : World) (hA : ActsAt w w.heap.size A l) :
    Calls Try.prog 3 #[.slice A l.length cA] w fun e w' => e = .returned (.bool true) ∧ Below w.heap.size w w' := by
  have hml := hA.1
  unfold maxLen at hml
  go_enter Try.func3, Try.ntmps3
  go_wp2_with fail
  ((with_reducible refine (vaults_any _).mono ?_); rintro e w1 ⟨rfl, hb1⟩)
  have hA1 := hA.below hb1
  go_wp2_with fail
  ((with_reducible refine (lightActs_any _ _ _ _ _ hA1).mono ?_); rintro e w2 ⟨r, rfl, hr, hb2⟩)
  replace hb2 := belowThen hb1 hb2
  clear hA1 hb1
  cases r
  · go_wp2
    go_ret
    exact ⟨rfl, hb2⟩
  have hl40 := hr rfl
  clear hr
  go_wp2_with fail
  ((with_reducible refine (vauNew_any _).mono ?_); rintro e w3 ⟨v, x, gp, bp, bn, rfl, h3, hf, hb3⟩)
  go_wp2_with fail
  ((with_reducible refine (rvauNew_any _).mono ?_); rintro e w4 ⟨mv, gm, rfl, hm4, hm1, hm2, hb4⟩)
  have hv4 : VauIn w4 v emptyVau := ⟨_, _, _, _, _, _, h3.below hb4⟩
  have hm4' : RVauIn w4 mv emptyVau := ⟨_, _, _, hm4⟩
  have hb := belowThen (belowThen hb2 hb3) hb4
  clear h3 hf hm4 hb2 hb3 hb4 hm1 hm2
  go_wp2
  go_loopw [4, 5, 6] (fun pv pm i w' => ∃ (k u um : Nat) (V : VauM), k ≤ l.length ∧ pv = .pointer (some ⟨u, 0, none⟩) ∧ pm = .pointer (some ⟨um, 0, none⟩) ∧ i = .int .i64 k ∧ VauIn w' u V ∧ RVauIn w' um V ∧ V.Ok ∧ Below w.heap.size w w') (fun _ _ i _ => l.length - (intOf i).toNat)
  case atStart => exact ⟨0, v, mv, emptyVau, Nat.zero_le _, rfl, rfl, rfl, hv4, hm4', vau_empty, hb⟩
  case round =>
    obtain ⟨k, u, um, V, hk, rfl, rfl, rfl, hvu, hvm, hV, hbr⟩ := hrel
    clear hv4 hm4' hb
    by_cases hlt : k < l.length
    · obtain ⟨ga, off, rfl, hact⟩ := (hA.below hbr).2 k hlt
      obtain ⟨ps, hpl, hps⟩ := hact.puts
      have hplt := hact.putsLt
      have hc := hact.2.1
      have d0 : wr.cell? ⟨ga, off + k * 9, none⟩ = some (.string l[k].kind) := hc 0 (by omega)
      have d1 : wr.cell? ⟨ga, off + k * 9 + 1, none⟩ = some (.string l[k].s) := hc 1 (by omega)
      have d2 : wr.cell? ⟨ga, off + k * 9 + 2, none⟩ = some (.int .i64 l[k].a) := hc 2 (by omega)
      have d3 : wr.cell? ⟨ga, off + k * 9 + 3, none⟩ = some (.int .i64 l[k].b) := hc 3 (by omega)
      have d4 : wr.cell? ⟨ga, off + k * 9 + 4, none⟩ = some (.int .i64 l[k].c) := hc 4 (by omega)
      have d5 : wr.cell? ⟨ga, off + k * 9 + 5, none⟩ = some (.int .i64 l[k].d) := hc 5 (by omega)
      have d6 : wr.cell? ⟨ga, off + k * 9 + 6, none⟩ = some (.int .u64 l[k].k) := hc 6 (by omega)
      have d7 : wr.cell? ⟨ga, off + k * 9 + 7, none⟩ = some (.slice l[k].pA l[k].pL l[k].pC) := hc 7 (by omega)
      have d8 : wr.cell? ⟨ga, off + k * 9 + 8, none⟩ = some (.slice l[k].cA l[k].cL l[k].cC) := hc 8 (by omega)
      have hwide := hact.2.2.2.2.2.2.2.2.2
      have i1 : (k : Int) < (l.length : Int) := by omega
      clear hc hact
      generalize l[k] = m at d0 d1 d2 d3 d4 d5 d6 d7 d8 hwide hps hpl hplt
      have hcc : m.c ≤ 9223372036854775807 := hwide.2.1.2
      have hb0 := (Below.refl wr.heap.size wr).alloc (Nat.le_refl _) (.cells (actArr m) 33)
      have hx := heap_alloc_new wr (.cells (actArr m) 33)
      have hsz0 : (wr.alloc (.cells (actArr m) 33)).heap.size = wr.heap.size + 1 := by simp
      have hpsa := hps.below hb0
      have hva := hvu.below hb0
      have hma := hvm.below hb0
      have hba := belowThen hbr hb0
      obtain ⟨gx, hgx⟩ : ∃ gx, wr.heap.size = gx := ⟨_, rfl⟩
      obtain ⟨wa, hwa⟩ : ∃ wa, wr.alloc (.cells (actArr m) 33) = wa := ⟨_, rfl⟩
      rw [hwa] at hx hpsa hva hma hba hsz0
      rw [hgx] at hx hsz0 hplt
      unfold actArr at hwa
      have HWA := Lib.hid hwa
      have HGX := Lib.hid hgx
      have HROW := Lib.hid (fun w' (h : Below wa.heap.size wa w') => show w'.heap[gx]? = some (.cells (actArr m) 33 (0, 0)) from (h.block gx (by omega)).trans hx)
      obtain ⟨x0, gp0, bp0, bn0, B0, lv0, h0⟩ := hva
      obtain ⟨g0, B0', lm0, r0⟩ := hma
      have HC1 := Lib.hid (vauCopy_any wa u x0 gp0 bp0 bn0 B0 lv0 V h0 hV)
      have HVA := Lib.hid (show VauIn wa u V from ⟨x0, gp0, bp0, bn0, B0, lv0, h0⟩)
      have HMA := Lib.hid (show RVauIn wa um V from ⟨g0, B0', lm0, r0⟩)
      have HC2 := Lib.hid (fun w' (h : Below wa.heap.size wa w') => rvauCopy_any w' um g0 B0' lm0 V (r0.below h) hV)
      have HBA := Lib.hid hba
      have HPSA := Lib.hid hpsa
      have hsza : wr.heap.size ≤ wa.heap.size := by omega
      clear hwa hgx hb0 hx hvu hvm hbr h0 r0 hba hps hpsa
      go_wp2_with fail
      rw [HWA.out, HGX.out]
      clear HWA HGX d0 d1 d2 d3 d4 d5 d6 d7 d8
      (refine HC1.out.mono ?_; rintro e w1 ⟨v1, x1, gp1, bp1, bn1, lv1, rfl, h1, hf1, hb1⟩)
      have HC2' := Lib.hid (HC2.out w1 hb1)
      clear HC1 HC2
      go_wp2_with fail
      (refine HC2'.out.mono ?_; rintro e w2 ⟨m1, g1, lm1, rfl, hm2, hmf1, hmf2, hb2⟩)
      clear HC2'
      have hb02 := belowThen hb1 hb2
      have hs1 : wa.heap.size ≤ w1.heap.size := hb1.size
      have hs2 : w1.heap.size ≤ w2.heap.size := hb2.size
      obtain ⟨ne, hne⟩ : ∃ ne, keptE V m ps = ne := ⟨_, rfl⟩
      obtain ⟨n, hn⟩ : ∃ n, keptN V m ps = n := ⟨_, rfl⟩
      obtain ⟨V1, hV1⟩ : ∃ V1, keptV V m ps = V1 := ⟨_, rfl⟩
      have hne0 : 0 ≤ ne := by rw [← hne]; exact keptE_nonneg V m ps
      have HOK1 := Lib.hid (fun (h0 : ne = 0) => show V1.Ok by rw [← hV1]; exact kept_ok hV m ps (hne.trans h0))
      have HK := Lib.hid (kept_any w2 v1 x1 gp1 bp1 bn1 wa.heap.size lv1 V V1 m ps (h1.below hb2) (Nat.le_trans hs1 hs2) hV (HPSA.out.below hb02) hpl ne n hne hn hV1)
      have HFROM := Lib.hid (show ∀ b ∈ vbs v1 bp1 bn1 lv1, wa.heap.size ≤ b from vbs_from hf1 h1.pts)
      have HOLD := Lib.hid (show ∀ b ∈ vbs v1 bp1 bn1 lv1, b < w1.heap.size from h1.old)
      have HNW := Lib.hid (show v1 < w1.heap.size ∧ x1 < w1.heap.size ∧ gp1 < w1.heap.size ∧ bp1 < w1.heap.size ∧ bn1 < w1.heap.size from ⟨h1.lt, h1.idx.lt, h1.idx.pool.lt, h1.idx.pool.ltb, h1.idx.ltn⟩)
      have HLV1 := Lib.hid (show ∀ b, lv1.ownBlock = some b → b < w1.heap.size from fun b hb => (World.ownsRow.lt h1.pts b hb).2)
      have HKR := Lib.hid (fun w' (h' : RVauAt w' m1 g1 w1.heap.size lm1 V) (hs : w1.heap.size ≤ w'.heap.size) (hp' : PutList w' m.pA ps) => keptRef_any w' m1 g1 w1.heap.size lm1 V V1 m ps h' hs hV hp' (fun a h0 ha => by have := hplt a (by omega) ha; omega) hpl ne n hne hn hV1)
      have HMOLD := Lib.hid (show ∀ b ∈ rbs m1 g1 lm1, w1.heap.size ≤ b ∧ b < w2.heap.size from fun b hb => ⟨rbs_from ⟨hmf1, hmf2⟩ hm2.pts b hb, hm2.old b hb⟩)
      have HM2 := Lib.hid hm2
      have hx2 := HROW.out w2 hb02
      have a0 : w2.cell? ⟨gx, 0, none⟩ = some (.string m.kind) := cell_of_row _ _ _ _ _ _ hx2
      have a1 : w2.cell? ⟨gx, 1, none⟩ = some (.string m.s) := cell_of_row _ _ _ _ _ _ hx2
      have a2 : w2.cell? ⟨gx, 2, none⟩ = some (.int .i64 m.a) := cell_of_row _ _ _ _ _ _ hx2
      have a3 : w2.cell? ⟨gx, 3, none⟩ = some (.int .i64 m.b) := cell_of_row _ _ _ _ _ _ hx2
      have a4 : w2.cell? ⟨gx, 4, none⟩ = some (.int .i64 m.c) := cell_of_row _ _ _ _ _ _ hx2
      have a5 : w2.cell? ⟨gx, 5, none⟩ = some (.int .i64 m.d) := cell_of_row _ _ _ _ _ _ hx2
      have a6 : w2.cell? ⟨gx, 6, none⟩ = some (.int .u64 m.k) := cell_of_row _ _ _ _ _ _ hx2
      have a7 : w2.cell? ⟨gx, 7, none⟩ = some (.slice m.pA m.pL m.pC) := cell_of_row _ _ _ _ _ _ hx2
      have a8 : w2.cell? ⟨gx, 8, none⟩ = some (.slice m.cA m.cL m.cC) := cell_of_row _ _ _ _ _ _ hx2
      have HB02 := Lib.hid hb02
      clear hx2 hb02 hm2 h1 hb1 hb2 hf1 hne hn hV1
      go_wp2_with fail
      (refine HK.out.mono ?_; rintro e w3 ⟨rfl, h3, t3⟩)
      clear HK a0 a1 a2 a3 a4 a5 a6 a7 a8
      have hb03 : Below wa.heap.size wa w3 := HB02.out.trans (t3.below (Nat.le_trans hs1 hs2) HFROM.out)
      have hs3 : w2.heap.size ≤ w3.heap.size := t3.size
      have hm3 : RVauAt w3 m1 g1 w1.heap.size lm1 V := HM2.out.farTurn t3 HOLD.out hmf1 hmf2
      have HKR3 := Lib.hid (HKR.out w3 hm3 (by omega) (HPSA.out.below hb03))
      have H3 := Lib.hid h3
      have hx3 := HROW.out w3 hb03
      have a0 : w3.cell? ⟨gx, 0, none⟩ = some (.string m.kind) := cell_of_row _ _ _ _ _ _ hx3
      have a1 : w3.cell? ⟨gx, 1, none⟩ = some (.string m.s) := cell_of_row _ _ _ _ _ _ hx3
      have a2 : w3.cell? ⟨gx, 2, none⟩ = some (.int .i64 m.a) := cell_of_row _ _ _ _ _ _ hx3
      have a3 : w3.cell? ⟨gx, 3, none⟩ = some (.int .i64 m.b) := cell_of_row _ _ _ _ _ _ hx3
      have a4 : w3.cell? ⟨gx, 4, none⟩ = some (.int .i64 m.c) := cell_of_row _ _ _ _ _ _ hx3
      have a5 : w3.cell? ⟨gx, 5, none⟩ = some (.int .i64 m.d) := cell_of_row _ _ _ _ _ _ hx3
      have a6 : w3.cell? ⟨gx, 6, none⟩ = some (.int .u64 m.k) := cell_of_row _ _ _ _ _ _ hx3
      have a7 : w3.cell? ⟨gx, 7, none⟩ = some (.slice m.pA m.pL m.pC) := cell_of_row _ _ _ _ _ _ hx3
      have a8 : w3.cell? ⟨gx, 8, none⟩ = some (.slice m.cA m.cL m.cC) := cell_of_row _ _ _ _ _ _ hx3
      have HB03 := Lib.hid hb03
      clear hx3 hb03 hm3 h3 t3 HKR HM2
      go_wp2_with fail
      (refine HKR3.out.mono ?_; rintro e w4 ⟨rfl, h4, t4⟩)
      clear HKR3 a0 a1 a2 a3 a4 a5 a6 a7 a8
      have hb04 : Below wa.heap.size wa w4 := HB03.out.trans (t4.below (by omega) (fun b hb => by have := HMOLD.out b hb; omega))
      have HNEW := Lib.hid (fun (e0 : ne = 0) => show VauIn w4 v1 V1 ∧ RVauIn w4 m1 V1 from by
        obtain ⟨lv3, q3, l3⟩ := H3.out e0
        exact ⟨⟨_, _, _, _, _, _, q3.farTurn (S1 := w1.heap.size) (S2 := w2.heap.size) t4 HMOLD.out HNW.out fun b hb => (l3 b hb).imp (HLV1.out b) id⟩, h4 e0⟩)
      have HAV := Lib.hid (asVaultS w4 u um V (HVA.out.below hb04) (HMA.out.below hb04) hV)
      have HV4 := Lib.hid (show VauIn w4 u V ∧ RVauIn w4 um V from ⟨HVA.out.below hb04, HMA.out.below hb04⟩)
      have HSAY := Lib.hid (fun w' => said_yes ne w' hne0)
      have HB04 := Lib.hid hb04
      have bn0 : ((n : Int) != (n : Int)) = false := by simp
      clear hb04 h4 t4 H3 HB03 HB02 HMOLD HFROM HOLD HNW HLV1 HVA HMA
      go_wp2_with fail
      (refine (HSAY.out _).mono ?_; rintro e w5 ⟨rfl, rfl⟩)
      go_wp2_with fail
      (refine HAV.out.mono ?_; rintro e w5 ⟨rfl, hb5⟩)
      clear HAV HSAY
      have hb05 := belowThen HB04.out hb5
      have HV5 := Lib.hid (show VauIn w5 u V ∧ RVauIn w5 um V from ⟨HV4.out.1.below hb5, HV4.out.2.below hb5⟩)
      have HN5 := Lib.hid (fun (e0 : ne = 0) => show VauIn w5 v1 V1 ∧ RVauIn w5 m1 V1 from ⟨(HNEW.out e0).1.below hb5, (HNEW.out e0).2.below hb5⟩)
      have HB05 := Lib.hid hb05
      have HVOK := Lib.hid hV
      clear hb05 hb5 HNEW HV4 HB04 bn0 hV
      go_upto_if 73 with (fail)
      go_cut [4, 5] (fun s4 s5 wx => ∃ (u2 um2 : Nat) (V2 : VauM), s4 = .pointer (some ⟨u2, 0, none⟩) ∧ s5 = .pointer (some ⟨um2, 0, none⟩) ∧ VauIn w5 u2 V2 ∧ RVauIn w5 um2 V2 ∧ V2.Ok ∧ wx = w5)
      case first =>
        by_cases e0 : ne = 0
        · have he : (ne == 0) = true := by simpa using e0
          have HN6 := Lib.hid (HN5.out e0)
          have HO6 := Lib.hid (HOK1.out e0)
          clear e0 HN5 HOK1
          go_wp2
          go_meet
          exact ⟨v1, m1, V1, rfl, rfl, HN6.out.1, HN6.out.2, HO6.out, rfl⟩
        · have he : (ne == 0) = false := by simpa using e0
          clear e0 HN5 HOK1
          go_wp2
          go_meet
          exact ⟨u, um, V, rfl, rfl, HV5.out.1, HV5.out.2, HVOK.out, rfl⟩
      case rest =>
        as_aux_lemma =>
        obtain ⟨u2, um2, V2, rfl, rfl, hv5, hm5, hV2, hwc⟩ := hcut
        subst hwc
        have hx5 := HROW.out wc HB05.out
        have hgx5 := (Array.getElem?_eq_some_iff.1 hx5).1
        have HCELL := Lib.hid (fun w' (h : Below wc.heap.size wc w') => show w'.cell? ⟨gx, 2, none⟩ = some (.int .i64 m.a) ∧ w'.cell? ⟨gx, 3, none⟩ = some (.int .i64 m.b) ∧ w'.cell? ⟨gx, 4, none⟩ = some (.int .i64 m.c) from ⟨(h.cell (p := ⟨gx, 2, none⟩) hgx5).trans (cell_of_row _ _ _ _ _ _ hx5), (h.cell (p := ⟨gx, 3, none⟩) hgx5).trans (cell_of_row _ _ _ _ _ _ hx5), (h.cell (p := ⟨gx, 4, none⟩) hgx5).trans (cell_of_row _ _ _ _ _ _ hx5)⟩)
        clear hx5 HROW HOK1 HN5 HV5 HPSA
        obtain ⟨s, hs⟩ : ∃ s, readText V2 m.a m.b = s := ⟨_, rfl⟩
        obtain ⟨f2, hf2⟩ : ∃ f2, readErr V2 m.a m.b = f2 := ⟨_, rfl⟩
        have hf20 : 0 ≤ f2 := by rw [← hf2]; exact readErr_nonneg _ _ _
        obtain ⟨p, hp⟩ : ∃ p, findP V2 m.a = p := ⟨_, rfl⟩
        obtain ⟨q, hq⟩ : ∃ q, findB V2 m.a = q := ⟨_, rfl⟩
        obtain ⟨L, hL⟩ : ∃ L, eldestL V2.L m.b m.c = L := ⟨_, rfl⟩
        obtain ⟨N, hN⟩ : ∃ N, L.length = N := ⟨_, rfl⟩
        have hN6 : N ≤ 6 := by
          have h1 := eldestL_len V2.L m.b m.c
          have h2 := eldUp_len V2.L m.b V2.L.length
          have h3 := hV2.len
          rw [hL, hN] at h1
          omega
        have H1 := Lib.hid (readS wc u2 V2 m.a m.b hv5 hV2 s f2 hs hf2)
        have H2 := Lib.hid (fun w' (h : Below wc.heap.size wc w') => rreadS w' um2 V2 m.a m.b (hm5.below h) hV2 s f2 hs hf2)
        have H3 := Lib.hid (fun w' (h : Below wc.heap.size wc w') => findS w' u2 V2 m.a (hv5.below h) hV2 p q hp hq)
        have H4 := Lib.hid (fun w' (h : Below wc.heap.size wc w') => rfindS w' um2 V2 m.a (hm5.below h) hV2 p q hp hq)
        have H5 := Lib.hid (fun w' (h : Below wc.heap.size wc w') => eldestS w' u2 V2 m.b m.c (hv5.below h) hV2 hcc L N hL hN)
        have H6 := Lib.hid (fun w' (h : Below wc.heap.size wc w') => reldestS w' um2 V2 m.b m.c (hm5.below h) hV2 hcc L N hL hN)
        have H7 := Lib.hid (fun w' (h : Below wc.heap.size wc w') => asVaultS w' u2 um2 V2 (hv5.below h) (hm5.below h) hV2)
        have HSAY := Lib.hid (fun w' => said_yes f2 w' hf20)
        have HEND := Lib.hid (fun w' (h : Below wc.heap.size wc w') => show VauIn w' u2 V2 ∧ RVauIn w' um2 V2 ∧ V2.Ok ∧ Below w.heap.size w w' from ⟨hv5.below h, hm5.below h, hV2, belowThen (belowThen HBA.out HB05.out) h⟩)
        have HNN := Lib.hid hN
        obtain ⟨c2, c3, c4⟩ := HCELL.out wc (Below.refl _ _)
        clear hs hf2 hp hq hL hN hv5 hm5 hV2
        go_wp2_with fail
        (refine H1.out.mono ?_; rintro e w6 ⟨rfl, hb6⟩)
        have HR2 := Lib.hid (H2.out w6 hb6)
        clear H1 H2 c2 c3 c4
        obtain ⟨c2, c3, c4⟩ := HCELL.out w6 hb6
        go_wp2_with fail
        (refine HR2.out.mono ?_; rintro e w7 ⟨rfl, hb7⟩)
        replace hb7 := belowThen hb6 hb7
        have HR3 := Lib.hid (H3.out w7 hb7)
        clear HR2 H3 c2 c3 c4 hb6
        obtain ⟨c2, c3, c4⟩ := HCELL.out w7 hb7
        go_wp2_with fail
        (refine HR3.out.mono ?_; rintro e w8 ⟨rfl, hb8⟩)
        replace hb8 := belowThen hb7 hb8
        have hba8 := (Below.refl w8.heap.size w8).alloc (Nat.le_refl _) (.cells #[.int .i64 p.id, .int .i64 p.disk, .int .i64 p.size, .int .i64 p.root] 47)
        have hp8 := heap_alloc_new w8 (.cells #[.int .i64 p.id, .int .i64 p.disk, .int .i64 p.size, .int .i64 p.root] 47)
        have hb9 := belowThen hb8 hba8
        have HR4 := Lib.hid (H4.out _ hb9)
        clear HR3 H4 c2 c3 c4 hb7 hba8 hb8
        obtain ⟨c2, c3, c4⟩ := HCELL.out _ hb9
        go_wp2_with fail
        (refine HR4.out.mono ?_; rintro e w10 ⟨rfl, hb10⟩)
        have hb10' := belowThen hb9 hb10
        have hs8 : w8.heap.size < (w8.alloc (.cells #[.int .i64 p.id, .int .i64 p.disk, .int .i64 p.size, .int .i64 p.root] 47)).heap.size := by simp
        have hp10 := (hb10.block _ hs8).trans hp8
        have hs10 : w8.heap.size < w10.heap.size := Nat.lt_of_lt_of_le hs8 hb10.size
        have hba := (Below.refl w10.heap.size w10).alloc (Nat.le_refl _) (.cells #[.int .i64 p.id, .int .i64 p.disk, .int .i64 p.size, .int .i64 p.root] 47)
        have hq11 := heap_alloc_new w10 (.cells #[.int .i64 p.id, .int .i64 p.disk, .int .i64 p.size, .int .i64 p.root] 47)
        have hp11 := (hba.block _ hs10).trans hp10
        have hb11 := belowThen hb10' hba
        clear HR4 c2 c3 c4 hb9 hb10 hb10' hp8 hp10 hs8 hba
        obtain ⟨c2, c3, c4⟩ := HCELL.out _ hb11
        obtain ⟨wb, hwb⟩ : ∃ wb, w10.alloc (.cells #[.int .i64 p.id, .int .i64 p.disk, .int .i64 p.size, .int .i64 p.root] 47) = wb := ⟨_, rfl⟩
        obtain ⟨g1, hg1⟩ : ∃ g1, w8.heap.size = g1 := ⟨_, rfl⟩
        obtain ⟨g2, hg2⟩ : ∃ g2, w10.heap.size = g2 := ⟨_, rfl⟩
        rw [hwb] at hq11 hp11 hb11 c2 c3 c4
        rw [hg1] at hp11
        rw [hg2] at hq11
        have p0 : wb.cell? ⟨g1, 0, none⟩ = some (.int .i64 p.id) := cell_of_row _ _ _ _ _ _ hp11
        have p1 : wb.cell? ⟨g1, 1, none⟩ = some (.int .i64 p.disk) := cell_of_row _ _ _ _ _ _ hp11
        have p2 : wb.cell? ⟨g1, 2, none⟩ = some (.int .i64 p.size) := cell_of_row _ _ _ _ _ _ hp11
        have p3 : wb.cell? ⟨g1, 3, none⟩ = some (.int .i64 p.root) := cell_of_row _ _ _ _ _ _ hp11
        have q0 : wb.cell? ⟨g2, 0, none⟩ = some (.int .i64 p.id) := cell_of_row _ _ _ _ _ _ hq11
        have q1 : wb.cell? ⟨g2, 1, none⟩ = some (.int .i64 p.disk) := cell_of_row _ _ _ _ _ _ hq11
        have q2 : wb.cell? ⟨g2, 2, none⟩ = some (.int .i64 p.size) := cell_of_row _ _ _ _ _ _ hq11
        have q3 : wb.cell? ⟨g2, 3, none⟩ = some (.int .i64 p.root) := cell_of_row _ _ _ _ _ _ hq11
        have HC := Lib.hid (fun w' (h : Below wb.heap.size wb w') => show w'.cell? ⟨gx, 3, none⟩ = some (.int .i64 m.b) ∧ w'.cell? ⟨gx, 4, none⟩ = some (.int .i64 m.c) ∧ w'.cell? ⟨g1, 0, none⟩ = some (.int .i64 p.id) ∧ w'.cell? ⟨g1, 1, none⟩ = some (.int .i64 p.disk) ∧ w'.cell? ⟨g1, 2, none⟩ = some (.int .i64 p.size) ∧ w'.cell? ⟨g1, 3, none⟩ = some (.int .i64 p.root) ∧ w'.cell? ⟨g2, 0, none⟩ = some (.int .i64 p.id) ∧ w'.cell? ⟨g2, 1, none⟩ = some (.int .i64 p.disk) ∧ w'.cell? ⟨g2, 2, none⟩ = some (.int .i64 p.size) ∧ w'.cell? ⟨g2, 3, none⟩ = some (.int .i64 p.root) from ⟨belowKept h c3, belowKept h c4, belowKept h p0, belowKept h p1, belowKept h p2, belowKept h p3, belowKept h q0, belowKept h q1, belowKept h q2, belowKept h q3⟩)
        have HB11 := Lib.hid hb11
        have DD := Lib.hid (below_drewN (Below.refl wb.heap.size wb) 1)
        have HWB := Lib.hid hwb
        have HG1 := Lib.hid hg1
        have HG2 := Lib.hid hg2
        have bs0 : (s.toList == s.toList) = true := by simp
        have bq0 : (q != q) = false := by simp
        clear hp11 hq11 hb11 hwb hg1 hg2 c2 hs10
        go_wp2_with fail
        rw [HWB.out, HG1.out, HG2.out]
        go_region_held3 (fun w' => w'.cell? ⟨gx, 3, none⟩ = some (.int .i64 m.b) ∧ w'.cell? ⟨gx, 4, none⟩ = some (.int .i64 m.c) ∧ w'.cell? ⟨g1, 0, none⟩ = some (.int .i64 p.id) ∧ w'.cell? ⟨g1, 1, none⟩ = some (.int .i64 p.disk) ∧ w'.cell? ⟨g1, 2, none⟩ = some (.int .i64 p.size) ∧ w'.cell? ⟨g1, 3, none⟩ = some (.int .i64 p.root) ∧ w'.cell? ⟨g2, 0, none⟩ = some (.int .i64 p.id) ∧ w'.cell? ⟨g2, 1, none⟩ = some (.int .i64 p.disk) ∧ w'.cell? ⟨g2, 2, none⟩ = some (.int .i64 p.size) ∧ w'.cell? ⟨g2, 3, none⟩ = some (.int .i64 p.root)) (first | exact ⟨c3, c4, p0, p1, p2, p3, q0, q1, q2, q3⟩ | exact HC.out _ DD.out | exact HC.out _ (belowThen DD.out hb12) | exact HC.out _ (belowThen (belowThen DD.out hb12) hb13) | exact HC.out _ (belowThen (belowThen (belowThen DD.out hb12) hb13) hb14) | exact HC.out _ (belowThen (belowThen (belowThen (belowThen DD.out hb12) hb13) hb14) hb15))
          (first
            | (go_at_call 12; refine (HSAY.out _).mono ?_; rintro e w11 ⟨rfl, rfl⟩)
            | (go_at_call 19; refine (H5.out _ (belowThen HB11.out DD.out)).mono ?_; rintro e w12 ⟨A1, k1, rfl, hI1, hb12⟩)
            | (go_at_call 20; refine (H6.out _ (belowThen HB11.out (belowThen DD.out hb12))).mono ?_; rintro e w13 ⟨A2, k2, rfl, hI2, hb13⟩)
            | (go_at_call 18; refine (sameS A1 A2 k1 k2 N L _ (hI1.below hb13) hI2 HNN.out (by omega)).mono ?_; rintro e w14 ⟨rfl, hb14⟩)
            | (go_at_call 13; refine (H7.out _ (belowThen HB11.out (belowThen (belowThen (belowThen DD.out hb12) hb13) hb14))).mono ?_; rintro e w15 ⟨rfl, hb15⟩))
        all_goals
          have HE := Lib.hid (HEND.out _ (belowThen HB11.out (belowThen (belowThen (belowThen (belowThen DD.out hb12) hb13) hb14) hb15)))
          clear p0 p1 p2 p3 q0 q1 q2 q3 c3 c4 hI1 hI2 hb12 hb13 hb14 hb15 HC HEND H5 H6 H7 HSAY bs0 bq0
          go_wp2
          go_roundw
          case rel => exact ⟨k + 1, u2, um2, V2, hlt, rfl, rfl, by go_num, HE.out.1, HE.out.2.1, HE.out.2.2.1, HE.out.2.2.2⟩
          case measure => simp [intOf]; omega
    · go_wp2
      go_ret
      exact ⟨rfl, hbr⟩
end Go.Proofs.Ytkjnipjomfbalaa
