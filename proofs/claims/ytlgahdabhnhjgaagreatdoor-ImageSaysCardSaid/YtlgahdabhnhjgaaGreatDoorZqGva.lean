/- What rows describe, being consistent, is a vault in memory; an empty vault. -/
import Derived.Test.YtlgahdabhnhjgaaGreatDoorZqAp3
import Derived.Test.YtlgahdabhnhjgaaGreatDoorZqSortG
import Derived.Test.YtlgahdabhnhjgaaGreatDoorZqEq1
import Derived.Test.YtlgahdabhnhjgaaGreatDoorZqVau2
/- image.arePoints: slices.IndexFunc and ContainsFunc over the points. -/
namespace Go.Proofs.YtlgahdabhnhjgaaGreatDoor
open Go.RowKit Go.Maps

def IdxP (P : Prop) (j : Int) : Prop := -1 ≤ j ∧ j ≤ 1000 ∧ (0 ≤ j ↔ P)

set_option maxHeartbeats 1000000 in
set_option maxRecDepth 100000 in
theorem idxPts_any (w : World) (v x gp bp bn B : Nat) (lv : Value) (G : GV) (h : GVAt w v x gp bp bn B lv G) (hBd : G.Bd) (hnx : 1 ≤ G.next ∧ G.next ≤ 1000) (hL : G.L.length ≤ 100) (q : Nat) (hq : w.cell? ⟨q, 0, none⟩ = some (.pointer (some ⟨v, 0, none⟩))) :
    Calls Tryz.prog 82 #[lv, .func (.func 104) #[] #[.pointer (some ⟨q, 0, none⟩)]] w fun e w' => (∃ j, e = .returned (.int .i64 j) ∧ IdxP (∃ p ∈ G.L, ¬ PtOk G p) j) ∧ Below w.heap.size w w' := by
  obtain ⟨A3, k3, rfl⟩ := slice_form h.pts
  obtain ⟨n3, hn3⟩ : ∃ n, G.L.length = n := ⟨_, rfl⟩
  rw [hn3] at h hL ⊢
  have HN3 := Lib.hid hn3
  have hq0 := World.block_lt_of_cell? w _ hq
  simp only at hq0
  have HH := Lib.hid (fun w' (hb : Below w.heap.size w w') => h.below hb)
  have HBL := Lib.hid hBd.l
  have HQ := Lib.hid (fun w' (hb : Below w.heap.size w w') p hp => ptLit_any w' v x gp bp bn B _ G (h.below hb) hBd hnx q ((hb.cell (p := ⟨q, 0, none⟩) hq0).trans hq) p hp)
  clear hn3 h hq hq0
  go_enter Tryz.func82, Tryz.ntmps82
  go_wp2_with fail
  go_loopw [8] (fun i w' => ∃ k : Nat, k ≤ n3 ∧ i = .int .i64 k ∧ Hid (∀ j, (hj : j < G.L.length) → j < k → PtOk G G.L[j]) ∧ Below w.heap.size w w') (fun i _ => n3 - (intOf i).toNat)
  case atStart => exact ⟨0, Nat.zero_le _, rfl, fun j _ hj => by omega, Below.refl _ _⟩
  case round =>
    obtain ⟨k, hk, rfl, HF, hb⟩ := hrel
    by_cases hlt : k < n3
    · have hkl : k < G.L.length := by have := HN3.out; omega
      obtain ⟨g, c, hlv, p0, p1, p2, p3⟩ := (HH.out wr hb).pt hkl
      have hbd := HBL.out _ (List.getElem_mem hkl)
      have HM := Lib.hid (List.getElem_mem hkl)
      have HQ1 := HQ.out wr hb _ hbd
      have hor := Classical.em (PtOk G G.L[k])
      obtain ⟨p, hp⟩ : ∃ p, G.L[k] = p := ⟨_, rfl⟩
      rw [hp] at p0 p1 p2 p3 hbd HM HQ1 hor
      have HPK := Lib.hid hp
      simp only [Value.slice.injEq] at hlv
      obtain ⟨hlv1, hlv2, hlv3⟩ := hlv
      subst hlv1
      have i1 : (k : Int) < (n3 : Int) := by omega
      clear hp hlv2 hlv3
      rcases hor with hok | hno
      · have HC := Lib.hid (HQ1.mono fun e w' he => show e = .returned (.bool false) ∧ Below wr.heap.size wr w' from ⟨he.1.no (fun y => y hok), he.2⟩)
        have HOK := Lib.hid hok
        clear HQ1 hok
        go_wp2_with fail
        ((with_reducible refine HC.out.mono ?_); rintro e w1 ⟨rfl, hb1⟩)
        go_wp2
        go_roundw
        case rel => exact ⟨k + 1, hlt, by go_num, fun j hj hjk => by
          by_cases e : j = k
          · subst e; rw [HPK.out]; exact HOK.out
          · exact HF.out j hj (by omega), belowThen hb hb1⟩
        case measure => simp [intOf]; omega
      · have HC := Lib.hid (HQ1.mono fun e w' he => show e = .returned (.bool true) ∧ Below wr.heap.size wr w' from ⟨he.1.yes hno, he.2⟩)
        have HE := Lib.hid (show ∃ p ∈ G.L, ¬ PtOk G p from ⟨p, HM.out, hno⟩)
        clear HQ1 hno
        go_wp2_with fail
        ((with_reducible refine HC.out.mono ?_); rintro e w1 ⟨rfl, hb1⟩)
        go_wp2
        go_ret
        exact ⟨⟨_, rfl, by omega, by omega, fun _ => HE.out, fun _ => by omega⟩, belowThen hb hb1⟩
    · obtain rfl : k = n3 := by omega
      have HE := Lib.hid (show ¬ ∃ p ∈ G.L, ¬ PtOk G p from fun ⟨p, hp, hno⟩ => by
        obtain ⟨j, hj, rfl⟩ := List.getElem_of_mem hp
        exact hno (HF.out j hj (by have := HN3.out; omega)))
      go_wp2
      go_ret
      exact ⟨⟨_, rfl, by omega, by omega, fun hh => absurd hh (by decide), fun hh => absurd hh HE.out⟩, hb⟩

set_option maxRecDepth 100000 in
theorem hasPt_any (w : World) (v x gp bp bn B : Nat) (lv : Value) (G : GV) (h : GVAt w v x gp bp bn B lv G) (hBd : G.Bd) (hnx : 1 ≤ G.next ∧ G.next ≤ 1000) (hL : G.L.length ≤ 100) (q : Nat) (hq : w.cell? ⟨q, 0, none⟩ = some (.pointer (some ⟨v, 0, none⟩))) :
    Calls Tryz.prog 103 #[lv, .func (.func 104) #[] #[.pointer (some ⟨q, 0, none⟩)]] w fun e w' => RetB (∃ p ∈ G.L, ¬ PtOk G p) e ∧ Below w.heap.size w w' := by
  have HQ := Lib.hid (idxPts_any w v x gp bp bn B lv G h hBd hnx hL q hq)
  obtain ⟨P, hP⟩ : ∃ P : Prop, (∃ p ∈ G.L, ¬ PtOk G p) = P := ⟨_, rfl⟩
  rw [hP] at HQ ⊢
  clear h hP hq
  go_enter Tryz.func103, Tryz.ntmps103
  go_wp2_with fail
  ((with_reducible refine HQ.out.mono ?_); rintro e w2 ⟨⟨j, rfl, hj1, hj2, hj3⟩, hb2⟩)
  have HJ := Lib.hid hj3
  clear HQ hj3
  by_cases h0 : 0 ≤ j
  · have d1 : decide (0 ≤ j) = true := by simpa using h0
    have HX := Lib.hid (HJ.out.1 h0)
    go_wp2
    go_ret
    exact ⟨⟨true, by first | rfl | simp [h0], by simpa using HX.out⟩, hb2⟩
  · have d1 : decide (0 ≤ j) = false := by simpa using h0
    have HX := Lib.hid (fun y => h0 (HJ.out.2 y))
    go_wp2
    go_ret
    exact ⟨⟨false, by first | rfl | simp [h0], by simpa using HX.out⟩, hb2⟩
end Go.Proofs.YtlgahdabhnhjgaaGreatDoor

/- image.arePoints; the numbers of what rows describe. -/
namespace Go.Proofs.YtlgahdabhnhjgaaGreatDoor
open Go.RowKit Go.Maps

theorem gpoolNumbers_any (w : World) (v x gp bp bn B : Nat) (lv : Value) (G : GV) (h : GVAt w v x gp bp bn B lv G) (hN : G.pk.length ≤ 1000) : Calls Tryz.prog 27 #[.pointer (some ⟨gp, 0, none⟩)] w (RetInts w (sortI G.pk)) := by
  have c0 := h.g0
  go_enter Tryz.func27, Tryz.ntmps27
  go_wp2_with fail
  ((with_reducible refine (sortedG_Block bp G.pk _ _ h.P hN).mono ?_); rintro e w1 ⟨u, rfl, hO, hb1⟩)
  go_wp2
  go_ret
  exact ⟨u, rfl, hO, hb1⟩
theorem gidxNumbers_any (w : World) (v x gp bp bn B : Nat) (lv : Value) (G : GV) (h : GVAt w v x gp bp bn B lv G) (hN : G.nk.length ≤ 1000) : Calls Tryz.prog 26 #[.pointer (some ⟨x, 0, none⟩)] w (RetInts w (sortI G.nk)) := by
  have c1 := h.x1
  go_enter Tryz.func26, Tryz.ntmps26
  go_wp2_with fail
  ((with_reducible refine (sortedG_Node bn G.nk _ _ h.N hN).mono ?_); rintro e w1 ⟨u, rfl, hO, hb1⟩)
  go_wp2
  go_ret
  exact ⟨u, rfl, hO, hb1⟩

set_option maxHeartbeats 1000000 in
set_option maxRecDepth 100000 in
theorem arePoints_any (w : World) (v x gp bp bn B : Nat) (lv : Value) (G : GV) (h : GVAt w v x gp bp bn B lv G) (hBd : G.Bd) (hnx : 1 ≤ G.next ∧ G.next ≤ 1000) (hL : G.L.length ≤ 100) :
    Calls Tryz.prog 78 #[.pointer (some ⟨v, 0, none⟩)] w fun e w' => RetB (G.L.length ≤ 6 ∧ ∀ p ∈ G.L, PtOk G p) e ∧ Below w.heap.size w w' := by
  have hb1 := (Below.refl w.heap.size w).alloc (Nat.le_refl _) (.cells #[.pointer (some ⟨v, 0, none⟩)] 27)
  have h1 := h.below hb1
  have hc := cell_of_row _ _ 0 _ _ _ (heap_alloc_new w (.cells #[.pointer (some ⟨v, 0, none⟩)] 27))
  have c1 := h1.c1
  have hP := hasPt_any _ v x gp bp bn B lv G h1 hBd hnx hL w.heap.size hc
  obtain ⟨A3, k3, rfl⟩ := slice_form h.pts
  obtain ⟨P, hPP⟩ : ∃ P : Prop, (∃ p ∈ G.L, ¬ PtOk G p) = P := ⟨_, rfl⟩
  have HX := Lib.hid (show (∀ p ∈ G.L, PtOk G p) ↔ ¬ P by
    rw [← hPP]
    constructor
    · rintro k ⟨p, hp, hno⟩; exact hno (k p hp)
    · intro k p hp; exact Classical.byContradiction fun hno => k ⟨p, hp, hno⟩)
  rw [hPP] at hP
  have HP := Lib.hid hP
  obtain ⟨n, hn⟩ : ∃ n, G.L.length = n := ⟨_, rfl⟩
  rw [hn] at c1 HP hL ⊢
  clear hPP h h1 hP hn
  by_cases h6 : n ≤ 6
  · have d1 : decide (n ≤ 6) = true := by simpa using h6
    by_cases hp : P
    · have HC := Lib.hid (HP.out.mono fun e w' he => show e = .returned (.bool true) ∧ Below _ _ w' from ⟨he.1.yes hp, he.2⟩)
      have HZ := Lib.hid (show ¬ (n ≤ 6 ∧ ∀ p ∈ G.L, PtOk G p) from fun k => HX.out.1 k.2 hp)
      clear HP HX hp
      go_enter Tryz.func78, Tryz.ntmps78
      go_wp2_with fail
      ((with_reducible refine HC.out.mono ?_); rintro e w2 ⟨rfl, hb2⟩)
      go_wp2
      go_ret
      exact ⟨⟨false, rfl, iff_of_false (by decide) HZ.out⟩, belowThen hb1 hb2⟩
    · have HC := Lib.hid (HP.out.mono fun e w' he => show e = .returned (.bool false) ∧ Below _ _ w' from ⟨he.1.no hp, he.2⟩)
      have HZ := Lib.hid (show n ≤ 6 ∧ ∀ p ∈ G.L, PtOk G p from ⟨h6, HX.out.2 hp⟩)
      clear HP HX hp
      go_enter Tryz.func78, Tryz.ntmps78
      go_wp2_with fail
      ((with_reducible refine HC.out.mono ?_); rintro e w2 ⟨rfl, hb2⟩)
      go_wp2
      go_ret
      exact ⟨⟨true, rfl, iff_of_true rfl HZ.out⟩, belowThen hb1 hb2⟩
  · have d1 : decide (n ≤ 6) = false := by simpa using h6
    have HZ := Lib.hid (show ¬ (n ≤ 6 ∧ ∀ p ∈ G.L, PtOk G p) from fun k => h6 k.1)
    clear HP HX
    go_enter Tryz.func78, Tryz.ntmps78
    go_wp2
    go_ret
    exact ⟨⟨false, rfl, iff_of_false (by decide) (by first | exact HZ.out | exact id)⟩, hb1⟩
end Go.Proofs.YtlgahdabhnhjgaaGreatDoor

/- image.isConsistent. -/
namespace Go.Proofs.YtlgahdabhnhjgaaGreatDoor
open Go.RowKit Go.Maps
set_option maxHeartbeats 2000000 in
set_option maxRecDepth 100000 in
theorem isConsistent_any (w : World) (v x gp bp bn B : Nat) (lv : Value) (G : GV) (h : GVAt w v x gp bp bn B lv G) (hBd : G.Bd) (hL : G.L.length ≤ 100) (hnk : G.nk.length ≤ 100) (hpk : G.pk.length ≤ 100) (hnr : ∀ m ∈ G.nk, -1000000 ≤ m ∧ m ≤ 1000000) (hpr : ∀ m ∈ G.pk, -1000000 ≤ m ∧ m ≤ 1000000) :
    Calls Tryz.prog 43 #[.pointer (some ⟨v, 0, none⟩)] w fun e w' => RetB (ConsG G) e ∧ Below w.heap.size w w' := by
  have HH := Lib.hid (fun w' (hb : Below w.heap.size w w') => h.below hb)
  have HBd := Lib.hid hBd
  have c2 := h.c2
  have HCG := Lib.hid (show ConsG G ↔ (1 ≤ G.next ∧ G.next ≤ 1000) ∧ (G.L.length ≤ 6 ∧ ∀ p ∈ G.L, PtOk G p) ∧ (∃ rk lk, CntG G rk lk) ∧ (∀ k ∈ sortI G.pk, 1 ≤ k ∧ k ≤ 40) ∧ ∀ k ∈ sortI G.nk, 1 ≤ k ∧ k ≤ 24 from
    ⟨fun k => ⟨k.next, ⟨k.len, k.pts⟩, k.cnt, fun m hm => k.pkr m ((mem_sortI _ _).1 hm), fun m hm => k.nkr m ((mem_sortI _ _).1 hm)⟩,
     fun k => ⟨k.1, k.2.1.1, k.2.1.2, k.2.2.1, fun m hm => k.2.2.2.1 m ((mem_sortI _ _).2 hm), fun m hm => k.2.2.2.2 m ((mem_sortI _ _).2 hm)⟩⟩)
  have HWI := Lib.hid (fun w' (hb : Below w.heap.size w w') => within_any w' G.next 1000)
  have HCN := Lib.hid (fun w' (hb : Below w.heap.size w w') => areCounted_any w' v x gp bp bn B lv G (HH.out w' hb) HBd.out hL hnk hpk hnr hpr)
  have HPN := Lib.hid (fun w' (hb : Below w.heap.size w w') => gpoolNumbers_any w' v x gp bp bn B lv G (HH.out w' hb) (by omega))
  have HXN := Lib.hid (fun w' (hb : Below w.heap.size w w') => gidxNumbers_any w' v x gp bp bn B lv G (HH.out w' hb) (by omega))
  have HLP := Lib.hid (sortI_len G.pk)
  have HLX := Lib.hid (sortI_len G.nk)
  have HP := Lib.hid (fun (hn : 1 ≤ G.next ∧ G.next ≤ 1000) w' (hb : Below w.heap.size w w') => arePoints_any w' v x gp bp bn B lv G (HH.out w' hb) HBd.out hn hL)
  have HK := Lib.hid (show G.nk.length ≤ 100 ∧ G.pk.length ≤ 100 from ⟨hnk, hpk⟩)
  obtain ⟨CG, hCG⟩ : ∃ P : Prop, ConsG G = P := ⟨_, rfl⟩
  obtain ⟨P1, hP1⟩ : ∃ P : Prop, (G.L.length ≤ 6 ∧ ∀ p ∈ G.L, PtOk G p) = P := ⟨_, rfl⟩
  obtain ⟨P2, hP2⟩ : ∃ P : Prop, (∃ rk lk, CntG G rk lk) = P := ⟨_, rfl⟩
  rw [hCG] at HCG ⊢
  rw [hP1] at HCG HP
  rw [hP2] at HCG HCN
  clear h hBd hL hnk hpk hnr hpr hCG hP1 hP2
  by_cases hn : 1 ≤ G.next ∧ G.next ≤ 1000
  · have d0 : decide (1 ≤ G.next ∧ G.next ≤ 1000) = true := by simpa using hn
    rw [d0] at HWI
    have HP1 := Lib.hid (HP.out hn)
    clear HP d0
    by_cases h1 : P1
    · have HA := Lib.hid (fun w' (hb : Below w.heap.size w w') => (HP1.out w' hb).mono fun e w2 he => show e = .returned (.bool true) ∧ Below w'.heap.size w' w2 from ⟨he.1.yes h1, he.2⟩)
      clear HP1
      by_cases h2 : P2
      · have HC := Lib.hid (fun w' (hb : Below w.heap.size w w') => (HCN.out w' hb).mono fun e w2 he => show e = .returned (.bool true) ∧ Below w'.heap.size w' w2 from ⟨he.1.yes h2, he.2⟩)
        clear HCN
        by_cases h3 : ∀ k ∈ sortI G.pk, 1 ≤ k ∧ k ≤ 40
        · have HD := Lib.hid (fun (w' : World) (b : Nat) (u : Value) (ho : OwnInts w' b u (sortI G.pk)) => (allWithin_any w' b u _ 40 ho (by rw [HLP.out]; have := HK.out; omega)).mono fun e w2 he => show e = .returned (.bool true) ∧ Below w'.heap.size w' w2 from ⟨he.1.yes h3, he.2⟩)
          by_cases h4 : ∀ k ∈ sortI G.nk, 1 ≤ k ∧ k ≤ 24
          · have HE := Lib.hid (fun (w' : World) (b : Nat) (u : Value) (ho : OwnInts w' b u (sortI G.nk)) => (allWithin_any w' b u _ 24 ho (by rw [HLX.out]; have := HK.out; omega)).mono fun e w2 he => show e = .returned (.bool true) ∧ Below w'.heap.size w' w2 from ⟨he.1.yes h4, he.2⟩)
            have HZ := Lib.hid (HCG.out.2 ⟨hn, h1, h2, h3, h4⟩)
            clear HCG hn h1 h2 h3 h4 HLP HLX HK HBd
            go_enter Tryz.func43, Tryz.ntmps43
            go_wp2_with fail
            ((with_reducible refine (HWI.out _ (Below.refl _ _)).mono ?_); rintro e w1 ⟨rfl, hb1⟩)
            go_wp2_with fail
            ((with_reducible refine (HA.out _ hb1).mono ?_); rintro e w2 ⟨rfl, hb2⟩)
            replace hb1 := belowThen hb1 hb2
            clear hb2
            go_wp2_with fail
            ((with_reducible refine (HC.out _ hb1).mono ?_); rintro e w3 ⟨rfl, hb2⟩)
            replace hb1 := belowThen hb1 hb2
            clear hb2
            have c30 := (HH.out _ hb1).c0
            have c31 := (HH.out _ hb1).x0
            go_wp2_with fail
            ((with_reducible refine (HPN.out _ hb1).mono ?_); rintro e w4 ⟨u4, rfl, ho4, hb2⟩)
            replace hb1 := belowThen hb1 hb2
            clear hb2 c30 c31
            go_wp2_with fail
            ((with_reducible refine (HD.out _ _ _ ho4).mono ?_); rintro e w5 ⟨rfl, hb2⟩)
            replace hb1 := belowThen hb1 hb2
            clear hb2 ho4
            have c50 := (HH.out _ hb1).c0
            go_wp2_with fail
            ((with_reducible refine (HXN.out _ hb1).mono ?_); rintro e w6 ⟨u6, rfl, ho6, hb2⟩)
            replace hb1 := belowThen hb1 hb2
            clear hb2 c50
            go_wp2_with fail
            ((with_reducible refine (HE.out _ _ _ ho6).mono ?_); rintro e w7 ⟨rfl, hb2⟩)
            replace hb1 := belowThen hb1 hb2
            clear hb2 ho6
            go_wp2
            go_ret
            exact ⟨⟨true, rfl, iff_of_true rfl HZ.out⟩, hb1⟩
          · have HE := Lib.hid (fun (w' : World) (b : Nat) (u : Value) (ho : OwnInts w' b u (sortI G.nk)) => (allWithin_any w' b u _ 24 ho (by rw [HLX.out]; have := HK.out; omega)).mono fun e w2 he => show e = .returned (.bool false) ∧ Below w'.heap.size w' w2 from ⟨he.1.no h4, he.2⟩)
            have HZ := Lib.hid (show ¬ CG from fun k => h4 (HCG.out.1 k).2.2.2.2)
            clear HCG hn h1 h2 h3 h4 HLP HLX HK HBd
            go_enter Tryz.func43, Tryz.ntmps43
            go_wp2_with fail
            ((with_reducible refine (HWI.out _ (Below.refl _ _)).mono ?_); rintro e w1 ⟨rfl, hb1⟩)
            go_wp2_with fail
            ((with_reducible refine (HA.out _ hb1).mono ?_); rintro e w2 ⟨rfl, hb2⟩)
            replace hb1 := belowThen hb1 hb2
            clear hb2
            go_wp2_with fail
            ((with_reducible refine (HC.out _ hb1).mono ?_); rintro e w3 ⟨rfl, hb2⟩)
            replace hb1 := belowThen hb1 hb2
            clear hb2
            have c30 := (HH.out _ hb1).c0
            have c31 := (HH.out _ hb1).x0
            go_wp2_with fail
            ((with_reducible refine (HPN.out _ hb1).mono ?_); rintro e w4 ⟨u4, rfl, ho4, hb2⟩)
            replace hb1 := belowThen hb1 hb2
            clear hb2 c30 c31
            go_wp2_with fail
            ((with_reducible refine (HD.out _ _ _ ho4).mono ?_); rintro e w5 ⟨rfl, hb2⟩)
            replace hb1 := belowThen hb1 hb2
            clear hb2 ho4
            have c50 := (HH.out _ hb1).c0
            go_wp2_with fail
            ((with_reducible refine (HXN.out _ hb1).mono ?_); rintro e w6 ⟨u6, rfl, ho6, hb2⟩)
            replace hb1 := belowThen hb1 hb2
            clear hb2 c50
            go_wp2_with fail
            ((with_reducible refine (HE.out _ _ _ ho6).mono ?_); rintro e w7 ⟨rfl, hb2⟩)
            replace hb1 := belowThen hb1 hb2
            clear hb2 ho6
            go_wp2
            go_ret
            exact ⟨⟨false, rfl, iff_of_false (by decide) HZ.out⟩, hb1⟩
        · have HD := Lib.hid (fun (w' : World) (b : Nat) (u : Value) (ho : OwnInts w' b u (sortI G.pk)) => (allWithin_any w' b u _ 40 ho (by rw [HLP.out]; have := HK.out; omega)).mono fun e w2 he => show e = .returned (.bool false) ∧ Below w'.heap.size w' w2 from ⟨he.1.no h3, he.2⟩)
          have HZ := Lib.hid (show ¬ CG from fun k => h3 (HCG.out.1 k).2.2.2.1)
          clear HCG HXN hn h1 h2 h3 HLP HLX HK HBd
          go_enter Tryz.func43, Tryz.ntmps43
          go_wp2_with fail
          ((with_reducible refine (HWI.out _ (Below.refl _ _)).mono ?_); rintro e w1 ⟨rfl, hb1⟩)
          go_wp2_with fail
          ((with_reducible refine (HA.out _ hb1).mono ?_); rintro e w2 ⟨rfl, hb2⟩)
          replace hb1 := belowThen hb1 hb2
          clear hb2
          go_wp2_with fail
          ((with_reducible refine (HC.out _ hb1).mono ?_); rintro e w3 ⟨rfl, hb2⟩)
          replace hb1 := belowThen hb1 hb2
          clear hb2
          have c30 := (HH.out _ hb1).c0
          have c31 := (HH.out _ hb1).x0
          go_wp2_with fail
          ((with_reducible refine (HPN.out _ hb1).mono ?_); rintro e w4 ⟨u4, rfl, ho4, hb2⟩)
          replace hb1 := belowThen hb1 hb2
          clear hb2 c30 c31
          go_wp2_with fail
          ((with_reducible refine (HD.out _ _ _ ho4).mono ?_); rintro e w5 ⟨rfl, hb2⟩)
          replace hb1 := belowThen hb1 hb2
          clear hb2 ho4
          go_wp2
          go_ret
          exact ⟨⟨false, rfl, iff_of_false (by decide) HZ.out⟩, hb1⟩
      · have HC := Lib.hid (fun w' (hb : Below w.heap.size w w') => (HCN.out w' hb).mono fun e w2 he => show e = .returned (.bool false) ∧ Below w'.heap.size w' w2 from ⟨he.1.no h2, he.2⟩)
        have HZ := Lib.hid (show ¬ CG from fun k => h2 (HCG.out.1 k).2.2.1)
        clear HCG HXN HPN HCN hn h1 h2 HLP HLX HK HBd
        go_enter Tryz.func43, Tryz.ntmps43
        go_wp2_with fail
        ((with_reducible refine (HWI.out _ (Below.refl _ _)).mono ?_); rintro e w1 ⟨rfl, hb1⟩)
        go_wp2_with fail
        ((with_reducible refine (HA.out _ hb1).mono ?_); rintro e w2 ⟨rfl, hb2⟩)
        replace hb1 := belowThen hb1 hb2
        clear hb2
        go_wp2_with fail
        ((with_reducible refine (HC.out _ hb1).mono ?_); rintro e w3 ⟨rfl, hb2⟩)
        replace hb1 := belowThen hb1 hb2
        clear hb2
        go_wp2
        go_ret
        exact ⟨⟨false, rfl, iff_of_false (by decide) HZ.out⟩, hb1⟩
    · have HA := Lib.hid (fun w' (hb : Below w.heap.size w w') => (HP1.out w' hb).mono fun e w2 he => show e = .returned (.bool false) ∧ Below w'.heap.size w' w2 from ⟨he.1.no h1, he.2⟩)
      have HZ := Lib.hid (show ¬ CG from fun k => h1 (HCG.out.1 k).2.1)
      clear HCG HXN HPN HCN HP1 hn h1 HLP HLX HK HBd
      go_enter Tryz.func43, Tryz.ntmps43
      go_wp2_with fail
      ((with_reducible refine (HWI.out _ (Below.refl _ _)).mono ?_); rintro e w1 ⟨rfl, hb1⟩)
      go_wp2_with fail
      ((with_reducible refine (HA.out _ hb1).mono ?_); rintro e w2 ⟨rfl, hb2⟩)
      replace hb1 := belowThen hb1 hb2
      clear hb2
      go_wp2
      go_ret
      exact ⟨⟨false, rfl, iff_of_false (by decide) HZ.out⟩, hb1⟩
  · have d0 : decide (1 ≤ G.next ∧ G.next ≤ 1000) = false := by simpa using hn
    rw [d0] at HWI
    have HZ := Lib.hid (show ¬ CG from fun k => hn (HCG.out.1 k).1)
    clear HCG HP HXN HPN HCN hn HLP HLX HK HBd d0
    go_enter Tryz.func43, Tryz.ntmps43
    go_wp2_with fail
    ((with_reducible refine (HWI.out _ (Below.refl _ _)).mono ?_); rintro e w1 ⟨rfl, hb1⟩)
    go_wp2
    go_ret
    exact ⟨⟨false, rfl, iff_of_false (by decide) HZ.out⟩, hb1⟩
end Go.Proofs.YtlgahdabhnhjgaaGreatDoor

/- What rows describe, being consistent, is a vault in memory; an empty vault. -/
namespace Go.Proofs.YtlgahdabhnhjgaaGreatDoor
open Go.RowKit Go.Maps

theorem gv_vau {w : World} {v x gp bp bn B : Nat} {lv : Value} {G : GV} (h : GVAt w v x gp bp bn B lv G) (hw : G.Wf) (hc : ConsG G) : VauAt w v x gp bp bn B lv (toV G) := by
  have hok := (toV_ok0 hw hc).okX
  have e1 : (((toV G).next : Nat) : Int) = G.next := by
    have := hc.next
    show ((G.next.toNat : Nat) : Int) = G.next
    omega
  have e2 : pCells (toV G).L = gvCells G.L := by
    obtain ⟨rk, lk, hcg⟩ := hc.cnt
    have hr := roots_toV hc hcg
    have hp := hc.pts
    show pCells (G.L.map toPt) = gvCells G.L
    unfold pCells gvCells
    rw [List.flatMap_map]
    have key : ∀ L : List GP, (∀ p ∈ L, p ∈ G.L) → L.flatMap (fun p => ptCells (toPt p)) = L.flatMap fun p => [Value.int .i64 p.id, .int .i64 p.disk, .int .i64 p.size, .int .i64 p.root] := by
      intro L
      induction L with
      | nil => intro _; rfl
      | cons p L ih =>
        intro hL
        simp only [List.flatMap_cons]
        rw [ih (fun q hq => hL q (by simp [hq]))]
        have h1 := hr p (hL p (by simp))
        obtain ⟨h2, h3, h4, _⟩ := hp p (hL p (by simp))
        have a1 : ((p.id.toNat : Nat) : Int) = p.id := by omega
        have a2 : ((p.disk.toNat : Nat) : Int) = p.disk := by omega
        have a3 : ((p.size.toNat : Nat) : Int) = p.size := by omega
        have a4 : ((p.root.toNat : Nat) : Int) = p.root := by omega
        unfold ptCells toPt
        simp only [a1, a2, a3, a4]
    exact key G.L fun p hp => hp
  refine ⟨by rw [e1]; exact h.row, ⟨h.xrow, ⟨h.grow, ?_, hok.P⟩, ?_, h.ne, hok.N⟩, ?_⟩
  · have := h.P.mapOf (N := 40) fun m hm => hc.pkr m ((hw.p m).1 (by simpa using hm))
    rw [show (fun m => (G.P m).map gbV) = poolMap (toV G).X.P from funext fun m => (toV_pool hw hc m).symm] at this
    exact this
  · have := h.N.mapOf (N := 24) fun m hm => hc.nkr m ((hw.n m).1 (by simpa using hm))
    rw [show (fun m => (G.N m).map gnV) = nodMap (toV G).X.N from funext fun m => (toV_nodes hw hc m).symm] at this
    exact this
  · rw [e2, show (toV G).L.length = G.L.length by simp [toV]]
    exact h.pts
theorem mapG_none {w : World} {b N : Nat} {f : Int → Option Value} (h : MapOf w b N f) (hf : ∀ m, f m = none) : MapG w b [] (fun _ => none) := by
  have e : f = fun _ => none := funext hf
  subst e
  have := h.mapG
  have ek : keysOf N (fun _ => (none : Option Value)) = [] := by simp [keysOf]
  rw [ek] at this
  exact this
theorem vau_g0 {w : World} {v x gp bp bn B : Nat} {lv : Value} (h : VauAt w v x gp bp bn B lv emptyVau) (hf : From B v x gp bp bn) : GVAt w v x gp bp bn B lv G0 :=
  ⟨h.row, h.idx.row, h.idx.pool.row, mapG_none h.idx.pool.map (fun m => by simp [poolMap, hasBlk, emptyVau, emptyIdx, emptyPool, noBlk]), mapG_none h.idx.map (fun m => by simp [nodMap, hasNod, emptyVau, emptyIdx, noNod]), h.idx.ne, h.pts, hf⟩
end Go.Proofs.YtlgahdabhnhjgaaGreatDoor
