/- TopAgain: the walk. -/
import Derived.Test.YtbmlkpgagbhblaaGreatDoorZqAgn
import Derived.Test.YtbmlkpgagbhblaaGreatDoorZqRr3
import Derived.Test.YtbmlkpgagbhblaaGreatDoorZqImC
namespace Go.Proofs.YtbmlkpgagbhblaaGreatDoor
open Go.RowKit Go.Maps

theorem textsAt_len2 {V : VauM} (hV : V.Ok) {id : Int} {k : Nat} (hp : placeOf V.L id = some k) : (textsAt V k).length ≤ 16 := by
  obtain ⟨hk, _⟩ := placeOf_some hp
  have := hV.pts _ (List.getElem_mem hk)
  unfold textsAt
  simp only [getElem!_pos V.L k hk, List.length_map, List.length_range]
  omega
theorem retInts_len {w : World} {l : List Int} {q : Nat} {e : Ending} {w' : World} (h : RetInts w l e w') (hq : l.length = q) : ∃ A c, e = .returned (.slice A q c) ∧ Below w.heap.size w w' := by
  obtain ⟨v, rfl, hO, hb⟩ := h
  obtain ⟨A, c, rfl, _⟩ := hO.at_
  exact ⟨A, c, by rw [hq], hb⟩
set_option maxHeartbeats 4000000 in
set_option maxRecDepth 100000 in
theorem topAgain_walk (A : Option Addr) (cA : Nat) (l : List ActM) (id : Int) (w : World) (hA : ActsAt w w.heap.size A l) (htab : Tab w) :
    Calls Tryz.prog 3 #[.slice A l.length cA, .int .i64 id] w fun e w' => e = .returned (.bool true) ∧ Below w.heap.size w w' := by
  have HT := Lib.hid (fun w' (hb : Below w.heap.size w w') => htab.below hb)
  clear htab
  go_enter Tryz.func3, Tryz.ntmps3
  go_wp2_with fail
  ((with_reducible refine (vaulted_any _).mono ?_); rintro e w1 ⟨rfl, hb1⟩)
  have hA1 := hA.below hb1
  go_wp2_with fail
  ((with_reducible refine (filled_any _ _ _ _ hA1).mono ?_); rintro e w2 hret)
  rcases hret with ⟨rfl, hb2⟩ | ⟨u, V, rfl, hu, hV, _, hsm, hb2⟩
  · replace hb2 := belowThen hb1 hb2
    go_wp2
    go_ret
    exact ⟨rfl, hb2⟩
  replace hb2 := belowThen hb1 hb2
  obtain ⟨x, gp, bp, bn, B, lv, h⟩ := hu
  have HU := Lib.hid h
  have HV := Lib.hid hV
  have HSM := Lib.hid hsm
  have HC := Lib.hid (vauCopy_any w2 u x gp bp bn B lv V h hV)
  clear hA1 hb1 h hsm hA
  go_wp2_with fail
  ((with_reducible refine HC.out.mono ?_); rintro e w3 ⟨v, x', gp', bp', bn', lv', rfl, h3, hf, hb3⟩)
  have hs3 : w2.heap.size ≤ w3.heap.size := hb3.size
  have hb23 := belowThen hb2 hb3
  obtain ⟨ne, hne⟩ : ∃ ne, againErr V id = ne := ⟨_, rfl⟩
  by_cases h0 : ne = 0
  · subst h0
    obtain ⟨VA, hVA⟩ : ∃ VA, againV V id = VA := ⟨_, rfl⟩
    obtain ⟨k, hp, hok, hpk, hpl, hde, hdv, htx, hnum, hnod⟩ := drop_again hV hne
    rw [hVA] at hok hpk hpl hde hdv htx hnum hnod
    obtain ⟨T, hT⟩ : ∃ T, textsAt VA k = T := ⟨_, rfl⟩
    have hTl : T.length ≤ 16 := by rw [← hT]; exact textsAt_len2 hok hpk
    rw [hT] at htx
    obtain ⟨nx, hnx⟩ : ∃ nx, V.next = nx := ⟨_, rfl⟩
    rw [hnx] at hpl hde hdv
    have HAG := Lib.hid (again_any w3 v x' gp' bp' bn' _ lv' V VA id h3 hV hs3 0 nx hne hnx hVA)
    have HV3 := Lib.hid h3
    have HB23 := Lib.hid hb3
    have HB2 := Lib.hid hb2
    have HF := Lib.hid hf
    have HP := Lib.hid hpk
    have HPL := Lib.hid hpl
    have HDE := Lib.hid hde
    have HDV := Lib.hid hdv
    have HTX := Lib.hid htx
    have HNUM := Lib.hid hnum
    have HNOD := Lib.hid hnod
    have HOK := Lib.hid hok
    have HTT := Lib.hid hT
    have HNX := Lib.hid hnx
    have HOK5 := Lib.hid (show VauM.Ok ⟨V.X, V.L, nx + 1⟩ from by
      obtain ⟨_, _, _, h, e, _⟩ := drop_good hok hde
      rw [hdv] at h
      exact h)
    clear HC hne h3 hb3 hb2 hf hp hok hpk hpl hde hdv htx hnum hnod hT hnx hVA hV hs3 hb23
    go_wp2_with fail
    ((with_reducible refine HAG.out.mono ?_); rintro e w4 hret)
    have hb4 := ret_below HV3.out HF.out (Nat.le_refl _) HB23.out hret
    obtain ⟨rfl, hv4, _⟩ := hret
    obtain ⟨lv4, h4, _⟩ := hv4 rfl
    have hv0 : errV 0 = .nilIface := rfl
    rw [hv0]
    have hin4 : VauIn w4 v VA := ⟨x', gp', bp', bn', _, lv4, h4⟩
    have HU4 := Lib.hid (HU.out.below hb4)
    have HV4 := Lib.hid h4
    have HB4 := Lib.hid (belowThen HB2.out hb4)
    have HB24 := Lib.hid hb4
    have HBK := Lib.hid (blocks_yes w4 v VA id hin4 HOK.out k HP.out T HTT.out)
    clear HAG hv0 hv4 h4 hb4 hin4 HB23 HV3
    go_wp2_with fail
    ((with_reducible refine HBK.out.mono ?_); rintro e w5 ⟨tv1, rfl, ht1, hb5⟩)
    have hin5 : VauIn w5 v VA := ⟨x', gp', bp', bn', _, lv4, HV4.out.below hb5⟩
    have HBK2 := Lib.hid (blocks_yes w5 v VA nx hin5 HOK.out _ HPL.out T HTX.out)
    obtain ⟨tA1, tc1, htv1, _⟩ := ht1.cells
    subst htv1
    clear HBK hin5
    go_wp2_with fail
    ((with_reducible refine HBK2.out.mono ?_); rintro e w6 ⟨tv2, rfl, ht2, hb6⟩)
    obtain ⟨tA2, tc2, htv2, _⟩ := ht2.cells
    subst htv2
    have hb46 := belowThen hb5 hb6
    obtain ⟨q, hq⟩ : ∃ q, (numsOf V.X.P).length = q := ⟨_, rfl⟩
    obtain ⟨r, hr⟩ : ∃ r, (nodsOf V.X.N).length = r := ⟨_, rfl⟩
    have hq40 : q ≤ 40 := by rw [← hq]; exact keysOf_le 40 _
    have hr24 : r ≤ 24 := by rw [← hr]; exact keysOf_le 24 _
    have HHU := Lib.hid (fun w' (hb : Below w6.heap.size w6 w') => HU4.out.below (belowThen hb46 hb))
    have HHV := Lib.hid (fun w' (hb : Below w6.heap.size w6 w') => HV4.out.below (belowThen hb46 hb))
    have HST := Lib.hid (fun w' (hb : Below w6.heap.size w6 w') => sameTexts_any w' _ _ _ _ T ((ht1.below hb6).below hb) (ht2.below hb) (by omega))
    have HNP1 := Lib.hid (fun w' (hb : Below w6.heap.size w6 w') => (poolNumbers_any gp' bp' 1000 w' VA.X.P (HHV.out w' hb).idx.pool).mono fun e w'' he => retInts_len (q := q) he (by rw [HNUM.out]; exact hq))
    have HNP2 := Lib.hid (fun w' (hb : Below w6.heap.size w6 w') => (poolNumbers_any gp bp 1000 w' V.X.P (HHU.out w' hb).idx.pool).mono fun e w'' he => retInts_len (q := q) he hq)
    have HNN1 := Lib.hid (fun w' (hb : Below w6.heap.size w6 w') => (idxNumbers_any w' x' gp' bp' bn' 1000 VA.X (HHV.out w' hb).idx).mono fun e w'' he => retInts_len (q := r) he (by rw [HNOD.out]; exact hr))
    have HNN2 := Lib.hid (fun w' (hb : Below w6.heap.size w6 w') => (idxNumbers_any w' x gp bp bn 1000 V.X (HHU.out w' hb).idx).mono fun e w'' he => retInts_len (q := r) he hr)
    have HKS := Lib.hid (fun w' (hb : Below w6.heap.size w6 w') => show w'.cell? ⟨v, 0, none⟩ = some (.pointer (some ⟨x', 0, none⟩)) ∧ w'.cell? ⟨x', 0, none⟩ = some (.pointer (some ⟨gp', 0, none⟩)) ∧ w'.cell? ⟨u, 0, none⟩ = some (.pointer (some ⟨x, 0, none⟩)) ∧ w'.cell? ⟨x, 0, none⟩ = some (.pointer (some ⟨gp, 0, none⟩)) from ⟨(HHV.out w' hb).cell0, (HHV.out w' hb).idx.cell0, (HHU.out w' hb).cell0, (HHU.out w' hb).idx.cell0⟩)
    have HDR := Lib.hid (fun w' (hb : Below w6.heap.size w6 w') => (drop_any w' v x' gp' bp' bn' _ lv4 VA _ nx (HHV.out w' hb) HOK.out 0 HDE.out HDV.out).mono fun e w'' he => show e = .returned .nilIface ∧ (∃ lv5, VauAt w'' v x' gp' bp' bn' w2.heap.size lv5 ⟨V.X, V.L, nx + 1⟩) ∧ Below w2.heap.size w2 w'' ∧ (w''.cell? ⟨v, 0, none⟩ = some (.pointer (some ⟨x', 0, none⟩)) ∧ w''.cell? ⟨x', 0, none⟩ = some (.pointer (some ⟨gp', 0, none⟩)) ∧ w''.cell? ⟨u, 0, none⟩ = some (.pointer (some ⟨x, 0, none⟩)) ∧ w''.cell? ⟨x, 0, none⟩ = some (.pointer (some ⟨gp, 0, none⟩))) from by
      have hb2 := ret_below (HHV.out w' hb) HF.out (Nat.le_refl _) (HB24.out.trans ((belowThen hb46 hb).mono HB24.out.size)) he
      obtain ⟨rfl, hv, _⟩ := he
      obtain ⟨lv5, h5, _⟩ := hv rfl
      have hu5 := HU.out.below hb2
      exact ⟨rfl, ⟨lv5, h5⟩, hb2, h5.cell0, h5.idx.cell0, hu5.cell0, hu5.idx.cell0⟩)
    have hS6 := HKS.out w6.drew (Below.refl _ _).drew
    clear HBK2 ht1 ht2 hb5 hb6
    go_wp2_with fail
    go_region_held3 (fun w' => w'.cell? ⟨v, 0, none⟩ = some (.pointer (some ⟨x', 0, none⟩)) ∧ w'.cell? ⟨x', 0, none⟩ = some (.pointer (some ⟨gp', 0, none⟩)) ∧ w'.cell? ⟨u, 0, none⟩ = some (.pointer (some ⟨x, 0, none⟩)) ∧ w'.cell? ⟨x, 0, none⟩ = some (.pointer (some ⟨gp, 0, none⟩)))
      (first | with_reducible exact hS6 | with_reducible exact hSD | with_reducible exact HKS.out _ (by (repeat (first | with_reducible exact Below.refl _ _ | with_reducible refine Below.drew ?_ | with_reducible refine belowThen ?_ hb11 | with_reducible refine belowThen ?_ hb10 | with_reducible refine belowThen ?_ hb9 | with_reducible refine belowThen ?_ hb8 | with_reducible refine belowThen ?_ hb7)); (first | done | fail)))
      (first
        | (go_at_call 11; with_reducible refine (HST.out _ (by (repeat (first | with_reducible exact Below.refl _ _ | with_reducible refine Below.drew ?_ | with_reducible refine belowThen ?_ hb11 | with_reducible refine belowThen ?_ hb10 | with_reducible refine belowThen ?_ hb9 | with_reducible refine belowThen ?_ hb8 | with_reducible refine belowThen ?_ hb7)); (first | done | fail))).mono ?_; rintro e w7 ⟨rfl, hb7⟩)
        | (go_at_call 12; with_reducible refine (HNP1.out _ (by (repeat (first | with_reducible exact Below.refl _ _ | with_reducible refine Below.drew ?_ | with_reducible refine belowThen ?_ hb11 | with_reducible refine belowThen ?_ hb10 | with_reducible refine belowThen ?_ hb9 | with_reducible refine belowThen ?_ hb8 | with_reducible refine belowThen ?_ hb7)); (first | done | fail))).mono ?_; rintro e w8 ⟨A8, c8, rfl, hb8⟩)
        | (go_at_call 12; with_reducible refine (HNP2.out _ (by (repeat (first | with_reducible exact Below.refl _ _ | with_reducible refine Below.drew ?_ | with_reducible refine belowThen ?_ hb11 | with_reducible refine belowThen ?_ hb10 | with_reducible refine belowThen ?_ hb9 | with_reducible refine belowThen ?_ hb8 | with_reducible refine belowThen ?_ hb7)); (first | done | fail))).mono ?_; rintro e w9 ⟨A9, c9, rfl, hb9⟩)
        | (go_at_call 13; with_reducible refine (HNN1.out _ (by (repeat (first | with_reducible exact Below.refl _ _ | with_reducible refine Below.drew ?_ | with_reducible refine belowThen ?_ hb11 | with_reducible refine belowThen ?_ hb10 | with_reducible refine belowThen ?_ hb9 | with_reducible refine belowThen ?_ hb8 | with_reducible refine belowThen ?_ hb7)); (first | done | fail))).mono ?_; rintro e w10 ⟨A10, c10, rfl, hb10⟩)
        | (go_at_call 13; with_reducible refine (HNN2.out _ (by (repeat (first | with_reducible exact Below.refl _ _ | with_reducible refine Below.drew ?_ | with_reducible refine belowThen ?_ hb11 | with_reducible refine belowThen ?_ hb10 | with_reducible refine belowThen ?_ hb9 | with_reducible refine belowThen ?_ hb8 | with_reducible refine belowThen ?_ hb7)); (first | done | fail))).mono ?_; rintro e w11 ⟨A11, c11, rfl, hb11⟩)
        | (go_at_call 14; with_reducible refine (HDR.out _ (by (repeat (first | with_reducible exact Below.refl _ _ | with_reducible refine Below.drew ?_ | with_reducible refine belowThen ?_ hb11 | with_reducible refine belowThen ?_ hb10 | with_reducible refine belowThen ?_ hb9 | with_reducible refine belowThen ?_ hb8 | with_reducible refine belowThen ?_ hb7)); (first | done | fail))).mono ?_; rintro e w12 ⟨rfl, ⟨lv5, h5⟩, hb12, hSD⟩)
        | fail)
    all_goals
      have HB12 := Lib.hid (belowThen HB2.out hb12)
      obtain ⟨R1, hR1⟩ : ∃ R, rowsM V = R := ⟨_, rfl⟩
      obtain ⟨R2, hR2⟩ : ∃ R, rowsM ⟨V.X, V.L, nx + 1⟩ = R := ⟨_, rfl⟩
      have hok5 : VauM.Ok ⟨V.X, V.L, nx + 1⟩ := HOK5.out
      have hHR1 := Lib.hid (fun w' (hb : Below w12.heap.size w12 w') => rows_chs w' u x gp bp bn B lv V (HU.out.below (hb12.trans (hb.mono hb12.size))) HV.out.ok0 HSM.out (HT.out _ (belowThen HB12.out hb)) R1 hR1)
      have hHR2 := Lib.hid (fun w' (hb : Below w12.heap.size w12 w') => rows_chs w' v x' gp' bp' bn' _ lv5 _ (h5.below hb) HOK5.out.ok0 HSM.out (HT.out _ (belowThen HB12.out hb)) R2 hR2)
      have hR1l : R1.length ≤ 80 := by rw [← hR1]; exact (rowsM_small HV.out.ok0 HSM.out).2
      have hR2l : R2.length ≤ 80 := by rw [← hR2]; exact (rowsM_small HOK5.out.ok0 HSM.out).2
      have hchg : chgM R1 R2 = [rowX (nx + 1)] := by rw [← hR1, ← hR2]; exact chg_next V (nx + 1) (by have := HNX.out; omega)
      have HCHG := Lib.hid hchg
      clear hchg hR1 hR2 hb12 h5 hok5
      go_wp2_with fail
      ((with_reducible refine (hHR1.out _ (Below.refl _ _)).mono ?_); rintro e w13 ⟨C1, c1, rfl, hc1, hC1, hb13⟩)
      go_wp2_with fail
      ((with_reducible refine (hHR2.out _ hb13).mono ?_); rintro e w14 ⟨C2, c2, rfl, hc2, hC2, hb14⟩)
      have hch := changes_any w14 C1 C2 c1 c2 R1 R2 (hC1.below hb14) hC2 hc1 hc2 (by omega) (by omega)
      rw [HCHG.out, show [rowX (nx + 1)].length = 1 from rfl] at hch
      have HCH := Lib.hid hch
      have HB14 := Lib.hid (belowThen (belowThen HB12.out hb13) hb14)
      clear hch hC1 hC2 hb13 hb14 hHR1 hHR2 hc1 hc2
      go_wp2_with fail
      ((with_reducible refine HCH.out.mono ?_); rintro e w15 ⟨C3, c3, rfl, _, hb15⟩)
      have hb15' := belowThen HB14.out hb15
      clear HCH hb15
      go_wp2
      go_ret
      exact ⟨rfl, hb15'⟩
  · have HAG := Lib.hid (again_err w3 v x' gp' bp' bn' _ lv' V id h3 hV ne hne h0)
    have hv : errV ne = .iface 68 (.int .i64 ne) := by simp [errV, h0]
    rw [hv] at HAG
    have HU3 := Lib.hid (HU.out.below hb3)
    have HV3 := Lib.hid h3
    have HB3 := Lib.hid hb23
    clear HC hv h0 hne h3 hf hb3 hs3 hb2 hV hb23
    go_wp2_with fail
    ((with_reducible refine HAG.out.mono ?_); rintro e w4 ⟨rfl, hb4⟩)
    have HB4 := Lib.hid (belowThen HB3.out hb4)
    obtain ⟨R, hR⟩ : ∃ R, rowsM V = R := ⟨_, rfl⟩
    have HR1 := Lib.hid (fun w' (hb : Below w4.heap.size w4 w') => rows_chs w' u x gp bp bn B lv V (HU3.out.below (belowThen hb4 hb)) HV.out.ok0 HSM.out (HT.out _ (belowThen HB4.out hb)) R hR)
    have HR2 := Lib.hid (fun w' (hb : Below w4.heap.size w4 w') => rows_chs w' v x' gp' bp' bn' _ lv' V (HV3.out.below (belowThen hb4 hb)) HV.out.ok0 HSM.out (HT.out _ (belowThen HB4.out hb)) R hR)
    have hRl : R.length ≤ 80 := by rw [← hR]; exact (rowsM_small HV.out.ok0 HSM.out).2
    clear HAG hb4 hR
    go_wp2_with fail
    ((with_reducible refine (HR1.out _ (Below.refl _ _)).mono ?_); rintro e w5 ⟨C1, c1, rfl, hc1, hC1, hb5⟩)
    go_wp2_with fail
    ((with_reducible refine (HR2.out _ hb5).mono ?_); rintro e w6 ⟨C2, c2, rfl, hc2, hC2, hb6⟩)
    have hsc := sameChs_any w6 C1 C2 c1 c2 R R (hC1.below hb6) hC2 (by omega)
    rw [show decide (R = R) = true by simp] at hsc
    have HSC := Lib.hid hsc
    have HB6 := Lib.hid (belowThen (belowThen HB4.out hb5) hb6)
    clear hsc hC1 hC2 hb5 hb6 HR1 HR2
    go_wp2_with fail
    ((with_reducible refine HSC.out.mono ?_); rintro e w7 ⟨rfl, hb7⟩)
    have hb7' := belowThen HB6.out hb7
    clear HSC hb7
    go_wp2
    go_ret
    exact ⟨rfl, hb7'⟩
end Go.Proofs.YtbmlkpgagbhblaaGreatDoor
