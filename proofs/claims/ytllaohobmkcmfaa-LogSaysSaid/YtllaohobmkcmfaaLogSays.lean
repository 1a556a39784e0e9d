/- LogSays: the walk. -/
import Derived.Test.YtllaohobmkcmfaaLs4
import Derived.Test.YtllaohobmkcmfaaCd3
import Derived.Test.YtllaohobmkcmfaaOpenT
import Derived.Test.YtllaohobmkcmfaaLightB
import Derived.Deep.DeepCutAuto
import Derived.Deep.CutBlock
namespace Go.Proofs.Ytllaohobmkcmfaa
open Go.RowKit Go.PlainAid
attribute [local go_sem ↓] Go.wp_at_zero Go.wp_at_succ

theorem txt_size {B g : Nat} {w : World} {D : DkM} (h : DkAt B w g D) {fr mn : Nat} (hf : fr + mn ≤ D.now.length) : ∀ s ∈ txt D.now fr mn, s.size = 80 := fun s hs => by
  obtain ⟨ho, _⟩ := h
  simp only [txt, List.mem_map, List.mem_range] at hs
  obtain ⟨i, hi, rfl⟩ := hs
  have : (D.now.getD (fr + i) []).length = 80 := by
    rw [List.getD_eq_getElem?_getD, List.getElem?_eq_getElem (by omega)]
    exact ho.now _ (List.getElem_mem _)
  simpa [ByteArray.size] using this
theorem texts_own {w : World} {B : Nat} {A : Option Addr} {n c : Nat} {l : List ByteArray} (h : w.ownsRow B 9 1 (.slice A n c) l.length (txV l)) : ∀ w', Below w.heap.size w w' → ∀ i, (hi : i < l.length) → ∃ b off, A = some ⟨b, off, none⟩ ∧ w'.cell? ⟨b, off + i, none⟩ = some (.string l[i]) := fun w' hb i hi => by
  rcases h.2 with ⟨_, h0⟩ | ⟨g, cap, cur, e2, hB, hg, hnc, hcm, hcs, htk⟩
  · omega
  · simp only [Value.slice.injEq] at e2
    obtain ⟨rfl, _, _⟩ := e2
    refine ⟨g, 0, rfl, ?_⟩
    have hg' := (hb.block _ (Array.getElem?_eq_some_iff.1 hg).1).trans hg
    rw [cell_of_row _ _ _ _ _ _ hg']
    have : (txV l)[i]? = some (.string l[i]) := by simp [txV, hi]
    rw [← htk, List.getElem?_take] at this
    split at this
    · simpa using this
    · cases this
theorem lgRead_fin (first : Nat) : ∀ (l : List ByteArray) (k : Nat) (cs : List Ch) (es : List (List Ch)) (e : Nat), e ≤ k → (lgRead first l k cs es e).2 ≤ k + l.length
  | [], k, cs, es, e, h => by rw [lgRead]; simpa using h
  | s :: r, k, cs, es, e, h => by
    rw [lgRead]
    split
    · have := lgRead_fin first r (k + 1) (cs ++ [parseC (ctBody (first + k) s)]) es e (by omega)
      simp only [List.length_cons]; omega
    · split
      · have := lgRead_fin first r (k + 1) [] (es ++ [cs]) (k + 1) (by omega)
        simp only [List.length_cons]; omega
      · simp only [List.length_cons]; omega
theorem txt_get (now : List (List UInt8)) (fr mn k : Nat) (hk : k < mn) : (txt now fr mn)[k]'(by rw [txt_length]; exact hk) = ⟨(now.getD (fr + k) []).toArray⟩ := by simp [txt]
set_option maxHeartbeats 8000000 in
set_option maxRecDepth 100000 in
theorem logSays_walk (A : Option Addr) (cA : Nat) (S : List ByteArray) (frm many first : Int) (A2 : Option Addr) (cA2 : Nat) (l : List ActM) (w : World) (hS : TextsIn w A S) (hSn : S.length ≤ maxLen) (hSz : ∀ x ∈ S, x.size ≤ maxLen) (hf1 : -9223372036854775808 ≤ frm) (hf2 : frm ≤ 9223372036854775807) (hm1 : -9223372036854775808 ≤ many) (hm2 : many ≤ 9223372036854775807) (hA : ActsAt w w.heap.size A2 l) :
    Calls Try.prog 3 #[.slice A S.length cA, .int .i64 frm, .int .i64 many, .int .i64 first, .slice A2 l.length cA2] w fun e w' => e = .returned (.bool true) ∧ Below w.heap.size w w' := by
  have hml := hA.1
  unfold maxLen at hml hSn
  go_enter Try.func3, Try.ntmps3
  go_wp2_with fail
  ((with_reducible refine (logs_any _).mono ?_); rintro e w1 ⟨rfl, hb1⟩)
  by_cases h40 : 40 < S.length
  · have i40 : (40 : Int) < (S.length : Int) := by omega
    go_wp2
    go_ret
    exact ⟨rfl, hb1⟩
  have i40 : ¬ (40 : Int) < (S.length : Int) := by omega
  have d40 : decide ((40 : Int) < (S.length : Int)) = false := by simpa using i40
  go_wp2_with fail
  ((with_reducible refine (lightActs2_any _ _ _ _ _ (hA.below hb1)).mono ?_); rintro e w2 ⟨r, rfl, hr, hb2⟩)
  replace hb2 := belowThen hb1 hb2
  clear hb1
  cases r with
  | false =>
    go_wp2
    go_ret
    exact ⟨rfl, hb2⟩
  | true =>
  obtain ⟨hl20, hLA⟩ := hr rfl
  have HLA := Lib.hid hLA
  clear hr hLA
  by_cases hmil : 1000000 < first
  · go_wp2
    go_ret
    exact ⟨rfl, hb2⟩
  have dmil : decide ((1000000 : Int) < first) = false := by simpa using hmil
  have HSZ := Lib.hid hSz
  clear hSz
  go_upto_block 0 with (fail)
  go_cut [] (fun wx => ∃ w3, wx = w3 ∧ Below w.heap.size w w3 ∧ Hid (∀ x ∈ S, x.size ≤ 80))
  case first =>
    as_aux_lemma =>
    --< a
    go_wp2
    go_loopw [12] (fun i w' => ∃ k : Nat, k ≤ S.length ∧ i = .int .i64 k ∧ Hid (∀ x ∈ S.take k, x.size ≤ 80) ∧ Below w.heap.size w w') (fun i _ => S.length - (intOf i).toNat)
    case atStart => exact ⟨0, Nat.zero_le _, rfl, Lib.hid (by simp), hb2⟩
    case round =>
      obtain ⟨k, hk, rfl, HL, hb⟩ := hrel
      by_cases hlt : k < S.length
      · obtain ⟨b, off, rfl, hblt, d0⟩ := (hS.below hb) k hlt
        have i1 : (k : Int) < (S.length : Int) := by omega
        have i0 : (0 : Int) ≤ (k : Int) := by omega
        have HK := Lib.hid (fun (hx : S[k].size ≤ 80) => show ∀ x ∈ S.take (k + 1), x.size ≤ 80 from fun x hx' => by
          rw [List.take_succ_eq_append_getElem hlt] at hx'
          rcases List.mem_append.1 hx' with h' | h'
          · exact HL.out x h'
          · rw [List.mem_singleton.1 h']; exact hx)
        have hsk := HSZ.out _ (List.getElem_mem hlt)
        unfold maxLen at hsk
        generalize S[k] = x at *
        by_cases hx : 80 < x.size
        · have ix : (80 : Int) < (x.size : Int) := by omega
          go_wp2
          go_ret
          exact ⟨rfl, hb⟩
        · have ix : ¬ (80 : Int) < (x.size : Int) := by omega
          have HK2 := Lib.hid (HK.out (by omega))
          go_wp2
          refine ⟨⟨k + 1, hlt, by go_num, HK2, hb⟩, by simp [intOf]; omega⟩
      · go_wp2
        go_meet
        have h9 := HL.out
        rw [List.take_of_length_le (by omega)] at h9
        exact ⟨_, rfl, hb, Lib.hid h9⟩
    --> a
  case rest =>
    as_aux_lemma =>
    obtain ⟨w3, ex, hb3, HS80⟩ := hcut
    rw [ex]
    clear ex hb2
    obtain ⟨N, hN⟩ : ∃ N, max 1 S.length = N := ⟨_, rfl⟩
    have hN1 : 1 ≤ N := by omega
    have hNS : S.length ≤ N := by omega
    have hN40 : N ≤ 40 := by omega
    go_upto_region 9 with (fail)
    go_cut [13, 14] (fun v13 v14 wx => ∃ w4 g, wx = w4 ∧ v13 = .pointer (some ⟨g, 0, none⟩) ∧ v14 = .nilIface ∧ DkAt w.heap.size w4 g (dkNew N) ∧ Below w.heap.size w w4)
    case first =>
      as_aux_lemma =>
      --< b
      by_cases h1 : S.length ≤ 1
      · have j1 : (S.length : Int) ≤ 1 := by omega
        have hN1 : N = 1 := by omega
        have HNEW := Lib.hid (dkNew_any w3 1)
        have HNN := Lib.hid hN1
        clear hN hNS hN40 hN1
        go_wp2_with fail
        (with_reducible refine HNEW.out.mono ?_)
        rintro e w4 h1
        unfold DkNew at h1
        rw [if_pos (by omega)] at h1
        obtain ⟨g, rfl, hD1, hb1⟩ := h1
        clear HNEW
        go_wp2
        go_meet
        refine ⟨_, g, rfl, rfl, rfl, ?_, belowThen hb3 hb1⟩
        rw [HNN.out]
        exact DkAt.weak hD1 hb3.size
      · have j1 : ¬ (S.length : Int) ≤ 1 := by omega
        have HNEW := Lib.hid (dkNew_any w3 (S.length : Int))
        have HNN := Lib.hid (show N = S.length by omega)
        have j4 : (1 : Int) ≤ (S.length : Int) ∧ (S.length : Int) ≤ 260 := by omega
        have HJ := Lib.hid j4
        clear hN hNS hN40 hN1 j4
        go_wp2_with fail
        (with_reducible refine HNEW.out.mono ?_)
        rintro e w4 h1
        unfold DkNew at h1
        rw [if_pos HJ.out] at h1
        obtain ⟨g, rfl, hD1, hb1⟩ := h1
        clear HNEW
        go_wp2
        go_meet
        refine ⟨_, g, rfl, rfl, rfl, ?_, belowThen hb3 hb1⟩
        rw [HNN.out]
        exact DkAt.weak hD1 hb3.size
      --> b
    case rest =>
      as_aux_lemma =>
      obtain ⟨w4, g, ex, rfl, rfl, hD4, hb4⟩ := hcut
      rw [ex]
      clear ex hb3
      go_upto_block 2 with (fail)
      go_cut [] (fun wx => ∃ w5 D, wx = w5 ∧ DkAt w.heap.size w5 g D ∧ Calm N D ∧ D.wr.length ≤ 40 ∧ Below w.heap.size w w5)
      case first =>
        as_aux_lemma =>
        --< c
        go_wp2
        go_loopw [15] (fun i w' => ∃ (k : Nat) (D : DkM), k ≤ S.length ∧ i = .int .i64 k ∧ DkAt w.heap.size w' g D ∧ Calm N D ∧ D.wr.length ≤ k ∧ Below w.heap.size w w') (fun i _ => S.length - (intOf i).toNat)
        case atStart => exact ⟨0, dkNew N, Nat.zero_le _, rfl, hD4, calm_new, by simp [dkNew], hb4⟩
        case round =>
          obtain ⟨k, D, hk, rfl, hD, hC, hwr, hb⟩ := hrel
          clear hD4 hb4
          by_cases hlt : k < S.length
          · obtain ⟨b, off, rfl, hblt, d0⟩ := (hS.below hb) k hlt
            have i1 : (k : Int) < (S.length : Int) := by omega
            have i0 : (0 : Int) ≤ (k : Int) := by omega
            have hx := HS80.out _ (List.getElem_mem hlt)
            have hE : dkWriteE D k S[k] = 0 := by rw [hC.writeE, if_neg (by unfold badAt; omega)]
            have hC' := hC.writes (k : Int) S[k]
            have hle := hC.wr_le (k : Int) S[k]
            have HW := dkWrite_any w.heap.size g wr D (k : Int) S[k] hD (by unfold maxLen; omega) (by omega)
            rw [hE, show errV 0 = .nilIface from rfl] at HW
            generalize dkWrite D k S[k] = D2 at *
            generalize S[k] = x at *
            have HW' := Lib.hid HW
            clear HW hE hD
            go_wp2_with fail
            ((with_reducible refine HW'.out.mono ?_); rintro e w6 ⟨rfl, t1, t2⟩)
            have hb6 : Below w.heap.size w w6 := hb.trans (t2.below.mono (Nat.le_refl _))
            go_wp2
            refine ⟨⟨k + 1, D2, hlt, by go_num, t1, hC', by omega, hb6⟩, by simp [intOf]; omega⟩
          · go_wp2
            go_meet
            exact ⟨_, D, rfl, hD, hC, by omega, hb⟩
        --> c
      case rest =>
        as_aux_lemma =>
        obtain ⟨w5, D, ex, hD5, hC5, hwr5, hb5⟩ := hcut
        rw [ex]
        clear ex hb4 hD4
        by_cases hbad : openBad D frm many first
        ·
          --< d
          have HO := Lib.hid (lgOpen_bad w.heap.size g w5 D frm many first hD5 hbad (by omega))
          go_wp2_with fail
          ((with_reducible refine HO.out.mono ?_); rintro e w6 ⟨rfl, rfl⟩)
          have HSX := Lib.hid (dkSectors_any w.heap.size g w5 D hD5)
          rw [hC5.size] at HSX
          have n40 : (N : Int) ≤ 40 := by omega
          have n1 : (1 : Int) ≤ (N : Int) := by omega
          have HBAD := Lib.hid hbad
          have HSIZE := Lib.hid hC5.size
          clear HO hD5 hC5 hbad
          go_upto_region 18 with (fail)
          go_cut [117] (fun v wx => v = .bool true ∧ wx = w5)
          case first =>
            as_aux_lemma =>
            have hbad := HBAD.out
            unfold openBad at hbad
            rw [HSIZE.out] at hbad
            by_cases b1 : frm < 0
            · have e1 : decide (frm < 0) = true := decide_eq_true b1
              clear hbad HBAD HSIZE
              go_wp2
              go_meet
              exact ⟨rfl, rfl⟩
            have e1 : decide (frm < 0) = false := decide_eq_false b1
            by_cases b2 : many < 1
            · have e2 : decide (many < 1) = true := decide_eq_true b2
              clear hbad HBAD HSIZE
              go_wp2
              go_meet
              exact ⟨rfl, rfl⟩
            have e2 : decide (many < 1) = false := decide_eq_false b2
            by_cases b3 : (N : Int) < many
            · have e3 : decide ((N : Int) < many) = true := decide_eq_true b3
              clear hbad HBAD HSIZE
              go_wp2_with fail
              ((with_reducible refine HSX.out.mono ?_); rintro e w6 ⟨rfl, rfl⟩)
              go_wp2
              go_meet
              exact ⟨rfl, rfl⟩
            have e3 : decide ((N : Int) < many) = false := decide_eq_false b3
            have a1 : IntKind.i64.wrap ((N : Int) - many) = (N : Int) - many := IntWalk.i64_in _ (by omega)
            by_cases b4 : (N : Int) - many < frm
            · have e4 : decide ((N : Int) - many < frm) = true := decide_eq_true b4
              clear hbad HBAD HSIZE
              go_wp2_with fail
              ((with_reducible refine HSX.out.mono ?_); rintro e w6 ⟨rfl, rfl⟩)
              go_wp2_with fail
              ((with_reducible refine HSX.out.mono ?_); rintro e w6 ⟨rfl, rfl⟩)
              go_wp2
              go_meet
              exact ⟨rfl, rfl⟩
            · have b5 : first < 1 := by omega
              have e4 : decide ((N : Int) - many < frm) = false := decide_eq_false b4
              have e5 : decide (first < 1) = true := decide_eq_true b5
              clear hbad HBAD HSIZE
              go_wp2_with fail
              ((with_reducible refine HSX.out.mono ?_); rintro e w6 ⟨rfl, rfl⟩)
              go_wp2_with fail
              ((with_reducible refine HSX.out.mono ?_); rintro e w6 ⟨rfl, rfl⟩)
              go_wp2
              go_meet
              exact ⟨rfl, rfl⟩
          case rest =>
            as_aux_lemma =>
            obtain ⟨rfl, ex⟩ := hcut
            rw [ex]
            clear ex
            go_wp2_with fail
            ((with_reducible refine (said_yes 1 _ (by omega)).mono ?_); rintro e w6 ⟨rfl, rfl⟩)
            go_wp2
            go_ret
            exact ⟨rfl, hb5⟩
          --> d
        · unfold openBad at hbad
          obtain ⟨fr, rfl⟩ := Int.eq_ofNat_of_zero_le (show 0 ≤ frm by omega)
          obtain ⟨mn, rfl⟩ := Int.eq_ofNat_of_zero_le (show 0 ≤ many by omega)
          obtain ⟨fs, rfl⟩ := Int.eq_ofNat_of_zero_le (show 0 ≤ first by omega)
          rw [hC5.size] at hbad
          have hfm : fr + mn ≤ N := by omega
          have hm1' : 1 ≤ mn := by omega
          have hs1 : 1 ≤ fs := by omega
          have hs2 : fs ≤ 1000000 := by omega
          have HOP := Lib.hid (fun w' D (h1 : DkAt w.heap.size w' g D) (h2 : w.heap.size ≤ w'.heap.size) (h3 : Calm N D) => show Calls Try.prog 9 #[.pointer (some ⟨g, 0, none⟩), .int .i64 (fr : Int), .int .i64 (mn : Int), .int .i64 (fs : Int)] w' (OpenRet w.heap.size w' g ⟨fr, mn, fs, 0⟩ (lgRead fs (txt D.now fr mn) 0 [] [] 0)) from lgOpen_good w.heap.size g w' D ⟨fr, mn, fs, 0⟩ h1 h2 h3.down (by simpa using hm1') (by simpa using hs1) (by simpa [h3.size] using hfm) (by simp; omega))
          have HO := Lib.hid (HOP.out w5 D hD5 hb5.size hC5)
          have HTX := Lib.hid (txt_length D.now fr mn)
          have HTS := Lib.hid (txt_size hD5 (fr := fr) (mn := mn) (by rw [hC5.size]; exact hfm))
          obtain ⟨R, hR⟩ : ∃ R, lgRead fs (txt D.now fr mn) 0 [] [] 0 = R := ⟨_, rfl⟩
          rw [hR] at HO
          have HR := Lib.hid hR
          clear hbad hR
          go_wp2_with fail
          ((with_reducible refine HO.out.mono ?_); rintro e w6 ⟨gl, v, rfl, hE6, hL6, hb6⟩)
          have hB6 := belowThen hb5 hb6
          have hD6 := hD5.below hb6
          clear HO hD5 hb5 hb6
          have HSX := Lib.hid (dkSectors_any w.heap.size g w6 D hD6)
          rw [hC5.size] at HSX
          go_upto_region 18 with (fail)
          go_cut [117] (fun v wx => v = .bool false ∧ wx = w6)
          case first =>
            as_aux_lemma =>
            --< e
            have e1 : decide ((fr : Int) < 0) = false := decide_eq_false (by omega)
            have e2 : decide ((mn : Int) < 1) = false := decide_eq_false (by omega)
            have e3 : decide ((N : Int) < (mn : Int)) = false := decide_eq_false (by omega)
            have e3' : decide (N < mn) = false := decide_eq_false (by omega)
            have e4 : decide ((N : Int) - (mn : Int) < (fr : Int)) = false := decide_eq_false (by omega)
            have e5 : decide ((fs : Int) < 1) = false := decide_eq_false (by omega)
            have n40 : (N : Int) ≤ 40 := by omega
            have n41 : (mn : Int) ≤ 40 := by omega
            have a1 : IntKind.i64.wrap ((N : Int) - (mn : Int)) = (N : Int) - (mn : Int) := IntWalk.i64_in _ (by omega)
            go_wp2_with fail
            ((with_reducible refine HSX.out.mono ?_); rintro e w7 ⟨rfl, rfl⟩)
            go_wp2_with fail
            ((with_reducible refine HSX.out.mono ?_); rintro e w7 ⟨rfl, rfl⟩)
            go_wp2
            go_meet
            exact ⟨rfl, rfl⟩
            --> e
          case rest =>
            as_aux_lemma =>
            obtain ⟨rfl, ex⟩ := hcut
            rw [ex]
            clear ex HSX
            have HD6 := Lib.hid hD6
            have HL6 := Lib.hid hL6
            have HE6 := Lib.hid hE6
            obtain ⟨inf, hin, hz0, hz1, hz2⟩ := info_parts Try.infoTxtZ
            have HIN := Lib.hid hin
            have HZ0 := Lib.hid hz0
            have HZ1 := Lib.hid hz1
            have HZ2 := Lib.hid hz2
            clear hin hz0 hz1 hz2 hE6 hL6 hD6
            go_upto_block 4 with (fail)
            go_cut [18] (fun v18 wx => ∃ w7, wx = w7 ∧ w7.ownsRow w6.heap.size 9 1 v18 mn (txV (txt D.now fr mn)) ∧ Below w6.heap.size w6 w7)
            case first =>
              as_aux_lemma =>
              --< f
              go_wp2
              go_loopw [18, 19] (fun v i w' => ∃ k : Nat, k ≤ mn ∧ i = .int .i64 k ∧ w'.ownsRow w6.heap.size 9 1 v k (txV ((txt D.now fr mn).take k)) ∧ Below w6.heap.size w6 w') (fun _ i _ => mn - (intOf i).toNat)
              case atStart => exact ⟨0, Nat.zero_le _, rfl, World.ownsRow_nil _ _ _ _, Below.refl _ _⟩
              case round =>
                obtain ⟨k, hk, rfl, hO, hb⟩ := hrel
                obtain ⟨vA, vc, rfl⟩ := slice_form hO
                have HO := Lib.hid hO
                clear hO
                by_cases hlt : k < mn
                · have i1 : (k : Int) < (mn : Int) := by omega
                  have n41 : (mn : Int) ≤ 40 := by omega
                  have n42 : (fr : Int) ≤ 40 := by omega
                  have a1 : IntKind.i64.wrap ((fr : Int) + (k : Int)) = (fr : Int) + (k : Int) := IntWalk.i64_in _ (by omega)
                  have HRD := dkRead_any w.heap.size g wr D ((fr : Int) + (k : Int)) (HD6.out.below hb)
                  rw [show (fr : Int) + (k : Int) = ((fr + k : Nat) : Int) by omega, hC5.readE _ (by omega), hC5.read _ (by omega), ← txt_get D.now fr mn k hlt, show errV 0 = .nilIface from rfl, show ((fr + k : Nat) : Int) = (fr : Int) + (k : Int) by omega] at HRD
                  have HSN := Lib.hid (show txV ((txt D.now fr mn).take (k + 1)) = txV ((txt D.now fr mn).take k) ++ [.string ((txt D.now fr mn)[k]'(by rw [txt_length]; exact hlt))] by
                    rw [List.take_succ_eq_append_getElem (by rw [txt_length]; exact hlt)]; exact List.map_append)
                  have hsx := HTS.out _ (List.getElem_mem (by rw [txt_length]; exact hlt : k < (txt D.now fr mn).length))
                  generalize (txt D.now fr mn)[k]'(by rw [txt_length]; exact hlt) = x at *
                  have HRD' := Lib.hid HRD
                  have HBB := Lib.hid hb
                  have hbs := hb.size
                  clear HRD
                  go_wp2_with fail
                  ((with_reducible refine HRD'.out.mono ?_); rintro e w8 ⟨rfl, rfl⟩)
                  go_wp2_with (at_builtin; (refine wpList_append_lies _ rfl _ _ 22 rfl w6.heap.size 9 inf (.string ByteArray.empty) 1 16 Try.underlying22 HIN.out HZ0.out HZ1.out HZ2.out rfl (by decide) (.slice vA k vc) k (txV ((txt D.now fr mn).take k)) rfl (World.ownsRow.alloc HO.out _) ⟨wr.heap.size, 0, none⟩ 1 1 [.string x] rfl rfl (cell_one_new _ _ _) (by simp [Value.oneCell']) (by omega) (by unfold maxLen; omega) (by omega) (by simp; omega) (wr.heap.size + 1) (by simp) ?_); intro gg cap w9 hO9 hg9 hat9 hlt9; have HO9 := Lib.hid hO9; have HG9 := Lib.hid hg9; clear hO9 hg9 hat9)
                  refine ⟨⟨k + 1, by omega, by go_num, ?_, ?_⟩, by simp [intOf]; omega⟩
                  · rw [HSN.out]; exact HO9.out
                  · exact Below.grown (HBB.out.alloc hbs _) HG9.out (by simp; omega) (fun q hq => (own_lt HO.out hq).2)
                · obtain rfl : k = mn := by omega
                  go_wp2
                  go_meet
                  have h9 := HO.out
                  rw [List.take_of_length_le (by rw [txt_length]; exact Nat.le_refl _)] at h9
                  exact ⟨_, rfl, h9, hb⟩
              --> f
            case rest =>
              as_aux_lemma =>
              obtain ⟨w7, ex, hO7, hb7⟩ := hcut
              rw [ex]
              clear ex
              obtain ⟨nA, nc, rfl⟩ := slice_form hO7
              have hD7 := HD6.out.below hb7
              have hb7s := hb7.size
              have hO7' : w7.ownsRow w6.heap.size 9 1 (.slice nA mn nc) (txt D.now fr mn).length (txV (txt D.now fr mn)) := by rw [HTX.out]; exact hO7
              have HCD := closed_any w7 nA nc (txt D.now fr mn) fs (texts_own hO7') HTS.out (by rw [HTX.out]; omega) (by omega)
              rw [HTX.out, HR.out] at HCD
              have HCD' := Lib.hid HCD
              have HI0 := Lib.hid (show LInv (dkSaved D) ⟨fr, mn, fs, R.2⟩ R.1 from ⟨hC5.down, rfl, rfl, by show fr + mn ≤ D.now.length; rw [hC5.size]; exact hfm, by
                have := lgRead_fin fs (txt D.now fr mn) 0 [] [] 0 (Nat.le_refl _)
                rw [HR.out, HTX.out] at this
                show R.2 ≤ mn; omega, HR.out⟩)
              obtain ⟨z1, z2, z3⟩ := lgRead_small fs (txt D.now fr mn) 0 [] [] 0 (fun s hs => Nat.le_of_eq (HTS.out s hs)) (by simp) (by simp) (by simp) (by simp) (by simp)
              rw [HR.out, HTX.out] at z2 z3
              rw [HR.out] at z1
              have HZ := Lib.hid z1
              have HZ3 := Lib.hid z3
              clear HCD hO7' hO7 z1 z3 HIN HZ0 HZ1 HZ2
              go_wp2_with fail
              ((with_reducible refine HCD'.out.mono ?_); rintro e w8 ⟨v8, rfl, hE8, hem8, hb8⟩)
              have hB8 := belowThen (belowThen hB6 hb7) hb8
              obtain ⟨A6, c6, rfl⟩ : ∃ A c, v = .slice A R.1.length c := by
                obtain ⟨vs, _, h2, _⟩ := HE6.out
                exact slice_form h2
              obtain ⟨A8, c8, rfl⟩ : ∃ A c, v8 = .slice A R.1.length c := by
                obtain ⟨vs, _, h2, _⟩ := hE8
                exact slice_form h2
              have HEM0 := Lib.hid (show R.1 = [] → A8 = none ∧ c8 = 0 from fun h => by have := hem8 h; simp only [Value.slice.injEq] at this; exact ⟨this.1, this.2.2⟩)
              clear hem8
              have hs68 : Step w.heap.size lgTypes w6 w8 := Step.of_below (belowThen hb7 hb8) hB6.size
              obtain ⟨vs6, hF6⟩ := DeedsF.of (B := w.heap.size) HE6.out (fun l hl x hx => by have := HZ.out l hl x hx; unfold maxLen; omega)
              obtain ⟨vs8, hF8⟩ := DeedsF.of (B := w.heap.size) hE8 (fun l hl x hx => by have := HZ.out l hl x hx; unfold maxLen; omega)
              have HF6 := Lib.hid (hF6.step hs68)
              have HF8 := Lib.hid hF8
              have hD8 := hD7.below hb8
              have hL8 : LgAt w.heap.size w8 gl g ⟨fr, mn, fs, R.2⟩ := HL6.out.below (belowThen hb7 hb8)
              clear HE6 hE8 hF6 hF8 hs68 HCD' HL6 HD6 hD7 hb8 hb7
              have HST0 := Lib.hid (show LsSt w w8 g N fr mn fs gl R.2 D R.1 A6 vs6 A8 vs8 from ⟨hD8, hC5, hwr5, hL8, HI0.out, HF6.out, HF8.out, hB8⟩)
              have HZ5 := Lib.hid (show R.1.length ≤ 40 ∧ ∀ x ∈ R.1, x.length ≤ 100 from ⟨by omega, fun x hx => by have := HZ3.out x hx; omega⟩)
              generalize R.1 = want0 at *
              generalize R.2 = f0 at *
              clear HF6 HF8 hD8 hL8 HI0 HZ HZ3 z2 hS HR HTX HTS HS80 HSZ hwr5 hC5 hb7s hB6 hB8 hSn
              go_upto_block 6 with (fail)
              go_cut [] (fun wx => Below w.heap.size w wx)
              case first =>
                as_aux_lemma =>
                go_wp2
                go_loopw [14, 16, 17, 22, 23, 24] (fun v14 v16 v17 v22 v23 i wr => ∃ (k gl f : Nat) (D : DkM) (want : List (List Ch)) (Ag : Option Addr) (cg : Nat) (vsg : List Value) (Aw : Option Addr) (cw : Nat) (vsw : List Value), k ≤ l.length ∧ v14 = .nilIface ∧ v16 = .pointer (some ⟨gl, 0, none⟩) ∧ v17 = .slice Ag want.length cg ∧ v22 = .slice Aw want.length cw ∧ v23 = .int .i64 (f : Int) ∧ i = .int .i64 k ∧ LsSt w wr g N fr mn fs gl f D want Ag vsg Aw vsw ∧ want.length ≤ 40 + k ∧ (∀ x ∈ want, x.length ≤ 100) ∧ Hid (want = [] → Aw = none ∧ cw = 0)) (fun _ _ _ _ _ i _ => l.length + 1 - (intOf i).toNat)
                case atStart => exact ⟨0, gl, f0, D, want0, A6, c6, vs6, A8, c8, vs8, Nat.zero_le _, rfl, rfl, rfl, rfl, rfl, rfl, HST0.out, HZ5.out.1, HZ5.out.2, HEM0⟩
                case round =>
                  obtain ⟨k, gl, f, D, want, Ag, cg, vsg, Aw, cw, vsw, hk, rfl, rfl, rfl, rfl, rfl, rfl, hST, hwl, hwx, HEM⟩ := hrel
                  clear HST0 HZ5
                  have HSA := Lib.hid (hST.same cg cw (by omega) (fun x hx => by have := hwx x hx; omega))
                  have hfm' : f ≤ mn := hST.inv.fin
                  have HRM := Lib.hid (fun w' (h : Below wr.heap.size wr w') => show Calls Try.prog 15 #[.pointer (some ⟨gl, 0, none⟩)] w' fun e w'' => e = .returned (.int .i64 ((mn : Int) - (f : Int))) ∧ ∃ n, w'' = w'.drewN n from room_any w.heap.size gl g w' ⟨fr, mn, fs, f⟩ (hST.log.below h) (by show mn ≤ _; omega) (by show f ≤ _; omega))
                  have HNX := Lib.hid (fun w' (h : Below wr.heap.size wr w') => show Calls Try.prog 16 #[.pointer (some ⟨gl, 0, none⟩)] w' fun e w'' => e = .returned (.int .i64 ((fs : Int) + (mn : Int))) ∧ ∃ n, w'' = w'.drewN n from next_any w.heap.size gl g w' ⟨fr, mn, fs, f⟩ (hST.log.below h) (by show mn ≤ _; omega) (by show fs ≤ _; omega))
                  have n41 : (mn : Int) ≤ 40 := by omega
                  have n42 : (f : Int) ≤ (mn : Int) := by omega
                  have n43 : (fs : Int) ≤ 1000000 := by omega
                  have a1 : IntKind.i64.wrap ((mn : Int) - (f : Int)) = (mn : Int) - (f : Int) := IntWalk.i64_in _ (by omega)
                  have a2 : IntKind.i64.wrap ((fs : Int) + (mn : Int)) = (fs : Int) + (mn : Int) := IntWalk.i64_in _ (by omega)
                  have i1 : (k : Int) ≤ (l.length : Int) := by omega
                  have HST := Lib.hid hST
                  clear hST
                  go_wp2_with fail
                  ((with_reducible refine HSA.out.mono ?_); rintro e w9 ⟨rfl, hb9⟩)
                  go_wp2_with fail
                  ((with_reducible refine (HRM.out _ hb9).mono ?_); rintro e w10 ⟨rfl, n10, rfl⟩)
                  go_wp2_with fail
                  ((with_reducible refine (HNX.out _ (below_drewN hb9 _)).mono ?_); rintro e w11 ⟨rfl, n11, rfl⟩)
                  have hb11 := below_drewN (below_drewN hb9 n10) n11
                  generalize (w9.drewN n10).drewN n11 = w11 at *
                  have HST2 := Lib.hid (HST.out.below hb11)
                  have HB11 := Lib.hid (HST2.out.kept)
                  clear HSA HRM HNX HST hb9 hb11
                  by_cases hlt : k < l.length
                  · obtain ⟨ga, off, rfl, hact⟩ := (hA.below HB11.out).2 k hlt
                    obtain ⟨gaW, offW, eW, hactW⟩ := hA.2 k hlt
                    have hc := hact.2.1
                    have d0 : w11.cell? ⟨ga, off + k * 9, none⟩ = some (.string l[k].kind) := hc 0 (by omega)
                    have d1 : w11.cell? ⟨ga, off + k * 9 + 1, none⟩ = some (.string l[k].s) := hc 1 (by omega)
                    have d2 : w11.cell? ⟨ga, off + k * 9 + 2, none⟩ = some (.int .i64 l[k].a) := hc 2 (by omega)
                    have d3 : w11.cell? ⟨ga, off + k * 9 + 3, none⟩ = some (.int .i64 l[k].b) := hc 3 (by omega)
                    have d4 : w11.cell? ⟨ga, off + k * 9 + 4, none⟩ = some (.int .i64 l[k].c) := hc 4 (by omega)
                    have d5 : w11.cell? ⟨ga, off + k * 9 + 5, none⟩ = some (.int .i64 l[k].d) := hc 5 (by omega)
                    have d6 : w11.cell? ⟨ga, off + k * 9 + 6, none⟩ = some (.int .u64 l[k].k) := hc 6 (by omega)
                    have d7 : w11.cell? ⟨ga, off + k * 9 + 7, none⟩ = some (.slice l[k].pA l[k].pL l[k].pC) := hc 7 (by omega)
                    have d8 : w11.cell? ⟨ga, off + k * 9 + 8, none⟩ = some (.slice l[k].cA l[k].cL l[k].cC) := hc 8 (by omega)
                    have hcw := hactW.2.2.2.1
                    have hc90 := (HLA.out _ (List.getElem_mem hlt)).c
                    have i2 : ((k : Int) == (l.length : Int)) = false := by simp; omega
                    have i0 : (0 : Int) ≤ (k : Int) := by omega
                    have i3 : (k : Int) < (l.length : Int) := by omega
                    clear hc hact hactW eW
                    generalize l[k] = m at *
                    obtain ⟨lc, hlc, hcw⟩ := chs_of_changes hcw (Nat.le_refl _)
                    have hba := (Below.refl w11.heap.size w11).alloc (Nat.le_refl _) (.cells (actArr m) 47)
                    have hx : (w11.alloc (.cells (actArr m) 47)).heap[w11.heap.size]? = some (.cells (actArr m) 47 (0, 0)) := heap_alloc_new _ _
                    obtain ⟨gx, hgx⟩ : ∃ gx, w11.heap.size = gx := ⟨_, rfl⟩
                    obtain ⟨wa, hwa⟩ : ∃ wa, w11.alloc (.cells (actArr m) 47) = wa := ⟨_, rfl⟩
                    rw [hwa] at hba hx
                    rw [hgx] at hx
                    have HSTa := Lib.hid (HST2.out.below hba)
                    unfold actArr at hwa
                    have HWA := Lib.hid hwa
                    have HGX := Lib.hid hgx
                    have e0 : wa.cell? ⟨gx, 0, none⟩ = some (.string m.kind) := cell_of_row _ _ _ _ _ _ hx
                    have e8 : wa.cell? ⟨gx, 8, none⟩ = some (.slice m.cA m.cL m.cC) := cell_of_row _ _ _ _ _ _ hx
                    clear hwa hgx hba HB11 HST2
                    go_upto_region 36 with (fail)
                    rw [HWA.out, HGX.out]
                    clear HWA HGX d0 d1 d2 d3 d4 d5 d6 d7 d8
                    have n44 : (k : Int) ≤ 20 := by omega
                    cases hk0 : (m.kind.toList == [97, 100, 100]) with
                    | false =>
                      --< g
                      have HO := HOP.out wa D HSTa.out.disk HSTa.out.kept.size HSTa.out.calm
                      rw [show lgRead fs (txt D.now fr mn) 0 [] [] 0 = (want, f) from HSTa.out.inv.read] at HO
                      have HO' := Lib.hid HO
                      clear HO
                      go_wp2_with fail
                      ((with_reducible refine HO'.out.mono ?_); rintro e w12 ⟨gl', v', rfl, hE', hL', hb'⟩)
                      obtain ⟨A', c', rfl⟩ : ∃ A c, v' = .slice A want.length c := by
                        obtain ⟨vs, _, h2, _⟩ := hE'
                        exact slice_form h2
                      obtain ⟨vs', hST'⟩ := HSTa.out.opened hE' hL' hb'
                      have HST' := Lib.hid hST'
                      clear hE' hL' hb' hST' HO' HSTa
                      go_wp2
                      go_roundw
                      case rel => exact ⟨k + 1, gl', f, D, want, A', c', vs', Aw, cw, vsw, by omega, rfl, rfl, rfl, rfl, rfl, by go_num, HST'.out, by omega, hwx, HEM⟩
                      case measure => simp [intOf]; omega
                      --> g
                    | true =>
                      have HCF := Lib.hid (ChsF.old hcw HSTa.out.kept)
                      rw [← hlc] at e8 hc90
                      have HE8x := Lib.hid (fun w' (h : Below wa.heap.size wa w') => show w'.cell? ⟨gx, 8, none⟩ = some (.slice m.cA lc.length m.cC) from (h.cell (p := ⟨gx, 8, none⟩) (Array.getElem?_eq_some_iff.1 hx).1).trans e8)
                      have n45 : (lc.length : Int) ≤ 90 := by omega
                      have n46 : (f : Int) ≤ 40 := by omega
                      have a3 : IntKind.i64.wrap ((lc.length : Int) + 1) = (lc.length : Int) + 1 := IntWalk.i64_in _ (by omega)
                      have HADD := Lib.hid (fun w' (h : Below wa.heap.size wa w') => add_any w.heap.size gl g w' D ⟨fr, mn, fs, f⟩ m.cA m.cC lc (HSTa.out.log.below h) (HSTa.out.disk.below h) (HCF.out.now.below h) (by omega) (by have := HSTa.out.few; omega) (by show fr ≤ _; omega) (by show mn ≤ _; omega) hfm' (by show fs ≤ _; omega))
                      have HCA' := calm_add HSTa.out.calm HSTa.out.inv (show fr + mn ≤ N from hfm) lc
                      have e8c : Value.slice m.cA lc.length m.cC = Value.slice m.cA m.cL m.cC := by rw [hlc]
                      have HE8C := Lib.hid e8c
                      clear hcw hlc e8c
                      -- the arm add
                      have HE0 := Lib.hid (addE_range ⟨fr, mn, fs, f⟩ lc)
                      obtain ⟨e, he⟩ : ∃ e, addE ⟨fr, mn, fs, f⟩ lc = e := ⟨_, rfl⟩
                      rw [he] at HCA' HE0
                      have HCA := Lib.hid HCA'
                      unfold addE at he
                      simp only [] at he
                      clear HCA'
                      by_cases h72 : 72 < lc.length
                      · rw [if_pos h72] at he
                        have he2 := he.symm
                        have i72 : (72 : Int) < (lc.length : Int) := by omega
                        clear he
                        --< h
                        have HNE := Lib.hid (show e ≠ 0 by omega)
                        have HCA2 := Lib.hid (show lgAdd lc ⟨fr, mn, fs, f⟩ D = (⟨fr, mn, fs, f⟩, D, e) from by
                          rcases HCA.out with ⟨h, _⟩ | ⟨_, h⟩
                          · omega
                          · exact h)
                        have HE2 := Lib.hid he2
                        clear HCA he2
                        go_upto_block 8 with (fail)
                        go_cut [26] (fun v wx => v = .int .i64 e ∧ ∃ wb, wx = wb ∧ Below wa.heap.size wa wb)
                        case first =>
                          as_aux_lemma =>
                          have he2 := HE2.out
                          subst he2
                          go_wp2
                          refine wp_loop_rounds 1 ?_
                          rw [rounds_succ]
                          go_wp2
                          all_goals
                            go_meet
                            exact ⟨rfl, _, rfl, Below.refl _ _⟩
                        case rest =>
                          as_aux_lemma =>
                          obtain ⟨rfl, wb, ex, hbb⟩ := hcut
                          rw [ex]
                          clear ex
                          have HAD := HADD.out wb hbb
                          rw [HCA2.out] at HAD
                          have HAD' := Lib.hid HAD
                          have c8 := HE8x.out wb hbb
                          have HSTb := Lib.hid (HSTa.out.below hbb)
                          have hef : (e == 0) = false := by simpa using HNE.out
                          have he0 : 0 ≤ e := HE0.out
                          clear HAD HADD hbb
                          go_wp2_with fail
                          ((with_reducible refine HAD'.out.mono ?_); rintro e2 w12 ⟨rfl, hL12, hD12, hs12⟩)
                          have HST12 := Lib.hid (HSTb.out.stay hs12 hD12 hL12)
                          rw [show (((⟨fr, mn, fs, f⟩, D, e) : LgM × DkM × Int).2.2) = e from rfl]
                          clear HAD' hL12 hD12 hs12 HSTb
                          go_wp2_with fail
                          ((with_reducible refine (said_yes e _ he0).mono ?_); rintro e2 w13 ⟨rfl, rfl⟩)
                          go_wp2
                          refine ⟨⟨k + 1, gl, f, D, want, Ag, cg, vsg, Aw, cw, vsw, by omega, rfl, rfl, rfl, rfl, rfl, by go_num, HST12.out, by omega, hwx, HEM⟩, by simp [intOf]; omega⟩
                        --> h
                      · rw [if_neg h72] at he
                        have i72 : ¬ (72 : Int) < (lc.length : Int) := by omega
                        by_cases hful : mn < f + lc.length + 1
                        · rw [if_pos hful] at he
                          have he2 := he.symm
                          have iful : (mn : Int) - (f : Int) < (lc.length : Int) + 1 := by omega
                          clear he
                          --< i
                          have HNE := Lib.hid (show e ≠ 0 by omega)
                          have HCA2 := Lib.hid (show lgAdd lc ⟨fr, mn, fs, f⟩ D = (⟨fr, mn, fs, f⟩, D, e) from by
                            rcases HCA.out with ⟨h, _⟩ | ⟨_, h⟩
                            · omega
                            · exact h)
                          have HE2 := Lib.hid he2
                          clear HCA he2
                          go_upto_block 8 with (fail)
                          go_cut [26] (fun v wx => v = .int .i64 e ∧ ∃ wb, wx = wb ∧ Below wa.heap.size wa wb)
                          case first =>
                            as_aux_lemma =>
                            have he2 := HE2.out
                            subst he2
                            go_wp2
                            refine wp_loop_rounds 1 ?_
                            rw [rounds_succ]
                            go_wp2
                            all_goals
                              go_meet
                              exact ⟨rfl, _, rfl, Below.refl _ _⟩
                          case rest =>
                            as_aux_lemma =>
                            obtain ⟨rfl, wb, ex, hbb⟩ := hcut
                            rw [ex]
                            clear ex
                            have HAD := HADD.out wb hbb
                            rw [HCA2.out] at HAD
                            have HAD' := Lib.hid HAD
                            have c8 := HE8x.out wb hbb
                            have HSTb := Lib.hid (HSTa.out.below hbb)
                            have hef : (e == 0) = false := by simpa using HNE.out
                            have he0 : 0 ≤ e := HE0.out
                            clear HAD HADD hbb
                            go_wp2_with fail
                            ((with_reducible refine HAD'.out.mono ?_); rintro e2 w12 ⟨rfl, hL12, hD12, hs12⟩)
                            have HST12 := Lib.hid (HSTb.out.stay hs12 hD12 hL12)
                            rw [show (((⟨fr, mn, fs, f⟩, D, e) : LgM × DkM × Int).2.2) = e from rfl]
                            clear HAD' hL12 hD12 hs12 HSTb
                            go_wp2_with fail
                            ((with_reducible refine (said_yes e _ he0).mono ?_); rintro e2 w13 ⟨rfl, rfl⟩)
                            go_wp2
                            refine ⟨⟨k + 1, gl, f, D, want, Ag, cg, vsg, Aw, cw, vsw, by omega, rfl, rfl, rfl, rfl, rfl, by go_num, HST12.out, by omega, hwx, HEM⟩, by simp [intOf]; omega⟩
                          --> i
                        · rw [if_neg hful] at he
                          have iful : ¬ (mn : Int) - (f : Int) < (lc.length : Int) + 1 := by omega
                          go_upto_block 8 with (fail)
                          go_cut [26] (fun v wx => v = .int .i64 e ∧ ∃ wb, wx = wb ∧ Below wa.heap.size wa wb)
                          case first =>
                            as_aux_lemma =>
                            --< j
                            have HCE := Lib.hid he
                            clear he
                            go_wp2
                            go_loopw [26, 27] (fun v i wb => ∃ (j : Nat) (fv : Int), j ≤ lc.length ∧ v = .int .i64 fv ∧ i = .int .i64 j ∧ Hid (chsErr lc = if fv = 0 then chsErr (lc.drop j) else fv) ∧ Below wa.heap.size wa wb) (fun _ i _ => lc.length - (intOf i).toNat)
                            case atStart => exact ⟨0, 0, Nat.zero_le _, rfl, rfl, Lib.hid (by simp), Below.refl _ _⟩
                            case round =>
                              obtain ⟨j, fv, hj, rfl, rfl, HI, hb⟩ := hrel
                              have c8 := HE8x.out _ hb
                              by_cases hjl : j < lc.length
                              · have j1 : (j : Int) < (lc.length : Int) := by omega
                                have j0 : (0 : Int) ≤ (j : Int) := by omega
                                by_cases hfv : fv = 0
                                · subst hfv
                                  obtain ⟨b3, off3, e3, hb3, q0, q1, q2, z1, z2⟩ := (HCF.out.now.below hb) j hjl
                                  have hI := HI.out
                                  rw [if_pos rfl, chsErr_drop lc j hjl] at hI
                                  have HFA := Lib.hid (fun w' => rfault_any lc[j] w' z1 z2)
                                  have HI2 := Lib.hid hI
                                  rw [e3] at c8
                                  clear hI HI e3
                                  generalize lc[j] = ch at *
                                  obtain ⟨key, val, gone⟩ := ch
                                  simp only [] at q0 q1 q2
                                  go_wp2_with fail
                                  ((with_reducible refine (HFA.out _).mono ?_); rintro e2 w12 ⟨rfl, hb12⟩)
                                  have HB12 := Lib.hid (belowThen hb hb12)
                                  clear HFA hb12
                                  go_wp2
                                  refine ⟨⟨j + 1, chErr ⟨key, val, gone⟩, by omega, rfl, by go_num, ?_, HB12.out⟩, by simp [intOf]; omega⟩
                                  exact HI2.out
                                · have hf0 : (fv == 0) = false := by simpa using hfv
                                  have hI := HI.out
                                  rw [if_neg hfv, HCE.out] at hI
                                  go_wp2
                                  go_meet
                                  exact ⟨by rw [hI], _, rfl, hb⟩
                              · have hjl' : j = lc.length := by omega
                                subst hjl'
                                have hI := HI.out
                                rw [HCE.out] at hI
                                have hq : fv = e := by
                                  rw [hI]; split
                                  · rename_i h0; rw [h0]; simp [chsErr]
                                  · rfl
                                go_wp2
                                go_meet
                                exact ⟨by rw [hq], _, rfl, hb⟩
                            --> j
                          case rest =>
                            as_aux_lemma =>
                            obtain ⟨rfl, wb, ex, hbb⟩ := hcut
                            rw [ex]
                            clear ex he
                            by_cases hz : e = 0
                            · subst hz
                              obtain ⟨D', hA', hC', hw', hI'⟩ : ∃ D', lgAdd lc ⟨fr, mn, fs, f⟩ D = (⟨fr, mn, fs, f + lc.length + 1⟩, D', 0) ∧ Calm N D' ∧ D'.wr = [] ∧ LInv (dkSaved D') ⟨fr, mn, fs, f + lc.length + 1⟩ (want ++ [lc]) := by
                                rcases HCA.out with ⟨_, h⟩ | ⟨h, _⟩
                                · exact h
                                · exact absurd rfl h
                              have HAD := HADD.out wb hbb
                              rw [hA'] at HAD
                              have HAD' := Lib.hid HAD
                              have HSTb := Lib.hid (HSTa.out.below hbb)
                              have HCFb := Lib.hid (HCF.out.step (Step.of_below hbb HSTa.out.kept.size))
                              have c8b := HE8x.out wb hbb
                              have HX := Lib.hid ((hbb.block _ (Array.getElem?_eq_some_iff.1 hx).1).trans hx)
                              clear HAD HADD hbb HCA hA' HSTa
                              go_wp2_with fail
                              ((with_reducible refine HAD'.out.mono ?_); rintro e2 w12 ⟨rfl, hL12, hD12, hs12⟩)
                              have hx12 := hs12.other _ _ _ _ HX.out (by decide)
                              have HSTk := Lib.hid (HSTb.out.wan.step hs12)
                              have HPUT := Lib.hid (fun w' A2 vs2 (hb : Below w12.heap.size w12 w') (hF : DeedsF w.heap.size w' A2 (want ++ [lc]) vs2) => show LsSt w w' g N fr mn fs gl (f + lc.length + 1) D' (want ++ [lc]) A2 vs2 A2 vs2 from
                                HSTb.out.put (hs12.trans (Step.of_below hb (Nat.le_trans HSTb.out.kept.size hs12.size))) (hD12.below hb) hC' (by rw [hw']; simp) (hL12.below hb) hI' hF)
                              have HCF12 := Lib.hid (HCFb.out.step hs12)
                              have h12s : w.heap.size ≤ w12.heap.size := Nat.le_trans HSTb.out.kept.size hs12.size
                              rw [show (((⟨fr, mn, fs, f + lc.length + 1⟩, D', 0) : LgM × DkM × Int).2.2) = 0 from rfl]
                              clear HAD' hL12 hD12 hs12 HSTb hC' hw' hI'
                              go_wp2_with fail
                              ((with_reducible refine (said_yes 0 _ (by omega)).mono ?_); rintro e2 w13 ⟨rfl, rfl⟩)
                              go_upto_region 52 with (fail)
                              go_cut [22] (fun v wx => ∃ w8 A8 c8 vs8, wx = w8 ∧ v = .slice A8 (want.length + 1) c8 ∧ Below w12.heap.size w12 w8 ∧ DeedsF w.heap.size w8 A8 (want ++ [lc]) vs8)
                              case first =>
                                as_aux_lemma =>
                                --< l
                                obtain ⟨inf, hin0, hz0, hz1, hz2⟩ := info_parts Try.infoDeedZ
                                have hlen8 : want.length ≤ 1000 := by omega
                                have d6 : w12.cell? ⟨gx, 8, none⟩ = some (.slice m.cA lc.length m.cC) := (cell_of_row _ _ _ _ _ _ hx12).trans (by rw [HE8C.out]; rfl)
                                have hgx12 : gx < w12.heap.size := (Array.getElem?_eq_some_iff.1 hx12).1
                                have d6a : (w12.alloc (.cells #[.slice m.cA lc.length m.cC] 45)).cell? ⟨gx, 8, none⟩ = some (.slice m.cA lc.length m.cC) := Lib.cell?_alloc_some _ d6
                                have BAL := Lib.hid (show Below w12.heap.size w12 (w12.alloc (.cells #[.slice m.cA lc.length m.cC] 45)) from (Below.refl _ _).alloc (Nat.le_refl _) _)
                                have B0 := Lib.hid (show Below w12.heap.size w12 w12.drew from (Below.refl _ _).drew)
                                have FIN := Lib.hid (fun w8 A8 c8 (hO : w8.ownsRow w12.heap.size 45 1 (.slice A8 (want.length + 1) c8) (want.length + 1) (vsw ++ [.slice m.cA lc.length m.cC])) (hb : Below w12.heap.size w12 w8) => show DeedsF w.heap.size w8 A8 (want ++ [lc]) (vsw ++ [.slice m.cA lc.length m.cC]) from
                                  DeedsF.snoc HSTk.out (Step.of_below hb h12s) (HCF12.out.step (Step.of_below hb h12s)) hO)
                                cases hwe : want with
                                | nil =>
                                  subst hwe
                                  obtain ⟨rfl, rfl⟩ := HEM.out rfl
                                  have hvs0 : vsw = [] := List.length_eq_zero_iff.1 (by rw [HSTk.out.1]; rfl)
                                  rw [hvs0] at FIN
                                  clear hvs0 HSTk HPUT HCF12 HEM
                                  simp only [List.length_nil, Nat.zero_add, List.nil_append] at FIN
                                  go_wp2_with fail
                                  go_region_law (first | (refine step_append_lies _ (by rfl) _ _ 33 (by rfl) w12.heap.size 45 inf (.slice none 0 0) 1 24 Try.underlying33 hin0 hz0 hz1 hz2 rfl (by decide) (.slice none 0 0) 0 [] (by rfl) (World.ownsRow_nil _ _ _ _) ⟨w12.heap.size, 0, none⟩ 1 1 [.slice m.cA lc.length m.cC] (by rfl) rfl (cell_one_new _ _ _) (by simp [Value.oneCell']) (by omega) (by unfold maxLen; omega) (by omega) (by simp) (w12.heap.size + 1) (by simp) ?_; intro gg cap w8 hO8 hg8 hat8 hlt8; have HB8 := Lib.hid (show Below w12.heap.size w12 w8 from BAL.out.drew.grown hg8 (by simp) (fun k hk => by cases hk)); have HF8 := Lib.hid (FIN.out w8 _ _ hO8 HB8.out); clear hO8 hg8 hat8) | fail)
                                  all_goals
                                    go_wp2
                                    go_meet
                                    exact ⟨w8, some ⟨gg, 0, none⟩, cap, _, rfl, rfl, HB8.out, HF8.out⟩
                                | cons y r =>
                                  have hwl : 0 < want.length := by rw [hwe]; simp
                                  obtain ⟨aw, rfl⟩ : ∃ aw, Aw = some aw := by
                                    obtain ⟨b, off, _, _, e, _⟩ := HSTk.out.2 0 hwl (by rw [HSTk.out.1]; exact hwl)
                                    exact ⟨_, e⟩
                                  rw [← hwe]
                                  have HCV' := Lib.hid (fun w' (hb : Below w12.heap.size w12 w') => (HSTk.out.step (Step.of_below hb h12s)).cells)
                                  have HWL := Lib.hid hwl
                                  have HONE := Lib.hid HSTk.out.one
                                  have HVL := Lib.hid (show vsw.length = want.length * 1 by rw [HSTk.out.1]; omega)
                                  have HBL := Lib.hid hgx12
                                  clear hwe hwl HSTk HPUT HCF12 HEM hgx12
                                  go_wp2_with fail
                                  go_region_law (first
                                    | (refine step_append_lies _ (by rfl) _ _ 33 (by rfl) w12.heap.size 45 inf (.slice none 0 0) 1 24 Try.underlying33 hin0 hz0 hz1 hz2 rfl (by decide) (.slice none 0 0) 0 [] (by rfl) (World.ownsRow_nil _ _ _ _) aw want.length cw vsw (by rfl) HVL.out (HCV'.out _ (by first | exact B0.out | exact BAL.out.drew)) HONE.out HWL.out (by unfold maxLen; omega) (by omega) (by simp) _ rfl ?_; intro g7 cap7 w7 hO7 hg7 hat7 hlt7; have hb7 : Below w12.heap.size w12 w7 := (by first | exact B0.out.grown hg7 (by simp) (fun k hk => by cases hk) | exact BAL.out.drew.grown hg7 (by simp) (fun k hk => by cases hk)); have c7 := (hb7.cell (p := ⟨gx, 8, none⟩) HBL.out).trans d6; have HO7 := Lib.hid (show w7.ownsRow w12.heap.size 45 1 (.slice (some ⟨g7, 0, none⟩) want.length cap7) want.length vsw from by simpa using hO7); have HG7 := Lib.hid hg7; clear hO7 hg7 hat7)
                                    | (refine step_append_lies _ (by rfl) _ _ 33 (by rfl) w12.heap.size 45 inf (.slice none 0 0) 1 24 Try.underlying33 hin0 hz0 hz1 hz2 rfl (by decide) (.slice (some ⟨g7, 0, none⟩) want.length cap7) want.length vsw (by rfl) (World.ownsRow.alloc HO7.out _) ⟨w7.heap.size, 0, none⟩ 1 1 [.slice m.cA lc.length m.cC] (by rfl) rfl (cell_one_new _ _ _) (by simp [Value.oneCell']) (by omega) (by unfold maxLen; omega) (by omega) (by have := hb7.size; simp; omega) _ rfl ?_; intro gg cap w8 hO8 hg8 hat8 hlt8; have HB8 := Lib.hid (show Below w12.heap.size w12 w8 from (hb7.alloc hb7.size _).grown hg8 (by have := hb7.size; simp; omega) (fun k hk => (HO7.out.lt k hk).1)); have HF8 := Lib.hid (FIN.out w8 _ _ hO8 HB8.out); clear hO8 hg8 hat8)
                                    | (refine step_append_lies _ (by rfl) _ _ 33 (by rfl) w12.heap.size 45 inf (.slice none 0 0) 1 24 Try.underlying33 hin0 hz0 hz1 hz2 rfl (by decide) (.slice (some ⟨g7, 0, none⟩) want.length cap7) want.length vsw (by rfl) HO7.out ⟨w12.heap.size, 0, none⟩ 1 1 [.slice m.cA lc.length m.cC] (by rfl) rfl (World.news_of_block (cs := #[.slice m.cA lc.length m.cC]) (t := 45) (fr := (0, 0)) ((HG7.out.block w12.heap.size (by simp) (fun h => by cases h)).trans (heap_alloc_new w12 _))) (by simp [Value.oneCell']) (by omega) (by unfold maxLen; omega) (by omega) hb7.size _ rfl ?_; intro gg cap w8 hO8 hg8 hat8 hlt8; have HB8 := Lib.hid (show Below w12.heap.size w12 w8 from hb7.grown hg8 hb7.size (fun k hk => (HO7.out.lt k hk).1)); have HF8 := Lib.hid (FIN.out w8 _ _ hO8 HB8.out); clear hO8 hg8 hat8)
                                    | fail)
                                  all_goals
                                    go_wp2
                                    go_meet
                                    exact ⟨w8, some ⟨gg, 0, none⟩, cap, _, rfl, rfl, HB8.out, HF8.out⟩
                                --> l
                              case rest =>
                                as_aux_lemma =>
                                obtain ⟨w8, A8, c8, vs8, ex, rfl, hb8, hF8⟩ := hcut
                                rw [ex]
                                clear ex
                                have d6 : w8.cell? ⟨gx, 8, none⟩ = some (.slice m.cA lc.length m.cC) := (hb8.cell (p := ⟨gx, 8, none⟩) (Array.getElem?_eq_some_iff.1 hx12).1).trans ((cell_of_row _ _ _ _ _ _ hx12).trans (by rw [HE8C.out]; rfl))
                                have HSTn := Lib.hid (HPUT.out w8 A8 vs8 hb8 hF8)
                                have n47 : (lc.length : Int) ≤ 72 := by omega
                                have a4 : IntKind.i64.wrap ((f : Int) + (lc.length : Int)) = (f : Int) + (lc.length : Int) := IntWalk.i64_in _ (by omega)
                                have a5 : IntKind.i64.wrap ((f : Int) + (lc.length : Int) + 1) = (f : Int) + (lc.length : Int) + 1 := IntWalk.i64_in _ (by omega)
                                have HWX := Lib.hid (show ∀ x ∈ want ++ [lc], x.length ≤ 100 from fun x hx => by
                                  rcases List.mem_append.1 hx with h' | h'
                                  · exact hwx x h'
                                  · rw [List.mem_singleton.1 h']; omega)
                                clear HPUT hb8 hF8 hx12 HSTk HCF12 HEM
                                go_wp2
                                refine ⟨⟨k + 1, gl, f + lc.length + 1, D', want ++ [lc], A8, c8, vs8, A8, c8, vs8, by omega, rfl, rfl, by simp, by simp, by go_num, by go_num, HSTn.out, by simp; omega, HWX.out, Lib.hid (fun h => by simp at h)⟩, by simp [intOf]; omega⟩
                            · have HNE := Lib.hid hz
                              have HCA2 := Lib.hid (show lgAdd lc ⟨fr, mn, fs, f⟩ D = (⟨fr, mn, fs, f⟩, D, e) from by
                                rcases HCA.out with ⟨h, _⟩ | ⟨_, h⟩
                                · omega
                                · exact h)
                              clear HCA hz
                              --< k
                              have HAD := HADD.out wb hbb
                              rw [HCA2.out] at HAD
                              have HAD' := Lib.hid HAD
                              have c8 := HE8x.out wb hbb
                              have HSTb := Lib.hid (HSTa.out.below hbb)
                              have hef : (e == 0) = false := by simpa using HNE.out
                              have he0 : 0 ≤ e := HE0.out
                              clear HAD HADD hbb
                              go_wp2_with fail
                              ((with_reducible refine HAD'.out.mono ?_); rintro e2 w12 ⟨rfl, hL12, hD12, hs12⟩)
                              have HST12 := Lib.hid (HSTb.out.stay hs12 hD12 hL12)
                              rw [show (((⟨fr, mn, fs, f⟩, D, e) : LgM × DkM × Int).2.2) = e from rfl]
                              clear HAD' hL12 hD12 hs12 HSTb
                              go_wp2_with fail
                              ((with_reducible refine (said_yes e _ he0).mono ?_); rintro e2 w13 ⟨rfl, rfl⟩)
                              go_wp2
                              refine ⟨⟨k + 1, gl, f, D, want, Ag, cg, vsg, Aw, cw, vsw, by omega, rfl, rfl, rfl, rfl, rfl, by go_num, HST12.out, by omega, hwx, HEM⟩, by simp [intOf]; omega⟩
                              --> k
                      -- its end
                  · obtain rfl : k = l.length := by omega
                    have q1 : ((l.length : Int) == (l.length : Int)) = true := by simp
                    go_wp2
                    go_meet
                    exact HB11.out
              case rest =>
                as_aux_lemma =>
                go_wp2
                go_ret
                exact ⟨rfl, hcut⟩
end Go.Proofs.Ytllaohobmkcmfaa
