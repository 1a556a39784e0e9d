/- The walk of TopDiff. -/
import Derived.Test.YtnnnmpfkpckgbaaIndexed
namespace Go.Proofs.Ytnnnmpfkpckgbaa
open Go.RowKit Go.Maps

theorem differ_symm (X : IdxM) (a b i : Nat) : differ X a b i = differ X b a i := by
  unfold differ
  rw [Bool.beq_comm]
theorem diffUp_symm (X : IdxM) (a b n : Nat) : diffUp X a b n = diffUp X b a n := by
  unfold diffUp
  rw [show differ X a b = differ X b a from funext (differ_symm X a b)]
theorem diffUp_self (X : IdxM) (a n : Nat) : diffUp X a a n = [] := by
  unfold diffUp
  rw [List.filter_eq_nil_iff.2 (fun i _ => by simp [differ])]
  rfl
/-- The places up to n, and those behind. -/
theorem diffUp_split (X : IdxM) (a b n m : Nat) : ∃ r, diffUp X a b (n + m) = diffUp X a b n ++ r ∧ ∀ z ∈ r, (n : Int) ≤ z := by
  induction m with
  | zero => exact ⟨[], by simp, by simp⟩
  | succ m ih =>
    obtain ⟨r, e, hr⟩ := ih
    rw [← Nat.add_assoc, diffUp_succ]
    split
    · exact ⟨r ++ [((n + m : Nat) : Int)], by rw [e, List.append_assoc], fun z hz => by
        rcases List.mem_append.1 hz with h | h
        · exact hr z h
        · simp at h; omega⟩
    · exact ⟨r, e, hr⟩
theorem diff_yes (X : IdxM) (a b n : Nat) (hn : n < 16) (h : differ X a b n = true) : ∃ hk : (diffUp X a b n).length < (diffUp X a b 16).length, (diffUp X a b 16)[(diffUp X a b n).length] = (n : Int) ∧ (diffUp X a b (n + 1)).length = (diffUp X a b n).length + 1 := by
  obtain ⟨r, e, _⟩ := diffUp_split X a b (n + 1) (16 - (n + 1))
  rw [show n + 1 + (16 - (n + 1)) = 16 by omega, diffUp_succ X a b n, if_pos h] at e
  have e2 : diffUp X a b 16 = diffUp X a b n ++ ((n : Int) :: r) := by rw [e]; simp
  refine ⟨by rw [e2]; simp, ?_, by rw [diffUp_succ, if_pos h]; simp⟩
  simp only [e2]
  rw [List.getElem_append_right (Nat.le_refl _)]
  simp
theorem diff_no (X : IdxM) (a b n : Nat) (hn : n < 16) (h : differ X a b n = false) : (∀ hk : (diffUp X a b n).length < (diffUp X a b 16).length, (diffUp X a b 16)[(diffUp X a b n).length] ≠ (n : Int)) ∧ (diffUp X a b (n + 1)).length = (diffUp X a b n).length := by
  obtain ⟨r, e, hr⟩ := diffUp_split X a b (n + 1) (16 - (n + 1))
  rw [show n + 1 + (16 - (n + 1)) = 16 by omega, diffUp_succ X a b n, if_neg (by simp [h])] at e
  refine ⟨fun hk => ?_, by rw [diffUp_succ, if_neg (by simp [h])]⟩
  simp only [e]
  rw [List.getElem_append_right (Nat.le_refl _)]
  have hr0 : (diffUp X a b n).length - (diffUp X a b n).length < r.length := by rw [e] at hk; simp at hk ⊢; omega
  have := hr _ (List.getElem_mem hr0)
  omega

/-- Diff, as a slice. -/
def RetSl (w : World) (l : List Int) (e : Ending) (w' : World) : Prop := ∃ A c, e = .returned (.slice A l.length c) ∧ IntsAt w' A l ∧ Below w.heap.size w w'
theorem idxDiff_sl (w : World) (x gp bp bn K : Nat) (X : IdxM) (a b : Nat) (l : List Int) (h : IdxAt w x gp bp bn K X) (ha : a ≤ 1000) (hb : b ≤ 1000) (hl : diffUp X a b 16 = l) :
    Calls Try.prog 16 #[.pointer (some ⟨x, 0, none⟩), .int .i64 a, .int .i64 b] w (RetSl w l) := by
  subst hl
  refine (idxDiff_any w x gp bp bn K X a b h ha hb).mono ?_
  rintro e w' ⟨v, rfl, hO, hb⟩
  obtain ⟨A, c, rfl, hA, _⟩ := hO.at_
  exact ⟨A, c, rfl, hA, hb⟩
theorem same_yes (A A' : Option Addr) (c c' n : Nat) (l : List Int) (w : World) (hA : IntsAt w A l) (hA' : IntsAt w A' l) (hl : l.length = n) (hn : n ≤ 1000) :
    Calls Try.prog 17 #[.slice A n c, .slice A' n c'] w fun e w' => e = .returned (.bool true) ∧ Below w.heap.size w w' := by
  subst hl
  have := sameNumbers_any A A' c c' l l w hA hA' hn
  simpa using this

set_option maxHeartbeats 4000000 in
set_option maxRecDepth 100000 in
theorem topDiff_walk (A : Option Addr) (cA : Nat) (l : List ActM) (p q : Int) (w : World) (hA : ActsAt w w.heap.size A l) :
    Calls Try.prog 4 #[.slice A l.length cA, .int .i64 p, .int .i64 q] w fun e w' => e = .returned (.bool true) ∧ Below w.heap.size w w' := by
  go_enter Try.func4, Try.ntmps4
  go_wp2_with fail
  ((with_reducible refine (indexed_any _).mono ?_); rintro e w1 ⟨rfl, hb1⟩)
  go_wp2_with fail
  ((with_reducible refine (lightActs_any _ _ _ _ _ (hA.below hb1)).mono ?_); rintro e w2 ⟨r, rfl, hr, hb2⟩)
  replace hb2 := belowThen hb1 hb2
  clear hb1
  cases r
  · go_wp2
    go_ret
    exact ⟨rfl, hb2⟩
  have hl12 : l.length ≤ 60 := by have := hr rfl; omega
  clear hr
  go_wp2_with fail
  ((with_reducible refine (rooted_any _ _ _ _ (hA.below hb2) hl12).mono ?_); rintro e w3 (⟨rfl, hb3⟩ | ⟨x, gp, bp, bn, X, RL, v, rfl, hX, hI, hO, hne, hRL, hR24, hx, hgp, hbp, hbn, hb3⟩))
  · go_wp2
    go_ret
    exact ⟨rfl, belowThen hb2 hb3⟩
  replace hb3 := belowThen hb2 hb3
  obtain ⟨a, ⟨ham, ga, ca, ma, qa, ev, hma, hqa, hqal, cca⟩⟩ := picked hO hne p
  obtain ⟨b, ⟨hbm, gb, cb, mb, qb, ev', hmb, hqb, hqbl, ccb⟩⟩ := picked hO hne q
  have hev : Value.slice (some ⟨ga, 0, none⟩) RL.length ca = .slice (some ⟨gb, 0, none⟩) RL.length cb := by rw [← ev, ← ev']
  injection hev with e1 _ e3
  injection e1 with e1
  injection e1 with e1 _ _
  subst e1 e3 ev
  have ha24 := hR24 a ham
  have hb24 := hR24 b hbm
  obtain ⟨n, hn⟩ : ∃ n, RL.length = n := ⟨_, rfl⟩
  rw [hn] at hqa hqb hqal hqbl hRL ev' ⊢
  have hn0 : 0 < n := by rw [← hn]; exact List.length_pos_iff.2 hne
  have i1 : (0 : Int) ≤ (qa : Int) := by omega
  have i2 : (qa : Int) < (n : Int) := by omega
  have i3 : (0 : Int) ≤ (qb : Int) := by omega
  have i4 : (qb : Int) < (n : Int) := by omega
  have i5 : ((n : Int) == 0) = false := by simp; omega
  have i6 : ¬ ((n : Int) = 0) := by omega
  have i7 : (0 : Int) ≤ (ma : Int) := by omega
  have i8 : (0 : Int) ≤ (mb : Int) := by omega
  obtain ⟨d, hd⟩ : ∃ d, diffUp X a b 16 = d := ⟨_, rfl⟩
  have HD := Lib.hid hd
  have hd16 : d.length ≤ 16 := by rw [← hd]; exact diffUp_len _ _ _ _
  clear hI hO ham hbm hn ev' hb2 hR24 hne
  go_wp2_with fail
  clear hqa hqb hma hmb cca ccb
  ((with_reducible refine (idxDiff_sl _ _ _ _ _ _ X a b d hX (by omega) (by omega) hd).mono ?_); rintro e w4 ⟨D, cD, rfl, hD, hb4⟩)
  have hX4 := hX.below hb4
  replace hb4 := belowThen hb3 hb4
  clear hX hb3 hd
  go_wp2
  go_loopw [13, 14] (fun k i w' => ∃ (t : Nat), t ≤ 16 ∧ i = .int .i64 t ∧ k = .int .i64 (diffUp X a b t).length ∧ IdxAt w' x gp bp bn 1000 X ∧ IntsAt w' D d ∧ Below w.heap.size w w') (fun _ i _ => 16 - (intOf i).toNat)
  case atStart => exact ⟨0, Nat.zero_le _, rfl, rfl, hX4, hD, hb4⟩
  case round =>
    obtain ⟨t, ht, rfl, rfl, hX5, hD5, hb5⟩ := hrel
    clear hX4 hD hb4
    by_cases hlt : t < 16
    · obtain ⟨sa, hsa⟩ : ∃ s, X.get a t = s := ⟨_, rfl⟩
      obtain ⟨sb, hsb⟩ : ∃ s, X.get b t = s := ⟨_, rfl⟩
      have hdf : differ X a b t = !(sa.toList == sb.toList) := by unfold differ; rw [hsa, hsb]
      have HG1 := Lib.hid (fun w' (h' : IdxAt w' x gp bp bn 1000 X) => idxGet_e w' x gp bp bn 1000 X a t sa h' (by omega) hlt hsa)
      have HG2 := Lib.hid (fun w' (h' : IdxAt w' x gp bp bn 1000 X) => idxGet_e w' x gp bp bn 1000 X b t sb h' (by omega) hlt hsb)
      have j1 : (t : Int) < 16 := by omega
      have hlen := diffUp_len X a b t
      cases hst : (sa.toList == sb.toList) with
      | false =>
        rw [hst] at hdf
        have hy := diff_yes X a b t hlt hdf
        rw [HD.out] at hy
        obtain ⟨hk, hk2, hk3⟩ := hy
        have HK3 := Lib.hid hk3
        clear hk3 hdf hsa hsb
        generalize (diffUp X a b t).length = k at hk hk2 HK3 hlen ⊢
        obtain ⟨gd, od, rfl, cd⟩ := hD5 k hk
        rw [hk2] at cd
        have j2 : (k : Int) < (d.length : Int) := by omega
        clear hk2
        go_wp2_with fail
        ((with_reducible refine (HG1.out _ hX5).mono ?_); rintro e w6 ⟨rfl, hb6⟩)
        have hX6 := hX5.below hb6
        have hD6 := hD5.below hb6
        replace hb6 := belowThen hb5 hb6
        clear hX5 hD5 hb5 HG1 cd
        go_wp2_with fail
        ((with_reducible refine (HG2.out _ hX6).mono ?_); rintro e w7 ⟨rfl, hb7⟩)
        have hX7 := hX6.below hb7
        have hD7 := hD6.below hb7
        replace hb7 := belowThen hb6 hb7
        clear hX6 hD6 hb6 HG2
        go_wp2
        go_roundw
        case rel => exact ⟨t + 1, by omega, by go_num, by rw [HK3.out]; go_num, hX7, hD7, hb7⟩
        case measure => simp [intOf]; omega
      | true =>
        rw [hst] at hdf
        have hy := diff_no X a b t hlt hdf
        rw [HD.out] at hy
        obtain ⟨hk2, hk3⟩ := hy
        have HK3 := Lib.hid hk3
        clear hk3 hdf hsa hsb
        generalize (diffUp X a b t).length = k at hk2 HK3 hlen ⊢
        by_cases hk : k < d.length
        · have hk4 := hk2 hk
          obtain ⟨gd, od, rfl, cd⟩ := hD5 k hk
          generalize d[k] = dk at cd hk4
          have hk5 : (dk == (t : Int)) = false := by simpa using hk4
          have j2 : (k : Int) < (d.length : Int) := by omega
          clear hk2 hk4
          go_wp2_with fail
          ((with_reducible refine (HG1.out _ hX5).mono ?_); rintro e w6 ⟨rfl, hb6⟩)
          have hX6 := hX5.below hb6
          have hD6 := hD5.below hb6
          replace hb6 := belowThen hb5 hb6
          clear hX5 hD5 hb5 HG1 cd
          go_wp2_with fail
          ((with_reducible refine (HG2.out _ hX6).mono ?_); rintro e w7 ⟨rfl, hb7⟩)
          have hX7 := hX6.below hb7
          have hD7 := hD6.below hb7
          replace hb7 := belowThen hb6 hb7
          clear hX6 hD6 hb6 HG2
          go_wp2
          go_roundw
          case rel => exact ⟨t + 1, by omega, by go_num, by rw [HK3.out], hX7, hD7, hb7⟩
          case measure => simp [intOf]; omega
        · have j2 : decide (k < d.length) = false := by simpa using hk
          have j3 : decide ((k : Int) < (d.length : Int)) = false := by simp; omega
          clear hk2 hk
          go_wp2_with fail
          ((with_reducible refine (HG1.out _ hX5).mono ?_); rintro e w6 ⟨rfl, hb6⟩)
          have hX6 := hX5.below hb6
          have hD6 := hD5.below hb6
          replace hb6 := belowThen hb5 hb6
          clear hX5 hD5 hb5 HG1
          go_wp2_with fail
          ((with_reducible refine (HG2.out _ hX6).mono ?_); rintro e w7 ⟨rfl, hb7⟩)
          have hX7 := hX6.below hb7
          have hD7 := hD6.below hb7
          replace hb7 := belowThen hb6 hb7
          clear hX6 hD6 hb6 HG2
          go_wp2
          go_roundw
          case rel => exact ⟨t + 1, by omega, by go_num, by rw [HK3.out], hX7, hD7, hb7⟩
          case measure => simp [intOf]; omega
    · obtain rfl : t = 16 := by omega
      rw [HD.out]
      have HS := Lib.hid (show diffUp X b a 16 = d by rw [diffUp_symm]; exact HD.out)
      obtain ⟨dn, hdn⟩ : ∃ dn, d.length = dn := ⟨_, rfl⟩
      rw [hdn] at hd16 ⊢
      have HDN := Lib.hid hdn
      have k1 : ((dn : Int) == (dn : Int)) = true := by simp
      clear hdn
      go_wp2_with fail
      ((with_reducible refine (idxDiff_sl _ _ _ _ _ _ X b a d hX5 (by omega) (by omega) HS.out).mono ?_); rintro e w6 ⟨D', cD', rfl, hD', hb6⟩)
      have hX6 := hX5.below hb6
      have hD6 := hD5.below hb6
      replace hb6 := belowThen hb5 hb6
      rw [HDN.out]
      clear hX5 hD5 hb5
      go_wp2_with fail
      ((with_reducible refine (same_yes D D' cD cD' dn d _ hD6 hD' HDN.out (by omega)).mono ?_); rintro e w7 ⟨rfl, hb7⟩)
      have hX7 := hX6.below hb7
      replace hb7 := belowThen hb6 hb7
      clear hX6 hD6 hD' hb6
      go_wp2_with fail
      ((with_reducible refine (idxDiff_sl _ _ _ _ _ _ X a a [] hX7 (by omega) (by omega) (diffUp_self X a 16)).mono ?_); rintro e w8 ⟨D8, c8, rfl, _, hb8⟩)
      go_wp2
      go_ret
      exact ⟨rfl, belowThen hb7 hb8⟩
end Go.Proofs.Ytnnnmpfkpckgbaa
