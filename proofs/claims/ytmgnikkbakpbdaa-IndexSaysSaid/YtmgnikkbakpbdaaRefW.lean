/- The reference's Diff. -/
import Derived.Test.YtmgnikkbakpbdaaIdxS
namespace Go.Proofs.Ytmgnikkbakpbdaa
open Go.RowKit Go.Maps

set_option maxHeartbeats 1000000 in
set_option maxRecDepth 100000 in
theorem refDiff_any (w : World) (g K : Nat) (X : IdxM) (a b : Nat) (h : RIdxAt w g X) (hok : X.Ok K) (ha : a ≤ 24) (hb : b ≤ 24) (hla : ∀ i, (X.N a).kid i ≤ 24) (hlb : ∀ i, (X.N b).kid i ≤ 24) :
    Calls Try.prog 34 #[.pointer (some ⟨g, 0, none⟩), .int .i64 a, .int .i64 b] w (RetInts w (diffUp X a b 16)) := by
  obtain ⟨i0, hi, hz0, hz1, hz2⟩ := info_parts Try.infoInt
  have HLA := Lib.hid hla
  have HLB := Lib.hid hlb
  clear hla hlb
  go_enter Try.func34, Try.ntmps34
  go_wp2
  go_loopw [7, 8] (fun v i w' => ∃ k : Nat, k ≤ 16 ∧ i = .int .i64 k ∧ OwnInts w' w.heap.size v (diffUp X a b k) ∧ Below w.heap.size w w') (fun _ i _ => 16 - (intOf i).toNat)
  case atStart => exact ⟨0, Nat.zero_le _, rfl, World.ownsRow_nil _ _ _ _, Below.refl _ _⟩
  case round =>
    obtain ⟨k, hk, rfl, hO, hb0⟩ := hrel
    by_cases hlt : k < 16
    · obtain ⟨s, hs⟩ : ∃ s, X.get a k = s := ⟨_, rfl⟩
      obtain ⟨t, ht⟩ : ∃ t, X.get b k = t := ⟨_, rfl⟩
      have hdf : differ X a b k = !(s.toList == t.toList) := by unfold differ; rw [hs, ht]
      have HG1 := Lib.hid (fun w' (h' : RIdxAt w' g X) => refIGet_e w' g K X a k s h' hok ha (HLA.out _) hlt hs)
      have HG2 := Lib.hid (fun w' (h' : RIdxAt w' g X) => refIGet_e w' g K X b k t h' hok hb (HLB.out _) hlt ht)
      have hD := diffUp_succ X a b k
      have hlen := diffUp_len X a b k
      have h1 := h.below hb0
      have i1 : (k : Int) < 16 := by omega
      clear hs ht
      go_wp2_with fail
      ((with_reducible refine (HG1.out _ h1).mono ?_); rintro e w1 ⟨rfl, hb1⟩)
      have h2 := h1.below hb1
      have hO1 := hO.below hb1
      replace hb1 := belowThen hb0 hb1
      clear h1 hO hb0 HG1
      go_wp2_with fail
      ((with_reducible refine (HG2.out _ h2).mono ?_); rintro e w2 ⟨rfl, hb2⟩)
      have hO2 := hO1.below hb2
      replace hb2 := belowThen hb1 hb2
      have hsz := hb2.size
      clear h2 hO1 hb1 HG2
      cases hst : (s.toList == t.toList) with
      | true =>
        rw [hst] at hdf
        rw [hdf] at hD
        have HD := Lib.hid hD
        clear hD hdf
        go_wp2
        go_roundw
        case rel => exact ⟨k + 1, hlt, by go_num, by rw [HD.out]; exact hO2, hb2⟩
        case measure => simp [intOf]; omega
      | false =>
        rw [hst] at hdf
        rw [hdf] at hD
        have HD := Lib.hid hD
        clear hD hdf
        go_wp2_with (at_builtin; refine wpList_append_own _ rfl _ _ 56 rfl w.heap.size 3 i0 (.int .i64 0) 1 8 Try.underlying56 hi hz0 hz1 hz2 rfl (by decide) _ _ _ rfl (World.ownsRow.alloc hO2 _) ⟨w2.heap.size, 0, none⟩ 1 1 [.int .i64 (k : Int)] rfl rfl (cell_one_new _ _ _) (by simp [Value.oneCell']) (by unfold maxLen; omega) (by omega) (by simp; omega) ?_; intro v' w3 hown' hg3 hnil3)
        go_wp2
        go_roundw
        case rel => exact ⟨k + 1, hlt, by go_num, by rw [HD.out]; simp only [Bool.not_false, if_true]; unfold OwnInts; simpa using hown', (hb2.alloc hsz _).grown hg3 (by simp; omega) (fun j hj => (World.ownsRow.lt hO2 j hj).1)⟩
        case measure => simp [intOf]; omega
    · obtain rfl : k = 16 := by omega
      go_wp2
      go_ret
      exact ⟨_, rfl, hO, hb0⟩

theorem refDiffS (w : World) (g K : Nat) (X : IdxM) (a b : Nat) (HR : List Nat) (l : List Int) (n : Nat) (h : RIdxAt w g X) (hok : X.Ok K) (hI : Inv X HR [] []) (ha : a ≤ 24) (hb : b ≤ 24) (ha' : a = 0 ∨ a ∈ HR) (hb' : b = 0 ∨ b ∈ HR) (hl : diffUp X a b 16 = l) (hn : l.length = n) :
    Calls Try.prog 34 #[.pointer (some ⟨g, 0, none⟩), .int .i64 a, .int .i64 b] w (RetS w l n) := by
  subst hl; exact (refDiff_any w g K X a b h hok ha hb (kid_le hI ha') (kid_le hI hb')).mono fun _ _ h => retS_of hn h
end Go.Proofs.Ytmgnikkbakpbdaa
