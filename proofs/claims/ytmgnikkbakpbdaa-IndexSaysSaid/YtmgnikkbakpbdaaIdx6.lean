/- Package index: Diff. -/
import Derived.Test.YtmgnikkbakpbdaaIdx4
namespace Go.Proofs.Ytmgnikkbakpbdaa
open Go.RowKit Go.Maps

/-- Do two roots differ at a place? -/
def differ (X : IdxM) (a b i : Nat) : Bool := !((X.get a i).toList == (X.get b i).toList)
/-- The places below n at which they differ. -/
def diffUp (X : IdxM) (a b n : Nat) : List Int := ((List.range n).filter (differ X a b)).map fun i => ((i : Nat) : Int)
theorem diffUp_succ (X : IdxM) (a b n : Nat) : diffUp X a b (n + 1) = if differ X a b n = true then diffUp X a b n ++ [(n : Int)] else diffUp X a b n := by
  unfold diffUp
  rw [List.range_succ, List.filter_append]
  cases h : differ X a b n <;> simp [h]
theorem diffUp_len (X : IdxM) (a b n : Nat) : (diffUp X a b n).length ≤ n := by
  unfold diffUp
  have := List.length_filter_le (differ X a b) (List.range n)
  simpa using this

theorem OwnInts.below {w w' : World} {base : Nat} {v : Value} {l : List Int} (h : OwnInts w base v l) (hb : Below w.heap.size w w') : OwnInts w' base v l := by
  obtain ⟨h1, h2⟩ := h
  refine ⟨h1, ?_⟩
  rcases h2 with h2 | ⟨g, cap, cur, hv, hg, hh, r⟩
  · exact .inl h2
  · exact .inr ⟨g, cap, cur, hv, hg, (hb.block g (Array.getElem?_eq_some_iff.1 hh).1).trans hh, r⟩

/-- Get, its answer named. -/
theorem idxGet_e (w : World) (x gp bp bn K : Nat) (X : IdxM) (root at_ : Nat) (s : ByteArray) (h : IdxAt w x gp bp bn K X) (hr : root ≤ 1000) (ha : at_ < 16) (hs : X.get root at_ = s) :
    Calls Try.prog 31 #[.pointer (some ⟨x, 0, none⟩), .int .i64 root, .int .i64 at_] w fun e w' => e = .returned (.string s) ∧ Below w.heap.size w w' := by
  subst hs; exact idxGet_any w x gp bp bn K X root at_ h hr ha

set_option maxHeartbeats 1000000 in
set_option maxRecDepth 100000 in
theorem idxDiff_any (w : World) (x gp bp bn K : Nat) (X : IdxM) (a b : Nat) (h : IdxAt w x gp bp bn K X) (ha : a ≤ 1000) (hb : b ≤ 1000) :
    Calls Try.prog 33 #[.pointer (some ⟨x, 0, none⟩), .int .i64 a, .int .i64 b] w (RetInts w (diffUp X a b 16)) := by
  obtain ⟨i0, hi, hz0, hz1, hz2⟩ := info_parts Try.infoInt
  go_enter Try.func33, Try.ntmps33
  go_wp2
  go_loopw [7, 9] (fun v i w' => ∃ k : Nat, k ≤ 16 ∧ i = .int .i64 k ∧ OwnInts w' w.heap.size v (diffUp X a b k) ∧ Below w.heap.size w w') (fun _ i _ => 16 - (intOf i).toNat)
  case atStart => exact ⟨0, Nat.zero_le _, rfl, World.ownsRow_nil _ _ _ _, Below.refl _ _⟩
  case round =>
    obtain ⟨k, hk, rfl, hO, hb0⟩ := hrel
    by_cases hlt : k < 16
    · obtain ⟨s, hs⟩ : ∃ s, X.get a k = s := ⟨_, rfl⟩
      obtain ⟨t, ht⟩ : ∃ t, X.get b k = t := ⟨_, rfl⟩
      have hdf : differ X a b k = !(s.toList == t.toList) := by unfold differ; rw [hs, ht]
      have HG1 := Lib.hid (fun w' (h' : IdxAt w' x gp bp bn K X) => idxGet_e w' x gp bp bn K X a k s h' ha hlt hs)
      have HG2 := Lib.hid (fun w' (h' : IdxAt w' x gp bp bn K X) => idxGet_e w' x gp bp bn K X b k t h' hb hlt ht)
      have hD := diffUp_succ X a b k
      have hlen := diffUp_len X a b k
      have h1 := h.below hb0
      have i1 : (k : Int) < 16 := by omega
      clear hs ht
      go_wp2_with fail
      ((with_reducible refine (HG1.out _ h1).mono ?_); rintro e w1 ⟨rfl, hb1⟩)
      have h2 := h1.below hb1
      have hO1 := hO.below hb1
      replace hb1 := belowThen hb0 hb1
      clear h1 hO hb0 HG1
      go_wp2_with fail
      ((with_reducible refine (HG2.out _ h2).mono ?_); rintro e w2 ⟨rfl, hb2⟩)
      have hO2 := hO1.below hb2
      replace hb2 := belowThen hb1 hb2
      have hsz := hb2.size
      clear h2 hO1 hb1 HG2
      cases hst : (s.toList == t.toList) with
      | true =>
        rw [hst] at hdf
        rw [hdf] at hD
        have HD := Lib.hid hD
        clear hD hdf
        go_wp2
        go_roundw
        case rel => exact ⟨k + 1, hlt, by go_num, by rw [HD.out]; exact hO2, hb2⟩
        case measure => simp [intOf]; omega
      | false =>
        rw [hst] at hdf
        rw [hdf] at hD
        have HD := Lib.hid hD
        clear hD hdf
        go_wp2_with (at_builtin; refine wpList_append_own _ rfl _ _ 56 rfl w.heap.size 3 i0 (.int .i64 0) 1 8 Try.underlying56 hi hz0 hz1 hz2 rfl (by decide) _ _ _ rfl (World.ownsRow.alloc hO2 _) ⟨w2.heap.size, 0, none⟩ 1 1 [.int .i64 (k : Int)] rfl rfl (cell_one_new _ _ _) (by simp [Value.oneCell']) (by unfold maxLen; omega) (by omega) (by simp; omega) ?_; intro v' w3 hown' hg3 hnil3)
        go_wp2
        go_roundw
        case rel => exact ⟨k + 1, hlt, by go_num, by rw [HD.out]; simp only [Bool.not_false, if_true]; unfold OwnInts; simpa using hown', (hb2.alloc hsz _).grown hg3 (by simp; omega) (fun j hj => (World.ownsRow.lt hO2 j hj).1)⟩
        case measure => simp [intOf]; omega
    · obtain rfl : k = 16 := by omega
      go_wp2
      go_ret
      exact ⟨_, rfl, hO, hb0⟩
end Go.Proofs.Ytmgnikkbakpbdaa
