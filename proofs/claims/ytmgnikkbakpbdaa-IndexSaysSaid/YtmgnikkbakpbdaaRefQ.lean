/- The reference's index: PutBlock, Blocks; and same. -/
import Derived.Test.YtmgnikkbakpbdaaRefP
import Derived.Test.YtmgnikkbakpbdaaSaid
namespace Go.Proofs.Ytmgnikkbakpbdaa
open Go.RowKit Go.Maps

/-- What PutBlock leaves. -/
def PutRet (g : Nat) (q : PoolM) (w w' : World) : Prop := BlksAt w' g q ∧ Turn [g] w w' ∧ Past g w w'

set_option maxHeartbeats 1000000 in
set_option maxRecDepth 100000 in
theorem refPut_any (g : Nat) (w : World) (p : PoolM) (data : ByteArray) (h : BlksAt w g p) (hdata : data.size ≤ 9223372036854775807) :
    Calls Try.prog 10 #[.pointer (some ⟨g, 0, none⟩), .string data] w fun e w' => e = .returned (.tuple #[.int .i64 (putId p data), .int .i64 (putErr p data)]) ∧ PutRet g (putP p data) w w' := by
  by_cases hd0 : data.size = 0
  · obtain rfl : data = ByteArray.empty := by
      apply ByteArray.ext
      exact Array.eq_empty_of_size_eq_zero hd0
    have he : putErr p ByteArray.empty = 3 := rfl
    rw [show putId p ByteArray.empty = 0 by unfold putId; rw [he]; rfl, show putP p ByteArray.empty = p by unfold putP; rw [he]; rfl, he]
    go_enter Try.func10, Try.ntmps10
    go_wp2
    go_ret2
    exact ⟨rfl, h, Turn.refl _ _, Past.refl _ _⟩
  have hne := notEmpty hd0
  by_cases hd6 : 6 < data.size
  · have he : putErr p data = 3 := by unfold putErr; rw [if_pos (Or.inr hd6)]
    rw [show putId p data = 0 by unfold putId; rw [he]; rfl, show putP p data = p by unfold putP; rw [he]; rfl, he]
    clear he
    go_enter Try.func10, Try.ntmps10
    go_wp2
    all_goals
      go_ret2
      exact ⟨rfl, h, Turn.refl _ _, Past.refl _ _⟩
  have hd7 : decide (6 < (data.size : Int)) = false := by simp; omega
  cases hff : firstFree 40 (usedBlk p) with
  | none =>
    have he : putErr p data = 8 := by unfold putErr; rw [if_neg (by omega), if_pos hff]
    rw [show putId p data = 0 by unfold putId; rw [he]; rfl, show putP p data = p by unfold putP; rw [he]; rfl, he]
    have HU := Lib.hid (firstFree_none hff)
    clear he hff
    go_enter Try.func10, Try.ntmps10
    go_wp2
    go_loopw [6] (fun i wr => ∃ k : Nat, 1 ≤ k ∧ k ≤ 41 ∧ i = .int .i64 k ∧ wr = w) (fun i _ => 41 - (intOf i).toNat)
    case atStart => exact ⟨1, Nat.le_refl _, by omega, rfl, rfl⟩
    case round =>
      obtain ⟨k, hk1, hk, rfl, rfl⟩ := hrel
      by_cases hlt : k ≤ 40
      · have c1 := h.refs k hlt
        have hu : (p k).refs ≠ 0 := by have := HU.out k hk1 hlt; simpa [usedBlk] using this
        have i1 : (0 : Int) ≤ (k : Int) := by omega
        have i2 : (k : Int) < 41 := by omega
        have i3 : (((p k).refs : Int) == 0) = false := by simpa using hu
        have i4 : (k : Int) ≤ 40 := by omega
        clear hu
        go_wp2
        go_roundw
        case rel => exact ⟨k + 1, by omega, by omega, by go_num, trivial⟩
        case measure => simp [intOf]; omega
      · obtain rfl : k = 41 := by omega
        go_wp2
        go_ret2
        exact ⟨rfl, h, Turn.refl _ _, Past.refl _ _⟩
  | some m =>
    have he : putErr p data = 0 := by unfold putErr; rw [if_neg (by omega), if_neg (by simp [hff])]
    have hid : putId p data = m := by unfold putId; rw [he, hff]; rfl
    rw [show putP p data = setBlk p m ⟨data, 1⟩ by unfold putP; rw [he, hid]; rfl, hid, he]
    obtain ⟨m1, m2, m3, m4⟩ := firstFree_some hff
    have HU := Lib.hid m4
    have H0 := Lib.hid m3
    clear he hff hid m3 m4
    go_enter Try.func10, Try.ntmps10
    go_wp2
    go_loopw [6] (fun i wr => ∃ k : Nat, 1 ≤ k ∧ k ≤ m ∧ i = .int .i64 k ∧ wr = w) (fun i _ => 41 - (intOf i).toNat)
    case atStart => exact ⟨1, Nat.le_refl _, by omega, rfl, rfl⟩
    case round =>
      obtain ⟨k, hk1, hk, rfl, rfl⟩ := hrel
      have hk40 : k ≤ 40 := by omega
      have c1 := h.refs k hk40
      have i1 : (0 : Int) ≤ (k : Int) := by omega
      have i2 : (k : Int) < 41 := by omega
      have i4 : (k : Int) ≤ 40 := by omega
      by_cases hlt : k < m
      · have hu : (p k).refs ≠ 0 := by have := HU.out k hk1 hlt; simpa [usedBlk] using this
        have i3 : (((p k).refs : Int) == 0) = false := by simpa using hu
        clear hu
        go_wp2
        go_roundw
        case rel => exact ⟨k + 1, by omega, by omega, by go_num, trivial⟩
        case measure => simp [intOf]; omega
      · obtain rfl : k = m := by omega
        have hu : (p k).refs = 0 := by have := H0.out; simpa [usedBlk] using this
        have i3 : (((p k).refs : Int) == 0) = true := by simpa using hu
        have c2 := h.data k hk40
        have f1 := h.free (k * 2 + 1)
        have f2 := h.free (k * 2)
        have h4 := h.set hk40 ⟨data, 1⟩
        have t4 := ((Turn.refl [g] wr).cell (p := ⟨g, k * 2, none⟩) (by simp) (.string data)).cell (p := ⟨g, k * 2 + 1, none⟩) (by simp) (.int .i64 1)
        clear hu
        go_wp2
        go_ret2
        exact ⟨rfl, h4, t4, ((Past.refl g wr).cell (show k * 2 < 82 by omega) _).cell (show k * 2 + 1 < 82 by omega) _⟩

def blocksUp (p : PoolM) (k : Nat) : List Int := ((List.range k).map fun i => ((i : Nat) : Int) + 1).filter fun m => (poolMap p m).isSome
theorem blocksUp_succ (p : PoolM) (k : Nat) (hk : k < 40) : blocksUp p (k + 1) = blocksUp p k ++ if 0 < (p (k + 1)).refs then [((k + 1 : Nat) : Int)] else [] := by
  unfold blocksUp
  rw [List.range_succ, List.map_append, List.filter_append]
  congr 1
  have e : ((k : Int) + 1) = ((k + 1 : Nat) : Int) := by omega
  have : (poolMap p ((k + 1 : Nat) : Int)).isSome = decide (0 < (p (k + 1)).refs) := by
    rw [poolMap_isSome, Bool.eq_iff_iff, hasBlk_iff]
    simp only [Int.toNat_natCast, decide_eq_true_eq]
    omega
  by_cases h : 0 < (p (k + 1)).refs
  · simp only [List.map_cons, List.map_nil, List.filter_cons, List.filter_nil, e, this, h, decide_true, if_true]
  · simp only [List.map_cons, List.map_nil, List.filter_cons, List.filter_nil, e, this, h, decide_false, if_false, Bool.false_eq_true]
theorem blocksUp_all (p : PoolM) : blocksUp p 40 = numsOf p := rfl
theorem blocksUp_len (p : PoolM) (k : Nat) : (blocksUp p k).length ≤ k := by
  have := List.length_filter_le (fun m => (poolMap p m).isSome) ((List.range k).map fun i => ((i : Nat) : Int) + 1)
  simpa [blocksUp] using this

set_option maxHeartbeats 1000000 in
set_option maxRecDepth 100000 in
theorem refBlocks_any (g : Nat) (w : World) (p : PoolM) (h : BlksAt w g p) :
    Calls Try.prog 20 #[.pointer (some ⟨g, 0, none⟩)] w (RetInts w (numsOf p)) := by
  obtain ⟨i0, hi, hz0, hz1, hz2⟩ := info_parts Try.infoInt
  rw [← blocksUp_all]
  go_enter Try.func20, Try.ntmps20
  go_wp2
  go_loopw [3, 4] (fun v i w' => ∃ k : Nat, k ≤ 40 ∧ i = .int .i64 ((k + 1 : Nat) : Int) ∧ OwnInts w' w.heap.size v (blocksUp p k) ∧ Below w.heap.size w w') (fun _ i _ => 41 - (intOf i).toNat)
  case atStart => exact ⟨0, Nat.zero_le _, rfl, World.ownsRow_nil _ _ _ _, Below.refl _ _⟩
  case round =>
    obtain ⟨k, hk, rfl, hO, hb0⟩ := hrel
    by_cases hlt : k < 40
    · have hB := h.below hb0
      have hD := blocksUp_succ p k hlt
      have hlen := blocksUp_len p k
      obtain ⟨n, hn⟩ : ∃ n, k + 1 = n := ⟨_, rfl⟩
      have HN := Lib.hid hn
      rw [hn] at hD ⊢
      have c1 := hB.refs n (by omega)
      have i1 : (0 : Int) ≤ (n : Int) := by omega
      have i2 : (n : Int) < 41 := by omega
      have i4 : (n : Int) ≤ 40 := by omega
      have hsz := hb0.size
      by_cases hu : 0 < (p n).refs
      · rw [if_pos hu] at hD
        have HD := Lib.hid hD
        clear hD hn
        go_wp2_with (at_builtin; refine wpList_append_own _ rfl _ _ 56 rfl w.heap.size 3 i0 (.int .i64 0) 1 8 Try.underlying56 hi hz0 hz1 hz2 rfl (by decide) _ _ _ rfl (World.ownsRow.alloc hO _) ⟨wr.heap.size, 0, none⟩ 1 1 [.int .i64 (n : Int)] rfl rfl (cell_one_new _ _ _) (by simp [Value.oneCell']) (by unfold maxLen; omega) (by omega) (by simp; omega) ?_; intro v' w3 hown' hg3 hnil3)
        go_wp2
        go_roundw
        case rel => exact ⟨k + 1, hlt, by have := HN.out; subst this; go_num, by rw [HN.out, HD.out]; unfold OwnInts; simpa using hown', (hb0.alloc hsz _).grown hg3 (by simp; omega) (fun j hj => (World.ownsRow.lt hO j hj).1)⟩
        case measure => have := HN.out; simp [intOf]; omega
      · rw [if_neg hu, List.append_nil] at hD
        have HD := Lib.hid hD
        have i3 : decide (0 < (p n).refs) = false := by simpa using hu
        clear hD hn
        go_wp2
        go_roundw
        case rel => exact ⟨k + 1, hlt, by have := HN.out; subst this; go_num, by rw [HN.out, HD.out]; exact hO, hb0⟩
        case measure => have := HN.out; simp [intOf]; omega
    · obtain rfl : k = 40 := by omega
      go_wp2
      go_ret
      exact ⟨_, rfl, hO, hb0⟩

end Go.Proofs.Ytmgnikkbakpbdaa
