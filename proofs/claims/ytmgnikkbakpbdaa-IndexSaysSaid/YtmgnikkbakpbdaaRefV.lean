/- The reference's index: Nodes, Diff; the empty one. -/
import Derived.Test.YtmgnikkbakpbdaaRefI
import Derived.Test.YtmgnikkbakpbdaaIdx6
namespace Go.Proofs.Ytmgnikkbakpbdaa
open Go.RowKit Go.Maps

theorem NodsAt.lt {w : World} {g : Nat} {N : NodM} (h : NodsAt w g N) : g < w.heap.size := World.block_lt_of_cell? w ⟨g, 82 + 0 * 5 + 4, none⟩ (h.refs 0 (by omega))
theorem zeroIdx_nods : Try.zeroCells36.toList.drop 82 = List.replicate 125 (Value.int .i64 0) := by kernel_rfl
theorem zeroIdx_past (i : Nat) (h1 : 82 ≤ i) (h2 : i < 207) : Try.zeroCells36[i]? = some (.int .i64 0) := by
  have e : Try.zeroCells36[i]? = (Try.zeroCells36.toList.drop 82)[i - 82]? := by
    rw [List.getElem?_drop, show 82 + (i - 82) = i by omega, Array.getElem?_toList]
  rw [e, zeroIdx_nods, List.getElem?_replicate, if_pos (by omega)]
theorem ridx_new (w : World) : RIdxAt (w.alloc (.cells Try.zeroCells36 36)) w.heap.size emptyIdx := by
  refine ⟨blks_new w, fun n i hn hi => ?_, fun n hn => ?_⟩
  · rw [World.cell?_alloc_at _ _ _ _ rfl, zeroIdx_past _ (by omega) (by omega)]
    match i, hi with
    | 0, _ => rfl
    | 1, _ => rfl
    | 2, _ => rfl
    | 3, _ => rfl
  · rw [World.cell?_alloc_at _ _ _ _ rfl, zeroIdx_past _ (by omega) (by omega)]
    rfl

def nodesUp (N : NodM) (k : Nat) : List Int := ((List.range k).map fun i => ((i : Nat) : Int) + 1).filter fun m => (nodMap N m).isSome
theorem nodesUp_succ (N : NodM) (k : Nat) (hk : k < 24) : nodesUp N (k + 1) = nodesUp N k ++ if 0 < (N (k + 1)).refs then [((k + 1 : Nat) : Int)] else [] := by
  unfold nodesUp
  rw [List.range_succ, List.map_append, List.filter_append]
  congr 1
  have e : ((k : Int) + 1) = ((k + 1 : Nat) : Int) := by omega
  have : (nodMap N ((k + 1 : Nat) : Int)).isSome = decide (0 < (N (k + 1)).refs) := by
    rw [nodMap_isSome, Bool.eq_iff_iff, hasNod_iff]
    simp only [Int.toNat_natCast, decide_eq_true_eq]
    omega
  by_cases h : 0 < (N (k + 1)).refs
  · simp only [List.map_cons, List.map_nil, List.filter_cons, List.filter_nil, e, this, h, decide_true, if_true]
  · simp only [List.map_cons, List.map_nil, List.filter_cons, List.filter_nil, e, this, h, decide_false, if_false, Bool.false_eq_true]
theorem nodesUp_all (N : NodM) : nodesUp N 24 = nodsOf N := rfl
theorem nodesUp_len (N : NodM) (k : Nat) : (nodesUp N k).length ≤ k := by
  have := List.length_filter_le (fun m => (nodMap N m).isSome) ((List.range k).map fun i => ((i : Nat) : Int) + 1)
  simpa [nodesUp] using this

set_option maxHeartbeats 1000000 in
set_option maxRecDepth 100000 in
theorem refNodes_any (g : Nat) (w : World) (N : NodM) (h : NodsAt w g N) :
    Calls Try.prog 52 #[.pointer (some ⟨g, 0, none⟩)] w (RetInts w (nodsOf N)) := by
  obtain ⟨i0, hi, hz0, hz1, hz2⟩ := info_parts Try.infoInt
  rw [← nodesUp_all]
  go_enter Try.func52, Try.ntmps52
  go_wp2
  go_loopw [3, 4] (fun v i w' => ∃ k : Nat, k ≤ 24 ∧ i = .int .i64 ((k + 1 : Nat) : Int) ∧ OwnInts w' w.heap.size v (nodesUp N k) ∧ Below w.heap.size w w') (fun _ i _ => 25 - (intOf i).toNat)
  case atStart => exact ⟨0, Nat.zero_le _, rfl, World.ownsRow_nil _ _ _ _, Below.refl _ _⟩
  case round =>
    obtain ⟨k, hk, rfl, hO, hb0⟩ := hrel
    by_cases hlt : k < 24
    · have hB := h.keep (hb0.block g (h.lt))
      have hD := nodesUp_succ N k hlt
      have hlen := nodesUp_len N k
      obtain ⟨n, hn⟩ : ∃ n, k + 1 = n := ⟨_, rfl⟩
      have HN := Lib.hid hn
      rw [hn] at hD ⊢
      have c1 := hB.refs n (by omega)
      have i1 : (0 : Int) ≤ (n : Int) := by omega
      have i2 : (n : Int) < 25 := by omega
      have i4 : (n : Int) ≤ 24 := by omega
      have hsz := hb0.size
      by_cases hu : 0 < (N n).refs
      · rw [if_pos hu] at hD
        have HD := Lib.hid hD
        clear hD hn
        go_wp2_with (at_builtin; refine wpList_append_own _ rfl _ _ 56 rfl w.heap.size 3 i0 (.int .i64 0) 1 8 Try.underlying56 hi hz0 hz1 hz2 rfl (by decide) _ _ _ rfl (World.ownsRow.alloc hO _) ⟨wr.heap.size, 0, none⟩ 1 1 [.int .i64 (n : Int)] rfl rfl (cell_one_new _ _ _) (by simp [Value.oneCell']) (by unfold maxLen; omega) (by omega) (by simp; omega) ?_; intro v' w3 hown' hg3 hnil3)
        go_wp2
        go_roundw
        case rel => exact ⟨k + 1, hlt, by have := HN.out; subst this; go_num, by rw [HN.out, HD.out]; unfold OwnInts; simpa using hown', (hb0.alloc hsz _).grown hg3 (by simp; omega) (fun j hj => (World.ownsRow.lt hO j hj).1)⟩
        case measure => have := HN.out; simp [intOf]; omega
      · rw [if_neg hu, List.append_nil] at hD
        have HD := Lib.hid hD
        have i3 : decide (0 < (N n).refs) = false := by simpa using hu
        clear hD hn
        go_wp2
        go_roundw
        case rel => exact ⟨k + 1, hlt, by have := HN.out; subst this; go_num, by rw [HN.out, HD.out]; exact hO, hb0⟩
        case measure => have := HN.out; simp [intOf]; omega
    · obtain rfl : k = 24 := by omega
      go_wp2
      go_ret
      exact ⟨_, rfl, hO, hb0⟩

/-- Get, its answer named. -/
theorem refIGet_e (w : World) (g K : Nat) (X : IdxM) (root at_ : Nat) (s : ByteArray) (h : RIdxAt w g X) (hok : X.Ok K) (hr : root ≤ 24) (hl : (X.N root).kid (at_ / 4) ≤ 24) (ha : at_ < 16) (hs : X.get root at_ = s) :
    Calls Try.prog 32 #[.pointer (some ⟨g, 0, none⟩), .int .i64 root, .int .i64 at_] w fun e w' => e = .returned (.string s) ∧ Below w.heap.size w w' := by
  subst hs; exact refIGet_any w g K X root at_ h hok hr hl ha

end Go.Proofs.Ytmgnikkbakpbdaa
