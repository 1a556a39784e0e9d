/- asIndex: an index has what its model has. -/
import Derived.Test.YtkjnipjomfbalaaZqRefI
import Derived.Test.YtkjnipjomfbalaaZqOpenB
import Derived.Test.YtkjnipjomfbalaaZqEq4
/- The reference's index: Nodes, Diff; the empty one. -/
namespace Go.Proofs.Ytkjnipjomfbalaa
open Go.RowKit Go.Maps

theorem NodsAt.lt {w : World} {g : Nat} {N : NodM} (h : NodsAt w g N) : g < w.heap.size := World.block_lt_of_cell? w ⟨g, 82 + 0 * 5 + 4, none⟩ (h.refs 0 (by omega))
theorem zeroIdx_nods : Try.zeroCells72.toList.drop 82 = List.replicate 125 (Value.int .i64 0) := by kernel_rfl
theorem zeroIdx_past (i : Nat) (h1 : 82 ≤ i) (h2 : i < 207) : Try.zeroCells72[i]? = some (.int .i64 0) := by
  have e : Try.zeroCells72[i]? = (Try.zeroCells72.toList.drop 82)[i - 82]? := by
    rw [List.getElem?_drop, show 82 + (i - 82) = i by omega, Array.getElem?_toList]
  rw [e, zeroIdx_nods, List.getElem?_replicate, if_pos (by omega)]
theorem ridx_new (w : World) : RIdxAt (w.alloc (.cells Try.zeroCells72 72)) w.heap.size emptyIdx := by
  refine ⟨blks_new w, fun n i hn hi => ?_, fun n hn => ?_⟩
  · rw [World.cell?_alloc_at _ _ _ _ rfl, zeroIdx_past _ (by omega) (by omega)]
    match i, hi with
    | 0, _ => rfl
    | 1, _ => rfl
    | 2, _ => rfl
    | 3, _ => rfl
  · rw [World.cell?_alloc_at _ _ _ _ rfl, zeroIdx_past _ (by omega) (by omega)]
    rfl

def nodesUp (N : NodM) (k : Nat) : List Int := ((List.range k).map fun i => ((i : Nat) : Int) + 1).filter fun m => (nodMap N m).isSome
theorem nodesUp_succ (N : NodM) (k : Nat) (hk : k < 24) : nodesUp N (k + 1) = nodesUp N k ++ if 0 < (N (k + 1)).refs then [((k + 1 : Nat) : Int)] else [] := by
  unfold nodesUp
  rw [List.range_succ, List.map_append, List.filter_append]
  congr 1
  have e : ((k : Int) + 1) = ((k + 1 : Nat) : Int) := by omega
  have : (nodMap N ((k + 1 : Nat) : Int)).isSome = decide (0 < (N (k + 1)).refs) := by
    rw [nodMap_isSome, Bool.eq_iff_iff, hasNod_iff]
    simp only [Int.toNat_natCast, decide_eq_true_eq]
    omega
  by_cases h : 0 < (N (k + 1)).refs
  · simp only [List.map_cons, List.map_nil, List.filter_cons, List.filter_nil, e, this, h, decide_true, if_true]
  · simp only [List.map_cons, List.map_nil, List.filter_cons, List.filter_nil, e, this, h, decide_false, if_false, Bool.false_eq_true]
theorem nodesUp_all (N : NodM) : nodesUp N 24 = nodsOf N := rfl
theorem nodesUp_len (N : NodM) (k : Nat) : (nodesUp N k).length ≤ k := by
  have := List.length_filter_le (fun m => (nodMap N m).isSome) ((List.range k).map fun i => ((i : Nat) : Int) + 1)
  simpa [nodesUp] using this

set_option maxHeartbeats 1000000 in
set_option maxRecDepth 100000 in
theorem refNodes_any (g : Nat) (w : World) (N : NodM) (h : NodsAt w g N) :
    Calls Try.prog 52 #[.pointer (some ⟨g, 0, none⟩)] w (RetInts w (nodsOf N)) := by
  obtain ⟨i0, hi, hz0, hz1, hz2⟩ := info_parts Try.infoInt
  rw [← nodesUp_all]
  go_enter Try.func52, Try.ntmps52
  go_wp2
  go_loopw [3, 4] (fun v i w' => ∃ k : Nat, k ≤ 24 ∧ i = .int .i64 ((k + 1 : Nat) : Int) ∧ OwnInts w' w.heap.size v (nodesUp N k) ∧ Below w.heap.size w w') (fun _ i _ => 25 - (intOf i).toNat)
  case atStart => exact ⟨0, Nat.zero_le _, rfl, World.ownsRow_nil _ _ _ _, Below.refl _ _⟩
  case round =>
    obtain ⟨k, hk, rfl, hO, hb0⟩ := hrel
    by_cases hlt : k < 24
    · have hB := h.keep (hb0.block g (h.lt))
      have hD := nodesUp_succ N k hlt
      have hlen := nodesUp_len N k
      obtain ⟨n, hn⟩ : ∃ n, k + 1 = n := ⟨_, rfl⟩
      have HN := Lib.hid hn
      rw [hn] at hD ⊢
      have c1 := hB.refs n (by omega)
      have i1 : (0 : Int) ≤ (n : Int) := by omega
      have i2 : (n : Int) < 25 := by omega
      have i4 : (n : Int) ≤ 24 := by omega
      have hsz := hb0.size
      by_cases hu : 0 < (N n).refs
      · rw [if_pos hu] at hD
        have HD := Lib.hid hD
        clear hD hn
        go_wp2_with (at_builtin; refine wpList_append_own _ rfl _ _ 51 rfl w.heap.size 3 i0 (.int .i64 0) 1 8 Try.underlying51 hi hz0 hz1 hz2 rfl (by decide) _ _ _ rfl (World.ownsRow.alloc hO _) ⟨wr.heap.size, 0, none⟩ 1 1 [.int .i64 (n : Int)] rfl rfl (cell_one_new _ _ _) (by simp [Value.oneCell']) (by unfold maxLen; omega) (by omega) (by simp; omega) ?_; intro v' w3 hown' hg3 hnil3)
        go_wp2
        go_roundw
        case rel => exact ⟨k + 1, hlt, by have := HN.out; subst this; go_num, by rw [HN.out, HD.out]; unfold OwnInts; simpa using hown', (hb0.alloc hsz _).grown hg3 (by simp; omega) (fun j hj => (World.ownsRow.lt hO j hj).1)⟩
        case measure => have := HN.out; simp [intOf]; omega
      · rw [if_neg hu, List.append_nil] at hD
        have HD := Lib.hid hD
        have i3 : decide (0 < (N n).refs) = false := by simpa using hu
        clear hD hn
        go_wp2
        go_roundw
        case rel => exact ⟨k + 1, hlt, by have := HN.out; subst this; go_num, by rw [HN.out, HD.out]; exact hO, hb0⟩
        case measure => have := HN.out; simp [intOf]; omega
    · obtain rfl : k = 24 := by omega
      go_wp2
      go_ret
      exact ⟨_, rfl, hO, hb0⟩

/-- Get, its answer named. -/
theorem refIGet_e (w : World) (g K : Nat) (X : IdxM) (root at_ : Nat) (s : ByteArray) (h : RIdxAt w g X) (hok : X.Ok K) (hr : root ≤ 24) (hl : (X.N root).kid (at_ / 4) ≤ 24) (ha : at_ < 16) (hs : X.get root at_ = s) :
    Calls Try.prog 34 #[.pointer (some ⟨g, 0, none⟩), .int .i64 root, .int .i64 at_] w fun e w' => e = .returned (.string s) ∧ Below w.heap.size w w' := by
  subst hs; exact refIGet_any w g K X root at_ h hok hr hl ha

end Go.Proofs.Ytkjnipjomfbalaa

/- asIndex: an index has what its model has. -/
namespace Go.Proofs.Ytkjnipjomfbalaa
open Go.RowKit Go.Maps

theorem idxNumbersS (w : World) (x gp bp bn K : Nat) (X : IdxM) (l : List Int) (n : Nat) (h : IdxAt w x gp bp bn K X) (hl : nodsOf X.N = l) (hn : l.length = n) : Calls Try.prog 51 #[.pointer (some ⟨x, 0, none⟩)] w (RetS w l n) := by
  subst hl; exact (idxNumbers_any w x gp bp bn K X h).mono fun _ _ h => retS_of hn h
theorem nodesS (g : Nat) (w : World) (N : NodM) (l : List Int) (n : Nat) (h : NodsAt w g N) (hl : nodsOf N = l) (hn : l.length = n) : Calls Try.prog 52 #[.pointer (some ⟨g, 0, none⟩)] w (RetS w l n) := by
  subst hl; exact (refNodes_any g w N h).mono fun _ _ h => retS_of hn h

theorem equal4_self (a b c d : Int) (w : World) : (Op.equalIn 9999 67 (.agg #[.int .i64 a, .int .i64 b, .int .i64 c, .int .i64 d]) (.agg #[.int .i64 a, .int .i64 b, .int .i64 c, .int .i64 d])).run Try.prog w = .ok true w := by
  have := equal_ints (P := Try.prog) w 9997 67 3 4 Try.underlying67 Try.underlying3 Try.sizeOf3 [a, b, c, d] [a, b, c, d] rfl rfl
  simp only [List.map] at this
  rw [this]
  simp

set_option maxHeartbeats 4000000 in
set_option maxRecDepth 100000 in
theorem asIndex_yes (w : World) (x gp bp bn K gm : Nat) (X : IdxM) (h : IdxAt w x gp bp bn K X) (hm : RIdxAt w gm X) :
    Calls Try.prog 31 #[.pointer (some ⟨x, 0, none⟩), .pointer (some ⟨gm, 0, none⟩)] w fun e w' => e = .returned (.bool true) ∧ Below w.heap.size w w' := by
  obtain ⟨L, hL⟩ : ∃ L, numsOf X.P = L := ⟨_, rfl⟩
  obtain ⟨M, hM⟩ : ∃ M, nodsOf X.N = M := ⟨_, rfl⟩
  obtain ⟨n, hn⟩ : ∃ n, L.length = n := ⟨_, rfl⟩
  obtain ⟨m, hmm⟩ : ∃ m, M.length = m := ⟨_, rfl⟩
  have hn40 : n ≤ 40 := by rw [← hn, ← hL]; exact keysOf_le _ _
  have hm24 : m ≤ 24 := by rw [← hmm, ← hM]; exact keysOf_le _ _
  have HL := Lib.hid hL
  have HM := Lib.hid hM
  have HN := Lib.hid hn
  have HMM := Lib.hid hmm
  have HP1 := Lib.hid (fun w' (h' : IdxAt w' x gp bp bn K X) => numbersS gp bp K w' X.P L n h'.pool hL hn)
  have HP2 := Lib.hid (fun w' (h' : RIdxAt w' gm X) => blocksS gm w' X.P L n h'.blks hL hn)
  have HN1 := Lib.hid (fun w' (h' : IdxAt w' x gp bp bn K X) => idxNumbersS w' x gp bp bn K X M m h' hM hmm)
  have HN2 := Lib.hid (fun w' (h' : RIdxAt w' gm X) => nodesS gm w' X.N M m h'.nods hM hmm)
  have c0 := h.cell0
  clear hL hM hn hmm
  go_enter Try.func31, Try.ntmps31
  go_wp2_with fail
  ((with_reducible refine (HP1.out _ h).mono ?_); rintro e w1 ⟨A1, c1, rfl, hA1, hb1⟩)
  replace h := h.below hb1
  replace hm := hm.below hb1
  clear c0
  go_wp2_with fail
  ((with_reducible refine (HP2.out _ hm).mono ?_); rintro e w2 ⟨A2, c2, rfl, hA2, hb2⟩)
  replace h := h.below hb2
  replace hm := hm.below hb2
  have hA3 := hA1.below hb2
  replace hb2 := belowThen hb1 hb2
  clear hb1 hA1
  go_wp2_with fail
  ((with_reducible refine (sameS A1 A2 c1 c2 n L _ hA3 hA2 HN.out (by omega)).mono ?_); rintro e w3 ⟨rfl, hb3⟩)
  replace h := h.below hb3
  replace hm := hm.below hb3
  replace hb3 := belowThen hb2 hb3
  clear hb2 hA3 hA2
  go_wp2_with fail
  ((with_reducible refine (HN1.out _ h).mono ?_); rintro e w4 ⟨A4, c4, rfl, hA4, hb4⟩)
  replace h := h.below hb4
  replace hm := hm.below hb4
  replace hb4 := belowThen hb3 hb4
  clear hb3
  go_wp2_with fail
  ((with_reducible refine (HN2.out _ hm).mono ?_); rintro e w5 ⟨A5, c5, rfl, hA5, hb5⟩)
  replace h := h.below hb5
  replace hm := hm.below hb5
  have hA6 := hA4.below hb5
  replace hb5 := belowThen hb4 hb5
  clear hb4 hA4
  go_wp2_with fail
  ((with_reducible refine (sameS A4 A5 c4 c5 m M _ hA6 hA5 HMM.out (by omega)).mono ?_); rintro e w6 ⟨rfl, hb6⟩)
  replace h := h.below hb6
  replace hm := hm.below hb6
  replace hb6 := belowThen hb5 hb6
  clear hb5 hA5 hA6
  go_wp2_with fail
  ((with_reducible refine (HP2.out _ hm).mono ?_); rintro e w7 ⟨A7, c7, rfl, hA7, hb7⟩)
  replace h := h.below hb7
  replace hm := hm.below hb7
  replace hb7 := belowThen hb6 hb7
  clear hb6
  go_wp2
  go_loopw [6] (fun i w' => ∃ j : Nat, j ≤ n ∧ i = .int .i64 j ∧ IdxAt w' x gp bp bn K X ∧ RIdxAt w' gm X ∧ IntsAt w' A7 L ∧ Below w.heap.size w w') (fun i _ => n - (intOf i).toNat)
  case atStart => exact ⟨0, Nat.zero_le _, rfl, h, hm, hA7, hb7⟩
  case round =>
    obtain ⟨j, hj, rfl, hX, hR, hA, hb⟩ := hrel
    clear h hm hA7 hb7
    by_cases hjn : j < n
    · have hjL : j < L.length := by rw [HN.out]; exact hjn
      obtain ⟨gn, on, rfl, cj⟩ := hA j hjL
      obtain ⟨v, hv⟩ : ∃ v, L[j] = v := ⟨_, rfl⟩
      have hxm : v ∈ numsOf X.P := by rw [HL.out, ← hv]; exact List.getElem_mem hjL
      have hxs : hasBlk X.P v = true := by rw [← poolMap_isSome]; exact (List.mem_filter.1 hxm).2
      obtain ⟨x1, x2, _⟩ := (hasBlk_iff X.P v).1 hxs
      obtain ⟨y, rfl⟩ := Int.eq_ofNat_of_zero_le (show 0 ≤ v by omega)
      rw [hv] at cj
      have hlook : ∀ z : Value, (poolMap X.P y).getD z = .agg #[.string (X.P y).data, .int .i64 (X.P y).refs] := fun z => by
        unfold poolMap
        rw [if_pos hxs]
        rfl
      have HLK := Lib.hid hlook
      have y1 : (0 : Int) ≤ (y : Int) := by omega
      have y2 : (y : Int) < 41 := by omega
      have j1 : (j : Int) < (n : Int) := by omega
      have hy40 : y ≤ 40 := by omega
      clear hlook hxm hxs hv hjL
      go_wp2_with fail
      refine region_tail 21 (by kernel_rfl) (by kernel_rfl) ?_
      intro w13 hw13
      have hX13 : IdxAt w13 x gp bp bn K X := by rw [hw13]; exact hX.below (Below.refl _ _).drew
      have hR13 : RIdxAt w13 gm X := by rw [hw13]; exact hR.keep rfl
      have hA13 : IntsAt w13 (some ⟨gn, on, none⟩) L := by rw [hw13]; exact hA.below (Below.refl _ _).drew
      have c13 : w13.cell? ⟨gn, on + j, none⟩ = some (.int .i64 y) := by rw [hw13]; exact cj
      have hb13 : Below w.heap.size w w13 := by rw [hw13]; exact hb.drew
      have k0 := hX13.cell0
      have k1 := hX13.pool.cell
      have k2 := hR13.blks.data y hy40
      have k3 := hR13.blks.refs y hy40
      have hlk : (Instr.lookup 101 (.map (some bp)) (.int .i64 y) false).run Try.prog w13 = .ok (.agg #[.string (X.P y).data, .int .i64 (X.P y).refs]) w13 := by
        rw [hX13.pool.map.look Try.underlying101 (Try.zeroBlock _) (by omega), HLK.out]
      clear hw13 hX hR hA cj hb
      simp only [List.take_succ_cons, List.take_zero, List.drop_succ_cons, List.drop_zero]
      repeat still_step
      refine wpStill_nil ?_
      go_wp2
      go_roundw
      case rel => exact ⟨j + 1, hjn, by go_num, hX13, hR13, hA13, hb13⟩
      case measure => simp [intOf]; omega
    · go_wp2_with fail
      ((with_reducible refine (HN2.out _ hR).mono ?_); rintro e w8 ⟨A8, c8, rfl, hA8, hb8⟩)
      replace hX := hX.below hb8
      replace hR := hR.below hb8
      replace hb8 := belowThen hb hb8
      clear hb hA
      go_wp2
      go_loopw [8] (fun i w' => ∃ j : Nat, j ≤ m ∧ i = .int .i64 j ∧ IdxAt w' x gp bp bn K X ∧ RIdxAt w' gm X ∧ IntsAt w' A8 M ∧ Below w.heap.size w w') (fun i _ => m - (intOf i).toNat)
      case atStart => exact ⟨0, Nat.zero_le _, rfl, hX, hR, hA8, hb8⟩
      case round =>
        obtain ⟨i, hi, rfl, hX9, hR9, hA9, hb9⟩ := hrel
        clear hX hR hA8 hb8
        by_cases him : i < m
        · have hjL : i < M.length := by rw [HMM.out]; exact him
          obtain ⟨gn, on, rfl, cj⟩ := hA9 i hjL
          obtain ⟨v, hv⟩ : ∃ v, M[i] = v := ⟨_, rfl⟩
          have hxm : v ∈ nodsOf X.N := by rw [HM.out, ← hv]; exact List.getElem_mem hjL
          have hxs : hasNod X.N v = true := by rw [← nodMap_isSome]; exact (List.mem_filter.1 hxm).2
          obtain ⟨x1, x2, _⟩ := (hasNod_iff X.N v).1 hxs
          obtain ⟨y, rfl⟩ := Int.eq_ofNat_of_zero_le (show 0 ≤ v by omega)
          rw [hv] at cj
          have y1 : (0 : Int) ≤ (y : Int) := by omega
          have y2 : (y : Int) < 25 := by omega
          have j1 : (i : Int) < (m : Int) := by omega
          have hy24 : y ≤ 24 := by omega
          clear hxm hxs hv hjL
          go_wp2_with fail
          refine region_tail 18 (by kernel_rfl) (by kernel_rfl) ?_
          intro w13 hw13
          have hX13 : IdxAt w13 x gp bp bn K X := by rw [hw13]; exact hX9.below (Below.refl _ _).drew
          have hR13 : RIdxAt w13 gm X := by rw [hw13]; exact hR9.keep rfl
          have hA13 : IntsAt w13 (some ⟨gn, on, none⟩) M := by rw [hw13]; exact hA9.below (Below.refl _ _).drew
          have c13 : w13.cell? ⟨gn, on + i, none⟩ = some (.int .i64 y) := by rw [hw13]; exact cj
          have hb13 : Below w.heap.size w w13 := by rw [hw13]; exact hb9.drew
          have k1 := hX13.cell1
          have e0 : w13.cell? ⟨gm, 82 + y * 5, none⟩ = some (.int .i64 (X.N y).k0) := hR13.nods.kid y 0 hy24 (by omega)
          have e1 : w13.cell? ⟨gm, 82 + y * 5 + 1, none⟩ = some (.int .i64 (X.N y).k1) := hR13.nods.kid y 1 hy24 (by omega)
          have e2 : w13.cell? ⟨gm, 82 + y * 5 + 2, none⟩ = some (.int .i64 (X.N y).k2) := hR13.nods.kid y 2 hy24 (by omega)
          have e3 : w13.cell? ⟨gm, 82 + y * 5 + 3, none⟩ = some (.int .i64 (X.N y).k3) := hR13.nods.kid y 3 hy24 (by omega)
          have e4 := hR13.nods.refs y hy24
          have hlk : (Instr.lookup 92 (.map (some bn)) (.int .i64 y) false).run Try.prog w13 = .ok (.agg #[.int .i64 (X.N y).k0, .int .i64 (X.N y).k1, .int .i64 (X.N y).k2, .int .i64 (X.N y).k3, .int .i64 (X.N y).refs]) w13 := by
            rw [hX13.map.look Try.underlying92 (Try.zeroNode _) (by omega), nodMap_get hX13.ok]
            rfl
          have heq := equal4_self (X.N y).k0 (X.N y).k1 (X.N y).k2 (X.N y).k3 w13
          clear hw13 hX9 hR9 hA9 cj hb9
          simp only [List.take_succ_cons, List.take_zero, List.drop_succ_cons, List.drop_zero]
          repeat still_step
          refine wpStill_nil ?_
          go_wp2
          go_roundw
          case rel => exact ⟨i + 1, him, by go_num, hX13, hR13, hA13, hb13⟩
          case measure => simp [intOf]; omega
        · go_wp2
          go_ret
          exact ⟨rfl, hb9⟩
end Go.Proofs.Ytkjnipjomfbalaa
