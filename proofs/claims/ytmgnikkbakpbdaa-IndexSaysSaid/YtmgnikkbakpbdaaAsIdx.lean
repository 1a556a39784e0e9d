/- asIndex: an index has what its model has. -/
import Derived.Test.YtmgnikkbakpbdaaRefV
import Derived.Test.YtmgnikkbakpbdaaIdx1
import Derived.Test.YtmgnikkbakpbdaaEq4
namespace Go.Proofs.Ytmgnikkbakpbdaa
open Go.RowKit Go.Maps

theorem idxNumbersS (w : World) (x gp bp bn K : Nat) (X : IdxM) (l : List Int) (n : Nat) (h : IdxAt w x gp bp bn K X) (hl : nodsOf X.N = l) (hn : l.length = n) : Calls Try.prog 51 #[.pointer (some ⟨x, 0, none⟩)] w (RetS w l n) := by
  subst hl; exact (idxNumbers_any w x gp bp bn K X h).mono fun _ _ h => retS_of hn h
theorem nodesS (g : Nat) (w : World) (N : NodM) (l : List Int) (n : Nat) (h : NodsAt w g N) (hl : nodsOf N = l) (hn : l.length = n) : Calls Try.prog 52 #[.pointer (some ⟨g, 0, none⟩)] w (RetS w l n) := by
  subst hl; exact (refNodes_any g w N h).mono fun _ _ h => retS_of hn h

theorem equal4_self (a b c d : Int) (w : World) : (Op.equalIn 9999 31 (.agg #[.int .i64 a, .int .i64 b, .int .i64 c, .int .i64 d]) (.agg #[.int .i64 a, .int .i64 b, .int .i64 c, .int .i64 d])).run Try.prog w = .ok true w := by
  have := equal_ints (P := Try.prog) w 9997 31 3 4 Try.underlying31 Try.underlying3 Try.sizeOf3 [a, b, c, d] [a, b, c, d] rfl rfl
  simp only [List.map] at this
  rw [this]
  simp

set_option maxHeartbeats 4000000 in
set_option maxRecDepth 100000 in
theorem asIndex_yes (w : World) (x gp bp bn K gm : Nat) (X : IdxM) (h : IdxAt w x gp bp bn K X) (hm : RIdxAt w gm X) :
    Calls Try.prog 30 #[.pointer (some ⟨x, 0, none⟩), .pointer (some ⟨gm, 0, none⟩)] w fun e w' => e = .returned (.bool true) ∧ Below w.heap.size w w' := by
  obtain ⟨L, hL⟩ : ∃ L, numsOf X.P = L := ⟨_, rfl⟩
  obtain ⟨M, hM⟩ : ∃ M, nodsOf X.N = M := ⟨_, rfl⟩
  obtain ⟨n, hn⟩ : ∃ n, L.length = n := ⟨_, rfl⟩
  obtain ⟨m, hmm⟩ : ∃ m, M.length = m := ⟨_, rfl⟩
  have hn40 : n ≤ 40 := by rw [← hn, ← hL]; exact keysOf_le _ _
  have hm24 : m ≤ 24 := by rw [← hmm, ← hM]; exact keysOf_le _ _
  have HL := Lib.hid hL
  have HM := Lib.hid hM
  have HN := Lib.hid hn
  have HMM := Lib.hid hmm
  have HP1 := Lib.hid (fun w' (h' : IdxAt w' x gp bp bn K X) => numbersS gp bp K w' X.P L n h'.pool hL hn)
  have HP2 := Lib.hid (fun w' (h' : RIdxAt w' gm X) => blocksS gm w' X.P L n h'.blks hL hn)
  have HN1 := Lib.hid (fun w' (h' : IdxAt w' x gp bp bn K X) => idxNumbersS w' x gp bp bn K X M m h' hM hmm)
  have HN2 := Lib.hid (fun w' (h' : RIdxAt w' gm X) => nodesS gm w' X.N M m h'.nods hM hmm)
  have c0 := h.cell0
  clear hL hM hn hmm
  go_enter Try.func30, Try.ntmps30
  go_wp2_with fail
  ((with_reducible refine (HP1.out _ h).mono ?_); rintro e w1 ⟨A1, c1, rfl, hA1, hb1⟩)
  replace h := h.below hb1
  replace hm := hm.below hb1
  clear c0
  go_wp2_with fail
  ((with_reducible refine (HP2.out _ hm).mono ?_); rintro e w2 ⟨A2, c2, rfl, hA2, hb2⟩)
  replace h := h.below hb2
  replace hm := hm.below hb2
  have hA3 := hA1.below hb2
  replace hb2 := belowThen hb1 hb2
  clear hb1 hA1
  go_wp2_with fail
  ((with_reducible refine (sameS A1 A2 c1 c2 n L _ hA3 hA2 HN.out (by omega)).mono ?_); rintro e w3 ⟨rfl, hb3⟩)
  replace h := h.below hb3
  replace hm := hm.below hb3
  replace hb3 := belowThen hb2 hb3
  clear hb2 hA3 hA2
  go_wp2_with fail
  ((with_reducible refine (HN1.out _ h).mono ?_); rintro e w4 ⟨A4, c4, rfl, hA4, hb4⟩)
  replace h := h.below hb4
  replace hm := hm.below hb4
  replace hb4 := belowThen hb3 hb4
  clear hb3
  go_wp2_with fail
  ((with_reducible refine (HN2.out _ hm).mono ?_); rintro e w5 ⟨A5, c5, rfl, hA5, hb5⟩)
  replace h := h.below hb5
  replace hm := hm.below hb5
  have hA6 := hA4.below hb5
  replace hb5 := belowThen hb4 hb5
  clear hb4 hA4
  go_wp2_with fail
  ((with_reducible refine (sameS A4 A5 c4 c5 m M _ hA6 hA5 HMM.out (by omega)).mono ?_); rintro e w6 ⟨rfl, hb6⟩)
  replace h := h.below hb6
  replace hm := hm.below hb6
  replace hb6 := belowThen hb5 hb6
  clear hb5 hA5 hA6
  go_wp2_with fail
  ((with_reducible refine (HP2.out _ hm).mono ?_); rintro e w7 ⟨A7, c7, rfl, hA7, hb7⟩)
  replace h := h.below hb7
  replace hm := hm.below hb7
  replace hb7 := belowThen hb6 hb7
  clear hb6
  go_wp2
  go_loopw [6] (fun i w' => ∃ j : Nat, j ≤ n ∧ i = .int .i64 j ∧ IdxAt w' x gp bp bn K X ∧ RIdxAt w' gm X ∧ IntsAt w' A7 L ∧ Below w.heap.size w w') (fun i _ => n - (intOf i).toNat)
  case atStart => exact ⟨0, Nat.zero_le _, rfl, h, hm, hA7, hb7⟩
  case round =>
    obtain ⟨j, hj, rfl, hX, hR, hA, hb⟩ := hrel
    clear h hm hA7 hb7
    by_cases hjn : j < n
    · have hjL : j < L.length := by rw [HN.out]; exact hjn
      obtain ⟨gn, on, rfl, cj⟩ := hA j hjL
      obtain ⟨v, hv⟩ : ∃ v, L[j] = v := ⟨_, rfl⟩
      have hxm : v ∈ numsOf X.P := by rw [HL.out, ← hv]; exact List.getElem_mem hjL
      have hxs : hasBlk X.P v = true := by rw [← poolMap_isSome]; exact (List.mem_filter.1 hxm).2
      obtain ⟨x1, x2, _⟩ := (hasBlk_iff X.P v).1 hxs
      obtain ⟨y, rfl⟩ := Int.eq_ofNat_of_zero_le (show 0 ≤ v by omega)
      rw [hv] at cj
      have hlook : ∀ z : Value, (poolMap X.P y).getD z = .agg #[.string (X.P y).data, .int .i64 (X.P y).refs] := fun z => by
        unfold poolMap
        rw [if_pos hxs]
        rfl
      have HLK := Lib.hid hlook
      have y1 : (0 : Int) ≤ (y : Int) := by omega
      have y2 : (y : Int) < 41 := by omega
      have j1 : (j : Int) < (n : Int) := by omega
      have hy40 : y ≤ 40 := by omega
      clear hlook hxm hxs hv hjL
      go_wp2_with fail
      refine region_tail 21 (by kernel_rfl) (by kernel_rfl) ?_
      intro w13 hw13
      have hX13 : IdxAt w13 x gp bp bn K X := by rw [hw13]; exact hX.below (Below.refl _ _).drew
      have hR13 : RIdxAt w13 gm X := by rw [hw13]; exact hR.keep rfl
      have hA13 : IntsAt w13 (some ⟨gn, on, none⟩) L := by rw [hw13]; exact hA.below (Below.refl _ _).drew
      have c13 : w13.cell? ⟨gn, on + j, none⟩ = some (.int .i64 y) := by rw [hw13]; exact cj
      have hb13 : Below w.heap.size w w13 := by rw [hw13]; exact hb.drew
      have k0 := hX13.cell0
      have k1 := hX13.pool.cell
      have k2 := hR13.blks.data y hy40
      have k3 := hR13.blks.refs y hy40
      have hlk : (Instr.lookup 58 (.map (some bp)) (.int .i64 y) false).run Try.prog w13 = .ok (.agg #[.string (X.P y).data, .int .i64 (X.P y).refs]) w13 := by
        rw [hX13.pool.map.look Try.underlying58 (Try.zeroBlock _) (by omega), HLK.out]
      clear hw13 hX hR hA cj hb
      simp only [List.take_succ_cons, List.take_zero, List.drop_succ_cons, List.drop_zero]
      repeat still_step
      refine wpStill_nil ?_
      go_wp2
      go_roundw
      case rel => exact ⟨j + 1, hjn, by go_num, hX13, hR13, hA13, hb13⟩
      case measure => simp [intOf]; omega
    · go_wp2_with fail
      ((with_reducible refine (HN2.out _ hR).mono ?_); rintro e w8 ⟨A8, c8, rfl, hA8, hb8⟩)
      replace hX := hX.below hb8
      replace hR := hR.below hb8
      replace hb8 := belowThen hb hb8
      clear hb hA
      go_wp2
      go_loopw [8] (fun i w' => ∃ j : Nat, j ≤ m ∧ i = .int .i64 j ∧ IdxAt w' x gp bp bn K X ∧ RIdxAt w' gm X ∧ IntsAt w' A8 M ∧ Below w.heap.size w w') (fun i _ => m - (intOf i).toNat)
      case atStart => exact ⟨0, Nat.zero_le _, rfl, hX, hR, hA8, hb8⟩
      case round =>
        obtain ⟨i, hi, rfl, hX9, hR9, hA9, hb9⟩ := hrel
        clear hX hR hA8 hb8
        by_cases him : i < m
        · have hjL : i < M.length := by rw [HMM.out]; exact him
          obtain ⟨gn, on, rfl, cj⟩ := hA9 i hjL
          obtain ⟨v, hv⟩ : ∃ v, M[i] = v := ⟨_, rfl⟩
          have hxm : v ∈ nodsOf X.N := by rw [HM.out, ← hv]; exact List.getElem_mem hjL
          have hxs : hasNod X.N v = true := by rw [← nodMap_isSome]; exact (List.mem_filter.1 hxm).2
          obtain ⟨x1, x2, _⟩ := (hasNod_iff X.N v).1 hxs
          obtain ⟨y, rfl⟩ := Int.eq_ofNat_of_zero_le (show 0 ≤ v by omega)
          rw [hv] at cj
          have y1 : (0 : Int) ≤ (y : Int) := by omega
          have y2 : (y : Int) < 25 := by omega
          have j1 : (i : Int) < (m : Int) := by omega
          have hy24 : y ≤ 24 := by omega
          clear hxm hxs hv hjL
          go_wp2_with fail
          refine region_tail 18 (by kernel_rfl) (by kernel_rfl) ?_
          intro w13 hw13
          have hX13 : IdxAt w13 x gp bp bn K X := by rw [hw13]; exact hX9.below (Below.refl _ _).drew
          have hR13 : RIdxAt w13 gm X := by rw [hw13]; exact hR9.keep rfl
          have hA13 : IntsAt w13 (some ⟨gn, on, none⟩) M := by rw [hw13]; exact hA9.below (Below.refl _ _).drew
          have c13 : w13.cell? ⟨gn, on + i, none⟩ = some (.int .i64 y) := by rw [hw13]; exact cj
          have hb13 : Below w.heap.size w w13 := by rw [hw13]; exact hb9.drew
          have k1 := hX13.cell1
          have e0 : w13.cell? ⟨gm, 82 + y * 5, none⟩ = some (.int .i64 (X.N y).k0) := hR13.nods.kid y 0 hy24 (by omega)
          have e1 : w13.cell? ⟨gm, 82 + y * 5 + 1, none⟩ = some (.int .i64 (X.N y).k1) := hR13.nods.kid y 1 hy24 (by omega)
          have e2 : w13.cell? ⟨gm, 82 + y * 5 + 2, none⟩ = some (.int .i64 (X.N y).k2) := hR13.nods.kid y 2 hy24 (by omega)
          have e3 : w13.cell? ⟨gm, 82 + y * 5 + 3, none⟩ = some (.int .i64 (X.N y).k3) := hR13.nods.kid y 3 hy24 (by omega)
          have e4 := hR13.nods.refs y hy24
          have hlk : (Instr.lookup 83 (.map (some bn)) (.int .i64 y) false).run Try.prog w13 = .ok (.agg #[.int .i64 (X.N y).k0, .int .i64 (X.N y).k1, .int .i64 (X.N y).k2, .int .i64 (X.N y).k3, .int .i64 (X.N y).refs]) w13 := by
            rw [hX13.map.look Try.underlying83 (Try.zeroNode _) (by omega), nodMap_get hX13.ok]
            rfl
          have heq := equal4_self (X.N y).k0 (X.N y).k1 (X.N y).k2 (X.N y).k3 w13
          clear hw13 hX9 hR9 hA9 cj hb9
          simp only [List.take_succ_cons, List.take_zero, List.drop_succ_cons, List.drop_zero]
          repeat still_step
          refine wpStill_nil ?_
          go_wp2
          go_roundw
          case rel => exact ⟨i + 1, him, by go_num, hX13, hR13, hA13, hb13⟩
          case measure => simp [intOf]; omega
        · go_wp2
          go_ret
          exact ⟨rfl, hb9⟩
end Go.Proofs.Ytmgnikkbakpbdaa
