/- Package index: create, release, releaseLeaf, Free. -/
import Derived.Test.YtlgahdabhnhjgaaGreatDoorZqEq4
namespace Go.Proofs.YtlgahdabhnhjgaaGreatDoor
open Go.RowKit Go.Maps

theorem isZero4_iff (a b c d : Nat) : isZero4 a b c d = true ↔ a = 0 ∧ b = 0 ∧ c = 0 ∧ d = 0 := by simp [isZero4, and_assoc]

theorem lowest_idx (w : World) (x gp bp bn K : Nat) (X : IdxM) (h : IdxAt w x gp bp bn K X) (n : Nat) (hn : firstFree 24 (usedNod X.N) = some n) :
    Calls Tryz.prog 151 #[.map (some bn)] w fun e w' => e = .returned (.int .i64 n) ∧ Below w.heap.size w w' := by
  obtain ⟨h1, h2, h3, h4⟩ := firstFree_some hn
  refine lowest_Node bn 24 (nodMap X.N) w h.map (by omega) (nodMap_shape X.N) n h1 ?_ (fun m hm1 hm2 => by rw [nodMap_isSome, hasNod_nat h.ok]; exact h4 m hm1 hm2)
  have := nodMap_isSome X.N n
  rw [hasNod_nat h.ok, h3] at this
  exact Option.isSome_eq_false_iff.1 this |> Option.isNone_iff_eq_none.1

/-- The kids that were gone through so far. -/
def upTo4 (op : IdxM → Nat → IdxM) (X : IdxM) (a b c d : Nat) : Nat → IdxM
  | 0 => X
  | 1 => op X a
  | 2 => op (op X a) b
  | 3 => op (op (op X a) b) c
  | _ => each4 op X a b c d
theorem upTo4_succ (op : IdxM → Nat → IdxM) (X : IdxM) (a b c d i : Nat) (hi : i < 4) : upTo4 op X a b c d (i + 1) = op (upTo4 op X a b c d i) (sel4 a b c d i) := by
  have : i = 0 ∨ i = 1 ∨ i = 2 ∨ i = 3 := by omega
  rcases this with rfl | rfl | rfl | rfl <;> rfl
theorem sel4_cast (a b c d i : Nat) : sel4 (a : Int) (b : Int) (c : Int) (d : Int) i = ((sel4 a b c d i : Nat) : Int) := by
  unfold sel4; split <;> rfl
theorem sel4_le {a b c d i m : Nat} (h : a ≤ m ∧ b ≤ m ∧ c ≤ m ∧ d ≤ m) : sel4 a b c d i ≤ m := by
  obtain ⟨h0, h1, h2, h3⟩ := h
  unfold sel4; split <;> assumption

set_option maxHeartbeats 2000000 in
set_option maxRecDepth 100000 in
theorem createB_any (w : World) (x gp bp bn K : Nat) (X : IdxM) (a b c d : Nat) (h : IdxAt w x gp bp bn K X) (hk : a ≤ 40 ∧ b ≤ 40 ∧ c ≤ 40 ∧ d ≤ 40) (hK : K ≤ 1000000) :
    Calls Tryz.prog 119 #[.pointer (some ⟨x, 0, none⟩), .agg #[.int .i64 a, .int .i64 b, .int .i64 c, .int .i64 d], .func (.func 120) #[.pointer (some ⟨x, 0, none⟩)] #[]] w
      (IdxRet w x gp bp bn (K + 5) (createX IdxM.refB false X a b c d) (.tuple #[.int .i64 (createId X a b c d), errV (createErr X a b c d)])) := by
  have b0 := (Below.refl w.heap.size w).alloc (Nat.le_refl _) (.cells #[.int .i64 a, .int .i64 b, .int .i64 c, .int .i64 d] 79)
  have h0 := h.below b0
  have t0 := Turn.of_below (bs := [bp, bn]) b0
  have s0 : (w.alloc (.cells #[.int .i64 a, .int .i64 b, .int .i64 c, .int .i64 d] 79)).heap[w.heap.size]? = some (.cells #[.int .i64 a, .int .i64 b, .int .i64 c, .int .i64 d] 79) := heap_alloc_new w _
  have hgw : w.heap.size < (w.alloc (.cells #[.int .i64 a, .int .i64 b, .int .i64 c, .int .i64 d] 79)).heap.size := by simp
  generalize hw1 : w.alloc (.cells #[.int .i64 a, .int .i64 b, .int .i64 c, .int .i64 d] 79) = w1 at b0 h0 t0 s0 hgw
  have k0 : w1.cell? ⟨w.heap.size, 0, none⟩ = some (.int .i64 a) := cell_of_row _ _ _ _ _ _ s0
  have k1 : w1.cell? ⟨w.heap.size, 1, none⟩ = some (.int .i64 b) := cell_of_row _ _ _ _ _ _ s0
  have k2 : w1.cell? ⟨w.heap.size, 2, none⟩ = some (.int .i64 c) := cell_of_row _ _ _ _ _ _ s0
  have k3 : w1.cell? ⟨w.heap.size, 3, none⟩ = some (.int .i64 d) := cell_of_row _ _ _ _ _ _ s0
  cases hz : isZero4 a b c d with
  | true =>
    obtain ⟨rfl, rfl, rfl, rfl⟩ := (isZero4_iff a b c d).1 hz
    rw [show createX IdxM.refB false X 0 0 0 0 = X by unfold createX; rw [hz]; rfl, show createId X 0 0 0 0 = 0 by unfold createId; rw [hz]; rfl, show createErr X 0 0 0 0 = 0 by unfold createErr; rw [hz]; rfl]
    have e1 := build4
    have e2 := eql4 0 0 0 0 true rfl
    clear hz
    go_enter Tryz.func119, Tryz.ntmps119
    go_wp2
    go_ret2
    subst hw1
    exact ⟨rfl, h0.mono (by omega), t0⟩
  | false =>
    have z1 : ([(a : Int), b, c, d] == [0, 0, 0, 0]) = false := by
      rw [Bool.eq_false_iff]
      intro e
      simp at e
      rw [Bool.eq_false_iff] at hz
      exact hz ((isZero4_iff a b c d).2 (by omega))
    have e1 := build4
    have e2 := eql4 a b c d false z1
    clear z1
    have c1 := h0.cell1
    have hM := h0.map
    obtain ⟨n, hnn⟩ : ∃ n, (nodsOf X.N).length = n := ⟨_, rfl⟩
    have hn24 : n ≤ 24 := by rw [← hnn]; exact keysOf_le _ _
    have HN := Lib.hid hnn
    cases hff : firstFree 24 (usedNod X.N) with
    | none =>
      have hn : 24 ≤ n := by
        have := Nat.le_of_not_lt (fun x => (nodsOf_len h).1 x hff)
        omega
      obtain rfl : n = 24 := by omega
      rw [show createX IdxM.refB false X a b c d = X by unfold createX; rw [hz, hff]; rfl, show createId X a b c d = 0 by unfold createId; rw [hz, hff]; rfl, show createErr X a b c d = 8 by unfold createErr; rw [hz, hff]; rfl]
      clear hz hnn hff
      go_enter Tryz.func119, Tryz.ntmps119
      go_wp2_with (first
        | (at_len; refine wpList_lenMap rfl _ 64 rfl 81 Tryz.underlying64 bn 24 _ rfl hM 24 HN.out ?_)
        | go_in)
      go_ret2
      exact ⟨rfl, h0.mono (by omega), t0⟩
    | some m =>
      have hn : n < 24 := by
        have := (nodsOf_len h).2 (by simp [hff])
        omega
      have i1 : decide (24 ≤ (n : Int)) = false := by simp; omega
      rw [show createX IdxM.refB false X a b c d = each4 IdxM.refB { X with N := setNod X.N m ⟨a, b, c, d, 1, false⟩ } a b c d by unfold createX; rw [hz, hff]; rfl, show createId X a b c d = m by unfold createId; rw [hz, hff]; rfl, show createErr X a b c d = 0 by unfold createErr; rw [hz, hff]; rfl]
      obtain ⟨m1, m2, _, _⟩ := firstFree_some hff
      have HLOW := Lib.hid (fun w' (h' : IdxAt w' x gp bp bn K X) => lowest_idx w' x gp bp bn K X h' m hff)
      have hok := setNod_ok (n := m) h.ok (Nat.le_succ K) m1 m2 (b := ⟨a, b, c, d, 1, false⟩) (by simp) (by simp) hk
      clear hz hnn hff
      go_enter Tryz.func119, Tryz.ntmps119
      go_wp2_with (first
        | (at_len; refine wpList_lenMap rfl _ 64 rfl 81 Tryz.underlying64 bn 24 _ rfl hM n HN.out ?_)
        | fail)
      clear hw1
      ((with_reducible refine (HLOW.out _ h0).mono ?_); rintro e w2 ⟨rfl, hb2⟩)
      have h2 := h0.below hb2
      have t2 := t0.trans (Turn.of_below hb2)
      have s2 := (hb2.block w.heap.size hgw).trans s0
      clear hb2 h0 t0 s0 k0 k1 k2 k3 c1 hM
      go_wp2_with fail
      refine region_tail 7 (by kernel_rfl) (by kernel_rfl) ?_
      intro w3 hw3
      have h3 : IdxAt w3 x gp bp bn K X := by rw [hw3]; exact h2.below (Below.refl _ _).drew
      have s3 : w3.heap[w.heap.size]? = some (.cells #[.int .i64 a, .int .i64 b, .int .i64 c, .int .i64 d] 79 (0, 0)) := by rw [hw3]; exact s2
      have t3 : Turn [bp, bn] w w3 := t2.of_drew hw3
      clear hw3 h2 s2 t2
      have k0 : w3.cell? ⟨w.heap.size, 0, none⟩ = some (.int .i64 a) := cell_of_row _ _ _ _ _ _ s3
      have k1 : w3.cell? ⟨w.heap.size, 1, none⟩ = some (.int .i64 b) := cell_of_row _ _ _ _ _ _ s3
      have k2 : w3.cell? ⟨w.heap.size, 2, none⟩ = some (.int .i64 c) := cell_of_row _ _ _ _ _ _ s3
      have k3 : w3.cell? ⟨w.heap.size, 3, none⟩ = some (.int .i64 d) := cell_of_row _ _ _ _ _ _ s3
      have c3 := h3.cell1
      have hM3 := h3.map
      simp only [List.take_succ_cons, List.take_zero, List.drop_succ_cons, List.drop_zero]
      repeat still_step
      refine wpStill_nil ?_
      go_wp2_with (first
        | (at_mapUpdate; refine wpList_putMap rfl _ _ _ 64 rfl 81 Tryz.underlying64 bn 24 _ rfl hM3 (by omega) m rfl (by omega) _ rfl ?_; intro w4 hM4 ht4; have h4 := h3.noded hM4 ht4 (fun z => nodMap_set m1 m2 (b := ⟨a, b, c, d, 1, false⟩) (by simp) z) hok (by omega); have t4 := t3.turned ht4 (by simp); have s4 := (ht4.grown.block w.heap.size (Array.getElem?_eq_some_iff.1 s3).1 (by intro e; cases e; obtain ⟨es, cc, hb⟩ := hM3.ismap; rw [hb] at s3; cases s3)).trans s3; clear hM3 ht4 hM4 t3 s3 k0 k1 k2 k3 c3; have k0 : w4.cell? ⟨w.heap.size, 0, none⟩ = some (.int .i64 a) := cell_of_row _ _ _ _ _ _ s4; have k1 : w4.cell? ⟨w.heap.size, 1, none⟩ = some (.int .i64 b) := cell_of_row _ _ _ _ _ _ s4; have k2 : w4.cell? ⟨w.heap.size, 2, none⟩ = some (.int .i64 c) := cell_of_row _ _ _ _ _ _ s4; have k3 : w4.cell? ⟨w.heap.size, 3, none⟩ = some (.int .i64 d) := cell_of_row _ _ _ _ _ _ s4)
        | go_in)
      clear s4 k0 k1 k2 k3 h3 e1 e2
      generalize hXX : ({ X with N := setNod X.N m ⟨a, b, c, d, 1, false⟩ } : IdxM) = XX at h4 ⊢
      have HXX := Lib.hid hXX
      clear hXX
      go_loopw [34] (fun j w' => ∃ i : Nat, i ≤ 4 ∧ j = .int .i64 i ∧ IdxAt w' x gp bp bn (K + 1 + i) (upTo4 IdxM.refB XX a b c d i) ∧ Turn [bp, bn] w w') (fun j _ => 4 - (intOf j).toNat)
      case atStart => exact ⟨0, by omega, rfl, h4, t4⟩
      case round =>
        obtain ⟨i, hi, rfl, h5, t5⟩ := hrel
        clear h4 t4
        by_cases hlt : i < 4
        · have hI : ∀ w, (Instr.index 79 (.agg #[.int .i64 a, .int .i64 b, .int .i64 c, .int .i64 d]) (.int .i64 i)).run Tryz.prog w = .ok (.int .i64 ((sel4 a b c d i : Nat) : Int)) w := fun w => by
            rw [idx4 a b c d i (by omega) (by omega) w, Int.toNat_natCast, sel4_cast]
          have hs40 : sel4 a b c d i ≤ 40 := sel4_le hk
          have HU := Lib.hid (upTo4_succ IdxM.refB XX a b c d i hlt)
          have i2 : (i : Int) < 4 := by omega
          generalize sel4 a b c d i = kk at hI hs40 HU
          go_wp2_with fail
          ((with_reducible refine (refBlock_any _ x gp bp bn (K + 1 + i) _ kk h5 (by omega) (by omega)).mono ?_); rintro e w6 ⟨rfl, h6, t6⟩)
          go_wp2
          go_roundw
          case rel => exact ⟨i + 1, hlt, by go_num, by rw [HU.out]; exact h6, t5.trans t6⟩
          case measure => simp [intOf]; omega
        · obtain rfl : i = 4 := by omega
          go_wp2
          go_ret2
          exact ⟨rfl, by rw [HXX.out]; exact h5, t5⟩

set_option maxHeartbeats 2000000 in
set_option maxRecDepth 100000 in
theorem createN_any (w : World) (x gp bp bn K : Nat) (X : IdxM) (a b c d : Nat) (h : IdxAt w x gp bp bn K X) (hk : a ≤ 40 ∧ b ≤ 40 ∧ c ≤ 40 ∧ d ≤ 40) (hK : K ≤ 1000000) :
    Calls Tryz.prog 119 #[.pointer (some ⟨x, 0, none⟩), .agg #[.int .i64 a, .int .i64 b, .int .i64 c, .int .i64 d], .func (.func 92) #[.pointer (some ⟨x, 0, none⟩)] #[]] w
      (IdxRet w x gp bp bn (K + 5) (createX IdxM.refN true X a b c d) (.tuple #[.int .i64 (createId X a b c d), errV (createErr X a b c d)])) := by
  have b0 := (Below.refl w.heap.size w).alloc (Nat.le_refl _) (.cells #[.int .i64 a, .int .i64 b, .int .i64 c, .int .i64 d] 79)
  have h0 := h.below b0
  have t0 := Turn.of_below (bs := [bp, bn]) b0
  have s0 : (w.alloc (.cells #[.int .i64 a, .int .i64 b, .int .i64 c, .int .i64 d] 79)).heap[w.heap.size]? = some (.cells #[.int .i64 a, .int .i64 b, .int .i64 c, .int .i64 d] 79) := heap_alloc_new w _
  have hgw : w.heap.size < (w.alloc (.cells #[.int .i64 a, .int .i64 b, .int .i64 c, .int .i64 d] 79)).heap.size := by simp
  generalize hw1 : w.alloc (.cells #[.int .i64 a, .int .i64 b, .int .i64 c, .int .i64 d] 79) = w1 at b0 h0 t0 s0 hgw
  have k0 : w1.cell? ⟨w.heap.size, 0, none⟩ = some (.int .i64 a) := cell_of_row _ _ _ _ _ _ s0
  have k1 : w1.cell? ⟨w.heap.size, 1, none⟩ = some (.int .i64 b) := cell_of_row _ _ _ _ _ _ s0
  have k2 : w1.cell? ⟨w.heap.size, 2, none⟩ = some (.int .i64 c) := cell_of_row _ _ _ _ _ _ s0
  have k3 : w1.cell? ⟨w.heap.size, 3, none⟩ = some (.int .i64 d) := cell_of_row _ _ _ _ _ _ s0
  cases hz : isZero4 a b c d with
  | true =>
    obtain ⟨rfl, rfl, rfl, rfl⟩ := (isZero4_iff a b c d).1 hz
    rw [show createX IdxM.refN true X 0 0 0 0 = X by unfold createX; rw [hz]; rfl, show createId X 0 0 0 0 = 0 by unfold createId; rw [hz]; rfl, show createErr X 0 0 0 0 = 0 by unfold createErr; rw [hz]; rfl]
    have e1 := build4
    have e2 := eql4 0 0 0 0 true rfl
    clear hz
    go_enter Tryz.func119, Tryz.ntmps119
    go_wp2
    go_ret2
    subst hw1
    exact ⟨rfl, h0.mono (by omega), t0⟩
  | false =>
    have z1 : ([(a : Int), b, c, d] == [0, 0, 0, 0]) = false := by
      rw [Bool.eq_false_iff]
      intro e
      simp at e
      rw [Bool.eq_false_iff] at hz
      exact hz ((isZero4_iff a b c d).2 (by omega))
    have e1 := build4
    have e2 := eql4 a b c d false z1
    clear z1
    have c1 := h0.cell1
    have hM := h0.map
    obtain ⟨n, hnn⟩ : ∃ n, (nodsOf X.N).length = n := ⟨_, rfl⟩
    have hn24 : n ≤ 24 := by rw [← hnn]; exact keysOf_le _ _
    have HN := Lib.hid hnn
    cases hff : firstFree 24 (usedNod X.N) with
    | none =>
      have hn : 24 ≤ n := by
        have := Nat.le_of_not_lt (fun x => (nodsOf_len h).1 x hff)
        omega
      obtain rfl : n = 24 := by omega
      rw [show createX IdxM.refN true X a b c d = X by unfold createX; rw [hz, hff]; rfl, show createId X a b c d = 0 by unfold createId; rw [hz, hff]; rfl, show createErr X a b c d = 8 by unfold createErr; rw [hz, hff]; rfl]
      clear hz hnn hff
      go_enter Tryz.func119, Tryz.ntmps119
      go_wp2_with (first
        | (at_len; refine wpList_lenMap rfl _ 64 rfl 81 Tryz.underlying64 bn 24 _ rfl hM 24 HN.out ?_)
        | go_in)
      go_ret2
      exact ⟨rfl, h0.mono (by omega), t0⟩
    | some m =>
      have hn : n < 24 := by
        have := (nodsOf_len h).2 (by simp [hff])
        omega
      have i1 : decide (24 ≤ (n : Int)) = false := by simp; omega
      rw [show createX IdxM.refN true X a b c d = each4 IdxM.refN { X with N := setNod X.N m ⟨a, b, c, d, 1, true⟩ } a b c d by unfold createX; rw [hz, hff]; rfl, show createId X a b c d = m by unfold createId; rw [hz, hff]; rfl, show createErr X a b c d = 0 by unfold createErr; rw [hz, hff]; rfl]
      obtain ⟨m1, m2, _, _⟩ := firstFree_some hff
      have HLOW := Lib.hid (fun w' (h' : IdxAt w' x gp bp bn K X) => lowest_idx w' x gp bp bn K X h' m hff)
      have hok := setNod_ok (n := m) h.ok (Nat.le_succ K) m1 m2 (b := ⟨a, b, c, d, 1, true⟩) (by simp) (by simp) hk
      clear hz hnn hff
      go_enter Tryz.func119, Tryz.ntmps119
      go_wp2_with (first
        | (at_len; refine wpList_lenMap rfl _ 64 rfl 81 Tryz.underlying64 bn 24 _ rfl hM n HN.out ?_)
        | fail)
      clear hw1
      ((with_reducible refine (HLOW.out _ h0).mono ?_); rintro e w2 ⟨rfl, hb2⟩)
      have h2 := h0.below hb2
      have t2 := t0.trans (Turn.of_below hb2)
      have s2 := (hb2.block w.heap.size hgw).trans s0
      clear hb2 h0 t0 s0 k0 k1 k2 k3 c1 hM
      go_wp2_with fail
      refine region_tail 7 (by kernel_rfl) (by kernel_rfl) ?_
      intro w3 hw3
      have h3 : IdxAt w3 x gp bp bn K X := by rw [hw3]; exact h2.below (Below.refl _ _).drew
      have s3 : w3.heap[w.heap.size]? = some (.cells #[.int .i64 a, .int .i64 b, .int .i64 c, .int .i64 d] 79 (0, 0)) := by rw [hw3]; exact s2
      have t3 : Turn [bp, bn] w w3 := t2.of_drew hw3
      clear hw3 h2 s2 t2
      have k0 : w3.cell? ⟨w.heap.size, 0, none⟩ = some (.int .i64 a) := cell_of_row _ _ _ _ _ _ s3
      have k1 : w3.cell? ⟨w.heap.size, 1, none⟩ = some (.int .i64 b) := cell_of_row _ _ _ _ _ _ s3
      have k2 : w3.cell? ⟨w.heap.size, 2, none⟩ = some (.int .i64 c) := cell_of_row _ _ _ _ _ _ s3
      have k3 : w3.cell? ⟨w.heap.size, 3, none⟩ = some (.int .i64 d) := cell_of_row _ _ _ _ _ _ s3
      have c3 := h3.cell1
      have hM3 := h3.map
      simp only [List.take_succ_cons, List.take_zero, List.drop_succ_cons, List.drop_zero]
      repeat still_step
      refine wpStill_nil ?_
      go_wp2_with (first
        | (at_mapUpdate; refine wpList_putMap rfl _ _ _ 64 rfl 81 Tryz.underlying64 bn 24 _ rfl hM3 (by omega) m rfl (by omega) _ rfl ?_; intro w4 hM4 ht4; have h4 := h3.noded hM4 ht4 (fun z => nodMap_set m1 m2 (b := ⟨a, b, c, d, 1, true⟩) (by simp) z) hok (by omega); have t4 := t3.turned ht4 (by simp); have s4 := (ht4.grown.block w.heap.size (Array.getElem?_eq_some_iff.1 s3).1 (by intro e; cases e; obtain ⟨es, cc, hb⟩ := hM3.ismap; rw [hb] at s3; cases s3)).trans s3; clear hM3 ht4 hM4 t3 s3 k0 k1 k2 k3 c3; have k0 : w4.cell? ⟨w.heap.size, 0, none⟩ = some (.int .i64 a) := cell_of_row _ _ _ _ _ _ s4; have k1 : w4.cell? ⟨w.heap.size, 1, none⟩ = some (.int .i64 b) := cell_of_row _ _ _ _ _ _ s4; have k2 : w4.cell? ⟨w.heap.size, 2, none⟩ = some (.int .i64 c) := cell_of_row _ _ _ _ _ _ s4; have k3 : w4.cell? ⟨w.heap.size, 3, none⟩ = some (.int .i64 d) := cell_of_row _ _ _ _ _ _ s4)
        | go_in)
      clear s4 k0 k1 k2 k3 h3 e1 e2
      generalize hXX : ({ X with N := setNod X.N m ⟨a, b, c, d, 1, true⟩ } : IdxM) = XX at h4 ⊢
      have HXX := Lib.hid hXX
      clear hXX
      go_loopw [34] (fun j w' => ∃ i : Nat, i ≤ 4 ∧ j = .int .i64 i ∧ IdxAt w' x gp bp bn (K + 1 + i) (upTo4 IdxM.refN XX a b c d i) ∧ Turn [bp, bn] w w') (fun j _ => 4 - (intOf j).toNat)
      case atStart => exact ⟨0, by omega, rfl, h4, t4⟩
      case round =>
        obtain ⟨i, hi, rfl, h5, t5⟩ := hrel
        clear h4 t4
        by_cases hlt : i < 4
        · have hI : ∀ w, (Instr.index 79 (.agg #[.int .i64 a, .int .i64 b, .int .i64 c, .int .i64 d]) (.int .i64 i)).run Tryz.prog w = .ok (.int .i64 ((sel4 a b c d i : Nat) : Int)) w := fun w => by
            rw [idx4 a b c d i (by omega) (by omega) w, Int.toNat_natCast, sel4_cast]
          have hs40 : sel4 a b c d i ≤ 40 := sel4_le hk
          have HU := Lib.hid (upTo4_succ IdxM.refN XX a b c d i hlt)
          have i2 : (i : Int) < 4 := by omega
          generalize sel4 a b c d i = kk at hI hs40 HU
          go_wp2_with fail
          ((with_reducible refine (refNode_any _ x gp bp bn (K + 1 + i) _ kk h5 (by omega) (by omega)).mono ?_); rintro e w6 ⟨rfl, h6, t6⟩)
          go_wp2
          go_roundw
          case rel => exact ⟨i + 1, hlt, by go_num, by rw [HU.out]; exact h6, t5.trans t6⟩
          case measure => simp [intOf]; omega
        · obtain rfl : i = 4 := by omega
          go_wp2
          go_ret2
          exact ⟨rfl, by rw [HXX.out]; exact h5, t5⟩
end Go.Proofs.YtlgahdabhnhjgaaGreatDoor
