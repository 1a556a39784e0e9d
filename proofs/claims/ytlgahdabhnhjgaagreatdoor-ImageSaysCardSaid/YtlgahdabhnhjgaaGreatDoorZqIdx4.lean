/- Package index: Get, Share, Diff. -/
import Derived.Test.YtlgahdabhnhjgaaGreatDoorZqIdx2
/- Package index: release, releaseLeaf, Free. -/
namespace Go.Proofs.YtlgahdabhnhjgaaGreatDoor
open Go.RowKit Go.Maps

set_option maxHeartbeats 2000000 in
set_option maxRecDepth 100000 in
theorem releaseB_any (w : World) (x gp bp bn K : Nat) (X : IdxM) (id : Nat) (h : IdxAt w x gp bp bn K X) (hid : id ≤ 1000) (hK : K ≤ 1000000) :
    Calls Tryz.prog 84 #[.pointer (some ⟨x, 0, none⟩), .int .i64 id, .func (.func 115) #[.pointer (some ⟨x, 0, none⟩)] #[]] w
      (IdxRet w x gp bp bn K (releaseX IdxM.unrefB X id) (.tuple #[])) := by
  have c1 := h.cell1
  have hM := h.map
  have hlt := h.lt
  have q1 := nodMap_get h.ok id
  unfold nodV at q1
  have Q1 := Lib.hid q1
  have hkids := h.ok.kids id
  have hrefs := h.ok.refs id
  clear q1
  cases hh : hasNod X.N id with
  | false =>
    have q2 : (nodMap X.N id).isSome = false := by rw [nodMap_isSome, hh]
    have Q2 := Lib.hid q2
    have HX := Lib.hid (show releaseX IdxM.unrefB X id = X by unfold releaseX; rw [hh]; rfl)
    have b1 := (Below.refl w.heap.size w).alloc (Nat.le_refl _) (.cells #[.int .i64 (X.N id).k0, .int .i64 (X.N id).k1, .int .i64 (X.N id).k2, .int .i64 (X.N id).k3, .int .i64 (X.N id).refs] 81)
    clear hh q2
    go_enter Tryz.func84, Tryz.ntmps84
    go_wp2_with (first
      | (at_lookup; refine wpList_lookOk rfl _ _ 64 rfl 81 Tryz.underlying64 _ (Tryz.zeroNode _) bn 24 _ rfl hM id rfl (by omega) _ false Q1.out Q2.out ?_)
      | go_in)
    refine bodyPost_ret (results_none rfl _ _ _) rfl ?_
    refine ⟨rfl, ?_, Turn.of_below b1⟩
    rw [HX.out]
    exact h.below b1
  | true =>
    have q2 : (nodMap X.N id).isSome = true := by rw [nodMap_isSome, hh]
    have Q2 := Lib.hid q2
    obtain ⟨hn1, hn2, hn3⟩ := (hasNod_iff X.N id).1 hh
    have hn3 : (X.N id).refs ≠ 0 := hn3
    by_cases hr1 : (X.N id).refs = 1
    · have HX := Lib.hid (show releaseX IdxM.unrefB X id = each4 IdxM.unrefB { X with N := setNod X.N id noNod } (X.N id).k0 (X.N id).k1 (X.N id).k2 (X.N id).k3 by unfold releaseX; rw [hh, hr1]; rfl)
      have Q3 := Lib.hid (show (nodMap X.N id).getD (.agg #[.int .i64 0, .int .i64 0, .int .i64 0, .int .i64 0, .int .i64 0]) = .agg #[.int .i64 (X.N id).k0, .int .i64 (X.N id).k1, .int .i64 (X.N id).k2, .int .i64 (X.N id).k3, .int .i64 1] by rw [Q1.out, hr1]; rfl)
      have hok := setNod_ok (n := id) h.ok (Nat.le_refl K) (by omega) (by omega) (b := noNod) (by simp [noNod]) (fun _ => rfl) (by simp [noNod])
      generalize (X.N id).k0 = a at HX Q3 hkids
      generalize (X.N id).k1 = b at HX Q3 hkids
      generalize (X.N id).k2 = c at HX Q3 hkids
      generalize (X.N id).k3 = d at HX Q3 hkids
      have b1 := (Below.refl w.heap.size w).alloc (Nat.le_refl _) (.cells #[.int .i64 a, .int .i64 b, .int .i64 c, .int .i64 d, .int .i64 0] 81)
      have h1 := h.below b1
      have t1 := Turn.of_below (bs := [bp, bn]) b1
      have s1 : (w.alloc (.cells #[.int .i64 a, .int .i64 b, .int .i64 c, .int .i64 d, .int .i64 0] 81)).heap[w.heap.size]? = some (.cells #[.int .i64 a, .int .i64 b, .int .i64 c, .int .i64 d, .int .i64 0] 81) := heap_alloc_new w _
      have c2 := h1.cell1
      have hM1 := h1.map
      clear hh q2 hr1 hn3 hrefs
      go_enter Tryz.func84, Tryz.ntmps84
      go_wp2_with (first
        | (at_lookup; refine wpList_lookOk rfl _ _ 64 rfl 81 Tryz.underlying64 _ (Tryz.zeroNode _) bn 24 _ rfl hM id rfl (by omega) _ true Q3.out Q2.out ?_)
        | (at_delete; refine wpList_delMap rfl _ _ 64 rfl 81 Tryz.underlying64 bn 24 _ rfl hM1 id rfl (by omega) ?_; intro w3 hM3 ht3; have h3 := h1.noded hM3 ht3 nodMap_del hok (Nat.le_refl _); have t3 := t1.turned ht3 (by simp); have s3 := (ht3.grown.block w.heap.size (Array.getElem?_eq_some_iff.1 s1).1 (by intro e; cases e; obtain ⟨es, cc, hb⟩ := hM1.ismap; rw [hb] at s1; cases s1)).trans s1; clear hM3 ht3 hM1 t1 s1 c2; have k0 : w3.cell? ⟨w.heap.size, 0, none⟩ = some (.int .i64 a) := cell_of_row _ _ _ _ _ _ s3; have k1 : w3.cell? ⟨w.heap.size, 1, none⟩ = some (.int .i64 b) := cell_of_row _ _ _ _ _ _ s3; have k2 : w3.cell? ⟨w.heap.size, 2, none⟩ = some (.int .i64 c) := cell_of_row _ _ _ _ _ _ s3; have k3 : w3.cell? ⟨w.heap.size, 3, none⟩ = some (.int .i64 d) := cell_of_row _ _ _ _ _ _ s3)
        | go_in)
      clear s3 k0 k1 k2 k3 h1
      generalize hXX : ({ X with N := setNod X.N id noNod } : IdxM) = XX at h3 HX
      clear hXX
      go_loopw [41] (fun j w' => ∃ i : Nat, i ≤ 4 ∧ j = .int .i64 i ∧ IdxAt w' x gp bp bn K (upTo4 IdxM.unrefB XX a b c d i) ∧ Turn [bp, bn] w w') (fun j _ => 4 - (intOf j).toNat)
      case atStart => exact ⟨0, by omega, rfl, h3, t3⟩
      case round =>
        obtain ⟨i, hi, rfl, h5, t5⟩ := hrel
        clear h3 t3
        by_cases hlt : i < 4
        · have hI : ∀ w, (Instr.index 79 (.agg #[.int .i64 a, .int .i64 b, .int .i64 c, .int .i64 d]) (.int .i64 i)).run Tryz.prog w = .ok (.int .i64 ((sel4 a b c d i : Nat) : Int)) w := fun w => by
            rw [idx4 a b c d i (by omega) (by omega) w, Int.toNat_natCast, sel4_cast]
          have hs40 : sel4 a b c d i ≤ 40 := sel4_le hkids
          have HU := Lib.hid (upTo4_succ IdxM.unrefB XX a b c d i hlt)
          have i2 : (i : Int) < 4 := by omega
          generalize sel4 a b c d i = kk at hI hs40 HU
          go_wp2_with fail
          ((with_reducible refine (unrefBlock_any _ x gp bp bn K _ kk h5 (by omega) (by omega)).mono ?_); rintro e w6 ⟨rfl, h6, t6⟩)
          go_wp2
          go_roundw
          case rel => exact ⟨i + 1, hlt, by go_num, by rw [HU.out]; exact h6, t5.trans t6⟩
          case measure => simp [intOf]; omega
        · obtain rfl : i = 4 := by omega
          go_wp2
          go_end0
          exact ⟨rfl, by rw [HX.out]; exact h5, t5⟩
    · obtain ⟨r, hr⟩ : ∃ r, (X.N id).refs = r + 2 := ⟨(X.N id).refs - 2, by omega⟩
      have HX := Lib.hid (show releaseX IdxM.unrefB X id = { X with N := setNod X.N id { X.N id with refs := r + 1 } } by unfold releaseX; rw [hh, hr]; rfl)
      have Q3 := Lib.hid (show (nodMap X.N id).getD (.agg #[.int .i64 0, .int .i64 0, .int .i64 0, .int .i64 0, .int .i64 0]) = .agg #[.int .i64 (X.N id).k0, .int .i64 (X.N id).k1, .int .i64 (X.N id).k2, .int .i64 (X.N id).k3, .int .i64 ((r + 2 : Nat) : Int)] by rw [Q1.out, hr])
      have hok := setNod_ok (n := id) h.ok (Nat.le_refl K) (by omega) (by omega) (b := { X.N id with refs := r + 1 }) (by simp; omega) (by simp) (h.ok.kids id)
      have i1 : IntKind.i64.wrap (((r + 2 : Nat) : Int) - 1) = ((r + 1 : Nat) : Int) := by rw [show (((r + 2 : Nat) : Int) - 1) = ((r + 1 : Nat) : Int) by omega]; exact IntWalk.i64_in _ (by omega)
      have i3 : IntKind.i64.wrap ((r : Int) + 2 - 1) = (r : Int) + 1 := by rw [show ((r : Int) + 2 - 1) = (r : Int) + 1 by omega]; exact IntWalk.i64_in _ (by omega)
      have h0 : IdxAt (w.alloc (.cells #[.int .i64 (X.N id).k0, .int .i64 (X.N id).k1, .int .i64 (X.N id).k2, .int .i64 (X.N id).k3, .int .i64 ((r : Int) + 1)] 81)) x gp bp bn K X := h.below ((Below.refl _ _).alloc (Nat.le_refl _) _)
      have c2 := h0.cell1
      have i4 : decide ((0 : Int) < (r : Int) + 1) = true := decide_eq_true (by omega)
      clear hh q2 hr hr1 hn3
      go_enter Tryz.func84, Tryz.ntmps84
      go_wp2_with (first
        | (at_lookup; refine wpList_lookOk rfl _ _ 64 rfl 81 Tryz.underlying64 _ (Tryz.zeroNode _) bn 24 _ rfl hM id rfl (by omega) _ true Q3.out Q2.out ?_)
        | go_in)
      refine region_tail 6 (by kernel_rfl) (by kernel_rfl) ?_
      intro w2 hw2
      have h2 : IdxAt w2 x gp bp bn K X := by rw [hw2]; exact h0.below (Below.refl _ _).drew
      have k0 : w2.cell? ⟨w.heap.size, 0, none⟩ = some (.int .i64 (X.N id).k0) := by rw [hw2]; exact cell_of_row _ _ _ _ _ _ (heap_alloc_new w _)
      have k1 : w2.cell? ⟨w.heap.size, 1, none⟩ = some (.int .i64 (X.N id).k1) := by rw [hw2]; exact cell_of_row _ _ _ _ _ _ (heap_alloc_new w _)
      have k2 : w2.cell? ⟨w.heap.size, 2, none⟩ = some (.int .i64 (X.N id).k2) := by rw [hw2]; exact cell_of_row _ _ _ _ _ _ (heap_alloc_new w _)
      have k3 : w2.cell? ⟨w.heap.size, 3, none⟩ = some (.int .i64 (X.N id).k3) := by rw [hw2]; exact cell_of_row _ _ _ _ _ _ (heap_alloc_new w _)
      have k4 : w2.cell? ⟨w.heap.size, 4, none⟩ = some (.int .i64 ((r : Int) + 1)) := by rw [hw2]; exact cell_of_row _ _ _ _ _ _ (heap_alloc_new w _)
      have t2 : Turn [bp, bn] w w2 := ((Turn.refl _ _).alloc _).of_drew hw2
      have c3 := h2.cell1
      have hM2 := h2.map
      clear hw2 c2 h0
      simp only [List.take_succ_cons, List.take_zero, List.drop_succ_cons, List.drop_zero]
      repeat still_step
      refine wpStill_nil ?_
      go_wp2_with (first
        | (at_mapUpdate; refine wpList_putMap rfl _ _ _ 64 rfl 81 Tryz.underlying64 bn 24 _ rfl hM2 (by omega) id rfl (by omega) _ rfl ?_; intro w3 hM3 ht3)
        | go_in)
      refine bodyPost_ret (results_none rfl _ _ _) rfl ?_
      refine ⟨rfl, ?_, t2.turned ht3 (by simp)⟩
      rw [HX.out]
      exact h2.noded hM3 ht3 (fun m => nodMap_set (by omega) (by omega) (b := { X.N id with refs := r + 1 }) (by simp) m) hok (Nat.le_refl _)

theorem releaseLeaf_any (w : World) (x gp bp bn K : Nat) (X : IdxM) (id : Nat) (h : IdxAt w x gp bp bn K X) (hid : id ≤ 1000) (hK : K ≤ 1000000) :
    Calls Tryz.prog 85 #[.pointer (some ⟨x, 0, none⟩), .int .i64 id] w (IdxRet w x gp bp bn K (X.relLeaf id) (.tuple #[])) := by
  go_enter Tryz.func85, Tryz.ntmps85
  go_wp2_with fail
  ((with_reducible refine (releaseB_any _ x gp bp bn K X id h hid hK).mono ?_); rintro e w1 ⟨rfl, h1, t1⟩)
  go_wp2
  go_end0
  exact ⟨rfl, h1, t1⟩

set_option maxHeartbeats 2000000 in
set_option maxRecDepth 100000 in
theorem releaseN_any (w : World) (x gp bp bn K : Nat) (X : IdxM) (id : Nat) (h : IdxAt w x gp bp bn K X) (hid : id ≤ 1000) (hK : K ≤ 1000000) :
    Calls Tryz.prog 84 #[.pointer (some ⟨x, 0, none⟩), .int .i64 id, .func (.func 85) #[.pointer (some ⟨x, 0, none⟩)] #[]] w
      (IdxRet w x gp bp bn K (releaseX IdxM.relLeaf X id) (.tuple #[])) := by
  have c1 := h.cell1
  have hM := h.map
  have hlt := h.lt
  have q1 := nodMap_get h.ok id
  unfold nodV at q1
  have Q1 := Lib.hid q1
  have hkids := h.ok.kids id
  have hrefs := h.ok.refs id
  clear q1
  cases hh : hasNod X.N id with
  | false =>
    have q2 : (nodMap X.N id).isSome = false := by rw [nodMap_isSome, hh]
    have Q2 := Lib.hid q2
    have HX := Lib.hid (show releaseX IdxM.relLeaf X id = X by unfold releaseX; rw [hh]; rfl)
    have b1 := (Below.refl w.heap.size w).alloc (Nat.le_refl _) (.cells #[.int .i64 (X.N id).k0, .int .i64 (X.N id).k1, .int .i64 (X.N id).k2, .int .i64 (X.N id).k3, .int .i64 (X.N id).refs] 81)
    clear hh q2
    go_enter Tryz.func84, Tryz.ntmps84
    go_wp2_with (first
      | (at_lookup; refine wpList_lookOk rfl _ _ 64 rfl 81 Tryz.underlying64 _ (Tryz.zeroNode _) bn 24 _ rfl hM id rfl (by omega) _ false Q1.out Q2.out ?_)
      | go_in)
    refine bodyPost_ret (results_none rfl _ _ _) rfl ?_
    refine ⟨rfl, ?_, Turn.of_below b1⟩
    rw [HX.out]
    exact h.below b1
  | true =>
    have q2 : (nodMap X.N id).isSome = true := by rw [nodMap_isSome, hh]
    have Q2 := Lib.hid q2
    obtain ⟨hn1, hn2, hn3⟩ := (hasNod_iff X.N id).1 hh
    have hn3 : (X.N id).refs ≠ 0 := hn3
    by_cases hr1 : (X.N id).refs = 1
    · have HX := Lib.hid (show releaseX IdxM.relLeaf X id = each4 IdxM.relLeaf { X with N := setNod X.N id noNod } (X.N id).k0 (X.N id).k1 (X.N id).k2 (X.N id).k3 by unfold releaseX; rw [hh, hr1]; rfl)
      have Q3 := Lib.hid (show (nodMap X.N id).getD (.agg #[.int .i64 0, .int .i64 0, .int .i64 0, .int .i64 0, .int .i64 0]) = .agg #[.int .i64 (X.N id).k0, .int .i64 (X.N id).k1, .int .i64 (X.N id).k2, .int .i64 (X.N id).k3, .int .i64 1] by rw [Q1.out, hr1]; rfl)
      have hok := setNod_ok (n := id) h.ok (Nat.le_refl K) (by omega) (by omega) (b := noNod) (by simp [noNod]) (fun _ => rfl) (by simp [noNod])
      generalize (X.N id).k0 = a at HX Q3 hkids
      generalize (X.N id).k1 = b at HX Q3 hkids
      generalize (X.N id).k2 = c at HX Q3 hkids
      generalize (X.N id).k3 = d at HX Q3 hkids
      have b1 := (Below.refl w.heap.size w).alloc (Nat.le_refl _) (.cells #[.int .i64 a, .int .i64 b, .int .i64 c, .int .i64 d, .int .i64 0] 81)
      have h1 := h.below b1
      have t1 := Turn.of_below (bs := [bp, bn]) b1
      have s1 : (w.alloc (.cells #[.int .i64 a, .int .i64 b, .int .i64 c, .int .i64 d, .int .i64 0] 81)).heap[w.heap.size]? = some (.cells #[.int .i64 a, .int .i64 b, .int .i64 c, .int .i64 d, .int .i64 0] 81) := heap_alloc_new w _
      have c2 := h1.cell1
      have hM1 := h1.map
      clear hh q2 hr1 hn3 hrefs
      go_enter Tryz.func84, Tryz.ntmps84
      go_wp2_with (first
        | (at_lookup; refine wpList_lookOk rfl _ _ 64 rfl 81 Tryz.underlying64 _ (Tryz.zeroNode _) bn 24 _ rfl hM id rfl (by omega) _ true Q3.out Q2.out ?_)
        | (at_delete; refine wpList_delMap rfl _ _ 64 rfl 81 Tryz.underlying64 bn 24 _ rfl hM1 id rfl (by omega) ?_; intro w3 hM3 ht3; have h3 := h1.noded hM3 ht3 nodMap_del hok (Nat.le_refl _); have t3 := t1.turned ht3 (by simp); have s3 := (ht3.grown.block w.heap.size (Array.getElem?_eq_some_iff.1 s1).1 (by intro e; cases e; obtain ⟨es, cc, hb⟩ := hM1.ismap; rw [hb] at s1; cases s1)).trans s1; clear hM3 ht3 hM1 t1 s1 c2; have k0 : w3.cell? ⟨w.heap.size, 0, none⟩ = some (.int .i64 a) := cell_of_row _ _ _ _ _ _ s3; have k1 : w3.cell? ⟨w.heap.size, 1, none⟩ = some (.int .i64 b) := cell_of_row _ _ _ _ _ _ s3; have k2 : w3.cell? ⟨w.heap.size, 2, none⟩ = some (.int .i64 c) := cell_of_row _ _ _ _ _ _ s3; have k3 : w3.cell? ⟨w.heap.size, 3, none⟩ = some (.int .i64 d) := cell_of_row _ _ _ _ _ _ s3)
        | go_in)
      clear s3 k0 k1 k2 k3 h1
      generalize hXX : ({ X with N := setNod X.N id noNod } : IdxM) = XX at h3 HX
      clear hXX
      go_loopw [41] (fun j w' => ∃ i : Nat, i ≤ 4 ∧ j = .int .i64 i ∧ IdxAt w' x gp bp bn K (upTo4 IdxM.relLeaf XX a b c d i) ∧ Turn [bp, bn] w w') (fun j _ => 4 - (intOf j).toNat)
      case atStart => exact ⟨0, by omega, rfl, h3, t3⟩
      case round =>
        obtain ⟨i, hi, rfl, h5, t5⟩ := hrel
        clear h3 t3
        by_cases hlt : i < 4
        · have hI : ∀ w, (Instr.index 79 (.agg #[.int .i64 a, .int .i64 b, .int .i64 c, .int .i64 d]) (.int .i64 i)).run Tryz.prog w = .ok (.int .i64 ((sel4 a b c d i : Nat) : Int)) w := fun w => by
            rw [idx4 a b c d i (by omega) (by omega) w, Int.toNat_natCast, sel4_cast]
          have hs40 : sel4 a b c d i ≤ 40 := sel4_le hkids
          have HU := Lib.hid (upTo4_succ IdxM.relLeaf XX a b c d i hlt)
          have i2 : (i : Int) < 4 := by omega
          generalize sel4 a b c d i = kk at hI hs40 HU
          go_wp2_with fail
          ((with_reducible refine (releaseLeaf_any _ x gp bp bn K _ kk h5 (by omega) (by omega)).mono ?_); rintro e w6 ⟨rfl, h6, t6⟩)
          go_wp2
          go_roundw
          case rel => exact ⟨i + 1, hlt, by go_num, by rw [HU.out]; exact h6, t5.trans t6⟩
          case measure => simp [intOf]; omega
        · obtain rfl : i = 4 := by omega
          go_wp2
          go_end0
          exact ⟨rfl, by rw [HX.out]; exact h5, t5⟩
    · obtain ⟨r, hr⟩ : ∃ r, (X.N id).refs = r + 2 := ⟨(X.N id).refs - 2, by omega⟩
      have HX := Lib.hid (show releaseX IdxM.relLeaf X id = { X with N := setNod X.N id { X.N id with refs := r + 1 } } by unfold releaseX; rw [hh, hr]; rfl)
      have Q3 := Lib.hid (show (nodMap X.N id).getD (.agg #[.int .i64 0, .int .i64 0, .int .i64 0, .int .i64 0, .int .i64 0]) = .agg #[.int .i64 (X.N id).k0, .int .i64 (X.N id).k1, .int .i64 (X.N id).k2, .int .i64 (X.N id).k3, .int .i64 ((r + 2 : Nat) : Int)] by rw [Q1.out, hr])
      have hok := setNod_ok (n := id) h.ok (Nat.le_refl K) (by omega) (by omega) (b := { X.N id with refs := r + 1 }) (by simp; omega) (by simp) (h.ok.kids id)
      have i1 : IntKind.i64.wrap (((r + 2 : Nat) : Int) - 1) = ((r + 1 : Nat) : Int) := by rw [show (((r + 2 : Nat) : Int) - 1) = ((r + 1 : Nat) : Int) by omega]; exact IntWalk.i64_in _ (by omega)
      have i3 : IntKind.i64.wrap ((r : Int) + 2 - 1) = (r : Int) + 1 := by rw [show ((r : Int) + 2 - 1) = (r : Int) + 1 by omega]; exact IntWalk.i64_in _ (by omega)
      have h0 : IdxAt (w.alloc (.cells #[.int .i64 (X.N id).k0, .int .i64 (X.N id).k1, .int .i64 (X.N id).k2, .int .i64 (X.N id).k3, .int .i64 ((r : Int) + 1)] 81)) x gp bp bn K X := h.below ((Below.refl _ _).alloc (Nat.le_refl _) _)
      have c2 := h0.cell1
      have i4 : decide ((0 : Int) < (r : Int) + 1) = true := decide_eq_true (by omega)
      clear hh q2 hr hr1 hn3
      go_enter Tryz.func84, Tryz.ntmps84
      go_wp2_with (first
        | (at_lookup; refine wpList_lookOk rfl _ _ 64 rfl 81 Tryz.underlying64 _ (Tryz.zeroNode _) bn 24 _ rfl hM id rfl (by omega) _ true Q3.out Q2.out ?_)
        | go_in)
      refine region_tail 6 (by kernel_rfl) (by kernel_rfl) ?_
      intro w2 hw2
      have h2 : IdxAt w2 x gp bp bn K X := by rw [hw2]; exact h0.below (Below.refl _ _).drew
      have k0 : w2.cell? ⟨w.heap.size, 0, none⟩ = some (.int .i64 (X.N id).k0) := by rw [hw2]; exact cell_of_row _ _ _ _ _ _ (heap_alloc_new w _)
      have k1 : w2.cell? ⟨w.heap.size, 1, none⟩ = some (.int .i64 (X.N id).k1) := by rw [hw2]; exact cell_of_row _ _ _ _ _ _ (heap_alloc_new w _)
      have k2 : w2.cell? ⟨w.heap.size, 2, none⟩ = some (.int .i64 (X.N id).k2) := by rw [hw2]; exact cell_of_row _ _ _ _ _ _ (heap_alloc_new w _)
      have k3 : w2.cell? ⟨w.heap.size, 3, none⟩ = some (.int .i64 (X.N id).k3) := by rw [hw2]; exact cell_of_row _ _ _ _ _ _ (heap_alloc_new w _)
      have k4 : w2.cell? ⟨w.heap.size, 4, none⟩ = some (.int .i64 ((r : Int) + 1)) := by rw [hw2]; exact cell_of_row _ _ _ _ _ _ (heap_alloc_new w _)
      have t2 : Turn [bp, bn] w w2 := ((Turn.refl _ _).alloc _).of_drew hw2
      have c3 := h2.cell1
      have hM2 := h2.map
      clear hw2 c2 h0
      simp only [List.take_succ_cons, List.take_zero, List.drop_succ_cons, List.drop_zero]
      repeat still_step
      refine wpStill_nil ?_
      go_wp2_with (first
        | (at_mapUpdate; refine wpList_putMap rfl _ _ _ 64 rfl 81 Tryz.underlying64 bn 24 _ rfl hM2 (by omega) id rfl (by omega) _ rfl ?_; intro w3 hM3 ht3)
        | go_in)
      refine bodyPost_ret (results_none rfl _ _ _) rfl ?_
      refine ⟨rfl, ?_, t2.turned ht3 (by simp)⟩
      rw [HX.out]
      exact h2.noded hM3 ht3 (fun m => nodMap_set (by omega) (by omega) (b := { X.N id with refs := r + 1 }) (by simp) m) hok (Nat.le_refl _)

theorem idxFree_any (w : World) (x gp bp bn K : Nat) (X : IdxM) (id : Nat) (h : IdxAt w x gp bp bn K X) (hid : id ≤ 1000) (hK : K ≤ 1000000) :
    Calls Tryz.prog 50 #[.pointer (some ⟨x, 0, none⟩), .int .i64 id] w (IdxRet w x gp bp bn K (X.free id) (.tuple #[])) := by
  go_enter Tryz.func50, Tryz.ntmps50
  go_wp2_with fail
  ((with_reducible refine (releaseN_any _ x gp bp bn K X id h hid hK).mono ?_); rintro e w1 ⟨rfl, h1, t1⟩)
  go_wp2
  go_end0
  exact ⟨rfl, h1, t1⟩
end Go.Proofs.YtlgahdabhnhjgaaGreatDoor

/- Package index: Get, Share, Diff. -/
namespace Go.Proofs.YtlgahdabhnhjgaaGreatDoor
open Go.RowKit Go.Maps

theorem field5 (a b c d r : Int) (w : World) : (Instr.field 81 (.agg #[.int .i64 a, .int .i64 b, .int .i64 c, .int .i64 d, .int .i64 r]) 0).run Tryz.prog w = .ok (.agg #[.int .i64 a, .int .i64 b, .int .i64 c, .int .i64 d]) w := by kernel_rfl

theorem idxKid {K : Nat} {N : NodM} (_h : N.Ok K) (n : Nat) (i : Nat) (hi : i < 4) (j : Int) (hj : j = i) (w : World) : (Instr.index 79 (.agg #[.int .i64 (N n).k0, .int .i64 (N n).k1, .int .i64 (N n).k2, .int .i64 (N n).k3]) (.int .i64 j)).run Tryz.prog w = .ok (.int .i64 ((N n).kid i)) w := by
  subst hj
  rw [idx4 _ _ _ _ i (by omega) (by omega) w, Int.toNat_natCast, sel4_cast]
  rfl

set_option maxHeartbeats 1000000 in
set_option maxRecDepth 100000 in
theorem idxGet_any (w : World) (x gp bp bn K : Nat) (X : IdxM) (root at_ : Nat) (h : IdxAt w x gp bp bn K X) (hr : root ≤ 1000) (ha : at_ < 16) :
    Calls Tryz.prog 59 #[.pointer (some ⟨x, 0, none⟩), .int .i64 root, .int .i64 at_] w fun e w' => e = .returned (.string (X.get root at_)) ∧ Below w.heap.size w w' := by
  have c0 := h.cell0
  have c1 := h.cell1
  have hM := h.map
  have hlt := h.lt
  have q1 := nodMap_get h.ok root
  unfold nodV at q1
  have Q1 := Lib.hid q1
  have hl40 := h.ok.kid root (at_ / 4)
  have q2 := nodMap_get h.ok ((X.N root).kid (at_ / 4))
  unfold nodV at q2
  have hb40 := h.ok.kid ((X.N root).kid (at_ / 4)) (at_ % 4)
  have f5 := field5
  have e1 := idxKid h.ok root (at_ / 4) (by omega) ((at_ : Int) / 4) (by omega)
  have e2 := idxKid h.ok ((X.N root).kid (at_ / 4)) (at_ % 4) (by omega) ((at_ : Int).tmod 4) (by rw [Int.tmod_eq_emod_of_nonneg (by omega)]; omega)
  have HG := Lib.hid (show X.get root at_ = getText X.P (((X.N ((X.N root).kid (at_ / 4))).kid (at_ % 4) : Nat) : Int) from rfl)
  clear q1
  generalize hL : (X.N root).kid (at_ / 4) = L at hl40 q2 hb40 e1 e2 HG
  generalize hBk : (X.N L).kid (at_ % 4) = Bk at hb40 e2 HG
  clear hL hBk
  have hlk : (Instr.lookup 64 (.map (some bn)) (.int .i64 L) false).run Tryz.prog w.drew = .ok (.agg #[.int .i64 (X.N L).k0, .int .i64 (X.N L).k1, .int .i64 (X.N L).k2, .int .i64 (X.N L).k3, .int .i64 (X.N L).refs]) w.drew := by
    rw [MapOf.look (w := w.drew) (hM.keep rfl) Tryz.underlying64 (Tryz.zeroNode _) (by omega), q2]
  have i1 : (0 : Int) ≤ (at_ : Int) := by omega
  have i2 : (at_ : Int) < 16 := by omega
  clear q2
  go_enter Tryz.func59, Tryz.ntmps59
  go_wp2_with fail
  ((with_reducible refine (isPos_yes _ _ (by omega) (by omega)).mono ?_); rintro e w1 ⟨rfl, rfl⟩)
  go_wp2_with (first
    | (at_lookup; refine wpList_look rfl _ _ 64 rfl 81 Tryz.underlying64 _ (Tryz.zeroNode _) bn 24 _ rfl hM root rfl (by omega) _ Q1.out ?_)
    | go_in)
  have hP := h.pool
  have HGET := Lib.hid (fun w' (hb : Below w.heap.size w w') => poolGet_any gp bp K w' X.P Bk (hP.below hb) (by omega))
  go_region_with (go_at_call 90; refine (HGET.out _ (by first | exact Below.refl _ _ | exact (Below.refl _ _).drew | exact below_drewN (Below.refl _ _) _)).mono ?_; rintro e w2 ⟨rfl, hb2⟩)
  all_goals
    clear e1 e2 f5 hlk
    go_wp2
    go_ret
    exact ⟨by rw [HG.out]; rfl, Below.trans (b := w.drew) (Below.refl _ _).drew hb2⟩

end Go.Proofs.YtlgahdabhnhjgaaGreatDoor
