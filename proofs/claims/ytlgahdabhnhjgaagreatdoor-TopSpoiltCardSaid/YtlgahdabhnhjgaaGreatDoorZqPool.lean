/- Package pool: New, Get, Put, Ref, Unref, Numbers. -/
import Derived.Test.YtlgahdabhnhjgaaGreatDoorZqPoolM
namespace Go.Proofs.YtlgahdabhnhjgaaGreatDoor
open Go.RowKit Go.Maps

theorem poolNew_any (w : World) : Calls Tryz.prog 55 #[] w fun e w' => e = .returned (.pointer (some ⟨w.heap.size + 1, 0, none⟩)) ∧ PoolAt w' (w.heap.size + 1) w.heap.size 0 emptyPool ∧ Below w.heap.size w w' := by
  have hmm := @run_makeMap Tryz.prog
  go_enter Tryz.func55, Tryz.ntmps55
  go_wp2
  go_ret
  refine ⟨rfl, ⟨by simpa using heap_alloc_new (w.alloc (.map #[] 0)) (.cells #[.map (some w.heap.size)] 97), ?_, emptyPool_ok⟩, ((Below.refl _ _).alloc (Nat.le_refl _) _).alloc (by simp) _⟩
  exact ((MapOf.made w 40).keep (Below.heap_alloc _ _ _ (by simp))).congr (fun m => by simp [poolMap, hasBlk, emptyPool, noBlk])

set_option maxRecDepth 100000 in
theorem poolGet_any (g b K : Nat) (w : World) (p : PoolM) (id : Int) (h : PoolAt w g b K p) (hid : -9223372036854775808 ≤ id ∧ id ≤ 9223372036854775807) :
    Calls Tryz.prog 90 #[.pointer (some ⟨g, 0, none⟩), .int .i64 id] w fun e w' => e = .returned (.tuple #[.string (getText p id), errV (refErr p id)]) ∧ Below w.heap.size w w' := by
  have c0 := h.cell
  have hM := h.map
  cases hh : hasBlk p id with
  | true =>
    have q1 : (poolMap p id).getD (.agg #[.string ByteArray.empty, .int .i64 0]) = .agg #[.string (p id.toNat).data, .int .i64 (p id.toNat).refs] := by unfold poolMap; rw [hh]; rfl
    have q2 : (poolMap p id).isSome = true := by rw [poolMap_isSome, hh]
    rw [show getText p id = (p id.toNat).data by unfold getText; rw [hh]; rfl, show refErr p id = 0 by unfold refErr; rw [hh]; rfl]
    have Q1 := Lib.hid q1
    have Q2 := Lib.hid q2
    clear q1 q2 hh
    go_enter Tryz.func90, Tryz.ntmps90
    go_wp2_with (first
      | (at_lookup; refine wpList_lookOk rfl _ _ 95 rfl 77 Tryz.underlying95 _ (Tryz.zeroBlock _) b 40 _ rfl hM id rfl hid _ true Q1.out Q2.out ?_)
      | go_in)
    go_ret2
    exact ⟨rfl, (Below.refl _ _).alloc (Nat.le_refl _) _⟩
  | false =>
    have q1 : (poolMap p id).getD (.agg #[.string ByteArray.empty, .int .i64 0]) = .agg #[.string ByteArray.empty, .int .i64 0] := by unfold poolMap; rw [hh]; rfl
    have q2 : (poolMap p id).isSome = false := by rw [poolMap_isSome, hh]
    rw [show getText p id = ByteArray.empty by unfold getText; rw [hh]; rfl, show refErr p id = 5 by unfold refErr; rw [hh]; rfl]
    have Q1 := Lib.hid q1
    have Q2 := Lib.hid q2
    clear q1 q2 hh
    go_enter Tryz.func90, Tryz.ntmps90
    go_wp2_with (first
      | (at_lookup; refine wpList_lookOk rfl _ _ 95 rfl 77 Tryz.underlying95 _ (Tryz.zeroBlock _) b 40 _ rfl hM id rfl hid _ false Q1.out Q2.out ?_)
      | go_in)
    go_ret2
    exact ⟨rfl, (Below.refl _ _).alloc (Nat.le_refl _) _⟩

theorem lowest_pool (g b K : Nat) (w : World) (p : PoolM) (h : PoolAt w g b K p) (n : Nat) (hn : firstFree 40 (usedBlk p) = some n) :
    Calls Tryz.prog 150 #[.map (some b)] w fun e w' => e = .returned (.int .i64 n) ∧ Below w.heap.size w w' := by
  obtain ⟨h1, h2, h3, h4⟩ := firstFree_some hn
  refine lowest_Block b 40 (poolMap p) w h.map (by omega) (poolMap_shape p) n h1 ?_ (fun m hm1 hm2 => by rw [poolMap_isSome, hasBlk_nat h.ok]; exact h4 m hm1 hm2)
  have := poolMap_isSome p n
  rw [hasBlk_nat h.ok, h3] at this
  exact Option.isSome_eq_false_iff.1 this |> Option.isNone_iff_eq_none.1

set_option maxHeartbeats 1000000 in
set_option maxRecDepth 100000 in
theorem poolPut_any (g b K : Nat) (w : World) (p : PoolM) (data : ByteArray) (h : PoolAt w g b K p) (hdata : data.size ≤ 9223372036854775807) :
    Calls Tryz.prog 118 #[.pointer (some ⟨g, 0, none⟩), .string data] w fun e w' => e = .returned (.tuple #[.int .i64 (putId p data), errV (putErr p data)]) ∧ PoolAt w' g b (K + 1) (putP p data) ∧ Turn [b] w w' := by
  have c0 := h.cell
  have hM := h.map
  have hlt := h.lt
  by_cases hd0 : data.size = 0
  · obtain rfl : data = ByteArray.empty := by
      apply ByteArray.ext
      exact Array.eq_empty_of_size_eq_zero hd0
    have he : putErr p ByteArray.empty = 3 := rfl
    rw [show putId p ByteArray.empty = 0 by unfold putId; rw [he]; rfl, show putP p ByteArray.empty = p by unfold putP; rw [he]; rfl, he]
    go_enter Tryz.func118, Tryz.ntmps118
    go_wp2
    go_ret2
    exact ⟨rfl, h.mono (by omega), Turn.refl _ _⟩
  · have hne := notEmpty hd0
    by_cases hd6 : 6 < data.size
    · have he : putErr p data = 3 := by unfold putErr; rw [if_pos (Or.inr hd6)]
      rw [show putId p data = 0 by unfold putId; rw [he]; rfl, show putP p data = p by unfold putP; rw [he]; rfl, he]
      clear he
      go_enter Tryz.func118, Tryz.ntmps118
      go_wp2
      all_goals
        go_ret2
        exact ⟨rfl, h.mono (by omega), Turn.refl _ _⟩
    · have hd7 : decide (6 < (data.size : Int)) = false := by simp; omega
      obtain ⟨n, hnn⟩ : ∃ n, (numsOf p).length = n := ⟨_, rfl⟩
      have hn40 : n ≤ 40 := by rw [← hnn]; exact keysOf_le _ _
      cases hff : firstFree 40 (usedBlk p) with
      | none =>
        have he : putErr p data = 8 := by unfold putErr; rw [if_neg (by omega), if_pos hff]
        have hn : 40 ≤ n := by
          have := Nat.le_of_not_lt (fun x => (numsOf_len h).1 x hff)
          omega
        obtain rfl : n = 40 := by omega
        rw [show putId p data = 0 by unfold putId; rw [he]; rfl, show putP p data = p by unfold putP; rw [he]; rfl, he]
        have HN := Lib.hid hnn
        clear he hnn hff
        go_enter Tryz.func118, Tryz.ntmps118
        go_wp2_with (first
          | (at_len; refine wpList_lenMap rfl _ 95 rfl 77 Tryz.underlying95 b 40 _ rfl hM 40 HN.out ?_)
          | go_in)
        go_ret2
        exact ⟨rfl, h.mono (by omega), Turn.refl _ _⟩
      | some m =>
        have he : putErr p data = 0 := by unfold putErr; rw [if_neg (by omega), if_neg (by simp [hff])]
        have hid : putId p data = m := by unfold putId; rw [he, hff]; rfl
        have hn : n < 40 := by
          have := (numsOf_len h).2 (by simp [hff])
          omega
        rw [show putP p data = setBlk p m ⟨data, 1⟩ by unfold putP; rw [he, hid]; rfl, hid, he]
        obtain ⟨m1, m2, _, _⟩ := firstFree_some hff
        have hlow := fun w' (h' : PoolAt w' g b K p) => lowest_pool g b K w' p h' m hff
        have HLOW := Lib.hid hlow
        have HN := Lib.hid hnn
        have hok := h.ok
        have i1 : (n : Int) < 40 := by omega
        clear he hnn hff hid hlow
        go_enter Tryz.func118, Tryz.ntmps118
        go_wp2_with (first
          | (at_len; refine wpList_lenMap rfl _ 95 rfl 77 Tryz.underlying95 b 40 _ rfl hM n HN.out ?_)
          | fail)
        ((with_reducible refine (HLOW.out _ h).mono ?_); rintro e w1 ⟨rfl, hb1⟩)
        have h1 := h.below hb1
        have c1 := h1.cell
        have hM1 := h1.map
        go_wp2_with (first
          | (at_mapUpdate; refine wpList_putMap rfl _ _ _ 95 rfl 77 Tryz.underlying95 b 40 _ rfl hM1 (by omega) m rfl (by omega) _ rfl ?_; intro w2 hM2 ht2)
          | go_in)
        go_ret2
        exact ⟨rfl, h1.turned hM2 ht2 (fun x => poolMap_set m1 m2 (b := ⟨data, 1⟩) (by simp) x) (setBlk_ok hok (by omega) m1 m2 (by simp) (by simp)), (Turn.of_below hb1).turned ht2 (by simp)⟩

/-- A block more or less: none. -/
theorem count_no (g b K : Nat) (w : World) (p : PoolM) (id more : Int) (h : PoolAt w g b K p) (hid : -9223372036854775808 ≤ id ∧ id ≤ 9223372036854775807) (hh : hasBlk p id = false) :
    Calls Tryz.prog 161 #[.pointer (some ⟨g, 0, none⟩), .int .i64 id, .int .i64 more] w fun e w' => e = .returned (.iface 93 (.int .i64 5)) ∧ Below w.heap.size w w' := by
  have c0 := h.cell
  have hM := h.map
  have q1 : (poolMap p id).getD (.agg #[.string ByteArray.empty, .int .i64 0]) = .agg #[.string ByteArray.empty, .int .i64 0] := by unfold poolMap; rw [hh]; rfl
  have q2 : (poolMap p id).isSome = false := by rw [poolMap_isSome, hh]
  have Q1 := Lib.hid q1
  have Q2 := Lib.hid q2
  clear q1 q2 hh
  go_enter Tryz.func161, Tryz.ntmps161
  go_wp2_with (first
    | (at_lookup; refine wpList_lookOk rfl _ _ 95 rfl 77 Tryz.underlying95 _ (Tryz.zeroBlock _) b 40 _ rfl hM id rfl hid _ false Q1.out Q2.out ?_)
    | go_in)
  go_ret
  exact ⟨rfl, (Below.refl _ _).alloc (Nat.le_refl _) _⟩

set_option maxHeartbeats 1000000 in
set_option maxRecDepth 100000 in
/-- .. the block stays. -/
theorem count_stays (g b K K' : Nat) (w : World) (p : PoolM) (n r : Nat) (more : Int) (h : PoolAt w g b K p) (hh : hasBlk p n = true) (hmore : -1 ≤ more ∧ more ≤ 1) (hr : ((p n).refs : Int) + more = r) (hr1 : 1 ≤ r) (hrK : r ≤ K') (hK' : K ≤ K') (hK : K ≤ 1000000000) :
    Calls Tryz.prog 161 #[.pointer (some ⟨g, 0, none⟩), .int .i64 n, .int .i64 more] w fun e w' => e = .returned .nilIface ∧ PoolAt w' g b K' (setBlk p n ⟨(p n).data, r⟩) ∧ Turn [b] w w' := by
  have c0 := h.cell
  have hM := h.map
  have hlt := h.lt
  have hrefs := h.ok.refs n
  obtain ⟨hn1, hn2, hn3⟩ := (hasBlk_iff p n).1 hh
  have q1 : (poolMap p n).getD (.agg #[.string ByteArray.empty, .int .i64 0]) = .agg #[.string (p n).data, .int .i64 (p n).refs] := by unfold poolMap; rw [hh]; rfl
  have q2 : (poolMap p n).isSome = true := by rw [poolMap_isSome, hh]
  have hok := setBlk_ok (n := n) h.ok hK' (by omega) (by omega) (b := ⟨(p n).data, r⟩) (by simpa using hrK) (by simp; omega)
  have Q1 := Lib.hid q1
  have Q2 := Lib.hid q2
  have HR := Lib.hid hr
  have h0 : PoolAt (w.alloc (.cells #[.string (p n).data, .int .i64 r] 77)) g b K p := h.below ((Below.refl _ _).alloc (Nat.le_refl _) _)
  have c1 := h0.cell
  have hM1 := h0.map
  have i1 : IntKind.i64.wrap (((p n).refs : Int) + more) = (r : Int) := by rw [hr]; exact IntWalk.i64_in _ (by omega)
  have i2 : decide ((r : Int) < 1) = false := by simp; omega
  clear q1 q2 hh hr hn3
  go_enter Tryz.func161, Tryz.ntmps161
  go_wp2_with (first
    | (at_lookup; refine wpList_lookOk rfl _ _ 95 rfl 77 Tryz.underlying95 _ (Tryz.zeroBlock _) b 40 _ rfl hM n rfl (by omega) _ true Q1.out Q2.out ?_)
    | go_in)
  refine region_tail 6 (by kernel_rfl) (by kernel_rfl) ?_
  intro w2 hw2
  have h2 : PoolAt w2 g b K p := by rw [hw2]; exact h0.below (Below.refl _ _).drew
  have k0 : w2.cell? ⟨w.heap.size, 0, none⟩ = some (.string (p n).data) := by rw [hw2]; exact cell_of_row _ _ _ _ _ _ (heap_alloc_new w _)
  have k1 : w2.cell? ⟨w.heap.size, 1, none⟩ = some (.int .i64 r) := by rw [hw2]; exact cell_of_row _ _ _ _ _ _ (heap_alloc_new w _)
  have t2 : Turn [b] w w2 := ((Turn.refl _ _).alloc _).of_drew hw2
  have c2 := h2.cell
  have hM2 := h2.map
  clear hw2
  simp only [List.take_succ_cons, List.take_zero, List.drop_succ_cons, List.drop_zero]
  repeat still_step
  refine wpStill_nil ?_
  go_wp2_with (first
    | (at_mapUpdate; refine wpList_putMap rfl _ _ _ 95 rfl 77 Tryz.underlying95 b 40 _ rfl hM2 (by omega) n rfl (by omega) _ rfl ?_; intro w3 hM3 ht3)
    | go_in)
  go_ret
  exact ⟨rfl, h2.turned hM3 ht3 (fun x => poolMap_set (by omega) (by omega) (b := ⟨(p n).data, r⟩) (by simp; omega) x) hok, t2.turned ht3 (by simp)⟩

set_option maxHeartbeats 1000000 in
set_option maxRecDepth 100000 in
/-- .. the block goes. -/
theorem count_goes (g b K : Nat) (w : World) (p : PoolM) (n : Nat) (h : PoolAt w g b K p) (hh : hasBlk p n = true) (hr : (p n).refs = 1) :
    Calls Tryz.prog 161 #[.pointer (some ⟨g, 0, none⟩), .int .i64 n, .int .i64 (-1)] w fun e w' => e = .returned .nilIface ∧ PoolAt w' g b K (setBlk p n noBlk) ∧ Turn [b] w w' := by
  have c0 := h.cell
  have hM := h.map
  have hlt := h.lt
  obtain ⟨hn1, hn2, hn3⟩ := (hasBlk_iff p n).1 hh
  have q1 : (poolMap p n).getD (.agg #[.string ByteArray.empty, .int .i64 0]) = .agg #[.string (p n).data, .int .i64 1] := by unfold poolMap; rw [hh]; simp [blkV, hr]
  have q2 : (poolMap p n).isSome = true := by rw [poolMap_isSome, hh]
  have hok := setBlk_ok (n := n) h.ok (Nat.le_refl _) (by omega) (by omega) (b := noBlk) (by simp [noBlk]) (fun _ => rfl)
  have Q1 := Lib.hid q1
  have Q2 := Lib.hid q2
  have h0 : PoolAt (w.alloc (.cells #[.string (p n).data, .int .i64 0] 77)) g b K p := h.below ((Below.refl _ _).alloc (Nat.le_refl _) _)
  have c1 := h0.cell
  have hM1 := h0.map
  clear q1 q2 hh hr hn3
  go_enter Tryz.func161, Tryz.ntmps161
  go_wp2_with (first
    | (at_lookup; refine wpList_lookOk rfl _ _ 95 rfl 77 Tryz.underlying95 _ (Tryz.zeroBlock _) b 40 _ rfl hM n rfl (by omega) _ true Q1.out Q2.out ?_)
    | (at_delete; refine wpList_delMap rfl _ _ 95 rfl 77 Tryz.underlying95 b 40 _ rfl hM1 n rfl (by omega) ?_; intro w3 hM3 ht3)
    | go_in)
  go_ret
  exact ⟨rfl, h0.turned hM3 ht3 poolMap_del hok, ((Turn.refl _ _).alloc _).turned ht3 (by simp)⟩

/-- Ref. -/
theorem poolRef_any (g b K : Nat) (w : World) (p : PoolM) (id : Int) (h : PoolAt w g b K p) (hid : -9223372036854775808 ≤ id ∧ id ≤ 9223372036854775807) (hK : K ≤ 1000000000) :
    Calls Tryz.prog 152 #[.pointer (some ⟨g, 0, none⟩), .int .i64 id] w fun e w' => e = .returned (errV (refErr p id)) ∧ PoolAt w' g b (K + 1) (addRef p id) ∧ Turn [b] w w' := by
  cases hh : hasBlk p id with
  | true =>
    obtain ⟨h1, h2, h3⟩ := (hasBlk_iff p id).1 hh
    obtain ⟨n, rfl⟩ := Int.eq_ofNat_of_zero_le (show 0 ≤ id by omega)
    have hrefs := h.ok.refs n
    rw [show refErr p n = 0 by unfold refErr; rw [hh]; rfl, show addRef p n = setBlk p n ⟨(p n).data, (p n).refs + 1⟩ by unfold addRef; rw [hh]; rfl]
    have HC := Lib.hid (count_stays g b K (K + 1) w p n ((p n).refs + 1) 1 h hh (by omega) (by omega) (by omega) (by omega) (by omega) hK)
    clear hh h3
    go_enter Tryz.func152, Tryz.ntmps152
    go_wp2_with fail
    ((with_reducible refine HC.out.mono ?_); rintro e w1 ⟨rfl, h1, ht1⟩)
    go_wp2
    go_ret
    exact ⟨rfl, h1, ht1⟩
  | false =>
    rw [show refErr p id = 5 by unfold refErr; rw [hh]; rfl, show addRef p id = p by unfold addRef; rw [hh]; rfl]
    have HC := Lib.hid (count_no g b K w p id 1 h hid hh)
    clear hh
    go_enter Tryz.func152, Tryz.ntmps152
    go_wp2_with fail
    ((with_reducible refine HC.out.mono ?_); rintro e w1 ⟨rfl, hb1⟩)
    go_wp2
    go_ret
    exact ⟨rfl, (h.below hb1).mono (by omega), Turn.of_below hb1⟩

/-- Unref. -/
theorem poolUnref_any (g b K : Nat) (w : World) (p : PoolM) (id : Int) (h : PoolAt w g b K p) (hid : -9223372036854775808 ≤ id ∧ id ≤ 9223372036854775807) (hK : K ≤ 1000000000) :
    Calls Tryz.prog 138 #[.pointer (some ⟨g, 0, none⟩), .int .i64 id] w fun e w' => e = .returned (errV (refErr p id)) ∧ PoolAt w' g b K (subRef p id) ∧ Turn [b] w w' := by
  cases hh : hasBlk p id with
  | true =>
    obtain ⟨h1, h2, h3⟩ := (hasBlk_iff p id).1 hh
    obtain ⟨n, rfl⟩ := Int.eq_ofNat_of_zero_le (show 0 ≤ id by omega)
    have h3 : (p n).refs ≠ 0 := h3
    have hrefs := h.ok.refs n
    rw [show refErr p n = 0 by unfold refErr; rw [hh]; rfl, show subRef p n = setBlk p n (if (p n).refs = 1 then noBlk else ⟨(p n).data, (p n).refs - 1⟩) by unfold subRef; rw [hh]; rfl]
    have HC := Lib.hid (show Calls Tryz.prog 161 #[.pointer (some ⟨g, 0, none⟩), .int .i64 n, .int .i64 (-1)] w fun e w' => e = .returned .nilIface ∧ PoolAt w' g b K (setBlk p n (if (p n).refs = 1 then noBlk else ⟨(p n).data, (p n).refs - 1⟩)) ∧ Turn [b] w w' by
      by_cases hr : (p n).refs = 1
      · rw [if_pos hr]; exact count_goes g b K w p n h hh hr
      · rw [if_neg hr]; exact count_stays g b K K w p n ((p n).refs - 1) (-1) h hh (by omega) (by omega) (by omega) (by omega) (by omega) hK)
    generalize (if (p n).refs = 1 then noBlk else ⟨(p n).data, (p n).refs - 1⟩) = bb at HC ⊢
    clear hh h3
    go_enter Tryz.func138, Tryz.ntmps138
    go_wp2_with fail
    ((with_reducible refine HC.out.mono ?_); rintro e w1 ⟨rfl, h1, ht1⟩)
    go_wp2
    go_ret
    exact ⟨rfl, h1, ht1⟩
  | false =>
    rw [show refErr p id = 5 by unfold refErr; rw [hh]; rfl, show subRef p id = p by unfold subRef; rw [hh]; rfl]
    have HC := Lib.hid (count_no g b K w p id (-1) h hid hh)
    clear hh
    go_enter Tryz.func138, Tryz.ntmps138
    go_wp2_with fail
    ((with_reducible refine HC.out.mono ?_); rintro e w1 ⟨rfl, hb1⟩)
    go_wp2
    go_ret
    exact ⟨rfl, h.below hb1, Turn.of_below hb1⟩

theorem poolNumbers_any (g b K : Nat) (w : World) (p : PoolM) (h : PoolAt w g b K p) : Calls Tryz.prog 27 #[.pointer (some ⟨g, 0, none⟩)] w (RetInts w (numsOf p)) := by
  have c0 := h.cell
  go_enter Tryz.func27, Tryz.ntmps27
  go_wp2_with fail
  ((with_reducible refine (sorted_Block b 40 (poolMap p) _ h.map (by omega)).mono ?_); rintro e w1 ⟨v, rfl, hO, hb1⟩)
  go_wp2
  go_ret
  exact ⟨v, rfl, hO, hb1⟩
end Go.Proofs.YtlgahdabhnhjgaaGreatDoor
