/- Numbers of maps with any keys. -/
import Derived.Test.YtlgahdabhnhjgaaGreatDoorZqNums
import Derived.Test.YtlgahdabhnhjgaaGreatDoorZqMapG
/- numbered.Sorted, numbered.Lowest, of a map of nodes. -/
namespace Go.Proofs.YtlgahdabhnhjgaaGreatDoor
open Go.RowKit Go.Maps Go.Sort

theorem Tryz.zeroNode (w : World) : (zeroValue 81).run Tryz.prog w = .ok (.agg #[.int .i64 0, .int .i64 0, .int .i64 0, .int .i64 0, .int .i64 0]) w := by kernel_rfl

set_option maxHeartbeats 1000000 in
set_option maxRecDepth 100000 in
/-- Sorted, of a map of Nodes. -/
theorem sorted_Node (b N : Nat) (f : Int → Option Value) (w : World) (h : MapOf w b N f) (hN : N ≤ 1000) :
    Calls Tryz.prog 52 #[.map (some b)] w (RetInts w (keysOf N f)) := by
  obtain ⟨D, hD, h1, _, hs⟩ := h
  have hsize := MapOf.size hD h1 hs
  have hle := keysOf_le N f
  have hbl := hD.lt
  obtain ⟨i0, hi, hz0, hz1, hz2⟩ := info_parts Tryz.infoInt
  have HP := Lib.hid (show ∀ ss : List Int, ss.Nodup → (∀ x, x ∈ ss ↔ Maps.has D (.int .i64 x) = true) → ss.Perm (keysOf N f) from fun ss hn hm => perm_keys hs hn (fun x => by rw [hm x, h1 x]))
  have hn0 : Maps.size D ≤ 1000 := by omega
  clear h1 hs hsize
  go_enter Tryz.func52, Tryz.ntmps52
  go_wp2_with (first
    | (at_range; refine wpList_range_own _ rfl _ 64 rfl 3 81 intKeyed Tryz.underlying64 _ b (Maps.size D) _ rfl hD ?_; intro w0 hrg0 hg0 hs0)
    | go_in)
  go_frame
  go_loopw [3] (fun v wr => ∃ (left : Lit → Bool) (cnt : Nat) (ss : List Int), wr.ranges Tryz.prog 3 anyElem b w.heap.size (Maps.size D) D left cnt ∧ ss.length + cnt ≤ Maps.size D ∧ OwnInts wr w.heap.size v ss ∧ Met D left ss ∧ Below w.heap.size w wr)
    (fun _ wr => wr.rangeLeft b w.heap.size)
  case atStart =>
    exact ⟨_, _, [], hrg0, by simp, World.ownsRow_nil _ _ _ _, Met.start D, (Below.refl _ _).grown hg0 (Nat.le_refl _) (fun j hj => by cases hj)⟩
  case round =>
    obtain ⟨left, cnt, ss, hrg, hcs, hrow, hC, hnx⟩ := hrel
    go_wp2_with (first
      | (at_next; refine wpList_next_ranges _ rfl _ rfl 3 intKeyed anyElem (Value.int .i64) (fun u : Value => u) (fun key kl hk => by obtain ⟨x, hx, _⟩ := Maps.keyOf_int_inv Tryz.underlying3 hk; exact ⟨x, hx⟩) (fun v y _ => ⟨v, rfl⟩) b w.heap.size (Maps.size D) _ _ _ rfl hrg ?_ ?_)
      | go_in)
    · intro hc0 hl0
      have hsort := sort_own wr w.heap.size _ ss hrow (by omega) w.heap.size (Nat.le_refl _) hnx.size
      have HE := Lib.hid (sort_perm (HP.out ss hC.1 (fun x => by rw [hC.2 x, hl0]; simp)) (keysOf_sorted N f))
      clear hl0
      go_wp2_with fail
      ((with_reducible refine hsort.mono ?_); rintro e w' ⟨rfl, hO, hb⟩)
      go_wp2
      go_ret
      exact ⟨_, rfl, by rw [← HE.out]; exact hO, hnx.trans hb⟩
    · intro x c kl yd yp w2 cnt2 hkey hlk hv hat hrg2 hlt hg2 hs2 hen
      obtain ⟨x', ex, rfl, _⟩ := Maps.keyOf_int_inv Tryz.underlying3 hkey
      obtain rfl : x = x' := by injection ex
      have hrow2 : OwnInts w2 w.heap.size _ ss := World.ownsRow.kept hrow hg2 (Or.inr (row_ne_iter hrow hrg).symm)
      have hC2 := hC.step hlk hat
      clear hs2 hat hC
      go_wp2_with (first
        | (at_builtin; refine wpList_append_own _ rfl _ _ 61 rfl w.heap.size 3 i0 (.int .i64 0) 1 8 Tryz.underlying61 hi hz0 hz1 hz2 rfl (by decide) _ _ _ rfl (World.ownsRow.alloc hrow2 _) ⟨w2.heap.size, 0, none⟩ 1 1 [.int .i64 x] rfl rfl (cell_one_new _ _ _) (by simp [Value.oneCell']) (by unfold maxLen; omega) (by omega) (by have := hnx.size; have := hg2.size; simp; omega) ?_; intro v' w3 hown' hg3 hnil3; go_frame)
        | go_in)
      have hrg3 := (hrg2.alloc _).kept hg3 (row_ne_low hrow2 hbl) (row_ne_iter hrow2 hrg2)
      go_roundw
      case rel =>
        refine ⟨_, cnt2, ss ++ [x], hrg3, by simp; omega, ?_, hC2, ?_⟩
        · unfold OwnInts; simpa using hown'
        · exact ((hnx.grown hg2 hnx.size (fun j hj => by cases hj; exact Nat.le_refl _)).alloc (by have := hnx.size; have := hg2.size; omega) _).grown hg3 (by have := hnx.size; have := hg2.size; simp; omega) (fun j hj => (World.ownsRow.lt hrow2 j hj).1)
      case measure => rw [hrg3.left_eq, hrg.left_eq]; exact hlt

/-- Lowest, of a map of Nodes that has no element at a number n, but at all from 1 up to it. -/
theorem lowest_Node (b N : Nat) (f : Int → Option Value) (w : World) (h : MapOf w b N f) (hN : N ≤ 1000) (hf : ∀ m v, f m = some v → ∃ (k0 k1 k2 k3 r : Int), v = .agg #[.int .i64 k0, .int .i64 k1, .int .i64 k2, .int .i64 k3, .int .i64 r]) (n : Nat) (hn : 1 ≤ n) (h0 : f n = none) (h1 : ∀ m : Nat, 1 ≤ m → m < n → (f m).isSome = true) :
    Calls Tryz.prog 151 #[.map (some b)] w fun e w' => e = .returned (.int .i64 n) ∧ Below w.heap.size w w' := by
  have hnN : n ≤ N + 1 := by
    by_cases hc : n ≤ 1
    · omega
    · have h2 := h1 (n - 1) (by omega) (by omega)
      obtain ⟨_, _, _, _, hs⟩ := h
      have := hs _ h2
      omega
  have H1 := Lib.hid h1
  have HF := Lib.hid hf
  clear h1 hf
  go_enter Tryz.func151, Tryz.ntmps151
  go_wp2
  go_loopw [3] (fun i wr => ∃ k : Nat, 1 ≤ k ∧ k ≤ n ∧ i = .int .i64 k ∧ Below w.heap.size w wr) (fun i _ => n - (intOf i).toNat)
  case atStart => exact ⟨1, Nat.le_refl _, hn, rfl, Below.refl _ _⟩
  case round =>
    obtain ⟨k, hk1, hk, rfl, hb⟩ := hrel
    have hM := h.keep (hb.block b h.lt)
    have hsz := hb.size
    by_cases hlt : k < n
    · obtain ⟨u, hu⟩ := Option.isSome_iff_exists.1 (H1.out k hk1 hlt)
      obtain ⟨u0, u1, u2, u3, ur, rfl⟩ := HF.out _ _ hu
      have q1 : (f k).getD (.agg #[.int .i64 0, .int .i64 0, .int .i64 0, .int .i64 0, .int .i64 0]) = .agg #[.int .i64 u0, .int .i64 u1, .int .i64 u2, .int .i64 u3, .int .i64 ur] := by rw [hu]; rfl
      have q2 : (f k).isSome = true := by rw [hu]; rfl
      have Q1 := Lib.hid q1
      have Q2 := Lib.hid q2
      clear q1 q2 hu h0
      go_wp2_with (first
        | (at_lookup; refine wpList_lookOk rfl _ _ 64 rfl 81 Tryz.underlying64 _ (Tryz.zeroNode _) b N f rfl hM k rfl (by omega) _ true Q1.out Q2.out ?_)
        | go_in)
      go_roundw
      case rel => exact ⟨k + 1, by omega, hlt, by go_num, hb.alloc hsz _⟩
      case measure => simp [intOf]; omega
    · obtain rfl : k = n := by omega
      have q1 : (f k).getD (.agg #[.int .i64 0, .int .i64 0, .int .i64 0, .int .i64 0, .int .i64 0]) = (.agg #[.int .i64 0, .int .i64 0, .int .i64 0, .int .i64 0, .int .i64 0]) := by rw [h0]; rfl
      have q2 : (f k).isSome = false := by rw [h0]; rfl
      have Q1 := Lib.hid q1
      have Q2 := Lib.hid q2
      clear q1 q2 h0
      go_wp2_with (first
        | (at_lookup; refine wpList_lookOk rfl _ _ 64 rfl 81 Tryz.underlying64 _ (Tryz.zeroNode _) b N f rfl hM k rfl (by omega) _ false Q1.out Q2.out ?_)
        | go_in)
      go_ret
      exact ⟨rfl, hb.alloc hsz _⟩
end Go.Proofs.YtlgahdabhnhjgaaGreatDoor

/- Numbers of maps with any keys. -/
namespace Go.Proofs.YtlgahdabhnhjgaaGreatDoor
open Go.RowKit Go.Maps

def sortI (l : List Int) : List Int := l.mergeSort fun x y => decide (x ≤ y)
theorem sortI_perm (l : List Int) : (sortI l).Perm l := List.mergeSort_perm l _
theorem sortI_sorted (l : List Int) : (sortI l).Pairwise (fun a b => a ≤ b) := by
  have tr : ∀ a b c : Int, decide (a ≤ b) = true → decide (b ≤ c) = true → decide (a ≤ c) = true := fun a b c h1 h2 => by simp at *; omega
  have tot : ∀ a b : Int, (decide (a ≤ b) || decide (b ≤ a)) = true := fun a b => by simp; omega
  exact (List.pairwise_mergeSort tr tot l).imp (by simp)
theorem sort_permI {l l' : List Int} (h : l.Perm l') (hs : l'.Pairwise (fun a b => a ≤ b)) : sortI l = l' := sort_perm h hs
theorem mem_sortI (l : List Int) (x : Int) : x ∈ sortI l ↔ x ∈ l := (List.mergeSort_perm l _).mem_iff
theorem sortI_len (l : List Int) : (sortI l).length = l.length := List.length_mergeSort _

set_option maxHeartbeats 1000000 in
set_option maxRecDepth 100000 in
/-- Sorted, of a map of Blocks with any keys. -/
theorem sortedG_Block (b : Nat) (ks : List Int) (f : Int → Option Value) (w : World) (h : MapG w b ks f) (hN : ks.length ≤ 1000) :
    Calls Tryz.prog 53 #[.map (some b)] w (RetInts w (sortI ks)) := by
  obtain ⟨D, hD, h1, _, h3, h4⟩ := h
  have hsize := MapG.size_eq hD h1 h3 h4
  have hbl := hD.lt
  obtain ⟨i0, hi, hz0, hz1, hz2⟩ := info_parts Tryz.infoInt
  have HP := Lib.hid (show ∀ ss : List Int, ss.Nodup → (∀ x, x ∈ ss ↔ Maps.has D (.int .i64 x) = true) → ss.Perm ks from fun ss hn hm => (List.perm_ext_iff_of_nodup hn h4).2 fun x => by rw [hm x, h1 x, h3 x])
  have hn0 : Maps.size D ≤ 1000 := by omega
  clear h1 h3 h4 hsize
  go_enter Tryz.func53, Tryz.ntmps53
  go_wp2_with (first
    | (at_range; refine wpList_range_own _ rfl _ 95 rfl 3 77 intKeyed Tryz.underlying95 _ b (Maps.size D) _ rfl hD ?_; intro w0 hrg0 hg0 hs0)
    | go_in)
  go_frame
  go_loopw [3] (fun v wr => ∃ (left : Lit → Bool) (cnt : Nat) (ss : List Int), wr.ranges Tryz.prog 3 anyElem b w.heap.size (Maps.size D) D left cnt ∧ ss.length + cnt ≤ Maps.size D ∧ OwnInts wr w.heap.size v ss ∧ Met D left ss ∧ Below w.heap.size w wr)
    (fun _ wr => wr.rangeLeft b w.heap.size)
  case atStart =>
    exact ⟨_, _, [], hrg0, by simp, World.ownsRow_nil _ _ _ _, Met.start D, (Below.refl _ _).grown hg0 (Nat.le_refl _) (fun j hj => by cases hj)⟩
  case round =>
    obtain ⟨left, cnt, ss, hrg, hcs, hrow, hC, hnx⟩ := hrel
    go_wp2_with (first
      | (at_next; refine wpList_next_ranges _ rfl _ rfl 3 intKeyed anyElem (Value.int .i64) (fun u : Value => u) (fun key kl hk => by obtain ⟨x, hx, _⟩ := Maps.keyOf_int_inv Tryz.underlying3 hk; exact ⟨x, hx⟩) (fun v y _ => ⟨v, rfl⟩) b w.heap.size (Maps.size D) _ _ _ rfl hrg ?_ ?_)
      | go_in)
    · intro hc0 hl0
      have hsort := sort_own wr w.heap.size _ ss hrow (by omega) w.heap.size (Nat.le_refl _) hnx.size
      have HE := Lib.hid (sort_permI ((HP.out ss hC.1 (fun x => by rw [hC.2 x, hl0]; simp)).trans (sortI_perm ks).symm) (sortI_sorted ks))
      clear hl0
      go_wp2_with fail
      ((with_reducible refine hsort.mono ?_); rintro e w' ⟨rfl, hO, hb⟩)
      go_wp2
      go_ret
      exact ⟨_, rfl, HE.out ▸ hO, hnx.trans hb⟩
    · intro x c kl yd yp w2 cnt2 hkey hlk hv hat hrg2 hlt hg2 hs2 hen
      obtain ⟨x', ex, rfl, _⟩ := Maps.keyOf_int_inv Tryz.underlying3 hkey
      obtain rfl : x = x' := by injection ex
      have hrow2 : OwnInts w2 w.heap.size _ ss := World.ownsRow.kept hrow hg2 (Or.inr (row_ne_iter hrow hrg).symm)
      have hC2 := hC.step hlk hat
      clear hs2 hat hC
      go_wp2_with (first
        | (at_builtin; refine wpList_append_own _ rfl _ _ 61 rfl w.heap.size 3 i0 (.int .i64 0) 1 8 Tryz.underlying61 hi hz0 hz1 hz2 rfl (by decide) _ _ _ rfl (World.ownsRow.alloc hrow2 _) ⟨w2.heap.size, 0, none⟩ 1 1 [.int .i64 x] rfl rfl (cell_one_new _ _ _) (by simp [Value.oneCell']) (by unfold maxLen; omega) (by omega) (by have := hnx.size; have := hg2.size; simp; omega) ?_; intro v' w3 hown' hg3 hnil3; go_frame)
        | go_in)
      have hrg3 := (hrg2.alloc _).kept hg3 (row_ne_low hrow2 hbl) (row_ne_iter hrow2 hrg2)
      go_roundw
      case rel =>
        refine ⟨_, cnt2, ss ++ [x], hrg3, by simp; omega, ?_, hC2, ?_⟩
        · unfold OwnInts; simpa using hown'
        · exact ((hnx.grown hg2 hnx.size (fun j hj => by cases hj; exact Nat.le_refl _)).alloc (by have := hnx.size; have := hg2.size; omega) _).grown hg3 (by have := hnx.size; have := hg2.size; simp; omega) (fun j hj => (World.ownsRow.lt hrow2 j hj).1)
      case measure => rw [hrg3.left_eq, hrg.left_eq]; exact hlt

set_option maxHeartbeats 1000000 in
set_option maxRecDepth 100000 in
/-- Sorted, of a map of Nodes with any keys. -/
theorem sortedG_Node (b : Nat) (ks : List Int) (f : Int → Option Value) (w : World) (h : MapG w b ks f) (hN : ks.length ≤ 1000) :
    Calls Tryz.prog 52 #[.map (some b)] w (RetInts w (sortI ks)) := by
  obtain ⟨D, hD, h1, _, h3, h4⟩ := h
  have hsize := MapG.size_eq hD h1 h3 h4
  have hbl := hD.lt
  obtain ⟨i0, hi, hz0, hz1, hz2⟩ := info_parts Tryz.infoInt
  have HP := Lib.hid (show ∀ ss : List Int, ss.Nodup → (∀ x, x ∈ ss ↔ Maps.has D (.int .i64 x) = true) → ss.Perm ks from fun ss hn hm => (List.perm_ext_iff_of_nodup hn h4).2 fun x => by rw [hm x, h1 x, h3 x])
  have hn0 : Maps.size D ≤ 1000 := by omega
  clear h1 h3 h4 hsize
  go_enter Tryz.func52, Tryz.ntmps52
  go_wp2_with (first
    | (at_range; refine wpList_range_own _ rfl _ 64 rfl 3 81 intKeyed Tryz.underlying64 _ b (Maps.size D) _ rfl hD ?_; intro w0 hrg0 hg0 hs0)
    | go_in)
  go_frame
  go_loopw [3] (fun v wr => ∃ (left : Lit → Bool) (cnt : Nat) (ss : List Int), wr.ranges Tryz.prog 3 anyElem b w.heap.size (Maps.size D) D left cnt ∧ ss.length + cnt ≤ Maps.size D ∧ OwnInts wr w.heap.size v ss ∧ Met D left ss ∧ Below w.heap.size w wr)
    (fun _ wr => wr.rangeLeft b w.heap.size)
  case atStart =>
    exact ⟨_, _, [], hrg0, by simp, World.ownsRow_nil _ _ _ _, Met.start D, (Below.refl _ _).grown hg0 (Nat.le_refl _) (fun j hj => by cases hj)⟩
  case round =>
    obtain ⟨left, cnt, ss, hrg, hcs, hrow, hC, hnx⟩ := hrel
    go_wp2_with (first
      | (at_next; refine wpList_next_ranges _ rfl _ rfl 3 intKeyed anyElem (Value.int .i64) (fun u : Value => u) (fun key kl hk => by obtain ⟨x, hx, _⟩ := Maps.keyOf_int_inv Tryz.underlying3 hk; exact ⟨x, hx⟩) (fun v y _ => ⟨v, rfl⟩) b w.heap.size (Maps.size D) _ _ _ rfl hrg ?_ ?_)
      | go_in)
    · intro hc0 hl0
      have hsort := sort_own wr w.heap.size _ ss hrow (by omega) w.heap.size (Nat.le_refl _) hnx.size
      have HE := Lib.hid (sort_permI ((HP.out ss hC.1 (fun x => by rw [hC.2 x, hl0]; simp)).trans (sortI_perm ks).symm) (sortI_sorted ks))
      clear hl0
      go_wp2_with fail
      ((with_reducible refine hsort.mono ?_); rintro e w' ⟨rfl, hO, hb⟩)
      go_wp2
      go_ret
      exact ⟨_, rfl, HE.out ▸ hO, hnx.trans hb⟩
    · intro x c kl yd yp w2 cnt2 hkey hlk hv hat hrg2 hlt hg2 hs2 hen
      obtain ⟨x', ex, rfl, _⟩ := Maps.keyOf_int_inv Tryz.underlying3 hkey
      obtain rfl : x = x' := by injection ex
      have hrow2 : OwnInts w2 w.heap.size _ ss := World.ownsRow.kept hrow hg2 (Or.inr (row_ne_iter hrow hrg).symm)
      have hC2 := hC.step hlk hat
      clear hs2 hat hC
      go_wp2_with (first
        | (at_builtin; refine wpList_append_own _ rfl _ _ 61 rfl w.heap.size 3 i0 (.int .i64 0) 1 8 Tryz.underlying61 hi hz0 hz1 hz2 rfl (by decide) _ _ _ rfl (World.ownsRow.alloc hrow2 _) ⟨w2.heap.size, 0, none⟩ 1 1 [.int .i64 x] rfl rfl (cell_one_new _ _ _) (by simp [Value.oneCell']) (by unfold maxLen; omega) (by omega) (by have := hnx.size; have := hg2.size; simp; omega) ?_; intro v' w3 hown' hg3 hnil3; go_frame)
        | go_in)
      have hrg3 := (hrg2.alloc _).kept hg3 (row_ne_low hrow2 hbl) (row_ne_iter hrow2 hrg2)
      go_roundw
      case rel =>
        refine ⟨_, cnt2, ss ++ [x], hrg3, by simp; omega, ?_, hC2, ?_⟩
        · unfold OwnInts; simpa using hown'
        · exact ((hnx.grown hg2 hnx.size (fun j hj => by cases hj; exact Nat.le_refl _)).alloc (by have := hnx.size; have := hg2.size; omega) _).grown hg3 (by have := hnx.size; have := hg2.size; simp; omega) (fun j hj => (World.ownsRow.lt hrow2 j hj).1)
      case measure => rw [hrg3.left_eq, hrg.left_eq]; exact hlt

end Go.Proofs.YtlgahdabhnhjgaaGreatDoor
