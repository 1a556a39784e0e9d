/- Package log: little, and sector. -/
import Derived.Test.YthhedahfmllnoaaZqRow2
import Derived.Test.YthhedahfmllnoaaZqCalm
namespace Go.Proofs.Ythhedahfmllnoaa
open Go.RowKit
attribute [local go_sem ↓] Go.wp_at_zero Go.wp_at_succ

/-- The last bytes of a number, the least first. -/
def lit (n many : Nat) : List UInt8 := (List.range many).map fun k => UInt8.ofNat (n / 2 ^ (8 * k))
theorem lit_length (n many : Nat) : (lit n many).length = many := by simp [lit]

/-- So many bytes are laid, the others are zeros. -/
def litTo (n many k : Nat) : List UInt8 := (List.range many).map fun i => if i < k then UInt8.ofNat (n / 2 ^ (8 * i)) else 0
theorem litTo_zero (n many : Nat) : litTo n many 0 = List.replicate many 0 := by
  apply List.ext_getElem (by simp [litTo]); intro i h1 h2; simp [litTo]
theorem litTo_all (n many : Nat) : litTo n many many = lit n many := by
  apply List.ext_getElem (by simp [litTo, lit]); intro i h1 h2
  simp [litTo] at h1
  simp [litTo, lit, h1]
theorem litTo_set (n many k : Nat) : (litTo n many k).set k (UInt8.ofNat (n / 2 ^ (8 * k))) = litTo n many (k + 1) := by
  apply List.ext_getElem (by simp [litTo]); intro i h1 h2
  simp only [litTo, List.length_set, List.length_map, List.length_range] at h1
  simp only [litTo, List.getElem_set, List.getElem_map, List.getElem_range]
  by_cases h : k = i
  · subst h; simp
  · rw [if_neg h]
    by_cases h' : i < k
    · rw [if_pos h', if_pos (by omega)]
    · rw [if_neg h', if_neg (by omega)]
theorem byte_of (m : Nat) : ((UInt8.ofNat m).toNat : Int) = (m : Int) % 256 := by simp

theorem bv_set (l : List UInt8) (k : Nat) (b : UInt8) : (bv l).toArray.setIfInBounds k (.int .u8 (b.toNat : Int)) = (bv (l.set k b)).toArray := by
  simp [bv, List.map_set]

set_option maxHeartbeats 1000000 in
theorem little_any (w : World) (n many : Nat) (hm : many ≤ 8) :
    Calls Try.prog 67 #[.int .i64 (n : Int), .int .i64 (many : Int)] w fun e w' => e = .returned (.string ⟨(lit n many).toArray⟩) ∧ Below w.heap.size w w' := by
  have hmk : (Instr.makeSlice 94 (.int .i64 (many : Int)) (.int .i64 (many : Int))).run Try.prog w = .ok (.slice (some ⟨w.heap.size, 0, none⟩) many many) (w.alloc (.cells (bv (litTo n many 0)).toArray 5)) := by
    obtain ⟨inf, hin, hz0, hz1, hz2⟩ := info_parts Try.infoByteZ
    have h := run_make (P := Try.prog) w 94 5 inf _ Try.underlying94 hin hz0 .i64 .i64 (many : Int) (many : Int) (by omega) (Int.le_refl _) (by rw [hz2]; omega) (by omega)
    rw [h, hz1, litTo_zero]
    simp only [Int.toNat_natCast, Value.cells, Nat.mul_one, made_bytes]
  have HB0 := Lib.hid (show Below w.heap.size w (w.alloc (.cells (bv (litTo n many 0)).toArray 5)) from (Below.refl _ _).alloc (Nat.le_refl _) _)
  have HR0 := Lib.hid (heap_alloc_new w (.cells (bv (litTo n many 0)).toArray 5))
  go_enter Try.func67, Try.ntmps67
  go_wp2
  clear hmk
  go_loopw [11] (fun i w' => ∃ k : Nat, k ≤ many ∧ i = .int .i64 k ∧ w'.heap[w.heap.size]? = some (.cells (bv (litTo n many k)).toArray 5 (0, 0)) ∧ Below w.heap.size w w') (fun i _ => many - (intOf i).toNat)
  case atStart => exact ⟨0, Nat.zero_le _, rfl, HR0.out, HB0.out⟩
  case round =>
    obtain ⟨k, hk, rfl, hr, hb⟩ := hrel
    clear HR0 HB0
    by_cases hlt : k < many
    · have i1 : (k : Int) < (many : Int) := by omega
      have i0 : (0 : Int) ≤ (k : Int) := by omega
      have ck : ∃ v, wr.cell? ⟨w.heap.size, k, none⟩ = some v := by
        rw [cell_of_row _ _ _ _ _ _ hr]; exact ⟨_, Array.getElem?_eq_getElem (by simp [bv, litTo]; exact hlt)⟩
      obtain ⟨v, ck⟩ := ck
      have fk : wr.frozen? ⟨w.heap.size, k, none⟩ = false := frozen_of_row _ _ _ _ _ hr
      have HR := Lib.hid hr
      clear hr
      go_wp2
      have hv : ((n : Int) / 2 ^ (8 * k) % 256) = ((UInt8.ofNat (n / 2 ^ (8 * k))).toNat : Int) := by rw [byte_of]; simp
      refine ⟨⟨k + 1, by omega, by go_num, ?_, hb.setCell (p := ⟨w.heap.size, k, none⟩) (Nat.le_refl _) _⟩, by simp [intOf]; omega⟩
      have := heap_setCell_same wr w.heap.size k _ _ (.int .u8 ((UInt8.ofNat (n / 2 ^ (8 * k))).toNat : Int)) HR.out
      rw [bv_set, litTo_set] at this
      rw [hv]
      exact this
    · obtain rfl : k = many := by omega
      have hcv := run_text_at (P := Try.prog) wr 94 9 5 w.heap.size 0 k (litTo n k k) Try.underlying94 Try.underlying5 Try.underlying9 (range_of_row hr (fun j v hj => by simpa using hj))
      rw [litTo_all, lit_length] at hcv
      generalize hS : (⟨(lit n k).toArray⟩ : ByteArray) = S at *
      have HS := Lib.hid hS
      clear hr hS
      go_wp2
      go_ret
      exact ⟨by rw [HS.out]; rfl, hb⟩

theorem little4 (w : World) (x : Int) (hx : 0 ≤ x) : Calls Try.prog 67 #[.int .i64 x, .int .i64 4] w fun e w' => e = .returned (.string ⟨(lit x.toNat 4).toArray⟩) ∧ Below w.heap.size w w' := by
  obtain ⟨n, rfl⟩ := Int.eq_ofNat_of_zero_le hx
  exact little_any w n 4 (by omega)
theorem little2 (w : World) (x : Int) (hx : 0 ≤ x) : Calls Try.prog 67 #[.int .i64 x, .int .i64 2] w fun e w' => e = .returned (.string ⟨(lit x.toNat 2).toArray⟩) ∧ Below w.heap.size w w' := by
  obtain ⟨n, rfl⟩ := Int.eq_ofNat_of_zero_le hx
  exact little_any w n 2 (by omega)

/-- A written sector. -/
def secB (n : Nat) (kind : UInt8) (content : ByteArray) : ByteArray := (⟨[kind].toArray⟩ : ByteArray) ++ ⟨(lit n 4).toArray⟩ ++ ⟨(lit content.size 2).toArray⟩ ++ content

theorem secB_eq (n : Nat) (kind : UInt8) (content : ByteArray) : secB n kind content = (⟨[kind].toArray⟩ : ByteArray) ++ ⟨(lit n 4).toArray⟩ ++ ⟨(lit content.size 2).toArray⟩ ++ content := rfl
theorem lit_size (n m : Nat) : (⟨(lit n m).toArray⟩ : ByteArray).size = m := by simp [ByteArray.size, lit_length]

set_option linter.unusedSimpArgs false in
set_option maxHeartbeats 2000000 in
set_option maxRecDepth 100000 in
theorem sector_any (w : World) (gl : Nat) (first k : Int) (kind : UInt8) (content : ByteArray) (hc : w.cell? ⟨gl, 3, none⟩ = some (.int .i64 first)) (h1 : 0 ≤ first) (h2 : 0 ≤ k) (h3 : first ≤ 1000000000) (h4 : k ≤ 1000000000) (hcs : content.size ≤ 1000) :
    Calls Try.prog 66 #[.pointer (some ⟨gl, 0, none⟩), .int .i64 k, .int .u8 (kind.toNat : Int), .string content] w fun e w' => e = .returned (.string (secB (first + k).toNat kind content)) ∧ Below w.heap.size w w' := by
  have hgl : gl < w.heap.size := World.block_lt_of_cell? w _ hc
  obtain ⟨inf, hin, hz0, hz1, hz2⟩ := info_parts Try.infoByteZ
  have HIN := Lib.hid hin
  have HZ0 := Lib.hid hz0
  have HZ1 := Lib.hid hz1
  have KC := Lib.hid (fun w' (h : Below w.heap.size w w') => (h.cell (p := ⟨gl, 3, none⟩) hgl).trans hc)
  have hB0 : Below w.heap.size w w.drew := (Below.refl _ _).drew
  have H4' := fun w' => little4 w' (first + k) (by omega)
  have H2' := fun w' => little2 w' (content.size : Int) (by omega)
  obtain ⟨t1, ht1⟩ : ∃ t : ByteArray, (⟨[kind].toArray⟩ : ByteArray) = t := ⟨_, rfl⟩
  obtain ⟨t2, ht2⟩ : ∃ t : ByteArray, (⟨(lit (first + k).toNat 4).toArray⟩ : ByteArray) = t := ⟨_, rfl⟩
  obtain ⟨t3, ht3⟩ : ∃ t : ByteArray, (⟨(lit (content.size : Int).toNat 2).toArray⟩ : ByteArray) = t := ⟨_, rfl⟩
  have s1 : t1.size ≤ 1 := by rw [← ht1]; exact Nat.le_refl _
  have s2 : t2.size ≤ 4 := by rw [← ht2, lit_size]; exact Nat.le_refl _
  have s3 : t3.size ≤ 2 := by rw [← ht3, lit_size]; exact Nat.le_refl _
  have HS := Lib.hid (show secB (first + k).toNat kind content = t1 ++ t2 ++ t3 ++ content by rw [secB_eq, ht1, ht2, ← ht3]; rfl)
  rw [ht2] at H4'
  rw [ht3] at H2'
  have H4 := Lib.hid H4'
  have H2 := Lib.hid H2'
  have HT1 := Lib.hid ht1
  obtain ⟨kd, hkd⟩ : ∃ kd : Int, (kind.toNat : Int) = kd := ⟨_, rfl⟩
  have HKD := Lib.hid (show (bv [kind]).toArray = #[.int .u8 kd] by rw [← hkd]; rfl)
  rw [hkd]
  generalize secB (first + k).toNat kind content = R at *
  have q1 : ¬ (9223372036854775807 < t1.size + t2.size) := by omega
  have q2 : ¬ (9223372036854775807 < t1.size + t2.size + t3.size) := by omega
  have q3 : ¬ (9223372036854775807 < t1.size + t2.size + t3.size + content.size) := by omega
  have a1 : IntKind.i64.wrap (first + k) = first + k := IntWalk.i64_in _ (by omega)
  clear H4' H2' ht1 ht2 ht3 hkd hin hz0 hz1 hz2
  go_enter Try.func66, Try.ntmps66
  go_wp2_with fail
  -- SECTOR WALK
  refine wp_region_any (by kernel_rfl) ?_
  (try (change wpAny _ _ _ _ _ _ _ (World.drew _)))
  refine wpAny_take (i := 0) (v := ?_) rfl (by kernel_rfl) (by kernel_rfl) (by kernel_rfl) (fun _ _ _ h => h) (Or.inl ⟨by rfl, ?_⟩) ?_
  rotate_left
  · intro w; go_simp; (try with_reducible rfl)
  refine wpAny_take (i := 3) (v := ?_) rfl (by kernel_rfl) (by kernel_rfl) (by kernel_rfl) (fun _ _ _ h => h) (Or.inl ⟨by rfl, ?_⟩) ?_
  rotate_left
  · intro w; go_simp; (try with_reducible rfl)
  refine wpAny_take (i := 4) (v := ?_) rfl (by kernel_rfl) (by kernel_rfl) (by kernel_rfl) (fun _ _ _ h => h) (Or.inl ⟨by rfl, ?_⟩) ?_
  rotate_left
  · intro w; go_simp; (try with_reducible rfl)
  refine wpAny_take (i := 5) (v := ?_) rfl (by kernel_rfl) (by kernel_rfl) (by kernel_rfl) (fun _ _ _ h => h) (Or.inl ⟨by rfl, ?_⟩) ?_
  rotate_left
  · intro w; go_simp; (try with_reducible rfl)
  refine wpAny_take (i := 7) (v := ?_) rfl (by kernel_rfl) (by kernel_rfl) (by kernel_rfl) (fun _ _ _ h => h) (Or.inl ⟨by rfl, ?_⟩) ?_
  rotate_left
  · intro w; go_simp; (try with_reducible rfl)
  refine wpAny_take (i := 11) (v := ?_) rfl (by kernel_rfl) (by kernel_rfl) (by kernel_rfl) (fun _ _ _ h => h) (Or.inl ⟨by rfl, ?_⟩) ?_
  rotate_left
  · intro w; go_simp; (try with_reducible rfl)
  refine wpAny_take (i := 12) (v := ?_) rfl (by kernel_rfl) (by kernel_rfl) (by kernel_rfl) (fun _ _ _ h => h) (Or.inl ⟨by rfl, ?_⟩) ?_
  rotate_left
  · intro w; go_simp; (try with_reducible rfl)
  refine wpAny_take (i := 15) (v := ?_) rfl (by kernel_rfl) (by kernel_rfl) (by kernel_rfl) (fun _ _ _ h => h) (Or.inl ⟨by rfl, ?_⟩) ?_
  rotate_left
  · intro w; go_simp; (try with_reducible rfl)
  refine wpAny_ready (rs := [1, 6]) (by kernel_rfl) (by simp) ?_
  refine AllReady.cons rfl (fun K hK => ?_) ?_
  · refine step_build1 rfl 94 _ rfl (.int .u8 kd) (by simp [Act.eval, Act.put]) 5 inf _ Try.underlying94 HIN.out HZ0.out HZ1.out rfl ?_
    intro N v1 hN hrow1 hb1 hlt1
    clear hN
    go_simp
    refine hK _ _ ?_
    clear hK K
    have hB1 := belowThen hB0 hb1
    have c1 := KC.out _ hB1
    refine wpAny_ready (rs := [2, 6]) (by kernel_rfl) (by simp) ?_
    refine AllReady.cons rfl (fun K hK => ?_) ?_
    · refine step_text rfl 94 9 _ rfl N 1 1 [kind] (by simp [Act.eval, Act.put]) rfl 5 Try.underlying94 Try.underlying5 Try.underlying9 5 (0, 0) #[.int .u8 kd] HKD.out hrow1 t1 HT1.out ?_
      go_simp
      refine hK _ _ ?_
      clear hK K
      refine wpAny_ready (rs := [6]) (by kernel_rfl) (by simp) ?_
      refine AllReady.cons rfl (fun K hK => ?_) AllReady.nil
      go_simp
      refine hK _ _ ?_
      clear hK K
      refine wpAny_take (i := 8) (v := ?_) rfl (by kernel_rfl) (by kernel_rfl) (by kernel_rfl) (fun _ _ _ h => h) (Or.inl ⟨by rfl, ?_⟩) ?_
      rotate_left
      · intro w; go_simp; (try with_reducible rfl)
      refine wpAny_ready (rs := [9]) (by kernel_rfl) (by simp) ?_
      refine AllReady.cons rfl (fun K hK => ?_) AllReady.nil
      go_simp
      refine (H4.out _).mono ?_
      rintro e v2 ⟨rfl, hb2⟩
      (try go_simp)
      refine hK _ _ ?_
      clear hK K
      have hB2 := belowThen hB1 hb2
      have c2 := KC.out _ hB2
      have hrow2 := (hb2.block N hlt1).trans hrow1
      have hlt2 := Nat.lt_of_lt_of_le hlt1 hb2.size
      refine wpAny_take (i := 10) (v := ?_) rfl (by kernel_rfl) (by kernel_rfl) (by kernel_rfl) (fun _ _ _ h => h) (Or.inl ⟨by rfl, ?_⟩) ?_
      rotate_left
      · intro w; go_simp; (try with_reducible rfl)
      refine wpAny_ready (rs := [13]) (by kernel_rfl) (by simp) ?_
      refine AllReady.cons rfl (fun K hK => ?_) AllReady.nil
      go_simp
      refine (H2.out _).mono ?_
      rintro e v3 ⟨rfl, hb3⟩
      (try go_simp)
      refine hK _ _ ?_
      clear hK K
      have hB3 := belowThen hB2 hb3
      have c3 := KC.out _ hB3
      have hrow3 := (hb3.block N hlt2).trans hrow2
      have hlt3 := Nat.lt_of_lt_of_le hlt2 hb3.size
      refine wpAny_take (i := 14) (v := ?_) rfl (by kernel_rfl) (by kernel_rfl) (by kernel_rfl) (fun _ _ _ h => h) (Or.inl ⟨by rfl, ?_⟩) ?_
      rotate_left
      · intro w; go_simp; (try with_reducible rfl)
      refine wpAny_take (i := 16) (v := ?_) rfl (by kernel_rfl) (by kernel_rfl) (by kernel_rfl) (fun _ _ _ h => h) (Or.inl ⟨by rfl, ?_⟩) ?_
      rotate_left
      · intro w; go_simp; (try with_reducible rfl)
      refine wpAny_take (i := 17) (v := ?_) rfl (by kernel_rfl) (by kernel_rfl) (by kernel_rfl) (fun _ _ _ h => h) (Or.inl ⟨by rfl, ?_⟩) ?_
      rotate_left
      · intro w; go_simp; (try with_reducible rfl)
      refine wpAny_done (by kernel_rfl) ?_ _
      go_wp2
      go_ret
      exact ⟨by rw [HS.out]; rfl, hB3⟩
    refine AllReady.cons rfl (fun K hK => ?_) AllReady.nil
    go_simp
    refine hK _ _ ?_
    clear hK K
    refine wpAny_take (i := 8) (v := ?_) rfl (by kernel_rfl) (by kernel_rfl) (by kernel_rfl) (fun _ _ _ h => h) (Or.inl ⟨by rfl, ?_⟩) ?_
    rotate_left
    · intro w; go_simp; (try with_reducible rfl)
    refine wpAny_ready (rs := [2, 9]) (by kernel_rfl) (by simp) ?_
    refine AllReady.cons rfl (fun K hK => ?_) ?_
    · refine step_text rfl 94 9 _ rfl N 1 1 [kind] (by simp [Act.eval, Act.put]) rfl 5 Try.underlying94 Try.underlying5 Try.underlying9 5 (0, 0) #[.int .u8 kd] HKD.out hrow1 t1 HT1.out ?_
      go_simp
      refine hK _ _ ?_
      clear hK K
      refine wpAny_ready (rs := [9]) (by kernel_rfl) (by simp) ?_
      refine AllReady.cons rfl (fun K hK => ?_) AllReady.nil
      go_simp
      refine (H4.out _).mono ?_
      rintro e v2 ⟨rfl, hb2⟩
      (try go_simp)
      refine hK _ _ ?_
      clear hK K
      have hB2 := belowThen hB1 hb2
      have c2 := KC.out _ hB2
      have hrow2 := (hb2.block N hlt1).trans hrow1
      have hlt2 := Nat.lt_of_lt_of_le hlt1 hb2.size
      refine wpAny_take (i := 10) (v := ?_) rfl (by kernel_rfl) (by kernel_rfl) (by kernel_rfl) (fun _ _ _ h => h) (Or.inl ⟨by rfl, ?_⟩) ?_
      rotate_left
      · intro w; go_simp; (try with_reducible rfl)
      refine wpAny_ready (rs := [13]) (by kernel_rfl) (by simp) ?_
      refine AllReady.cons rfl (fun K hK => ?_) AllReady.nil
      go_simp
      refine (H2.out _).mono ?_
      rintro e v3 ⟨rfl, hb3⟩
      (try go_simp)
      refine hK _ _ ?_
      clear hK K
      have hB3 := belowThen hB2 hb3
      have c3 := KC.out _ hB3
      have hrow3 := (hb3.block N hlt2).trans hrow2
      have hlt3 := Nat.lt_of_lt_of_le hlt2 hb3.size
      refine wpAny_take (i := 14) (v := ?_) rfl (by kernel_rfl) (by kernel_rfl) (by kernel_rfl) (fun _ _ _ h => h) (Or.inl ⟨by rfl, ?_⟩) ?_
      rotate_left
      · intro w; go_simp; (try with_reducible rfl)
      refine wpAny_take (i := 16) (v := ?_) rfl (by kernel_rfl) (by kernel_rfl) (by kernel_rfl) (fun _ _ _ h => h) (Or.inl ⟨by rfl, ?_⟩) ?_
      rotate_left
      · intro w; go_simp; (try with_reducible rfl)
      refine wpAny_take (i := 17) (v := ?_) rfl (by kernel_rfl) (by kernel_rfl) (by kernel_rfl) (fun _ _ _ h => h) (Or.inl ⟨by rfl, ?_⟩) ?_
      rotate_left
      · intro w; go_simp; (try with_reducible rfl)
      refine wpAny_done (by kernel_rfl) ?_ _
      go_wp2
      go_ret
      exact ⟨by rw [HS.out]; rfl, hB3⟩
    refine AllReady.cons rfl (fun K hK => ?_) AllReady.nil
    go_simp
    refine (H4.out _).mono ?_
    rintro e v2 ⟨rfl, hb2⟩
    (try go_simp)
    refine hK _ _ ?_
    clear hK K
    have hB2 := belowThen hB1 hb2
    have c2 := KC.out _ hB2
    have hrow2 := (hb2.block N hlt1).trans hrow1
    have hlt2 := Nat.lt_of_lt_of_le hlt1 hb2.size
    refine wpAny_ready (rs := [2, 13]) (by kernel_rfl) (by simp) ?_
    refine AllReady.cons rfl (fun K hK => ?_) ?_
    · refine step_text rfl 94 9 _ rfl N 1 1 [kind] (by simp [Act.eval, Act.put]) rfl 5 Try.underlying94 Try.underlying5 Try.underlying9 5 (0, 0) #[.int .u8 kd] HKD.out hrow2 t1 HT1.out ?_
      go_simp
      refine hK _ _ ?_
      clear hK K
      refine wpAny_take (i := 10) (v := ?_) rfl (by kernel_rfl) (by kernel_rfl) (by kernel_rfl) (fun _ _ _ h => h) (Or.inl ⟨by rfl, ?_⟩) ?_
      rotate_left
      · intro w; go_simp; (try with_reducible rfl)
      refine wpAny_ready (rs := [13]) (by kernel_rfl) (by simp) ?_
      refine AllReady.cons rfl (fun K hK => ?_) AllReady.nil
      go_simp
      refine (H2.out _).mono ?_
      rintro e v3 ⟨rfl, hb3⟩
      (try go_simp)
      refine hK _ _ ?_
      clear hK K
      have hB3 := belowThen hB2 hb3
      have c3 := KC.out _ hB3
      have hrow3 := (hb3.block N hlt2).trans hrow2
      have hlt3 := Nat.lt_of_lt_of_le hlt2 hb3.size
      refine wpAny_take (i := 14) (v := ?_) rfl (by kernel_rfl) (by kernel_rfl) (by kernel_rfl) (fun _ _ _ h => h) (Or.inl ⟨by rfl, ?_⟩) ?_
      rotate_left
      · intro w; go_simp; (try with_reducible rfl)
      refine wpAny_take (i := 16) (v := ?_) rfl (by kernel_rfl) (by kernel_rfl) (by kernel_rfl) (fun _ _ _ h => h) (Or.inl ⟨by rfl, ?_⟩) ?_
      rotate_left
      · intro w; go_simp; (try with_reducible rfl)
      refine wpAny_take (i := 17) (v := ?_) rfl (by kernel_rfl) (by kernel_rfl) (by kernel_rfl) (fun _ _ _ h => h) (Or.inl ⟨by rfl, ?_⟩) ?_
      rotate_left
      · intro w; go_simp; (try with_reducible rfl)
      refine wpAny_done (by kernel_rfl) ?_ _
      go_wp2
      go_ret
      exact ⟨by rw [HS.out]; rfl, hB3⟩
    refine AllReady.cons rfl (fun K hK => ?_) AllReady.nil
    go_simp
    refine (H2.out _).mono ?_
    rintro e v3 ⟨rfl, hb3⟩
    (try go_simp)
    refine hK _ _ ?_
    clear hK K
    have hB3 := belowThen hB2 hb3
    have c3 := KC.out _ hB3
    have hrow3 := (hb3.block N hlt2).trans hrow2
    have hlt3 := Nat.lt_of_lt_of_le hlt2 hb3.size
    refine wpAny_ready (rs := [2]) (by kernel_rfl) (by simp) ?_
    refine AllReady.cons rfl (fun K hK => ?_) AllReady.nil
    refine step_text rfl 94 9 _ rfl N 1 1 [kind] (by simp [Act.eval, Act.put]) rfl 5 Try.underlying94 Try.underlying5 Try.underlying9 5 (0, 0) #[.int .u8 kd] HKD.out hrow3 t1 HT1.out ?_
    go_simp
    refine hK _ _ ?_
    clear hK K
    refine wpAny_take (i := 10) (v := ?_) rfl (by kernel_rfl) (by kernel_rfl) (by kernel_rfl) (fun _ _ _ h => h) (Or.inl ⟨by rfl, ?_⟩) ?_
    rotate_left
    · intro w; go_simp; (try with_reducible rfl)
    refine wpAny_take (i := 14) (v := ?_) rfl (by kernel_rfl) (by kernel_rfl) (by kernel_rfl) (fun _ _ _ h => h) (Or.inl ⟨by rfl, ?_⟩) ?_
    rotate_left
    · intro w; go_simp; (try with_reducible rfl)
    refine wpAny_take (i := 16) (v := ?_) rfl (by kernel_rfl) (by kernel_rfl) (by kernel_rfl) (fun _ _ _ h => h) (Or.inl ⟨by rfl, ?_⟩) ?_
    rotate_left
    · intro w; go_simp; (try with_reducible rfl)
    refine wpAny_take (i := 17) (v := ?_) rfl (by kernel_rfl) (by kernel_rfl) (by kernel_rfl) (fun _ _ _ h => h) (Or.inl ⟨by rfl, ?_⟩) ?_
    rotate_left
    · intro w; go_simp; (try with_reducible rfl)
    refine wpAny_done (by kernel_rfl) ?_ _
    go_wp2
    go_ret
    exact ⟨by rw [HS.out]; rfl, hB3⟩
  refine AllReady.cons rfl (fun K hK => ?_) AllReady.nil
  go_simp
  refine hK _ _ ?_
  clear hK K
  refine wpAny_take (i := 8) (v := ?_) rfl (by kernel_rfl) (by kernel_rfl) (by kernel_rfl) (fun _ _ _ h => h) (Or.inl ⟨by rfl, ?_⟩) ?_
  rotate_left
  · intro w; go_simp; (try with_reducible rfl)
  refine wpAny_ready (rs := [1, 9]) (by kernel_rfl) (by simp) ?_
  refine AllReady.cons rfl (fun K hK => ?_) ?_
  · refine step_build1 rfl 94 _ rfl (.int .u8 kd) (by simp [Act.eval, Act.put]) 5 inf _ Try.underlying94 HIN.out HZ0.out HZ1.out rfl ?_
    intro N v1 hN hrow1 hb1 hlt1
    clear hN
    go_simp
    refine hK _ _ ?_
    clear hK K
    have hB1 := belowThen hB0 hb1
    have c1 := KC.out _ hB1
    refine wpAny_ready (rs := [2, 9]) (by kernel_rfl) (by simp) ?_
    refine AllReady.cons rfl (fun K hK => ?_) ?_
    · refine step_text rfl 94 9 _ rfl N 1 1 [kind] (by simp [Act.eval, Act.put]) rfl 5 Try.underlying94 Try.underlying5 Try.underlying9 5 (0, 0) #[.int .u8 kd] HKD.out hrow1 t1 HT1.out ?_
      go_simp
      refine hK _ _ ?_
      clear hK K
      refine wpAny_ready (rs := [9]) (by kernel_rfl) (by simp) ?_
      refine AllReady.cons rfl (fun K hK => ?_) AllReady.nil
      go_simp
      refine (H4.out _).mono ?_
      rintro e v2 ⟨rfl, hb2⟩
      (try go_simp)
      refine hK _ _ ?_
      clear hK K
      have hB2 := belowThen hB1 hb2
      have c2 := KC.out _ hB2
      have hrow2 := (hb2.block N hlt1).trans hrow1
      have hlt2 := Nat.lt_of_lt_of_le hlt1 hb2.size
      refine wpAny_take (i := 10) (v := ?_) rfl (by kernel_rfl) (by kernel_rfl) (by kernel_rfl) (fun _ _ _ h => h) (Or.inl ⟨by rfl, ?_⟩) ?_
      rotate_left
      · intro w; go_simp; (try with_reducible rfl)
      refine wpAny_ready (rs := [13]) (by kernel_rfl) (by simp) ?_
      refine AllReady.cons rfl (fun K hK => ?_) AllReady.nil
      go_simp
      refine (H2.out _).mono ?_
      rintro e v3 ⟨rfl, hb3⟩
      (try go_simp)
      refine hK _ _ ?_
      clear hK K
      have hB3 := belowThen hB2 hb3
      have c3 := KC.out _ hB3
      have hrow3 := (hb3.block N hlt2).trans hrow2
      have hlt3 := Nat.lt_of_lt_of_le hlt2 hb3.size
      refine wpAny_take (i := 14) (v := ?_) rfl (by kernel_rfl) (by kernel_rfl) (by kernel_rfl) (fun _ _ _ h => h) (Or.inl ⟨by rfl, ?_⟩) ?_
      rotate_left
      · intro w; go_simp; (try with_reducible rfl)
      refine wpAny_take (i := 16) (v := ?_) rfl (by kernel_rfl) (by kernel_rfl) (by kernel_rfl) (fun _ _ _ h => h) (Or.inl ⟨by rfl, ?_⟩) ?_
      rotate_left
      · intro w; go_simp; (try with_reducible rfl)
      refine wpAny_take (i := 17) (v := ?_) rfl (by kernel_rfl) (by kernel_rfl) (by kernel_rfl) (fun _ _ _ h => h) (Or.inl ⟨by rfl, ?_⟩) ?_
      rotate_left
      · intro w; go_simp; (try with_reducible rfl)
      refine wpAny_done (by kernel_rfl) ?_ _
      go_wp2
      go_ret
      exact ⟨by rw [HS.out]; rfl, hB3⟩
    refine AllReady.cons rfl (fun K hK => ?_) AllReady.nil
    go_simp
    refine (H4.out _).mono ?_
    rintro e v2 ⟨rfl, hb2⟩
    (try go_simp)
    refine hK _ _ ?_
    clear hK K
    have hB2 := belowThen hB1 hb2
    have c2 := KC.out _ hB2
    have hrow2 := (hb2.block N hlt1).trans hrow1
    have hlt2 := Nat.lt_of_lt_of_le hlt1 hb2.size
    refine wpAny_ready (rs := [2, 13]) (by kernel_rfl) (by simp) ?_
    refine AllReady.cons rfl (fun K hK => ?_) ?_
    · refine step_text rfl 94 9 _ rfl N 1 1 [kind] (by simp [Act.eval, Act.put]) rfl 5 Try.underlying94 Try.underlying5 Try.underlying9 5 (0, 0) #[.int .u8 kd] HKD.out hrow2 t1 HT1.out ?_
      go_simp
      refine hK _ _ ?_
      clear hK K
      refine wpAny_take (i := 10) (v := ?_) rfl (by kernel_rfl) (by kernel_rfl) (by kernel_rfl) (fun _ _ _ h => h) (Or.inl ⟨by rfl, ?_⟩) ?_
      rotate_left
      · intro w; go_simp; (try with_reducible rfl)
      refine wpAny_ready (rs := [13]) (by kernel_rfl) (by simp) ?_
      refine AllReady.cons rfl (fun K hK => ?_) AllReady.nil
      go_simp
      refine (H2.out _).mono ?_
      rintro e v3 ⟨rfl, hb3⟩
      (try go_simp)
      refine hK _ _ ?_
      clear hK K
      have hB3 := belowThen hB2 hb3
      have c3 := KC.out _ hB3
      have hrow3 := (hb3.block N hlt2).trans hrow2
      have hlt3 := Nat.lt_of_lt_of_le hlt2 hb3.size
      refine wpAny_take (i := 14) (v := ?_) rfl (by kernel_rfl) (by kernel_rfl) (by kernel_rfl) (fun _ _ _ h => h) (Or.inl ⟨by rfl, ?_⟩) ?_
      rotate_left
      · intro w; go_simp; (try with_reducible rfl)
      refine wpAny_take (i := 16) (v := ?_) rfl (by kernel_rfl) (by kernel_rfl) (by kernel_rfl) (fun _ _ _ h => h) (Or.inl ⟨by rfl, ?_⟩) ?_
      rotate_left
      · intro w; go_simp; (try with_reducible rfl)
      refine wpAny_take (i := 17) (v := ?_) rfl (by kernel_rfl) (by kernel_rfl) (by kernel_rfl) (fun _ _ _ h => h) (Or.inl ⟨by rfl, ?_⟩) ?_
      rotate_left
      · intro w; go_simp; (try with_reducible rfl)
      refine wpAny_done (by kernel_rfl) ?_ _
      go_wp2
      go_ret
      exact ⟨by rw [HS.out]; rfl, hB3⟩
    refine AllReady.cons rfl (fun K hK => ?_) AllReady.nil
    go_simp
    refine (H2.out _).mono ?_
    rintro e v3 ⟨rfl, hb3⟩
    (try go_simp)
    refine hK _ _ ?_
    clear hK K
    have hB3 := belowThen hB2 hb3
    have c3 := KC.out _ hB3
    have hrow3 := (hb3.block N hlt2).trans hrow2
    have hlt3 := Nat.lt_of_lt_of_le hlt2 hb3.size
    refine wpAny_ready (rs := [2]) (by kernel_rfl) (by simp) ?_
    refine AllReady.cons rfl (fun K hK => ?_) AllReady.nil
    refine step_text rfl 94 9 _ rfl N 1 1 [kind] (by simp [Act.eval, Act.put]) rfl 5 Try.underlying94 Try.underlying5 Try.underlying9 5 (0, 0) #[.int .u8 kd] HKD.out hrow3 t1 HT1.out ?_
    go_simp
    refine hK _ _ ?_
    clear hK K
    refine wpAny_take (i := 10) (v := ?_) rfl (by kernel_rfl) (by kernel_rfl) (by kernel_rfl) (fun _ _ _ h => h) (Or.inl ⟨by rfl, ?_⟩) ?_
    rotate_left
    · intro w; go_simp; (try with_reducible rfl)
    refine wpAny_take (i := 14) (v := ?_) rfl (by kernel_rfl) (by kernel_rfl) (by kernel_rfl) (fun _ _ _ h => h) (Or.inl ⟨by rfl, ?_⟩) ?_
    rotate_left
    · intro w; go_simp; (try with_reducible rfl)
    refine wpAny_take (i := 16) (v := ?_) rfl (by kernel_rfl) (by kernel_rfl) (by kernel_rfl) (fun _ _ _ h => h) (Or.inl ⟨by rfl, ?_⟩) ?_
    rotate_left
    · intro w; go_simp; (try with_reducible rfl)
    refine wpAny_take (i := 17) (v := ?_) rfl (by kernel_rfl) (by kernel_rfl) (by kernel_rfl) (fun _ _ _ h => h) (Or.inl ⟨by rfl, ?_⟩) ?_
    rotate_left
    · intro w; go_simp; (try with_reducible rfl)
    refine wpAny_done (by kernel_rfl) ?_ _
    go_wp2
    go_ret
    exact ⟨by rw [HS.out]; rfl, hB3⟩
  refine AllReady.cons rfl (fun K hK => ?_) AllReady.nil
  go_simp
  refine (H4.out _).mono ?_
  rintro e v1 ⟨rfl, hb1⟩
  (try go_simp)
  refine hK _ _ ?_
  clear hK K
  have hB1 := belowThen hB0 hb1
  have c1 := KC.out _ hB1
  refine wpAny_ready (rs := [1, 13]) (by kernel_rfl) (by simp) ?_
  refine AllReady.cons rfl (fun K hK => ?_) ?_
  · refine step_build1 rfl 94 _ rfl (.int .u8 kd) (by simp [Act.eval, Act.put]) 5 inf _ Try.underlying94 HIN.out HZ0.out HZ1.out rfl ?_
    intro N v2 hN hrow2 hb2 hlt2
    clear hN
    go_simp
    refine hK _ _ ?_
    clear hK K
    have hB2 := belowThen hB1 hb2
    have c2 := KC.out _ hB2
    refine wpAny_ready (rs := [2, 13]) (by kernel_rfl) (by simp) ?_
    refine AllReady.cons rfl (fun K hK => ?_) ?_
    · refine step_text rfl 94 9 _ rfl N 1 1 [kind] (by simp [Act.eval, Act.put]) rfl 5 Try.underlying94 Try.underlying5 Try.underlying9 5 (0, 0) #[.int .u8 kd] HKD.out hrow2 t1 HT1.out ?_
      go_simp
      refine hK _ _ ?_
      clear hK K
      refine wpAny_take (i := 10) (v := ?_) rfl (by kernel_rfl) (by kernel_rfl) (by kernel_rfl) (fun _ _ _ h => h) (Or.inl ⟨by rfl, ?_⟩) ?_
      rotate_left
      · intro w; go_simp; (try with_reducible rfl)
      refine wpAny_ready (rs := [13]) (by kernel_rfl) (by simp) ?_
      refine AllReady.cons rfl (fun K hK => ?_) AllReady.nil
      go_simp
      refine (H2.out _).mono ?_
      rintro e v3 ⟨rfl, hb3⟩
      (try go_simp)
      refine hK _ _ ?_
      clear hK K
      have hB3 := belowThen hB2 hb3
      have c3 := KC.out _ hB3
      have hrow3 := (hb3.block N hlt2).trans hrow2
      have hlt3 := Nat.lt_of_lt_of_le hlt2 hb3.size
      refine wpAny_take (i := 14) (v := ?_) rfl (by kernel_rfl) (by kernel_rfl) (by kernel_rfl) (fun _ _ _ h => h) (Or.inl ⟨by rfl, ?_⟩) ?_
      rotate_left
      · intro w; go_simp; (try with_reducible rfl)
      refine wpAny_take (i := 16) (v := ?_) rfl (by kernel_rfl) (by kernel_rfl) (by kernel_rfl) (fun _ _ _ h => h) (Or.inl ⟨by rfl, ?_⟩) ?_
      rotate_left
      · intro w; go_simp; (try with_reducible rfl)
      refine wpAny_take (i := 17) (v := ?_) rfl (by kernel_rfl) (by kernel_rfl) (by kernel_rfl) (fun _ _ _ h => h) (Or.inl ⟨by rfl, ?_⟩) ?_
      rotate_left
      · intro w; go_simp; (try with_reducible rfl)
      refine wpAny_done (by kernel_rfl) ?_ _
      go_wp2
      go_ret
      exact ⟨by rw [HS.out]; rfl, hB3⟩
    refine AllReady.cons rfl (fun K hK => ?_) AllReady.nil
    go_simp
    refine (H2.out _).mono ?_
    rintro e v3 ⟨rfl, hb3⟩
    (try go_simp)
    refine hK _ _ ?_
    clear hK K
    have hB3 := belowThen hB2 hb3
    have c3 := KC.out _ hB3
    have hrow3 := (hb3.block N hlt2).trans hrow2
    have hlt3 := Nat.lt_of_lt_of_le hlt2 hb3.size
    refine wpAny_ready (rs := [2]) (by kernel_rfl) (by simp) ?_
    refine AllReady.cons rfl (fun K hK => ?_) AllReady.nil
    refine step_text rfl 94 9 _ rfl N 1 1 [kind] (by simp [Act.eval, Act.put]) rfl 5 Try.underlying94 Try.underlying5 Try.underlying9 5 (0, 0) #[.int .u8 kd] HKD.out hrow3 t1 HT1.out ?_
    go_simp
    refine hK _ _ ?_
    clear hK K
    refine wpAny_take (i := 10) (v := ?_) rfl (by kernel_rfl) (by kernel_rfl) (by kernel_rfl) (fun _ _ _ h => h) (Or.inl ⟨by rfl, ?_⟩) ?_
    rotate_left
    · intro w; go_simp; (try with_reducible rfl)
    refine wpAny_take (i := 14) (v := ?_) rfl (by kernel_rfl) (by kernel_rfl) (by kernel_rfl) (fun _ _ _ h => h) (Or.inl ⟨by rfl, ?_⟩) ?_
    rotate_left
    · intro w; go_simp; (try with_reducible rfl)
    refine wpAny_take (i := 16) (v := ?_) rfl (by kernel_rfl) (by kernel_rfl) (by kernel_rfl) (fun _ _ _ h => h) (Or.inl ⟨by rfl, ?_⟩) ?_
    rotate_left
    · intro w; go_simp; (try with_reducible rfl)
    refine wpAny_take (i := 17) (v := ?_) rfl (by kernel_rfl) (by kernel_rfl) (by kernel_rfl) (fun _ _ _ h => h) (Or.inl ⟨by rfl, ?_⟩) ?_
    rotate_left
    · intro w; go_simp; (try with_reducible rfl)
    refine wpAny_done (by kernel_rfl) ?_ _
    go_wp2
    go_ret
    exact ⟨by rw [HS.out]; rfl, hB3⟩
  refine AllReady.cons rfl (fun K hK => ?_) AllReady.nil
  go_simp
  refine (H2.out _).mono ?_
  rintro e v2 ⟨rfl, hb2⟩
  (try go_simp)
  refine hK _ _ ?_
  clear hK K
  have hB2 := belowThen hB1 hb2
  have c2 := KC.out _ hB2
  refine wpAny_ready (rs := [1]) (by kernel_rfl) (by simp) ?_
  refine AllReady.cons rfl (fun K hK => ?_) AllReady.nil
  refine step_build1 rfl 94 _ rfl (.int .u8 kd) (by simp [Act.eval, Act.put]) 5 inf _ Try.underlying94 HIN.out HZ0.out HZ1.out rfl ?_
  intro N v3 hN hrow3 hb3 hlt3
  clear hN
  go_simp
  refine hK _ _ ?_
  clear hK K
  have hB3 := belowThen hB2 hb3
  have c3 := KC.out _ hB3
  refine wpAny_ready (rs := [2]) (by kernel_rfl) (by simp) ?_
  refine AllReady.cons rfl (fun K hK => ?_) AllReady.nil
  refine step_text rfl 94 9 _ rfl N 1 1 [kind] (by simp [Act.eval, Act.put]) rfl 5 Try.underlying94 Try.underlying5 Try.underlying9 5 (0, 0) #[.int .u8 kd] HKD.out hrow3 t1 HT1.out ?_
  go_simp
  refine hK _ _ ?_
  clear hK K
  refine wpAny_take (i := 10) (v := ?_) rfl (by kernel_rfl) (by kernel_rfl) (by kernel_rfl) (fun _ _ _ h => h) (Or.inl ⟨by rfl, ?_⟩) ?_
  rotate_left
  · intro w; go_simp; (try with_reducible rfl)
  refine wpAny_take (i := 14) (v := ?_) rfl (by kernel_rfl) (by kernel_rfl) (by kernel_rfl) (fun _ _ _ h => h) (Or.inl ⟨by rfl, ?_⟩) ?_
  rotate_left
  · intro w; go_simp; (try with_reducible rfl)
  refine wpAny_take (i := 16) (v := ?_) rfl (by kernel_rfl) (by kernel_rfl) (by kernel_rfl) (fun _ _ _ h => h) (Or.inl ⟨by rfl, ?_⟩) ?_
  rotate_left
  · intro w; go_simp; (try with_reducible rfl)
  refine wpAny_take (i := 17) (v := ?_) rfl (by kernel_rfl) (by kernel_rfl) (by kernel_rfl) (fun _ _ _ h => h) (Or.inl ⟨by rfl, ?_⟩) ?_
  rotate_left
  · intro w; go_simp; (try with_reducible rfl)
  refine wpAny_done (by kernel_rfl) ?_ _
  go_wp2
  go_ret
  exact ⟨by rw [HS.out]; rfl, hB3⟩
  -- SECTOR END
end Go.Proofs.Ythhedahfmllnoaa
