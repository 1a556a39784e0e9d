/- The document's log: four bytes of a number. -/
import Derived.Test.YtllaohobmkcmfaaLgP
namespace Go.Proofs.Ytllaohobmkcmfaa
open Go.RowKit Go.PlainAid
attribute [local go_sem ↓] Go.wp_at_zero Go.wp_at_succ

theorem lit4_val (n : Nat) : bv (lit n 4) = [.int .u8 ((n : Int) % 256), .int .u8 ((n : Int) / 256 % 256), .int .u8 ((n : Int) / 65536 % 256), .int .u8 ((n : Int) / 16777216 % 256)] := by
  simp [lit, bv, List.range, List.range.loop]
theorem four_any (w : World) (n : Nat) (hn : n ≤ 1000000000) :
    Calls Try.prog 27 #[.int .i64 (n : Int)] w fun e w' => e = .returned (.string ⟨(lit n 4).toArray⟩) ∧ Below w.heap.size w w' := by
  have hcv := run_text_at (P := Try.prog) (w.alloc (.cells #[.int .u8 ((n : Int) % 256), .int .u8 ((n : Int) / 256 % 256), .int .u8 ((n : Int) / 65536 % 256), .int .u8 ((n : Int) / 16777216 % 256)] 5)) 72 9 5 w.heap.size 0 4 (lit n 4) Try.underlying72 Try.underlying5 Try.underlying9 (range_of_row (heap_alloc_new _ _) (fun j v hj => by rw [lit4_val] at hj; simpa using hj))
  rw [lit_length] at hcv
  have HB := Lib.hid (show Below w.heap.size w (w.alloc (.cells #[.int .u8 ((n : Int) % 256), .int .u8 ((n : Int) / 256 % 256), .int .u8 ((n : Int) / 65536 % 256), .int .u8 ((n : Int) / 16777216 % 256)] 5)) from (Below.refl _ _).alloc (Nat.le_refl _) _)
  generalize (⟨(lit n 4).toArray⟩ : ByteArray) = T at *
  go_enter Try.func27, Try.ntmps27
  go_wp2
  go_ret
  exact ⟨rfl, HB.out⟩

/-- Is it a sector with this number, and not too long? The other tests of ctOk hold of themselves. -/
theorem ctOk_eq (n : Nat) (s : ByteArray) (hs : s.size = 80) : ctOk n s = (decide (ctLen s ≤ 73) && ((s.extract 1 5).toList == lit n 4)) := by
  by_cases h73 : ctLen s ≤ 73
  · unfold ctOk
    rw [decide_eq_true h73, Bool.true_and, Bool.true_and]
    obtain ⟨l, hl⟩ : ∃ l : List UInt8, s = ⟨l.toArray⟩ := ⟨s.data.toList, by cases s; simp⟩
    subst hl
    have hl80 : l.length = 80 := by simpa [ByteArray.size] using hs
    match l, hl80 with
    | b0 :: b1 :: b2 :: b3 :: b4 :: b5 :: b6 :: r, hr =>
      have hr73 : r.length = 73 := by simpa using hr
      have e5 : bt (⟨(b0 :: b1 :: b2 :: b3 :: b4 :: b5 :: b6 :: r).toArray⟩ : ByteArray) 5 = (b5.toNat : Int) := by rw [bt_list]; rfl
      have e6 : bt (⟨(b0 :: b1 :: b2 :: b3 :: b4 :: b5 :: b6 :: r).toArray⟩ : ByteArray) 6 = (b6.toNat : Int) := by rw [bt_list]; rfl
      have e0 : byteAt (⟨(b0 :: b1 :: b2 :: b3 :: b4 :: b5 :: b6 :: r).toArray⟩ : ByteArray) 0 = b0 := by unfold byteAt; rw [bt_list]; simp
      have hlen : ctLen (⟨(b0 :: b1 :: b2 :: b3 :: b4 :: b5 :: b6 :: r).toArray⟩ : ByteArray) = b5.toNat + 256 * b6.toNat := by unfold ctLen; rw [e5, e6]; simp
      rw [hlen] at h73
      have htx : ctText (⟨(b0 :: b1 :: b2 :: b3 :: b4 :: b5 :: b6 :: r).toArray⟩ : ByteArray) = ⟨(r.take (b5.toNat + 256 * b6.toNat)).toArray⟩ := by
        unfold ctText; rw [hlen, extract_list]; simp
      rw [htx, e0, hlen, extract_list, extract_list, secB_list]
      have hb5 : b5.toNat < 256 := b5.toNat_lt
      have hb6 : b6.toNat < 256 := b6.toNat_lt
      have hsz : (⟨(r.take (b5.toNat + 256 * b6.toNat)).toArray⟩ : ByteArray).size = b5.toNat + 256 * b6.toNat := by simp [ByteArray.size]; omega
      have h2 : lit (b5.toNat + 256 * b6.toNat) 2 = [b5, b6] := by
        rw [lit2]
        have q1 : UInt8.ofNat (b5.toNat + 256 * b6.toNat) = b5 := by
          apply UInt8.toNat_inj.1; simp
        have q2 : UInt8.ofNat ((b5.toNat + 256 * b6.toNat) / 256) = b6 := by
          apply UInt8.toNat_inj.1; rw [show (b5.toNat + 256 * b6.toNat) / 256 = b6.toNat by omega]; simp
        rw [q1, q2]
      obtain ⟨a, b, c, d, h4⟩ := lit4 n
      unfold secL
      rw [hsz, h2, h4]
      have hsub : 7 + (b5.toNat + 256 * b6.toNat) - 0 = (b5.toNat + 256 * b6.toNat) + 1 + 1 + 1 + 1 + 1 + 1 + 1 := by omega
      simp [hsub]
      rw [BEq.comm (a := a), BEq.comm (a := b), BEq.comm (a := c), BEq.comm (a := d)]
  · unfold ctOk
    rw [decide_eq_false h73]; rfl
end Go.Proofs.Ytllaohobmkcmfaa
