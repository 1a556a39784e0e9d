/- Package log: content. -/
import Derived.Test.YtllaohobmkcmfaaLg1
namespace Go.Proofs.Ytllaohobmkcmfaa
open Go.RowKit Go.PlainAid
attribute [local go_sem ↓] Go.wp_at_zero Go.wp_at_succ

/-- The byte at a place. -/
def byteAt (s : ByteArray) (k : Nat) : UInt8 := UInt8.ofNat (bt s k).toNat
theorem byteAt_nat (s : ByteArray) (k : Nat) : ((byteAt s k).toNat : Int) = bt s k := by
  have h1 := bt_nonneg s k
  have h2 := bt_le s k
  unfold byteAt
  rw [byte_of]
  omega
/-- The length that a sector tells. -/
def ctLen (s : ByteArray) : Nat := (bt s 5).toNat + 256 * (bt s 6).toNat
def ctText (s : ByteArray) : ByteArray := s.extract 7 (7 + ctLen s)
/-- Is it a written sector with this number? -/
def ctOk (n : Nat) (s : ByteArray) : Bool := decide (ctLen s ≤ 73) && ((secB n (byteAt s 0) (ctText s)).toList == (s.extract 0 (7 + ctLen s)).toList)
def ctKind (n : Nat) (s : ByteArray) : Int := if ctOk n s = true then bt s 0 else 0
def ctBody (n : Nat) (s : ByteArray) : ByteArray := if ctOk n s = true then ctText s else ⟨#[]⟩

theorem or_bytes (a b : Nat) (ha : a < 256) (hb : b < 256) : bits BinOp.or IntKind.i64 (a : Int) ((b : Int) * 256) = ((a + 256 * b : Nat) : Int) := by
  have h1 : (BitVec.ofInt 64 (a : Int)).toNat = a := by
    rw [BitVec.ofInt_natCast, BitVec.toNat_ofNat]; exact Nat.mod_eq_of_lt (by omega)
  have e : ((b : Int) * 256) = ((b * 256 : Nat) : Int) := by omega
  have h2 : (BitVec.ofInt 64 ((b : Int) * 256)).toNat = b * 256 := by
    rw [e, BitVec.ofInt_natCast, BitVec.toNat_ofNat]; exact Nat.mod_eq_of_lt (by omega)
  have h3 : a ||| b * 256 = a + 256 * b := by
    have := Nat.shiftLeft_add_eq_or_of_lt (i := 8) (b := a) (by omega) b
    rw [Nat.shiftLeft_eq, show 2 ^ 8 = 256 from rfl] at this
    rw [Nat.or_comm]
    omega
  show IntKind.i64.wrap ((BitVec.ofInt 64 (a : Int) ||| BitVec.ofInt 64 ((b : Int) * 256)).toNat : Int) = _
  rw [BitVec.toNat_or, h1, h2, h3, IntKind.wrap_i64]
  omega

set_option maxHeartbeats 2000000 in
set_option maxRecDepth 100000 in
theorem content_any (w : World) (gl : Nat) (first k : Int) (s : ByteArray) (hc : w.cell? ⟨gl, 3, none⟩ = some (.int .i64 first)) (h1 : 0 ≤ first) (h2 : 0 ≤ k) (h3 : first ≤ 1000000000) (h4 : k ≤ 1000000000) (hs : s.size = 80) :
    Calls Try.prog 32 #[.pointer (some ⟨gl, 0, none⟩), .int .i64 k, .string s] w fun e w' => e = .returned (.tuple #[.int .u8 (ctKind (first + k).toNat s), .string (ctBody (first + k).toNat s)]) ∧ Below w.heap.size w w' := by
  have hgl : gl < w.heap.size := World.block_lt_of_cell? w _ hc
  have gb := get_bt s
  obtain ⟨b5, hb5⟩ : ∃ n : Nat, bt s 5 = (n : Int) := ⟨(bt s 5).toNat, by have := bt_nonneg s 5; omega⟩
  obtain ⟨b6, hb6⟩ : ∃ n : Nat, bt s 6 = (n : Int) := ⟨(bt s 6).toNat, by have := bt_nonneg s 6; omega⟩
  have k5 : (b5 : Int) ≤ 255 := by rw [← hb5]; exact bt_le s 5
  have k6 : (b6 : Int) ≤ 255 := by rw [← hb6]; exact bt_le s 6
  have l0 : 0 < s.size := by omega
  have l5 : 5 < s.size := by omega
  have l6 : 6 < s.size := by omega
  have j0 : ((s[0]'l0).toNat : Int) = bt s 0 := gb 0 l0
  have j5 : ((s[5]'l5).toNat : Int) = (b5 : Int) := by rw [gb 5 l5, hb5]
  have j6 : ((s[6]'l6).toNat : Int) = (b6 : Int) := by rw [gb 6 l6, hb6]
  have hor := or_bytes b5 b6 (by omega) (by omega)
  have hlen : ctLen s = b5 + 256 * b6 := by unfold ctLen; rw [hb5, hb6]; rfl
  have m5 : (5 : Int) < (s.size : Int) := by omega
  have m6 : (6 : Int) < (s.size : Int) := by omega
  have m0 : (0 : Int) < (s.size : Int) := by omega
  have m80 : (s.size : Int) ≤ 80 := by omega
  have m81 : 80 ≤ (s.size : Int) := by omega
  by_cases h73 : b5 + 256 * b6 ≤ 73
  · have HSEC := fun w' (h : Below w.heap.size w w') => sector_any w' gl first k (byteAt s 0) (ctText s) ((h.cell (p := ⟨gl, 3, none⟩) hgl).trans hc) h1 h2 h3 h4 (by unfold ctText; rw [hlen]; simp; omega)
    rw [byteAt_nat] at HSEC
    have hokE : ctOk (first + k).toNat s = ((secB (first + k).toNat (byteAt s 0) (ctText s)).toList == (s.extract 0 (7 + ctLen s)).toList) := by
      unfold ctOk; rw [hlen]; simp [h73]
    rw [show ctText s = s.extract 7 (7 + (b5 + 256 * b6)) by unfold ctText; rw [hlen]] at HSEC hokE
    rw [hlen] at hokE
    have hK : ctKind (first + k).toNat s = if ctOk (first + k).toNat s = true then bt s 0 else 0 := rfl
    have hB : ctBody (first + k).toNat s = if ctOk (first + k).toNat s = true then s.extract 7 (7 + (b5 + 256 * b6)) else ⟨#[]⟩ := by unfold ctBody ctText; rw [hlen]
    rw [hK, hB]
    have h73' : ((b5 + 256 * b6 : Nat) : Int) ≤ 73 := by omega
    generalize (b5 + 256 * b6) = L at *
    generalize bt s 0 = b0 at *
    generalize secB (first + k).toNat (byteAt s 0) (s.extract 7 (7 + L)) = X at *
    have HSEC' := Lib.hid HSEC
    have a1 : IntKind.i64.wrap (7 + (L : Int)) = 7 + (L : Int) := IntWalk.i64_in _ (by omega)
    have a2 : (7 + (L : Int)).toNat = 7 + L := by omega
    have a3 : (7 : Int) ≤ 7 + (L : Int) := by omega
    have a4 : 7 + (L : Int) ≤ (s.size : Int) := by omega
    have a5 : (0 : Int) ≤ 7 + (L : Int) := by omega
    have a6 : ¬ ((s.size : Int) - 7 < (L : Int)) := by omega
    have HB1 := Lib.hid (fun q => below_drewN (Below.refl w.heap.size w) q)
    clear HSEC hlen gb hb5 hb6 hK hB hs
    cases hok : ctOk (first + k).toNat s with
    | true =>
      rw [hok] at hokE
      rw [if_pos rfl, if_pos rfl]
      have hok1 : (X.toList == (s.extract 0 (7 + L)).toList) = true := hokE.symm
      clear hok hokE
      go_enter Try.func32, Try.ntmps32
      go_wp2_with fail
      go_quiet (fail)
      go_wp2_with fail
      go_region_with (go_at_call 36; refine (HSEC'.out _ (HB1.out _).drew).mono ?_; rintro e w2 ⟨rfl, hb2⟩)
      go_wp2
      go_ret2
      exact ⟨rfl, belowThen (HB1.out _).drew hb2⟩
    | false =>
      rw [hok] at hokE
      rw [if_neg (by simp), if_neg (by simp)]
      have hok1 : (X.toList == (s.extract 0 (7 + L)).toList) = false := hokE.symm
      clear hok hokE
      go_enter Try.func32, Try.ntmps32
      go_wp2_with fail
      go_quiet (fail)
      go_wp2_with fail
      go_region_with (go_at_call 36; refine (HSEC'.out _ (HB1.out _).drew).mono ?_; rintro e w2 ⟨rfl, hb2⟩)
      go_wp2
      go_ret2
      exact ⟨rfl, belowThen (HB1.out _).drew hb2⟩
  · have hbad : ctOk (first + k).toNat s = false := by unfold ctOk; rw [hlen]; simp [h73]
    rw [show ctKind (first + k).toNat s = 0 by unfold ctKind; rw [hbad]; rfl, show ctBody (first + k).toNat s = ⟨#[]⟩ by unfold ctBody; rw [hbad]; rfl]
    have h73' : ((b5 + 256 * b6 : Nat) : Int) > 73 := by omega
    generalize (b5 + 256 * b6) = L at *
    clear hbad hlen gb hb5 hb6 hs
    go_enter Try.func32, Try.ntmps32
    go_wp2_with fail
    go_quiet (fail)
    go_wp2
    go_ret2
    exact ⟨rfl, below_drewN (Below.refl _ _) _⟩
end Go.Proofs.Ytllaohobmkcmfaa
