/- Package log: how a log lies in memory; write. -/
import Derived.Test.YthhedahfmllnoaaZqLg1
/- Package log: content. -/
namespace Go.Proofs.Ythhedahfmllnoaa
open Go.RowKit Go.PlainAid
attribute [local go_sem ↓] Go.wp_at_zero Go.wp_at_succ

/-- The byte at a place. -/
def byteAt (s : ByteArray) (k : Nat) : UInt8 := UInt8.ofNat (bt s k).toNat
theorem byteAt_nat (s : ByteArray) (k : Nat) : ((byteAt s k).toNat : Int) = bt s k := by
  have h1 := bt_nonneg s k
  have h2 := bt_le s k
  unfold byteAt
  rw [byte_of]
  omega
/-- The length that a sector tells. -/
def ctLen (s : ByteArray) : Nat := (bt s 5).toNat + 256 * (bt s 6).toNat
def ctText (s : ByteArray) : ByteArray := s.extract 7 (7 + ctLen s)
/-- Is it a written sector with this number? -/
def ctOk (n : Nat) (s : ByteArray) : Bool := decide (ctLen s ≤ 73) && ((secB n (byteAt s 0) (ctText s)).toList == (s.extract 0 (7 + ctLen s)).toList)
def ctKind (n : Nat) (s : ByteArray) : Int := if ctOk n s = true then bt s 0 else 0
def ctBody (n : Nat) (s : ByteArray) : ByteArray := if ctOk n s = true then ctText s else ⟨#[]⟩

theorem or_bytes (a b : Nat) (ha : a < 256) (hb : b < 256) : bits BinOp.or IntKind.i64 (a : Int) ((b : Int) * 256) = ((a + 256 * b : Nat) : Int) := by
  have h1 : (BitVec.ofInt 64 (a : Int)).toNat = a := by
    rw [BitVec.ofInt_natCast, BitVec.toNat_ofNat]; exact Nat.mod_eq_of_lt (by omega)
  have e : ((b : Int) * 256) = ((b * 256 : Nat) : Int) := by omega
  have h2 : (BitVec.ofInt 64 ((b : Int) * 256)).toNat = b * 256 := by
    rw [e, BitVec.ofInt_natCast, BitVec.toNat_ofNat]; exact Nat.mod_eq_of_lt (by omega)
  have h3 : a ||| b * 256 = a + 256 * b := by
    have := Nat.shiftLeft_add_eq_or_of_lt (i := 8) (b := a) (by omega) b
    rw [Nat.shiftLeft_eq, show 2 ^ 8 = 256 from rfl] at this
    rw [Nat.or_comm]
    omega
  show IntKind.i64.wrap ((BitVec.ofInt 64 (a : Int) ||| BitVec.ofInt 64 ((b : Int) * 256)).toNat : Int) = _
  rw [BitVec.toNat_or, h1, h2, h3, IntKind.wrap_i64]
  omega

set_option maxHeartbeats 2000000 in
set_option maxRecDepth 100000 in
theorem content_any (w : World) (gl : Nat) (first k : Int) (s : ByteArray) (hc : w.cell? ⟨gl, 3, none⟩ = some (.int .i64 first)) (h1 : 0 ≤ first) (h2 : 0 ≤ k) (h3 : first ≤ 1000000000) (h4 : k ≤ 1000000000) (hs : s.size = 80) :
    Calls Try.prog 78 #[.pointer (some ⟨gl, 0, none⟩), .int .i64 k, .string s] w fun e w' => e = .returned (.tuple #[.int .u8 (ctKind (first + k).toNat s), .string (ctBody (first + k).toNat s)]) ∧ Below w.heap.size w w' := by
  have hgl : gl < w.heap.size := World.block_lt_of_cell? w _ hc
  have gb := get_bt s
  obtain ⟨b5, hb5⟩ : ∃ n : Nat, bt s 5 = (n : Int) := ⟨(bt s 5).toNat, by have := bt_nonneg s 5; omega⟩
  obtain ⟨b6, hb6⟩ : ∃ n : Nat, bt s 6 = (n : Int) := ⟨(bt s 6).toNat, by have := bt_nonneg s 6; omega⟩
  have k5 : (b5 : Int) ≤ 255 := by rw [← hb5]; exact bt_le s 5
  have k6 : (b6 : Int) ≤ 255 := by rw [← hb6]; exact bt_le s 6
  have l0 : 0 < s.size := by omega
  have l5 : 5 < s.size := by omega
  have l6 : 6 < s.size := by omega
  have j0 : ((s[0]'l0).toNat : Int) = bt s 0 := gb 0 l0
  have j5 : ((s[5]'l5).toNat : Int) = (b5 : Int) := by rw [gb 5 l5, hb5]
  have j6 : ((s[6]'l6).toNat : Int) = (b6 : Int) := by rw [gb 6 l6, hb6]
  have hor := or_bytes b5 b6 (by omega) (by omega)
  have hlen : ctLen s = b5 + 256 * b6 := by unfold ctLen; rw [hb5, hb6]; rfl
  have m5 : (5 : Int) < (s.size : Int) := by omega
  have m6 : (6 : Int) < (s.size : Int) := by omega
  have m0 : (0 : Int) < (s.size : Int) := by omega
  have m80 : (s.size : Int) ≤ 80 := by omega
  have m81 : 80 ≤ (s.size : Int) := by omega
  by_cases h73 : b5 + 256 * b6 ≤ 73
  · have HSEC := fun w' (h : Below w.heap.size w w') => sector_any w' gl first k (byteAt s 0) (ctText s) ((h.cell (p := ⟨gl, 3, none⟩) hgl).trans hc) h1 h2 h3 h4 (by unfold ctText; rw [hlen]; simp; omega)
    rw [byteAt_nat] at HSEC
    have hokE : ctOk (first + k).toNat s = ((secB (first + k).toNat (byteAt s 0) (ctText s)).toList == (s.extract 0 (7 + ctLen s)).toList) := by
      unfold ctOk; rw [hlen]; simp [h73]
    rw [show ctText s = s.extract 7 (7 + (b5 + 256 * b6)) by unfold ctText; rw [hlen]] at HSEC hokE
    rw [hlen] at hokE
    have hK : ctKind (first + k).toNat s = if ctOk (first + k).toNat s = true then bt s 0 else 0 := rfl
    have hB : ctBody (first + k).toNat s = if ctOk (first + k).toNat s = true then s.extract 7 (7 + (b5 + 256 * b6)) else ⟨#[]⟩ := by unfold ctBody ctText; rw [hlen]
    rw [hK, hB]
    have h73' : ((b5 + 256 * b6 : Nat) : Int) ≤ 73 := by omega
    generalize (b5 + 256 * b6) = L at *
    generalize bt s 0 = b0 at *
    generalize secB (first + k).toNat (byteAt s 0) (s.extract 7 (7 + L)) = X at *
    have HSEC' := Lib.hid HSEC
    have a1 : IntKind.i64.wrap (7 + (L : Int)) = 7 + (L : Int) := IntWalk.i64_in _ (by omega)
    have a2 : (7 + (L : Int)).toNat = 7 + L := by omega
    have a3 : (7 : Int) ≤ 7 + (L : Int) := by omega
    have a4 : 7 + (L : Int) ≤ (s.size : Int) := by omega
    have a5 : (0 : Int) ≤ 7 + (L : Int) := by omega
    have a6 : ¬ ((s.size : Int) - 7 < (L : Int)) := by omega
    have HB1 := Lib.hid (fun q => below_drewN (Below.refl w.heap.size w) q)
    clear HSEC hlen gb hb5 hb6 hK hB hs
    cases hok : ctOk (first + k).toNat s with
    | true =>
      rw [hok] at hokE
      rw [if_pos rfl, if_pos rfl]
      have hok1 : (X.toList == (s.extract 0 (7 + L)).toList) = true := hokE.symm
      clear hok hokE
      go_enter Try.func78, Try.ntmps78
      go_wp2_with fail
      go_quiet (fail)
      go_wp2_with fail
      go_region_with (go_at_call 66; refine (HSEC'.out _ (HB1.out _).drew).mono ?_; rintro e w2 ⟨rfl, hb2⟩)
      go_wp2
      go_ret2
      exact ⟨rfl, belowThen (HB1.out _).drew hb2⟩
    | false =>
      rw [hok] at hokE
      rw [if_neg (by simp), if_neg (by simp)]
      have hok1 : (X.toList == (s.extract 0 (7 + L)).toList) = false := hokE.symm
      clear hok hokE
      go_enter Try.func78, Try.ntmps78
      go_wp2_with fail
      go_quiet (fail)
      go_wp2_with fail
      go_region_with (go_at_call 66; refine (HSEC'.out _ (HB1.out _).drew).mono ?_; rintro e w2 ⟨rfl, hb2⟩)
      go_wp2
      go_ret2
      exact ⟨rfl, belowThen (HB1.out _).drew hb2⟩
  · have hbad : ctOk (first + k).toNat s = false := by unfold ctOk; rw [hlen]; simp [h73]
    rw [show ctKind (first + k).toNat s = 0 by unfold ctKind; rw [hbad]; rfl, show ctBody (first + k).toNat s = ⟨#[]⟩ by unfold ctBody; rw [hbad]; rfl]
    have h73' : ((b5 + 256 * b6 : Nat) : Int) > 73 := by omega
    generalize (b5 + 256 * b6) = L at *
    clear hbad hlen gb hb5 hb6 hs
    go_enter Try.func78, Try.ntmps78
    go_wp2_with fail
    go_quiet (fail)
    go_wp2
    go_ret2
    exact ⟨rfl, below_drewN (Below.refl _ _) _⟩
end Go.Proofs.Ythhedahfmllnoaa

/- Package log: how a log lies in memory; write. -/
namespace Go.Proofs.Ythhedahfmllnoaa
open Go.RowKit Go.PlainAid
attribute [local go_sem ↓] Go.wp_at_zero Go.wp_at_succ

/-- A log. -/
structure LgM where
  frm : Nat
  many : Nat
  first : Nat
  fin : Nat
def lgArr (g : Nat) (L : LgM) : Array Value := #[.pointer (some ⟨g, 0, none⟩), .int .i64 L.frm, .int .i64 L.many, .int .i64 L.first, .int .i64 L.fin]
/-- A log over the disk at block g lies at block gl. -/
def LgAt (B : Nat) (w : World) (gl g : Nat) (L : LgM) : Prop := B ≤ gl ∧ w.heap[gl]? = some (.cells (lgArr g L) 114 (0, 0))
theorem LgAt.step {B B' : Nat} {ts : List TypeId} {w w' : World} {gl g : Nat} {L : LgM} (h : LgAt B w gl g L) (hs : Step B' ts w w') (ht : 114 ∉ ts) : LgAt B w' gl g L := ⟨h.1, hs.other _ _ _ _ h.2 ht⟩
theorem not_mem_lg : 114 ∉ dkTypes ∧ 9 ∉ dkTypes := by decide

/-- Texts in a row of their own type. -/
def TxAt (w : World) (A : Option Addr) (l : List ByteArray) : Prop := ∀ i, (hi : i < l.length) → ∃ b off cs, A = some ⟨b, off, none⟩ ∧ w.heap[b]? = some (.cells cs 9 (0, 0)) ∧ cs[off + i]? = some (.string l[i])
theorem TxAt.step {B : Nat} {ts : List TypeId} {w w' : World} {A : Option Addr} {l : List ByteArray} (h : TxAt w A l) (hs : Step B ts w w') (ht : 9 ∉ ts) : TxAt w' A l := fun i hi => by
  obtain ⟨b, off, cs, e, hh, hc⟩ := h i hi
  exact ⟨b, off, cs, e, hs.other _ _ _ _ hh ht, hc⟩

/-- Texts written one after the other, then a flush: the disk behind it, and the number of the error. -/
def lgWrite : List ByteArray → Nat → DkM → DkM × Int
  | [], _, D => (dkFlush D, dkStepE D)
  | x :: r, k, D => if dkWriteE D k x = 0 then lgWrite r (k + 1) (dkWrite D k x) else (dkWrite D k x, dkWriteE D k x)

theorem dkWrite_le (D : DkM) (k : Int) (x : ByteArray) : (dkWrite D k x).wr.length ≤ D.wr.length + 1 := by
  unfold dkWrite; split
  · omega
  · split
    · simp [dkPut, dkStep_wr]
    · rw [dkStep_wr]; omega

set_option maxHeartbeats 4000000 in
set_option maxRecDepth 100000 in
theorem lgWrite_any (B gl g : Nat) (w : World) (D : DkM) (L : LgM) (k0 : Nat) (A : Option Addr) (cA : Nat) (l : List ByteArray) (hL : LgAt B w gl g L) (hD : DkAt B w g D) (hT : TxAt w A l) (hlen : l.length ≤ 1000) (hsz : ∀ x ∈ l, x.size ≤ 1000) (hwr : D.wr.length ≤ 100000) (hf : L.frm ≤ 1000000) (hk0 : k0 ≤ 1000000) :
    Calls Try.prog 68 #[.pointer (some ⟨gl, 0, none⟩), .int .i64 (k0 : Int), .slice A l.length cA] w fun e w' => e = .returned (errV (lgWrite l (L.frm + k0) D).2) ∧ DkAt B w' g (lgWrite l (L.frm + k0) D).1 ∧ Step B dkTypes w w' := by
  obtain ⟨R, hR⟩ : ∃ R, lgWrite l (L.frm + k0) D = R := ⟨_, rfl⟩
  rw [hR]
  have HR0 := Lib.hid hR
  clear hR
  go_enter Try.func68, Try.ntmps68
  go_wp2
  go_loopw [12] (fun i w' => ∃ (k : Nat) (D' : DkM), k ≤ l.length ∧ i = .int .i64 k ∧ DkAt B w' g D' ∧ lgWrite (l.drop k) (L.frm + k0 + k) D' = R ∧ D'.wr.length ≤ 100000 + k ∧ Step B dkTypes w w') (fun i _ => l.length - (intOf i).toNat)
  case atStart => exact ⟨0, D, Nat.zero_le _, rfl, hD, by simpa using HR0.out, by omega, Step.refl _ _ _⟩
  case round =>
    obtain ⟨k, D', hk, rfl, hD', hR, hwr', hs⟩ := hrel
    have hL' := hL.step hs not_mem_lg.1
    have hT' := hT.step hs not_mem_lg.2
    have HR := Lib.hid hR
    have c0 : wr.cell? ⟨gl, 0, none⟩ = some (.pointer (some ⟨g, 0, none⟩)) := cell_of_row _ _ _ _ _ _ hL'.2
    have c1 : wr.cell? ⟨gl, 1, none⟩ = some (.int .i64 (L.frm : Int)) := cell_of_row _ _ _ _ _ _ hL'.2
    clear HR0 hR hD
    by_cases hlt : k < l.length
    · obtain ⟨b, off, cs, rfl, hh, hcs⟩ := hT' k hlt
      have d0 : wr.cell? ⟨b, off + k, none⟩ = some (.string l[k]) := (cell_of_row _ _ _ _ _ _ hh).trans hcs
      have hx := hsz l[k] (List.getElem_mem hlt)
      have i1 : (k : Int) < (l.length : Int) := by omega
      have i0 : (0 : Int) ≤ (k : Int) := by omega
      have HW := dkWrite_any B g wr.drew D' ((L.frm + k0 + k : Nat) : Int) l[k] (hD'.drewN 1) (by unfold maxLen; omega) (by omega)
      rw [show ((L.frm + k0 + k : Nat) : Int) = (L.frm : Int) + (k0 : Int) + (k : Int) by omega] at HW
      have hstep : lgWrite (l.drop k) (L.frm + k0 + k) D' = if dkWriteE D' ((L.frm : Int) + (k0 : Int) + (k : Int)) l[k] = 0 then lgWrite (l.drop (k + 1)) (L.frm + k0 + (k + 1)) (dkWrite D' ((L.frm : Int) + (k0 : Int) + (k : Int)) l[k]) else (dkWrite D' ((L.frm : Int) + (k0 : Int) + (k : Int)) l[k], dkWriteE D' ((L.frm : Int) + (k0 : Int) + (k : Int)) l[k]) := by
        rw [List.drop_eq_getElem_cons hlt, lgWrite, show ((L.frm + k0 + k : Nat) : Int) = (L.frm : Int) + (k0 : Int) + (k : Int) by omega]; rfl
      have hle := dkWrite_le D' ((L.frm : Int) + (k0 : Int) + (k : Int)) l[k]
      have a1 : IntKind.i64.wrap ((L.frm : Int) + (k0 : Int)) = (L.frm : Int) + (k0 : Int) := IntWalk.i64_in _ (by omega)
      have a2 : IntKind.i64.wrap ((L.frm : Int) + (k0 : Int) + (k : Int)) = (L.frm : Int) + (k0 : Int) + (k : Int) := IntWalk.i64_in _ (by omega)
      rw [HR.out] at hstep
      generalize dkWriteE D' ((L.frm : Int) + (k0 : Int) + (k : Int)) l[k] = ne at *
      generalize dkWrite D' ((L.frm : Int) + (k0 : Int) + (k : Int)) l[k] = D2 at *
      generalize l[k] = x at *
      have HKEEP := Lib.hid (fun w' (h : Step B dkTypes wr.drew w') => show w'.cell? ⟨gl, 0, none⟩ = some (.pointer (some ⟨g, 0, none⟩)) ∧ w'.cell? ⟨gl, 1, none⟩ = some (.int .i64 (L.frm : Int)) from
        ⟨cell_of_row _ _ _ _ _ _ (h.other _ _ _ _ hL'.2 not_mem_lg.1), cell_of_row _ _ _ _ _ _ (h.other _ _ _ _ hL'.2 not_mem_lg.1)⟩)
      by_cases h0 : ne = 0
      · subst h0
        rw [if_pos rfl] at hstep
        have HST := Lib.hid hstep
        rw [show errV 0 = .nilIface from rfl] at HW
        have HW' := Lib.hid HW
        clear hstep HW hh hcs hL' hT' HR
        go_wp2_with fail
        go_region_held3 (fun w' => w'.cell? ⟨gl, 0, none⟩ = some (.pointer (some ⟨g, 0, none⟩)) ∧ w'.cell? ⟨gl, 1, none⟩ = some (.int .i64 (L.frm : Int))) (first | exact ⟨c0, c1⟩ | exact HKEEP.out _ t2)
          (first | ((with_reducible refine HW'.out.mono ?_); rintro e w6 ⟨rfl, t1, t2⟩))
        go_wp2
        refine ⟨⟨k + 1, D2, by omega, by go_num, t1, HST.out.symm, by omega, (hs.drew).trans t2⟩, by simp [intOf]; omega⟩
      · rw [if_neg h0] at hstep
        have hne : errV ne = .iface 64 (.int .i64 ne) := by unfold errV; rw [if_neg h0]
        subst hstep
        rw [hne] at HW
        have HW' := Lib.hid HW
        have HNE := Lib.hid hne
        clear HW hh hcs hL' hT' HR hne h0
        go_wp2_with fail
        go_region_held3 (fun w' => w'.cell? ⟨gl, 0, none⟩ = some (.pointer (some ⟨g, 0, none⟩)) ∧ w'.cell? ⟨gl, 1, none⟩ = some (.int .i64 (L.frm : Int))) (first | exact ⟨c0, c1⟩ | exact HKEEP.out _ t2)
          (first | ((with_reducible refine HW'.out.mono ?_); rintro e w6 ⟨rfl, t1, t2⟩))
        go_wp2
        go_ret
        exact ⟨by rw [HNE.out]; rfl, t1, (hs.drew).trans t2⟩
    · have hend : lgWrite (l.drop k) (L.frm + k0 + k) D' = (dkFlush D', dkStepE D') := by rw [List.drop_eq_nil_of_le (by omega)]; rfl
      have HF := Lib.hid (dkFlush_any B g wr D' hD')
      rw [HR.out] at hend
      subst hend
      clear HR
      go_wp2_with fail
      ((with_reducible refine HF.out.mono ?_); rintro e w6 ⟨rfl, t1, t2⟩)
      go_wp2
      go_ret
      exact ⟨rfl, t1, hs.trans t2⟩
end Go.Proofs.Ythhedahfmllnoaa
