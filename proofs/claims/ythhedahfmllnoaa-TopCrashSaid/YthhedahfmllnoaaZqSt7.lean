/- The store: pieces of a text, one after the other (pieces). -/
import Derived.Test.YthhedahfmllnoaaZqSt2
import Derived.Test.YthhedahfmllnoaaZqDkB
import Derived.Test.YthhedahfmllnoaaZqSt4
import Derived.Test.YthhedahfmllnoaaZqRr3
import Derived.RangeFuncNested
import Derived.RangeFuncBound
import Derived.RangeFuncCalls
import Derived.RangeFuncLeaves
import Derived.Shelf.Abstract
import Derived.Shelf.RegionOpen
import Derived.WalkKit
import Derived.OwnWalkIn
import Derived.TacticsInMore
import Derived.LoopNIn
import Derived.LoopIn
/- The store: header's text, next, first. -/
namespace Go.Proofs.Ythhedahfmllnoaa
open Go.RowKit Go.PlainAid

def hdNext (h : Hd) (rows : Nat) (empty : Bool) : Hd := ⟨(h.slot + 1) % 2, h.turn % 3 + 1, if empty = true then h.log else (h.log + 1) % 2, rows⟩

theorem hdFirst_any (h : Hd) (w : World) (hs : h.log ≤ 1) : Calls Try.prog 57 #[.agg #[.int .i64 h.slot, .int .i64 h.turn, .int .i64 h.log, .int .i64 h.rows]] w fun e w' => e = .returned (.int .i64 (1 + (h.log : Int))) ∧ Below w.heap.size w w' := by
  have b0 := (Below.refl w.heap.size w).alloc (Nat.le_refl _) (.cells #[.int .i64 h.slot, .int .i64 h.turn, .int .i64 h.log, .int .i64 h.rows] 74)
  have i1 : (h.log : Int) ≤ 1 := by omega
  have HB := Lib.hid b0
  clear b0
  go_enter Try.func57, Try.ntmps57
  go_wp2
  go_ret
  exact ⟨rfl, HB.out⟩

set_option maxHeartbeats 1000000 in
set_option maxRecDepth 100000 in
theorem hdText_any (h : Hd) (w : World) (h1 : h.turn ≤ 3) (h2 : h.log ≤ 1) (h3 : h.rows ≤ 80) : Calls Try.prog 55 #[.agg #[.int .i64 h.slot, .int .i64 h.turn, .int .i64 h.log, .int .i64 h.rows]] w fun e w' => e = .returned (.string (hdText h)) ∧ Below w.heap.size w w' := by
  have i1 : (h.turn : Int) ≤ 3 := by omega
  have i2 : (h.log : Int) ≤ 1 := by omega
  have i3 : (h.rows : Int) ≤ 80 := by omega
  obtain ⟨_, r2, _, r4⟩ := two_new w (.cells #[.int .i64 h.slot, .int .i64 h.turn, .int .i64 h.log, .int .i64 h.rows] 74) (.cells #[.int .u8 h.turn, .int .u8 h.log, .int .u8 h.rows] 5)
  have hcv := run_text_at (P := Try.prog) _ 94 9 5 (w.heap.size + 1) 0 3 [UInt8.ofNat h.turn, UInt8.ofNat h.log, UInt8.ofNat h.rows] Try.underlying94 Try.underlying5 Try.underlying9 (range_of_row r2 (fun j v hj => by
    have e1 : (h.turn : Int) % 256 = h.turn := by omega
    have e2 : (h.log : Int) % 256 = h.log := by omega
    have e3 : (h.rows : Int) % 256 = h.rows := by omega
    simpa [bv, e1, e2, e3] using hj))
  rw [show [UInt8.ofNat h.turn, UInt8.ofNat h.log, UInt8.ofNat h.rows].length = 3 from rfl] at hcv
  have hts : hdText h = titleB ++ ⟨[UInt8.ofNat h.turn, UInt8.ofNat h.log, UInt8.ofNat h.rows].toArray⟩ := rfl
  obtain ⟨T, hT⟩ : ∃ T : ByteArray, (⟨[UInt8.ofNat h.turn, UInt8.ofNat h.log, UInt8.ofNat h.rows].toArray⟩ : ByteArray) = T := ⟨_, rfl⟩
  have hz : T.size = 3 := by rw [← hT]; rfl
  have hlim : ¬ (9223372036854775807 < 17 + T.size) := by omega
  rw [hT] at hcv hts
  have HTS := Lib.hid hts
  have HB := Lib.hid r4
  clear hts hT r2 r4 hz
  go_enter Try.func55, Try.ntmps55
  go_wp2
  go_ret
  exact ⟨by rw [HTS.out]; rfl, HB.out⟩

set_option maxHeartbeats 1000000 in
set_option maxRecDepth 100000 in
theorem hdNext_any (h : Hd) (rows : Nat) (empty : Bool) (w : World) (h0 : h.slot ≤ 1) (h1 : h.turn ≤ 3) (h2 : h.log ≤ 1) (h3 : rows ≤ 80) : Calls Try.prog 34 #[.agg #[.int .i64 h.slot, .int .i64 h.turn, .int .i64 h.log, .int .i64 h.rows], .int .i64 rows, .bool empty] w fun e w' => e = .returned (hdV (hdNext h rows empty)) ∧ Below w.heap.size w w' := by
  have i0 : (h.slot : Int) ≤ 1 := by omega
  have i1 : (h.turn : Int) ≤ 3 := by omega
  have i2 : (h.log : Int) ≤ 1 := by omega
  have i3 : (rows : Int) ≤ 80 := by omega
  cases empty with
  | true =>
    obtain ⟨_, r2, r3, r4⟩ := two_new w (.cells #[.int .i64 h.slot, .int .i64 h.turn, .int .i64 h.log, .int .i64 h.rows] 74) (.cells #[.int .i64 (((h.slot : Int) + 1) % 2), .int .i64 ((h.turn : Int) % 3 + 1), .int .i64 (h.log : Int), .int .i64 rows] 74)
    have HROW := Lib.hid (oldRow r2 (.cells #[.int .i64 (((h.slot : Int) + 1) % 2), .int .i64 ((h.turn : Int) % 3 + 1), .int .i64 (h.log : Int), .int .i64 rows] 74))
    have HB := Lib.hid (r4.alloc (by omega) (.cells #[.int .i64 (((h.slot : Int) + 1) % 2), .int .i64 ((h.turn : Int) % 3 + 1), .int .i64 (h.log : Int), .int .i64 rows] 74))
    clear r2 r3 r4
    go_enter Try.func34, Try.ntmps34
    go_wp2
    refine bodyPost_ret (results_cell1 rfl _ _ (w.heap.size + 1) 74 #[.int .i64 (((h.slot : Int) + 1) % 2), .int .i64 ((h.turn : Int) % 3 + 1), .int .i64 (h.log : Int), .int .i64 rows] (0, 0) _ rfl HROW.out Try.underlying74 rfl Try.infoHdS) rfl ⟨by simp [hdV, hdArr, hdNext], HB.out⟩
  | false =>
    obtain ⟨_, r2, r3, r4⟩ := two_new w (.cells #[.int .i64 h.slot, .int .i64 h.turn, .int .i64 h.log, .int .i64 h.rows] 74) (.cells #[.int .i64 (((h.slot : Int) + 1) % 2), .int .i64 ((h.turn : Int) % 3 + 1), .int .i64 (((h.log : Int) + 1) % 2), .int .i64 rows] 74)
    have HROW := Lib.hid (oldRow r2 (.cells #[.int .i64 (((h.slot : Int) + 1) % 2), .int .i64 ((h.turn : Int) % 3 + 1), .int .i64 (((h.log : Int) + 1) % 2), .int .i64 rows] 74))
    have HB := Lib.hid (r4.alloc (by omega) (.cells #[.int .i64 (((h.slot : Int) + 1) % 2), .int .i64 ((h.turn : Int) % 3 + 1), .int .i64 (((h.log : Int) + 1) % 2), .int .i64 rows] 74))
    clear r2 r3 r4
    go_enter Try.func34, Try.ntmps34
    go_wp2
    refine bodyPost_ret (results_cell1 rfl _ _ (w.heap.size + 1) 74 #[.int .i64 (((h.slot : Int) + 1) % 2), .int .i64 ((h.turn : Int) % 3 + 1), .int .i64 (((h.log : Int) + 1) % 2), .int .i64 rows] (0, 0) _ rfl HROW.out Try.underlying74 rfl Try.infoHdS) rfl ⟨by simp [hdV, hdArr, hdNext], HB.out⟩
end Go.Proofs.Ythhedahfmllnoaa

/- The store: pieces of a text, one after the other (pieces). -/
namespace Go.Proofs.Ythhedahfmllnoaa
open Go.RowKit Go.Shelf
attribute [local go_sem] Oper.semAt_some

theorem pieces_any (w : World) (A : Option Addr) (n c : Nat) :
    Calls Try.prog 52 #[.slice A n c] w fun e w' => e = .returned (.func (.func 69) #[] #[.pointer (some ⟨w.heap.size, 0, none⟩)]) ∧ w' = w.alloc (.cells #[.slice A n c] 36) := by
  go_enter Try.func52, Try.ntmps52
  go_wp2
  go_ret
  exact ⟨rfl, rfl⟩

/-- A text in pieces, with their numbers. -/
abbrev Pc := { x : Nat × ByteArray // x.1 ≤ 403000 ∧ x.2.size ≤ 80 }
def pc1 (k : Nat) (T : ByteArray) : Pc := ⟨(min k 403000, T.extract 0 (min T.size 80)), Nat.min_le_right _ _, by simp; omega⟩
def pcs : Nat → Nat → ByteArray → List Pc
  | 0, _, _ => []
  | f + 1, k, T => if T.size = 0 then [] else pc1 k T :: pcs f (k + 1) (T.extract (min T.size 80) T.size)
def pcsOf (T : ByteArray) : List Pc := pcs T.size 0 T
def encP (x : Pc) : Array Value := #[.int .i64 x.1.1, .string x.1.2]
def sizeS : Value → Nat
  | .string s => s.size
  | _ => 0

theorem no_listS : (⟨#[]⟩ : ByteArray).toList = [] := by decide +kernel
set_option maxHeartbeats 2000000 in
set_option maxRecDepth 100000 in
theorem pieces_stops (n : Nat) (hn : 3 ≤ n) (B : Nat) (w : World) (A : Option Addr) (c : Nat) (rows : List Ch) (hB : w.cell? ⟨B, 0, none⟩ = some (.slice A rows.length c)) (hC : ChsAt w A rows) (hl : rows.length ≤ 1000) (hs : ∀ x ∈ rows, x.key.size ≤ 200 ∧ x.val.size ≤ 200) (T : ByteArray) (hT : ⟨(stText rows).toArray⟩ = T) :
    SeqStopsK Fence.wide n Try.prog 69 #[.pointer (some ⟨B, 0, none⟩)] encP KeepsWalks (fun xs => xs = pcsOf T) (fun pre => pre <+: pcsOf T) (pcsOf T).length w := fun l J Jx W hW hJ hJx hY h0 => by
  have hBl : B < w.heap.size := World.block_lt_of_cell? w _ hB
  have c0 : W.cell? ⟨B, 0, none⟩ = some (.slice A rows.length c) := (hW.cell (p := ⟨B, 0, none⟩) hBl).trans hB
  have HX := stText_any W A c rows (hC.below hW) hl hs
  rw [hT] at HX
  have hTl : T.size ≤ 403000 := by
    rw [← hT]
    have := stText_len hs
    show (stText rows).toArray.size ≤ 403000
    simp only [List.size_toArray]
    omega
  clear hB hC hs hT hW hBl hl
  refine callsIn_of_wp Try.func69 rfl trivial ?_ rfl
  simp only [Try.ntmps69, List.size_toArray, List.length_cons, List.length_nil, Nat.reduceAdd, Nat.reduceSub, Array.replicate_succ, Array.replicate_zero, List.push_toArray, List.append_toArray, List.nil_append, List.cons_append]
  gi_wp2
  refine ⟨trivial, fun _ => by omega, ?_⟩
  refine (callsIn_wide.2 HX).mono ?_
  rintro e w1 ⟨rfl, hb1⟩
  have h1 : J [] w1 := hJ [] W w1 none h0 ⟨hb1.os, hb1.tape, hb1.output, hb1.size, fun k hk _ => hb1.block k hk⟩ (fun r e => by cases e)
  clear HX c0 hb1 h0
  gi_wp2
  gi_loopw [3, 4] (fun r k wr => ∃ (f j : Nat) (R : ByteArray) (pre : List Pc), r = .string R ∧ k = .int .i64 j ∧ R.size ≤ f ∧ j + R.size ≤ 403000 ∧ pre ++ pcs f j R = pcsOf T ∧ J pre wr) (fun r _ _ => sizeS r)
  case atStart => exact ⟨T.size, 0, T, [], rfl, rfl, Nat.le_refl _, by omega, rfl, h1⟩
  case round =>
    obtain ⟨f, j, R, pre, rfl, rfl, hf, hj, hE, hJp⟩ := hrel
    by_cases hz : R.size = 0
    · have z0 : (R.toList == ([] : List UInt8)) = true := by
        rw [← no_listS]
        rw [show R = ⟨#[]⟩ from by
          apply ByteArray.ext
          exact Array.eq_empty_of_size_eq_zero hz]
        simp
      have hE2 : pre = pcsOf T := by
        rw [← hE]
        cases f <;> simp [pcs, hz]
      gi_wp2
      go_end0
      exact ⟨⟨_, rfl⟩, .inl ⟨pre, hE2, hJp⟩⟩
    · have z0 : (R.toList == ([] : List UInt8)) = false := by
        rw [← no_listS]
        exact text_no (fun e => hz (by rw [e]; rfl))
      obtain ⟨f', rfl⟩ : ∃ f', f = f' + 1 := ⟨f - 1, by omega⟩
      rw [pcs, if_neg hz] at hE
      obtain ⟨m, hm⟩ : ∃ m, min R.size 80 = m := ⟨_, rfl⟩
      rw [hm] at hE
      have hp1 : (pc1 j R).1 = (j, R.extract 0 m) := by
        show (min j 403000, R.extract 0 (min R.size 80)) = (j, R.extract 0 m)
        rw [hm, Nat.min_eq_left (by omega)]
      have hm1 : 1 ≤ m ∧ m ≤ R.size := by omega
      have hlen : pre.length < (pcsOf T).length := by rw [← hE]; simp
      obtain ⟨fn, tmps, assign, body, hy, hR⟩ := hY pre (pc1 j R) wr hJp hlen
      unfold encP at hy
      rw [hp1] at hy
      dsimp only at hy
      have hmi : min (R.size : Int) 80 = (m : Int) := by omega
      have i1 : (m : Int) ≤ (R.size : Int) := by omega
      have i0 : (0 : Int) ≤ (m : Int) := by omega
      have hj2 : (j : Int) ≤ 403000 := by omega
      gi_wp2
      refine ⟨fun _ => by omega, ?_⟩
      refine hR.mono ?_
      rintro e W3 (⟨rfl, hJ3, _⟩ | ⟨rfl, hJx3⟩)
      · gi_wp2
        go_roundw
        case rel => exact ⟨f', j + 1, R.extract m R.size, pre ++ [pc1 j R], rfl, by go_num, by simp; omega, by simp; omega, by rw [← hE]; simp, hJ3⟩
        case measure => simp [sizeS]; omega
      · gi_wp2
        refine bodyPost_ret (results_none rfl _ _ _) rfl ?_
        exact ⟨⟨_, rfl⟩, .inr ⟨pre ++ [pc1 j R], ⟨pcs f' (j + 1) (R.extract m R.size), by rw [← hE]; simp⟩, hJx3⟩⟩
end Go.Proofs.Ythhedahfmllnoaa
