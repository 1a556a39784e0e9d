/- The document's answer on areas: Page, AreasFault; and same. -/
import Derived.Test.YtdgmmmjhajbbeaaRefC
namespace Go.Proofs.Ytdgmmmjhajbbeaa
open Go.RowKit

set_option maxHeartbeats 2000000 in
set_option maxRecDepth 100000 in
theorem refPage_any (A : Option Addr) (cap : Nat) (l : List Ar) (s many : Int) (w : World) (hA : AreasAt w w.heap.size A l) (hl : l.length ≤ 20) (hv : Bd l) (hm1 : 1 ≤ many) (hm : many ≤ 9223372036854775807) :
    Calls Try.prog 19 #[.slice A l.length cap, .int .i64 s, .int .i64 many] w (AnsPg w (pageAr l s many) (pageNext l s many)) := by
  unfold pageAr pageNext
  obtain ⟨lo, hlo⟩ : ∃ lo, (max s 0).toNat = lo := ⟨_, rfl⟩
  rw [hlo]
  have hlo1 : ∀ k : Nat, s ≤ k ↔ lo ≤ k := fun k => by omega
  have HLO := Lib.hid hlo1
  clear hlo hlo1
  go_enter Try.func19, Try.ntmps19
  go_wp2_with fail
  ((with_reducible refine (marksOf_any _ _ l _ hA hl hv).mono ?_); rintro e w1 ⟨rfl, hw1⟩)
  unfold mAgg
  have hs1 := hw1.size
  go_wp2_with ((with_reducible refine isStore 35 ?_); refine wpList_store_at rfl 35 _ _ rfl w1.heap.size 0 16 rfl 35 _ (mArr _) rfl (heap_alloc_new _ _) Try.infoMarks (by simp) rfl (mArr_one _) _ (mArr_splice (fun _ => false) _) ?_)
  have hX0 := stored_marks w1 (fun i => hasB l i)
  have hW1 : Below w.heap.size w ((w1.alloc zeroMarks).setRow w1.heap.size (mArr (fun i => hasB l i))) := stored_below hw1 hs1 _ _
  have hz : w.heap.size ≤ ((w1.alloc zeroMarks).setRow w1.heap.size (mArr (fun i => hasB l i))).heap.size := hW1.size
  have hY0 : MBlk (((w1.alloc zeroMarks).setRow w1.heap.size (mArr (fun i => hasB l i))).alloc zeroMarks) (w1.heap.size + 1) 35 (fun _ => false) := by
    have := MBlk.new ((w1.alloc zeroMarks).setRow w1.heap.size (mArr (fun i => hasB l i))) 35 (fun _ => false)
    simpa using this
  go_loopw [10, 11] (fun tn t w' => ∃ (k : Nat) (n : Int) (Pg : Nat → Bool), k ≤ 16 ∧ t = .int .i64 k ∧ tn = .int .i64 n ∧ 0 ≤ n ∧ n ≤ many ∧ n ≤ k ∧ PgRel (fun i => hasB l i) lo many (max k lo) (many - n) Pg ∧ MBlk w' w1.heap.size 35 (fun i => hasB l i) ∧ MBlk w' (w1.heap.size + 1) 35 Pg ∧ Below w.heap.size w w') (fun _ t _ => 16 - (intOf t).toNat)
  case atStart => exact ⟨0, 0, _, by omega, rfl, rfl, by omega, by omega, by omega, by rw [show max 0 lo = lo by omega, show many - 0 = many by omega]; exact ⟨rfl, fun i _ => by simp⟩, hX0.keep (Below.heap_alloc _ _ _ (by simp)), hY0, hW1.alloc hz _⟩
  case round =>
    obtain ⟨k, n, Pg, hk, rfl, rfl, hn0, hnm, hnk, hR, hX, hY, hb⟩ := hrel
    clear hX0 hY0 hW1 hz
    have hsz := hb.size
    by_cases hlt : k < 16
    · obtain ⟨c1, c2⟩ := hX.marks k hlt
      obtain ⟨d1, d2⟩ := hY.marks k hlt
      cases hlk : hasB l k with
      | true =>
        simp only [hlk] at c1
        have HL := Lib.hid hlk; clear hlk
        by_cases hsk : s ≤ (k : Int)
        · have hlok := (HLO.out k).1 hsk
          rw [show max k lo = k by omega] at hR
          by_cases hnq : n = many
          · have hq : (n == many) = true := by simpa using hnq
            obtain ⟨n1, n2⟩ := hR.stop hlt HL.out (by omega)
            have N1 := Lib.hid n1
            have N2 := Lib.hid n2
            have hY2 : wr.heap[w1.heap.size + 1]? = some (.cells (mArr Pg) 35 (0, 0)) := hY
            clear n1 n2 hnq
            go_wp2_with ((with_reducible refine isLoad 29 ?_); refine wpList_load_at rfl 35 _ rfl (w1.heap.size + 1) 0 16 rfl 35 _ (0, 0) _ hY2 Try.underlying35 rfl Try.infoMarks (by simp [mArr_size]) _ (mArr_cut _) ?_)
            refine (refAreas_any Pg wr).mono ?_
            rintro e w3 h3
            obtain ⟨X, cx, rfl, hX3, hb3⟩ := h3.open
            go_wp2
            go_ret2
            rw [N1.out, N2.out]
            exact ⟨X, cx, rfl, hX3, hb.trans (hb3.mono hsz)⟩
          · have hq : (n == many) = false := by simpa using hnq
            have HR := Lib.hid (hR.take hlt HL.out (by omega))
            go_wp2
            go_roundw
            case rel => exact ⟨k + 1, n + 1, _, hlt, by go_num, rfl, by omega, by omega, by omega, by rw [show max (k + 1) lo = k + 1 by omega, show many - (n + 1) = many - n - 1 by omega]; exact HR.out, hX.keep (Below.heap_setCell _ _ _ _ (by simp)), hY.set k true, hb.setCell (by simp; omega) _⟩
            case measure => simp [intOf]; omega
        · have hlok : ¬ lo ≤ k := fun h => hsk ((HLO.out k).2 h)
          have hsk' : decide (s ≤ (k : Int)) = false := by simpa using hsk
          go_wp2
          go_roundw
          case rel => exact ⟨k + 1, n, Pg, hlt, by go_num, rfl, hn0, hnm, by omega, by rw [show max (k + 1) lo = max k lo by omega]; exact hR, hX, hY, hb⟩
          case measure => simp [intOf]; omega
      | false =>
        simp only [hlk] at c1
        have HL := Lib.hid hlk; clear hlk
        have hR' : PgRel (fun i => hasB l i) lo many (max (k + 1) lo) (many - n) Pg := by
          by_cases hlok : lo ≤ k
          · rw [show max k lo = k by omega] at hR
            rw [show max (k + 1) lo = k + 1 by omega]
            exact hR.skip hlt HL.out
          · rw [show max (k + 1) lo = max k lo by omega]; exact hR
        go_wp2
        go_roundw
        case rel => exact ⟨k + 1, n, Pg, hlt, by go_num, rfl, hn0, hnm, by omega, hR', hX, hY, hb⟩
        case measure => simp [intOf]; omega
    · obtain ⟨n1, n2⟩ := hR.all (by omega)
      have N1 := Lib.hid n1
      have N2 := Lib.hid n2
      have hY2 : wr.heap[w1.heap.size + 1]? = some (.cells (mArr Pg) 35 (0, 0)) := hY
      clear n1 n2
      go_wp2_with ((with_reducible refine isLoad 36 ?_); refine wpList_load_at rfl 35 _ rfl (w1.heap.size + 1) 0 16 rfl 35 _ (0, 0) _ hY2 Try.underlying35 rfl Try.infoMarks (by simp [mArr_size]) _ (mArr_cut _) ?_)
      refine (refAreas_any Pg wr).mono ?_
      rintro e w3 h3
      obtain ⟨X, cx, rfl, hX3, hb3⟩ := h3.open
      go_wp2
      go_ret2
      rw [N1.out, N2.out]
      exact ⟨X, cx, rfl, hX3, hb.trans (hb3.mono hsz)⟩

theorem assert_errno (n : Int) (w : World) : (Instr.typeAssert (.iface 124 (.int .i64 n)) 26 124 true).run Try.prog w = .ok (.tuple #[.int .i64 n, .bool true]) w := by kernel_rfl

set_option maxRecDepth 100000 in
theorem same_any (n f : Int) (w : World) (hn : 0 ≤ n) :
    Calls Try.prog 15 #[errV n, .int .i64 f] w fun e w' => e = .returned (.bool (decide (n = f))) ∧ w = w' := by
  by_cases h0 : n = 0
  · subst h0
    show Calls _ _ #[.nilIface, _] _ _
    go_enter Try.func15, Try.ntmps15
    go_wp2
    go_ret
    refine ⟨ret_bool ?_, rfl⟩
    rw [Bool.eq_iff_iff]; simp; omega
  · have e : errV n = .iface 124 (.int .i64 n) := by simp [errV, h0]
    rw [e]
    have hta := assert_errno n w
    by_cases hf : 0 < f
    · go_enter Try.func15, Try.ntmps15
      go_wp2
      go_ret
      refine ⟨ret_bool ?_, rfl⟩
      rw [Bool.eq_iff_iff]; simp
    · have hf' : decide (0 < f) = false := by simpa using hf
      go_enter Try.func15, Try.ntmps15
      go_wp2
      go_ret
      refine ⟨ret_bool ?_, rfl⟩
      symm; simp; omega
end Go.Proofs.Ytdgmmmjhajbbeaa
