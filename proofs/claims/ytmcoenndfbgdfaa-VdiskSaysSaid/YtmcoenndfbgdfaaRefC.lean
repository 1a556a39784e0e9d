/- The document's answer on areas: Union, Cut, Page. -/
import Derived.Test.YtmcoenndfbgdfaaRefB
import Derived.Test.YtmcoenndfbgdfaaPage
namespace Go.Proofs.Ytmcoenndfbgdfaa
open Go.RowKit

/-- The zero value of Marks as a new block. -/
abbrev zeroMarks : Obj := .cells #[.bool false, .bool false, .bool false, .bool false, .bool false, .bool false, .bool false, .bool false, .bool false, .bool false, .bool false, .bool false, .bool false, .bool false, .bool false, .bool false] 35

theorem stored_marks (w : World) (m : Nat → Bool) : MBlk ((w.alloc zeroMarks).setRow w.heap.size (mArr m)) w.heap.size 35 m := setRow_heap _ _ _ _ _ _ (heap_alloc_new w _)

theorem stored_below {a w : World} {B : Nat} (h : Below B a w) (hB : B ≤ w.heap.size) (o : Obj) (cs : Array Value) : Below B a ((w.alloc o).setRow w.heap.size cs) := below_setRow (h.alloc hB o) hB cs

set_option maxHeartbeats 2000000 in
set_option maxRecDepth 100000 in
theorem refUnion_any (A A' : Option Addr) (cap cap' : Nat) (l l' : List Ar) (w : World) (hA : AreasAt w w.heap.size A l) (hA' : AreasAt w w.heap.size A' l') (hl : l.length ≤ 20) (hl' : l'.length ≤ 20) (hv : Bd l) (hv' : Bd l') :
    Calls Try.prog 15 #[.slice A l.length cap, .slice A' l'.length cap'] w (RetAr w (uni l l')) := by
  go_enter Try.func15, Try.ntmps15
  go_wp2_with fail
  ((with_reducible refine (marksOf_any _ _ l _ hA hl hv).mono ?_); rintro e w1 ⟨rfl, hw1⟩)
  unfold mAgg
  have hs1 := hw1.size
  go_wp2_with ((with_reducible refine isStore 35 ?_); refine wpList_store_at rfl 35 _ _ rfl w1.heap.size 0 16 rfl 35 _ (mArr _) rfl (heap_alloc_new _ _) Try.infoMarks (by simp) rfl (mArr_one _) _ (mArr_splice (fun _ => false) _) ?_)
  have hX := stored_marks w1 (fun i => hasB l i)
  have hW1 : Below w.heap.size w ((w1.alloc zeroMarks).setRow w1.heap.size (mArr (fun i => hasB l i))) := stored_below hw1 hs1 _ _
  refine (marksOf_any _ _ l' _ (AreasAt.mono (AreasAt.below hA' hW1) hW1.size) hl' hv').mono ?_
  rintro e w2 ⟨rfl, hw2⟩
  replace hX := hX.keep (hw2.block _ (by simp))
  replace hw2 := hW1.trans (hw2.mono hW1.size)
  have hs2 := hw2.size
  have hz2 := hX.lt
  clear hW1
  unfold mAgg
  go_wp2_with ((with_reducible refine isStore 35 ?_); refine wpList_store_at rfl 35 _ _ rfl w2.heap.size 0 16 rfl 35 _ (mArr _) rfl (heap_alloc_new _ _) Try.infoMarks (by simp) rfl (mArr_one _) _ (mArr_splice (fun _ => false) _) ?_)
  have hY := stored_marks w2 (fun i => hasB l' i)
  have hW2 : Below w.heap.size w ((w2.alloc zeroMarks).setRow w2.heap.size (mArr (fun i => hasB l' i))) := stored_below hw2 hs2 _ _
  replace hX : MBlk ((w2.alloc zeroMarks).setRow w2.heap.size (mArr (fun i => hasB l' i))) w1.heap.size 35 (fun i => hasB l i) := hX.keep ((setRow_other _ _ _ _ (by omega)).trans (Below.heap_alloc _ _ _ hz2))
  go_loopw [7] (fun t w' => ∃ k : Nat, k ≤ 16 ∧ t = .int .i64 k ∧ MBlk w' w1.heap.size 35 (fun i => hasB l i || (decide (i < k) && hasB l' i)) ∧ MBlk w' w2.heap.size 35 (fun i => hasB l' i) ∧ Below w.heap.size w w') (fun t _ => 16 - (intOf t).toNat)
  case atStart => exact ⟨0, by omega, rfl, hX.congr (fun i _ => by simp), hY, hW2⟩
  case round =>
    obtain ⟨k, hk, rfl, hX1, hY1, hb⟩ := hrel
    clear hX hY hW2
    have hsz := hb.size
    by_cases hlt : k < 16
    · obtain ⟨c1, c2⟩ := hX1.marks k hlt
      obtain ⟨d1, d2⟩ := hY1.marks k hlt
      have e0 : (hasB l k || (decide (k < k) && hasB l' k)) = hasB l k := by simp
      simp only [e0] at c1
      clear e0
      cases hlk : hasB l k with
      | true =>
        rw [hlk] at c1
        have HL := Lib.hid hlk; clear hlk
        go_wp2
        go_roundw
        case rel =>
          refine ⟨k + 1, hlt, by go_num, (hX1.set k true).congr (fun i _ => ?_), hY1.keep (Below.heap_setCell _ _ _ _ (by simp; omega)), hb.setCell hs1 _⟩
          by_cases e : i = k
          · subst e; simp [HL.out]
          · have : decide (i < k + 1) = decide (i < k) := by rw [decide_eq_decide]; omega
            simp [e, this]
        case measure => simp [intOf]; omega
      | false =>
        rw [hlk] at c1
        have HL := Lib.hid hlk; clear hlk
        go_wp2
        go_roundw
        case rel =>
          refine ⟨k + 1, hlt, by go_num, (hX1.set k (hasB l' k)).congr (fun i _ => ?_), hY1.keep (Below.heap_setCell _ _ _ _ (by simp; omega)), hb.setCell hs1 _⟩
          by_cases e : i = k
          · subst e; simp [HL.out]
          · have : decide (i < k + 1) = decide (i < k) := by rw [decide_eq_decide]; omega
            simp [e, this]
        case measure => simp [intOf]; omega
    · have hX2 : wr.heap[w1.heap.size]? = some (.cells (mArr (fun i => hasB l i || hasB l' i)) 35 (0, 0)) := hX1.congr (fun i hi => by
        have : decide (i < k) = true := by simp; omega
        rw [this, Bool.true_and])
      go_wp2_with ((with_reducible refine isLoad 26 ?_); refine wpList_load_at rfl 35 _ rfl w1.heap.size 0 16 rfl 35 _ (0, 0) _ hX2 Try.underlying35 rfl Try.infoMarks (by simp [mArr_size]) _ (mArr_cut _) ?_)
      refine (refAreas_any (fun i => hasB l i || hasB l' i) wr).mono ?_
      rintro e w3 ⟨v, rfl, hO, hb3⟩
      go_wp2
      go_ret
      exact ⟨_, rfl, OwnAr.base hO hsz, hb.trans (hb3.mono hsz)⟩

set_option maxHeartbeats 2000000 in
set_option maxRecDepth 100000 in
theorem refCut_any (A : Option Addr) (cap : Nat) (l : List Ar) (s : Int) (w : World) (hA : AreasAt w w.heap.size A l) (hl : l.length ≤ 20) (hv : Bd l) :
    Calls Try.prog 17 #[.slice A l.length cap, .int .i64 s] w (RetAr w (cutTo l s)) := by
  go_enter Try.func17, Try.ntmps17
  go_wp2_with fail
  ((with_reducible refine (marksOf_any _ _ l _ hA hl hv).mono ?_); rintro e w1 ⟨rfl, hw1⟩)
  unfold mAgg
  have hs1 := hw1.size
  go_wp2_with ((with_reducible refine isStore 35 ?_); refine wpList_store_at rfl 35 _ _ rfl w1.heap.size 0 16 rfl 35 _ (mArr _) rfl (heap_alloc_new _ _) Try.infoMarks (by simp) rfl (mArr_one _) _ (mArr_splice (fun _ => false) _) ?_)
  have hX := stored_marks w1 (fun i => hasB l i)
  have hW1 : Below w.heap.size w ((w1.alloc zeroMarks).setRow w1.heap.size (mArr (fun i => hasB l i))) := stored_below hw1 hs1 _ _
  go_loopw [6] (fun t w' => ∃ k : Nat, k ≤ 16 ∧ t = .int .i64 k ∧ MBlk w' w1.heap.size 35 (fun i => hasB l i && (!decide (i < k) || decide ((i : Int) < s))) ∧ Below w.heap.size w w') (fun t _ => 16 - (intOf t).toNat)
  case atStart => exact ⟨0, by omega, rfl, hX.congr (fun i _ => by simp), hW1⟩
  case round =>
    obtain ⟨k, hk, rfl, hX1, hb⟩ := hrel
    clear hX hW1
    have hsz := hb.size
    by_cases hlt : k < 16
    · obtain ⟨c1, c2⟩ := hX1.marks k hlt
      have e0 : (hasB l k && (!decide (k < k) || decide ((k : Int) < s))) = hasB l k := by simp
      simp only [e0] at c1
      clear e0
      cases hlk : hasB l k with
      | true =>
        rw [hlk] at c1
        have HL := Lib.hid hlk; clear hlk
        by_cases hks : (k : Int) < s
        · go_wp2
          go_roundw
          case rel =>
            refine ⟨k + 1, hlt, by go_num, (hX1.set k true).congr (fun i _ => ?_), hb.setCell hs1 _⟩
            by_cases e : i = k
            · subst e; simp [HL.out, hks]
            · have : decide (i < k + 1) = decide (i < k) := by rw [decide_eq_decide]; omega
              simp [e, this]
          case measure => simp [intOf]; omega
        · have hks' : decide ((k : Int) < s) = false := by simpa using hks
          go_wp2
          go_roundw
          case rel =>
            refine ⟨k + 1, hlt, by go_num, (hX1.set k false).congr (fun i _ => ?_), hb.setCell hs1 _⟩
            by_cases e : i = k
            · subst e; simp [HL.out]; omega
            · have : decide (i < k + 1) = decide (i < k) := by rw [decide_eq_decide]; omega
              simp [e, this]
          case measure => simp [intOf]; omega
      | false =>
        rw [hlk] at c1
        have HL := Lib.hid hlk; clear hlk
        go_wp2
        go_roundw
        case rel =>
          refine ⟨k + 1, hlt, by go_num, (hX1.set k false).congr (fun i _ => ?_), hb.setCell hs1 _⟩
          by_cases e : i = k
          · subst e; simp [HL.out]
          · have : decide (i < k + 1) = decide (i < k) := by rw [decide_eq_decide]; omega
            simp [e, this]
        case measure => simp [intOf]; omega
    · have hX2 : wr.heap[w1.heap.size]? = some (.cells (mArr (fun i => hasB l i && decide ((i : Int) < s))) 35 (0, 0)) := hX1.congr (fun i hi => by
        have : decide (i < k) = true := by simp; omega
        rw [this]; simp)
      go_wp2_with ((with_reducible refine isLoad 23 ?_); refine wpList_load_at rfl 35 _ rfl w1.heap.size 0 16 rfl 35 _ (0, 0) _ hX2 Try.underlying35 rfl Try.infoMarks (by simp [mArr_size]) _ (mArr_cut _) ?_)
      refine (refAreas_any (fun i => hasB l i && decide ((i : Int) < s)) wr).mono ?_
      rintro e w3 ⟨v, rfl, hO, hb3⟩
      go_wp2
      go_ret
      exact ⟨_, rfl, OwnAr.base hO hsz, hb.trans (hb3.mono hsz)⟩
end Go.Proofs.Ytmcoenndfbgdfaa
