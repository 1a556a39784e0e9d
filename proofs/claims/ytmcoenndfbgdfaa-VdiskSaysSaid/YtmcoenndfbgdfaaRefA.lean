/- The document's answer on areas (package counterfoilref): MarksOf, Areas. -/
import Derived.Test.YtmcoenndfbgdfaaUnion
import Derived.Test.YtmcoenndfbgdfaaCheck
import Derived.Test.YtmcoenndfbgdfaaLaws
import Derived.Laws.CopyOwn
namespace Go.Proofs.Ytmcoenndfbgdfaa
open Go.RowKit

/-- Sixteen marks as cells. -/
def mArr (m : Nat → Bool) : Array Value := #[.bool (m 0), .bool (m 1), .bool (m 2), .bool (m 3), .bool (m 4), .bool (m 5), .bool (m 6), .bool (m 7), .bool (m 8), .bool (m 9), .bool (m 10), .bool (m 11), .bool (m 12), .bool (m 13), .bool (m 14), .bool (m 15)]

theorem mArr_size (m : Nat → Bool) : (mArr m).size = 16 := rfl
theorem mArr_at (m : Nat → Bool) {i : Nat} (hi : i < 16) : (mArr m)[i]? = some (.bool (m i)) := by
  have : i = 0 ∨ i = 1 ∨ i = 2 ∨ i = 3 ∨ i = 4 ∨ i = 5 ∨ i = 6 ∨ i = 7 ∨ i = 8 ∨ i = 9 ∨ i = 10 ∨ i = 11 ∨ i = 12 ∨ i = 13 ∨ i = 14 ∨ i = 15 := by omega
  rcases this with rfl | rfl | rfl | rfl | rfl | rfl | rfl | rfl | rfl | rfl | rfl | rfl | rfl | rfl | rfl | rfl <;> rfl
theorem mArr_ext {m : Nat → Bool} {cs : Array Value} (hs : cs.size = 16) (h : ∀ i, i < 16 → cs[i]? = some (.bool (m i))) : cs = mArr m := by
  apply Array.ext_getElem?
  intro i
  by_cases hi : i < 16
  · rw [h i hi, mArr_at m hi]
  · rw [Array.getElem?_eq_none (by omega), Array.getElem?_eq_none (by rw [mArr_size]; omega)]
theorem mArr_set (m : Nat → Bool) (k : Nat) (b : Bool) : (mArr m).setIfInBounds k (.bool b) = mArr (fun i => if i = k then b else m i) := by
  refine mArr_ext (by simp [mArr_size]) (fun i hi => ?_)
  rw [Array.getElem?_setIfInBounds]
  by_cases e : k = i
  · subst e; simp [mArr_size, hi]
  · rw [if_neg e, mArr_at m hi, if_neg (fun x => e x.symm)]
theorem mArr_congr {m m' : Nat → Bool} (h : ∀ i, i < 16 → m i = m' i) : mArr m = mArr m' := mArr_ext rfl (fun i hi => by rw [mArr_at m hi, h i hi])

theorem mArr_cut (m : Nat → Bool) : cut (mArr m) 0 16 = mArr m := rfl
theorem mArr_splice (m m' : Nat → Bool) : splice (mArr m) 0 (mArr m') = mArr m' := rfl
theorem mArr_one (m : Nat → Bool) : ∀ v ∈ (mArr m).toList, v.oneCell' = true := by
  intro v hv
  simp [mArr] at hv
  rcases hv with h | h | h | h | h | h | h | h | h | h | h | h | h | h | h | h <;> (rw [h]; rfl)

/-- A block that is just sixteen marks. -/
def MBlk (w : World) (g : Nat) (t : TypeId) (m : Nat → Bool) : Prop := w.heap[g]? = some (.cells (mArr m) t (0, 0))

theorem MBlk.marks {w : World} {g : Nat} {t : TypeId} {m : Nat → Bool} (h : MBlk w g t m) : MarksAt w g m := fun i hi =>
  ⟨by rw [cell_of_row w g i (mArr m) t (0, 0) h, mArr_at m hi], frozen_of_row w g i (mArr m) t h⟩
theorem MBlk.keep {w w' : World} {g : Nat} {t : TypeId} {m : Nat → Bool} (h : MBlk w g t m) (hk : w'.heap[g]? = w.heap[g]?) : MBlk w' g t m := hk.trans h
theorem MBlk.set {w : World} {g : Nat} {t : TypeId} {m : Nat → Bool} (h : MBlk w g t m) (k : Nat) (b : Bool) : MBlk (w.setCell ⟨g, k, none⟩ (.bool b)) g t (fun i => if i = k then b else m i) := by
  have := heap_setCell_same w g k (mArr m) t (.bool b) h
  rw [mArr_set] at this
  exact this
theorem MBlk.congr {w : World} {g : Nat} {t : TypeId} {m m' : Nat → Bool} (h : MBlk w g t m) (e : ∀ i, i < 16 → m i = m' i) : MBlk w g t m' := by
  unfold MBlk; rw [← mArr_congr e]; exact h
theorem MBlk.new (w : World) (t : TypeId) (m : Nat → Bool) : MBlk (w.alloc (.cells #[.bool (m 0), .bool (m 1), .bool (m 2), .bool (m 3), .bool (m 4), .bool (m 5), .bool (m 6), .bool (m 7), .bool (m 8), .bool (m 9), .bool (m 10), .bool (m 11), .bool (m 12), .bool (m 13), .bool (m 14), .bool (m 15)] t)) w.heap.size t m := heap_alloc_new w _
theorem MBlk.lt {w : World} {g : Nat} {t : TypeId} {m : Nat → Bool} (h : MBlk w g t m) : g < w.heap.size := (MBlk.marks h).lt

def mAgg (m : Nat → Bool) : Value := .agg (mArr m)

theorem Try.infoMarks : (Try.prog.info? 35).map (·.size) = some 16 := by kernel_rfl

set_option maxHeartbeats 2000000 in
set_option maxRecDepth 100000 in
theorem marksOf_any (A : Option Addr) (cap : Nat) (l : List Ar) (w : World) (hA : AreasAt w w.heap.size A l) (hl : l.length ≤ 20) (hv : Bd l) :
    Calls Try.prog 18 #[.slice A l.length cap] w fun e w' => e = .returned (mAgg (fun i => hasB l i)) ∧ Below w.heap.size w w' := by
  go_enter Try.func18, Try.ntmps18
  go_wp2
  go_loopw [4] (fun t w' => ∃ k : Nat, k ≤ 16 ∧ t = .int .i64 k ∧ MBlk w' (w.heap.size + 1) 35 (fun i => decide (i < k) && hasB l i) ∧ MBlk w' w.heap.size 35 (fun _ => false) ∧ Below w.heap.size w w') (fun t _ => 16 - (intOf t).toNat)
  case atStart =>
    refine ⟨0, by omega, rfl, ?_, ?_, ((Below.refl _ _).alloc (Nat.le_refl _) _).alloc (by simp) _⟩
    · exact MBlk.congr (m := fun _ => false) (by simpa using MBlk.new (w.alloc _) 35 (fun _ => false)) (fun i _ => by simp)
    · exact (MBlk.new w 35 (fun _ => false)).keep (Below.heap_alloc _ _ _ (by simp))
  case round =>
    obtain ⟨k, hk, rfl, hM, hN, hb⟩ := hrel
    have hsz := hb.size
    have hz := hM.lt
    by_cases hlt : k < 16
    · have hd : decide ((k : Int) < 16) = true := by simp; omega
      go_wp2
      obtain ⟨wq, rfl⟩ : ∃ x, x = wr := ⟨_, rfl⟩
      go_loopw [5] (fun t w' => ∃ j : Nat, j ≤ l.length ∧ t = .int .i64 j ∧ MBlk w' (w.heap.size + 1) 35 (fun i => (decide (i < k) && hasB l i) || (decide (i = k) && hasB (l.take j) k)) ∧ MBlk w' w.heap.size 35 (fun _ => false) ∧ Below w.heap.size w w') (fun t _ => l.length - (intOf t).toNat)
      case atStart => exact ⟨0, Nat.zero_le _, rfl, hM.congr (fun i _ => by simp [hasB]), hN, hb⟩
      case round =>
        obtain ⟨j, hj, rfl, hM2, hN2, hb2⟩ := hrel
        have hsz2 := hb2.size
        have hz2 := hM2.lt
        by_cases hjl : j < l.length
        · obtain ⟨b, off, rfl, hB, h1, h2⟩ := (hA.below hb2) j hjl
          obtain ⟨v1, v2, v3⟩ := hv j hjl
          obtain ⟨c1, c2⟩ := hM2.marks k hlt
          have HT := Lib.hid (hasB_take_snoc l j hjl k)
          have hstep : ∀ x : Bool, inAr l[j] k = x → ∀ i, ((decide (i < k) && hasB l i) || (decide (i = k) && hasB (l.take (j + 1)) k)) = ((decide (i < k) && hasB l i) || (decide (i = k) && (hasB (l.take j) k || x))) := by
            intro x hx i; rw [HT.out, hx]
          have HS := Lib.hid hstep; clear hstep
          by_cases d1 : l[j].1 ≤ k
          · by_cases d2 : (k : Int) < l[j].1 + l[j].2
            · have HI := Lib.hid ((inAr_iff l[j] k).2 ⟨d1, d2⟩)
              go_wp2
              go_quiet (fail)
              go_wp2
              go_roundw
              case rel =>
                refine ⟨j + 1, hjl, by go_num, ?_, hN2.keep (Below.heap_setCell _ _ _ _ (by simp)), below_drewN (hb2.setCell (by simp) _) _⟩
                refine (hM2.set k true).congr (fun i _ => ?_)
                rw [HS.out true HI.out]
                by_cases e : i = k
                · simp [e]
                · simp [e]
              case measure => simp [intOf]; omega
            · have HI := Lib.hid ((inAr_false l[j] k).2 (by omega))
              go_wp2
              go_quiet (fail)
              go_wp2
              go_roundw
              case rel => exact ⟨j + 1, hjl, by go_num, hM2.congr (fun i _ => by rw [HS.out false HI.out, Bool.or_false]), hN2, below_drewN hb2 _⟩
              case measure => simp [intOf]; omega
          · have HI := Lib.hid ((inAr_false l[j] k).2 (by omega))
            have d1' : decide (l[j].1 ≤ (k : Int)) = false := by simpa using d1
            go_wp2
            go_quiet (fail)
            go_wp2
            go_roundw
            case rel => exact ⟨j + 1, hjl, by go_num, hM2.congr (fun i _ => by rw [HS.out false HI.out, Bool.or_false]), hN2, below_drewN hb2 _⟩
            case measure => simp [intOf]; omega
        · go_wp2
          go_roundw
          case rel =>
            refine ⟨k + 1, hlt, by go_num, hM2.congr (fun i _ => ?_), hN2, hb2⟩
            rw [List.take_of_length_le (by omega)]
            by_cases e : i = k
            · subst e; simp
            · have : decide (i < k + 1) = decide (i < k) := by rw [decide_eq_decide]; omega
              simp [e, this]
          case measure => simp [intOf]; omega
    · have hM' : wr.heap[w.heap.size + 1]? = some (.cells (mArr (fun i => hasB l i)) 35 (0, 0)) := hM.congr (fun i hi => by
        have : decide (i < k) = true := by simp; omega
        rw [this, Bool.true_and])
      have hN' : wr.heap[w.heap.size]? = some (.cells (mArr (fun _ => false)) 35 (0, 0)) := hN
      go_wp2_with (first
        | ((with_reducible refine isLoad 40 ?_); refine wpList_load_at rfl 35 _ rfl (w.heap.size + 1) 0 16 rfl 35 _ (0, 0) _ hM' Try.underlying35 rfl Try.infoMarks (by simp [mArr_size]) _ (mArr_cut _) ?_)
        | ((with_reducible refine isStore 35 ?_); refine wpList_store_at rfl 35 _ _ rfl w.heap.size 0 16 rfl 35 _ (mArr _) rfl hN' Try.infoMarks (by simp [mArr_size]) rfl (mArr_one _) _ (mArr_splice _ _) ?_))
      refine bodyPost_ret (v := mAgg (fun i => hasB l i)) (results_cell_row rfl _ _ w.heap.size 35 _ (0, 0) _ rfl (setRow_heap _ _ _ _ _ _ hN') Try.underlying35 rfl Try.infoMarks) rfl ⟨rfl, ?_⟩
      exact below_setRow hb (Nat.le_refl _) _
end Go.Proofs.Ytmcoenndfbgdfaa
