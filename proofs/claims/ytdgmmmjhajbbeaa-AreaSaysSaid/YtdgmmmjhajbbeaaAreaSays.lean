/- AreaSays: for all areas and numbers, package area answers as the document does. The walk of the law. -/
import Derived.Test.YtdgmmmjhajbbeaaFault
import Derived.Test.YtdgmmmjhajbbeaaTopPages
namespace Go.Proofs.Ytdgmmmjhajbbeaa
open Go.RowKit

theorem chk_nonneg (p : Option Int) (l : List Ar) : 0 ≤ chk p l := by
  induction l generalizing p with
  | nil => cases p <;> simp [chk]
  | cons a r ih =>
    unfold chk
    split
    · omega
    · cases p with
      | none => exact ih _
      | some e =>
        simp only
        split
        · omega
        · exact ih _

theorem chk_pos {l : List Ar} (h : ¬ ValidFrom 0 l) : 0 < chk none l := by
  have h1 := chk_nonneg none l
  have h2 : chk none l ≠ 0 := fun e => h (chk_none.1 e)
  omega

theorem fault_ok (A : Option Addr) (cap : Nat) (l : List Ar) (w : World) (hA : AreasAt w w.heap.size A l) (hl : l.length ≤ 20) (hv : ValidFrom 0 l) :
    Calls Try.prog 17 #[.slice A l.length cap] w fun e w' => e = .returned (.int .i64 0) ∧ Below w.heap.size w w' :=
  (fault_any A cap l w hA hl).mono fun _ _ ⟨he, hb⟩ => ⟨by rw [he, chk_none.2 hv], hb⟩

theorem one_uni3 : uni [(1, 2)] [(3, 1)] = [(1, 3)] := by decide +kernel

theorem same13 (A : Option Addr) (c : Nat) (w : World) (hA : AreasAt w w.heap.size A [(1, 3)]) :
    Calls Try.prog 20 #[.slice A 1 c, .slice (some ⟨w.heap.size, 0, none⟩) 1 1] (w.alloc (.cells #[.int .i64 1, .int .i64 3] 76)) fun e w' => e = .returned (.bool true) ∧ Below w.heap.size w w' := by
  have hP : AreasAt (w.alloc (.cells #[.int .i64 1, .int .i64 3] 76)) (w.alloc (.cells #[.int .i64 1, .int .i64 3] 76)).heap.size (some ⟨w.heap.size, 0, none⟩) [(1, 3)] := by simpa using areasAt_one w 1 3
  have h0 : Below w.heap.size w (w.alloc (.cells #[.int .i64 1, .int .i64 3] 76)) := (Below.refl _ _).alloc (Nat.le_refl _) _
  exact (sameAreas_yes A (some ⟨w.heap.size, 0, none⟩) c 1 [(1, 3)] [(1, 3)] _ (hA.up h0) hP (by simp) rfl).mono fun _ _ ⟨he, hb⟩ => ⟨he, belowThen h0 hb⟩

set_option maxRecDepth 100000 in
theorem areas_closed (w : World) : Calls Try.prog 14 #[] w fun e w' => e = .returned (.bool true) ∧ Below w.heap.size w w' := by
  go_enter Try.func14, Try.ntmps14
  go_wp2_with fail
  ((with_reducible refine (union_closed 1 2 3 1 w (by decide) (by decide) (by decide) (by decide) (by decide) (by decide)).mono ?_); rintro e w1 h1)
  rw [one_uni3] at h1
  obtain ⟨O, co, rfl, hO, hb1⟩ := h1
  go_wp2_with fail
  ((with_reducible refine (same13 _ _ _ hO).mono ?_); rintro e w2 ⟨rfl, hb2⟩)
  go_wp2
  go_ret
  exact ⟨rfl, belowThen hb1 hb2⟩

theorem same_yes (n : Int) (w : World) (hn : 0 ≤ n) : Calls Try.prog 15 #[errV n, .int .i64 n] w fun e w' => e = .returned (.bool true) ∧ w = w' :=
  (same_any n n w hn).mono fun _ _ ⟨he, hw⟩ => ⟨by rw [he]; simp, hw⟩

theorem page_ans (A : Option Addr) (cap : Nat) (l : List Ar) (lo many : Int) (w : World) (hA : AreasAt w w.heap.size A l) (hl : l.length ≤ 20) (hv : ValidFrom 0 l) (hm : many ≤ 9223372036854775807) :
    Calls Try.prog 18 #[.slice A l.length cap, .int .i64 lo, .int .i64 many] w (AnsPg w (pageAr l lo many) (pageNext l lo many)) := page_any A cap l lo many w hA hl (hv.bd (by omega)) hm

theorem refPage_ans (A : Option Addr) (cap : Nat) (l : List Ar) (lo many : Int) (w : World) (hA : AreasAt w w.heap.size A l) (hl : l.length ≤ 20) (hv : ValidFrom 0 l) (hm1 : 1 ≤ many) (hm : many ≤ 9223372036854775807) :
    Calls Try.prog 19 #[.slice A l.length cap, .int .i64 lo, .int .i64 many] w (AnsPg w (pageAr l lo many) (pageNext l lo many)) := refPage_any A cap l lo many w hA hl (hv.bd (by omega)) hm1 hm

theorem refUnion_ans (A A' : Option Addr) (cap cap' : Nat) (l l' : List Ar) (w : World) (hA : AreasAt w w.heap.size A l) (hA' : AreasAt w w.heap.size A' l') (hl : l.length ≤ 20) (hl' : l'.length ≤ 20) (hv : ValidFrom 0 l) (hv' : ValidFrom 0 l') :
    Calls Try.prog 22 #[.slice A l.length cap, .slice A' l'.length cap'] w (AnsAr w (uni l l')) :=
  (refUnion_any A A' cap cap' l l' w hA hA' hl hl' (hv.bd (by omega)) (hv'.bd (by omega))).mono fun _ _ h => h.open

theorem refCut_ans (A : Option Addr) (cap : Nat) (l : List Ar) (s : Int) (w : World) (hA : AreasAt w w.heap.size A l) (hl : l.length ≤ 20) (hv : ValidFrom 0 l) :
    Calls Try.prog 24 #[.slice A l.length cap, .int .i64 s] w (AnsAr w (cutTo l s)) :=
  (refCut_any A cap l s w hA hl (hv.bd (by omega))).mono fun _ _ h => h.open

set_option maxHeartbeats 4000000 in
set_option maxRecDepth 100000 in
theorem areaSays_walk (A B : Option Addr) (ca cb : Nat) (a b : List Ar) (n many : Int) (w : World) (hA : AreasAt w w.heap.size A a) (hB : AreasAt w w.heap.size B b)
    (wa : Wf a) (wb : Wf b) (hn : n ≤ 9223372036854775807) (hm : many ≤ 9223372036854775807) :
    Calls Try.prog 3 #[.slice A a.length ca, .slice B b.length cb, .int .i64 n, .int .i64 many] w fun e w' => e = .returned (.bool true) ∧ Below w.heap.size w w' := by
  go_enter Try.func3, Try.ntmps3
  go_wp2_with fail
  ((with_reducible refine (areas_closed w).mono ?_); rintro e w1 ⟨rfl, hb1⟩)
  by_cases ha : a.length ≤ 20
  rotate_left
  · go_wp2_with fail
    go_ret; exact ⟨rfl, hb1⟩
  have ha' : decide ((20 : Int) < (a.length : Int)) = false := by simp; omega
  by_cases hb : b.length ≤ 20
  rotate_left
  · go_wp2_with fail
    go_ret; exact ⟨rfl, hb1⟩
  have hb' : decide ((20 : Int) < (b.length : Int)) = false := by simp; omega
  go_wp2_with fail
  ((with_reducible refine (check_any _ _ a _ (hA.up hb1) ha wa).mono ?_); rintro e w2 ⟨rfl, hb2⟩)
  replace hb2 := belowThen hb1 hb2
  clear hb1
  go_wp2_with fail
  ((with_reducible refine (fault_any _ _ a _ (hA.up hb2) ha).mono ?_); rintro e w3 ⟨rfl, hb3⟩)
  replace hb3 := belowThen hb2 hb3
  clear hb2
  go_wp2_with fail
  ((with_reducible refine (same_yes (chk none a) _ (chk_nonneg _ _)).mono ?_); rintro e w3' ⟨rfl, rfl⟩)
  go_wp2_with fail
  ((with_reducible refine (check_any _ _ b _ (hB.up hb3) hb wb).mono ?_); rintro e w4 ⟨rfl, hb4⟩)
  replace hb4 := belowThen hb3 hb4
  clear hb3
  go_wp2_with fail
  ((with_reducible refine (fault_any _ _ b _ (hB.up hb4) hb).mono ?_); rintro e w5 ⟨rfl, hb5⟩)
  replace hb5 := belowThen hb4 hb5
  clear hb4
  go_wp2_with fail
  ((with_reducible refine (same_yes (chk none b) _ (chk_nonneg _ _)).mono ?_); rintro e w5' ⟨rfl, rfl⟩)
  go_wp2_with fail
  by_cases va : ValidFrom 0 a
  rotate_left
  · have hp := chk_pos va
    ((with_reducible refine (fault_any _ _ a _ (hA.up hb5) ha).mono ?_); rintro e w6 ⟨rfl, hb6⟩)
    go_wp2_with fail
    go_ret; exact ⟨rfl, belowThen hb5 hb6⟩
  ((with_reducible refine (fault_ok _ _ a _ (hA.up hb5) ha va).mono ?_); rintro e w6 ⟨rfl, hb6⟩)
  replace hb6 := belowThen hb5 hb6
  clear hb5
  go_wp2_with fail
  by_cases vb : ValidFrom 0 b
  rotate_left
  · have hp := chk_pos vb
    ((with_reducible refine (fault_any _ _ b _ (hB.up hb6) hb).mono ?_); rintro e w7 ⟨rfl, hb7⟩)
    go_wp2_with fail
    go_ret; exact ⟨rfl, belowThen hb6 hb7⟩
  ((with_reducible refine (fault_ok _ _ b _ (hB.up hb6) hb vb).mono ?_); rintro e w7 ⟨rfl, hb7⟩)
  replace hb7 := belowThen hb6 hb7
  clear hb6
  go_wp2_with fail
  all_goals
    ((with_reducible refine (page_ans _ _ a _ _ _ (hA.up hb7) ha va (by omega)).mono ?_); rintro e w8 ⟨X, cx, rfl, hX, hb8⟩)
    replace hb8 := belowThen hb7 hb8
    clear hb7
    go_wp2_with fail
    ((with_reducible refine (refPage_ans _ _ a _ _ _ (hA.up hb8) ha va (by omega) (by omega)).mono ?_); rintro e w9 ⟨Y, cy, rfl, hY, hb9⟩)
    replace hX := hX.up hb9
    replace hb9 := belowThen hb8 hb9
    clear hb8
    go_wp2_with fail
    ((with_reducible refine (sameAreas_yes _ _ _ _ _ _ _ hX hY (page_len _ _ _) rfl).mono ?_); rintro e q1 ⟨rfl, hc1⟩)
    replace hc1 := belowThen hb9 hc1
    clear hb9 hX hY
    go_wp2_with fail
    ((with_reducible refine (union_ans _ _ _ _ a b _ (hA.up hc1) (hB.up hc1) ha hb va vb).mono ?_); rintro e q2 ⟨X, cx, rfl, hX, hc2⟩)
    replace hc2 := belowThen hc1 hc2
    clear hc1
    go_wp2_with fail
    ((with_reducible refine (refUnion_ans _ _ _ _ a b _ (hA.up hc2) (hB.up hc2) ha hb va vb).mono ?_); rintro e q3 ⟨Y, cy, rfl, hY, hc3⟩)
    replace hX := hX.up hc3
    replace hc3 := belowThen hc2 hc3
    clear hc2
    go_wp2_with fail
    ((with_reducible refine (sameAreas_yes _ _ _ _ _ _ _ hX hY (uni_len _ _) rfl).mono ?_); rintro e q4 ⟨rfl, hc4⟩)
    replace hc4 := belowThen hc3 hc4
    clear hc3 hX hY
    go_wp2_with fail
    ((with_reducible refine (cut_ans _ _ a _ _ (hA.up hc4) ha va).mono ?_); rintro e q5 ⟨X, cx, rfl, hX, hc5⟩)
    replace hc5 := belowThen hc4 hc5
    clear hc4
    go_wp2_with fail
    ((with_reducible refine (refCut_ans _ _ a _ _ (hA.up hc5) ha va).mono ?_); rintro e q6 ⟨Y, cy, rfl, hY, hc6⟩)
    replace hX := hX.up hc6
    replace hc6 := belowThen hc5 hc6
    clear hc5
    go_wp2_with fail
    ((with_reducible refine (sameAreas_yes _ _ _ _ _ _ _ hX hY (cut_len _ _) rfl).mono ?_); rintro e q7 ⟨rfl, hc7⟩)
    replace hc7 := belowThen hc6 hc7
    clear hc6 hX hY
    go_wp2_with fail
    ((with_reducible refine (marksOf_any _ _ a _ (hA.up hc7) ha (va.bd (by omega))).mono ?_); rintro e q8 ⟨rfl, hc8⟩)
    replace hc8 := belowThen hc7 hc8
    clear hc7
    unfold mAgg
    have hs8 := hc8.size
    go_wp2_with ((with_reducible refine isStore 35 ?_); refine wpList_store_at rfl 35 _ _ rfl q8.heap.size 0 16 rfl 35 _ (mArr _) rfl (heap_alloc_new _ _) Try.infoMarks (by simp) rfl (mArr_one _) _ (mArr_splice (fun _ => false) _) ?_)
    have hX0 := stored_marks q8 (fun i => hasB a i)
    have hW1 : Below w.heap.size w ((q8.alloc zeroMarks).setRow q8.heap.size (mArr (fun i => hasB a i))) := stored_below hc8 hs8 _ _
    go_loopw [15, 16] (fun tk t w' => ∃ j : Nat, j ≤ 16 ∧ t = .int .i64 j ∧ tk = .int .i64 (cnt (fun i => hasB a i) j) ∧ MBlk w' q8.heap.size 35 (fun i => hasB a i) ∧ Below w.heap.size w w') (fun _ t _ => 16 - (intOf t).toNat)
    case atStart => exact ⟨0, by omega, rfl, rfl, hX0, hW1⟩
    case round =>
      obtain ⟨j, hj, rfl, rfl, hX, hb⟩ := hrel
      clear hX0 hW1
      have hsz := hb.size
      have hcb := cnt_bound (fun i => hasB a i) j
      by_cases hlt : j < 16
      · obtain ⟨c1, c2⟩ := hX.marks j hlt
        have hd : decide ((j : Int) < 16) = true := by simp; omega
        have i1 : (0 : Int) ≤ (j : Int) := by omega
        have i2 : (j : Int) < 16 := by omega
        have hAr : AreasAt wr.drew wr.drew.heap.size A a := hA.up hb.drew
        have hq8 := hX.lt
        cases hlk : hasB a j with
        | true =>
          simp only [hlk] at c1
          have HL := Lib.hid hlk; clear hlk
          go_wp2
          go_region_held3 (fun w' => w'.cell? ⟨q8.heap.size, j, none⟩ = some (.bool true)) (first | go_keep | (rw [hbx.cell (p := ⟨q8.heap.size, j, none⟩) (by simpa using hq8)]; assumption))
            (first | (go_at_call 26; refine (has_is _ _ a j true _ hAr ha va (by omega) HL.out).mono ?_; rintro e wx ⟨rfl, hbx⟩))
          go_wp2
          go_roundw
          case rel => exact ⟨j + 1, hlt, by go_num, by rw [cnt_yes (m := fun i : Nat => hasB a i) HL.out], hX.keep (hbx.block _ hq8), belowThen hb.drew hbx⟩
          case measure => simp [intOf]; omega
        | false =>
          simp only [hlk] at c1
          have HL := Lib.hid hlk; clear hlk
          go_wp2
          go_region_held3 (fun w' => w'.cell? ⟨q8.heap.size, j, none⟩ = some (.bool false)) (first | go_keep | (rw [hbx.cell (p := ⟨q8.heap.size, j, none⟩) (by simpa using hq8)]; assumption))
            (first | (go_at_call 26; refine (has_is _ _ a j false _ hAr ha va (by omega) HL.out).mono ?_; rintro e wx ⟨rfl, hbx⟩))
          go_wp2
          go_roundw
          case rel => exact ⟨j + 1, hlt, by go_num, by rw [cnt_no (m := fun i : Nat => hasB a i) HL.out], hX.keep (hbx.block _ hq8), belowThen hb.drew hbx⟩
          case measure => simp [intOf]; omega
      · have hj16 : j = 16 := by omega
        subst hj16
        have HS := Lib.hid (sum_valid va)
        go_wp2_with fail
        ((with_reducible refine (count_is _ _ a _ _ (hA.up hb) ha va HS.out).mono ?_); rintro e r1 ⟨rfl, hr1⟩)
        replace hr1 := belowThen hb hr1
        by_cases n0 : 0 ≤ n
        · by_cases n1 : n < 16
          · go_wp2_with fail
            go_ret
            exact ⟨rfl, hr1⟩
          · have n1' : decide (n < 16) = false := by simpa using n1
            have HF := Lib.hid (hasB_high va (i := n) (by omega))
            go_wp2_with fail
            ((with_reducible refine (has_is _ _ a n false _ (hA.up hr1) ha va hn HF.out).mono ?_); rintro e r2 ⟨rfl, hr2⟩)
            go_wp2_with fail
            go_ret
            exact ⟨rfl, belowThen hr1 hr2⟩
        · have n0' : decide (0 ≤ n) = false := by simpa using n0
          have HF := Lib.hid (hasB_low va (i := n) (by omega))
          go_wp2_with fail
          ((with_reducible refine (has_is _ _ a n false _ (hA.up hr1) ha va hn HF.out).mono ?_); rintro e r2 ⟨rfl, hr2⟩)
          go_wp2_with fail
          go_ret
          exact ⟨rfl, belowThen hr1 hr2⟩
end Go.Proofs.Ytdgmmmjhajbbeaa
