/- What is read of a vault's own rows lies in memory as the vault itself. -/
import Derived.Test.YtlgahdabhnhjgaaGreatDoorZqImC
import Derived.Test.YtlgahdabhnhjgaaGreatDoorZqKept
/- The document's ChangesOf (written by tools/genrch.py). -/
namespace Go.Proofs.YtlgahdabhnhjgaaGreatDoor
open Go.RowKit

set_option maxHeartbeats 4000000 in
set_option maxRecDepth 100000 in
theorem changesOf_any (w : World) (A B : Option Addr) (cA cB : Nat) (l r : List Ch) (hA : ChsAt w A l) (hB : ChsAt w B r) (hl : l.length ≤ 200) (hr : r.length ≤ 200) :
    Calls Tryz.prog 22 #[.slice A l.length cA, .slice B r.length cB] w fun e w' => ∃ C c, e = .returned (.slice C (chgM l r).length c) ∧ w'.ownsRow w.heap.size 49 3 (.slice C (chgM l r).length c) (chgM l r).length (chCells (chgM l r)) ∧ Below w.heap.size w w' := by
  obtain ⟨i0, hi, hz0, hz1, hz2⟩ := info_parts Tryz.infoChZ
  obtain ⟨n, hn⟩ : ∃ n, l.length = n := ⟨_, rfl⟩
  obtain ⟨m, hm⟩ : ∃ m, r.length = m := ⟨_, rfl⟩
  rw [hn] at hl ⊢
  rw [hm] at hr ⊢
  go_enter Tryz.func22, Tryz.ntmps22
  go_wp2
  go_loopw [5, 6, 7] (fun s5 i k w' => ∃ (p q : Nat) (acc : List Ch), p ≤ n ∧ q ≤ m ∧ i = .int .i64 p ∧ k = .int .i64 q ∧ w'.ownsRow w.heap.size 49 3 s5 acc.length (chCells acc) ∧ acc ++ chgM (l.drop p) (r.drop q) = chgM l r ∧ acc.length ≤ p + q ∧ Below w.heap.size w w') (fun _ i k _ => (n - (intOf i).toNat) + (m - (intOf k).toNat))
  case atStart => exact ⟨0, 0, [], Nat.zero_le _, Nat.zero_le _, rfl, rfl, World.ownsRow_nil _ _ _ _, rfl, Nat.zero_le _, Below.refl _ _⟩
  case round =>
    obtain ⟨p, q, acc, hp, hq, rfl, rfl, hO, hE, hlen, hb⟩ := hrel
    have hsz := hb.size
    obtain ⟨aA, aC, rfl⟩ := slice_form hO
    obtain ⟨na, hna⟩ : ∃ na, acc.length = na := ⟨_, rfl⟩
    rw [hna] at hO hlen ⊢
    have HO := Lib.hid hO
    have HE := Lib.hid hE
    have HB := Lib.hid hb
    have HD := Lib.hid (fun w' (hb : Below wr.heap.size wr w') => own_below HO.out hb)
    have HDB := Lib.hid (fun w' (hb : Below wr.heap.size wr w') => belowThen HB.out hb)
    clear hO hE
    have p0 : (0 : Int) ≤ (p : Int) := by omega
    have q0 : (0 : Int) ≤ (q : Int) := by omega
    by_cases hp1 : p < n
    · have t1 : decide ((p : Int) < (n : Int)) = true := decide_eq_true (by omega)
      have j1 : (p : Int) < (n : Int) := by omega
      have e1 : ((p : Int) == (n : Int)) = false := by simp; omega
      obtain ⟨b, off, rfl, hbx, x0, x1, x2, x3, x4⟩ := hA p (by omega)
      replace x0 := belowKept hb x0
      replace x1 := belowKept hb x1
      replace x2 := belowKept hb x2
      have hdx : l.drop p = l[p] :: l.drop (p + 1) := List.drop_eq_getElem_cons (by omega)
      generalize l[p] = x at x0 x1 x2 hdx
      have HX := Lib.hid (fun w' (hb : Below wr.heap.size wr w') => show w'.cell? ⟨b, off + p * 3, none⟩ = some (.string x.key) ∧ w'.cell? ⟨b, off + p * 3 + 1, none⟩ = some (.string x.val) ∧ w'.cell? ⟨b, off + p * 3 + 2, none⟩ = some (.bool x.gone) from ⟨belowKept hb x0, belowKept hb x1, belowKept hb x2⟩)
      clear x3 x4 hbx
      by_cases hq1 : q < m
      · have t2 : decide ((q : Int) < (m : Int)) = true := decide_eq_true (by omega)
        have j2 : (q : Int) < (m : Int) := by omega
        have e2 : ((q : Int) == (m : Int)) = false := by simp; omega
        obtain ⟨b', off', rfl, hby, y0, y1, y2, y3, y4⟩ := hB q (by omega)
        replace y0 := belowKept hb y0
        replace y1 := belowKept hb y1
        replace y2 := belowKept hb y2
        have hdy : r.drop q = r[q] :: r.drop (q + 1) := List.drop_eq_getElem_cons (by omega)
        generalize r[q] = y at y0 y1 y2 hdy
        have HY := Lib.hid (fun w' (hb : Below wr.heap.size wr w') => show w'.cell? ⟨b', off' + q * 3, none⟩ = some (.string y.key) ∧ w'.cell? ⟨b', off' + q * 3 + 1, none⟩ = some (.string y.val) ∧ w'.cell? ⟨b', off' + q * 3 + 2, none⟩ = some (.bool y.gone) from ⟨belowKept hb y0, belowKept hb y1, belowKept hb y2⟩)
        clear y3 y4 hby
        have HXD := Lib.hid hdx
        have HYD := Lib.hid hdy
        have HE2 := Lib.hid (show acc ++ chgM (x :: l.drop (p + 1)) (y :: r.drop (q + 1)) = chgM l r from by rw [← hdx, ← hdy]; exact HE.out)
        clear hb hdx hdy
        by_cases hc1 : cmpB x.key y.key < 0
        · skip
          have k1 : Op.bytesLess x.key.toList y.key.toList = true := by rw [blCmp]; simpa using hc1
          have HC := Lib.hid hc1
          clear hc1
          go_wp2_with fail
          go_quiet (fail)
          have hw1 : Below wr.heap.size wr (wr.drewN nq) := below_drewN (Below.refl wr.heap.size wr) _
          generalize wr.drewN nq = W1 at *
          clear x0 x1 x2 y0 y1 y2
          obtain ⟨x10, x11, x12⟩ := HX.out W1 hw1
          have hD := HD.out W1 hw1
          have hDB := HDB.out W1 hw1
          have hszW := hDB.size
          go_wp2_with (at_builtin; refine wpList_append_own _ rfl _ _ 23 rfl w.heap.size 49 i0 (.agg #[.string ByteArray.empty, .string ByteArray.empty, .bool false]) 3 40 Tryz.underlying23 hi hz0 hz1 hz2 rfl (by decide) (.slice aA na aC) na (chCells acc) rfl (World.ownsRow.alloc hD _) ⟨W1.heap.size, 0, none⟩ 1 1 [.string x.key, .string ByteArray.empty, .bool true] rfl rfl (World.news_of_block (cs := #[.string x.key, .string ByteArray.empty, .bool true]) (t := 49) (fr := (0, 0)) (heap_alloc_new W1 _)) (by simp [Value.oneCell']) (by unfold maxLen; omega) (by omega) (by simp; omega) ?_; intro v' w5 hown' hg5 hnil5)
          have hb5 : Below w.heap.size w w5 := (hDB.alloc hszW _).grown hg5 (by simp; omega) (fun b hb' => (World.ownsRow.lt hD b hb').1)
          clear hD hDB hg5
          go_wp2
          go_roundw
          case rel => exact ⟨p + 1, q, acc ++ [goneCh x], by omega, by omega, by go_num, by go_num, by simpa [hna] using (by rw [chCells_snoc]; simpa [goneCh] using hown'), by rw [← HE2.out, chgM, if_pos (by have := HC.out; omega), HYD.out]; simp, by simp; omega, hb5⟩
          case measure => simp [intOf]; omega
        have k1 : Op.bytesLess x.key.toList y.key.toList = false := by rw [blCmp]; simpa using hc1
        by_cases hc2 : cmpB y.key x.key < 0
        · skip
          have k2 : Op.bytesLess y.key.toList x.key.toList = true := by rw [blCmp]; simpa using hc2
          have HC1 := Lib.hid hc1
          have HC2 := Lib.hid hc2
          clear hc1 hc2
          go_wp2_with fail
          go_quiet (fail)
          have hw1 : Below wr.heap.size wr (wr.drewN nq) := below_drewN (Below.refl wr.heap.size wr) _
          generalize wr.drewN nq = W1 at *
          clear x0 x1 x2 y0 y1 y2
          obtain ⟨x10, x11, x12⟩ := HX.out W1 hw1
          obtain ⟨y10, y11, y12⟩ := HY.out W1 hw1
          go_wp2_with fail
          go_quiet (fail)
          have hw2 : Below wr.heap.size wr (W1.drewN nq) := below_drewN hw1 _
          generalize W1.drewN nq = W2 at *
          clear x10 x11 x12 y10 y11 y12
          obtain ⟨y20, y21, y22⟩ := HY.out W2 hw2
          have hD := HD.out W2 hw2
          have hDB := HDB.out W2 hw2
          have hszW := hDB.size
          go_wp2_with (at_builtin; refine wpList_append_own _ rfl _ _ 23 rfl w.heap.size 49 i0 (.agg #[.string ByteArray.empty, .string ByteArray.empty, .bool false]) 3 40 Tryz.underlying23 hi hz0 hz1 hz2 rfl (by decide) (.slice aA na aC) na (chCells acc) rfl (World.ownsRow.alloc hD _) ⟨W2.heap.size, 0, none⟩ 1 1 [.string y.key, .string y.val, .bool y.gone] rfl rfl (World.news_of_block (cs := #[.string y.key, .string y.val, .bool y.gone]) (t := 49) (fr := (0, 0)) (heap_alloc_new W2 _)) (by simp [Value.oneCell']) (by unfold maxLen; omega) (by omega) (by simp; omega) ?_; intro v' w5 hown' hg5 hnil5)
          have hb5 : Below w.heap.size w w5 := (hDB.alloc hszW _).grown hg5 (by simp; omega) (fun b hb' => (World.ownsRow.lt hD b hb').1)
          clear hD hDB hg5
          go_wp2
          go_roundw
          case rel => exact ⟨p, q + 1, acc ++ [y], by omega, by omega, by go_num, by go_num, by simpa [hna] using (by rw [chCells_snoc]; simpa using hown'), by rw [← HE2.out, chgM, if_neg (by have := HC1.out; omega), if_pos (by have := HC2.out; omega), HXD.out]; simp, by simp; omega, hb5⟩
          case measure => simp [intOf]; omega
        have k2 : Op.bytesLess y.key.toList x.key.toList = false := by rw [blCmp]; simpa using hc2
        have HC1 := Lib.hid hc1
        have HC2 := Lib.hid hc2
        clear hc1 hc2
        go_wp2_with fail
        go_quiet (fail)
        have hw1 : Below wr.heap.size wr (wr.drewN nq) := below_drewN (Below.refl wr.heap.size wr) _
        generalize wr.drewN nq = W1 at *
        clear x0 x1 x2 y0 y1 y2
        obtain ⟨x10, x11, x12⟩ := HX.out W1 hw1
        obtain ⟨y10, y11, y12⟩ := HY.out W1 hw1
        go_wp2_with fail
        go_quiet (fail)
        have hw2 : Below wr.heap.size wr (W1.drewN nq) := below_drewN hw1 _
        generalize W1.drewN nq = W2 at *
        clear x10 x11 x12 y10 y11 y12
        obtain ⟨x20, x21, x22⟩ := HX.out W2 hw2
        obtain ⟨y20, y21, y22⟩ := HY.out W2 hw2
        by_cases d1 : ¬ x.key = y.key
        · skip
          have sd1 : (x.key.toList == y.key.toList) = false := text_no d1
          have HNE := Lib.hid (show ¬ x = y from fun e => d1 (by rw [e]))
          clear d1
          go_wp2_with fail
          go_quiet (fail)
          have hw3 : Below wr.heap.size wr (W2.drewN nq) := below_drewN hw2 _
          generalize W2.drewN nq = W3 at *
          clear x20 x21 x22 y20 y21 y22
          obtain ⟨y30, y31, y32⟩ := HY.out W3 hw3
          have hD := HD.out W3 hw3
          have hDB := HDB.out W3 hw3
          have hszW := hDB.size
          go_wp2_with (at_builtin; refine wpList_append_own _ rfl _ _ 23 rfl w.heap.size 49 i0 (.agg #[.string ByteArray.empty, .string ByteArray.empty, .bool false]) 3 40 Tryz.underlying23 hi hz0 hz1 hz2 rfl (by decide) (.slice aA na aC) na (chCells acc) rfl (World.ownsRow.alloc hD _) ⟨W3.heap.size, 0, none⟩ 1 1 [.string y.key, .string y.val, .bool y.gone] rfl rfl (World.news_of_block (cs := #[.string y.key, .string y.val, .bool y.gone]) (t := 49) (fr := (0, 0)) (heap_alloc_new W3 _)) (by simp [Value.oneCell']) (by unfold maxLen; omega) (by omega) (by simp; omega) ?_; intro v' w5 hown' hg5 hnil5)
          have hb5 : Below w.heap.size w w5 := (hDB.alloc hszW _).grown hg5 (by simp; omega) (fun b hb' => (World.ownsRow.lt hD b hb').1)
          clear hD hDB hg5
          go_wp2
          go_roundw
          case rel => exact ⟨p + 1, q + 1, acc ++ [y], by omega, by omega, by go_num, by go_num, by simpa [hna] using (by rw [chCells_snoc]; simpa using hown'), by rw [← HE2.out, chgM, if_neg (by have := HC1.out; omega), if_neg (by have := HC2.out; omega), if_neg HNE.out]; simp, by simp; omega, hb5⟩
          case measure => simp [intOf]; omega
        replace d1 := Classical.not_not.1 d1
        have sd1 : (x.key.toList == y.key.toList) = true := text_yes d1
        by_cases d2 : ¬ x.val = y.val
        · skip
          have sd2 : (x.val.toList == y.val.toList) = false := text_no d2
          have HNE := Lib.hid (show ¬ x = y from fun e => d2 (by rw [e]))
          clear d2
          go_wp2_with fail
          go_quiet (fail)
          have hw3 : Below wr.heap.size wr (W2.drewN nq) := below_drewN hw2 _
          generalize W2.drewN nq = W3 at *
          clear x20 x21 x22 y20 y21 y22
          obtain ⟨y30, y31, y32⟩ := HY.out W3 hw3
          have hD := HD.out W3 hw3
          have hDB := HDB.out W3 hw3
          have hszW := hDB.size
          go_wp2_with (at_builtin; refine wpList_append_own _ rfl _ _ 23 rfl w.heap.size 49 i0 (.agg #[.string ByteArray.empty, .string ByteArray.empty, .bool false]) 3 40 Tryz.underlying23 hi hz0 hz1 hz2 rfl (by decide) (.slice aA na aC) na (chCells acc) rfl (World.ownsRow.alloc hD _) ⟨W3.heap.size, 0, none⟩ 1 1 [.string y.key, .string y.val, .bool y.gone] rfl rfl (World.news_of_block (cs := #[.string y.key, .string y.val, .bool y.gone]) (t := 49) (fr := (0, 0)) (heap_alloc_new W3 _)) (by simp [Value.oneCell']) (by unfold maxLen; omega) (by omega) (by simp; omega) ?_; intro v' w5 hown' hg5 hnil5)
          have hb5 : Below w.heap.size w w5 := (hDB.alloc hszW _).grown hg5 (by simp; omega) (fun b hb' => (World.ownsRow.lt hD b hb').1)
          clear hD hDB hg5
          go_wp2
          go_roundw
          case rel => exact ⟨p + 1, q + 1, acc ++ [y], by omega, by omega, by go_num, by go_num, by simpa [hna] using (by rw [chCells_snoc]; simpa using hown'), by rw [← HE2.out, chgM, if_neg (by have := HC1.out; omega), if_neg (by have := HC2.out; omega), if_neg HNE.out]; simp, by simp; omega, hb5⟩
          case measure => simp [intOf]; omega
        replace d2 := Classical.not_not.1 d2
        have sd2 : (x.val.toList == y.val.toList) = true := text_yes d2
        by_cases d3 : ¬ x.gone = y.gone
        · skip
          have sd3 : (x.gone == y.gone) = false := by simp [d3]
          have HNE := Lib.hid (show ¬ x = y from fun e => d3 (by rw [e]))
          clear d3
          go_wp2_with fail
          go_quiet (fail)
          have hw3 : Below wr.heap.size wr (W2.drewN nq) := below_drewN hw2 _
          generalize W2.drewN nq = W3 at *
          clear x20 x21 x22 y20 y21 y22
          obtain ⟨y30, y31, y32⟩ := HY.out W3 hw3
          have hD := HD.out W3 hw3
          have hDB := HDB.out W3 hw3
          have hszW := hDB.size
          go_wp2_with (at_builtin; refine wpList_append_own _ rfl _ _ 23 rfl w.heap.size 49 i0 (.agg #[.string ByteArray.empty, .string ByteArray.empty, .bool false]) 3 40 Tryz.underlying23 hi hz0 hz1 hz2 rfl (by decide) (.slice aA na aC) na (chCells acc) rfl (World.ownsRow.alloc hD _) ⟨W3.heap.size, 0, none⟩ 1 1 [.string y.key, .string y.val, .bool y.gone] rfl rfl (World.news_of_block (cs := #[.string y.key, .string y.val, .bool y.gone]) (t := 49) (fr := (0, 0)) (heap_alloc_new W3 _)) (by simp [Value.oneCell']) (by unfold maxLen; omega) (by omega) (by simp; omega) ?_; intro v' w5 hown' hg5 hnil5)
          have hb5 : Below w.heap.size w w5 := (hDB.alloc hszW _).grown hg5 (by simp; omega) (fun b hb' => (World.ownsRow.lt hD b hb').1)
          clear hD hDB hg5
          go_wp2
          go_roundw
          case rel => exact ⟨p + 1, q + 1, acc ++ [y], by omega, by omega, by go_num, by go_num, by simpa [hna] using (by rw [chCells_snoc]; simpa using hown'), by rw [← HE2.out, chgM, if_neg (by have := HC1.out; omega), if_neg (by have := HC2.out; omega), if_neg HNE.out]; simp, by simp; omega, hb5⟩
          case measure => simp [intOf]; omega
        replace d3 := Classical.not_not.1 d3
        have sd3 : (x.gone == y.gone) = true := by simp [d3]
        have HEQ := Lib.hid (show x = y from by obtain ⟨a1, a2, a3⟩ := x; obtain ⟨b1, b2, b3⟩ := y; simp only at d1 d2 d3; rw [d1, d2, d3])
        clear d1 d2 d3
        go_wp2_with fail
        go_quiet (fail)
        have hw3 : Below wr.heap.size wr (W2.drewN nq) := below_drewN hw2 _
        generalize W2.drewN nq = W3 at *
        clear x20 x21 x22 y20 y21 y22
        have hD := HD.out W3 hw3
        have HD3 := Lib.hid hD
        have HB3 := Lib.hid (HDB.out W3 hw3)
        clear hD
        go_wp2
        go_roundw
        case rel => exact ⟨p + 1, q + 1, acc, by omega, by omega, by go_num, by go_num, by simpa [hna] using HD3.out, by rw [← HE2.out, chgM, if_neg (by have := HC1.out; omega), if_neg (by have := HC2.out; omega), if_pos HEQ.out]; simp, by omega, HB3.out⟩
        case measure => simp [intOf]; omega
      · obtain rfl : q = m := by omega
        have t2 : decide ((q : Int) < (q : Int)) = false := by simp
        have hrn : r.drop q = [] := List.drop_eq_nil_of_le (by omega)
        have HE2 := Lib.hid (show acc ++ chgM (x :: l.drop (p + 1)) [] = chgM l r from by rw [← hdx, ← hrn]; exact HE.out)
        have HRN := Lib.hid hrn
        clear hb hdx hrn
        go_wp2_with fail
        go_quiet (fail)
        have hw1 : Below wr.heap.size wr (wr.drewN nq) := below_drewN (Below.refl wr.heap.size wr) _
        generalize wr.drewN nq = W1 at *
        clear x0 x1 x2
        obtain ⟨x10, x11, x12⟩ := HX.out W1 hw1
        have hD := HD.out W1 hw1
        have hDB := HDB.out W1 hw1
        have hszW := hDB.size
        go_wp2_with (at_builtin; refine wpList_append_own _ rfl _ _ 23 rfl w.heap.size 49 i0 (.agg #[.string ByteArray.empty, .string ByteArray.empty, .bool false]) 3 40 Tryz.underlying23 hi hz0 hz1 hz2 rfl (by decide) (.slice aA na aC) na (chCells acc) rfl (World.ownsRow.alloc hD _) ⟨W1.heap.size, 0, none⟩ 1 1 [.string x.key, .string ByteArray.empty, .bool true] rfl rfl (World.news_of_block (cs := #[.string x.key, .string ByteArray.empty, .bool true]) (t := 49) (fr := (0, 0)) (heap_alloc_new W1 _)) (by simp [Value.oneCell']) (by unfold maxLen; omega) (by omega) (by simp; omega) ?_; intro v' w5 hown' hg5 hnil5)
        have hb5 : Below w.heap.size w w5 := (hDB.alloc hszW _).grown hg5 (by simp; omega) (fun b hb' => (World.ownsRow.lt hD b hb').1)
        clear hD hDB hg5
        go_wp2
        go_roundw
        case rel => exact ⟨p + 1, q, acc ++ [goneCh x], by omega, by omega, by go_num, by go_num, by simpa [hna] using (by rw [chCells_snoc]; simpa [goneCh] using hown'), by rw [HRN.out, ← HE2.out, chgM]; simp, by simp; omega, hb5⟩
        case measure => simp [intOf]; omega
    · obtain rfl : p = n := by omega
      have t1 : decide ((p : Int) < (p : Int)) = false := by simp
      have hln : l.drop p = [] := List.drop_eq_nil_of_le (by omega)
      by_cases hq1 : q < m
      · have t2 : decide ((q : Int) < (m : Int)) = true := decide_eq_true (by omega)
        have j2 : (q : Int) < (m : Int) := by omega
        have e2 : ((q : Int) == (m : Int)) = false := by simp; omega
        obtain ⟨b', off', rfl, hby, y0, y1, y2, y3, y4⟩ := hB q (by omega)
        replace y0 := belowKept hb y0
        replace y1 := belowKept hb y1
        replace y2 := belowKept hb y2
        have hdy : r.drop q = r[q] :: r.drop (q + 1) := List.drop_eq_getElem_cons (by omega)
        generalize r[q] = y at y0 y1 y2 hdy
        have HY := Lib.hid (fun w' (hb : Below wr.heap.size wr w') => show w'.cell? ⟨b', off' + q * 3, none⟩ = some (.string y.key) ∧ w'.cell? ⟨b', off' + q * 3 + 1, none⟩ = some (.string y.val) ∧ w'.cell? ⟨b', off' + q * 3 + 2, none⟩ = some (.bool y.gone) from ⟨belowKept hb y0, belowKept hb y1, belowKept hb y2⟩)
        clear y3 y4 hby
        have HE2 := Lib.hid (show acc ++ chgM [] (y :: r.drop (q + 1)) = chgM l r from by rw [← hdy, ← hln]; exact HE.out)
        have HLN := Lib.hid hln
        clear hb hdy hln
        go_wp2_with fail
        go_quiet (fail)
        have hw1 : Below wr.heap.size wr (wr.drewN nq) := below_drewN (Below.refl wr.heap.size wr) _
        generalize wr.drewN nq = W1 at *
        clear y0 y1 y2
        obtain ⟨y10, y11, y12⟩ := HY.out W1 hw1
        go_wp2_with fail
        go_quiet (fail)
        have hw2 : Below wr.heap.size wr (W1.drewN nq) := below_drewN hw1 _
        generalize W1.drewN nq = W2 at *
        clear y10 y11 y12
        obtain ⟨y20, y21, y22⟩ := HY.out W2 hw2
        have hD := HD.out W2 hw2
        have hDB := HDB.out W2 hw2
        have hszW := hDB.size
        go_wp2_with (at_builtin; refine wpList_append_own _ rfl _ _ 23 rfl w.heap.size 49 i0 (.agg #[.string ByteArray.empty, .string ByteArray.empty, .bool false]) 3 40 Tryz.underlying23 hi hz0 hz1 hz2 rfl (by decide) (.slice aA na aC) na (chCells acc) rfl (World.ownsRow.alloc hD _) ⟨W2.heap.size, 0, none⟩ 1 1 [.string y.key, .string y.val, .bool y.gone] rfl rfl (World.news_of_block (cs := #[.string y.key, .string y.val, .bool y.gone]) (t := 49) (fr := (0, 0)) (heap_alloc_new W2 _)) (by simp [Value.oneCell']) (by unfold maxLen; omega) (by omega) (by simp; omega) ?_; intro v' w5 hown' hg5 hnil5)
        have hb5 : Below w.heap.size w w5 := (hDB.alloc hszW _).grown hg5 (by simp; omega) (fun b hb' => (World.ownsRow.lt hD b hb').1)
        clear hD hDB hg5
        go_wp2
        go_roundw
        case rel => exact ⟨p, q + 1, acc ++ [y], by omega, by omega, by go_num, by go_num, by simpa [hna] using (by rw [chCells_snoc]; simpa using hown'), by rw [HLN.out, ← HE2.out, chgM]; simp, by simp; omega, hb5⟩
        case measure => simp [intOf]; omega
      · obtain rfl : q = m := by omega
        have t2 : decide ((q : Int) < (q : Int)) = false := by simp
        have HF := Lib.hid (show acc = chgM l r from by have := HE.out; rw [hln, List.drop_eq_nil_of_le (by omega)] at this; simpa [chgM] using this)
        clear hln
        go_wp2
        go_ret
        rw [← HF.out, hna]
        exact ⟨_, _, rfl, HO.out, HB.out⟩
end Go.Proofs.YtlgahdabhnhjgaaGreatDoor

/- What is read of a vault's own rows lies in memory as the vault itself. -/
namespace Go.Proofs.YtlgahdabhnhjgaaGreatDoor
open Go.RowKit Go.Maps

theorem back_eqs {V : VauM} (h : V.Ok0) : (toV (ofV V)).X.P = V.X.P ∧ (∀ n, (toV (ofV V)).X.N n = { V.X.N n with top := ((toV (ofV V)).X.N n).top }) ∧ (toV (ofV V)).L = V.L ∧ (toV (ofV V)).next = V.next := by
  have eP : (toV (ofV V)).X.P = V.X.P := by
    funext n
    show (match (if hasBlk V.X.P n = true then some (ofB (V.X.P ((n : Int)).toNat)) else none) with | some b => (⟨b.data, b.refs.toNat⟩ : Blk) | none => noBlk) = _
    by_cases hb : hasBlk V.X.P n = true
    · rw [if_pos hb]; rfl
    · rw [if_neg hb]
      have : (V.X.P n).refs = 0 := by
        by_cases h0 : (V.X.P n).refs = 0
        · exact h0
        · exact absurd ((hasBlk_of h n).2 h0) hb
      exact (h.inv.pg n this).symm
  have eN : ∀ n, (toV (ofV V)).X.N n = { V.X.N n with top := ((toV (ofV V)).X.N n).top } := fun n => by
    by_cases hb : hasNod V.X.N n = true
    · have e : (ofV V).N n = some (ofN (V.X.N n)) := by
        show (if hasNod V.X.N n = true then some (ofN (V.X.N ((n : Int)).toNat)) else none) = _
        rw [if_pos hb]; rfl
      have e2 : (toV (ofV V)).X.N n = ⟨(V.X.N n).k0, (V.X.N n).k1, (V.X.N n).k2, (V.X.N n).k3, (V.X.N n).refs, decide (rootsC (ofV V).L n ≠ 0)⟩ := by simp only [toV, e, ofN, Int.toNat_natCast]
      rw [e2]
    · have e : (ofV V).N n = none := by
        show (if hasNod V.X.N n = true then some (ofN (V.X.N ((n : Int)).toNat)) else none) = _
        rw [if_neg hb]
      have e2 : (toV (ofV V)).X.N n = noNod := by simp only [toV, e]
      have : (V.X.N n).refs = 0 := by
        by_cases h0 : (V.X.N n).refs = 0
        · exact h0
        · exact absurd ((hasNod_of h n).2 h0) hb
      rw [e2, h.inv.ng n this]
  have eL : (toV (ofV V)).L = V.L := by
    show (V.L.map ofPt).map toPt = V.L
    rw [List.map_map]
    conv => rhs; rw [← List.map_id V.L]
    exact List.map_congr_left fun p _ => rfl
  exact ⟨eP, eN, eL, rfl⟩
theorem VauAt.back {w : World} {v x gp bp bn B : Nat} {lv : Value} {V : VauM} (hV : V.Ok0) (h : VauAt w v x gp bp bn B lv (toV (ofV V))) : VauAt w v x gp bp bn B lv V := by
  obtain ⟨eP, eN, eL, ex⟩ := back_eqs hV
  have hok := hV.okX
  have hm : nodMap (toV (ofV V)).X.N = nodMap V.X.N := by
    funext m
    unfold nodMap hasNod nodV
    rw [eN m.toNat]
  obtain ⟨r, i, p⟩ := h
  rw [ex] at r
  rw [eL] at p
  obtain ⟨i1, i2, i3, i4, i5⟩ := i
  rw [eP] at i2
  rw [hm] at i3
  exact ⟨r, ⟨i1, i2, i3, i4, hok.N⟩, p⟩
/-- The same, by the rows that were read. -/
theorem VauAt.own {w : World} {v x gp bp bn B : Nat} {lv : Value} {V : VauM} {R : List Ch} (hV : V.Ok0) (hR : rowsM V = R) (h : VauAt w v x gp bp bn B lv (toV (readAll R))) : VauAt w v x gp bp bn B lv V := by
  rw [← hR, read_own hV] at h
  exact h.back hV
end Go.Proofs.YtlgahdabhnhjgaaGreatDoor
