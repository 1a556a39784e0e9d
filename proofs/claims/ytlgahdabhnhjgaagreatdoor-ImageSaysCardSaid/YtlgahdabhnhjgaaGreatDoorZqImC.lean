/- image.Changes. -/
import Derived.Test.YtlgahdabhnhjgaaGreatDoorZqImM
import Derived.Test.YtlgahdabhnhjgaaGreatDoorZqGv
import Derived.Test.YtlgahdabhnhjgaaGreatDoorZqAp3
import Derived.Test.YtlgahdabhnhjgaaGreatDoorZqApO
import Derived.Test.YtlgahdabhnhjgaaGreatDoorZqVau4
namespace Go.Proofs.YtlgahdabhnhjgaaGreatDoor
open Go.RowKit

theorem blCmp (a b : ByteArray) : Op.bytesLess a.toList b.toList = decide (cmpB a b < 0) := by rw [toList_data, toList_data, less_cb]; rfl
def lenV : Value → Nat
  | .slice _ n _ => n
  | _ => 0
/-- What is left behind the first. -/
theorem ChsAt.tail {w : World} {b off : Nat} {x : Ch} {l : List Ch} (h : ChsAt w (some ⟨b, off, none⟩) (x :: l)) : ChsAt w (some ⟨b, off + 3, none⟩) l := fun i hi => by
  obtain ⟨b', off', e, h1, h2, h3, h4, h5⟩ := h (i + 1) (by simpa using hi)
  simp only [Option.some.injEq, Addr.mk.injEq, and_true] at e
  obtain ⟨rfl, rfl⟩ := e
  refine ⟨b, off + 3, rfl, h1, ?_, ?_, ?_, ?_⟩
  · rw [show off + 3 + i * 3 = off + (i + 1) * 3 by omega]; simpa using h2
  · rw [show off + 3 + i * 3 + 1 = off + (i + 1) * 3 + 1 by omega]; simpa using h3
  · rw [show off + 3 + i * 3 + 2 = off + (i + 1) * 3 + 2 by omega]; simpa using h4
  · simpa using h5
theorem ChsAt.tailIf {w : World} {b off c : Nat} {x : Ch} {l : List Ch} (h : ChsAt w (some ⟨b, off, none⟩) (x :: l)) (hc : (x :: l).length ≤ c) : ChsAt w (if c = 1 then some ⟨b, off, none⟩ else some ⟨b, off + 3, none⟩) l := by
  split
  · rename_i e
    have : l = [] := List.length_eq_zero_iff.1 (by simp at hc; omega)
    subst this
    exact fun i hi => absurd hi (by simp)
  · exact h.tail
theorem chs_nil (w : World) (A : Option Addr) : ChsAt w A [] := fun i hi => absurd hi (by simp)

set_option maxHeartbeats 4000000 in
set_option maxRecDepth 100000 in
theorem changes_any (w : World) (A B : Option Addr) (cA cB : Nat) (l r : List Ch) (hA : ChsAt w A l) (hB : ChsAt w B r) (hcA : l.length ≤ cA) (hcB : r.length ≤ cB) (hl : l.length ≤ 200) (hr : r.length ≤ 200) :
    Calls Tryz.prog 21 #[.slice A l.length cA, .slice B r.length cB] w fun e w' => ∃ C c, e = .returned (.slice C (chgM l r).length c) ∧ w'.ownsRow w.heap.size 49 3 (.slice C (chgM l r).length c) (chgM l r).length (chCells (chgM l r)) ∧ Below w.heap.size w w' := by
  obtain ⟨i0, hi, hz0, hz1, hz2⟩ := info_parts Tryz.infoChZ
  go_enter Tryz.func21, Tryz.ntmps21
  go_wp2
  go_loopw [0, 1, 5] (fun s0 s1 s5 w' => ∃ (Aa Ab : Option Addr) (ca cb : Nat) (la lb acc : List Ch), s0 = .slice Aa la.length ca ∧ s1 = .slice Ab lb.length cb ∧ la.length ≤ ca ∧ lb.length ≤ cb ∧ ChsAt w Aa la ∧ ChsAt w Ab lb ∧ w'.ownsRow w.heap.size 49 3 s5 acc.length (chCells acc) ∧ acc ++ chgM la lb = chgM l r ∧ acc.length + la.length + lb.length ≤ 400 ∧ Below w.heap.size w w') (fun s0 s1 _ _ => lenV s0 + lenV s1)
  case atStart => exact ⟨A, B, cA, cB, l, r, [], rfl, rfl, hcA, hcB, hA, hB, World.ownsRow_nil _ _ _ _, rfl, by simp; omega, Below.refl _ _⟩
  case round =>
    obtain ⟨Aa, Ab, ca, cb, la, lb, acc, rfl, rfl, h1, h2, h3, h4, hO, hE, hlen, hb⟩ := hrel
    have hsz := hb.size
    obtain ⟨aA, aC, rfl⟩ := slice_form hO
    have HO := Lib.hid hO
    have HE := Lib.hid hE
    have HB := Lib.hid hb
    clear hO hE hA hB hcA hcB
    cases la with
    | nil =>
      cases lb with
      | nil =>
        go_wp2
        go_ret
        obtain ⟨e, hO⟩ : acc = chgM l r ∧ wr.ownsRow w.heap.size 49 3 (.slice aA acc.length aC) acc.length (chCells acc) := ⟨by have := HE.out; simpa [chgM] using this, HO.out⟩
        rw [← e]
        exact ⟨_, _, rfl, hO, HB.out⟩
      | cons y lb =>
        --< nc
        obtain ⟨b', off', rfl, hby, y0, y1, y2, y3, y4⟩ := h4 0 (by simp)
        simp only [Nat.zero_mul, Nat.add_zero, List.getElem_cons_zero] at y0 y1 y2
        replace y0 := belowKept hb y0
        replace y1 := belowKept hb y1
        replace y2 := belowKept hb y2
        have H4 := Lib.hid (h4.tailIf h2)
        have HY := Lib.hid (fun w' (hb : Below wr.heap.size wr w') => show w'.cell? ⟨b', off', none⟩ = some (.string y.key) ∧ w'.cell? ⟨b', off' + 1, none⟩ = some (.string y.val) ∧ w'.cell? ⟨b', off' + 2, none⟩ = some (.bool y.gone) from ⟨belowKept hb y0, belowKept hb y1, belowKept hb y2⟩)
        have q1 : (((lb.length : Int) + 1) == 0) = false := by simp; omega
        have HD := Lib.hid (fun w' (hb : Below wr.heap.size wr w') => own_below HO.out hb)
        have HDB := Lib.hid (fun w' (hb : Below wr.heap.size wr w') => belowThen HB.out hb)
        have hl4 : acc.length ≤ 400 := by omega
        clear hb h4
        go_wp2_with fail
        go_quiet (fail)
        have hw1 : Below wr.heap.size wr (wr.drewN nq) := below_drewN (Below.refl _ _) _
        generalize wr.drewN nq = W1 at *
        obtain ⟨a0, a1, a2⟩ := HY.out W1 hw1
        go_wp2_with fail
        go_quiet (fail)
        have hw2 : Below wr.heap.size wr (W1.drewN nq) := below_drewN hw1 _
        generalize W1.drewN nq = W2 at *
        obtain ⟨z0, z1, z2⟩ := HY.out W2 hw2
        have hD := HD.out W2 hw2
        have hDB := HDB.out W2 hw2
        have hszW := hDB.size
        go_wp2_with (at_builtin; refine wpList_append_own _ rfl _ _ 23 rfl w.heap.size 49 i0 (.agg #[.string ByteArray.empty, .string ByteArray.empty, .bool false]) 3 40 Tryz.underlying23 hi hz0 hz1 hz2 rfl (by decide) (.slice aA acc.length aC) acc.length (chCells acc) rfl (World.ownsRow.alloc hD _) ⟨W2.heap.size, 0, none⟩ 1 1 [.string y.key, .string y.val, .bool y.gone] rfl rfl (World.news_of_block (cs := #[.string y.key, .string y.val, .bool y.gone]) (t := 49) (fr := (0, 0)) (heap_alloc_new W2 _)) (by simp [Value.oneCell']) (by unfold maxLen; omega) (by omega) (by simp; omega) ?_; intro v' w5 hown' hg5 hnil5)
        have hb5 : Below w.heap.size w w5 := (hDB.alloc hszW _).grown hg5 (by simp; omega) (fun b hb' => (World.ownsRow.lt hD b hb').1)
        clear hD hDB hg5
        go_wp2
        go_roundw
        case rel => exact ⟨Aa, _, ca, cb - 1, [], lb, acc ++ [y], by simp, rfl, h1, by simp at h2; omega, chs_nil _ _, H4.out, by rw [chCells_snoc]; simpa using hown', by rw [← HE.out, chgM]; simp, by simp at hlen ⊢; omega, hb5⟩
        case measure => simp [lenV]
        --> nc
    | cons x la =>
      obtain ⟨b, off, rfl, hbx, x0, x1, x2, x3, x4⟩ := h3 0 (by simp)
      simp only [Nat.zero_mul, Nat.add_zero, List.getElem_cons_zero] at x0 x1 x2
      replace x0 := belowKept hb x0
      replace x1 := belowKept hb x1
      replace x2 := belowKept hb x2
      have H3 := Lib.hid (h3.tailIf h1)
      have h3' := Lib.hid h3
      have q2 : (((la.length : Int) + 1) == 0) = false := by simp; omega
      have q3 : decide ((0 : Int) < (la.length : Int) + 1) = true := decide_eq_true (by omega)
      clear x3 x4 h3
      cases lb with
      | nil =>
        --< cn
        have HX := Lib.hid (fun w' (hb : Below wr.heap.size wr w') => show w'.cell? ⟨b, off, none⟩ = some (.string x.key) ∧ w'.cell? ⟨b, off + 1, none⟩ = some (.string x.val) ∧ w'.cell? ⟨b, off + 2, none⟩ = some (.bool x.gone) from ⟨belowKept hb x0, belowKept hb x1, belowKept hb x2⟩)
        have HD := Lib.hid (fun w' (hb : Below wr.heap.size wr w') => own_below HO.out hb)
        have HDB := Lib.hid (fun w' (hb : Below wr.heap.size wr w') => belowThen HB.out hb)
        have hl4 : acc.length ≤ 400 := by omega
        clear hb h4
        go_wp2_with fail
        go_quiet (fail)
        have hw1 : Below wr.heap.size wr (wr.drewN nq) := below_drewN (Below.refl _ _) _
        generalize wr.drewN nq = W1 at *
        obtain ⟨z0, z1, z2⟩ := HX.out W1 hw1
        have hD := HD.out W1 hw1
        have hDB := HDB.out W1 hw1
        have hszW := hDB.size
        go_wp2_with (at_builtin; refine wpList_append_own _ rfl _ _ 23 rfl w.heap.size 49 i0 (.agg #[.string ByteArray.empty, .string ByteArray.empty, .bool false]) 3 40 Tryz.underlying23 hi hz0 hz1 hz2 rfl (by decide) (.slice aA acc.length aC) acc.length (chCells acc) rfl (World.ownsRow.alloc hD _) ⟨W1.heap.size, 0, none⟩ 1 1 [.string x.key, .string ByteArray.empty, .bool true] rfl rfl (World.news_of_block (cs := #[.string x.key, .string ByteArray.empty, .bool true]) (t := 49) (fr := (0, 0)) (heap_alloc_new W1 _)) (by simp [Value.oneCell']) (by unfold maxLen; omega) (by omega) (by simp; omega) ?_; intro v' w5 hown' hg5 hnil5)
        have hb5 : Below w.heap.size w w5 := (hDB.alloc hszW _).grown hg5 (by simp; omega) (fun b hb' => (World.ownsRow.lt hD b hb').1)
        clear hD hDB hg5
        go_wp2
        go_roundw
        case rel => exact ⟨_, Ab, ca - 1, cb, la, [], acc ++ [goneCh x], rfl, by simp, by simp at h1; omega, h2, H3.out, chs_nil _ _, by rw [chCells_snoc]; simpa [goneCh] using hown', by rw [← HE.out, chgM]; simp, by simp at hlen ⊢; omega, hb5⟩
        case measure => simp [lenV]
        --> cn
      | cons y lb =>
        have HX := Lib.hid (fun w' (hb : Below wr.heap.size wr w') => show w'.cell? ⟨b, off, none⟩ = some (.string x.key) ∧ w'.cell? ⟨b, off + 1, none⟩ = some (.string x.val) ∧ w'.cell? ⟨b, off + 2, none⟩ = some (.bool x.gone) from ⟨belowKept hb x0, belowKept hb x1, belowKept hb x2⟩)
        obtain ⟨b', off', rfl, hby, y0, y1, y2, y3, y4⟩ := h4 0 (by simp)
        simp only [Nat.zero_mul, Nat.add_zero, List.getElem_cons_zero] at y0 y1 y2
        replace y0 := belowKept hb y0
        replace y1 := belowKept hb y1
        replace y2 := belowKept hb y2
        have H4 := Lib.hid (h4.tailIf h2)
        have HY := Lib.hid (fun w' (hb : Below wr.heap.size wr w') => show w'.cell? ⟨b', off', none⟩ = some (.string y.key) ∧ w'.cell? ⟨b', off' + 1, none⟩ = some (.string y.val) ∧ w'.cell? ⟨b', off' + 2, none⟩ = some (.bool y.gone) from ⟨belowKept hb y0, belowKept hb y1, belowKept hb y2⟩)
        have q1 : (((lb.length : Int) + 1) == 0) = false := by simp; omega
        have hh4 := Lib.hid h4
        have HD := Lib.hid (fun w' (hb : Below wr.heap.size wr w') => own_below HO.out hb)
        have HDB := Lib.hid (fun w' (hb : Below wr.heap.size wr w') => belowThen HB.out hb)
        have hl4 : acc.length ≤ 400 := by omega
        clear hb h4
        by_cases hc1 : cmpB x.key y.key < 0
        · skip
          --< c1
          have k1 : Op.bytesLess x.key.toList y.key.toList = true := by rw [blCmp]; simpa using hc1
          have HC := Lib.hid hc1
          clear hc1
          go_wp2_with fail
          go_quiet (fail)
          have hw1 : Below wr.heap.size wr (wr.drewN nq) := below_drewN (Below.refl _ _) _
          generalize wr.drewN nq = W1 at *
          obtain ⟨z0, z1, z2⟩ := HX.out W1 hw1
          have hD := HD.out W1 hw1
          have hDB := HDB.out W1 hw1
          have hszW := hDB.size
          go_wp2_with (at_builtin; refine wpList_append_own _ rfl _ _ 23 rfl w.heap.size 49 i0 (.agg #[.string ByteArray.empty, .string ByteArray.empty, .bool false]) 3 40 Tryz.underlying23 hi hz0 hz1 hz2 rfl (by decide) (.slice aA acc.length aC) acc.length (chCells acc) rfl (World.ownsRow.alloc hD _) ⟨W1.heap.size, 0, none⟩ 1 1 [.string x.key, .string ByteArray.empty, .bool true] rfl rfl (World.news_of_block (cs := #[.string x.key, .string ByteArray.empty, .bool true]) (t := 49) (fr := (0, 0)) (heap_alloc_new W1 _)) (by simp [Value.oneCell']) (by unfold maxLen; omega) (by omega) (by simp; omega) ?_; intro v' w5 hown' hg5 hnil5)
          have hb5 : Below w.heap.size w w5 := (hDB.alloc hszW _).grown hg5 (by simp; omega) (fun b hb' => (World.ownsRow.lt hD b hb').1)
          clear hD hDB hg5
          go_wp2
          go_roundw
          case rel => exact ⟨_, _, ca - 1, cb, la, y :: lb, acc ++ [goneCh x], rfl, rfl, by simp at h1; omega, h2, H3.out, hh4.out, by rw [chCells_snoc]; simpa [goneCh] using hown', by rw [← HE.out, chgM, if_pos (by have := HC.out; omega)]; simp, by simp at hlen ⊢; omega, hb5⟩
          case measure => simp [lenV]
          --> c1
        have k1 : Op.bytesLess x.key.toList y.key.toList = false := by rw [blCmp]; simpa using hc1
        by_cases hc2 : cmpB y.key x.key < 0
        · skip
          --< c2
          have k2 : Op.bytesLess y.key.toList x.key.toList = true := by rw [blCmp]; simpa using hc2
          have HC1 := Lib.hid hc1
          have HC2 := Lib.hid hc2
          clear hc1 hc2
          go_wp2_with fail
          go_quiet (fail)
          have hw1 : Below wr.heap.size wr (wr.drewN nq) := below_drewN (Below.refl _ _) _
          generalize wr.drewN nq = W1 at *
          obtain ⟨a0, a1, a2⟩ := HX.out W1 hw1
          obtain ⟨a3, a4, a5⟩ := HY.out W1 hw1
          go_wp2_with fail
          go_quiet (fail)
          have hw2 : Below wr.heap.size wr (W1.drewN nq) := below_drewN hw1 _
          generalize W1.drewN nq = W2 at *
          obtain ⟨z0, z1, z2⟩ := HY.out W2 hw2
          have hD := HD.out W2 hw2
          have hDB := HDB.out W2 hw2
          have hszW := hDB.size
          go_wp2_with (at_builtin; refine wpList_append_own _ rfl _ _ 23 rfl w.heap.size 49 i0 (.agg #[.string ByteArray.empty, .string ByteArray.empty, .bool false]) 3 40 Tryz.underlying23 hi hz0 hz1 hz2 rfl (by decide) (.slice aA acc.length aC) acc.length (chCells acc) rfl (World.ownsRow.alloc hD _) ⟨W2.heap.size, 0, none⟩ 1 1 [.string y.key, .string y.val, .bool y.gone] rfl rfl (World.news_of_block (cs := #[.string y.key, .string y.val, .bool y.gone]) (t := 49) (fr := (0, 0)) (heap_alloc_new W2 _)) (by simp [Value.oneCell']) (by unfold maxLen; omega) (by omega) (by simp; omega) ?_; intro v' w5 hown' hg5 hnil5)
          have hb5 : Below w.heap.size w w5 := (hDB.alloc hszW _).grown hg5 (by simp; omega) (fun b hb' => (World.ownsRow.lt hD b hb').1)
          clear hD hDB hg5
          go_wp2
          go_roundw
          case rel => exact ⟨_, _, ca, cb - 1, x :: la, lb, acc ++ [y], rfl, rfl, h1, by simp at h2; omega, h3'.out, H4.out, by rw [chCells_snoc]; simpa using hown', by rw [← HE.out, chgM, if_neg (by have := HC1.out; omega), if_pos (by have := HC2.out; omega)]; simp, by simp at hlen ⊢; omega, hb5⟩
          case measure => simp [lenV]
          --> c2
        have k2 : Op.bytesLess y.key.toList x.key.toList = false := by rw [blCmp]; simpa using hc2
        have HC1 := Lib.hid hc1
        have HC2 := Lib.hid hc2
        clear hc1 hc2
        go_wp2_with fail
        go_quiet (fail)
        have hw1 : Below wr.heap.size wr (wr.drewN nq) := below_drewN (Below.refl _ _) _
        generalize wr.drewN nq = W1 at *
        obtain ⟨a0, a1, a2⟩ := HX.out W1 hw1
        obtain ⟨a3, a4, a5⟩ := HY.out W1 hw1
        go_wp2_with fail
        go_quiet (fail)
        have hw2 : Below wr.heap.size wr (W1.drewN nq) := below_drewN hw1 _
        generalize W1.drewN nq = W2 at *
        obtain ⟨z0, z1, z2⟩ := HX.out W2 hw2
        obtain ⟨z3, z4, z5⟩ := HY.out W2 hw2
        clear a0 a1 a2 a3 a4 a5
        by_cases e1 : ¬ x.key = y.key
        · skip
          --< n1
          have t1 : (x.key.toList == y.key.toList) = false := text_no e1
          have HNE := Lib.hid (show ¬ x = y from fun e => e1 (by rw [e]))
          clear e1
          go_wp2_with fail
          go_quiet (fail)
          have hw3 : Below wr.heap.size wr (W2.drewN nq) := below_drewN hw2 _
          generalize W2.drewN nq = W3 at *
          obtain ⟨f0, f1, f2⟩ := HY.out W3 hw3
          have hD := HD.out W3 hw3
          have hDB := HDB.out W3 hw3
          have hszW := hDB.size
          go_wp2_with (at_builtin; refine wpList_append_own _ rfl _ _ 23 rfl w.heap.size 49 i0 (.agg #[.string ByteArray.empty, .string ByteArray.empty, .bool false]) 3 40 Tryz.underlying23 hi hz0 hz1 hz2 rfl (by decide) (.slice aA acc.length aC) acc.length (chCells acc) rfl (World.ownsRow.alloc hD _) ⟨W3.heap.size, 0, none⟩ 1 1 [.string y.key, .string y.val, .bool y.gone] rfl rfl (World.news_of_block (cs := #[.string y.key, .string y.val, .bool y.gone]) (t := 49) (fr := (0, 0)) (heap_alloc_new W3 _)) (by simp [Value.oneCell']) (by unfold maxLen; omega) (by omega) (by simp; omega) ?_; intro v' w5 hown' hg5 hnil5)
          have hb5 : Below w.heap.size w w5 := (hDB.alloc hszW _).grown hg5 (by simp; omega) (fun b hb' => (World.ownsRow.lt hD b hb').1)
          clear hD hDB hg5
          clear z0 z1 z2 z3 z4 z5 f0 f1 f2
          go_wp2_with fail
          go_quiet (fail)
          go_wp2
          go_roundw
          case rel => exact ⟨_, _, ca - 1, cb - 1, la, lb, acc ++ [y], rfl, rfl, by simp at h1; omega, by simp at h2; omega, H3.out, H4.out, by rw [chCells_snoc]; simpa using own_below hown' (below_drewN (Below.refl _ _) nq), by rw [← HE.out, chgM, if_neg (by have := HC1.out; omega), if_neg (by have := HC2.out; omega), if_neg HNE.out]; simp, by simp at hlen ⊢; omega, below_drewN hb5 _⟩
          case measure => simp [lenV]; omega
          --> n1
        replace e1 := Classical.not_not.1 e1
        have t1 : (x.key.toList == y.key.toList) = true := text_yes e1
        by_cases e2 : ¬ x.val = y.val
        · skip
          --< n2
          have t2 : (x.val.toList == y.val.toList) = false := text_no e2
          have HNE := Lib.hid (show ¬ x = y from fun e => e2 (by rw [e]))
          clear e1 e2
          go_wp2_with fail
          go_quiet (fail)
          have hw3 : Below wr.heap.size wr (W2.drewN nq) := below_drewN hw2 _
          generalize W2.drewN nq = W3 at *
          obtain ⟨f0, f1, f2⟩ := HY.out W3 hw3
          have hD := HD.out W3 hw3
          have hDB := HDB.out W3 hw3
          have hszW := hDB.size
          go_wp2_with (at_builtin; refine wpList_append_own _ rfl _ _ 23 rfl w.heap.size 49 i0 (.agg #[.string ByteArray.empty, .string ByteArray.empty, .bool false]) 3 40 Tryz.underlying23 hi hz0 hz1 hz2 rfl (by decide) (.slice aA acc.length aC) acc.length (chCells acc) rfl (World.ownsRow.alloc hD _) ⟨W3.heap.size, 0, none⟩ 1 1 [.string y.key, .string y.val, .bool y.gone] rfl rfl (World.news_of_block (cs := #[.string y.key, .string y.val, .bool y.gone]) (t := 49) (fr := (0, 0)) (heap_alloc_new W3 _)) (by simp [Value.oneCell']) (by unfold maxLen; omega) (by omega) (by simp; omega) ?_; intro v' w5 hown' hg5 hnil5)
          have hb5 : Below w.heap.size w w5 := (hDB.alloc hszW _).grown hg5 (by simp; omega) (fun b hb' => (World.ownsRow.lt hD b hb').1)
          clear hD hDB hg5
          clear z0 z1 z2 z3 z4 z5 f0 f1 f2
          go_wp2_with fail
          go_quiet (fail)
          go_wp2
          go_roundw
          case rel => exact ⟨_, _, ca - 1, cb - 1, la, lb, acc ++ [y], rfl, rfl, by simp at h1; omega, by simp at h2; omega, H3.out, H4.out, by rw [chCells_snoc]; simpa using own_below hown' (below_drewN (Below.refl _ _) nq), by rw [← HE.out, chgM, if_neg (by have := HC1.out; omega), if_neg (by have := HC2.out; omega), if_neg HNE.out]; simp, by simp at hlen ⊢; omega, below_drewN hb5 _⟩
          case measure => simp [lenV]; omega
          --> n2
        replace e2 := Classical.not_not.1 e2
        have t2 : (x.val.toList == y.val.toList) = true := text_yes e2
        by_cases e3 : ¬ x.gone = y.gone
        · skip
          --< n3
          have t3 : (x.gone == y.gone) = false := by simp [e3]
          have HNE := Lib.hid (show ¬ x = y from fun e => e3 (by rw [e]))
          clear e1 e2 e3
          go_wp2_with fail
          go_quiet (fail)
          have hw3 : Below wr.heap.size wr (W2.drewN nq) := below_drewN hw2 _
          generalize W2.drewN nq = W3 at *
          obtain ⟨f0, f1, f2⟩ := HY.out W3 hw3
          have hD := HD.out W3 hw3
          have hDB := HDB.out W3 hw3
          have hszW := hDB.size
          go_wp2_with (at_builtin; refine wpList_append_own _ rfl _ _ 23 rfl w.heap.size 49 i0 (.agg #[.string ByteArray.empty, .string ByteArray.empty, .bool false]) 3 40 Tryz.underlying23 hi hz0 hz1 hz2 rfl (by decide) (.slice aA acc.length aC) acc.length (chCells acc) rfl (World.ownsRow.alloc hD _) ⟨W3.heap.size, 0, none⟩ 1 1 [.string y.key, .string y.val, .bool y.gone] rfl rfl (World.news_of_block (cs := #[.string y.key, .string y.val, .bool y.gone]) (t := 49) (fr := (0, 0)) (heap_alloc_new W3 _)) (by simp [Value.oneCell']) (by unfold maxLen; omega) (by omega) (by simp; omega) ?_; intro v' w5 hown' hg5 hnil5)
          have hb5 : Below w.heap.size w w5 := (hDB.alloc hszW _).grown hg5 (by simp; omega) (fun b hb' => (World.ownsRow.lt hD b hb').1)
          clear hD hDB hg5
          clear z0 z1 z2 z3 z4 z5 f0 f1 f2
          go_wp2_with fail
          go_quiet (fail)
          go_wp2
          go_roundw
          case rel => exact ⟨_, _, ca - 1, cb - 1, la, lb, acc ++ [y], rfl, rfl, by simp at h1; omega, by simp at h2; omega, H3.out, H4.out, by rw [chCells_snoc]; simpa using own_below hown' (below_drewN (Below.refl _ _) nq), by rw [← HE.out, chgM, if_neg (by have := HC1.out; omega), if_neg (by have := HC2.out; omega), if_neg HNE.out]; simp, by simp at hlen ⊢; omega, below_drewN hb5 _⟩
          case measure => simp [lenV]; omega
          --> n3
        replace e3 := Classical.not_not.1 e3
        have t3 : (x.gone == y.gone) = true := by simp [e3]
        have HEQ := Lib.hid (show x = y from by obtain ⟨a1, a2, a3⟩ := x; obtain ⟨b1, b2, b3⟩ := y; simp only at e1 e2 e3; rw [e1, e2, e3])
        clear e1 e2 e3
        go_wp2_with fail
        go_quiet (fail)
        have hw3 : Below wr.heap.size wr (W2.drewN nq) := below_drewN hw2 _
        generalize W2.drewN nq = W3 at *
        clear z0 z1 z2 z3 z4 z5
        go_wp2_with fail
        go_quiet (fail)
        have hw4 : Below wr.heap.size wr (W3.drewN nq) := below_drewN hw3 _
        generalize W3.drewN nq = W4 at *
        go_wp2
        go_roundw
        case rel => exact ⟨_, _, ca - 1, cb - 1, la, lb, acc, rfl, rfl, by simp at h1; omega, by simp at h2; omega, H3.out, H4.out, HD.out W4 hw4, by rw [← HE.out, chgM, if_neg (by have := HC1.out; omega), if_neg (by have := HC2.out; omega), if_pos HEQ.out]; simp, by simp at hlen ⊢; omega, HDB.out W4 hw4⟩
        case measure => simp [lenV]; omega
end Go.Proofs.YtlgahdabhnhjgaaGreatDoor
