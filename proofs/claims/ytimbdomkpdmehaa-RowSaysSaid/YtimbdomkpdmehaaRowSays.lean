/- RowSays: the walk. -/
import Derived.Test.YtimbdomkpdmehaaRs2
import Derived.Test.YtimbdomkpdmehaaRr3
import Derived.Test.YtimbdomkpdmehaaRr1b
import Derived.Test.YtimbdomkpdmehaaRr4
import Derived.Test.YtimbdomkpdmehaaGrow
namespace Go.Proofs.Ytimbdomkpdmehaa
open Go.RowKit

set_option maxHeartbeats 4000000 in
set_option maxRecDepth 100000 in
theorem rowSays_walk (A B : Option Addr) (cA cB : Nat) (l ch : List Ch) (c : Ch) (s : ByteArray) (w : World) (hl : ChsAt w A l) (hc : ChsAt w B ch) (hA : A = none → cA = 0) (hln : l.length ≤ maxLen) (hcn : ch.length ≤ maxLen) (hk : c.key.size ≤ maxLen) (hv : c.val.size ≤ maxLen) (hs : s.size ≤ maxLen) :
    Calls Try.prog 4 #[.slice A l.length cA, .slice B ch.length cB, .agg (chArr c), .string s] w fun e w' => e = .returned (.bool true) ∧ Below w.heap.size w w' := by
  have HR := Lib.hid rows_any
  have HL1 := Lib.hid (fun w' (h : Below w.heap.size w w') => lightChs_any A l cA 90 w' hln (hl.below h))
  have HL2 := Lib.hid (fun w' (h : Below w.heap.size w w') => lightChs_any B ch cB 20 w' hcn (hc.below h))
  have HL3 := Lib.hid (fun w' N (h : w'.heap[N]? = some (.cells (chArr c) 55 (0, 0))) => lightChs_any (some ⟨N, 0, none⟩) [c] 1 1 w' (by unfold maxLen; simp) (fun i hi => by
    obtain rfl : i = 0 := by simp at hi; omega
    exact ⟨N, 0, rfl, (Array.getElem?_eq_some_iff.1 h).1, cell_of_row _ _ _ _ _ _ h, cell_of_row _ _ _ _ _ _ h, cell_of_row _ _ _ _ _ _ h, hk, hv⟩))
  have HBY := Lib.hid (fun w' => bytes_any c w' hk hv)
  have HRB := Lib.hid (fun w' => rbytes_any c w' hk hv)
  have HPA := Lib.hid (fun w' => parse_any s w' hs)
  have HRP := Lib.hid (fun w' => rparse_any s w' hs)
  have HCK := Lib.hid (fun w' => check_any c w' hk hv)
  have HRF := Lib.hid (fun w' => rfault_any c w' hk hv)
  have NN := Lib.hid (chErr_nonneg c)
  have NP := Lib.hid (show 0 ≤ parseE s by unfold parseE; split; omega; split <;> omega)
  rw [show chArr c = #[.string c.key, .string c.val, .bool c.gone] from rfl] at HL3 ⊢
  generalize (if chErr c = 0 then chBytes c else ByteArray.empty) = bs at HBY HRB
  generalize chErr c = ec at *
  generalize parseE s = ep at *
  generalize parseC s = pc at *
  obtain ⟨key, val, gone⟩ := c
  simp only [List.length_cons, List.length_nil, Nat.zero_add] at HL3 HBY HRB HCK HRF
  unfold chArr at HPA HRP
  obtain ⟨pk, pv, pg⟩ := pc
  simp only [] at HPA HRP
  have hszw : w.heap.size < (w.alloc (.cells #[.string key, .string val, .bool gone] 55)).heap.size := by simp
  have hrow0 : (w.alloc (.cells #[.string key, .string val, .bool gone] 55)).heap[w.heap.size]? = some (.cells #[.string key, .string val, .bool gone] 55 (0, 0)) := heap_alloc_new _ _
  have hb0 : Below w.heap.size w (w.alloc (.cells #[.string key, .string val, .bool gone] 55)) := (Below.refl _ _).alloc (Nat.le_refl _) _
  have HROW0 := Lib.hid hrow0
  have HSZ0 := Lib.hid hszw
  have HB0 := Lib.hid hb0
  clear hk hv hs hrow0 hszw hb0
  unfold maxLen at hln hcn
  go_enter Try.func4, Try.ntmps4
  go_wp2_with fail
  ((with_reducible refine (HR.out _).mono ?_); rintro e w1 ⟨rfl, hb1⟩)
  have hB1 : Below w.heap.size w w1 := HB0.out.trans (hb1.mono (Nat.le_of_lt HSZ0.out))
  have hr1 : w1.heap[w.heap.size]? = some (.cells #[.string key, .string val, .bool gone] 55 (0, 0)) := (hb1.block _ HSZ0.out).trans HROW0.out
  clear HR hb1
  go_wp2_with fail
  ((with_reducible refine (HL1.out _ hB1).mono ?_); rintro e w2 ⟨r1, rfl, hR1, hb2⟩)
  have hB2 := belowThen hB1 hb2
  have hr2 := (hb2.block _ (Array.getElem?_eq_some_iff.1 hr1).1).trans hr1
  clear HL1 hr1 hb2
  cases r1 with
  | false =>
    clear hr2
    go_wp2
    go_ret
    exact ⟨rfl, hB2⟩
  | true =>
    have hl90 := hR1 rfl
    go_wp2_with fail
    ((with_reducible refine (HL2.out _ hB2).mono ?_); rintro e w3 ⟨r2, rfl, hR2, hb3⟩)
    have hB3 := belowThen hB2 hb3
    have hr3 := (hb3.block _ (Array.getElem?_eq_some_iff.1 hr2).1).trans hr2
    clear HL2 hr2 hb3 hR1
    cases r2 with
    | false =>
      clear hr3
      go_wp2
      go_ret
      exact ⟨rfl, hB3⟩
    | true =>
      have hc20 := hR2 rfl
      have c0 : w3.cell? ⟨w.heap.size, 0, none⟩ = some (.string key) := cell_of_row _ _ _ _ _ _ hr3
      have c1 : w3.cell? ⟨w.heap.size, 1, none⟩ = some (.string val) := cell_of_row _ _ _ _ _ _ hr3
      have c2 : w3.cell? ⟨w.heap.size, 2, none⟩ = some (.bool gone) := cell_of_row _ _ _ _ _ _ hr3
      have hr4 := (heap_alloc_old w3 (.cells #[.string key, .string val, .bool gone] 55) (Array.getElem?_eq_some_iff.1 hr3).1).trans hr3
      have HR4 := Lib.hid hr4
      clear hr3 hR2 hr4
      go_wp2_with fail
      ((with_reducible refine (HL3.out _ w3.heap.size (heap_alloc_new _ _)).mono ?_); rintro e w4 ⟨r3, rfl, hR3, hb4⟩)
      have hB4 : Below w.heap.size w w4 := belowThen (hB3.alloc hB3.size _) hb4
      have hr5 := (hb4.block _ (Array.getElem?_eq_some_iff.1 HR4.out).1).trans HR4.out
      clear HL3 HR4 hb4 c0 c1 c2 hR3
      cases r3 with
      | false =>
        clear hr5
        go_wp2
        go_ret
        exact ⟨rfl, hB4⟩
      | true =>
        by_cases h200 : 200 < (s.size : Int)
        · clear hr5
          go_wp2
          go_ret
          exact ⟨rfl, hB4⟩
        · have c0 : w4.cell? ⟨w.heap.size, 0, none⟩ = some (.string key) := cell_of_row _ _ _ _ _ _ hr5
          have c1 : w4.cell? ⟨w.heap.size, 1, none⟩ = some (.string val) := cell_of_row _ _ _ _ _ _ hr5
          have c2 : w4.cell? ⟨w.heap.size, 2, none⟩ = some (.bool gone) := cell_of_row _ _ _ _ _ _ hr5
          have HR5 := Lib.hid hr5
          clear hr5
          go_wp2_with fail
          ((with_reducible refine (HBY.out _).mono ?_); rintro e w5 ⟨rfl, hb5⟩)
          have hB5 := belowThen hB4 hb5
          have hr6 := (hb5.block _ (Array.getElem?_eq_some_iff.1 HR5.out).1).trans HR5.out
          clear c0 c1 c2 HR5 hb5 HBY
          have c0 : w5.cell? ⟨w.heap.size, 0, none⟩ = some (.string key) := cell_of_row _ _ _ _ _ _ hr6
          have c1 : w5.cell? ⟨w.heap.size, 1, none⟩ = some (.string val) := cell_of_row _ _ _ _ _ _ hr6
          have c2 : w5.cell? ⟨w.heap.size, 2, none⟩ = some (.bool gone) := cell_of_row _ _ _ _ _ _ hr6
          have HR6 := Lib.hid hr6
          clear hr6
          go_wp2_with fail
          ((with_reducible refine (HRB.out _).mono ?_); rintro e w6 ⟨rfl, hb6⟩)
          have hB6 := belowThen hB5 hb6
          have hr7 := (hb6.block _ (Array.getElem?_eq_some_iff.1 HR6.out).1).trans HR6.out
          clear c0 c1 c2 HR6 hb6 HRB
          have HR7 := Lib.hid hr7
          clear hr7
          go_wp2_with fail
          ((with_reducible refine (HPA.out _).mono ?_); rintro e w7 ⟨rfl, hb7⟩)
          have hB7 := belowThen hB6 hb7
          have hr8 := (hb7.block _ (Array.getElem?_eq_some_iff.1 HR7.out).1).trans HR7.out
          clear HR7 hb7 HPA
          have HR8 := Lib.hid hr8
          clear hr8
          go_wp2_with fail
          ((with_reducible refine (HRP.out _).mono ?_); rintro e w9 ⟨rfl, hb9⟩)
          have hr9 := (hb9.block _ (by simp; have := (Array.getElem?_eq_some_iff.1 HR8.out).1; omega)).trans ((heap_alloc_old w7 (.cells #[.string pk, .string pv, .bool pg] 55) (Array.getElem?_eq_some_iff.1 HR8.out).1).trans HR8.out)
          have hp9 := (hb9.block w7.heap.size (by simp)).trans (heap_alloc_new w7 (.cells #[.string pk, .string pv, .bool pg] 55))
          have hB9 : Below w.heap.size w w9 := belowThen (hB7.alloc hB7.size _) hb9
          have hrA := (heap_alloc_old w9 (.cells #[.string pk, .string pv, .bool pg] 55) (Array.getElem?_eq_some_iff.1 hr9).1).trans hr9
          have hpA := (heap_alloc_old w9 (.cells #[.string pk, .string pv, .bool pg] 55) (Array.getElem?_eq_some_iff.1 hp9).1).trans hp9
          have hqA := heap_alloc_new w9 (.cells #[.string pk, .string pv, .bool pg] 55)
          have hBA : Below w.heap.size w (w9.alloc (.cells #[.string pk, .string pv, .bool pg] 55)) := hB9.alloc hB9.size _
          clear hr9 hp9 hb9 HR8 HRP
          obtain ⟨wx, hwx⟩ : ∃ wx, w9.alloc (.cells #[.string pk, .string pv, .bool pg] 55) = wx := ⟨_, rfl⟩
          rw [hwx] at hrA hpA hqA hBA
          have lr := (Array.getElem?_eq_some_iff.1 hrA).1
          have lp := (Array.getElem?_eq_some_iff.1 hpA).1
          have lq := (Array.getElem?_eq_some_iff.1 hqA).1
          have k0 := fun (o : Gr wx) => show o.val.cell? ⟨w.heap.size, 0, none⟩ = some (.string key) from (o.ok.cell (p := ⟨w.heap.size, 0, none⟩) lr).trans (cell_of_row _ _ _ _ _ _ hrA)
          have k1 := fun (o : Gr wx) => show o.val.cell? ⟨w.heap.size, 1, none⟩ = some (.string val) from (o.ok.cell (p := ⟨w.heap.size, 1, none⟩) lr).trans (cell_of_row _ _ _ _ _ _ hrA)
          have k2 := fun (o : Gr wx) => show o.val.cell? ⟨w.heap.size, 2, none⟩ = some (.bool gone) from (o.ok.cell (p := ⟨w.heap.size, 2, none⟩) lr).trans (cell_of_row _ _ _ _ _ _ hrA)
          have p0 := fun (o : Gr wx) => show o.val.cell? ⟨w7.heap.size, 0, none⟩ = some (.string pk) from (o.ok.cell (p := ⟨w7.heap.size, 0, none⟩) lp).trans (cell_of_row _ _ _ _ _ _ hpA)
          have p1 := fun (o : Gr wx) => show o.val.cell? ⟨w7.heap.size, 1, none⟩ = some (.string pv) from (o.ok.cell (p := ⟨w7.heap.size, 1, none⟩) lp).trans (cell_of_row _ _ _ _ _ _ hpA)
          have p2 := fun (o : Gr wx) => show o.val.cell? ⟨w7.heap.size, 2, none⟩ = some (.bool pg) from (o.ok.cell (p := ⟨w7.heap.size, 2, none⟩) lp).trans (cell_of_row _ _ _ _ _ _ hpA)
          have q0 := fun (o : Gr wx) => show o.val.cell? ⟨w9.heap.size, 0, none⟩ = some (.string pk) from (o.ok.cell (p := ⟨w9.heap.size, 0, none⟩) lq).trans (cell_of_row _ _ _ _ _ _ hqA)
          have q1 := fun (o : Gr wx) => show o.val.cell? ⟨w9.heap.size, 1, none⟩ = some (.string pv) from (o.ok.cell (p := ⟨w9.heap.size, 1, none⟩) lq).trans (cell_of_row _ _ _ _ _ _ hqA)
          have q2 := fun (o : Gr wx) => show o.val.cell? ⟨w9.heap.size, 2, none⟩ = some (.bool pg) from (o.ok.cell (p := ⟨w9.heap.size, 2, none⟩) lq).trans (cell_of_row _ _ _ _ _ _ hqA)
          have HSE := Lib.hid (fun (o : Gr wx) => Calls.grow o ((said_yes ec o.val NN.out).mono fun _ _ h => ⟨h.1, by rw [← h.2]; exact Below.refl _ _⟩))
          have HSP := Lib.hid (fun (o : Gr wx) => Calls.grow o ((said_yes ep o.val NP.out).mono fun _ _ h => ⟨h.1, by rw [← h.2]; exact Below.refl _ _⟩))
          have HBA := Lib.hid hBA
          have HWX := Lib.hid hwx
          clear hrA hpA hqA lr lp lq hBA hB9 hB1 hB2 hB3 hB4 hB5 hB6 hB7
          go_wp2
          clear hwx
          refine wp_region_grow (by kernel_rfl) (by kernel_rfl) ?_
          repeat (go_big_quiet_step (first | with_reducible exact Calls.grow _ (HCK.out _) | with_reducible exact Calls.grow _ (HRF.out _) | with_reducible exact HSE.out _ | with_reducible exact HSP.out _))
          refine wpQuiet_nil ?_
          intro wy hw'
          have hBB : Below w.heap.size w wy := by obtain ⟨o9, h9⟩ := hw'; rw [h9]; exact belowThen HBA.out o9.ok
          clear hw' k0 k1 k2 p0 p1 p2 q0 q1 q2 HSE HSP HBA HWX HCK HRF NN NP
          go_wp2
          go_loopw [18] (fun i w' => ∃ k : Nat, k ≤ ch.length ∧ i = .int .i64 k ∧ Below w.heap.size w w') (fun i _ => ch.length - (intOf i).toNat)
          case atStart => exact ⟨0, Nat.zero_le _, rfl, hBB⟩
          case round =>
            clear hBB
            obtain ⟨k, hk, rfl, hb⟩ := hrel
            by_cases hlt : k < ch.length
            · obtain ⟨b, off, rfl, hblt, d0, d1, d2, s1, s2⟩ := (hc.below hb) k hlt
              have HFT := fun w' => rfault_any ch[k] w' s1 s2
              have i1 : (k : Int) < (ch.length : Int) := by omega
              have i0 : (0 : Int) ≤ (k : Int) := by omega
              generalize chErr ch[k] = ne at *
              generalize ch[k] = y at *
              obtain ⟨yk, yv, yg⟩ := y
              simp only [] at d0 d1 d2 HFT
              have HF' := Lib.hid HFT
              clear HFT s1 s2
              by_cases hf : 0 < ne
              · go_wp2_with ((with_reducible refine (HF'.out _).mono ?_); rintro e w3 ⟨rfl, hb3⟩)
                go_ret
                exact ⟨rfl, belowThen hb hb3⟩
              · go_wp2_with ((with_reducible refine (HF'.out _).mono ?_); rintro e w3 ⟨rfl, hb3⟩)
                refine ⟨⟨k + 1, hlt, by go_num, belowThen hb hb3⟩, by simp [intOf]; omega⟩
            · have HGR := Lib.hid (goodRows_any wr A cA l (hl.below hb) (by omega))
              go_wp2_with fail
              ((with_reducible refine HGR.out.mono ?_); rintro e w3 ⟨g, rfl, hg, hb3⟩)
              have hB3 := belowThen hb hb3
              clear HGR hb3
              cases g with
              | false =>
                go_wp2
                go_ret
                exact ⟨rfl, hB3⟩
              | true =>
                have hst := hg rfl
                have HAP := Lib.hid (apply_any w3 A cA l B cB ch (hl.below hB3) hA (hc.below hB3) (by omega) (by omega) hst)
                have HAD := Lib.hid (fun w' (h : Below w.heap.size w w') => applied_any w' A cA l B cB ch (hl.below h) hA (hc.below h) (by omega) (by omega) hst)
                have HSZ := Lib.hid (fun x (hx : x ∈ apAll l ch) => (apAll_mem hx).elim (hl.sizes x) (hc.sizes x))
                have HLN := Lib.hid (show (apAll l ch).length ≤ 100000 by have := apAll_len ch l; omega)
                clear hg hst
                go_wp2_with fail
                ((with_reducible refine HAP.out.mono ?_); rintro e w4 ⟨A4, c4, rfl, hO4, hb4⟩)
                have hB4 := belowThen hB3 hb4
                have HO4 := Lib.hid hO4
                clear HAP hO4 hb4
                go_wp2_with fail
                ((with_reducible refine (HAD.out _ hB4).mono ?_); rintro e w5 ⟨A5, c5, rfl, hO5, hb5⟩)
                have hB5 := belowThen hB4 hb5
                have HSM := sameChs_any w5 A4 A5 c4 c5 (apAll l ch) (apAll l ch) (chs_own (own_below HO4.out hb5) HSZ.out) (chs_own hO5 HSZ.out) HLN.out
                rw [decide_eq_true rfl] at HSM
                have HSM' := Lib.hid HSM
                clear HSM hO5 HO4 hb5 HAD
                go_wp2_with fail
                ((with_reducible refine HSM'.out.mono ?_); rintro e w6 ⟨rfl, hb6⟩)
                have hB6 := belowThen hB5 hb6
                clear HSM' hb6
                go_wp2
                go_ret
                exact ⟨rfl, hB6⟩
end Go.Proofs.Ytimbdomkpdmehaa
