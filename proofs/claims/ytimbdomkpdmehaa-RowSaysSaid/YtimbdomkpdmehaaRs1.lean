/- RowSays: goodRows. -/
import Derived.Test.YtimbdomkpdmehaaRr2
import Derived.Test.YtimbdomkpdmehaaApM
import Derived.Test.YtimbdomkpdmehaaGrow
namespace Go.Proofs.Ytimbdomkpdmehaa
open Go.RowKit

theorem sorted_snoc {l : List Ch} {j : Nat} (hj : j + 1 < l.length) (h : SortedCh (l.take (j + 1))) (hc : cmpB l[j].key l[j + 1].key < 0) : SortedCh (l.take (j + 1 + 1)) := by
  unfold SortedCh at *
  rw [List.take_succ_eq_append_getElem hj, List.pairwise_append]
  refine ⟨h, by simp, fun a ha b hb => ?_⟩
  simp only [List.mem_singleton] at hb
  subst hb
  rw [List.take_succ_eq_append_getElem (show j < l.length by omega)] at ha h
  rcases List.mem_append.1 ha with ha | ha
  · exact cmp_trans ((List.pairwise_append.1 h).2.2 a ha l[j] (by simp)) hc
  · simp only [List.mem_singleton] at ha
    subst ha; exact hc

def GoodRet (w : World) (l : List Ch) (e : Ending) (w' : World) : Prop := ∃ b, e = .returned (.bool b) ∧ (b = true → SortedCh l) ∧ Below w.heap.size w w'

set_option maxHeartbeats 8000000 in
set_option maxRecDepth 100000 in
theorem goodRows_any (w : World) (A : Option Addr) (cA : Nat) (l : List Ch) (h : ChsAt w A l) (hn : l.length ≤ 1000) :
    Calls Try.prog 30 #[.slice A l.length cA] w (GoodRet w l) := by
  have NO := Lib.hid (fun w' (hb : Below w.heap.size w w') => show GoodRet w l (.returned (.bool false)) w' from ⟨false, rfl, by simp, hb⟩)
  go_enter Try.func30, Try.ntmps30
  go_wp2
  go_loopw [3] (fun i w' => ∃ k : Nat, k ≤ l.length ∧ i = .int .i64 k ∧ Hid (SortedCh (l.take k)) ∧ Below w.heap.size w w') (fun i _ => l.length - (intOf i).toNat)
  case atStart => exact ⟨0, Nat.zero_le _, rfl, Lib.hid (by simp [SortedCh]), Below.refl _ _⟩
  case round =>
    obtain ⟨k, hk, rfl, HS, hb⟩ := hrel
    by_cases hlt : k < l.length
    · obtain ⟨b, off, rfl, hblt, d0, d1, d2, s1, s2⟩ := (h.below hb) k hlt
      have HFT := fun w' => rfault_any l[k] w' s1 s2
      have hnn := chErr_nonneg l[k]
      have i1 : (k : Int) < (l.length : Int) := by omega
      have i0 : (0 : Int) ≤ (k : Int) := by omega
      have HRW := Lib.hid (fun w1 (h1 : Below wr.heap.size wr w1) => show Below w.heap.size w w1 from belowThen hb h1)
      have K3 := (fun (o : Gr wr) => show o.val.cell? ⟨b, off + k * 3, none⟩ = some (.string l[k].key) ∧ o.val.cell? ⟨b, off + k * 3 + 1, none⟩ = some (.string l[k].val) ∧ o.val.cell? ⟨b, off + k * 3 + 2, none⟩ = some (.bool l[k].gone) from ⟨(o.ok.cell (p := ⟨b, off + k * 3, none⟩) hblt).trans d0, (o.ok.cell (p := ⟨b, off + k * 3 + 1, none⟩) hblt).trans d1, (o.ok.cell (p := ⟨b, off + k * 3 + 2, none⟩) hblt).trans d2⟩)
      cases k with
      | zero =>
        simp only [Nat.zero_mul, Nat.add_zero] at d0 d1 d2 K3
        have HS1 := Lib.hid (show SortedCh (l.take (0 + 1)) by rw [List.take_succ_eq_append_getElem hlt]; simp [SortedCh])
        clear h
        by_cases hf : 0 < chErr l[0]
        · skip
          generalize chErr l[0] = ne at *
          generalize l[0].key = key at *
          generalize l[0].val = val at *
          generalize l[0].gone = gone at *
          have HF' := Lib.hid HFT
          have hfd : decide (0 < ne) = true := decide_eq_true hf
          clear HFT hnn d0 d1 d2
          have k0 := fun o => (K3 o).1
          have k1 := fun o => (K3 o).2.1
          have k2 := fun o => (K3 o).2.2
          clear K3
          go_wp2
          refine wp_region_grow (by kernel_rfl) (by kernel_rfl) ?_
          repeat (go_big_quiet_step (exact Calls.grow _ (HF'.out _)))
          refine wpQuiet_nil ?_
          intro _ hw'
          obtain ⟨o9, hw''⟩ := hw'
          subst hw''
          go_wp2
          go_ret
          exact NO.out _ (HRW.out _ o9.ok)
        · skip
          have hz : chErr l[0] = 0 := by omega
          rw [hz] at HFT
          generalize l[0].key = key at *
          generalize l[0].val = val at *
          cases hg : l[0].gone with
          | true =>
            rw [hg] at HFT K3 d2
            have HF' := Lib.hid HFT
            clear HFT hg hz hf hnn d0 d1 d2
            have k0 := fun o => (K3 o).1
            have k1 := fun o => (K3 o).2.1
            have k2 := fun o => (K3 o).2.2
            clear K3
            go_wp2
            refine wp_region_grow (by kernel_rfl) (by kernel_rfl) ?_
            repeat (go_big_quiet_step (exact Calls.grow _ (HF'.out _)))
            refine wpQuiet_nil ?_
            intro _ hw'
            obtain ⟨o9, hw''⟩ := hw'
            subst hw''
            go_wp2
            go_ret
            exact NO.out _ (HRW.out _ o9.ok)
          | false =>
            rw [hg] at HFT K3 d2
            have HF' := Lib.hid HFT
            clear HFT hg hz hf hnn d0 d1 d2
            have k0 := fun o => (K3 o).1
            have k1 := fun o => (K3 o).2.1
            have k2 := fun o => (K3 o).2.2
            clear K3
            go_wp2
            refine wp_region_grow (by kernel_rfl) (by kernel_rfl) ?_
            repeat (go_big_quiet_step (exact Calls.grow _ (HF'.out _)))
            refine wpQuiet_nil ?_
            intro _ hw'
            obtain ⟨o9, hw''⟩ := hw'
            subst hw''
            go_wp2
            refine ⟨⟨0 + 1, hlt, by go_num, HS1, HRW.out _ o9.ok⟩, by simp [intOf]; omega⟩
      | succ j =>
        obtain ⟨b', off', e', hblt', e0, e1, e2, s1', s2'⟩ := (h.below hb) j (by omega)
        simp only [Option.some.injEq, Addr.mk.injEq, and_true] at e'
        obtain ⟨rfl, rfl⟩ := e'
        have L1 := leq_cmp l[j + 1].key l[j].key
        have HSN := Lib.hid (fun (hc : cmpB l[j].key l[j + 1].key < 0) => sorted_snoc hlt HS.out hc)
        have K1 := (fun (o : Gr wr) => (o.ok.cell (p := ⟨b, off + j * 3, none⟩) hblt).trans e0)
        have HSW := Lib.hid (cmp_swap l[j].key l[j + 1].key)
        have hjd : decide ((0 : Int) < (j : Int) + 1) = true := decide_eq_true (by omega)
        have hj1 : (j : Int) < (l.length : Int) := by omega
        have hj2 : (j : Int) + 1 < (l.length : Int) := by omega
        have hj0 : (0 : Int) ≤ (j : Int) := by omega
        have hj3 : (0 : Int) ≤ (j : Int) + 1 := by omega
        clear e1 e2 s1' s2' s1 s2 h
        by_cases hf : 0 < chErr l[j + 1]
        · skip
          have hfd : decide (0 < chErr l[j + 1]) = true := decide_eq_true hf
          generalize chErr l[j + 1] = ne at *
          generalize l[j + 1].key = key at *
          generalize l[j + 1].val = val at *
          generalize l[j + 1].gone = gone at *
          generalize l[j].key = pk at *
          have HF' := Lib.hid HFT
          clear HFT hf hnn d0 d1 d2
          have k0 := fun o => (K3 o).1
          have k1 := fun o => (K3 o).2.1
          have k2 := fun o => (K3 o).2.2
          clear K3
          go_wp2
          refine wp_region_grow (by kernel_rfl) (by kernel_rfl) ?_
          repeat (go_big_quiet_step (exact Calls.grow _ (HF'.out _)))
          refine wpQuiet_nil ?_
          intro _ hw'
          obtain ⟨o9, hw''⟩ := hw'
          subst hw''
          go_wp2
          go_ret
          exact NO.out _ (HRW.out _ o9.ok)
        · skip
          have hz : chErr l[j + 1] = 0 := by omega
          rw [hz] at HFT
          generalize l[j + 1].key = key at *
          generalize l[j + 1].val = val at *
          generalize l[j].key = pk at *
          cases hg : l[j + 1].gone with
          | true =>
            rw [hg] at HFT K3 d2
            have HF' := Lib.hid HFT
            clear HFT hg hz hf hnn d0 d1 d2
            have k0 := fun o => (K3 o).1
            have k1 := fun o => (K3 o).2.1
            have k2 := fun o => (K3 o).2.2
            clear K3
            go_wp2
            refine wp_region_grow (by kernel_rfl) (by kernel_rfl) ?_
            repeat (go_big_quiet_step (exact Calls.grow _ (HF'.out _)))
            refine wpQuiet_nil ?_
            intro _ hw'
            obtain ⟨o9, hw''⟩ := hw'
            subst hw''
            go_wp2
            go_ret
            exact NO.out _ (HRW.out _ o9.ok)
          | false =>
            rw [hg] at HFT K3 d2
            have HF' := Lib.hid HFT
            clear HFT hg hz hf hnn d0 d1 d2
            have k0 := fun o => (K3 o).1
            have k1 := fun o => (K3 o).2.1
            have k2 := fun o => (K3 o).2.2
            clear K3
            by_cases hle : cmpB key pk ≤ 0
            · rw [decide_eq_true hle] at L1
              clear hle
              go_wp2
              refine wp_region_grow (by kernel_rfl) (by kernel_rfl) ?_
              repeat (go_big_quiet_step (exact Calls.grow _ (HF'.out _)))
              refine wpQuiet_nil ?_
              intro _ hw'
              obtain ⟨o9, hw''⟩ := hw'
              subst hw''
              go_wp2
              go_ret
              exact NO.out _ (HRW.out _ o9.ok)
            · rw [decide_eq_false hle] at L1
              have HS1 := Lib.hid (HSN.out (by have := HSW.out; omega))
              clear hle
              go_wp2
              refine wp_region_grow (by kernel_rfl) (by kernel_rfl) ?_
              repeat (go_big_quiet_step (exact Calls.grow _ (HF'.out _)))
              refine wpQuiet_nil ?_
              intro _ hw'
              obtain ⟨o9, hw''⟩ := hw'
              subst hw''
              go_wp2
              refine ⟨⟨j + 1 + 1, hlt, by go_num, HS1, HRW.out _ o9.ok⟩, by simp [intOf]; omega⟩
    · go_wp2
      go_ret
      have := HS.out
      rw [List.take_of_length_le (by omega)] at this
      exact ⟨true, rfl, fun _ => this, hb⟩
end Go.Proofs.Ytimbdomkpdmehaa
