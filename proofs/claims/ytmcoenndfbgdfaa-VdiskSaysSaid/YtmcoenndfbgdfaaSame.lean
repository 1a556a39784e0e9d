/- counterfoilref.SameAreas: are two lists of areas equal? -/
import Derived.Test.YtmcoenndfbgdfaaArea
namespace Go.Proofs.Ytmcoenndfbgdfaa
open Go.RowKit

theorem take_eq_snoc (l r : List Ar) (k : Nat) (hk : k < l.length) (hk' : k < r.length) (h : l.take k = r.take k) : l.take (k + 1) = r.take (k + 1) ↔ l[k] = r[k] := by
  have e1 := List.take_succ_eq_append_getElem hk
  have e2 := List.take_succ_eq_append_getElem hk'
  rw [e1, e2, h]
  constructor
  · intro x
    have := List.append_cancel_left x
    simpa using this
  · intro x; rw [x]

theorem ne_of_take {l r : List Ar} {k : Nat} (hk : k < l.length) (hk' : k < r.length) (h : l[k] ≠ r[k]) : decide (l = r) = false := by
  simp only [decide_eq_false_iff_not]; intro e; subst e; exact h rfl

set_option maxHeartbeats 1000000 in
theorem sameAreas_any (A A' : Option Addr) (cap cap' : Nat) (l l' : List Ar) (w : World) (hA : AreasAt w w.heap.size A l) (hA' : AreasAt w w.heap.size A' l') (hl : l.length ≤ 20) :
    Calls Try.prog 13 #[.slice A l.length cap, .slice A' l'.length cap'] w fun e w' => e = .returned (.bool (decide (l = l'))) ∧ Below w.heap.size w w' := by
  by_cases hlen : l.length = l'.length
  · have hd : ((l.length : Int) != (l'.length : Int)) = false := by simp [hlen]
    have HL := Lib.hid hlen; clear hlen
    go_enter Try.func13, Try.ntmps13
    go_wp2
    go_loopw [5] (fun i w' => ∃ k : Nat, k ≤ l.length ∧ i = .int .i64 k ∧ Hid (l.take k = l'.take k) ∧ Below w.heap.size w w') (fun i _ => l.length - (intOf i).toNat)
    case atStart => exact ⟨0, Nat.zero_le _, rfl, rfl, Below.refl _ _⟩
    case round =>
      obtain ⟨k, hk, rfl, HE, hb⟩ := hrel
      by_cases hlt : k < l.length
      · have hlt' : k < l'.length := by have := HL.out; omega
        obtain ⟨b, off, rfl, hB, h1, h2⟩ := (hA.below hb) k hlt
        obtain ⟨b', off', rfl, hB', h1', h2'⟩ := (hA'.below hb) k hlt'
        by_cases c1 : l[k].1 = l'[k].1
        · have d1 : (l[k].1 == l'[k].1) = true := by simp [c1]
          have C1 := Lib.hid c1; clear c1
          by_cases c2 : l[k].2 = l'[k].2
          · have d2 : (l[k].2 == l'[k].2) = true := by simp [c2]
            have C2 := Lib.hid c2; clear c2
            go_wp2
            go_quiet (fail)
            go_wp2
            go_roundw
            case rel => exact ⟨k + 1, hlt, by go_num, (take_eq_snoc l l' k hlt hlt' HE.out).2 (Prod.ext C1.out C2.out), below_drewN hb _⟩
            case measure => simp [intOf]; omega
          · have d2 : (l[k].2 == l'[k].2) = false := by simp [c2]
            have C2 := Lib.hid c2; clear c2
            go_wp2
            go_quiet (fail)
            go_wp2
            go_ret
            exact ⟨ret_bool (ne_of_take hlt hlt' (fun e => C2.out (by rw [e]))).symm, below_drewN hb _⟩
        · have d1 : (l[k].1 == l'[k].1) = false := by simp [c1]
          have C1 := Lib.hid c1; clear c1
          go_wp2
          go_quiet (fail)
          go_wp2
          go_ret
          exact ⟨ret_bool (ne_of_take hlt hlt' (fun e => C1.out (by rw [e]))).symm, below_drewN hb _⟩
      · go_wp2
        go_ret
        have h1 : l.take k = l := List.take_of_length_le (by omega)
        have h2 : l'.take k = l' := List.take_of_length_le (by have := HL.out; omega)
        exact ⟨ret_bool (by rw [← h1, ← h2, HE.out]; simp), hb⟩
  · have hd : ((l.length : Int) != (l'.length : Int)) = true := by simp; omega
    have HL := Lib.hid hlen; clear hlen
    go_enter Try.func13, Try.ntmps13
    go_wp2
    go_ret
    exact ⟨ret_bool (by
      symm; simp only [decide_eq_false_iff_not]; intro e; exact HL.out (by rw [e])), Below.refl _ _⟩
end Go.Proofs.Ytmcoenndfbgdfaa
