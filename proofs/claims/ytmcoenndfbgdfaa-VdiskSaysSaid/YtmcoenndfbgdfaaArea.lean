/- The package area: what each of its functions does, as contracts. -/
import Derived.Test.YtmcoenndfbgdfaaMem
namespace Go.Proofs.Ytmcoenndfbgdfaa
open Go.RowKit

theorem take_snoc_ar (l : List Ar) (k : Nat) (h : k < l.length) : l.take (k + 1) = l.take k ++ [l[k]] := List.take_succ_eq_append_getElem h

set_option maxHeartbeats 400000 in
theorem count_any (A : Option Addr) (cap : Nat) (l : List Ar) (w : World) (hA : AreasAt w w.heap.size A l) (hl : l.length ≤ 20) (hv : ∀ k, k ≤ l.length → 0 ≤ sumMany (l.take k) ∧ sumMany (l.take k) ≤ 1000) :
    Calls Try.prog 20 #[.slice A l.length cap] w fun e w' => e = .returned (.int .i64 (sumMany l)) ∧ Below w.heap.size w w' := by
  have HV := Lib.hid hv; clear hv
  go_enter Try.func20, Try.ntmps20
  go_wp2
  go_loopw [3, 8] (fun n i w' => ∃ k : Nat, k ≤ l.length ∧ i = .int .i64 k ∧ n = .int .i64 (sumMany (l.take k)) ∧ Below w.heap.size w w') (fun _ i _ => l.length - (intOf i).toNat)
  case atStart => exact ⟨0, Nat.zero_le _, rfl, rfl, Below.refl _ _⟩
  case round =>
    obtain ⟨k, hk, rfl, rfl, hb⟩ := hrel
    have hsz := hb.size
    by_cases hlt : k < l.length
    · obtain ⟨b, off, rfl, hB, h1, h2⟩ := (hA.below hb) k hlt
      have e := take_snoc_ar l k hlt
      have v1 := HV.out k hk
      have v2 := HV.out (k + 1) hlt
      rw [e, sumMany_snoc] at v2
      have He := Lib.hid e; clear e
      go_wp2
      go_roundw
      case rel => exact ⟨k + 1, hlt, by go_num, by rw [He.out, sumMany_snoc], hb.alloc hsz _⟩
      case measure => simp [intOf]; omega
    · go_wp2
      go_ret
      have hkl : l.take k = l := List.take_of_length_le (by omega)
      exact ⟨ret_int (by rw [hkl]), hb⟩

theorem hasB_take_snoc (l : List Ar) (k : Nat) (h : k < l.length) (i : Int) : hasB (l.take (k + 1)) i = (hasB (l.take k) i || inAr l[k] i) := by
  rw [take_snoc_ar l k h, hasB_append, hasB_cons, hasB_nil, Bool.or_false]

theorem hasB_of_take (l : List Ar) (k : Nat) (h : k < l.length) (i : Int) (hi : inAr l[k] i = true) : hasB l i = true := by
  simp only [hasB, List.any_eq_true]
  exact ⟨l[k], List.getElem_mem h, hi⟩

set_option maxHeartbeats 400000 in
theorem has_any (A : Option Addr) (cap : Nat) (l : List Ar) (x : Int) (w : World) (hA : AreasAt w w.heap.size A l) (hl : l.length ≤ 20) (hv : Bd l) (hx : x ≤ 9223372036854775807) :
    Calls Try.prog 19 #[.slice A l.length cap, .int .i64 x] w fun e w' => e = .returned (.bool (hasB l x)) ∧ Below w.heap.size w w' := by
  go_enter Try.func19, Try.ntmps19
  go_wp2
  go_loopw [9] (fun i w' => ∃ k : Nat, k ≤ l.length ∧ i = .int .i64 k ∧ hasB (l.take k) x = false ∧ Below w.heap.size w w') (fun i _ => l.length - (intOf i).toNat)
  case atStart => exact ⟨0, Nat.zero_le _, rfl, rfl, Below.refl _ _⟩
  case round =>
    obtain ⟨k, hk, rfl, hn, hb⟩ := hrel
    have HN := Lib.hid hn; clear hn
    have hsz := hb.size
    by_cases hlt : k < l.length
    · obtain ⟨b, off, rfl, hB, h1, h2⟩ := (hA.below hb) k hlt
      obtain ⟨v1, v2, v3⟩ := hv k hlt
      by_cases c1 : l[k].1 ≤ x
      · by_cases c2 : x - l[k].1 < l[k].2
        · go_wp2
          go_ret
          exact ⟨ret_bool (hasB_of_take l k hlt x ((inAr_iff _ _).2 (by omega))).symm, hb.alloc hsz _⟩
        · go_wp2
          go_roundw
          case rel => exact ⟨k + 1, hlt, by go_num, by rw [hasB_take_snoc l k hlt, HN.out, (inAr_false _ _).2 (by omega)]; rfl, hb.alloc hsz _⟩
          case measure => simp [intOf]; omega
      · go_wp2
        go_roundw
        case rel => exact ⟨k + 1, hlt, by go_num, by rw [hasB_take_snoc l k hlt, HN.out, (inAr_false _ _).2 (by omega)]; rfl, hb.alloc hsz _⟩
        case measure => simp [intOf]; omega
    · go_wp2
      go_ret
      have hkl : l.take k = l := List.take_of_length_le (by omega)
      exact ⟨ret_bool (by rw [← HN.out, hkl]), hb⟩
end Go.Proofs.Ytmcoenndfbgdfaa
