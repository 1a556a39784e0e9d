/- area.Check. -/
import Derived.Test.YtmcoenndfbgdfaaArea
namespace Go.Proofs.Ytmcoenndfbgdfaa
open Go.RowKit

def Wf (l : List Ar) : Prop := ∀ k, (h : k < l.length) → -9223372036854775808 ≤ l[k].1 ∧ l[k].1 ≤ 9223372036854775807 ∧ -9223372036854775808 ≤ l[k].2 ∧ l[k].2 ≤ 9223372036854775807

/-- Where the area ahead of the k-th ends. -/
def pe (l : List Ar) (k : Nat) : Option Int := match k with
  | 0 => none
  | k + 1 => match l[k]? with
    | some a => some (a.1 + a.2)
    | none => none

theorem pe_succ (l : List Ar) (k : Nat) (h : k < l.length) : pe l (k + 1) = some (l[k].1 + l[k].2) := by
  simp [pe, List.getElem?_eq_getElem h]

theorem chk_bad (p : Option Int) (a : Ar) (r : List Ar) (h : a.1 < 0 ∨ a.2 < 1 ∨ 16 - a.1 < a.2) : chk p (a :: r) = 1 := by
  unfold chk; rw [if_pos h]

theorem chk_shape (e : Int) (a : Ar) (r : List Ar) (h : ¬ (a.1 < 0 ∨ a.2 < 1 ∨ 16 - a.1 < a.2)) (he : a.1 ≤ e) : chk (some e) (a :: r) = 3 := by
  unfold chk; rw [if_neg h]; simp [he]

theorem chk_on (e : Int) (a : Ar) (r : List Ar) (h : ¬ (a.1 < 0 ∨ a.2 < 1 ∨ 16 - a.1 < a.2)) (he : ¬ a.1 ≤ e) : chk (some e) (a :: r) = chk (some (a.1 + a.2)) r := by
  conv => lhs; unfold chk
  rw [if_neg h]; simp [he]

theorem chk_first (a : Ar) (r : List Ar) (h : ¬ (a.1 < 0 ∨ a.2 < 1 ∨ 16 - a.1 < a.2)) : chk none (a :: r) = chk (some (a.1 + a.2)) r := by
  conv => lhs; unfold chk
  rw [if_neg h]

theorem drop_cons (l : List Ar) (k : Nat) (h : k < l.length) : l.drop k = l[k] :: l.drop (k + 1) := List.drop_eq_getElem_cons h

set_option maxHeartbeats 1000000 in
theorem check_any (A : Option Addr) (cap : Nat) (l : List Ar) (w : World) (hA : AreasAt w w.heap.size A l) (hl : l.length ≤ 20) (hw : Wf l) :
    Calls Try.prog 9 #[.slice A l.length cap] w fun e w' => e = .returned (errV (chk none l)) ∧ Below w.heap.size w w' := by
  go_enter Try.func9, Try.ntmps9
  go_wp2
  go_loopw [7] (fun i w' => ∃ k : Nat, k ≤ l.length ∧ i = .int .i64 k ∧ Hid (chk none l = chk (pe l k) (l.drop k)) ∧ Hid (∀ j, j + 1 = k → (h : j < l.length) → 0 ≤ l[j].1 ∧ 1 ≤ l[j].2 ∧ l[j].1 + l[j].2 ≤ 16) ∧ Below w.heap.size w w') (fun i _ => l.length - (intOf i).toNat)
  case atStart => exact ⟨0, Nat.zero_le _, rfl, rfl, fun j hj => by omega, Below.refl _ _⟩
  case round =>
    obtain ⟨k, hk, rfl, HC, HP, hb⟩ := hrel
    have hsz := hb.size
    by_cases hlt : k < l.length
    · obtain ⟨b, off, rfl, hB, h1, h2⟩ := (hA.below hb) k hlt
      obtain ⟨v1, v2, v3, v4⟩ := hw k hlt
      have hd := drop_cons l k hlt
      have HD := Lib.hid hd; clear hd
      by_cases c1 : l[k].1 < 0 ∨ l[k].2 < 1 ∨ 16 - l[k].1 < l[k].2
      · have hbad := chk_bad (pe l k) l[k] (l.drop (k + 1)) c1
        have HB := Lib.hid hbad; clear hbad
        by_cases d1 : l[k].1 < 0
        · go_wp2
          go_ret
          exact ⟨by rw [HC.out, HD.out, HB.out]; rfl, hb.alloc hsz _⟩
        · by_cases d2 : l[k].2 < 1
          · go_wp2
            go_ret
            exact ⟨by rw [HC.out, HD.out, HB.out]; rfl, hb.alloc hsz _⟩
          · have d3 : 16 - l[k].1 < l[k].2 := by omega
            clear c1
            go_wp2
            go_ret
            exact ⟨by rw [HC.out, HD.out, HB.out]; rfl, hb.alloc hsz _⟩
      · have d1 : ¬ l[k].1 < 0 := by omega
        have d2 : ¬ l[k].2 < 1 := by omega
        have d3 : ¬ 16 - l[k].1 < l[k].2 := by omega
        have HG := Lib.hid c1; clear c1
        by_cases hz : 0 < k
        · obtain ⟨j, rfl⟩ : ∃ j, k = j + 1 := ⟨k - 1, by omega⟩
          obtain ⟨p1, p2, p3⟩ := HP.out j rfl (by omega)
          obtain ⟨b', off', eb, _, g1, g2⟩ := (hA.below hb) j (by omega)
          injection eb with eb; injection eb with eb1 eb2; subst eb1; subst eb2
          have i1 : (wr.alloc (Obj.cells #[Value.int IntKind.i64 l[j + 1].1, Value.int IntKind.i64 l[j + 1].2] 76)).cell? ⟨b, off + j * 2, none⟩ = some (.int .i64 l[j].1) := by
            rw [World.cell?_alloc_lt _ _ _ (by show b < _; omega)]; exact g1
          have i2 : (wr.alloc (Obj.cells #[Value.int IntKind.i64 l[j + 1].1, Value.int IntKind.i64 l[j + 1].2] 76)).cell? ⟨b, off + j * 2 + 1, none⟩ = some (.int .i64 l[j].2) := by
            rw [World.cell?_alloc_lt _ _ _ (by show b < _; omega)]; exact g2
          have HE := Lib.hid (pe_succ l j (by omega))
          by_cases d4 : l[j + 1].1 ≤ l[j].1 + l[j].2
          · go_wp2
            go_quiet (fail)
            go_wp2
            go_ret
            exact ⟨by rw [HC.out, HD.out, HE.out, chk_shape _ _ _ HG.out d4]; rfl, below_drewN (hb.alloc hsz _) _⟩
          · go_wp2
            go_quiet (fail)
            go_wp2
            go_roundw
            case rel => exact ⟨j + 1 + 1, hlt, by go_num, by rw [HC.out, HD.out, HE.out, chk_on _ _ _ HG.out (by omega), pe_succ l (j + 1) hlt]; rfl, fun i hi h => by
              obtain rfl : i = j + 1 := by omega
              exact ⟨by omega, by omega, by omega⟩, below_drewN (hb.alloc hsz _) _⟩
            case measure => simp [intOf]; omega
        · have hz' : decide ((0 : Int) < (k : Int)) = false := by simp; omega
          go_wp2
          go_quiet (fail)
          go_wp2
          go_roundw
          case rel => exact ⟨k + 1, hlt, by go_num, by
            obtain rfl : k = 0 := by omega
            rw [HC.out, HD.out]
            show chk none _ = _
            rw [chk_first _ _ HG.out, pe_succ l 0 hlt], fun i hi h => by
              obtain rfl : i = k := by omega
              exact ⟨by omega, by omega, by omega⟩, below_drewN (hb.alloc hsz _) _⟩
          case measure => simp [intOf]; omega
    · go_wp2
      go_ret
      have hkl : l.drop k = [] := List.drop_of_length_le (by omega)
      exact ⟨by rw [HC.out, hkl]; cases pe l k <;> rfl, hb⟩
end Go.Proofs.Ytmcoenndfbgdfaa
