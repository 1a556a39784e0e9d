/- area.Union, area.Cut, area.Page. -/
import Derived.Test.YtmcoenndfbgdfaaAreas
namespace Go.Proofs.Ytmcoenndfbgdfaa
open Go.RowKit

def uni (l r : List Ar) : List Ar := areasOf (fun i => hasB l i || hasB r i)
def cutTo (l : List Ar) (s : Int) : List Ar := areasOf (fun i => hasB l i && decide ((i : Int) < s))

theorem marks_new (w : World) : MarksAt (w.alloc (.cells #[.bool false, .bool false, .bool false, .bool false, .bool false, .bool false, .bool false, .bool false, .bool false, .bool false, .bool false, .bool false, .bool false, .bool false, .bool false, .bool false] 85)) w.heap.size (fun _ => false) := by
  intro i hi
  refine ⟨?_, ?_⟩
  · have : i = 0 ∨ i = 1 ∨ i = 2 ∨ i = 3 ∨ i = 4 ∨ i = 5 ∨ i = 6 ∨ i = 7 ∨ i = 8 ∨ i = 9 ∨ i = 10 ∨ i = 11 ∨ i = 12 ∨ i = 13 ∨ i = 14 ∨ i = 15 := by omega
    rcases this with rfl | rfl | rfl | rfl | rfl | rfl | rfl | rfl | rfl | rfl | rfl | rfl | rfl | rfl | rfl | rfl <;> simp
  · simp

theorem grown_below {a w w' : World} {B g : Nat} (h : Below B a w) (hg : w.grownBy w' (some g)) (hB : B ≤ w.heap.size) (hr : B ≤ g) : Below B a w' := h.grown hg hB (fun k e => by injection e with e; omega)

theorem AreasAt.grown {w w' : World} {B g : Nat} {A : Option Addr} {l : List Ar} (h : AreasAt w B A l) (hg : w.grownBy w' (some g)) (hB : B ≤ w.heap.size) (hr : B ≤ g) : AreasAt w' B A l :=
  h.below ⟨hg.os, hg.tape, hg.output, hg.size, fun k hk => hg.block k (by omega) (fun e => by injection e with e; omega)⟩

theorem ne_new {w : World} {A : Option Addr} {l : List Ar} (h : AreasAt w w.heap.size A l) : 0 < l.length → ∀ b off, A = some ⟨b, off, none⟩ → b ≠ w.heap.size := by
  intro hl b off e hb
  obtain ⟨b', off', e', hlt, _⟩ := h 0 hl
  rw [e] at e'; injection e' with e'; injection e' with e1 _; omega

theorem OwnAr.base {w : World} {b b' : Nat} {v : Value} {l : List Ar} (h : OwnAr w b v l) (hb : b' ≤ b) : OwnAr w b' v l := by
  obtain ⟨h1, h2⟩ := h
  refine ⟨h1, ?_⟩
  rcases h2 with h2 | ⟨g, cap, cur, hv, hg, r⟩
  · exact .inl h2
  · exact .inr ⟨g, cap, cur, hv, by omega, r⟩

theorem RetAr.open {w : World} {l : List Ar} {e : Ending} {w' : World} (h : RetAr w l e w') : ∃ A c, e = .returned (.slice A l.length c) ∧ AreasAt w' w'.heap.size A l ∧ Below w.heap.size w w' := by
  obtain ⟨v, rfl, hO, hb⟩ := h
  obtain ⟨A, c, rfl, hA, _⟩ := OwnAr.at_ hO
  exact ⟨A, c, rfl, hA, hb⟩

set_option maxHeartbeats 1000000 in
theorem union_any (A A' : Option Addr) (cap cap' : Nat) (l l' : List Ar) (w : World) (hA : AreasAt w w.heap.size A l) (hA' : AreasAt w w.heap.size A' l') (hl : l.length ≤ 20) (hl' : l'.length ≤ 20) (hv : Bd l) (hv' : Bd l') :
    Calls Try.prog 14 #[.slice A l.length cap, .slice A' l'.length cap'] w (RetAr w (uni l l')) := by
  go_enter Try.func14, Try.ntmps14
  go_wp2_with fail
  refine (add_any w.heap.size (fun _ => false) A cap l _ (marks_new w) ((hA.below (Below.alloc (Below.refl _ _) (Nat.le_refl _) _)).mono (by simp)) (ne_new hA) hl hv).mono ?_
  rintro e w1 ⟨rfl, hM1, hg1⟩
  have hb1 : Below w.heap.size w w1 := grown_below (Below.alloc (Below.refl _ _) (Nat.le_refl _) _) hg1 (by simp) (Nat.le_refl _)
  have hs1 := hb1.size
  go_wp2_with fail
  refine (add_any w.heap.size _ A' cap' l' _ hM1 ((hA'.below hb1).mono hs1) (ne_new hA') hl' hv').mono ?_
  rintro e w2 ⟨rfl, hM2, hg2⟩
  have hb2 : Below w.heap.size w w2 := grown_below hb1 hg2 hs1 (Nat.le_refl _)
  go_wp2_with fail
  refine (areas_any w.heap.size _ _ hM2).mono ?_
  rintro e w3 ⟨v, rfl, hO, hb3⟩
  go_wp2
  go_ret
  refine ⟨_, rfl, ?_, hb2.trans (hb3.mono hb2.size)⟩
  have := OwnAr.base hO hb2.size
  simpa [uni] using this

set_option maxHeartbeats 1000000 in
theorem cut_any (A : Option Addr) (cap : Nat) (l : List Ar) (s : Int) (w : World) (hA : AreasAt w w.heap.size A l) (hl : l.length ≤ 20) (hv : Bd l) :
    Calls Try.prog 16 #[.slice A l.length cap, .int .i64 s] w (RetAr w (cutTo l s)) := by
  go_enter Try.func16, Try.ntmps16
  go_wp2_with fail
  refine (add_any w.heap.size (fun _ => false) A cap l _ (marks_new w) ((hA.below (Below.alloc (Below.refl _ _) (Nat.le_refl _) _)).mono (by simp)) (ne_new hA) hl hv).mono ?_
  rintro e w1 ⟨rfl, hM1, hg1⟩
  have hb1 : Below w.heap.size w w1 := grown_below (Below.alloc (Below.refl _ _) (Nat.le_refl _) _) hg1 (by simp) (Nat.le_refl _)
  have hs1 := hb1.size
  have hM0 : MarksAt w1 w.heap.size (fun i => hasB l i) := hM1.congr (fun i _ => by simp)
  clear hM1
  by_cases hs : s < 0
  · have hfin : cutTo l s = areasOf (fun i => hasB l i && !(decide (0 ≤ i) && decide (i < 16))) := areasOf_congr (fun i hi => by
      have e1 : decide ((i : Int) < s) = false := by simp; omega
      have e2 : decide (i < 16) = true := by simp; omega
      simp [e1, e2])
    have HF := Lib.hid hfin; clear hfin
    go_wp2
    go_loopw [6] (fun t w' => ∃ k : Nat, t = .int .i64 k ∧ k ≤ 16 ∧ MarksAt w' w.heap.size (fun i => hasB l i && !(decide (0 ≤ i) && decide (i < k))) ∧ Below w.heap.size w w') (fun t _ => 16 - (intOf t).toNat)
    case atStart => exact ⟨0, rfl, by omega, hM0.congr (fun i _ => by simp), hb1⟩
    case round =>
      obtain ⟨k, rfl, hk, hM, hb⟩ := hrel
      have hsz := hb.size
      by_cases hlt : k < 16
      · obtain ⟨c1, c2⟩ := hM k hlt
        go_wp2
        go_roundw
        case rel =>
          refine ⟨k + 1, by go_num, hlt, (hM.set k false).congr (fun i _ => ?_), hb.setCell (Nat.le_refl _) _⟩
          by_cases e : i = k
          · subst e; simp
          · rw [if_neg e]
            have : decide (i < k + 1) = decide (i < k) := by rw [decide_eq_decide]; omega
            rw [this]
        case measure => simp [intOf]; omega
      · have hk16 : k = 16 := by omega
        subst hk16
        go_wp2_with fail
        refine (areas_any w.heap.size _ _ hM).mono ?_
        rintro e w3 ⟨v, rfl, hO, hb3⟩
        go_wp2
        go_ret
        exact ⟨_, rfl, by rw [HF.out]; exact OwnAr.base hO hsz, hb.trans (hb3.mono hsz)⟩
  · obtain ⟨k0, rfl⟩ := Int.eq_ofNat_of_zero_le (Int.not_lt.1 hs)
    have hfin : ∀ k : Nat, k0 ≤ k → 16 ≤ k → cutTo l (k0 : Int) = areasOf (fun i => hasB l i && !(decide (k0 ≤ i) && decide (i < k))) := fun k h1 h2 => areasOf_congr (fun i hi => by
      have e2 : decide (i < k) = true := by simp; omega
      have e1 : decide ((i : Int) < (k0 : Int)) = !decide (k0 ≤ i) := by
        rw [Bool.eq_iff_iff]; simp
      show (hasB l i && decide ((i : Int) < (k0 : Int))) = _
      rw [e1, e2, Bool.and_true])
    have HF := Lib.hid hfin; clear hfin hs
    go_wp2
    go_loopw [6] (fun t w' => ∃ k : Nat, t = .int .i64 k ∧ k0 ≤ k ∧ (k ≤ 16 ∨ k = k0) ∧ MarksAt w' w.heap.size (fun i => hasB l i && !(decide (k0 ≤ i) && decide (i < k))) ∧ Below w.heap.size w w') (fun t _ => 16 - (intOf t).toNat)
    case atStart => exact ⟨k0, rfl, Nat.le_refl _, .inr rfl, hM0.congr (fun i _ => by
      have : (decide (k0 ≤ i) && decide (i < k0)) = false := by simp
      simp [this]), hb1⟩
    case round =>
      obtain ⟨k, rfl, hk0, hk, hM, hb⟩ := hrel
      have hsz := hb.size
      by_cases hlt : k < 16
      · obtain ⟨c1, c2⟩ := hM k hlt
        clear hk
        go_wp2
        go_roundw
        case rel =>
          refine ⟨k + 1, by go_num, by omega, .inl hlt, (hM.set k false).congr (fun i _ => ?_), hb.setCell (Nat.le_refl _) _⟩
          by_cases e : i = k
          · subst e; simp [hk0]
          · rw [if_neg e]
            have : decide (i < k + 1) = decide (i < k) := by rw [decide_eq_decide]; omega
            rw [this]
        case measure => simp [intOf]; omega
      · clear hk
        go_wp2_with fail
        refine (areas_any w.heap.size _ _ hM).mono ?_
        rintro e w3 ⟨v, rfl, hO, hb3⟩
        go_wp2
        go_ret
        exact ⟨_, rfl, by rw [HF.out k hk0 (by omega)]; exact OwnAr.base hO hsz, hb.trans (hb3.mono hsz)⟩

end Go.Proofs.Ytmcoenndfbgdfaa
