/- LightActs: what it lets pass is small. -/
import Derived.Test.YthhedahfmllnoaaZqSaid
/- LightChanges, LightActs: they answer, and change nothing. -/
namespace Go.Proofs.Ythhedahfmllnoaa
open Go.RowKit

/-- A call that answers one of two, and leaves all memory that was. -/
def BoolRet (w : World) (p : Bool → Prop) (e : Ending) (w' : World) : Prop := ∃ r, e = .returned (.bool r) ∧ p r ∧ Below w.heap.size w w'

set_option maxHeartbeats 400000 in
theorem lightChanges_any (A : Option Addr) (n c : Nat) (most : Int) (w : World) (N : Nat) (hN : N ≤ w.heap.size) (hA : ChangesAt w N A n) :
    Calls Try.prog 24 #[.slice A n c, .int .i64 most] w (BoolRet w fun _ => True) := by
  obtain ⟨hm, hA⟩ := hA
  unfold maxLen at hm
  go_enter Try.func24, Try.ntmps24
  by_cases h0 : most < (n : Int)
  · go_wp2
    go_ret
    exact ⟨_, rfl, trivial, Below.refl _ _⟩
  · go_wp2
    go_loopw [5] (fun i w' => ∃ k : Nat, k ≤ n ∧ i = .int .i64 k ∧ Below w.heap.size w w') (fun i _ => n - (intOf i).toNat)
    case atStart => exact ⟨0, Nat.zero_le _, rfl, Below.refl _ _⟩
    case round =>
      obtain ⟨k, hk, rfl, hb⟩ := hrel
      by_cases hlt : k < n
      · obtain ⟨b, off, s, t, rfl, hbN, h1, h2, _⟩ := hA k hlt
        rw [← hb.cell (p := ⟨b, off + k * 3, none⟩) (show b < _ by omega)] at h1
        rw [← hb.cell (p := ⟨b, off + k * 3 + 1, none⟩) (show b < _ by omega)] at h2
        have i1 : (k : Int) < (n : Int) := by omega
        by_cases c1 : 20 < (s.size : Int)
        · go_wp2
          go_ret
          exact ⟨_, rfl, trivial, by first | exact hb | exact hb.drew | exact below_drewN hb _⟩
        · by_cases c2 : 60 < (t.size : Int)
          · go_wp2
            go_ret
            exact ⟨_, rfl, trivial, by first | exact hb | exact hb.drew | exact below_drewN hb _⟩
          · go_wp2
            go_roundw
            case rel => exact ⟨k + 1, hlt, by go_num, by first | exact hb | exact hb.drew | exact below_drewN hb _⟩
            case measure => simp [intOf]; omega
      · go_wp2
        go_ret
        exact ⟨_, rfl, trivial, hb⟩

theorem ActAt.cells {w : World} {N b off : Nat} {m : ActM} (h : ActAt w N b off m) : w.cell? ⟨b, off, none⟩ = some (.string m.kind) ∧ w.cell? ⟨b, off + 1, none⟩ = some (.string m.s) ∧ w.cell? ⟨b, off + 2, none⟩ = some (.int .i64 m.a) ∧ w.cell? ⟨b, off + 7, none⟩ = some (.slice m.pA m.pL m.pC) ∧ w.cell? ⟨b, off + 8, none⟩ = some (.slice m.cA m.cL m.cC) :=
  ⟨h.2.1 0 (by omega), h.2.1 1 (by omega), h.2.1 2 (by omega), h.2.1 7 (by omega), h.2.1 8 (by omega)⟩
theorem ActAt.up {w w' : World} {N M b off : Nat} {m : ActM} (h : ActAt w N b off m) (hb : Below M w w') (hN : N ≤ M) (hN' : N ≤ w'.heap.size) : ActAt w' w'.heap.size b off m := by
  obtain ⟨h1, h2, h3, h4, h5, h6, h7⟩ := h
  exact ⟨by omega, fun j hj => by rw [hb.cell (p := ⟨b, off + j, none⟩) (show b < M by omega)]; exact h2 j hj, h3.up hb hN hN', h4.up hb hN hN', h5, h6, h7⟩
theorem ActsAt.up {w w' : World} {N M : Nat} {A : Option Addr} {l : List ActM} (h : ActsAt w N A l) (hb : Below M w w') (hN : N ≤ M) (hN' : N ≤ w'.heap.size) : ActsAt w' w'.heap.size A l :=
  ⟨h.1, fun i hi => by obtain ⟨b, off, e, ha⟩ := h.2 i hi; exact ⟨b, off, e, ha.up hb hN hN'⟩⟩
theorem ActsAt.below {w w' : World} {A : Option Addr} {l : List ActM} (h : ActsAt w w.heap.size A l) (hb : Below w.heap.size w w') : ActsAt w' w'.heap.size A l := h.up hb (Nat.le_refl _) hb.size

set_option maxHeartbeats 2000000 in
set_option maxRecDepth 100000 in
theorem lightActs_any (A : Option Addr) (l : List ActM) (c : Nat) (most : Int) (w : World) (hA : ActsAt w w.heap.size A l) :
    Calls Try.prog 6 #[.slice A l.length c, .int .i64 most] w (BoolRet w fun r => r = true → (l.length : Int) ≤ most) := by
  have hm := hA.1
  unfold maxLen at hm
  go_enter Try.func6, Try.ntmps6
  by_cases h0 : most < (l.length : Int)
  · go_wp2
    go_ret
    exact ⟨_, rfl, by simp, Below.refl _ _⟩
  · have H0 := Lib.hid (show ∀ r : Bool, r = true → (l.length : Int) ≤ most from fun _ _ => by omega)
    go_wp2
    go_loopw [5] (fun i w' => ∃ k : Nat, k ≤ l.length ∧ i = .int .i64 k ∧ Below w.heap.size w w') (fun i _ => l.length - (intOf i).toNat)
    case atStart => exact ⟨0, Nat.zero_le _, rfl, Below.refl _ _⟩
    case round =>
      obtain ⟨k, hk, rfl, hb⟩ := hrel
      by_cases hlt : k < l.length
      · obtain ⟨b, off, rfl, hact⟩ := (hA.below hb).2 k hlt
        obtain ⟨_, g1, _, g7, g8⟩ := hact.cells
        have i1 : (k : Int) < (l.length : Int) := by omega
        by_cases c1 : 100 < ((l[k].s).size : Int)
        · go_wp2
          go_ret
          exact ⟨_, rfl, by first | trivial | exact H0.out _, hb⟩
        · by_cases c2 : 24 < (l[k].pL : Int)
          · go_wp2
            go_ret
            exact ⟨_, rfl, by first | trivial | exact H0.out _, hb⟩
          · go_wp2_with fail
            obtain ⟨_, _, hP, hC, _, _, _⟩ := hact
            ((with_reducible refine (lightChanges_any _ _ _ _ _ _ (Nat.le_refl _) hC).mono ?_); rintro e w1 ⟨r, rfl, _, hb1⟩)
            have hb2 := belowThen hb hb1
            obtain ⟨b', off', e', hact⟩ := (hA.below hb2).2 k hlt
            injection e' with e'
            injection e' with e1 e2 _
            subst e1 e2
            obtain ⟨_, _, _, g7, _⟩ := hact.cells
            obtain ⟨_, _, hP, _, _, _, _⟩ := hact
            cases r
            · go_wp2
              go_ret
              exact ⟨_, rfl, by first | trivial | exact H0.out _, hb2⟩
            · go_wp2
              go_loopw [6] (fun i w' => ∃ j : Nat, j ≤ l[k].pL ∧ i = .int .i64 j ∧ Below w1.heap.size w1 w') (fun i _ => l[k].pL - (intOf i).toNat)
              case atStart => exact ⟨0, Nat.zero_le _, rfl, Below.refl _ _⟩
              case round =>
                obtain ⟨j, hj, rfl, hb3⟩ := hrel
                have hb4 := belowThen hb2 hb3
                have g7' : wr.cell? ⟨b, off + k * 9 + 7, none⟩ = some (.slice l[k].pA l[k].pL l[k].pC) := by
                  rw [hb3.cell (p := ⟨b, off + k * 9 + 7, none⟩) (World.block_lt_of_cell? w1 _ g7)]; exact g7
                clear g7
                by_cases hjl : j < l[k].pL
                · obtain ⟨b5, off5, s5, e5, hlt5, h5, _⟩ := (hP.up hb3 (Nat.le_refl _) hb3.size).2 j hjl
                  rw [e5] at g7'
                  have i2 : (j : Int) < (l[k].pL : Int) := by omega
                  by_cases c3 : 20 < (s5.size : Int)
                  · go_wp2
                    go_ret
                    exact ⟨_, rfl, by first | trivial | exact H0.out _, hb4⟩
                  · go_wp2
                    go_roundw
                    case rel => exact ⟨j + 1, hjl, by go_num, hb3⟩
                    case measure => simp [intOf]; omega
                · go_wp2
                  go_roundw
                  case rel => exact ⟨k + 1, hlt, by go_num, hb4⟩
                  case measure => simp [intOf]; omega
      · go_wp2
        go_ret
        exact ⟨_, rfl, by first | trivial | exact H0.out _, hb⟩
end Go.Proofs.Ythhedahfmllnoaa

/- LightActs: what it lets pass is small. -/
namespace Go.Proofs.Ythhedahfmllnoaa
open Go.RowKit

structure LightA (m : ActM) : Prop where
  s : m.s.size ≤ 100
  p : m.pL ≤ 24
  c : m.cL ≤ 90

set_option maxHeartbeats 400000 in
theorem lightChanges2_any (A : Option Addr) (n c : Nat) (most : Int) (w : World) (N : Nat) (hN : N ≤ w.heap.size) (hA : ChangesAt w N A n) :
    Calls Try.prog 24 #[.slice A n c, .int .i64 most] w (BoolRet w fun r => r = true → (n : Int) ≤ most) := by
  obtain ⟨hm, hA⟩ := hA
  unfold maxLen at hm
  go_enter Try.func24, Try.ntmps24
  by_cases h0 : most < (n : Int)
  · go_wp2
    go_ret
    exact ⟨_, rfl, by simp, Below.refl _ _⟩
  · go_wp2
    go_loopw [5] (fun i w' => ∃ k : Nat, k ≤ n ∧ i = .int .i64 k ∧ Below w.heap.size w w') (fun i _ => n - (intOf i).toNat)
    case atStart => exact ⟨0, Nat.zero_le _, rfl, Below.refl _ _⟩
    case round =>
      obtain ⟨k, hk, rfl, hb⟩ := hrel
      by_cases hlt : k < n
      · obtain ⟨b, off, s, t, rfl, hbN, h1, h2, _⟩ := hA k hlt
        rw [← hb.cell (p := ⟨b, off + k * 3, none⟩) (show b < _ by omega)] at h1
        rw [← hb.cell (p := ⟨b, off + k * 3 + 1, none⟩) (show b < _ by omega)] at h2
        have i1 : (k : Int) < (n : Int) := by omega
        by_cases c1 : 20 < (s.size : Int)
        · go_wp2
          go_ret
          exact ⟨_, rfl, by simp, by first | exact hb | exact hb.drew | exact below_drewN hb _⟩
        · by_cases c2 : 60 < (t.size : Int)
          · go_wp2
            go_ret
            exact ⟨_, rfl, by simp, by first | exact hb | exact hb.drew | exact below_drewN hb _⟩
          · go_wp2
            go_roundw
            case rel => exact ⟨k + 1, hlt, by go_num, by first | exact hb | exact hb.drew | exact below_drewN hb _⟩
            case measure => simp [intOf]; omega
      · go_wp2
        go_ret
        exact ⟨_, rfl, fun _ => by omega, hb⟩

set_option maxHeartbeats 2000000 in
set_option maxRecDepth 100000 in
theorem lightActs2_any (A : Option Addr) (l : List ActM) (c : Nat) (most : Int) (w : World) (hA : ActsAt w w.heap.size A l) :
    Calls Try.prog 6 #[.slice A l.length c, .int .i64 most] w (BoolRet w fun r => r = true → (l.length : Int) ≤ most ∧ ∀ m ∈ l, LightA m) := by
  have hm := hA.1
  unfold maxLen at hm
  go_enter Try.func6, Try.ntmps6
  by_cases h0 : most < (l.length : Int)
  · go_wp2
    go_ret
    exact ⟨_, rfl, by simp, Below.refl _ _⟩
  · go_wp2
    go_loopw [5] (fun i w' => ∃ k : Nat, k ≤ l.length ∧ i = .int .i64 k ∧ Hid (∀ m ∈ l.take k, LightA m) ∧ Below w.heap.size w w') (fun i _ => l.length - (intOf i).toNat)
    case atStart => exact ⟨0, Nat.zero_le _, rfl, Lib.hid (by simp), Below.refl _ _⟩
    case round =>
      obtain ⟨k, hk, rfl, HL, hb⟩ := hrel
      by_cases hlt : k < l.length
      · obtain ⟨b, off, rfl, hact⟩ := (hA.below hb).2 k hlt
        obtain ⟨_, g1, _, g7, g8⟩ := hact.cells
        have i1 : (k : Int) < (l.length : Int) := by omega
        by_cases c1 : 100 < ((l[k].s).size : Int)
        · go_wp2
          go_ret
          exact ⟨_, rfl, by simp, hb⟩
        · by_cases c2 : 24 < (l[k].pL : Int)
          · go_wp2
            go_ret
            exact ⟨_, rfl, by simp, hb⟩
          · go_wp2_with fail
            obtain ⟨_, _, hP, hC, _, _, _⟩ := hact
            ((with_reducible refine (lightChanges2_any _ _ _ _ _ _ (Nat.le_refl _) hC).mono ?_); rintro e w1 ⟨r, rfl, hcl, hb1⟩)
            have hb2 := belowThen hb hb1
            obtain ⟨b', off', e', hact⟩ := (hA.below hb2).2 k hlt
            injection e' with e'
            injection e' with e1 e2 _
            subst e1 e2
            obtain ⟨_, _, _, g7, _⟩ := hact.cells
            obtain ⟨_, _, hP, _, _, _, _⟩ := hact
            cases r
            · go_wp2
              go_ret
              exact ⟨_, rfl, by simp, hb2⟩
            · have HK := Lib.hid (show ∀ m ∈ l.take (k + 1), LightA m from fun m hm' => by
                rw [List.take_succ_eq_append_getElem hlt] at hm'
                rcases List.mem_append.1 hm' with h' | h'
                · exact HL.out m h'
                · rw [List.mem_singleton.1 h']; exact ⟨by omega, by omega, by have := hcl rfl; omega⟩)
              clear hcl
              go_wp2
              go_loopw [6] (fun i w' => ∃ j : Nat, j ≤ l[k].pL ∧ i = .int .i64 j ∧ Below w1.heap.size w1 w') (fun i _ => l[k].pL - (intOf i).toNat)
              case atStart => exact ⟨0, Nat.zero_le _, rfl, Below.refl _ _⟩
              case round =>
                obtain ⟨j, hj, rfl, hb3⟩ := hrel
                have hb4 := belowThen hb2 hb3
                have g7' : wr.cell? ⟨b, off + k * 9 + 7, none⟩ = some (.slice l[k].pA l[k].pL l[k].pC) := by
                  rw [hb3.cell (p := ⟨b, off + k * 9 + 7, none⟩) (World.block_lt_of_cell? w1 _ g7)]; exact g7
                clear g7
                by_cases hjl : j < l[k].pL
                · obtain ⟨b5, off5, s5, e5, hlt5, h5, _⟩ := (hP.up hb3 (Nat.le_refl _) hb3.size).2 j hjl
                  rw [e5] at g7'
                  have i2 : (j : Int) < (l[k].pL : Int) := by omega
                  by_cases c3 : 20 < (s5.size : Int)
                  · go_wp2
                    go_ret
                    exact ⟨_, rfl, by simp, hb4⟩
                  · go_wp2
                    go_roundw
                    case rel => exact ⟨j + 1, hjl, by go_num, hb3⟩
                    case measure => simp [intOf]; omega
                · go_wp2
                  go_roundw
                  case rel => exact ⟨k + 1, hlt, by go_num, HK, hb4⟩
                  case measure => simp [intOf]; omega
      · go_wp2
        go_ret
        have h9 := HL.out
        rw [List.take_of_length_le (by omega)] at h9
        exact ⟨_, rfl, fun _ => ⟨by omega, h9⟩, hb⟩
end Go.Proofs.Ythhedahfmllnoaa
