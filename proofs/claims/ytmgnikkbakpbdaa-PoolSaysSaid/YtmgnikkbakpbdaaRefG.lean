/- The reference's GetBlock; a closed fact. For PoolSays. -/
import Derived.Test.YtmgnikkbakpbdaaPoolS
namespace Go.Proofs.Ytmgnikkbakpbdaa
open Go.RowKit Go.Maps

set_option maxRecDepth 100000 in
theorem refGet_any (g : Nat) (w : World) (p : PoolM) (id : Int) (h : BlksAt w g p) :
    Calls Try.prog 17 #[.pointer (some ⟨g, 0, none⟩), .int .i64 id] w fun e w' => e = .returned (.tuple #[.string (getText p id), .int .i64 (refErr p id)]) ∧ w = w' := by
  by_cases h1 : id < 1
  · have hh : hasBlk p id = false := by simp [hasBlk]; omega
    rw [show getText p id = ByteArray.empty by unfold getText; rw [hh]; rfl, show refErr p id = 5 by unfold refErr; rw [hh]; rfl]
    clear hh
    go_enter Try.func17, Try.ntmps17
    go_wp2
    go_ret2
    exact ⟨rfl, rfl⟩
  have h1' : decide (id < 1) = false := by simpa using h1
  by_cases h2 : 40 < id
  · have hh : hasBlk p id = false := by simp [hasBlk]; omega
    rw [show getText p id = ByteArray.empty by unfold getText; rw [hh]; rfl, show refErr p id = 5 by unfold refErr; rw [hh]; rfl]
    clear hh
    go_enter Try.func17, Try.ntmps17
    go_wp2
    go_ret2
    exact ⟨rfl, rfl⟩
  have h2' : decide (40 < id) = false := by simpa using h2
  obtain ⟨n, rfl⟩ := Int.eq_ofNat_of_zero_le (show 0 ≤ id by omega)
  have hn40 : n ≤ 40 := by omega
  have c1 := h.refs n hn40
  have c2 := h.data n hn40
  have i1 : (0 : Int) ≤ (n : Int) := by omega
  have i2 : (n : Int) < 41 := by omega
  by_cases h3 : (p n).refs = 0
  · have hh : hasBlk p n = false := by simp [hasBlk, h3]
    rw [show getText p n = ByteArray.empty by unfold getText; rw [hh]; rfl, show refErr p n = 5 by unfold refErr; rw [hh]; rfl]
    rw [h3] at c1
    clear hh h3
    go_enter Try.func17, Try.ntmps17
    go_wp2
    go_ret2
    exact ⟨rfl, rfl⟩
  · have hh : hasBlk p n = true := (hasBlk_iff p n).2 ⟨by omega, by omega, h3⟩
    rw [show getText p n = (p n).data by unfold getText; rw [hh]; rfl, show refErr p n = 0 by unfold refErr; rw [hh]; rfl]
    have h3' : (((p n).refs : Int) == 0) = false := by simpa using h3
    clear hh
    go_enter Try.func17, Try.ntmps17
    go_wp2
    go_ret2
    exact ⟨rfl, rfl⟩
theorem refGetS (g : Nat) (w : World) (p : PoolM) (id ne : Int) (s : ByteArray) (h : BlksAt w g p) (hne : refErr p id = ne) (hs : getText p id = s) :
    Calls Try.prog 17 #[.pointer (some ⟨g, 0, none⟩), .int .i64 id] w fun e w' => e = .returned (.tuple #[.string s, .int .i64 ne]) ∧ w = w' := by
  subst hne hs; exact refGet_any g w p id h

set_option maxRecDepth 100000 in
theorem pools_closed (w : World) : Calls Try.prog 6 #[] w fun e w' => e = .returned (.bool true) ∧ Below w.heap.size w w' := by
  go_enter Try.func6, Try.ntmps6
  go_wp2_with fail
  ((with_reducible refine (poolNew_any _).mono ?_); rintro e w1 ⟨rfl, h1, hb1⟩)
  go_wp2_with fail
  ((with_reducible refine (putX _ _ _ _ h1).mono ?_); rintro e w2 ⟨rfl, h2, ht2⟩)
  have hb2 : Below w.heap.size w w2 := hb1.trans (ht2.below hb1.size (by simp))
  clear ht2 h1
  go_wp2_with fail
  ((with_reducible refine (getX _ _ _ _ h2).mono ?_); rintro e w3 ⟨rfl, hb3⟩)
  go_wp2_with fail
  ((with_reducible refine (said_nil _).mono ?_); rintro e w4 ⟨rfl, rfl⟩)
  go_wp2_with fail
  ((with_reducible refine (said_nil _).mono ?_); rintro e w4 ⟨rfl, rfl⟩)
  go_wp2
  go_ret
  exact ⟨rfl, belowThen hb2 hb3⟩
end Go.Proofs.Ytmgnikkbakpbdaa
