/- TopPages: for all lists of areas, pages contain all blocks, each once, in order. The walk of the law. -/
import Derived.Test.YtdgmmmjhajbbeaaMathP
import Derived.Test.YtdgmmmjhajbbeaaTopArea
namespace Go.Proofs.Ytdgmmmjhajbbeaa
open Go.RowKit

theorem and7 (x : Int) : 0 ≤ bits .and .i64 x 7 ∧ bits .and .i64 x 7 ≤ 7 := by
  have h : (BitVec.ofInt 64 x &&& BitVec.ofInt 64 7).toNat ≤ 7 := by
    rw [BitVec.toNat_and]
    exact Nat.and_le_right
  have e : bits .and .i64 x 7 = IntKind.i64.wrap ((BitVec.ofInt 64 x &&& BitVec.ofInt 64 7).toNat : Int) := rfl
  rw [e, IntKind.wrap_i64]
  omega

theorem count_is (A : Option Addr) (cap : Nat) (l : List Ar) (v : Int) (w : World) (hA : AreasAt w w.heap.size A l) (hl : l.length ≤ 20) (hv : ValidFrom 0 l) (h : sumMany l = v) :
    Calls Try.prog 27 #[.slice A l.length cap] w fun e w' => e = .returned (.int .i64 v) ∧ Below w.heap.size w w' :=
  (count_any A cap l w hA hl (bd_sum (hv.bd (by omega)) hl)).mono fun _ _ ⟨he, hb⟩ => ⟨by rw [he, h], hb⟩

def PgState (l : List Ar) (w : World) (t8 t9 t10 t11 : Value) (w' : World) : Prop := ∃ (i k : Nat) (A : Option Addr) (c : Nat), t11 = .int .i64 i ∧ t8 = .slice A (upto l k).length c ∧ AreasAt w' w'.heap.size A (upto l k) ∧
  t10 = .int .i64 (cnt (fun i => hasB l i) k) ∧ Below w.heap.size w w' ∧ ((t9 = .int .i64 k ∧ k < 16 ∧ i ≤ k) ∨ (t9 = .int .i64 (-1) ∧ k = 16 ∧ i ≤ 16))

theorem upto_zero (l : List Ar) : upto l 0 = [] := by
  have : upto l 0 = areasOf (fun _ => false) := areasOf_congr fun x _ => by simp [window]
  rw [this]; decide +kernel

theorem page_len (l : List Ar) (lo many : Int) : (pageAr l lo many).length ≤ 20 := by have := areasOf_len (pgMarks (fun i => hasB l i) (16 - (max lo 0).toNat) (max lo 0).toNat many); unfold pageAr; omega
theorem page_valid (l : List Ar) (lo many : Int) : ValidFrom 0 (pageAr l lo many) := areasOf_valid _
theorem upto_len (l : List Ar) (k : Nat) : (upto l k).length ≤ 20 := by have := areasOf_len (window (fun i => hasB l i) 0 k); unfold upto; omega
theorem upto_valid (l : List Ar) (k : Nat) : ValidFrom 0 (upto l k) := areasOf_valid _

theorem pages_one : pageAr [(2, 3)] 0 2 = [(2, 2)] ∧ pageNext [(2, 3)] 0 2 = 4 := by decide +kernel

theorem valid22 : ValidFrom 0 [(2, 2)] := by refine ⟨?_, ?_, ?_, trivial⟩ <;> decide

theorem count22 (A : Option Addr) (cap : Nat) (w : World) (hA : AreasAt w w.heap.size A [(2, 2)]) :
    Calls Try.prog 27 #[.slice A 1 cap] w fun e w' => e = .returned (.int .i64 2) ∧ Below w.heap.size w w' :=
  count_is A cap [(2, 2)] 2 w hA (by simp) valid22 (by decide)

theorem page_closed (w : World) : Calls Try.prog 18 #[.slice (some ⟨w.heap.size, 0, none⟩) 1 1, .int .i64 0, .int .i64 2] (w.alloc (.cells #[.int .i64 2, .int .i64 3] 76)) (AnsPg w [(2, 2)] 4) := by
  have hP : AreasAt (w.alloc (.cells #[.int .i64 2, .int .i64 3] 76)) (w.alloc (.cells #[.int .i64 2, .int .i64 3] 76)).heap.size (some ⟨w.heap.size, 0, none⟩) [(2, 3)] := by simpa using areasAt_one w 2 3
  have := page_any (some ⟨w.heap.size, 0, none⟩) 1 [(2, 3)] 0 2 _ hP (by simp) (bd_one (by decide) (by decide) (by decide)) (by decide)
  rw [pages_one.1, pages_one.2] at this
  refine this.mono fun e w' h => ?_
  obtain ⟨A, c, he, hA, hb⟩ := h
  exact ⟨A, c, he, hA, ((Below.refl _ _).alloc (Nat.le_refl _) _).trans (hb.mono (by simp))⟩

theorem page_is (A : Option Addr) (cap : Nat) (l : List Ar) (lo many : Int) (p : List Ar) (n : Int) (w : World) (hA : AreasAt w w.heap.size A l) (hl : l.length ≤ 20) (hv : ValidFrom 0 l) (hm : many ≤ 9223372036854775807) (hp : pageAr l lo many = p) (hn : pageNext l lo many = n) :
    Calls Try.prog 18 #[.slice A l.length cap, .int .i64 lo, .int .i64 many] w (AnsPg w p n) := by
  have := page_any A cap l lo many w hA hl (hv.bd (by omega)) hm
  rw [hp, hn] at this
  exact this

set_option maxHeartbeats 2000000 in
set_option maxRecDepth 100000 in
theorem topPages_walk (A : Option Addr) (ca : Nat) (l : List Ar) (many : Int) (w : World) (hA : AreasAt w w.heap.size A l) (wl : Wf l) :
    Calls Try.prog 6 #[.slice A l.length ca, .int .i64 many] w fun e w' => e = .returned (.bool true) ∧ Below w.heap.size w w' := by
  obtain ⟨b, hb, hb1, hb2⟩ : ∃ b, bits .and .i64 many 7 = b ∧ 0 ≤ b ∧ b ≤ 7 := ⟨_, rfl, (and7 many).1, (and7 many).2⟩
  go_enter Try.func6, Try.ntmps6
  go_wp2_with fail
  ((with_reducible refine (page_closed w).mono ?_); rintro e w1 ⟨O, co, rfl, hO, hw1⟩)
  go_wp2_with fail
  ((with_reducible refine (count22 _ _ _ hO).mono ?_); rintro e w2 ⟨rfl, hw2⟩)
  replace hw2 := belowThen hw1 hw2
  clear hO hw1
  by_cases hl : l.length ≤ 20
  rotate_left
  · go_wp2_with fail
    go_ret; exact ⟨rfl, hw2⟩
  go_wp2_with fail
  by_cases vl : ValidFrom 0 l
  rotate_left
  · ((with_reducible refine (check_bad _ _ l _ (hA.up hw2) hl wl vl).mono ?_); rintro e w3 ⟨n, hn, rfl, hw3⟩)
    go_wp2_with fail
    go_ret; exact ⟨rfl, belowThen hw2 hw3⟩
  ((with_reducible refine (check_ok _ _ l _ (hA.up hw2) hl wl vl).mono ?_); rintro e w3 ⟨rfl, hw3⟩)
  replace hw3 := belowThen hw2 hw3
  clear hw2
  go_wp2
  go_loopw [8, 9, 10, 11] (fun t8 t9 t10 t11 w' => PgState l w t8 t9 t10 t11 w') (fun _ _ _ t _ => 20 - (intOf t).toNat)
  case atStart => exact ⟨0, 0, none, 0, rfl, by rw [upto_zero]; rfl, by rw [upto_zero]; exact AreasAt.nil _ _ _, rfl, hw3, .inl ⟨rfl, by omega, by omega⟩⟩
  case round =>
    obtain ⟨i, k, X, cx, rfl, rfl, hX, rfl, hwr, hst⟩ := hrel
    have hsz := hwr.size
    have hcb := cnt_bound (fun i => hasB l i) k
    rcases hst with ⟨rfl, hk, hik⟩ | ⟨rfl, rfl, hi⟩
    · rcases page_spec l k (1 + b) (by omega) (by omega) with ⟨n1, n2, n3, n4⟩ | ⟨k', n1, n2, n3, n4, n5, n6⟩
      · obtain ⟨v, hv⟩ : ∃ v, sumMany (pageAr l k (1 + b)) = v := ⟨_, rfl⟩
        rw [hv] at n3 n4
        have hv0 : 0 ≤ v := by rw [← hv, n2, sum_areasOf]; exact (cnt_bound _ _).1
        have hcs := cnt_bound (fun i => hasB l i) 16
        obtain ⟨p, hp⟩ : ∃ p, pageAr l k (1 + b) = p := ⟨_, rfl⟩
        have lp : p.length ≤ 20 := by rw [← hp]; exact page_len _ _ _
        have vp : ValidFrom 0 p := by rw [← hp]; exact page_valid _ _ _
        rw [hp] at hv n2
        have N1 := Lib.hid n1; clear n1
        have N2 := Lib.hid n2; clear n2
        have HV := Lib.hid hv; clear hv
        have HP := Lib.hid hp; clear hp
        have N4 : v ≤ cnt (fun i => hasB l i) 16 - cnt (fun i => hasB l i) k := by omega
        have N5 := Lib.hid n4; clear n4
        go_wp2_with fail
        ((with_reducible refine (page_is _ _ l _ _ p (-1) _ (hA.up hwr) hl vl (by omega) HP.out N1.out).mono ?_); rintro e w4 ⟨Y, cy, rfl, hY, hw4⟩)
        replace hX := hX.up hw4
        replace hw4 := belowThen hwr hw4
        go_wp2_with fail
        ((with_reducible refine (check_ok _ _ p _ hY lp vp.wf vp).mono ?_); rintro e w5 ⟨rfl, hw5⟩)
        replace hX := hX.up hw5
        replace hY := hY.up hw5
        replace hw5 := belowThen hw4 hw5
        go_wp2_with fail
        ((with_reducible refine (count_is _ _ p v _ hY lp vp HV.out).mono ?_); rintro e w6 ⟨rfl, hw6⟩)
        replace hX := hX.up hw6
        replace hY := hY.up hw6
        replace hw6 := belowThen hw5 hw6
        go_wp2_with fail
        ((with_reducible refine (count_is _ _ p v _ hY lp vp HV.out).mono ?_); rintro e w7 ⟨rfl, hw7⟩)
        replace hX := hX.up hw7
        replace hY := hY.up hw7
        replace hw7 := belowThen hw6 hw7
        go_wp2_with fail
        ((with_reducible refine (union_ans _ _ _ _ (upto l k) p _ hX hY (upto_len l k) lp (upto_valid l k) vp).mono ?_); rintro e w8 ⟨Z, cz, rfl, hZ, hw8⟩)
        replace hw8 := belowThen hw7 hw8
        have HZ : uni (upto l k) p = upto l 16 := by rw [N2.out]; exact uni_upto l (by omega)
        go_wp2
        go_roundw
        case rel => exact ⟨i + 1, 16, Z, cz, by go_num, rfl, by rw [← HZ]; exact hZ, by congr 1; have := N5.out; omega, hw8, .inr ⟨rfl, rfl, by omega⟩⟩
        case measure => simp [intOf]; omega
      · obtain ⟨p, hp⟩ : ∃ p, pageAr l k (1 + b) = p := ⟨_, rfl⟩
        have lp : p.length ≤ 20 := by rw [← hp]; exact page_len _ _ _
        have vp : ValidFrom 0 p := by rw [← hp]; exact page_valid _ _ _
        rw [hp] at n4 n5
        have N1 := Lib.hid n1; clear n1
        have N4 := Lib.hid n4; clear n4
        have HV := Lib.hid n5; clear n5
        have N6 := Lib.hid n6; clear n6
        have HP := Lib.hid hp; clear hp
        go_wp2_with fail
        ((with_reducible refine (page_is _ _ l _ _ p (k' : Int) _ (hA.up hwr) hl vl (by omega) HP.out N1.out).mono ?_); rintro e w4 ⟨Y, cy, rfl, hY, hw4⟩)
        replace hX := hX.up hw4
        replace hw4 := belowThen hwr hw4
        go_wp2_with fail
        ((with_reducible refine (check_ok _ _ p _ hY lp vp.wf vp).mono ?_); rintro e w5 ⟨rfl, hw5⟩)
        replace hX := hX.up hw5
        replace hY := hY.up hw5
        replace hw5 := belowThen hw4 hw5
        go_wp2_with fail
        ((with_reducible refine (count_is _ _ p (1 + b) _ hY lp vp HV.out).mono ?_); rintro e w6 ⟨rfl, hw6⟩)
        replace hX := hX.up hw6
        replace hY := hY.up hw6
        replace hw6 := belowThen hw5 hw6
        go_wp2_with fail
        ((with_reducible refine (count_is _ _ p (1 + b) _ hY lp vp HV.out).mono ?_); rintro e w7 ⟨rfl, hw7⟩)
        replace hX := hX.up hw7
        replace hY := hY.up hw7
        replace hw7 := belowThen hw6 hw7
        go_wp2_with fail
        ((with_reducible refine (count_is _ _ p (1 + b) _ hY lp vp HV.out).mono ?_); rintro e x1 ⟨rfl, hx1⟩)
        replace hX := hX.up hx1
        replace hY := hY.up hx1
        replace hx1 := belowThen hw7 hx1
        go_wp2_with fail
        ((with_reducible refine (union_ans _ _ _ _ (upto l k) p _ hX hY (upto_len l k) lp (upto_valid l k) vp).mono ?_); rintro e w8 ⟨Z, cz, rfl, hZ, hw8⟩)
        replace hw8 := belowThen hx1 hw8
        have HZ : uni (upto l k) p = upto l k' := by rw [N4.out]; exact uni_upto l (by omega)
        go_wp2
        go_roundw
        case rel => exact ⟨i + 1, k', Z, cz, by go_num, rfl, by rw [← HZ]; exact hZ, by congr 1; have := N6.out; omega, hw8, .inl ⟨rfl, by omega, by omega⟩⟩
        case measure => simp [intOf]; omega
    · have HU := Lib.hid (upto_all vl)
      have HS := Lib.hid (sum_valid vl)
      go_wp2_with fail
      ((with_reducible refine (sameAreas_yes _ _ _ _ (upto l 16) l _ hX (hA.up hwr) (upto_len l 16) HU.out).mono ?_); rintro e w4 ⟨rfl, hw4⟩)
      replace hw4 := belowThen hwr hw4
      go_wp2_with fail
      ((with_reducible refine (count_is _ _ l _ _ (hA.up hw4) hl vl HS.out).mono ?_); rintro e w5 ⟨rfl, hw5⟩)
      replace hw5 := belowThen hw4 hw5
      go_wp2
      go_ret
      exact ⟨rfl, hw5⟩
end Go.Proofs.Ytdgmmmjhajbbeaa
