/- The walk of TopTouched. -/
import Derived.Test.YtdgmmmjhajbbeaaTouchM
import Derived.Test.YtdgmmmjhajbbeaaTopStale
import Derived.Test.YtdgmmmjhajbbeaaRefA
namespace Go.Proofs.Ytdgmmmjhajbbeaa
open Go.RowKit

/-- One mark set. -/
theorem mark_store {B g G k : Nat} {w w6 : World} {D : DiskM} {T : Nat → Bool} (hw : w.heap.size ≤ G) (hb : Below w.heap.size w w6) (hm : MBlk w6 G 34 T) (hD : DiskAt B w6 g D) :
    MBlk (w6.setCell ⟨G, k, none⟩ (.bool true)) G 34 (fun i => if i = k then true else T i) ∧ DiskAt B (w6.setCell ⟨G, k, none⟩ (.bool true)) g D ∧ Below w.heap.size w (w6.setCell ⟨G, k, none⟩ (.bool true)) := by
  have hs : Step w.heap.size [34] w6 (w6.setCell ⟨G, k, none⟩ (.bool true)) := (Step.refl _ _ _).set hm hw (by simp) _
  exact ⟨hm.set k true, hD.other hs (by decide) (by decide) (by decide), hb.trans hs.below⟩
theorem write_e (B g : Nat) (w : World) (D : DiskM) (k n : Int) (data : ByteArray) (hD : DiskAt B w g D) (hd : data.size ≤ 9223372036854775807) (hn : writeErr D k data = n) :
    Calls Try.prog 47 #[.pointer (some ⟨g, 0, none⟩), .int .i64 k, .string data] w fun e w' => e = .returned (errV n) ∧ DiskAt B w' g (writeM D k data) ∧ Step B dTypes w w' := by
  subst hn; exact write_any B g w D k data hD hd
theorem resize_e (B g : Nat) (w : World) (D : DiskM) (k n : Int) (hD : DiskAt B w g D) (hn : resizeErr k = n) :
    Calls Try.prog 48 #[.pointer (some ⟨g, 0, none⟩), .int .i64 k] w fun e w' => e = .returned (errV n) ∧ DiskAt B w' g (resizeM D k) ∧ Step B dTypes w w' := by
  subst hn; exact resize_any B g w D k hD

theorem size_e (B g : Nat) (w : World) (D : DiskM) (m : Nat) (hD : DiskAt B w g D) (hm : D.now.size = m) : Calls Try.prog 34 #[.pointer (some ⟨g, 0, none⟩)] w fun e w' => e = .returned (.int .i64 m) ∧ w = w' := by
  subst hm; exact size_any B w g D hD
theorem changed_e' (B g : Nat) (w : World) (D : DiskM) (a b n : Int) (l : List Ar) (hD : DiskAt B w g D) (h1 : chgErr D a b = n) (h2 : chgAr D a b = l) :
    Calls Try.prog 39 #[.pointer (some ⟨g, 0, none⟩), .int .i64 a, .int .i64 b] w (AnsChg w l n) := by
  subst h1 h2; exact changed_any B g w D a b hD

set_option maxHeartbeats 2000000 in
set_option maxRecDepth 100000 in
theorem topTouched_walk (A M : Option Addr) (cA cM : Nat) (l more : List ActM) (size : Int) (w : World) (hA : ActsAt w w.heap.size A l) (hM : ActsAt w w.heap.size M more) :
    Calls Try.prog 8 #[.int .i64 size, .slice A l.length cA, .slice M more.length cM] w fun e w' => e = .returned (.bool true) ∧ Below w.heap.size w w' := by
  have hm := hM.1
  unfold maxLen at hm
  have hv0 : errV 0 = .nilIface := rfl
  go_enter Try.func8, Try.ntmps8
  go_wp2_with fail
  ((with_reducible refine (tracked_any _).mono ?_); rintro e w1 ⟨rfl, hb1⟩)
  go_wp2_with fail
  ((with_reducible refine (changed_acts _ _ _ _ _ (hA.below hb1)).mono ?_); rintro e w2 (⟨rfl, hb2⟩ | ⟨hsz, h80, g, rfl, hD2, hb2⟩))
  · go_wp2
    go_ret
    exact ⟨rfl, belowThen hb1 hb2⟩
  have hB : w.heap.size ≤ w1.heap.size := hb1.size
  replace hb1 := belowThen hb1 hb2
  clear hb2 hsz h80
  generalize runM (emptyDisk size.toNat) l = D at hD2
  go_wp2_with fail
  ((with_reducible refine (lightActs_any _ _ _ _ _ (hM.below hb1)).mono ?_); rintro e w3 ⟨r, rfl, _, hb3⟩)
  replace hb1 := belowThen hb1 hb3
  cases r
  · go_wp2
    go_ret
    exact ⟨rfl, hb1⟩
  replace hD2 := hD2.below hb3
  clear hb3
  obtain ⟨nf, hnf⟩ : ∃ nf, snapErr D = nf := ⟨_, rfl⟩
  obtain ⟨a, hna⟩ : ∃ nb, snapId D = nb := ⟨_, rfl⟩
  have HNF := Lib.hid hnf
  have HNA := Lib.hid hna
  have hok := Lib.hid hD2.ok
  go_wp2_with fail
  ((with_reducible refine (snap_e _ _ _ D nf a hD2 hnf hna).mono ?_); rintro e w4 ⟨rfl, hD4, hs4⟩)
  replace hb1 := hb1.trans (hs4.below.mono hB)
  clear hs4 hD2 hnf hna
  by_cases hf0 : nf = 0
  rotate_left
  · have hv : errV nf = .iface 124 (.int .i64 nf) := by simp [errV, hf0]
    rw [hv]
    go_wp2
    go_ret
    exact ⟨rfl, hb1⟩
  subst hf0
  have S0 := Lib.hid (show Since (snapM D) a (fun _ => false) from HNA.out ▸ since_snap hok.out HNF.out)
  clear HNF HNA hok
  generalize snapM D = D0 at hD4 S0
  rw [hv0]
  have hG : w.heap.size ≤ w4.heap.size := hb1.size
  have HG0 := Lib.hid (MBlk.new w4 34 (fun _ => false))
  have HBA := Lib.hid (fun z : Array Value => (show Below w4.heap.size w4 (w4.alloc (.cells z 34)) from (Below.refl _ _).alloc (Nat.le_refl _) _))
  go_wp2
  go_loopw [12] (fun i w' => ∃ (k : Nat) (D' : DiskM) (T : Nat → Bool), k ≤ more.length ∧ i = .int .i64 k ∧ Hid (MBlk w' w4.heap.size 34 T) ∧ Hid (Since D' a T) ∧ DiskAt w1.heap.size w' g D' ∧ Below w.heap.size w w') (fun i _ => more.length - (intOf i).toNat)
  case atStart => exact ⟨0, D0, _, Nat.zero_le _, rfl, HG0, S0, hD4.below (HBA.out _), belowThen hb1 (HBA.out _)⟩
  case round =>
    obtain ⟨k, D', T, hk, rfl, HT, HS, hD, hb⟩ := hrel
    clear hD4 hb1 S0 HG0 HBA
    by_cases hlt : k < more.length
    · obtain ⟨b, off, rfl, hact⟩ := (hM.below hb).2 k hlt
      have hc := hact.2.1
      have d0 : wr.cell? ⟨b, off + k * 9, none⟩ = some (.string more[k].kind) := hc 0 (by omega)
      have d1 : wr.cell? ⟨b, off + k * 9 + 1, none⟩ = some (.string more[k].s) := hc 1 (by omega)
      have d2 : wr.cell? ⟨b, off + k * 9 + 2, none⟩ = some (.int .i64 more[k].a) := hc 2 (by omega)
      have d3 : wr.cell? ⟨b, off + k * 9 + 3, none⟩ = some (.int .i64 more[k].b) := hc 3 (by omega)
      have d4 : wr.cell? ⟨b, off + k * 9 + 4, none⟩ = some (.int .i64 more[k].c) := hc 4 (by omega)
      have d5 : wr.cell? ⟨b, off + k * 9 + 5, none⟩ = some (.int .i64 more[k].d) := hc 5 (by omega)
      have d6 : wr.cell? ⟨b, off + k * 9 + 6, none⟩ = some (.int .u64 more[k].k) := hc 6 (by omega)
      have d7 : wr.cell? ⟨b, off + k * 9 + 7, none⟩ = some (.slice more[k].pA more[k].pL more[k].pC) := hc 7 (by omega)
      have d8 : wr.cell? ⟨b, off + k * 9 + 8, none⟩ = some (.slice more[k].cA more[k].cL more[k].cC) := hc 8 (by omega)
      have hss : more[k].s.size ≤ 9223372036854775807 := by have := hact.2.2.2.2.2.2.1; unfold maxLen at this; omega
      have i1 : (k : Int) < (more.length : Int) := by omega
      clear hc hact
      obtain ⟨av, hav⟩ : ∃ av, more[k].a = av := ⟨_, rfl⟩
      rw [hav] at d2
      clear hav
      have hb0 : Below wr.heap.size wr (wr.alloc (.cells #[.string more[k].kind, .string more[k].s, .int .i64 av, .int .i64 more[k].b, .int .i64 more[k].c, .int .i64 more[k].d, .int .u64 more[k].k, .slice more[k].pA more[k].pL more[k].pC, .slice more[k].cA more[k].cL more[k].cC] 51)) := (Below.refl _ _).alloc (Nat.le_refl _) _
      have hx0 := heap_alloc_new wr (.cells #[.string more[k].kind, .string more[k].s, .int .i64 av, .int .i64 more[k].b, .int .i64 more[k].c, .int .i64 more[k].d, .int .u64 more[k].k, .slice more[k].pA more[k].pL more[k].pC, .slice more[k].cA more[k].cL more[k].cC] 51)
      generalize hw5 : wr.alloc (.cells #[.string more[k].kind, .string more[k].s, .int .i64 av, .int .i64 more[k].b, .int .i64 more[k].c, .int .i64 more[k].d, .int .u64 more[k].k, .slice more[k].pA more[k].pL more[k].pC, .slice more[k].cA more[k].cL more[k].cC] 51) = w5 at hb0 hx0
      have e0 : w5.cell? ⟨wr.heap.size, 0, none⟩ = some (.string more[k].kind) := cell_of_row _ _ _ _ _ _ hx0
      have e1 : w5.cell? ⟨wr.heap.size, 1, none⟩ = some (.string more[k].s) := cell_of_row _ _ _ _ _ _ hx0
      have e2 : w5.cell? ⟨wr.heap.size, 2, none⟩ = some (.int .i64 av) := cell_of_row _ _ _ _ _ _ hx0
      have HX0 := Lib.hid hx0
      have HT5 := Lib.hid (HT.out.keep (hb0.block _ HT.out.lt))
      have hD5 := hD.below hb0
      have hb5 := belowThen hb hb0
      clear hx0 hb0 hD hb HT
      cases hk1 : (more[k].kind.toList == [119, 114, 105, 116, 101]) with
      | true =>
        obtain ⟨n6, hn6⟩ : ∃ n6, writeErr D' av more[k].s = n6 := ⟨_, rfl⟩
        have HN6 := Lib.hid hn6
        by_cases h6 : n6 = 0
        · subst h6
          have hav : 0 ≤ av ∧ av < D'.now.size := by
            by_cases c : 0 ≤ av ∧ av < D'.now.size
            · exact c
            · exfalso; unfold writeErr at hn6; rw [if_pos c] at hn6; omega
          have h16 := hD5.ok.size.2
          obtain ⟨q, rfl⟩ := Int.eq_ofNat_of_zero_le hav.1
          have i2 : (q : Int) < 16 := by omega
          have hq : q < 16 := by omega
          have SW := Lib.hid (since_write HS.out q more[k].s hn6)
          go_wp2_with fail
          ((with_reducible refine (write_e _ _ _ D' q 0 more[k].s hD5 hss hn6).mono ?_); rintro e w6 ⟨rfl, hD6, hs6⟩)
          rw [hv0]
          have e2' : w6.cell? ⟨wr.heap.size, 2, none⟩ = some (.int .i64 (q : Int)) := cell_of_row _ _ _ _ _ _ (hs6.other _ _ _ _ HX0.out (by decide))
          have HT6 : MBlk w6 w4.heap.size 34 T := hs6.other _ _ _ _ HT5.out (by decide)
          obtain ⟨g1, g2⟩ := HT6.marks q hq
          have ST := Lib.hid (mark_store (k := q) hG (hb5.trans (hs6.below.mono hB)) HT6 hD6)
          clear HT6 hn6 hs6 hD6 e0 e1 e2 d0 d1 d2 d3 d4 d5 d6 d7 d8 hD5
          go_wp2
          go_roundw
          case rel =>
            obtain ⟨q1, q2, q3⟩ := ST.out
            exact ⟨k + 1, _, _, hlt, by go_num, q1, SW, q2, q3⟩
          case measure => simp [intOf]; omega
        · have hv6 : errV n6 = .iface 124 (.int .i64 n6) := by simp [errV, h6]
          have hw : writeM D' av more[k].s = D' := by unfold writeM; rw [if_neg (by rw [hn6]; exact h6)]
          go_wp2_with fail
          ((with_reducible refine (write_e _ _ _ D' av n6 more[k].s hD5 hss hn6).mono ?_); rintro e w6 ⟨rfl, hD6, hs6⟩)
          rw [hv6]
          rw [hw] at hD6
          have HT6 : MBlk w6 w4.heap.size 34 T := hs6.other _ _ _ _ HT5.out (by decide)
          have HT6' := Lib.hid HT6
          have hb6 := hb5.trans (hs6.below.mono hB)
          clear HT6 hn6 hs6 hw hv6 e0 e1 e2 d0 d1 d2 d3 d4 d5 d6 d7 d8 hD5
          go_wp2
          go_roundw
          case rel => exact ⟨k + 1, D', T, hlt, by go_num, HT6', HS, hD6, hb6⟩
          case measure => simp [intOf]; omega
      | false =>
        cases hk2 : (more[k].kind.toList == [115, 105, 122, 101]) with
        | true =>
          obtain ⟨m, hm'⟩ : ∃ m, D'.now.size = m := ⟨_, rfl⟩
          have HM := Lib.hid hm'
          have h16 : 1 ≤ m ∧ m ≤ 16 := hm' ▸ hD5.ok.size
          go_wp2_with fail
          ((with_reducible refine (size_e _ _ _ D' m hD5 hm').mono ?_); rintro e w6 ⟨rfl, rfl⟩)
          clear hm'
          by_cases hr : 1 ≤ av ∧ av ≤ 16
          · obtain ⟨q, rfl⟩ := Int.eq_ofNat_of_zero_le (show 0 ≤ av by omega)
            have hq : 1 ≤ q ∧ q ≤ 16 := by omega
            have SW := Lib.hid (since_size HS.out q hq)
            rw [HM.out] at SW
            go_wp2_with fail
            ((with_reducible refine (resize_e _ _ _ D' q 0 hD5 (by unfold resizeErr; rw [if_pos hr])).mono ?_); rintro e w7 ⟨rfl, hD7, hs7⟩)
            rw [hv0]
            have HX7 := Lib.hid (hs7.other _ _ _ _ HX0.out (by decide))
            have e2' : w5.cell? ⟨wr.heap.size, 2, none⟩ = w7.cell? ⟨wr.heap.size, 2, none⟩ := by rw [cell_of_row _ _ _ _ _ _ HX0.out, cell_of_row _ _ _ _ _ _ HX7.out]
            rw [e2'] at e2
            have HT7 := Lib.hid (show MBlk w7 w4.heap.size 34 T from hs7.other _ _ _ _ HT5.out (by decide))
            have hb7 := hb5.trans (hs7.below.mono hB)
            clear hs7 e2' e0 e1 d0 d1 d2 d3 d4 d5 d6 d7 d8 hD5 HT5 hb5 HM hr HS
            generalize resizeM D' (q : Int) = D7 at hD7 SW
            obtain ⟨xs, hxs, HZ7⟩ : ∃ xs : Array Value, xs[2]? = some (.int .i64 (q : Int)) ∧ Hid (w7.heap[wr.heap.size]? = some (.cells xs 51 (0, 0))) := ⟨_, rfl, HX7⟩
            have XS := Lib.hid hxs
            clear hxs HX0 HX7
            obtain ⟨wo, hwo⟩ : ∃ wo, wo = wr := ⟨_, rfl⟩
            subst hwo
            rcases Nat.lt_trichotomy m q with hmq | hmq | hmq
            · have j1 : (m : Int) < (q : Int) := by omega
              have j2 : ¬ (q : Int) < (m : Int) := by omega
              have j3 : (m : Int) ≤ (q : Int) := by omega
              go_wp2
              go_loopw [15] (fun i w' => ∃ j : Nat, m ≤ j ∧ j ≤ q ∧ i = .int .i64 j ∧ Hid (MBlk w' w4.heap.size 34 (fun i => if m ≤ i ∧ i < j then true else T i)) ∧ Hid (w'.heap[wo.heap.size]? = some (.cells xs 51 (0, 0))) ∧ DiskAt w1.heap.size w' g D7 ∧ Below w.heap.size w w') (fun i _ => q - (intOf i).toNat)
              case atStart => exact ⟨m, by omega, by omega, rfl, Lib.hid (HT7.out.congr fun i _ => by rw [if_neg (by omega)]), HZ7, hD7, hb7⟩
              case round =>
                obtain ⟨j, hj1, hj2, rfl, HT8, HX8, hD8, hb8⟩ := hrel
                clear hD7 hb7 HT7 HZ7 e2
                have e8 : wr.cell? ⟨wo.heap.size, 2, none⟩ = some (.int .i64 (q : Int)) := by rw [cell_of_row _ _ _ _ _ _ HX8.out]; exact XS.out
                by_cases hjl : j < q
                · have i5 : (j : Int) < (q : Int) := by omega
                  have i6 : (j : Int) < 16 := by omega
                  have i7 : (0 : Int) ≤ (j : Int) := by omega
                  obtain ⟨g1, g2⟩ := HT8.out.marks j (by omega)
                  have ST := Lib.hid (mark_store (k := j) hG hb8 HT8.out hD8)
                  have HX9 := Lib.hid ((Below.heap_setCell wr ⟨w4.heap.size, j, none⟩ (.bool true) wo.heap.size (types_ne HX8.out HT8.out (by decide))).trans HX8.out)
                  go_wp2
                  go_roundw
                  case rel =>
                    obtain ⟨q1, q2, q3⟩ := ST.out
                    exact ⟨j + 1, by omega, hjl, by go_num, Lib.hid (q1.congr fun i _ => by
                      by_cases c : i = j
                      · rw [if_pos c, if_pos (by omega)]
                      · rw [if_neg c]
                        by_cases d : m ≤ i ∧ i < j
                        · rw [if_pos d, if_pos (by omega)]
                        · rw [if_neg d, if_neg (by omega)]), HX9, q2, q3⟩
                  case measure => simp [intOf]; omega
                · obtain rfl : j = q := by omega
                  go_wp2
                  go_roundw
                  case rel => exact ⟨k + 1, D7, _, hlt, by go_num, HT8, Lib.hid (since_congr SW.out fun i _ => by rw [Nat.min_eq_left (Nat.le_of_lt hmq), Nat.max_eq_right (Nat.le_of_lt hmq)]), hD8, hb8⟩
                  case measure => simp [intOf]; omega
            · subst hmq
              go_wp2
              go_loopw [15] (fun i w' => ∃ j : Nat, m ≤ j ∧ j ≤ m ∧ i = .int .i64 j ∧ Hid (MBlk w' w4.heap.size 34 (fun i => if m ≤ i ∧ i < j then true else T i)) ∧ Hid (w'.heap[wo.heap.size]? = some (.cells xs 51 (0, 0))) ∧ DiskAt w1.heap.size w' g D7 ∧ Below w.heap.size w w') (fun i _ => m - (intOf i).toNat)
              case atStart => exact ⟨m, by omega, by omega, rfl, Lib.hid (HT7.out.congr fun i _ => by rw [if_neg (by omega)]), HZ7, hD7, hb7⟩
              case round =>
                obtain ⟨j, hj1, hj2, rfl, HT8, HX8, hD8, hb8⟩ := hrel
                clear hD7 hb7 HT7 HZ7 e2
                have e8 : wr.cell? ⟨wo.heap.size, 2, none⟩ = some (.int .i64 (m : Int)) := by rw [cell_of_row _ _ _ _ _ _ HX8.out]; exact XS.out
                by_cases hjl : j < m
                · exact absurd hjl (by omega)
                · obtain rfl : j = m := by omega
                  go_wp2
                  go_roundw
                  case rel => exact ⟨k + 1, D7, _, hlt, by go_num, HT8, Lib.hid (since_congr SW.out fun i _ => by rw [Nat.min_self, Nat.max_self]), hD8, hb8⟩
                  case measure => simp [intOf]; omega
            · have j1 : (q : Int) < (m : Int) := by omega
              have j2 : ¬ (m : Int) < (q : Int) := by omega
              have j3 : (q : Int) ≤ (m : Int) := by omega
              go_wp2
              go_loopw [15] (fun i w' => ∃ j : Nat, q ≤ j ∧ j ≤ m ∧ i = .int .i64 j ∧ Hid (MBlk w' w4.heap.size 34 (fun i => if q ≤ i ∧ i < j then true else T i)) ∧ Hid (w'.heap[wo.heap.size]? = some (.cells xs 51 (0, 0))) ∧ DiskAt w1.heap.size w' g D7 ∧ Below w.heap.size w w') (fun i _ => m - (intOf i).toNat)
              case atStart => exact ⟨q, by omega, by omega, rfl, Lib.hid (HT7.out.congr fun i _ => by rw [if_neg (by omega)]), HZ7, hD7, hb7⟩
              case round =>
                obtain ⟨j, hj1, hj2, rfl, HT8, HX8, hD8, hb8⟩ := hrel
                clear hD7 hb7 HT7 HZ7 e2
                have e8 : wr.cell? ⟨wo.heap.size, 2, none⟩ = some (.int .i64 (q : Int)) := by rw [cell_of_row _ _ _ _ _ _ HX8.out]; exact XS.out
                by_cases hjl : j < m
                · have i5 : (j : Int) < (m : Int) := by omega
                  have i6 : (j : Int) < 16 := by omega
                  have i7 : (0 : Int) ≤ (j : Int) := by omega
                  obtain ⟨g1, g2⟩ := HT8.out.marks j (by omega)
                  have ST := Lib.hid (mark_store (k := j) hG hb8 HT8.out hD8)
                  have HX9 := Lib.hid ((Below.heap_setCell wr ⟨w4.heap.size, j, none⟩ (.bool true) wo.heap.size (types_ne HX8.out HT8.out (by decide))).trans HX8.out)
                  go_wp2
                  go_roundw
                  case rel =>
                    obtain ⟨q1, q2, q3⟩ := ST.out
                    exact ⟨j + 1, by omega, hjl, by go_num, Lib.hid (q1.congr fun i _ => by
                      by_cases c : i = j
                      · rw [if_pos c, if_pos (by omega)]
                      · rw [if_neg c]
                        by_cases d : q ≤ i ∧ i < j
                        · rw [if_pos d, if_pos (by omega)]
                        · rw [if_neg d, if_neg (by omega)]), HX9, q2, q3⟩
                  case measure => simp [intOf]; omega
                · obtain rfl : j = m := by omega
                  go_wp2
                  go_roundw
                  case rel => exact ⟨k + 1, D7, _, hlt, by go_num, HT8, Lib.hid (since_congr SW.out fun i _ => by rw [Nat.min_eq_right (Nat.le_of_lt hmq), Nat.max_eq_left (Nat.le_of_lt hmq)]), hD8, hb8⟩
                  case measure => simp [intOf]; omega
          · obtain ⟨n6, hn6⟩ : ∃ n6, resizeErr av = n6 := ⟨_, rfl⟩
            have h6 : ¬ n6 = 0 := by rw [← hn6]; unfold resizeErr; rw [if_neg hr]; decide
            have hv6 : errV n6 = .iface 124 (.int .i64 n6) := by simp [errV, h6]
            have hw : resizeM D' av = D' := by unfold resizeM; rw [if_neg hr]
            go_wp2_with fail
            ((with_reducible refine (resize_e _ _ _ D' av n6 hD5 hn6).mono ?_); rintro e w7 ⟨rfl, hD7, hs7⟩)
            rw [hv6]
            rw [hw] at hD7
            have HT7 := Lib.hid (show MBlk w7 w4.heap.size 34 T from hs7.other _ _ _ _ HT5.out (by decide))
            have hb7 := hb5.trans (hs7.below.mono hB)
            clear hn6 hs7 hw hv6 e0 e1 e2 d0 d1 d2 d3 d4 d5 d6 d7 d8 hD5
            go_wp2
            go_roundw
            case rel => exact ⟨k + 1, D', T, hlt, by go_num, HT7, HS, hD7, hb7⟩
            case measure => simp [intOf]; omega
        | false =>
          go_wp2
          go_roundw
          case rel => exact ⟨k + 1, D', T, hlt, by go_num, HT5, HS, hD5, hb5⟩
          case measure => simp [intOf]; omega
    · obtain ⟨nf, hnf⟩ : ∃ nf, snapErr D' = nf := ⟨_, rfl⟩
      obtain ⟨nb, hnb⟩ : ∃ nb, snapId D' = nb := ⟨_, rfl⟩
      have HNF := Lib.hid hnf
      have HNB := Lib.hid hnb
      have hok := Lib.hid hD.ok
      go_wp2_with fail
      ((with_reducible refine (snap_e _ _ _ D' nf nb hD hnf hnb).mono ?_); rintro e w6 ⟨rfl, hD6, hs6⟩)
      have HT6 := Lib.hid (show MBlk w6 w4.heap.size 34 T from hs6.other _ _ _ _ HT.out (by decide))
      replace hb := hb.trans (hs6.below.mono hB)
      clear hs6 hD hnf hnb HT
      by_cases hf0 : nf = 0
      rotate_left
      · have hv : errV nf = .iface 124 (.int .i64 nf) := by simp [errV, hf0]
        rw [hv]
        go_wp2
        go_ret
        exact ⟨rfl, hb⟩
      subst hf0
      rw [hv0]
      have fin := since_fin hok.out HS.out HNF.out
      rw [HNB.out] at fin
      obtain ⟨x, hx⟩ : ∃ x, chgAr (snapM D') a nb = x := ⟨_, rfl⟩
      have hvx : ValidFrom 0 x ∧ x.length ≤ 16 := hx ▸ chgAr_ok _ a nb
      have HVX := Lib.hid hvx
      have hxl := hvx.2
      have HF := Lib.hid (show ∀ i : Nat, i < 16 → hasB x i = T i from hx ▸ fin.2)
      have h1 := fin.1
      clear fin hvx
      go_wp2_with fail
      ((with_reducible refine (changed_e' _ _ _ _ a nb 0 x hD6 h1 hx).mono ?_); rintro e w7 ⟨X, cx, rfl, hX, hb7⟩)
      rw [hv0]
      have HT7 := Lib.hid (HT6.out.keep (hb7.block _ HT6.out.lt))
      replace hb := belowThen hb hb7
      clear hb7 hD6 h1 hx HT6 HNF HNB hok HS
      go_wp2
      go_loopw [18] (fun i w' => ∃ k : Nat, k ≤ 16 ∧ i = .int .i64 k ∧ Hid (MBlk w' w4.heap.size 34 T) ∧ AreasAt w' w'.heap.size X x ∧ Below w.heap.size w w') (fun i _ => 16 - (intOf i).toNat)
      case atStart => exact ⟨0, Nat.zero_le _, rfl, HT7, hX, hb⟩
      case round =>
        obtain ⟨j, hj, rfl, HT8, hX8, hb8⟩ := hrel
        clear hX hb HT7
        by_cases hjl : j < 16
        · have i1 : (j : Int) < 16 := by omega
          have HFJ := HF.out j hjl
          cases hTj : T j
          · rw [hTj] at HFJ
            have g1 : wr.cell? ⟨w4.heap.size, j, none⟩ = some (.bool false) := by rw [← hTj]; exact (HT8.out.marks j hjl).1
            have hX9 : AreasAt wr.drew wr.drew.heap.size X x := hX8.up (Below.refl _ _).drew
            have HT9 := Lib.hid (show MBlk wr.drew w4.heap.size 34 T from HT8.out)
            clear hTj
            go_wp2
            go_region_with (go_at_call 26; refine (has_is X cx x j false _ hX9 (by omega) HVX.out.1 (by omega) HFJ).mono ?_; rintro e w9 ⟨rfl, hb9⟩; have g9 : w9.cell? ⟨w4.heap.size, j, none⟩ = some (.bool false) := by rw [hb9.cell (p := ⟨w4.heap.size, j, none⟩) HT9.out.lt]; exact g1)
            all_goals
              go_wp2
              go_roundw
              case rel => exact ⟨j + 1, hjl, by go_num, Lib.hid (HT9.out.keep (hb9.block _ HT9.out.lt)), hX9.up hb9, belowThen (hb8.drew) hb9⟩
              case measure => simp [intOf]; omega
          · rw [hTj] at HFJ
            have g1 : wr.cell? ⟨w4.heap.size, j, none⟩ = some (.bool true) := by rw [← hTj]; exact (HT8.out.marks j hjl).1
            have hX9 : AreasAt wr.drew wr.drew.heap.size X x := hX8.up (Below.refl _ _).drew
            have HT9 := Lib.hid (show MBlk wr.drew w4.heap.size 34 T from HT8.out)
            clear hTj
            go_wp2
            go_region_with (go_at_call 26; refine (has_is X cx x j true _ hX9 (by omega) HVX.out.1 (by omega) HFJ).mono ?_; rintro e w9 ⟨rfl, hb9⟩; have g9 : w9.cell? ⟨w4.heap.size, j, none⟩ = some (.bool true) := by rw [hb9.cell (p := ⟨w4.heap.size, j, none⟩) HT9.out.lt]; exact g1)
            all_goals
              go_wp2
              go_roundw
              case rel => exact ⟨j + 1, hjl, by go_num, Lib.hid (HT9.out.keep (hb9.block _ HT9.out.lt)), hX9.up hb9, belowThen (hb8.drew) hb9⟩
              case measure => simp [intOf]; omega
        · go_wp2
          go_ret
          exact ⟨rfl, hb8⟩
end Go.Proofs.Ytdgmmmjhajbbeaa
