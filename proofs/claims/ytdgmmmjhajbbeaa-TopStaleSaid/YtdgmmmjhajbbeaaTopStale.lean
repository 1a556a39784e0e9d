/- The walk of TopStale. -/
import Derived.Test.YtdgmmmjhajbbeaaStaleM
namespace Go.Proofs.Ytdgmmmjhajbbeaa
open Go.RowKit

/-- The answer of SizeOf, its error known. -/
theorem sizeOf_e (B g : Nat) (w : World) (D : DiskM) (id n v : Int) (hD : DiskAt B w g D) (hn : sizeErr D id = n) (hv : sizeVal D id = v) :
    Calls Try.prog 37 #[.pointer (some ⟨g, 0, none⟩), .int .i64 id] w fun e w' => e = .returned (.tuple #[.int .i64 v, errV n]) ∧ Below w.heap.size w w' := by
  subst hn hv; exact sizeOf_any B g w D id hD
theorem snap_e (B g : Nat) (w : World) (D : DiskM) (n v : Int) (hD : DiskAt B w g D) (hn : snapErr D = n) (hv : snapId D = v) :
    Calls Try.prog 46 #[.pointer (some ⟨g, 0, none⟩)] w fun e w' => e = .returned (.tuple #[.int .i64 v, errV n]) ∧ DiskAt B w' g (snapM D) ∧ Step B dTypes w w' := by
  subst hn hv; exact snap_any B g w D hD
theorem changed_stale (B g : Nat) (w : World) (D : DiskM) (a b : Int) (hD : DiskAt B w g D) (h1 : chgErr D a b = 7) (h2 : chgAr D a b = []) :
    Calls Try.prog 39 #[.pointer (some ⟨g, 0, none⟩), .int .i64 a, .int .i64 b] w fun e w' => ∃ A c, e = .returned (.tuple #[.slice A 0 c, .iface 124 (.int .i64 7)]) ∧ Below w.heap.size w w' := by
  have h := changed_any B g w D a b hD
  rw [h1, h2] at h
  exact h.mono fun _ _ ⟨A, c, h1, _, h3⟩ => ⟨A, c, h1, h3⟩
theorem number_stale (w : World) : Calls Try.prog 44 #[.iface 124 (.int .i64 7)] w fun e w' => e = .returned (.int .i64 7) ∧ w = w' := number_any 7 w (by decide)

set_option maxHeartbeats 2000000 in
set_option maxRecDepth 100000 in
theorem topStale_walk (A M : Option Addr) (cA cM : Nat) (l more : List ActM) (size a : Int) (w : World) (hA : ActsAt w w.heap.size A l) (hM : ActsAt w w.heap.size M more) :
    Calls Try.prog 10 #[.int .i64 size, .slice A l.length cA, .slice M more.length cM, .int .i64 a] w fun e w' => e = .returned (.bool true) ∧ Below w.heap.size w w' := by
  have hm := hM.1
  unfold maxLen at hm
  go_enter Try.func10, Try.ntmps10
  go_wp2_with fail
  ((with_reducible refine (tracked_any _).mono ?_); rintro e w1 ⟨rfl, hb1⟩)
  go_wp2_with fail
  ((with_reducible refine (changed_acts _ _ _ _ _ (hA.below hb1)).mono ?_); rintro e w2 (⟨rfl, hb2⟩ | ⟨hsz, h80, g, rfl, hD2, hb2⟩))
  · go_wp2
    go_ret
    exact ⟨rfl, belowThen hb1 hb2⟩
  have hB : w.heap.size ≤ w1.heap.size := hb1.size
  replace hb1 := belowThen hb1 hb2
  clear hb2
  generalize runM (emptyDisk size.toNat) l = D at hD2
  go_wp2_with fail
  ((with_reducible refine (lightActs_any _ _ _ _ _ (hM.below hb1)).mono ?_); rintro e w3 ⟨r, rfl, _, hb3⟩)
  replace hb1 := belowThen hb1 hb3
  cases r
  · go_wp2
    go_ret
    exact ⟨rfl, hb1⟩
  replace hD2 := hD2.below hb3
  clear hb3
  obtain ⟨ne, hne⟩ : ∃ ne, sizeErr D a = ne := ⟨_, rfl⟩
  obtain ⟨nv, hnv⟩ : ∃ nv, sizeVal D a = nv := ⟨_, rfl⟩
  have HNE := Lib.hid hne
  go_wp2_with fail
  ((with_reducible refine (sizeOf_e _ _ _ D a ne nv hD2 hne hnv).mono ?_); rintro e w4 ⟨rfl, hb4⟩)
  clear hne hnv
  replace hb1 := belowThen hb1 hb4
  replace hD2 := hD2.below hb4
  clear hb4
  go_wp2_with fail
  ((with_reducible refine (forget_any _ _ _ D hD2).mono ?_); rintro e w5 ⟨rfl, hD5, hs5⟩)
  replace hb1 := hb1.trans (hs5.below.mono hB)
  clear hs5 hD2
  have K0 := Lib.hid (show StaleKeep D (forgetM D) from ⟨posIn_forget D, lastForgot_forget D⟩)
  generalize forgetM D = D0 at hD5 K0
  go_wp2
  go_loopw [13] (fun i w' => ∃ (k : Nat) (D' : DiskM), k ≤ more.length ∧ i = .int .i64 k ∧ Hid (StaleKeep D D') ∧ DiskAt w1.heap.size w' g D' ∧ Below w.heap.size w w') (fun i _ => more.length - (intOf i).toNat)
  case atStart => exact ⟨0, D0, Nat.zero_le _, rfl, K0, hD5, hb1⟩
  case round =>
    obtain ⟨k, D', hk, rfl, HK, hD, hb⟩ := hrel
    clear hD5 hb1 K0
    by_cases hlt : k < more.length
    · obtain ⟨b, off, rfl, hact⟩ := (hM.below hb).2 k hlt
      have hc := hact.2.1
      have d0 : wr.cell? ⟨b, off + k * 9, none⟩ = some (.string more[k].kind) := hc 0 (by omega)
      have d1 : wr.cell? ⟨b, off + k * 9 + 1, none⟩ = some (.string more[k].s) := hc 1 (by omega)
      have d2 : wr.cell? ⟨b, off + k * 9 + 2, none⟩ = some (.int .i64 more[k].a) := hc 2 (by omega)
      have d3 : wr.cell? ⟨b, off + k * 9 + 3, none⟩ = some (.int .i64 more[k].b) := hc 3 (by omega)
      have d4 : wr.cell? ⟨b, off + k * 9 + 4, none⟩ = some (.int .i64 more[k].c) := hc 4 (by omega)
      have d5 : wr.cell? ⟨b, off + k * 9 + 5, none⟩ = some (.int .i64 more[k].d) := hc 5 (by omega)
      have d6 : wr.cell? ⟨b, off + k * 9 + 6, none⟩ = some (.int .u64 more[k].k) := hc 6 (by omega)
      have d7 : wr.cell? ⟨b, off + k * 9 + 7, none⟩ = some (.slice more[k].pA more[k].pL more[k].pC) := hc 7 (by omega)
      have d8 : wr.cell? ⟨b, off + k * 9 + 8, none⟩ = some (.slice more[k].cA more[k].cL more[k].cC) := hc 8 (by omega)
      have hss := hact.2.2.2.2.2.2.1
      have i1 : (k : Int) < (more.length : Int) := by omega
      have HC := Lib.hid (change_any w1.heap.size g wr D' more[k] hD hss)
      clear hc hact hss
      cases hk1 : (more[k].kind.toList == [115, 110, 97, 112]) with
      | true =>
        go_wp2
        go_roundw
        case rel => exact ⟨k + 1, D', hlt, by go_num, HK, hD, hb⟩
        case measure => simp [intOf]; omega
      | false =>
        cases hk2 : (more[k].kind.toList == [117, 110, 115, 110, 97, 112]) with
        | true =>
          go_wp2
          go_roundw
          case rel => exact ⟨k + 1, D', hlt, by go_num, HK, hD, hb⟩
          case measure => simp [intOf]; omega
        | false =>
          have HK' := Lib.hid (stale_change D D' more[k] HK.out hk1 hk2)
          go_wp2_with fail
          (refine HC.out.mono ?_; rintro e w6 ⟨rfl, hD6, hs6⟩)
          go_wp2
          go_roundw
          case rel => exact ⟨k + 1, _, hlt, by go_num, HK', hD6, hb.trans (hs6.below.mono hB)⟩
          case measure => simp [intOf]; omega
    · obtain ⟨nf, hnf⟩ : ∃ nf, snapErr D' = nf := ⟨_, rfl⟩
      obtain ⟨nb, hnb⟩ : ∃ nb, snapId D' = nb := ⟨_, rfl⟩
      have HNF := Lib.hid hnf
      have HNB := Lib.hid hnb
      have hok := hD.ok
      go_wp2_with fail
      ((with_reducible refine (snap_e _ _ _ D' nf nb hD hnf hnb).mono ?_); rintro e w6 ⟨rfl, hD6, hs6⟩)
      replace hb := hb.trans (hs6.below.mono hB)
      clear hs6 hD hnf hnb
      by_cases he0 : ne = 0
      rotate_left
      · have hv : errV ne = .iface 124 (.int .i64 ne) := by simp [errV, he0]
        rw [hv]
        go_wp2
        go_ret
        exact ⟨rfl, hb⟩
      by_cases hf0 : nf = 0
      rotate_left
      · have hv : errV nf = .iface 124 (.int .i64 nf) := by simp [errV, hf0]
        subst he0
        have hv0 : errV 0 = .nilIface := rfl
        rw [hv, hv0]
        go_wp2
        go_ret
        exact ⟨rfl, hb⟩
      subst he0 hf0
      have hv0 : errV 0 = .nilIface := rfl
      rw [hv0]
      have hpos : posIn D'.snaps a ≠ none := by
        rw [HK.out.1 a]
        intro hn
        have := HNE.out
        unfold sizeErr at this
        rw [hn] at this
        simp at this
      obtain ⟨q1, q2, q3, q4⟩ := stale_fin hok HK.out.2 hpos HNF.out
      rw [HNB.out] at q1 q2 q3 q4
      clear HNE HNF HNB HK hok
      go_wp2_with fail
      ((with_reducible refine (changed_stale _ _ _ _ a nb hD6 q1 q3).mono ?_); rintro e w7 ⟨X, cx, rfl, hb7⟩)
      replace hb := belowThen hb hb7
      replace hD6 := hD6.below hb7
      clear hb7
      go_wp2_with fail
      ((with_reducible refine (changed_stale _ _ _ _ nb a hD6 q2 q4).mono ?_); rintro e w8 ⟨Y, cy, rfl, hb8⟩)
      replace hb := belowThen hb hb8
      clear hb8 hD6 q1 q2 q3 q4
      go_wp2_with fail
      ((with_reducible refine (number_stale _).mono ?_); rintro e w9 ⟨rfl, rfl⟩)
      go_wp2_with fail
      ((with_reducible refine (number_stale _).mono ?_); rintro e w9 ⟨rfl, rfl⟩)
      go_wp2
      go_ret
      exact ⟨rfl, hb⟩
end Go.Proofs.Ytdgmmmjhajbbeaa
