/- Package vdisk: Forget, Write. -/
import Derived.Test.YtmcoenndfbgdfaaVd3
namespace Go.Proofs.Ytmcoenndfbgdfaa
open Go.RowKit

theorem ls_get {LS : List (SnapM × Value)} {L : List SnapM} (hL : LS.map (·.1) = L) (i : Nat) (hi : i < LS.length) (hi' : i < L.length) : L[i] = LS[i].1 := by
  subst hL; simp

theorem forget_fin {B g gb k c : Nat} {w : World} {D : DiskM} {LS : List (SnapM × Value)} (hD : DiskAt B w g D) (hg : w.heap[g]? = some (.cells (dArr D.now D.last (.slice (some ⟨gb, 0, none⟩) (k + 1) c)) 98 (0, 0))) (hL : LS.map (·.1) = D.snaps)
    (hO : w.ownsRow B 105 20 (.slice (some ⟨gb, 0, none⟩) (k + 1) c) (k + 1) (sCells LS)) (hn : LS.length = k + 1) (hT : ∀ p ∈ LS, OwnAr w 0 p.2 p.1.touched) (hk : D.snaps.length = k + 1) :
    DiskAt B ((w.setCell ⟨gb, k * 20 + 18, none⟩ (.slice none 0 0)).setCell ⟨gb, k * 20 + 19, none⟩ (.bool true)) g (forgetM D) ∧ Step B dTypes w ((w.setCell ⟨gb, k * 20 + 18, none⟩ (.slice none 0 0)).setCell ⟨gb, k * 20 + 19, none⟩ (.bool true)) := by
  have hnil : OwnAr w 0 (.slice none 0 0) [] := World.ownsRow_nil _ _ _ _
  obtain ⟨r1, r2, r3, r4, r5, r6⟩ := touch_store hD hg hL hO hn hT (Below.refl _ _) k (by omega) (.slice none 0 0) [] hnil ⟨trivial, by simp⟩
  have hlen : (LS.set k ({ (LS[k]'(by omega)).1 with touched := [] }, .slice none 0 0)).length = k + 1 := by simpa using hn
  have hget : (LS.set k ({ (LS[k]'(by omega)).1 with touched := [] }, .slice none 0 0))[k]'(by omega) = ({ (LS[k]'(by omega)).1 with touched := [] }, .slice none 0 0) := by simp
  have hOk : ({ ({ D with snaps := D.snaps.set k { (LS[k]'(by omega)).1 with touched := [] } } : DiskM) with snaps := (D.snaps.set k { (LS[k]'(by omega)).1 with touched := [] }).set k { (LS[k]'(by omega)).1 with touched := [], forgot := true } } : DiskM).Ok := by
    have hmem : (LS[k]'(by omega)).1 ∈ D.snaps := by rw [← hL]; exact List.mem_map_of_mem (List.getElem_mem (by omega))
    exact r1.ok.set (hD.ok.ids (LS[k]'(by omega)).1 hmem) (hD.ok.sizes (LS[k]'(by omega)).1 hmem) ⟨trivial, by simp⟩
  obtain ⟨q1, q2, _⟩ := disk_store (D := { D with snaps := D.snaps.set k { (LS[k]'(by omega)).1 with touched := [] } }) hD.base r3 r4 r5 hlen r6 k (by omega) 19 (by omega) (.bool true) ({ (LS[k]'(by omega)).1 with touched := [], forgot := true }, .slice none 0 0) (by rw [hget]; rfl) hOk (World.ownsRow_nil _ _ _ _)
  refine ⟨?_, r2.trans q2⟩
  rw [forgetM_pos hk, ls_get hL k (by omega) (by omega)]
  have : (D.snaps.set k { (LS[k]'(by omega)).1 with touched := [] }).set k { (LS[k]'(by omega)).1 with touched := [], forgot := true } = D.snaps.set k (setForgot (LS[k]'(by omega)).1) := by rw [List.set_set]; rfl
  rw [← this]
  exact q1

set_option maxHeartbeats 2000000 in
set_option maxRecDepth 100000 in
theorem forget_any (B g : Nat) (w : World) (D : DiskM) (hD : DiskAt B w g D) :
    Calls Try.prog 48 #[.pointer (some ⟨g, 0, none⟩)] w fun e w' => e = .returned (.tuple #[]) ∧ DiskAt B w' g (forgetM D) ∧ Step B dTypes w w' := by
  obtain ⟨sv, hg, LS, hL, hO, hT⟩ := hD.mem
  have hlt := (Array.getElem?_eq_some_iff.1 hg).1
  have hB := hD.base
  have c18 : w.cell? ⟨g, 18, none⟩ = some sv := cell_of_row _ _ _ _ _ _ hg
  have hlen : LS.length = D.snaps.length := by rw [← hL]; simp
  have h5 := hD.ok.few
  rcases ownsRow_form hO with ⟨A, c, rfl, h0⟩ | ⟨gb, c, rfl, hp⟩
  · have hnil : D.snaps = [] := List.length_eq_zero_iff.1 h0
    have HN := Lib.hid hnil
    clear hg hL hO hT hlen h0 hnil
    go_enter Try.func48, Try.ntmps48
    go_wp2_with fail
    ((with_reducible refine (newest_none g _ A c c18).mono ?_); rintro e w1 ⟨rfl, rfl⟩)
    go_wp2
    go_end0
    refine ⟨rfl, ?_, Step.refl _ _ _⟩
    rw [forgetM_nil HN.out]
    exact hD
  · obtain ⟨k, hk⟩ : ∃ k, D.snaps.length = k + 1 := ⟨D.snaps.length - 1, by omega⟩
    rw [hk] at hO c18 hg hlen h5
    have hkl : k < LS.length := by omega
    obtain ⟨t1, t2⟩ := snap_cell hO hlen k hkl 18 (by omega)
    obtain ⟨s1, s2⟩ := snap_cell hO hlen k hkl 19 (by omega)
    have hTk := hT LS[k] (List.getElem_mem hkl)
    obtain ⟨tA, tc, tv1, tv2, _⟩ := hTk.at_
    have t1' : w.cell? ⟨gb, k * 20 + 18, none⟩ = some (.slice tA LS[k].1.touched.length tc) := by rw [← tv1]; exact t1
    have s1' : w.cell? ⟨gb, k * 20 + 19, none⟩ = some (.bool LS[k].1.forgot) := s1
    have FIN := Lib.hid (forget_fin hD hg hL hO hlen hT hk)
    clear hk hL hlen t1 hg tv1 s1 hT hO tv2
    go_enter Try.func48, Try.ntmps48
    go_wp2_with fail
    ((with_reducible refine (newest_some g gb k c _ c18 (by omega)).mono ?_); rintro e w1 ⟨rfl, nq, rfl⟩)
    go_wp2
    go_end0
    obtain ⟨q1, q2⟩ := FIN.out
    first
      | exact ⟨rfl, q1, q2⟩
      | exact ⟨rfl, q1.below (below_drewN (Below.refl _ _) _), q2.drewN _⟩

/-- Write: the number of its error, and the disk behind it. -/
def writeErr (D : DiskM) (k : Int) (data : ByteArray) : Int := if ¬ (0 ≤ k ∧ k < D.now.size) then 1 else if 6 < data.size then 2 else 0
def writeM (D : DiskM) (k : Int) (data : ByteArray) : DiskM :=
  if writeErr D k data = 0 then touchM { D with now := { D.now with texts := setText D.now.texts k.toNat data } } (k, 1) else D

theorem write_text {B g : Nat} {w : World} {D : DiskM} (hD : DiskAt B w g D) {k : Nat} (hk : k < 16) (data : ByteArray) :
    DiskAt B (w.setCell ⟨g, 1 + k, none⟩ (.string data)) g { D with now := { D.now with texts := setText D.now.texts k data } } ∧ Step B dTypes w (w.setCell ⟨g, 1 + k, none⟩ (.string data)) := by
  obtain ⟨sv, hg, LS, hL, hO, hT⟩ := hD.mem
  have hs : Step B dTypes w (w.setCell ⟨g, 1 + k, none⟩ (.string data)) := (Step.refl B dTypes w).set hg hD.base (by decide) _
  have hg' := heap_setCell_same w g (1 + k) _ _ (.string data) hg
  rw [dArr_setText _ _ _ hk] at hg'
  refine ⟨⟨hD.base, ⟨hD.ok.size, hD.ok.last, hD.ok.few, hD.ok.ids, hD.ok.sizes, hD.ok.valid⟩, sv, hg', LS, hL, ⟨hO.1, ?_⟩, fun p hp => (hT p hp).step hs (by decide)⟩, hs⟩
  rcases hO.2 with h | ⟨g', cap, cur, hv, hb', hh, r⟩
  · exact .inl h
  · exact .inr ⟨g', cap, cur, hv, hb', (Below.heap_setCell _ _ _ _ (types_ne hh hg (by decide))).trans hh, r⟩

set_option maxHeartbeats 2000000 in
set_option maxRecDepth 100000 in
theorem write_any (B g : Nat) (w : World) (D : DiskM) (k : Int) (data : ByteArray) (hD : DiskAt B w g D) (hdata : data.size ≤ 9223372036854775807) :
    Calls Try.prog 43 #[.pointer (some ⟨g, 0, none⟩), .int .i64 k, .string data] w fun e w' => e = .returned (errV (writeErr D k data)) ∧ DiskAt B w' g (writeM D k data) ∧ Step B dTypes w w' := by
  obtain ⟨sv, hg, _⟩ := hD.mem
  have hlt := (Array.getElem?_eq_some_iff.1 hg).1
  have hsz := hD.ok.size
  have c0 : w.cell? ⟨g, 0, none⟩ = some (.int .i64 D.now.size) := cell_of_row _ _ _ _ _ _ hg
  by_cases hk : 0 ≤ k ∧ k < D.now.size
  · obtain ⟨n, rfl⟩ := Int.eq_ofNat_of_zero_le hk.1
    have hn : n < D.now.size := by omega
    by_cases hd : 6 < data.size
    · have he : writeErr D n data = 2 := by unfold writeErr; rw [if_neg (by simpa using hk), if_pos hd]
      have hm : writeM D n data = D := by unfold writeM; rw [he]; rfl
      rw [he, hm]
      clear he hm hk hg
      go_enter Try.func43, Try.ntmps43
      go_wp2_with fail
      ((with_reducible refine (has_yes g 0 D.now.size n _ c0 hn).mono ?_); rintro e w1 ⟨rfl, rfl⟩)
      go_wp2
      go_ret
      exact ⟨rfl, hD, Step.refl _ _ _⟩
    · have he : writeErr D n data = 0 := by unfold writeErr; rw [if_neg (by simpa using hk), if_neg hd]
      have hm : writeM D n data = touchM { D with now := { D.now with texts := setText D.now.texts n data } } (n, 1) := by unfold writeM; rw [he]; rfl
      rw [he, hm]
      have ct : w.cell? ⟨g, 1 + n, none⟩ = some (.string (D.now.texts n)) := by rw [cell_of_row _ _ _ _ _ _ hg]; exact dArr_text _ _ _ (by omega)
      have cf : w.frozen? ⟨g, 1 + n, none⟩ = false := frozen_of_row _ _ _ _ _ hg
      obtain ⟨hD1, hs1⟩ := write_text hD (k := n) (by omega) data
      have i1 : (0 : Int) ≤ (n : Int) := by omega
      have i2 : (n : Int) < 16 := by omega
      clear he hm hk hg
      go_enter Try.func43, Try.ntmps43
      go_wp2_with fail
      ((with_reducible refine (has_yes g 0 D.now.size n _ c0 hn).mono ?_); rintro e w1 ⟨rfl, rfl⟩)
      go_wp2_with fail
      ((with_reducible refine (touch_any B g _ _ n 1 hD1 i1 (by omega) (by omega)).mono ?_); rintro e w2 ⟨rfl, hD2, hs2⟩)
      go_wp2
      go_ret
      exact ⟨rfl, hD2, hs1.trans hs2⟩
  · have he : writeErr D k data = 1 := by unfold writeErr; rw [if_pos hk]
    have hm : writeM D k data = D := by unfold writeM; rw [he]; rfl
    rw [he, hm]
    clear he hm hg
    go_enter Try.func43, Try.ntmps43
    go_wp2_with fail
    ((with_reducible refine (has_no g 0 D.now.size k _ c0 hk).mono ?_); rintro e w1 ⟨rfl, rfl⟩)
    go_wp2
    go_ret
    exact ⟨rfl, hD, Step.refl _ _ _⟩
end Go.Proofs.Ytmcoenndfbgdfaa
