/- The document's tracked disk: Resize, at, Read, SizeOf. -/
import Derived.Test.YtmcoenndfbgdfaaRv2
import Derived.Test.YtmcoenndfbgdfaaVd7
namespace Go.Proofs.Ytmcoenndfbgdfaa
open Go.RowKit

/-- What Resize does at the blocks below k. -/
def rvClr (D : RVm) (n k : Nat) : RVm := { D with texts := fun i => if i < k ∧ (n ≤ i ∧ i < D.size ∨ D.size ≤ i ∧ i < n) then (⟨#[]⟩ : ByteArray) else D.texts i, dirty := fun i => if i < k ∧ (n ≤ i ∧ i < D.size ∨ D.size ≤ i ∧ i < n) then true else D.dirty i }
def rvResizeE (n : Int) : Int := if 1 ≤ n ∧ n ≤ 16 then 0 else 1
def rvResize (D : RVm) (n : Int) : RVm := if 1 ≤ n ∧ n ≤ 16 then { rvClr D n.toNat 16 with size := n.toNat } else D
theorem rvArr_congr {D D' : RVm} (sv : Value) (h1 : D.size = D'.size) (h2 : ∀ i, i < 16 → D.texts i = D'.texts i) (h3 : ∀ i, i < 16 → D.dirty i = D'.dirty i) (h4 : D.time = D'.time) (h5 : D.next = D'.next) : rvArr D sv = rvArr D' sv := by
  unfold rvArr
  rw [h1, h4, h5, h2 0 (by omega), h2 1 (by omega), h2 2 (by omega), h2 3 (by omega), h2 4 (by omega), h2 5 (by omega), h2 6 (by omega), h2 7 (by omega), h2 8 (by omega), h2 9 (by omega), h2 10 (by omega), h2 11 (by omega), h2 12 (by omega), h2 13 (by omega), h2 14 (by omega), h2 15 (by omega)]
  rw [h3 0 (by omega), h3 1 (by omega), h3 2 (by omega), h3 3 (by omega), h3 4 (by omega), h3 5 (by omega), h3 6 (by omega), h3 7 (by omega), h3 8 (by omega), h3 9 (by omega), h3 10 (by omega), h3 11 (by omega), h3 12 (by omega), h3 13 (by omega), h3 14 (by omega), h3 15 (by omega)]

theorem clr_yes (D : RVm) (m k : Nat) (sv : Value) (h : m ≤ k ∧ k < D.size ∨ D.size ≤ k ∧ k < m) : rvArr { rvClr D m k with texts := setText (rvClr D m k).texts k (⟨#[]⟩ : ByteArray), dirty := setMark (rvClr D m k).dirty k true } sv = rvArr (rvClr D m (k + 1)) sv := by
  refine rvArr_congr _ rfl (fun i _ => ?_) (fun i _ => ?_) rfl rfl
  · simp only [rvClr, setText]
    by_cases e : i = k
    · subst e; rw [if_pos rfl, if_pos ⟨by omega, h⟩]
    · rw [if_neg e]
      by_cases hi : i < k
      · simp [hi, show i < k + 1 by omega]
      · simp [hi, show ¬ i < k + 1 by omega]
  · simp only [rvClr, setMark]
    by_cases e : i = k
    · subst e; rw [if_pos rfl, if_pos ⟨by omega, h⟩]
    · rw [if_neg e]
      by_cases hi : i < k
      · simp [hi, show i < k + 1 by omega]
      · simp [hi, show ¬ i < k + 1 by omega]
theorem clr_no (D : RVm) (m k : Nat) (sv : Value) (h : ¬ (m ≤ k ∧ k < D.size ∨ D.size ≤ k ∧ k < m)) : rvArr (rvClr D m k) sv = rvArr (rvClr D m (k + 1)) sv := by
  refine rvArr_congr _ rfl (fun i _ => ?_) (fun i _ => ?_) rfl rfl
  · simp only [rvClr]
    by_cases e : i = k
    · subst e; rw [if_neg (by simp), if_neg (fun x => h x.2)]
    · by_cases hi : i < k
      · simp [hi, show i < k + 1 by omega]
      · simp [hi, show ¬ i < k + 1 by omega]
  · simp only [rvClr]
    by_cases e : i = k
    · subst e; rw [if_neg (by simp), if_neg (fun x => h x.2)]
    · by_cases hi : i < k
      · simp [hi, show i < k + 1 by omega]
      · simp [hi, show ¬ i < k + 1 by omega]
theorem clr_at (D : RVm) (m k : Nat) : (rvClr D m k).texts k = D.texts k ∧ (rvClr D m k).dirty k = D.dirty k := by simp [rvClr]

set_option maxHeartbeats 4000000 in
set_option maxRecDepth 100000 in
theorem rvResize_any (B g : Nat) (w : World) (D : RVm) (n : Int) (hD : RVAt B w g D) :
    Calls Try.prog 50 #[.pointer (some ⟨g, 0, none⟩), .int .i64 n] w fun e w' => e = .returned (.int .i64 (rvResizeE n)) ∧ RVAt B w' g (rvResize D n) ∧ Step B rvTypes w w' := by
  by_cases hn : 1 ≤ n ∧ n ≤ 16
  · have he : rvResizeE n = 0 := by unfold rvResizeE; rw [if_pos hn]
    have hm : rvResize D n = { rvClr D n.toNat 16 with size := n.toNat } := by unfold rvResize; rw [if_pos hn]
    rw [he, hm]
    obtain ⟨m, rfl⟩ := Int.eq_ofNat_of_zero_le (show 0 ≤ n by omega)
    rw [Int.toNat_natCast]
    obtain ⟨A, c, hg, hO, _⟩ := rv_form hD
    have hok := hD.ok
    have hB := hD.base
    have hsz := hD.ok.size
    have i1 : ¬ (m : Int) < 1 := by omega
    have i2 : ¬ 16 < (m : Int) := by omega
    have HD0 := Lib.hid (show w.heap[g]? = some (.cells (rvArr (rvClr D m 0) (.slice A D.snaps.length c)) 60 (0, 0)) from by
      rw [hg, rvArr_congr (D := rvClr D m 0) (D' := D) _ rfl (fun i _ => by simp [rvClr]) (fun i _ => by simp [rvClr]) rfl rfl])
    have HO0 := Lib.hid hO
    have HN := Lib.hid hn
    clear he hm hg hO hn hD
    go_enter Try.func50, Try.ntmps50
    go_wp2
    go_loopw [5] (fun i w' => ∃ k : Nat, k ≤ 16 ∧ i = .int .i64 k ∧ w'.heap[g]? = some (.cells (rvArr (rvClr D m k) (.slice A D.snaps.length c)) 60 (0, 0)) ∧ w'.ownsRow B 73 35 (.slice A D.snaps.length c) D.snaps.length (rsCells D.snaps) ∧ Step B rvTypes w w') (fun i _ => 16 - (intOf i).toNat)
    case atStart => exact ⟨0, by omega, rfl, HD0.out, HO0.out, Step.refl _ _ _⟩
    case round =>
      obtain ⟨k, hk, rfl, hg, hO, hst⟩ := hrel
      clear HD0 HO0
      have c0 : wr.cell? ⟨g, 0, none⟩ = some (.int .i64 D.size) := cell_of_row _ _ _ _ _ _ hg
      by_cases hlt : k < 16
      · have ct : wr.cell? ⟨g, 1 + k, none⟩ = some (.string (D.texts k)) := by rw [cell_of_row _ _ _ _ _ _ hg]; exact (rvArr_text _ _ hlt).trans (by rw [(clr_at D m k).1])
        have cf : wr.frozen? ⟨g, 1 + k, none⟩ = false := frozen_of_row _ _ _ _ _ hg
        have i16 : (k : Int) < 16 := by omega
        have i0 : (0 : Int) ≤ (k : Int) := by omega
        by_cases q1 : k < D.size
        · have q1' : (k : Int) < (D.size : Int) := by omega
          have q1'' : ¬ (D.size : Int) ≤ (k : Int) := by omega
          by_cases q2 : m ≤ k
          · have q2' : (m : Int) ≤ (k : Int) := by omega
            obtain ⟨_, s1, g1, o1⟩ := rv_store (D := rvClr D m k) (D' := { rvClr D m k with texts := setText (rvClr D m k).texts k (⟨#[]⟩ : ByteArray) }) hB ⟨hok.size, hok.next, hok.few, hok.sizes⟩ hg hO (1 + k) (.string (⟨#[]⟩ : ByteArray)) (rvArr_setText _ _ (by omega) _) rfl
            obtain ⟨_, s2, g2, o2⟩ := rv_store (D := { rvClr D m k with texts := setText (rvClr D m k).texts k (⟨#[]⟩ : ByteArray) }) (D' := { rvClr D m k with texts := setText (rvClr D m k).texts k (⟨#[]⟩ : ByteArray), dirty := setMark (rvClr D m k).dirty k true }) hB ⟨hok.size, hok.next, hok.few, hok.sizes⟩ g1 o1 (17 + k) (.bool true) (rvArr_setDirty _ _ (by omega) _) rfl
            rw [clr_yes D m k _ (by omega)] at g2
            have dt : (wr.setCell ⟨g, 1 + k, none⟩ (.string (⟨#[]⟩ : ByteArray))).cell? ⟨g, 17 + k, none⟩ = some (.bool (D.dirty k)) := by rw [cell_of_row _ _ _ _ _ _ g1]; exact (rvArr_dirty _ _ (by omega)).trans (by rw [← (clr_at D m k).2])
            have df : (wr.setCell ⟨g, 1 + k, none⟩ (.string (⟨#[]⟩ : ByteArray))).frozen? ⟨g, 17 + k, none⟩ = false := frozen_of_row _ _ _ _ _ g1
            have FIN := Lib.hid (And.intro g2 (And.intro o2 (hst.trans (s1.trans s2))))
            clear hg hO g1 o1 s1 s2 g2 o2
            go_wp2
            refine ⟨⟨k + 1, by omega, by go_num, FIN.out.1, FIN.out.2.1, FIN.out.2.2⟩, by simp [intOf]; omega⟩
          · have q2' : ¬ (m : Int) ≤ (k : Int) := by omega
            have hcl := clr_no D m k (.slice A D.snaps.length c) (by omega)
            rw [hcl] at hg
            have HG := Lib.hid hg
            clear hcl hg
            go_wp2
            refine ⟨⟨k + 1, by omega, by go_num, HG.out, hO, hst⟩, by simp [intOf]; omega⟩
        · have q1' : ¬ (k : Int) < (D.size : Int) := by omega
          have q1'' : (D.size : Int) ≤ (k : Int) := by omega
          by_cases q2 : m ≤ k
          · have q2' : (m : Int) ≤ (k : Int) := by omega
            have q3' : ¬ (k : Int) < (m : Int) := by omega
            have hcl := clr_no D m k (.slice A D.snaps.length c) (by omega)
            rw [hcl] at hg
            have HG := Lib.hid hg
            clear hcl hg
            go_wp2
            refine ⟨⟨k + 1, by omega, by go_num, HG.out, hO, hst⟩, by simp [intOf]; omega⟩
          · have q2' : ¬ (m : Int) ≤ (k : Int) := by omega
            have q3' : (k : Int) < (m : Int) := by omega
            obtain ⟨_, s1, g1, o1⟩ := rv_store (D := rvClr D m k) (D' := { rvClr D m k with texts := setText (rvClr D m k).texts k (⟨#[]⟩ : ByteArray) }) hB ⟨hok.size, hok.next, hok.few, hok.sizes⟩ hg hO (1 + k) (.string (⟨#[]⟩ : ByteArray)) (rvArr_setText _ _ (by omega) _) rfl
            obtain ⟨_, s2, g2, o2⟩ := rv_store (D := { rvClr D m k with texts := setText (rvClr D m k).texts k (⟨#[]⟩ : ByteArray) }) (D' := { rvClr D m k with texts := setText (rvClr D m k).texts k (⟨#[]⟩ : ByteArray), dirty := setMark (rvClr D m k).dirty k true }) hB ⟨hok.size, hok.next, hok.few, hok.sizes⟩ g1 o1 (17 + k) (.bool true) (rvArr_setDirty _ _ (by omega) _) rfl
            rw [clr_yes D m k _ (by omega)] at g2
            have dt : (wr.setCell ⟨g, 1 + k, none⟩ (.string (⟨#[]⟩ : ByteArray))).cell? ⟨g, 17 + k, none⟩ = some (.bool (D.dirty k)) := by rw [cell_of_row _ _ _ _ _ _ g1]; exact (rvArr_dirty _ _ (by omega)).trans (by rw [← (clr_at D m k).2])
            have df : (wr.setCell ⟨g, 1 + k, none⟩ (.string (⟨#[]⟩ : ByteArray))).frozen? ⟨g, 17 + k, none⟩ = false := frozen_of_row _ _ _ _ _ g1
            have FIN := Lib.hid (And.intro g2 (And.intro o2 (hst.trans (s1.trans s2))))
            clear hg hO g1 o1 s1 s2 g2 o2
            go_wp2
            refine ⟨⟨k + 1, by omega, by go_num, FIN.out.1, FIN.out.2.1, FIN.out.2.2⟩, by simp [intOf]; omega⟩
      · have hk16 : k = 16 := by omega
        subst hk16
        have fr : wr.frozen? ⟨g, 0, none⟩ = false := frozen_of_row _ _ _ _ _ hg
        obtain ⟨r1, s1, _, _⟩ := rv_store (D := rvClr D m 16) (D' := { rvClr D m 16 with size := m }) hB ⟨by show 1 ≤ m ∧ m ≤ 16; have := HN.out; omega, hok.next, hok.few, hok.sizes⟩ hg hO 0 (.int .i64 m) (rvArr_setSize _ _ _) rfl
        have FIN := Lib.hid (And.intro r1 (hst.trans s1))
        clear hg hO r1 s1
        go_wp2
        go_ret
        exact ⟨rfl, FIN.out.1, FIN.out.2⟩
  · have he : rvResizeE n = 1 := by unfold rvResizeE; rw [if_neg hn]
    have hm : rvResize D n = D := by unfold rvResize; rw [if_neg hn]
    rw [he, hm]
    by_cases h3 : n < 1
    · clear hn he hm
      go_enter Try.func50, Try.ntmps50
      go_wp2
      go_ret
      exact ⟨rfl, hD, Step.refl _ _ _⟩
    · have h4 : 16 < n := by omega
      clear hn he hm
      go_enter Try.func50, Try.ntmps50
      go_wp2
      go_ret
      exact ⟨rfl, hD, Step.refl _ _ _⟩
end Go.Proofs.Ytmcoenndfbgdfaa
