/- Package vdisk: Resize. -/
import Derived.Test.YtmcoenndfbgdfaaVd4
namespace Go.Proofs.Ytmcoenndfbgdfaa
open Go.RowKit

theorem zero_texts (n : Nat) : Builtin.zeroCells #[Value.string ByteArray.empty] n = Array.replicate n (Value.string ByteArray.empty) := by
  unfold Builtin.zeroCells
  apply Array.ext_getElem?
  intro i
  by_cases hi : i < n
  · simp [hi, Nat.mod_one]
  · rw [Array.getElem?_eq_none (by simp; omega), Array.getElem?_eq_none (by simp; omega)]

theorem dArr_clear (c : Cont) (l : Nat) (sv : Value) {lo hi : Nat} (h1 : lo ≤ hi) (h2 : hi ≤ 16) :
    splice (dArr c l sv) (1 + lo) (Builtin.zeroCells #[Value.string ByteArray.empty] (hi - lo)) = dArr { c with texts := clearText c.texts lo hi } l sv := by
  rw [zero_texts]
  unfold splice
  apply Array.ext_getElem?
  intro i
  simp only [List.getElem?_toArray, Array.size_replicate, Array.toList_replicate]
  by_cases hi0 : i < 1 + lo
  · rw [List.append_assoc, List.getElem?_append_left (by simp [dArr_size]; omega), List.getElem?_take, if_pos hi0]
    rcases Nat.eq_zero_or_pos i with rfl | hp
    · rfl
    · obtain ⟨j, rfl⟩ : ∃ j, i = 1 + j := ⟨i - 1, by omega⟩
      rw [dArr_text _ _ _ (by omega)]
      have := dArr_text c l sv (i := j) (by omega)
      rw [← Array.getElem?_toList] at this
      rw [this]
      show _ = some (Value.string (clearText c.texts lo hi j))
      rw [show clearText c.texts lo hi j = c.texts j by simp [clearText]; omega]
  · by_cases hi1 : i < 1 + hi
    · obtain ⟨j, rfl⟩ : ∃ j, i = 1 + j := ⟨i - 1, by omega⟩
      rw [List.append_assoc, List.getElem?_append_right (by simp [dArr_size]; omega), List.getElem?_append_left (by simp [dArr_size]; omega), dArr_text _ _ _ (by omega)]
      rw [List.getElem?_replicate, if_pos (by simp [dArr_size]; omega)]
      show _ = some (Value.string (clearText c.texts lo hi j))
      rw [show clearText c.texts lo hi j = ByteArray.empty by simp [clearText]; omega]
    · rw [List.append_assoc, List.getElem?_append_right (by simp [dArr_size]; omega), List.getElem?_append_right (by simp [dArr_size]; omega), List.getElem?_drop]
      have e : 1 + lo + (hi - lo) + (i - (List.take (1 + lo) (dArr c l sv).toList).length - (List.replicate (hi - lo) (Value.string ByteArray.empty)).length) = i := by simp [dArr_size]; omega
      rw [e]
      by_cases hi2 : i < 17
      · obtain ⟨j, rfl⟩ : ∃ j, i = 1 + j := ⟨i - 1, by omega⟩
        rw [dArr_text _ _ _ (by omega)]
        have := dArr_text c l sv (i := j) (by omega)
        rw [← Array.getElem?_toList] at this
        rw [this]
        show _ = some (Value.string (clearText c.texts lo hi j))
        rw [show clearText c.texts lo hi j = c.texts j by simp [clearText]; omega]
      · by_cases hi3 : i < 19
        · have : i = 17 ∨ i = 18 := by omega
          rcases this with rfl | rfl <;> rfl
        · rw [List.getElem?_eq_none (by simp [dArr_size]; omega), Array.getElem?_eq_none (by simp [dArr_size]; omega)]

/-- Resize: the number of its error, and the disk behind it. -/
def resizeErr (n : Int) : Int := if 1 ≤ n ∧ n ≤ 16 then 0 else 1
def resizeTo (D : DiskM) (n : Nat) : DiskM :=
  if n = D.now.size then D
  else touchM { D with now := ⟨n, clearText D.now.texts (min n D.now.size) (max n D.now.size)⟩ } ((min n D.now.size : Nat), ((max n D.now.size : Nat) : Int) - (min n D.now.size : Nat))
def resizeM (D : DiskM) (n : Int) : DiskM := if 1 ≤ n ∧ n ≤ 16 then resizeTo D n.toNat else D

theorem zeroString (w : World) : (zeroValue 9).run Try.prog w = .ok (.string ByteArray.empty) w := by kernel_rfl

/-- The texts cleared and the size stored. -/
theorem resize_mem {B g : Nat} {w : World} {D : DiskM} (hD : DiskAt B w g D) {lo hi n : Nat} (hn : 1 ≤ n ∧ n ≤ 16) (sv : Value) (hg : w.heap[g]? = some (.cells (dArr D.now D.last sv) 98 (0, 0))) :
    DiskAt B ((w.setRow g (dArr { D.now with texts := clearText D.now.texts lo hi } D.last sv)).setCell ⟨g, 0, none⟩ (.int .i64 n)) g { D with now := ⟨n, clearText D.now.texts lo hi⟩ } ∧
      Step B dTypes w ((w.setRow g (dArr { D.now with texts := clearText D.now.texts lo hi } D.last sv)).setCell ⟨g, 0, none⟩ (.int .i64 n)) := by
  obtain ⟨sv', hg', LS, hL, hO, hT⟩ := hD.mem
  have esv : sv' = sv := by
    rw [hg] at hg'; injection hg' with e; injection e with e _ _
    have := congrArg (fun a : Array Value => a[18]?) e
    simpa [dArr] using this.symm
  subst esv
  have hs1 : Step B dTypes w (w.setRow g (dArr { D.now with texts := clearText D.now.texts lo hi } D.last sv')) := (Step.refl B dTypes w).row hg hD.base (by decide) _
  have hg1 := setRow_heap w g _ (dArr { D.now with texts := clearText D.now.texts lo hi } D.last sv') _ _ hg
  have hs := hs1.set (i := 0) hg1 hD.base (by decide) (.int .i64 n)
  have hg2 := heap_setCell_same _ g 0 _ _ (.int .i64 (n : Int)) hg1
  rw [dArr_setSize] at hg2
  refine ⟨⟨hD.base, ⟨hn, hD.ok.last, hD.ok.few, hD.ok.ids, hD.ok.sizes, hD.ok.valid⟩, sv', hg2, LS, hL, ⟨hO.1, ?_⟩, fun p hp => (hT p hp).step hs (by decide)⟩, hs⟩
  rcases hO.2 with h | ⟨g', cap, cur, hv, hb', hh, r⟩
  · exact .inl h
  · have hne := types_ne hh hg (by decide)
    exact .inr ⟨g', cap, cur, hv, hb', (Below.heap_setCell _ _ _ _ hne).trans ((setRow_other _ _ _ _ hne).trans hh), r⟩

set_option maxHeartbeats 2000000 in
set_option maxRecDepth 100000 in
theorem resize_any (B g : Nat) (w : World) (D : DiskM) (n : Int) (hD : DiskAt B w g D) :
    Calls Try.prog 46 #[.pointer (some ⟨g, 0, none⟩), .int .i64 n] w fun e w' => e = .returned (errV (resizeErr n)) ∧ DiskAt B w' g (resizeM D n) ∧ Step B dTypes w w' := by
  obtain ⟨sv, hg, _⟩ := hD.mem
  have hlt := (Array.getElem?_eq_some_iff.1 hg).1
  have hsz := hD.ok.size
  have c0 : w.cell? ⟨g, 0, none⟩ = some (.int .i64 D.now.size) := cell_of_row _ _ _ _ _ _ hg
  by_cases hn : 1 ≤ n ∧ n ≤ 16
  · have he : resizeErr n = 0 := by unfold resizeErr; rw [if_pos hn]
    have hm : resizeM D n = resizeTo D n.toNat := by unfold resizeM; rw [if_pos hn]
    rw [he, hm]
    clear he hm
    obtain ⟨k, rfl⟩ := Int.eq_ofNat_of_zero_le (show 0 ≤ n by omega)
    rw [Int.toNat_natCast]
    have hk : 1 ≤ k ∧ k ≤ 16 := by omega
    rcases Nat.lt_trichotomy k D.now.size with hlt' | heq | hgt
    · have hr : resizeTo D k = touchM { D with now := ⟨k, clearText D.now.texts k D.now.size⟩ } ((k : Nat), (D.now.size : Int) - (k : Nat)) := by
        unfold resizeTo; rw [if_neg (by omega), show min k D.now.size = k by omega, show max k D.now.size = D.now.size by omega]
      rw [hr]
      clear hr
      have i1 : (0 : Int) ≤ (k : Int) := by omega
      have i2 : (k : Int) ≤ (D.now.size : Int) := by omega
      have i3 : (D.now.size : Int) ≤ 16 := by omega
      have i4 : ((k : Int) == (D.now.size : Int)) = false := by simp; omega
      have e0 : ∀ m, ((w.drewN m).setRow g (dArr { D.now with texts := clearText D.now.texts k D.now.size } D.last sv)).cell? ⟨g, 0, none⟩ = some (.int .i64 D.now.size) := fun m => cell_setRow_same (w.drewN m) g 0 _ _ _ _ hg
      have e1 : ∀ m, ((w.drewN m).setRow g (dArr { D.now with texts := clearText D.now.texts k D.now.size } D.last sv)).frozen? ⟨g, 0, none⟩ = false := fun m => frozen_of_row _ _ _ _ _ (setRow_heap (w.drewN m) g _ _ _ _ hg)
      have FIN := Lib.hid (fun m => resize_mem (w := w.drewN m) (lo := k) (hi := D.now.size) (n := k) (hD.below (below_drewN (Below.refl _ _) m)) hk sv hg)
      go_enter Try.func46, Try.ntmps46
      go_wp2_with fail
      ((with_reducible refine (isSize_yes _ _ hn).mono ?_); rintro e w1 ⟨rfl, rfl⟩)
      go_wp2_with fail
      go_quiet (fail)
      go_wp2_with ((with_reducible refine isClear ?_); refine wpList_clear rfl 111 _ rfl g (1 + k) (D.now.size - k) (16 - k) rfl (by omega) 9 _ Try.underlying111 (zeroString _) 98 (dArr D.now D.last sv) hg (by rw [show (Value.string ByteArray.empty).cells = #[Value.string ByteArray.empty] from rfl, zero_texts, dArr_size]; simp; omega) (by rw [show (Value.string ByteArray.empty).cells = #[Value.string ByteArray.empty] from rfl, zero_texts]; intro v hv; simp at hv; rw [hv.2]; rfl) _ (dArr_clear _ _ _ (by omega) (by omega)) ?_)
      obtain ⟨hD1, hs1⟩ := FIN.out nq
      ((with_reducible refine (touch_any B g _ _ _ _ hD1 i1 (by omega) (by omega)).mono ?_); rintro e w2 ⟨rfl, hD2, hs2⟩)
      go_wp2
      go_ret
      exact ⟨rfl, hD2, ((Step.refl _ _ _).drewN _).trans (hs1.trans hs2)⟩
    · have hr : resizeTo D k = D := by unfold resizeTo; rw [if_pos heq]
      rw [hr]
      clear hr
      subst heq
      go_enter Try.func46, Try.ntmps46
      go_wp2_with fail
      ((with_reducible refine (isSize_yes _ _ hn).mono ?_); rintro e w1 ⟨rfl, rfl⟩)
      go_wp2_with fail
      go_quiet (fail)
      go_wp2
      all_goals
        go_ret
        exact ⟨rfl, hD.below (below_drewN (Below.refl _ _) _), (Step.refl _ _ _).drewN _⟩
    · have hr : resizeTo D k = touchM { D with now := ⟨k, clearText D.now.texts D.now.size k⟩ } ((D.now.size : Nat), (k : Int) - (D.now.size : Nat)) := by
        unfold resizeTo; rw [if_neg (by omega), show min k D.now.size = D.now.size by omega, show max k D.now.size = k by omega]
      rw [hr]
      clear hr
      have i1 : (0 : Int) ≤ (D.now.size : Int) := by omega
      have i2 : (D.now.size : Int) ≤ (k : Int) := by omega
      have i3 : (k : Int) ≤ 16 := by omega
      have i4 : ((D.now.size : Int) == (k : Int)) = false := by simp; omega
      have e0 : ∀ m, ((w.drewN m).setRow g (dArr { D.now with texts := clearText D.now.texts D.now.size k } D.last sv)).cell? ⟨g, 0, none⟩ = some (.int .i64 D.now.size) := fun m => cell_setRow_same (w.drewN m) g 0 _ _ _ _ hg
      have e1 : ∀ m, ((w.drewN m).setRow g (dArr { D.now with texts := clearText D.now.texts D.now.size k } D.last sv)).frozen? ⟨g, 0, none⟩ = false := fun m => frozen_of_row _ _ _ _ _ (setRow_heap (w.drewN m) g _ _ _ _ hg)
      have FIN := Lib.hid (fun m => resize_mem (w := w.drewN m) (lo := D.now.size) (hi := k) (n := k) (hD.below (below_drewN (Below.refl _ _) m)) hk sv hg)
      go_enter Try.func46, Try.ntmps46
      go_wp2_with fail
      ((with_reducible refine (isSize_yes _ _ hn).mono ?_); rintro e w1 ⟨rfl, rfl⟩)
      go_wp2_with fail
      go_quiet (fail)
      go_wp2_with ((with_reducible refine isClear ?_); refine wpList_clear rfl 111 _ rfl g (1 + D.now.size) (k - D.now.size) (16 - D.now.size) rfl (by omega) 9 _ Try.underlying111 (zeroString _) 98 (dArr D.now D.last sv) hg (by rw [show (Value.string ByteArray.empty).cells = #[Value.string ByteArray.empty] from rfl, zero_texts, dArr_size]; simp; omega) (by rw [show (Value.string ByteArray.empty).cells = #[Value.string ByteArray.empty] from rfl, zero_texts]; intro v hv; simp at hv; rw [hv.2]; rfl) _ (dArr_clear _ _ _ (by omega) (by omega)) ?_)
      obtain ⟨hD1, hs1⟩ := FIN.out nq
      ((with_reducible refine (touch_any B g _ _ _ _ hD1 i1 (by omega) (by omega)).mono ?_); rintro e w2 ⟨rfl, hD2, hs2⟩)
      go_wp2
      go_ret
      exact ⟨rfl, hD2, ((Step.refl _ _ _).drewN _).trans (hs1.trans hs2)⟩
  · have he : resizeErr n = 1 := by unfold resizeErr; rw [if_neg hn]
    have hm : resizeM D n = D := by unfold resizeM; rw [if_neg hn]
    rw [he, hm]
    clear he hm
    go_enter Try.func46, Try.ntmps46
    go_wp2_with fail
    ((with_reducible refine (isSize_no _ _ hn).mono ?_); rintro e w1 ⟨rfl, rfl⟩)
    go_wp2
    go_ret
    exact ⟨rfl, hD, Step.refl _ _ _⟩
end Go.Proofs.Ytmcoenndfbgdfaa
