/- The document's tracked disk: NewVDisk, Write, Forget. -/
import Derived.Test.YtmcoenndfbgdfaaRv1
import Derived.Test.YtmcoenndfbgdfaaVd4
namespace Go.Proofs.Ytmcoenndfbgdfaa
open Go.RowKit

def rvNew (n : Nat) : RVm := ⟨n, fun _ => ByteArray.empty, fun _ => false, 0, 1, []⟩
def RvNew (w : World) (n : Int) (e : Ending) (w' : World) : Prop :=
  if 1 ≤ n ∧ n ≤ 16 then ∃ g, e = .returned (.tuple #[.pointer (some ⟨g, 0, none⟩), .int .i64 0]) ∧ RVAt w.heap.size w' g (rvNew n.toNat) ∧ Below w.heap.size w w'
  else e = .returned (.tuple #[.pointer none, .int .i64 1]) ∧ w = w'

set_option maxRecDepth 100000 in
theorem rvNew_any (n : Int) (w : World) (h1 : -9223372036854775808 ≤ n) (h2 : n ≤ 9223372036854775807) :
    Calls Try.prog 24 #[.int .i64 n] w (RvNew w n) := by
  by_cases hn : 1 ≤ n ∧ n ≤ 16
  · obtain ⟨m, rfl⟩ := Int.eq_ofNat_of_zero_le (show 0 ≤ n by omega)
    have hF := heap_alloc_new w (.cells (rvArr (rvNew m) (.slice none 0 0)) 60)
    have HF := Lib.hid (show RvNew w (m : Int) (.returned (.tuple #[.pointer (some ⟨w.heap.size, 0, none⟩), .int .i64 0])) (w.alloc (.cells (rvArr (rvNew m) (.slice none 0 0)) 60)) from by
      unfold RvNew
      rw [if_pos hn]
      refine ⟨w.heap.size, rfl, ⟨Nat.le_refl _, ⟨by show 1 ≤ m ∧ m ≤ 16; omega, by simp [rvNew], by simp [rvNew], by simp [rvNew]⟩, .slice none 0 0, ?_, World.ownsRow_nil _ _ _ _⟩, (Below.refl _ _).alloc (Nat.le_refl _) _⟩
      rw [Int.toNat_natCast]; exact hF)
    clear hF
    have i1 : ¬ (m : Int) < 1 := by omega
    have i2 : ¬ 16 < (m : Int) := by omega
    go_enter Try.func24, Try.ntmps24
    go_wp2
    go_ret2
    exact HF.out
  · have HF := Lib.hid (show RvNew w n (.returned (.tuple #[.pointer none, .int .i64 1])) w from by
      unfold RvNew
      rw [if_neg hn]; exact ⟨rfl, rfl⟩)
    by_cases h3 : n < 1
    · clear hn
      go_enter Try.func24, Try.ntmps24
      go_wp2
      go_ret2
      exact HF.out
    · have h4 : 16 < n := by omega
      clear hn
      go_enter Try.func24, Try.ntmps24
      go_wp2
      go_ret2
      exact HF.out

/-- A store into the disk's own row. -/
theorem rv_store {B g : Nat} {w : World} {D D' : RVm} {A : Option Addr} {c : Nat} (hB : B ≤ g) (hok : D'.Ok) (hg : w.heap[g]? = some (.cells (rvArr D (.slice A D.snaps.length c)) 60 (0, 0))) (hO : w.ownsRow B 73 35 (.slice A D.snaps.length c) D.snaps.length (rsCells D.snaps)) (j : Nat) (u : Value)
    (hs : (rvArr D (.slice A D.snaps.length c)).setIfInBounds j u = rvArr D' (.slice A D.snaps.length c)) (hsn : D'.snaps = D.snaps) :
    RVAt B (w.setCell ⟨g, j, none⟩ u) g D' ∧ Step B rvTypes w (w.setCell ⟨g, j, none⟩ u) ∧ (w.setCell ⟨g, j, none⟩ u).heap[g]? = some (.cells (rvArr D' (.slice A D'.snaps.length c)) 60 (0, 0)) ∧ (w.setCell ⟨g, j, none⟩ u).ownsRow B 73 35 (.slice A D'.snaps.length c) D'.snaps.length (rsCells D'.snaps) := by
  have hst : Step B rvTypes w (w.setCell ⟨g, j, none⟩ u) := (Step.refl B rvTypes w).set hg hB (by decide) u
  have hg' := heap_setCell_same w g j _ _ u hg
  rw [hs] at hg'
  have hO' : (w.setCell ⟨g, j, none⟩ u).ownsRow B 73 35 (.slice A D.snaps.length c) D.snaps.length (rsCells D.snaps) := by
    refine ⟨hO.1, ?_⟩
    rcases hO.2 with h | ⟨gb, cap, cur, hv, hb', hh, r⟩
    · exact .inl h
    · exact .inr ⟨gb, cap, cur, hv, hb', (Below.heap_setCell _ _ _ _ (types_ne hh hg (by decide))).trans hh, r⟩
  rw [← hsn] at hg' hO'
  exact ⟨⟨hB, hok, _, hg', hO'⟩, hst, hg', hO'⟩

theorem rv_row {B g : Nat} {w : World} {D D' : RVm} {A : Option Addr} {c : Nat} (hB : B ≤ g) (hok : D'.Ok) (hg : w.heap[g]? = some (.cells (rvArr D (.slice A D.snaps.length c)) 60 (0, 0))) (hO : w.ownsRow B 73 35 (.slice A D.snaps.length c) D.snaps.length (rsCells D.snaps)) (hsn : D'.snaps = D.snaps) :
    RVAt B (w.setRow g (rvArr D' (.slice A D.snaps.length c))) g D' ∧ Step B rvTypes w (w.setRow g (rvArr D' (.slice A D.snaps.length c))) ∧ (w.setRow g (rvArr D' (.slice A D.snaps.length c))).heap[g]? = some (.cells (rvArr D' (.slice A D'.snaps.length c)) 60 (0, 0)) ∧ (w.setRow g (rvArr D' (.slice A D.snaps.length c))).ownsRow B 73 35 (.slice A D'.snaps.length c) D'.snaps.length (rsCells D'.snaps) := by
  have hst : Step B rvTypes w (w.setRow g (rvArr D' (.slice A D.snaps.length c))) := (Step.refl B rvTypes w).row hg hB (by decide) _
  have hg' := setRow_heap w g _ (rvArr D' (.slice A D.snaps.length c)) _ _ hg
  have hO' : (w.setRow g (rvArr D' (.slice A D.snaps.length c))).ownsRow B 73 35 (.slice A D.snaps.length c) D.snaps.length (rsCells D.snaps) := by
    refine ⟨hO.1, ?_⟩
    rcases hO.2 with h | ⟨gb, cap, cur, hv, hb', hh, r⟩
    · exact .inl h
    · exact .inr ⟨gb, cap, cur, hv, hb', (setRow_other _ _ _ _ (types_ne hh hg (by decide))).trans hh, r⟩
  refine ⟨⟨hB, hok, _, hg', ?_⟩, hst, by rw [hsn]; exact hg', by rw [hsn]; exact hO'⟩
  rw [hsn]; exact hO'

def rvWriteE (D : RVm) (k : Int) (data : ByteArray) : Int := if ¬ (0 ≤ k ∧ k < D.size) then 1 else if 6 < data.size then 2 else 0
def rvWrite (D : RVm) (k : Int) (data : ByteArray) : RVm := if rvWriteE D k data = 0 then { D with texts := setText D.texts k.toNat data, dirty := setMark D.dirty k.toNat true } else D

set_option maxHeartbeats 1000000 in
set_option maxRecDepth 100000 in
theorem rvWrite_any (B g : Nat) (w : World) (D : RVm) (k : Int) (data : ByteArray) (hD : RVAt B w g D) (hdata : data.size ≤ 9223372036854775807) :
    Calls Try.prog 49 #[.pointer (some ⟨g, 0, none⟩), .int .i64 k, .string data] w fun e w' => e = .returned (.int .i64 (rvWriteE D k data)) ∧ RVAt B w' g (rvWrite D k data) ∧ Step B rvTypes w w' := by
  obtain ⟨A, c, hg, hO, _⟩ := rv_form hD
  have hsz := hD.ok.size
  have c0 : w.cell? ⟨g, 0, none⟩ = some (.int .i64 D.size) := cell_of_row _ _ _ _ _ _ hg
  by_cases hk : 0 ≤ k ∧ k < D.size
  · obtain ⟨n, rfl⟩ := Int.eq_ofNat_of_zero_le hk.1
    have i0 : ¬ (n : Int) < 0 := by omega
    have i1 : ¬ (D.size : Int) ≤ (n : Int) := by omega
    by_cases hd : 6 < data.size
    · have he : rvWriteE D n data = 2 := by unfold rvWriteE; rw [if_neg (by simpa using hk), if_pos hd]
      have hm : rvWrite D n data = D := by unfold rvWrite; rw [he]; rfl
      have i6 : (6 : Int) < (data.size : Int) := by omega
      rw [he, hm]
      clear he hm hk hg hO hd
      go_enter Try.func49, Try.ntmps49
      go_wp2
      go_ret
      exact ⟨rfl, hD, Step.refl _ _ _⟩
    · have he : rvWriteE D n data = 0 := by unfold rvWriteE; rw [if_neg (by simpa using hk), if_neg hd]
      have hm : rvWrite D n data = { D with texts := setText D.texts n data, dirty := setMark D.dirty n true } := by unfold rvWrite; rw [he]; rfl
      rw [he, hm]
      have i6 : ¬ (6 : Int) < (data.size : Int) := by omega
      have i16 : (n : Int) < 16 := by omega
      have i17 : (0 : Int) ≤ (n : Int) := by omega
      have ct : w.cell? ⟨g, 1 + n, none⟩ = some (.string (D.texts n)) := by rw [cell_of_row _ _ _ _ _ _ hg]; exact rvArr_text _ _ (by omega)
      have cf : w.frozen? ⟨g, 1 + n, none⟩ = false := frozen_of_row _ _ _ _ _ hg
      obtain ⟨_, s1, g1, o1⟩ := rv_store (D' := { D with texts := setText D.texts n data }) hD.base ⟨hD.ok.size, hD.ok.next, hD.ok.few, hD.ok.sizes⟩ hg hO (1 + n) (.string data) (rvArr_setText _ _ (by omega) _) rfl
      obtain ⟨r2, s2, _, _⟩ := rv_store (D' := { D with texts := setText D.texts n data, dirty := setMark D.dirty n true }) hD.base ⟨hD.ok.size, hD.ok.next, hD.ok.few, hD.ok.sizes⟩ g1 o1 (17 + n) (.bool true) (rvArr_setDirty _ _ (by omega) _) rfl
      have dt : (w.setCell ⟨g, 1 + n, none⟩ (.string data)).cell? ⟨g, 17 + n, none⟩ = some (.bool (D.dirty n)) := by rw [cell_of_row _ _ _ _ _ _ g1]; exact rvArr_dirty _ _ (by omega)
      have df : (w.setCell ⟨g, 1 + n, none⟩ (.string data)).frozen? ⟨g, 17 + n, none⟩ = false := frozen_of_row _ _ _ _ _ g1
      have FIN := Lib.hid (And.intro r2 (s1.trans s2))
      clear he hm hk hg hO hd g1 o1 s1 s2 r2
      go_enter Try.func49, Try.ntmps49
      go_wp2
      go_ret
      exact ⟨rfl, FIN.out.1, FIN.out.2⟩
  · have he : rvWriteE D k data = 1 := by unfold rvWriteE; rw [if_pos hk]
    have hm : rvWrite D k data = D := by unfold rvWrite; rw [he]; rfl
    rw [he, hm]
    by_cases h0 : k < 0
    · clear he hm hg hO hk
      go_enter Try.func49, Try.ntmps49
      go_wp2
      go_ret
      exact ⟨rfl, hD, Step.refl _ _ _⟩
    · have h1 : (D.size : Int) ≤ k := by omega
      clear he hm hg hO hk
      go_enter Try.func49, Try.ntmps49
      go_wp2
      go_ret
      exact ⟨rfl, hD, Step.refl _ _ _⟩

def rvForget (D : RVm) : RVm := { D with time := D.time + 1, dirty := fun _ => false }

set_option maxHeartbeats 1000000 in
set_option maxRecDepth 100000 in
theorem rvForget_any (B g : Nat) (w : World) (D : RVm) (hD : RVAt B w g D) (ht : D.time ≤ 1000000) :
    Calls Try.prog 53 #[.pointer (some ⟨g, 0, none⟩)] w fun e w' => e = .returned (.tuple #[]) ∧ RVAt B w' g (rvForget D) ∧ Step B rvTypes w w' := by
  obtain ⟨A, c, hg, hO, _⟩ := rv_form hD
  have c33 : w.cell? ⟨g, 33, none⟩ = some (.int .i64 D.time) := cell_of_row _ _ _ _ _ _ hg
  have f33 : w.frozen? ⟨g, 33, none⟩ = false := frozen_of_row _ _ _ _ _ hg
  have a1 : IntKind.i64.wrap ((D.time : Int) + 1) = (D.time : Int) + 1 := IntWalk.i64_in _ (by omega)
  obtain ⟨_, s1, g1, o1⟩ := rv_store (D' := { D with time := D.time + 1 }) hD.base ⟨hD.ok.size, hD.ok.next, hD.ok.few, hD.ok.sizes⟩ hg hO 33 (.int .i64 ((D.time : Int) + 1)) (by rw [show (D.time : Int) + 1 = ((D.time + 1 : Nat) : Int) by omega]; rfl) rfl
  have HG := Lib.hid g1
  have HO := Lib.hid o1
  have S1 := Lib.hid s1
  clear hg hO g1 o1 s1
  go_enter Try.func53, Try.ntmps53
  go_wp2_with ((with_reducible refine isStore 35 ?_); refine wpList_store_at rfl 35 _ _ rfl g 17 16 rfl 60 _ (mArr (fun _ => false)) rfl HG.out Try.infoMarks (by simp [rvArr_size]) rfl (mArr_one _) _ (rvArr_spliceM _ _ _) ?_)
  go_end0
  obtain ⟨q1, q2, _, _⟩ := rv_row (D' := rvForget D) hD.base ⟨hD.ok.size, hD.ok.next, hD.ok.few, hD.ok.sizes⟩ HG.out HO.out rfl
  exact ⟨rfl, q1, S1.out.trans q2⟩
end Go.Proofs.Ytmcoenndfbgdfaa
