/- Package vdisk: Read, SizeOf. -/
import Derived.Test.YtmcoenndfbgdfaaVd5
namespace Go.Proofs.Ytmcoenndfbgdfaa
open Go.RowKit

theorem posV_neg {o : Option Nat} (h : o = none) : posV o = -1 := by rw [h]; rfl

/-- What Read answers: the number of an error, a text, a number of blocks. -/
def readErr (D : DiskM) (id k : Int) : Int := match posIn D.snaps id with
  | none => 5
  | some i => match D.snaps[i]? with
    | none => 5
    | some s => if 0 ≤ k ∧ k < s.was.size then 0 else 1
def readText (D : DiskM) (id k : Int) : ByteArray := match posIn D.snaps id with
  | none => ByteArray.empty
  | some i => match D.snaps[i]? with
    | none => ByteArray.empty
    | some s => if 0 ≤ k ∧ k < s.was.size then s.was.texts k.toNat else ByteArray.empty
def readSize (D : DiskM) (id k : Int) : Int := match posIn D.snaps id with
  | none => 0
  | some i => match D.snaps[i]? with
    | none => 0
    | some s => if 0 ≤ k ∧ k < s.was.size then s.was.size else 0
def sizeErr (D : DiskM) (id : Int) : Int := match posIn D.snaps id with
  | none => 5
  | some _ => 0
def sizeVal (D : DiskM) (id : Int) : Int := match posIn D.snaps id with
  | none => 0
  | some i => match D.snaps[i]? with
    | none => 0
    | some s => s.was.size

theorem find_none (B g : Nat) (w : World) (D : DiskM) (id : Int) (hD : DiskAt B w g D) (h : posIn D.snaps id = none) :
    Calls Try.prog 54 #[.pointer (some ⟨g, 0, none⟩), .int .i64 id] w fun e w' => e = .returned (.int .i64 (-1)) ∧ Below w.heap.size w w' :=
  (find_any B g w D id hD).mono fun _ _ ⟨he, hb⟩ => ⟨by rw [he, h]; rfl, hb⟩
theorem find_some (B g : Nat) (w : World) (D : DiskM) (id : Int) (i : Nat) (hD : DiskAt B w g D) (h : posIn D.snaps id = some i) :
    Calls Try.prog 54 #[.pointer (some ⟨g, 0, none⟩), .int .i64 id] w fun e w' => e = .returned (.int .i64 i) ∧ Below w.heap.size w w' :=
  (find_any B g w D id hD).mono fun _ _ ⟨he, hb⟩ => ⟨by rw [he, h]; rfl, hb⟩

/-- A snapshot of a disk in memory: where it lies, and its cells. -/
theorem snap_at {B g : Nat} {w : World} {D : DiskM} (hD : DiskAt B w g D) {i : Nat} (hi : i < D.snaps.length) :
    ∃ gb c tv, w.cell? ⟨g, 18, none⟩ = some (.slice (some ⟨gb, 0, none⟩) D.snaps.length c) ∧ (∀ j, j < 20 → w.cell? ⟨gb, i * 20 + j, none⟩ = (sArr D.snaps[i] tv)[j]?) ∧ OwnAr w 0 tv D.snaps[i].touched ∧ gb < w.heap.size := by
  obtain ⟨sv, hg, LS, hL, hO, hT⟩ := hD.mem
  have hlen : LS.length = D.snaps.length := by rw [← hL]; simp
  have c18 : w.cell? ⟨g, 18, none⟩ = some sv := cell_of_row _ _ _ _ _ _ hg
  rcases ownsRow_form hO with ⟨A, c, rfl, h0⟩ | ⟨gb, c, rfl, hp⟩
  · omega
  · obtain ⟨cur, hcur, _⟩ := row_open hO hlen
    refine ⟨gb, c, (LS[i]'(by omega)).2, c18, fun j hj => ?_, ?_, (Array.getElem?_eq_some_iff.1 hcur).1⟩
    · rw [(snap_cell hO hlen i (by omega) j hj).1, ls_get hL i (by omega) hi]
    · rw [ls_get hL i (by omega) hi]; exact hT _ (List.getElem_mem _)

set_option maxHeartbeats 1000000 in
set_option maxRecDepth 100000 in
theorem read_any (B g : Nat) (w : World) (D : DiskM) (id k : Int) (hD : DiskAt B w g D) :
    Calls Try.prog 28 #[.pointer (some ⟨g, 0, none⟩), .int .i64 id, .int .i64 k] w fun e w' => e = .returned (.tuple #[.string (readText D id k), .int .i64 (readSize D id k), errV (readErr D id k)]) ∧ Below w.heap.size w w' := by
  cases hp : posIn D.snaps id with
  | none =>
    have e1 : readText D id k = ByteArray.empty := by unfold readText; rw [hp]
    have e2 : readSize D id k = 0 := by unfold readSize; rw [hp]
    have e3 : readErr D id k = 5 := by unfold readErr; rw [hp]
    rw [e1, e2, e3]
    clear e1 e2 e3
    go_enter Try.func28, Try.ntmps28
    go_wp2_with fail
    ((with_reducible refine (find_none B g _ D id hD hp).mono ?_); rintro e w1 ⟨rfl, hb1⟩)
    go_wp2
    go_ret3
    exact ⟨rfl, hb1⟩
  | some i =>
    obtain ⟨hi, _⟩ := posIn_lt hp
    have hget : D.snaps[i]? = some D.snaps[i] := List.getElem?_eq_getElem hi
    have h5 := hD.ok.few
    have hsz := hD.ok.sizes D.snaps[i] (List.getElem_mem hi)
    by_cases hk : 0 ≤ k ∧ k < D.snaps[i].was.size
    · have e1 : readText D id k = D.snaps[i].was.texts k.toNat := by unfold readText; rw [hp]; simp only [hget]; rw [if_pos hk]
      have e2 : readSize D id k = D.snaps[i].was.size := by unfold readSize; rw [hp]; simp only [hget]; rw [if_pos hk]
      have e3 : readErr D id k = 0 := by unfold readErr; rw [hp]; simp only [hget]; rw [if_pos hk]
      rw [e1, e2, e3]
      obtain ⟨n, rfl⟩ := Int.eq_ofNat_of_zero_le hk.1
      rw [Int.toNat_natCast]
      clear e1 e2 e3 hget
      have hn : n < D.snaps[i].was.size := by omega
      have i1 : (0 : Int) ≤ (n : Int) := by omega
      have i2 : (n : Int) < 16 := by omega
      have j1 : (0 : Int) ≤ (i : Int) := by omega
      have j2 : (i : Int) < (D.snaps.length : Int) := by omega
      go_enter Try.func28, Try.ntmps28
      go_wp2_with fail
      ((with_reducible refine (find_some B g _ D id i hD hp).mono ?_); rintro e w1 ⟨rfl, hb1⟩)
      obtain ⟨gb, c, tv, c18, hc, _, _⟩ := snap_at (hD.below hb1) hi
      have d1 : w1.cell? ⟨gb, i * 20 + 1, none⟩ = some (.int .i64 D.snaps[i].was.size) := hc 1 (by omega)
      have d2 : w1.cell? ⟨gb, i * 20 + 1 + 1 + n, none⟩ = some (.string (D.snaps[i].was.texts n)) := by
        rw [show i * 20 + 1 + 1 + n = i * 20 + (2 + n) by omega, hc (2 + n) (by omega)]; exact sArr_text _ _ (by omega)
      clear hc
      go_wp2_with fail
      ((with_reducible refine (has_yes gb (i * 20 + 1) _ n _ d1 hn).mono ?_); rintro e w2 ⟨rfl, rfl⟩)
      go_wp2
      go_quiet (fail)
      go_wp2
      go_ret3
      exact ⟨rfl, below_drewN hb1 _⟩
    · have e1 : readText D id k = ByteArray.empty := by unfold readText; rw [hp]; simp only [hget]; rw [if_neg hk]
      have e2 : readSize D id k = 0 := by unfold readSize; rw [hp]; simp only [hget]; rw [if_neg hk]
      have e3 : readErr D id k = 1 := by unfold readErr; rw [hp]; simp only [hget]; rw [if_neg hk]
      rw [e1, e2, e3]
      clear e1 e2 e3 hget
      have j1 : (0 : Int) ≤ (i : Int) := by omega
      have j2 : (i : Int) < (D.snaps.length : Int) := by omega
      go_enter Try.func28, Try.ntmps28
      go_wp2_with fail
      ((with_reducible refine (find_some B g _ D id i hD hp).mono ?_); rintro e w1 ⟨rfl, hb1⟩)
      obtain ⟨gb, c, tv, c18, hc, _, _⟩ := snap_at (hD.below hb1) hi
      have d1 : w1.cell? ⟨gb, i * 20 + 1, none⟩ = some (.int .i64 D.snaps[i].was.size) := hc 1 (by omega)
      clear hc
      go_wp2_with fail
      ((with_reducible refine (has_no gb (i * 20 + 1) _ k _ d1 hk).mono ?_); rintro e w2 ⟨rfl, rfl⟩)
      go_wp2
      go_ret3
      exact ⟨rfl, hb1⟩

set_option maxHeartbeats 1000000 in
set_option maxRecDepth 100000 in
theorem sizeOf_any (B g : Nat) (w : World) (D : DiskM) (id : Int) (hD : DiskAt B w g D) :
    Calls Try.prog 30 #[.pointer (some ⟨g, 0, none⟩), .int .i64 id] w fun e w' => e = .returned (.tuple #[.int .i64 (sizeVal D id), errV (sizeErr D id)]) ∧ Below w.heap.size w w' := by
  cases hp : posIn D.snaps id with
  | none =>
    have e2 : sizeVal D id = 0 := by unfold sizeVal; rw [hp]
    have e3 : sizeErr D id = 5 := by unfold sizeErr; rw [hp]
    rw [e2, e3]
    clear e2 e3
    go_enter Try.func30, Try.ntmps30
    go_wp2_with fail
    ((with_reducible refine (find_none B g _ D id hD hp).mono ?_); rintro e w1 ⟨rfl, hb1⟩)
    go_wp2
    go_ret2
    exact ⟨rfl, hb1⟩
  | some i =>
    obtain ⟨hi, _⟩ := posIn_lt hp
    have hget : D.snaps[i]? = some D.snaps[i] := List.getElem?_eq_getElem hi
    have h5 := hD.ok.few
    have e2 : sizeVal D id = D.snaps[i].was.size := by unfold sizeVal; rw [hp]; simp only [hget]
    have e3 : sizeErr D id = 0 := by unfold sizeErr; rw [hp]
    rw [e2, e3]
    clear e2 e3 hget
    have j1 : (0 : Int) ≤ (i : Int) := by omega
    have j2 : (i : Int) < (D.snaps.length : Int) := by omega
    go_enter Try.func30, Try.ntmps30
    go_wp2_with fail
    ((with_reducible refine (find_some B g _ D id i hD hp).mono ?_); rintro e w1 ⟨rfl, hb1⟩)
    obtain ⟨gb, c, tv, c18, hc, _, _⟩ := snap_at (hD.below hb1) hi
    have d1 : w1.cell? ⟨gb, i * 20 + 1, none⟩ = some (.int .i64 D.snaps[i].was.size) := hc 1 (by omega)
    clear hc
    go_wp2
    go_ret2
    exact ⟨rfl, hb1⟩
end Go.Proofs.Ytmcoenndfbgdfaa
