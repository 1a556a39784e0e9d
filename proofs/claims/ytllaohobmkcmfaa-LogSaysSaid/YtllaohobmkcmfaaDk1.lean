/- Package disk: how a disk lies in memory; has, step, Sectors, Down, Arm. -/
import Derived.Test.YtllaohobmkcmfaaDkM
import Derived.Test.YtllaohobmkcmfaaStep
namespace Go.Proofs.Ytllaohobmkcmfaa
open Go.RowKit

def dkArr (n gn gd : Nat) (wv : Value) (left : Int) (down : Bool) : Array Value := #[.slice (some ⟨gn, 0, none⟩) n n, .slice (some ⟨gd, 0, none⟩) n n, wv, .int .i64 left, .bool down]
def dkTypes : List TypeId := [65, 69, 71]

/-- The blocks of a disk. -/
structure DkIn (B : Nat) (w : World) (g gn gd : Nat) (wv : Value) (D : DkM) : Prop where
  base : B ≤ g
  row : w.heap[g]? = some (.cells (dkArr D.now.length gn gd wv D.left D.down) 65 (0, 0))
  baseN : B ≤ gn
  baseD : B ≤ gd
  ne : gn ≠ gd
  now : w.heap[gn]? = some (.cells (secs D.now).toArray 69 (0, 0))
  dur : w.heap[gd]? = some (.cells (secs D.dur).toArray 69 (0, 0))
  wr : w.ownsRow B 71 81 wv D.wr.length (wrCells D.wr)

/-- A disk lies at block g. -/
def DkAt (B : Nat) (w : World) (g : Nat) (D : DkM) : Prop := D.Ok ∧ ∃ gn gd wv, DkIn B w g gn gd wv D

theorem own_step {B b0 : Nat} {ts : List TypeId} {w w' : World} {e : TypeId} {size : Nat} {v : Value} {n : Nat} {xs : List Value} (h : w.ownsRow b0 e size v n xs) (hs : Step B ts w w') (ht : e ∉ ts) : w'.ownsRow b0 e size v n xs := by
  obtain ⟨h1, h2⟩ := h
  refine ⟨h1, ?_⟩
  rcases h2 with h2 | ⟨g, cap, cur, hv, hg, hh, r⟩
  · exact .inl h2
  · exact .inr ⟨g, cap, cur, hv, hg, hs.other _ _ _ _ hh ht, r⟩

theorem own_weak {B B' : Nat} {w : World} {e : TypeId} {size : Nat} {v : Value} {n : Nat} {xs : List Value} (h : w.ownsRow B e size v n xs) (hB : B' ≤ B) : w.ownsRow B' e size v n xs := by
  obtain ⟨h1, h2⟩ := h
  refine ⟨h1, ?_⟩
  rcases h2 with h2 | ⟨g, cap, cur, hv, hg, r⟩
  · exact .inl h2
  · exact .inr ⟨g, cap, cur, hv, Nat.le_trans hB hg, r⟩

theorem DkIn.step {B : Nat} {ts : List TypeId} {w w' : World} {g gn gd : Nat} {wv : Value} {D : DkM} (h : DkIn B w g gn gd wv D) {B' : Nat} (hs : Step B' ts w w') (h1 : 65 ∉ ts) (h2 : 69 ∉ ts) (h3 : 71 ∉ ts) : DkIn B w' g gn gd wv D :=
  ⟨h.base, hs.other _ _ _ _ h.row h1, h.baseN, h.baseD, h.ne, hs.other _ _ _ _ h.now h2, hs.other _ _ _ _ h.dur h2, own_step h.wr hs h3⟩
theorem DkAt.step {B : Nat} {ts : List TypeId} {w w' : World} {g : Nat} {D : DkM} (h : DkAt B w g D) {B' : Nat} (hs : Step B' ts w w') (h1 : 65 ∉ ts) (h2 : 69 ∉ ts) (h3 : 71 ∉ ts) : DkAt B w' g D := by
  obtain ⟨ho, gn, gd, wv, hi⟩ := h
  exact ⟨ho, gn, gd, wv, hi.step hs h1 h2 h3⟩
theorem DkAt.below {B : Nat} {w w' : World} {g : Nat} {D : DkM} (h : DkAt B w g D) (hb : Below w.heap.size w w') : DkAt B w' g D :=
  h.step (ts := []) (B' := w.heap.size) ⟨hb, fun k cs t fr e _ => by rw [hb.block k (Array.getElem?_eq_some_iff.1 e).1]; exact e⟩ (by simp) (by simp) (by simp)
theorem DkAt.drewN {B : Nat} {w : World} {g : Nat} {D : DkM} (h : DkAt B w g D) (n : Nat) : DkAt B (w.drewN n) g D := h.below (below_drewN (Below.refl _ _) n)

theorem DkAt.weak {B B' : Nat} {w : World} {g : Nat} {D : DkM} (h : DkAt B w g D) (hB : B' ≤ B) : DkAt B' w g D := by
  obtain ⟨ho, gn, gd, wv, hi⟩ := h
  exact ⟨ho, gn, gd, wv, Nat.le_trans hB hi.base, hi.row, Nat.le_trans hB hi.baseN, Nat.le_trans hB hi.baseD, hi.ne, hi.now, hi.dur, own_weak hi.wr hB⟩

/-- A store into the row of the disk itself. -/
theorem DkIn.put {B : Nat} {w : World} {g gn gd : Nat} {wv : Value} {D : DkM} (h : DkIn B w g gn gd wv D) (i : Nat) (v : Value) (D' : DkM) (wv' : Value) (hn : D'.now = D.now) (hd : D'.dur = D.dur)
    (hr : (dkArr D.now.length gn gd wv D.left D.down).setIfInBounds i v = dkArr D'.now.length gn gd wv' D'.left D'.down) (hw : w.ownsRow B 71 81 wv' D'.wr.length (wrCells D'.wr)) :
    DkIn B (w.setCell ⟨g, i, none⟩ v) g gn gd wv' D' ∧ Step B dkTypes w (w.setCell ⟨g, i, none⟩ v) := by
  have hs1 : Step B [65] w (w.setCell ⟨g, i, none⟩ v) := (Step.refl B [65] w).set h.row h.base (by simp) v
  have hr' := heap_setCell_same w g i _ _ v h.row
  rw [hr] at hr'
  exact ⟨⟨h.base, hr', h.baseN, h.baseD, h.ne, by rw [hn]; exact hs1.other _ _ _ _ h.now (by decide), by rw [hd]; exact hs1.other _ _ _ _ h.dur (by decide), own_step hw hs1 (by decide)⟩,
    hs1.mono (Nat.le_refl _) (by decide)⟩

theorem dkHas_yes (g n : Nat) (sp : Option Addr) (c : Nat) (k : Nat) (w : World) (c0 : w.cell? ⟨g, 0, none⟩ = some (.slice sp n c)) (hk : k < n) :
    Calls Try.prog 24 #[.pointer (some ⟨g, 0, none⟩), .int .i64 (k : Int)] w fun e w' => e = .returned (.bool true) ∧ w = w' := by
  have i1 : (0 : Int) ≤ (k : Int) := by omega
  have i2 : (k : Int) < (n : Int) := by omega
  go_enter Try.func24, Try.ntmps24
  go_wp2
  go_ret
  exact ⟨rfl, rfl⟩

theorem dkHas_no (g n : Nat) (sp : Option Addr) (c : Nat) (k : Int) (w : World) (c0 : w.cell? ⟨g, 0, none⟩ = some (.slice sp n c)) (hk : ¬ (0 ≤ k ∧ k < n)) :
    Calls Try.prog 24 #[.pointer (some ⟨g, 0, none⟩), .int .i64 k] w fun e w' => e = .returned (.bool false) ∧ w = w' := by
  by_cases h0 : 0 ≤ k
  · have h1 : ¬ k < n := fun h => hk ⟨h0, h⟩
    clear hk
    go_enter Try.func24, Try.ntmps24
    go_wp2
    go_ret
    exact ⟨rfl, rfl⟩
  · clear hk
    go_enter Try.func24, Try.ntmps24
    go_wp2
    go_ret
    exact ⟨rfl, rfl⟩

theorem dkStep_any (B g : Nat) (w : World) (D : DkM) (hD : DkAt B w g D) :
    Calls Try.prog 25 #[.pointer (some ⟨g, 0, none⟩)] w fun e w' => e = .returned (errV (dkStepE D)) ∧ DkAt B w' g (dkStep D) ∧ Step B dkTypes w w' := by
  obtain ⟨hok, gn, gd, wv, hi⟩ := hD
  have c3 : w.cell? ⟨g, 3, none⟩ = some (.int .i64 D.left) := cell_of_row _ _ _ _ _ _ hi.row
  have c4 : w.cell? ⟨g, 4, none⟩ = some (.bool D.down) := cell_of_row _ _ _ _ _ _ hi.row
  have f3 : w.frozen? ⟨g, 3, none⟩ = false := frozen_of_row _ _ _ _ _ hi.row
  have f4 : w.frozen? ⟨g, 4, none⟩ = false := frozen_of_row _ _ _ _ _ hi.row
  have hok' := dkStep_ok hok
  have b1 := hok.lo
  have b2 := hok.hi
  by_cases h0 : D.left = 0
  · have he : dkStepE D = 9 := by unfold dkStepE; rw [if_pos (.inl h0)]
    have hs : dkStep D = { D with down := true } := by unfold dkStep; rw [if_pos h0]
    obtain ⟨q1, q2⟩ := hi.put 4 (.bool true) { D with down := true } wv rfl rfl rfl hi.wr
    rw [he, hs]
    rw [hs] at hok'
    rw [h0] at c3
    have HQ := Lib.hid q1
    clear he hs h0 hi q1 b1 b2
    go_enter Try.func25, Try.ntmps25
    go_wp2
    go_ret
    exact ⟨rfl, ⟨hok', gn, gd, wv, HQ.out⟩, q2⟩
  · have n0 : (D.left == 0) = false := by simpa using h0
    cases hdn : D.down with
    | true =>
      have he : dkStepE D = 9 := by unfold dkStepE; rw [if_pos (.inr hdn)]
      have hs : dkStep D = D := by unfold dkStep; rw [if_neg h0, if_pos hdn]
      rw [he, hs]
      rw [hdn] at c4
      have HQ := Lib.hid hi
      clear he hs h0 hi b1 b2 hdn hok'
      go_enter Try.func25, Try.ntmps25
      go_wp2
      go_ret
      exact ⟨rfl, ⟨hok, gn, gd, wv, HQ.out⟩, Step.refl _ _ _⟩
    | false =>
      have he : dkStepE D = 0 := by unfold dkStepE; rw [if_neg (by simp [h0, hdn])]
      by_cases hp : 0 < D.left
      · have hs : dkStep D = { D with left := D.left - 1 } := by unfold dkStep; rw [if_neg h0, if_neg (by simp [hdn]), if_pos hp]
        obtain ⟨q1, q2⟩ := hi.put 3 (.int .i64 (D.left - 1)) { D with left := D.left - 1 } wv rfl rfl rfl hi.wr
        rw [he, hs]
        rw [hs] at hok'
        rw [hdn] at c4
        have HQ := Lib.hid q1
        generalize D.left = x at *
        clear he hs h0 hi q1 hdn
        go_enter Try.func25, Try.ntmps25
        go_wp2
        go_ret
        exact ⟨rfl, ⟨hok', gn, gd, wv, HQ.out⟩, q2⟩
      · have hs : dkStep D = D := by unfold dkStep; rw [if_neg h0, if_neg (by simp [hdn]), if_neg hp]
        rw [he, hs]
        rw [hdn] at c4
        have HQ := Lib.hid hi
        clear he hs h0 hi hdn hok'
        go_enter Try.func25, Try.ntmps25
        go_wp2
        go_ret
        exact ⟨rfl, ⟨hok, gn, gd, wv, HQ.out⟩, Step.refl _ _ _⟩

theorem dkSectors_any (B g : Nat) (w : World) (D : DkM) (hD : DkAt B w g D) :
    Calls Try.prog 10 #[.pointer (some ⟨g, 0, none⟩)] w fun e w' => e = .returned (.int .i64 (D.now.length : Int)) ∧ w = w' := by
  obtain ⟨hok, gn, gd, wv, hi⟩ := hD
  have c0 : w.cell? ⟨g, 0, none⟩ = some (.slice (some ⟨gn, 0, none⟩) D.now.length D.now.length) := cell_of_row _ _ _ _ _ _ hi.row
  clear hi
  go_enter Try.func10, Try.ntmps10
  go_wp2
  go_ret
  exact ⟨rfl, rfl⟩
end Go.Proofs.Ytllaohobmkcmfaa
