/- Package disk: how a disk lies in memory; has, step, Sectors, Down, Arm. -/
import Derived.Test.YthhedahfmllnoaaZqRng
import Derived.Laws.CopyOwn
import Derived.Test.YthhedahfmllnoaaZqDkM
/- What a call leaves of memory: below a block all is as it was, and so are all rows of types that are not named. -/
namespace Go.Proofs.Ythhedahfmllnoaa
open Go.RowKit

/-- Memory behind a step: below block B all is as it was, and so are all rows of types that are not named. -/
structure Step (B : Nat) (ts : List TypeId) (w w' : World) : Prop where
  below : Below B w w'
  other : ∀ (k : Nat) (cs : Array Value) (t : TypeId) (fr : Nat × Nat), w.heap[k]? = some (Obj.cells cs t fr) → t ∉ ts → w'.heap[k]? = some (Obj.cells cs t fr)
  rest : ∀ (k : Nat) (o : Obj), w.heap[k]? = some o → (∀ cs t fr, o ≠ .cells cs t fr) → w'.heap[k]? = some o

theorem Step.refl (B : Nat) (ts : List TypeId) (w : World) : Step B ts w w := ⟨Below.refl _ _, fun _ _ _ _ h _ => h, fun _ _ h _ => h⟩
theorem Step.trans {B : Nat} {ts : List TypeId} {a b c : World} (h : Step B ts a b) (k : Step B ts b c) : Step B ts a c :=
  ⟨h.below.trans k.below, fun i cs t fr e ht => k.other i cs t fr (h.other i cs t fr e ht) ht, fun i o e hn => k.rest i o (h.rest i o e hn) hn⟩
theorem Step.of_below {B : Nat} {ts : List TypeId} {a b : World} (h : Below a.heap.size a b) (hB : B ≤ a.heap.size) : Step B ts a b :=
  ⟨h.mono hB, fun k cs t fr e _ => by rw [h.block k (Array.getElem?_eq_some_iff.1 e).1]; exact e, fun k o e _ => by rw [h.block k (Array.getElem?_eq_some_iff.1 e).1]; exact e⟩
theorem Step.alloc {B : Nat} {ts : List TypeId} {a b : World} (h : Step B ts a b) (hB : B ≤ b.heap.size) (o : Obj) : Step B ts a (b.alloc o) :=
  h.trans (Step.of_below ((Below.refl _ _).alloc (Nat.le_refl _) o) hB)
theorem Step.drew {B : Nat} {ts : List TypeId} {a b : World} (h : Step B ts a b) : Step B ts a b.drew := ⟨h.below.drew, h.other, h.rest⟩
theorem Step.drewN {B : Nat} {ts : List TypeId} {a b : World} (h : Step B ts a b) (n : Nat) : Step B ts a (b.drewN n) := ⟨below_drewN h.below n, h.other, h.rest⟩
theorem Step.mono {B B' : Nat} {ts ts' : List TypeId} {a b : World} (h : Step B ts a b) (hB : B' ≤ B) (hts : ∀ t ∈ ts, t ∈ ts') : Step B' ts' a b :=
  ⟨h.below.mono hB, fun k cs t fr e ht => h.other k cs t fr e (fun h => ht (hts t h)), h.rest⟩
theorem Step.size {B : Nat} {ts : List TypeId} {a b : World} (h : Step B ts a b) : a.heap.size ≤ b.heap.size := h.below.size

/-- A store into a row of a named type. -/
theorem Step.set {B : Nat} {ts : List TypeId} {a b : World} (h : Step B ts a b) {g i : Nat} {cs : Array Value} {t : TypeId} {fr : Nat × Nat} (hg : b.heap[g]? = some (.cells cs t fr)) (hB : B ≤ g) (ht : t ∈ ts) (u : Value) : Step B ts a (b.setCell ⟨g, i, none⟩ u) := by
  refine h.trans ⟨(Below.refl _ _).setCell (p := ⟨g, i, none⟩) hB u, fun k cs' t' fr' e ht' => ?_, fun k o e hn => ?_⟩
  · rw [Below.heap_setCell _ _ _ _ (show k ≠ g by rintro rfl; rw [hg] at e; injection e with e; injection e with _ e _; exact ht' (e ▸ ht))]
    exact e
  · rw [Below.heap_setCell _ _ _ _ (show k ≠ g by rintro rfl; rw [hg] at e; injection e with e; exact hn _ _ _ e.symm)]
    exact e
theorem Step.row {B : Nat} {ts : List TypeId} {a b : World} (h : Step B ts a b) {g : Nat} {cs : Array Value} {t : TypeId} {fr : Nat × Nat} (hg : b.heap[g]? = some (.cells cs t fr)) (hB : B ≤ g) (ht : t ∈ ts) (cs' : Array Value) : Step B ts a (b.setRow g cs') := by
  refine h.trans ⟨below_setRow (Below.refl _ _) hB cs', fun k cs' t' fr' e ht' => ?_, fun k o e hn => ?_⟩
  · rw [setRow_other _ _ _ _ (show k ≠ g by rintro rfl; rw [hg] at e; injection e with e; injection e with _ e _; exact ht' (e ▸ ht))]
    exact e
  · rw [setRow_other _ _ _ _ (show k ≠ g by rintro rfl; rw [hg] at e; injection e with e; exact hn _ _ _ e.symm)]
    exact e
theorem Step.grown {B : Nat} {ts : List TypeId} {a b c : World} (h : Step B ts a b) {row : Option Nat} (hg : b.grownBy c row) (hB : B ≤ b.heap.size) (hr : ∀ k, row = some k → B ≤ k ∧ ∃ (cs : Array Value) (t : TypeId) (fr : Nat × Nat), b.heap[k]? = some (Obj.cells cs t fr) ∧ t ∈ ts) : Step B ts a c := by
  refine h.trans ⟨Below.grown (Below.refl _ _) hg hB (fun k e => (hr k e).1), fun k cs t fr e ht => ?_, fun k o e hn => ?_⟩
  · rw [hg.block k (Array.getElem?_eq_some_iff.1 e).1 (fun x => by
      obtain ⟨_, cs', t', fr', e', ht'⟩ := hr k x.symm
      rw [e] at e'; injection e' with e'; injection e' with _ e' _; exact ht (e' ▸ ht'))]
    exact e
  · rw [hg.block k (Array.getElem?_eq_some_iff.1 e).1 (fun x => by
      obtain ⟨_, cs', t', fr', e', ht'⟩ := hr k x.symm
      rw [e] at e'; injection e' with e'; exact hn _ _ _ e')]
    exact e

theorem types_ne {w : World} {g gb : Nat} {cs cs' : Array Value} {t t' : TypeId} {fr fr' : Nat × Nat} (h : w.heap[g]? = some (Obj.cells cs t fr)) (h' : w.heap[gb]? = some (Obj.cells cs' t' fr')) (ht : t ≠ t') : g ≠ gb := by
  rintro rfl; rw [h] at h'; injection h' with h'; injection h' with _ h' _; exact ht h'

theorem ownsRow_form {w : World} {B : Nat} {e : TypeId} {size : Nat} {v : Value} {n : Nat} {xs : List Value} (h : w.ownsRow B e size v n xs) : (∃ A c, v = .slice A 0 c ∧ n = 0) ∨ ∃ gb c, v = .slice (some ⟨gb, 0, none⟩) n c ∧ 0 < n := by
  rcases h.2 with ⟨h', h0⟩ | ⟨g', cap', cur, h', _⟩
  · exact .inl ⟨none, 0, h', h0⟩
  · cases n with
    | zero => exact .inl ⟨_, _, h', rfl⟩
    | succ n => exact .inr ⟨_, _, h', by omega⟩

end Go.Proofs.Ythhedahfmllnoaa

/- Package disk: how a disk lies in memory; has, step, Sectors, Down, Arm. -/
namespace Go.Proofs.Ythhedahfmllnoaa
open Go.RowKit

def dkArr (n gn gd : Nat) (wv : Value) (left : Int) (down : Bool) : Array Value := #[.slice (some ⟨gn, 0, none⟩) n n, .slice (some ⟨gd, 0, none⟩) n n, wv, .int .i64 left, .bool down]
def dkTypes : List TypeId := [68, 88, 90]

/-- The blocks of a disk. -/
structure DkIn (B : Nat) (w : World) (g gn gd : Nat) (wv : Value) (D : DkM) : Prop where
  base : B ≤ g
  row : w.heap[g]? = some (.cells (dkArr D.now.length gn gd wv D.left D.down) 68 (0, 0))
  baseN : B ≤ gn
  baseD : B ≤ gd
  ne : gn ≠ gd
  now : w.heap[gn]? = some (.cells (secs D.now).toArray 88 (0, 0))
  dur : w.heap[gd]? = some (.cells (secs D.dur).toArray 88 (0, 0))
  wr : w.ownsRow B 90 81 wv D.wr.length (wrCells D.wr)

/-- A disk lies at block g. -/
def DkAt (B : Nat) (w : World) (g : Nat) (D : DkM) : Prop := D.Ok ∧ ∃ gn gd wv, DkIn B w g gn gd wv D

theorem own_step {B b0 : Nat} {ts : List TypeId} {w w' : World} {e : TypeId} {size : Nat} {v : Value} {n : Nat} {xs : List Value} (h : w.ownsRow b0 e size v n xs) (hs : Step B ts w w') (ht : e ∉ ts) : w'.ownsRow b0 e size v n xs := by
  obtain ⟨h1, h2⟩ := h
  refine ⟨h1, ?_⟩
  rcases h2 with h2 | ⟨g, cap, cur, hv, hg, hh, r⟩
  · exact .inl h2
  · exact .inr ⟨g, cap, cur, hv, hg, hs.other _ _ _ _ hh ht, r⟩

theorem own_weak {B B' : Nat} {w : World} {e : TypeId} {size : Nat} {v : Value} {n : Nat} {xs : List Value} (h : w.ownsRow B e size v n xs) (hB : B' ≤ B) : w.ownsRow B' e size v n xs := by
  obtain ⟨h1, h2⟩ := h
  refine ⟨h1, ?_⟩
  rcases h2 with h2 | ⟨g, cap, cur, hv, hg, r⟩
  · exact .inl h2
  · exact .inr ⟨g, cap, cur, hv, Nat.le_trans hB hg, r⟩

theorem DkIn.step {B : Nat} {ts : List TypeId} {w w' : World} {g gn gd : Nat} {wv : Value} {D : DkM} (h : DkIn B w g gn gd wv D) {B' : Nat} (hs : Step B' ts w w') (h1 : 68 ∉ ts) (h2 : 88 ∉ ts) (h3 : 90 ∉ ts) : DkIn B w' g gn gd wv D :=
  ⟨h.base, hs.other _ _ _ _ h.row h1, h.baseN, h.baseD, h.ne, hs.other _ _ _ _ h.now h2, hs.other _ _ _ _ h.dur h2, own_step h.wr hs h3⟩
theorem DkAt.step {B : Nat} {ts : List TypeId} {w w' : World} {g : Nat} {D : DkM} (h : DkAt B w g D) {B' : Nat} (hs : Step B' ts w w') (h1 : 68 ∉ ts) (h2 : 88 ∉ ts) (h3 : 90 ∉ ts) : DkAt B w' g D := by
  obtain ⟨ho, gn, gd, wv, hi⟩ := h
  exact ⟨ho, gn, gd, wv, hi.step hs h1 h2 h3⟩
theorem DkAt.below {B : Nat} {w w' : World} {g : Nat} {D : DkM} (h : DkAt B w g D) (hb : Below w.heap.size w w') : DkAt B w' g D :=
  h.step (ts := []) (B' := w.heap.size) (Step.of_below hb (Nat.le_refl _)) (by simp) (by simp) (by simp)
theorem DkAt.drewN {B : Nat} {w : World} {g : Nat} {D : DkM} (h : DkAt B w g D) (n : Nat) : DkAt B (w.drewN n) g D := h.below (below_drewN (Below.refl _ _) n)

theorem DkAt.weak {B B' : Nat} {w : World} {g : Nat} {D : DkM} (h : DkAt B w g D) (hB : B' ≤ B) : DkAt B' w g D := by
  obtain ⟨ho, gn, gd, wv, hi⟩ := h
  exact ⟨ho, gn, gd, wv, Nat.le_trans hB hi.base, hi.row, Nat.le_trans hB hi.baseN, Nat.le_trans hB hi.baseD, hi.ne, hi.now, hi.dur, own_weak hi.wr hB⟩

/-- A store into the row of the disk itself. -/
theorem DkIn.put {B : Nat} {w : World} {g gn gd : Nat} {wv : Value} {D : DkM} (h : DkIn B w g gn gd wv D) (i : Nat) (v : Value) (D' : DkM) (wv' : Value) (hn : D'.now = D.now) (hd : D'.dur = D.dur)
    (hr : (dkArr D.now.length gn gd wv D.left D.down).setIfInBounds i v = dkArr D'.now.length gn gd wv' D'.left D'.down) (hw : w.ownsRow B 90 81 wv' D'.wr.length (wrCells D'.wr)) :
    DkIn B (w.setCell ⟨g, i, none⟩ v) g gn gd wv' D' ∧ Step B dkTypes w (w.setCell ⟨g, i, none⟩ v) := by
  have hs1 : Step B [68] w (w.setCell ⟨g, i, none⟩ v) := (Step.refl B [68] w).set h.row h.base (by simp) v
  have hr' := heap_setCell_same w g i _ _ v h.row
  rw [hr] at hr'
  exact ⟨⟨h.base, hr', h.baseN, h.baseD, h.ne, by rw [hn]; exact hs1.other _ _ _ _ h.now (by decide), by rw [hd]; exact hs1.other _ _ _ _ h.dur (by decide), own_step hw hs1 (by decide)⟩,
    hs1.mono (Nat.le_refl _) (by decide)⟩

theorem dkHas_yes (g n : Nat) (sp : Option Addr) (c : Nat) (k : Nat) (w : World) (c0 : w.cell? ⟨g, 0, none⟩ = some (.slice sp n c)) (hk : k < n) :
    Calls Try.prog 59 #[.pointer (some ⟨g, 0, none⟩), .int .i64 (k : Int)] w fun e w' => e = .returned (.bool true) ∧ w = w' := by
  have i1 : (0 : Int) ≤ (k : Int) := by omega
  have i2 : (k : Int) < (n : Int) := by omega
  go_enter Try.func59, Try.ntmps59
  go_wp2
  go_ret
  exact ⟨rfl, rfl⟩

theorem dkHas_no (g n : Nat) (sp : Option Addr) (c : Nat) (k : Int) (w : World) (c0 : w.cell? ⟨g, 0, none⟩ = some (.slice sp n c)) (hk : ¬ (0 ≤ k ∧ k < n)) :
    Calls Try.prog 59 #[.pointer (some ⟨g, 0, none⟩), .int .i64 k] w fun e w' => e = .returned (.bool false) ∧ w = w' := by
  by_cases h0 : 0 ≤ k
  · have h1 : ¬ k < n := fun h => hk ⟨h0, h⟩
    clear hk
    go_enter Try.func59, Try.ntmps59
    go_wp2
    go_ret
    exact ⟨rfl, rfl⟩
  · clear hk
    go_enter Try.func59, Try.ntmps59
    go_wp2
    go_ret
    exact ⟨rfl, rfl⟩

theorem dkStep_any (B g : Nat) (w : World) (D : DkM) (hD : DkAt B w g D) :
    Calls Try.prog 71 #[.pointer (some ⟨g, 0, none⟩)] w fun e w' => e = .returned (errV (dkStepE D)) ∧ DkAt B w' g (dkStep D) ∧ Step B dkTypes w w' := by
  obtain ⟨hok, gn, gd, wv, hi⟩ := hD
  have c3 : w.cell? ⟨g, 3, none⟩ = some (.int .i64 D.left) := cell_of_row _ _ _ _ _ _ hi.row
  have c4 : w.cell? ⟨g, 4, none⟩ = some (.bool D.down) := cell_of_row _ _ _ _ _ _ hi.row
  have f3 : w.frozen? ⟨g, 3, none⟩ = false := frozen_of_row _ _ _ _ _ hi.row
  have f4 : w.frozen? ⟨g, 4, none⟩ = false := frozen_of_row _ _ _ _ _ hi.row
  have hok' := dkStep_ok hok
  have b1 := hok.lo
  have b2 := hok.hi
  by_cases h0 : D.left = 0
  · have he : dkStepE D = 9 := by unfold dkStepE; rw [if_pos (.inl h0)]
    have hs : dkStep D = { D with down := true } := by unfold dkStep; rw [if_pos h0]
    obtain ⟨q1, q2⟩ := hi.put 4 (.bool true) { D with down := true } wv rfl rfl rfl hi.wr
    rw [he, hs]
    rw [hs] at hok'
    rw [h0] at c3
    have HQ := Lib.hid q1
    clear he hs h0 hi q1 b1 b2
    go_enter Try.func71, Try.ntmps71
    go_wp2
    go_ret
    exact ⟨rfl, ⟨hok', gn, gd, wv, HQ.out⟩, q2⟩
  · have n0 : (D.left == 0) = false := by simpa using h0
    cases hdn : D.down with
    | true =>
      have he : dkStepE D = 9 := by unfold dkStepE; rw [if_pos (.inr hdn)]
      have hs : dkStep D = D := by unfold dkStep; rw [if_neg h0, if_pos hdn]
      rw [he, hs]
      rw [hdn] at c4
      have HQ := Lib.hid hi
      clear he hs h0 hi b1 b2 hdn hok'
      go_enter Try.func71, Try.ntmps71
      go_wp2
      go_ret
      exact ⟨rfl, ⟨hok, gn, gd, wv, HQ.out⟩, Step.refl _ _ _⟩
    | false =>
      have he : dkStepE D = 0 := by unfold dkStepE; rw [if_neg (by simp [h0, hdn])]
      by_cases hp : 0 < D.left
      · have hs : dkStep D = { D with left := D.left - 1 } := by unfold dkStep; rw [if_neg h0, if_neg (by simp [hdn]), if_pos hp]
        obtain ⟨q1, q2⟩ := hi.put 3 (.int .i64 (D.left - 1)) { D with left := D.left - 1 } wv rfl rfl rfl hi.wr
        rw [he, hs]
        rw [hs] at hok'
        rw [hdn] at c4
        have HQ := Lib.hid q1
        generalize D.left = x at *
        clear he hs h0 hi q1 hdn
        go_enter Try.func71, Try.ntmps71
        go_wp2
        go_ret
        exact ⟨rfl, ⟨hok', gn, gd, wv, HQ.out⟩, q2⟩
      · have hs : dkStep D = D := by unfold dkStep; rw [if_neg h0, if_neg (by simp [hdn]), if_neg hp]
        rw [he, hs]
        rw [hdn] at c4
        have HQ := Lib.hid hi
        clear he hs h0 hi hdn hok'
        go_enter Try.func71, Try.ntmps71
        go_wp2
        go_ret
        exact ⟨rfl, ⟨hok, gn, gd, wv, HQ.out⟩, Step.refl _ _ _⟩

theorem dkSectors_any (B g : Nat) (w : World) (D : DkM) (hD : DkAt B w g D) :
    Calls Try.prog 26 #[.pointer (some ⟨g, 0, none⟩)] w fun e w' => e = .returned (.int .i64 (D.now.length : Int)) ∧ w = w' := by
  obtain ⟨hok, gn, gd, wv, hi⟩ := hD
  have c0 : w.cell? ⟨g, 0, none⟩ = some (.slice (some ⟨gn, 0, none⟩) D.now.length D.now.length) := cell_of_row _ _ _ _ _ _ hi.row
  clear hi
  go_enter Try.func26, Try.ntmps26
  go_wp2
  go_ret
  exact ⟨rfl, rfl⟩
end Go.Proofs.Ythhedahfmllnoaa
