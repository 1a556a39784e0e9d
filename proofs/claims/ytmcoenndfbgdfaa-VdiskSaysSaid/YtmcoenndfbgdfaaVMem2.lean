/- Tracked disks in memory: what stores into a snapshot and into the disk itself do. -/
import Derived.Test.YtmcoenndfbgdfaaVd2
namespace Go.Proofs.Ytmcoenndfbgdfaa
open Go.RowKit

abbrev dTypes : List TypeId := [98, 105]

theorem sCells_set (LS : List (SnapM × Value)) (i : Nat) (h : i < LS.length) (j : Nat) (hj : j < 20) (u : Value) (p' : SnapM × Value) (hp : (sArr LS[i].1 LS[i].2).toList.set j u = (sArr p'.1 p'.2).toList) :
    (sCells LS).set (i * 20 + j) u = sCells (LS.set i p') := by
  induction LS generalizing i with
  | nil => simp at h
  | cons a r ih =>
    cases i with
    | zero =>
      simp only [sCells, List.flatMap_cons, Nat.zero_mul, Nat.zero_add, List.set_cons_zero]
      rw [List.set_append_left _ _ (by simp [sArr]; omega)]
      congr 1
    | succ i =>
      simp only [sCells, List.flatMap_cons, List.set_cons_succ]
      rw [List.set_append_right _ _ (by simp [sArr]; omega)]
      congr 1
      have e : (i + 1) * 20 + j - (sArr a.1 a.2).toList.length = i * 20 + j := by simp [sArr]; omega
      rw [e]
      exact ih i (by simpa using h) hp

theorem sCells_get (LS : List (SnapM × Value)) (i : Nat) (h : i < LS.length) (j : Nat) (hj : j < 20) : (sCells LS)[i * 20 + j]? = (sArr LS[i].1 LS[i].2)[j]? := by
  have e := congrArg (fun l => l[j]?) (sCells_at LS i h)
  simp only [List.getElem?_take, List.getElem?_drop, if_pos hj] at e
  rw [e]; simp

/-- A cell of a snapshot. -/
theorem snap_cell {w : World} {B gb n c : Nat} {LS : List (SnapM × Value)} (hO : w.ownsRow B 105 20 (.slice (some ⟨gb, 0, none⟩) n c) n (sCells LS)) (hn : LS.length = n) (i : Nat) (h : i < LS.length) (j : Nat) (hj : j < 20) : w.cell? ⟨gb, i * 20 + j, none⟩ = (sArr LS[i].1 LS[i].2)[j]? ∧ w.frozen? ⟨gb, i * 20 + j, none⟩ = false :=
  ⟨by rw [hO.cellAt (i * 20 + j) (by have : (i + 1) * 20 ≤ n * 20 := Nat.mul_le_mul_right _ (by omega)
                                     omega), sCells_get LS i h j hj], hO.frozenAt _⟩

theorem DiskM.Ok.set {D : DiskM} (h : D.Ok) {i : Nat} {s : SnapM} (h1 : 1 ≤ s.id ∧ s.id ≤ D.last) (h2 : 1 ≤ s.was.size ∧ s.was.size ≤ 16) (h3 : ValidFrom 0 s.touched ∧ s.touched.length ≤ 16) : ({ D with snaps := D.snaps.set i s } : DiskM).Ok :=
  ⟨h.size, h.last, by simpa using h.few, fun x hx => by
    rcases List.mem_or_eq_of_mem_set hx with hx | rfl
    · exact h.ids x hx
    · exact h1, fun x hx => by
    rcases List.mem_or_eq_of_mem_set hx with hx | rfl
    · exact h.sizes x hx
    · exact h2, fun x hx => by
    rcases List.mem_or_eq_of_mem_set hx with hx | rfl
    · exact h.valid x hx
    · exact h3⟩

/-- A store into a snapshot. -/
theorem disk_store {B g gb n c : Nat} {w : World} {D : DiskM} {LS : List (SnapM × Value)} (hB : B ≤ g) (hg : w.heap[g]? = some (.cells (dArr D.now D.last (.slice (some ⟨gb, 0, none⟩) n c)) 98 (0, 0))) (hL : LS.map (·.1) = D.snaps)
    (hO : w.ownsRow B 105 20 (.slice (some ⟨gb, 0, none⟩) n c) n (sCells LS)) (hn : LS.length = n) (hT : ∀ p ∈ LS, OwnAr w 0 p.2 p.1.touched) (i : Nat) (hi : i < LS.length) (j : Nat) (hj : j < 20) (u : Value) (p' : SnapM × Value)
    (hp : (sArr LS[i].1 LS[i].2).toList.set j u = (sArr p'.1 p'.2).toList) (hOk : ({ D with snaps := D.snaps.set i p'.1 } : DiskM).Ok) (hT' : OwnAr w 0 p'.2 p'.1.touched) :
    DiskAt B (w.setCell ⟨gb, i * 20 + j, none⟩ u) g { D with snaps := D.snaps.set i p'.1 } ∧ Step B dTypes w (w.setCell ⟨gb, i * 20 + j, none⟩ u) ∧
      (w.setCell ⟨gb, i * 20 + j, none⟩ u).heap[g]? = some (.cells (dArr D.now D.last (.slice (some ⟨gb, 0, none⟩) n c)) 98 (0, 0)) ∧ (LS.set i p').map (·.1) = D.snaps.set i p'.1 ∧
      (w.setCell ⟨gb, i * 20 + j, none⟩ u).ownsRow B 105 20 (.slice (some ⟨gb, 0, none⟩) n c) n (sCells (LS.set i p')) ∧ (∀ p ∈ LS.set i p', OwnAr (w.setCell ⟨gb, i * 20 + j, none⟩ u) 0 p.2 p.1.touched) := by
  obtain ⟨cur, hcur, hBg, _⟩ := row_open hO hn
  have hne := types_ne hg hcur (by decide)
  have hs : Step B dTypes w (w.setCell ⟨gb, i * 20 + j, none⟩ u) := (Step.refl B dTypes w).set hcur hBg (by decide) u
  have hg' := (Below.heap_setCell w ⟨gb, i * 20 + j, none⟩ u g hne).trans hg
  have hO' := (hO.stored (i * 20 + j) u).1
  rw [sCells_set LS i hi j hj u p' hp] at hO'
  have hL' : (LS.set i p').map (·.1) = D.snaps.set i p'.1 := by rw [List.map_set, hL]
  have hT'' : ∀ p ∈ LS.set i p', OwnAr (w.setCell ⟨gb, i * 20 + j, none⟩ u) 0 p.2 p.1.touched := fun p hp => by
    rcases List.mem_or_eq_of_mem_set hp with hp | rfl
    · exact (hT p hp).step hs (by decide)
    · exact hT'.step hs (by decide)
  have hn' : n = (D.snaps.set i p'.1).length := by rw [List.length_set, ← hL]; simpa using hn.symm
  refine ⟨⟨hB, hOk, _, hg', LS.set i p', hL', ?_, hT''⟩, hs, hg', hL', hO', hT''⟩
  show World.ownsRow _ _ _ _ _ _ _
  rw [← hn']; exact hO'

/-- The disk, behind a step that writes none of its rows. -/
theorem DiskAt.other {B B' g : Nat} {ts : List TypeId} {w w' : World} {D : DiskM} (h : DiskAt B w g D) (hs : Step B' ts w w') (h1 : 98 ∉ ts) (h2 : 105 ∉ ts) (h3 : 76 ∉ ts) : DiskAt B w' g D := by
  obtain ⟨sv, hg, LS, hL, hO, hT⟩ := h.mem
  refine ⟨h.base, h.ok, sv, hs.other _ _ _ _ hg h1, LS, hL, ⟨hO.1, ?_⟩, fun p hp => (hT p hp).step hs h3⟩
  rcases hO.2 with hO2 | ⟨gb, cap, cur, hv, hb, hh, r⟩
  · exact .inl hO2
  · exact .inr ⟨gb, cap, cur, hv, hb, hs.other _ _ _ _ hh h2, r⟩
theorem DiskAt.below {B g : Nat} {w w' : World} {D : DiskM} (h : DiskAt B w g D) (hs : Below w.heap.size w w') : DiskAt B w' g D :=
  h.other (Step.of_below (B := 0) (ts := []) hs (Nat.zero_le _)) (by simp) (by simp) (by simp)
theorem DiskAt.lt {B g : Nat} {w : World} {D : DiskM} (h : DiskAt B w g D) : g < w.heap.size := by
  obtain ⟨sv, hg, _⟩ := h.mem
  exact (Array.getElem?_eq_some_iff.1 hg).1

/-- What is done to the last snapshot. -/
def onLast (f : SnapM → SnapM) : List SnapM → List SnapM
  | [] => []
  | [s] => [f s]
  | s :: t :: r => s :: onLast f (t :: r)

theorem onLast_nil (f : SnapM → SnapM) : onLast f [] = [] := rfl
theorem onLast_pos (f : SnapM → SnapM) {L : List SnapM} {n : Nat} (h : L.length = n + 1) : onLast f L = L.set n (f (L[n]'(by omega))) := by
  induction L generalizing n with
  | nil => simp at h
  | cons s r ih =>
    cases r with
    | nil =>
      obtain rfl : n = 0 := by simpa using h.symm
      rfl
    | cons t r =>
      obtain ⟨k, rfl⟩ : ∃ k, n = k + 1 := ⟨n - 1, by simp at h; omega⟩
      have := ih (n := k) (by simpa using h)
      simp only [onLast, this]
      rfl
theorem onLast_length (f : SnapM → SnapM) (L : List SnapM) : (onLast f L).length = L.length := by
  cases h : L.length with
  | zero => rw [List.length_eq_zero_iff.1 h]; rfl
  | succ n => rw [onLast_pos f h, List.length_set, h]

def addTouch (a : Ar) (s : SnapM) : SnapM := { s with touched := uni s.touched [a] }
def touchM (D : DiskM) (a : Ar) : DiskM := { D with snaps := onLast (addTouch a) D.snaps }
def setForgot (s : SnapM) : SnapM := { s with touched := [], forgot := true }
def forgetM (D : DiskM) : DiskM := { D with snaps := onLast setForgot D.snaps }

theorem touchM_nil {D : DiskM} (a : Ar) (h : D.snaps = []) : touchM D a = D := by cases D; simp only at h; subst h; rfl
theorem forgetM_nil {D : DiskM} (h : D.snaps = []) : forgetM D = D := by cases D; simp only at h; subst h; rfl
theorem touchM_pos {D : DiskM} (a : Ar) {n : Nat} (h : D.snaps.length = n + 1) : touchM D a = { D with snaps := D.snaps.set n (addTouch a (D.snaps[n]'(by omega))) } := by unfold touchM; rw [onLast_pos _ h]
theorem forgetM_pos {D : DiskM} {n : Nat} (h : D.snaps.length = n + 1) : forgetM D = { D with snaps := D.snaps.set n (setForgot (D.snaps[n]'(by omega))) } := by unfold forgetM; rw [onLast_pos _ h]

theorem uni_len16 (l r : List Ar) : (uni l r).length ≤ 16 := areasOf_len _

end Go.Proofs.Ytmcoenndfbgdfaa
