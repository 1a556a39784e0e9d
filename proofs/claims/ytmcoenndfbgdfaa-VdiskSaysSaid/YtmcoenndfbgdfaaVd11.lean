/- Package vdisk: Drop. -/
import Derived.Test.YtmcoenndfbgdfaaVd10
namespace Go.Proofs.Ytmcoenndfbgdfaa
open Go.RowKit

/-- What is known of a snapshot when the next one is dropped. -/
def merge (s t : SnapM) : SnapM := { s with touched := uni s.touched t.touched, forgot := s.forgot || t.forgot }
def dropErr (D : DiskM) (id : Int) : Int := match posIn D.snaps id with
  | none => 5
  | some _ => 0
def dropL (L : List SnapM) (i : Nat) : List SnapM := match i with
  | 0 => L.eraseIdx 0
  | k + 1 => match L[k]?, L[k + 1]? with
    | some s, some t => (L.set k (merge s t)).eraseIdx (k + 1)
    | _, _ => L
def dropM (D : DiskM) (id : Int) : DiskM := match posIn D.snaps id with
  | none => D
  | some i => { D with snaps := dropL D.snaps i }

theorem merge_fin {B g gb k c : Nat} {w w2 : World} {D : DiskM} {LS : List (SnapM × Value)} (hD : DiskAt B w g D) (hg : w.heap[g]? = some (.cells (dArr D.now D.last (.slice (some ⟨gb, 0, none⟩) (k + 1) c)) 98 (0, 0))) (hL : LS.map (·.1) = D.snaps)
    (hO : w.ownsRow B 105 20 (.slice (some ⟨gb, 0, none⟩) (k + 1) c) (k + 1) (sCells LS)) (hn : LS.length = k + 1) (hT : ∀ p ∈ LS, OwnAr w 0 p.2 p.1.touched) (hb : Below w.heap.size w w2)
    (i : Nat) (hi : i < LS.length) (v : Value) (l : List Ar) (f : Bool) (hv : OwnAr w2 0 v l) (hval : ValidFrom 0 l ∧ l.length ≤ 16) :
    DiskAt B ((w2.setCell ⟨gb, i * 20 + 18, none⟩ v).setCell ⟨gb, i * 20 + 19, none⟩ (.bool f)) g { D with snaps := D.snaps.set i { LS[i].1 with touched := l, forgot := f } } ∧ Step B dTypes w ((w2.setCell ⟨gb, i * 20 + 18, none⟩ v).setCell ⟨gb, i * 20 + 19, none⟩ (.bool f)) := by
  obtain ⟨r1, r2, r3, r4, r5, r6⟩ := touch_store hD hg hL hO hn hT hb i hi v l hv hval
  have hlen : (LS.set i ({ LS[i].1 with touched := l }, v)).length = k + 1 := by simpa using hn
  have hget : (LS.set i ({ LS[i].1 with touched := l }, v))[i]'(by omega) = ({ LS[i].1 with touched := l }, v) := by simp
  have hmem : LS[i].1 ∈ D.snaps := by rw [← hL]; exact List.mem_map_of_mem (List.getElem_mem hi)
  have hOk : ({ ({ D with snaps := D.snaps.set i { LS[i].1 with touched := l } } : DiskM) with snaps := (D.snaps.set i { LS[i].1 with touched := l }).set i { LS[i].1 with touched := l, forgot := f } } : DiskM).Ok :=
    r1.ok.set (hD.ok.ids LS[i].1 hmem) (hD.ok.sizes LS[i].1 hmem) hval
  have hv3 : OwnAr (w2.setCell ⟨gb, i * 20 + 18, none⟩ v) 0 v l := r6 ({ LS[i].1 with touched := l }, v) (hget ▸ List.getElem_mem (by omega))
  obtain ⟨q1, q2, _⟩ := disk_store (D := { D with snaps := D.snaps.set i { LS[i].1 with touched := l } }) hD.base r3 r4 r5 hlen r6 i (by omega) 19 (by omega) (.bool f) ({ LS[i].1 with touched := l, forgot := f }, v) (by rw [hget]; rfl) hOk hv3
  refine ⟨?_, r2.trans q2⟩
  have e : (D.snaps.set i { LS[i].1 with touched := l }).set i { LS[i].1 with touched := l, forgot := f } = D.snaps.set i { LS[i].1 with touched := l, forgot := f } := by rw [List.set_set]
  rw [← e]
  exact q1

theorem erase_fin {B g gb n c i : Nat} {w w2 : World} {D : DiskM} {LS : List (SnapM × Value)} (hD : DiskAt B w g D) (hg : w.heap[g]? = some (.cells (dArr D.now D.last (.slice (some ⟨gb, 0, none⟩) n c)) 98 (0, 0))) (hL : LS.map (·.1) = D.snaps) (hn : LS.length = n) (hi : i < n)
    (hO : w.ownsRow B 105 20 (.slice (some ⟨gb, 0, none⟩) n c) n (sCells LS)) (hT : ∀ p ∈ LS, OwnAr w 0 p.2 p.1.touched) (hO2 : w2.ownsRow B 105 20 (.slice (some ⟨gb, 0, none⟩) (n - 1) c) (n - 1) (sCells (LS.eraseIdx i))) (hgr : w.grownBy w2 (some gb)) :
    w2.heap[g]? = some (.cells (dArr D.now D.last (.slice (some ⟨gb, 0, none⟩) n c)) 98 (0, 0)) ∧
    DiskAt B (w2.setCell ⟨g, 18, none⟩ (.slice (some ⟨gb, 0, none⟩) (n - 1) c)) g { D with snaps := D.snaps.eraseIdx i } ∧ Step B dTypes w (w2.setCell ⟨g, 18, none⟩ (.slice (some ⟨gb, 0, none⟩) (n - 1) c)) := by
  obtain ⟨cur, hcur, hBg, _⟩ := row_open hO hn
  have hne := types_ne hg hcur (by decide)
  have h1 : Step B dTypes w w2 := (Step.refl B dTypes w).grown hgr (Nat.le_trans hD.base (Nat.le_of_lt hD.lt)) (fun k hk => by
    injection hk with hk; subst hk
    exact ⟨hBg, cur, _, _, hcur, by decide⟩)
  have hg2 : w2.heap[g]? = some (.cells (dArr D.now D.last (.slice (some ⟨gb, 0, none⟩) n c)) 98 (0, 0)) := (hgr.block g hD.lt (fun e => hne (by injection e))).trans hg
  have hs : Step B dTypes w (w2.setCell ⟨g, 18, none⟩ (.slice (some ⟨gb, 0, none⟩) (n - 1) c)) := h1.set hg2 hD.base (by decide) _
  have hg3 := heap_setCell_same w2 g 18 _ _ (.slice (some ⟨gb, 0, none⟩) (n - 1) c) hg2
  rw [dArr_setSnaps] at hg3
  have hsub : ∀ s ∈ D.snaps.eraseIdx i, s ∈ D.snaps := fun s hs => List.mem_of_mem_eraseIdx hs
  have hlen : (D.snaps.eraseIdx i).length = n - 1 := by
    have : D.snaps.length = n := by rw [← hL]; simpa using hn
    rw [List.length_eraseIdx, if_pos (by omega), this]
  refine ⟨hg2, ⟨hD.base, ⟨hD.ok.size, hD.ok.last, by have h5 := hD.ok.few; have h6 := List.length_eraseIdx_le D.snaps i; exact Nat.le_trans h6 h5, fun s h => hD.ok.ids s (hsub s h), fun s h => hD.ok.sizes s (hsub s h), fun s h => hD.ok.valid s (hsub s h)⟩, _, hg3, LS.eraseIdx i, ?_, ?_, fun p hp => (hT p (List.mem_of_mem_eraseIdx hp)).step hs (by decide)⟩, hs⟩
  · show (LS.eraseIdx i).map (·.1) = D.snaps.eraseIdx i
    rw [← hL, List.eraseIdx_eq_take_drop_succ, List.eraseIdx_eq_take_drop_succ, List.map_append, List.map_take, List.map_drop]
  · show World.ownsRow _ _ _ _ _ _ _
    rw [hlen]
    refine ⟨hO2.1, ?_⟩
    rcases hO2.2 with h | ⟨g', cap', cur', hv, hb', hh, r⟩
    · exact .inl h
    · exact .inr ⟨g', cap', cur', hv, hb', (Below.heap_setCell _ _ _ _ (types_ne hh hg2 (by decide))).trans hh, r⟩

def DropStep (B g : Nat) (D : DiskM) (w : World) (e : Ending) (w' : World) : Prop := e = .returned (.tuple #[]) ∧ DiskAt B w' g D ∧ Step B dTypes w w'

theorem extend_disk {B g gb n c k : Nat} {w : World} {D : DiskM} {LS : List (SnapM × Value)} (hD : DiskAt B w g D) (hg : w.heap[g]? = some (.cells (dArr D.now D.last (.slice (some ⟨gb, 0, none⟩) n c)) 98 (0, 0))) (hL : LS.map (·.1) = D.snaps)
    (hO : w.ownsRow B 105 20 (.slice (some ⟨gb, 0, none⟩) n c) n (sCells LS)) (hn : LS.length = n) (hT : ∀ p ∈ LS, OwnAr w 0 p.2 p.1.touched) (hk : k + 1 < LS.length) (hk' : k + 1 < D.snaps.length) (W : World) (hW : w = W) :
    Calls Try.prog 59 #[.pointer (some ⟨gb, k * 20, none⟩), .agg (sArr LS[k + 1].1 LS[k + 1].2)] W (DropStep B g { D with snaps := D.snaps.set k (merge D.snaps[k] D.snaps[k + 1]) } W) := by
  subst hW
  obtain ⟨q, rfl⟩ : ∃ q, n = q + 1 := ⟨n - 1, by omega⟩
  obtain ⟨A, c1, e1, m1, _⟩ := (hT LS[k] (List.getElem_mem (by omega))).at_
  obtain ⟨A', c1', e1', m1', _⟩ := (hT LS[k + 1] (List.getElem_mem hk)).at_
  obtain ⟨t1, t2⟩ := snap_cell hO hn k (by omega) 18 (by omega)
  obtain ⟨s1, s2⟩ := snap_cell hO hn k (by omega) 19 (by omega)
  have hm : LS[k].1 ∈ D.snaps := by rw [← hL]; exact List.mem_map_of_mem (List.getElem_mem (by omega))
  have hm' : LS[k + 1].1 ∈ D.snaps := by rw [← hL]; exact List.mem_map_of_mem (List.getElem_mem (by omega))
  have v := hD.ok.valid _ hm
  have v' := hD.ok.valid _ hm'
  have t1' : w.cell? ⟨gb, k * 20 + 18, none⟩ = some (.slice A LS[k].1.touched.length c1) := by rw [← e1]; exact t1
  have hx := extend_any w gb (k * 20) A A' c1 c1' LS[k].1.touched LS[k].1.forgot LS[k + 1].1 m1 m1' v.2 v'.2 v.1 v'.1 t1' t2 s1 s2
  rw [← e1'] at hx
  refine hx.mono ?_
  rintro e w' ⟨rfl, w2, u, m, hu, hb, rfl⟩
  obtain ⟨r1, r2⟩ := merge_fin hD hg hL hO hn hT hb k (by omega) u _ (LS[k].1.forgot || LS[k + 1].1.forgot) hu ⟨uni_valid _ _, uni_len16 _ _⟩
  have e2 : D.snaps[k] = LS[k].1 := ls_get hL k (by omega) (by omega)
  have e3 : D.snaps[k + 1] = LS[k + 1].1 := ls_get hL (k + 1) (by omega) (by omega)
  refine ⟨rfl, ?_, r2.drewN _⟩
  rw [e2, e3]
  exact r1.below (below_drewN (Below.refl _ _) _)

theorem find_succ (B g : Nat) (w : World) (D : DiskM) (id : Int) (i : Nat) (hD : DiskAt B w g D) (h : posIn D.snaps id = some (i + 1)) :
    Calls Try.prog 54 #[.pointer (some ⟨g, 0, none⟩), .int .i64 id] w fun e w' => e = .returned (.int .i64 ((i : Int) + 1)) ∧ Below w.heap.size w w' :=
  (find_some B g w D id (i + 1) hD h).mono fun _ _ ⟨he, hb⟩ => ⟨by rw [he]; rfl, hb⟩

/-- Delete of a disk's snapshot, and the store behind it. -/
theorem delete_disk {B g : Nat} {w : World} {D : DiskM} (hD : DiskAt B w g D) {i : Nat} (hi : i < D.snaps.length) :
    ∃ gb c, w.cell? ⟨g, 18, none⟩ = some (.slice (some ⟨gb, 0, none⟩) D.snaps.length c) ∧ ∀ (j : Int), j = i → ∀ k, k = j + 1 → ∀ W, w = W →
      Calls Try.prog 60 #[.slice (some ⟨gb, 0, none⟩) D.snaps.length c, .int .i64 j, .int .i64 k] W fun e w2 => e = .returned (.slice (some ⟨gb, 0, none⟩) (D.snaps.length - 1) c) ∧
        w2.cell? ⟨g, 18, none⟩ = some (.slice (some ⟨gb, 0, none⟩) D.snaps.length c) ∧ w2.frozen? ⟨g, 18, none⟩ = false ∧ DiskAt B (w2.setCell ⟨g, 18, none⟩ (.slice (some ⟨gb, 0, none⟩) (D.snaps.length - 1) c)) g { D with snaps := D.snaps.eraseIdx i } ∧ Step B dTypes W (w2.setCell ⟨g, 18, none⟩ (.slice (some ⟨gb, 0, none⟩) (D.snaps.length - 1) c)) := by
  obtain ⟨sv, hg, LS, hL, hO, hT⟩ := hD.mem
  have hlen : LS.length = D.snaps.length := by rw [← hL]; simp
  have c18 : w.cell? ⟨g, 18, none⟩ = some sv := cell_of_row _ _ _ _ _ _ hg
  rcases ownsRow_form hO with ⟨A, c, rfl, h0⟩ | ⟨gb, c, rfl, hp⟩
  · omega
  · refine ⟨gb, c, c18, fun j hj k hk W hW => ?_⟩
    subst hW hk hj
    refine (delete_any B gb D.snaps.length c i w LS hlen hD.ok.few hi (fun p hp => by obtain ⟨A, k, e, _⟩ := (hT p hp).at_; exact ⟨A, _, k, e⟩) hO).mono ?_
    rintro e w2 ⟨rfl, hO2, hgr⟩
    obtain ⟨r1, r2, r3⟩ := erase_fin hD hg hL hlen hi hO hT hO2 hgr
    exact ⟨rfl, cell_of_row _ _ _ _ _ _ r1, frozen_of_row _ _ _ _ _ r1, r2, r3⟩
end Go.Proofs.Ytmcoenndfbgdfaa
