/- The document's tracked disk: Snap. -/
import Derived.Test.YtmcoenndfbgdfaaRv4
import Derived.Test.YtmcoenndfbgdfaaVd6
import Derived.Test.YtmcoenndfbgdfaaRng
import Derived.Deep.RegionHeld3
import Derived.Deep.AppendLies
namespace Go.Proofs.Ytmcoenndfbgdfaa
open Go.RowKit

def newRSn (D : RVm) : RSn := ⟨D.next, D.time, D.size, D.texts, D.dirty⟩
def rvSnapE (D : RVm) : Int := if D.snaps.length = 5 ∨ 999 < D.next then 8 else 0
def rvSnap (D : RVm) : RVm := if rvSnapE D = 0 then { D with next := D.next + 1, dirty := fun _ => false, snaps := D.snaps ++ [newRSn D] } else D
theorem Try.infoRSnZ : (Try.prog.info? 73).map (fun i => (i.zero, i.size, i.bytes)) = some (some (.agg (rsArr ⟨0, 0, 0, fun _ => ByteArray.empty, fun _ => false⟩)), 35, 296) := by kernel_rfl

theorem Try.infoTexts16 : (Try.prog.info? 57).map (·.size) = some 16 := by kernel_rfl
def RvS (g : Nat) (D : RVm) (w' : World) : Prop := w'.cell? ⟨g, 34, none⟩ = some (.int .i64 D.next) ∧ w'.cell? ⟨g, 33, none⟩ = some (.int .i64 D.time) ∧ w'.cell? ⟨g, 0, none⟩ = some (.int .i64 D.size) ∧ w'.rangeAt g 1 (txtArr D.texts).toList ∧ w'.rangeAt g 17 (mArr D.dirty).toList
theorem rvS_of {g : Nat} {D : RVm} {w' : World} {sv : Value} (h : w'.heap[g]? = some (.cells (rvArr D sv) 60 (0, 0))) : RvS g D w' := by
  refine ⟨cell_of_row _ _ _ _ _ _ h, cell_of_row _ _ _ _ _ _ h, cell_of_row _ _ _ _ _ _ h, range_of_row h (fun j v hj => ?_), range_of_row h (fun j v hj => ?_)⟩
  · have hj16 : j < 16 := by have := (List.getElem?_eq_some_iff.1 hj).1; simpa [txtArr] using this
    rw [rvArr_text _ _ hj16]
    rw [← hj]
    rcases cases16 hj16 with rfl | rfl | rfl | rfl | rfl | rfl | rfl | rfl | rfl | rfl | rfl | rfl | rfl | rfl | rfl | rfl <;> rfl
  · have hj16 : j < 16 := by have := (List.getElem?_eq_some_iff.1 hj).1; simpa [mArr] using this
    rw [rvArr_dirty _ _ hj16]
    rw [← hj]
    rcases cases16 hj16 with rfl | rfl | rfl | rfl | rfl | rfl | rfl | rfl | rfl | rfl | rfl | rfl | rfl | rfl | rfl | rfl <;> rfl
theorem rvSnap_fin {B g gg cap c : Nat} {w w2 : World} {o : Obj} {D : RVm} {A : Option Addr} (hD : RVAt B w g D) (hg : w.heap[g]? = some (.cells (rvArr D (.slice A D.snaps.length c)) 60 (0, 0)))
    (hO : w.ownsRow B 73 35 (.slice A D.snaps.length c) D.snaps.length (rsCells D.snaps)) (hfew : D.snaps.length < 5)
    (hgrow : ((w.alloc o).drew).grownBy w2 (Value.slice A D.snaps.length c).ownBlock) (hO2 : w2.ownsRow B 73 35 (.slice (some ⟨gg, 0, none⟩) (D.snaps.length + 1) cap) (D.snaps.length + 1) (rsCells D.snaps ++ (rsArr (newRSn D)).toList)) :
    w2.heap[g]? = some (.cells (rvArr D (.slice A D.snaps.length c)) 60 (0, 0)) ∧ RVAt B (w2.setCell ⟨g, 35, none⟩ (.slice (some ⟨gg, 0, none⟩) (D.snaps.length + 1) cap)) g { D with snaps := D.snaps ++ [newRSn D] } ∧ Step B rvTypes w (w2.setCell ⟨g, 35, none⟩ (.slice (some ⟨gg, 0, none⟩) (D.snaps.length + 1) cap)) := by
  have hB := hD.base
  have hlt := hD.lt
  have hne := own_ne hO hg (by decide)
  have h0 : Step B rvTypes w (w.alloc o).drew := ((Step.refl B rvTypes w).alloc (by omega) o).drew
  have h1 : Step B rvTypes w w2 := h0.grown hgrow (by show B ≤ (w.alloc o).heap.size; simp; omega) (fun k hk => by
    rcases hO.2 with ⟨e, _⟩ | ⟨g', cap', cur, e, hb, hh, _⟩
    · rw [e] at hk; simp [Value.ownBlock] at hk
    · rw [e] at hk; simp [Value.ownBlock] at hk; subst hk
      exact ⟨hb, cur, _, _, (Below.heap_alloc w o g' (Array.getElem?_eq_some_iff.1 hh).1).trans hh, by decide⟩)
  have hg2 := grown_keep hgrow hlt hne hg
  have hs : Step B rvTypes w (w2.setCell ⟨g, 35, none⟩ (.slice (some ⟨gg, 0, none⟩) (D.snaps.length + 1) cap)) := h1.set hg2 hB (by decide) _
  have hg3 := heap_setCell_same w2 g 35 _ _ (.slice (some ⟨gg, 0, none⟩) (D.snaps.length + 1) cap) hg2
  rw [rvArr_setSnaps] at hg3
  refine ⟨hg2, ⟨hB, ⟨hD.ok.size, hD.ok.next, by simp; omega, fun s hs' => ?_⟩, _, hg3, ?_⟩, hs⟩
  · rcases List.mem_append.1 hs' with h | h
    · exact hD.ok.sizes s h
    · rw [List.mem_singleton.1 h]; exact hD.ok.size
  · have hO3 : (w2.setCell ⟨g, 35, none⟩ (.slice (some ⟨gg, 0, none⟩) (D.snaps.length + 1) cap)).ownsRow B 73 35 (.slice (some ⟨gg, 0, none⟩) (D.snaps.length + 1) cap) (D.snaps.length + 1) (rsCells D.snaps ++ (rsArr (newRSn D)).toList) := by
      refine ⟨hO2.1, ?_⟩
      rcases hO2.2 with h | ⟨gb, cap, cur, hv, hb', hh, r⟩
      · exact .inl h
      · exact .inr ⟨gb, cap, cur, hv, hb', (Below.heap_setCell _ _ _ _ (types_ne hh hg2 (by decide))).trans hh, r⟩
    show World.ownsRow _ _ _ _ _ (D.snaps ++ [newRSn D]).length (rsCells (D.snaps ++ [newRSn D]))
    rw [rsCells_append, List.length_append, List.length_singleton]
    simpa [rsCells] using hO3

set_option maxHeartbeats 4000000 in
set_option maxRecDepth 100000 in
theorem rvSnap_any (B g : Nat) (w : World) (D : RVm) (hD : RVAt B w g D) :
    Calls Try.prog 51 #[.pointer (some ⟨g, 0, none⟩)] w fun e w' => e = .returned (.tuple #[.int .i64 (if rvSnapE D = 0 then (D.next : Int) else 0), .int .i64 (rvSnapE D)]) ∧ RVAt B w' g (rvSnap D) ∧ Step B rvTypes w w' := by
  obtain ⟨A, c, hg, hO, hp⟩ := rv_form hD
  have h5 := hD.ok.few
  have hnx := hD.ok.next
  have c34 : w.cell? ⟨g, 34, none⟩ = some (.int .i64 D.next) := cell_of_row _ _ _ _ _ _ hg
  have c35 : w.cell? ⟨g, 35, none⟩ = some (.slice A D.snaps.length c) := cell_of_row _ _ _ _ _ _ hg
  by_cases hfull : D.snaps.length = 5 ∨ 999 < D.next
  · have he : rvSnapE D = 8 := by unfold rvSnapE; rw [if_pos hfull]
    have hm : rvSnap D = D := by unfold rvSnap; rw [he]; rfl
    rw [he, hm, if_neg (by decide)]
    clear he hm hg hO
    by_cases h1 : D.snaps.length = 5
    · have q1 : ((D.snaps.length : Int) == 5) = true := by simp; omega
      have q2 : (D.snaps.length : Int) = 5 := by omega
      clear hfull
      go_enter Try.func51, Try.ntmps51
      go_wp2
      go_ret2
      exact ⟨rfl, hD, Step.refl _ _ _⟩
    · have q1 : ((D.snaps.length : Int) == 5) = false := by simp; omega
      have h2 : (999 : Int) < (D.next : Int) := by omega
      clear hfull
      go_enter Try.func51, Try.ntmps51
      go_wp2
      go_ret2
      exact ⟨rfl, hD, Step.refl _ _ _⟩
  · have he : rvSnapE D = 0 := by unfold rvSnapE; rw [if_neg hfull]
    have hm : rvSnap D = { D with next := D.next + 1, dirty := fun _ => false, snaps := D.snaps ++ [newRSn D] } := by unfold rvSnap; rw [he]; rfl
    rw [he, hm, if_pos rfl]
    have q1 : ((D.snaps.length : Int) == 5) = false := by simp; omega
    have h2 : ¬ (999 : Int) < (D.next : Int) := by omega
    have hlt := (Array.getElem?_eq_some_iff.1 hg).1
    have hc := fun i => cell_of_row w g i _ _ _ hg
    simp only [rvArr] at hc
    have HG := Lib.hid hg
    clear hg he hm c34 c35
    obtain ⟨inf, hi, hz0, hz1, hz2⟩ := info_parts Try.infoRSnZ
    go_enter Try.func51, Try.ntmps51
    go_wp2_with fail
    have HO := Lib.hid hO
    have HD := Lib.hid hD
    have hBg := hD.base
    have HN := Lib.hid (own_ne hO HG.out (by decide))
    clear hO hD hp
    have K0 := Lib.hid (show RvS g D w.drew from rvS_of (sv := .slice A D.snaps.length c) HG.out)
    have K1 := Lib.hid (fun o => show RvS g D (w.drew.alloc o) from rvS_of (sv := .slice A D.snaps.length c) ((heap_alloc_old w.drew o hlt).trans HG.out))
    have uT : Try.prog.underlying 57 = some (.array 16 9) := by kernel_rfl
    have iT : (Try.prog.info? 57).map (·.size) = some ([.string (D.texts 0), .string (D.texts 1), .string (D.texts 2), .string (D.texts 3), .string (D.texts 4), .string (D.texts 5), .string (D.texts 6), .string (D.texts 7), .string (D.texts 8), .string (D.texts 9), .string (D.texts 10), .string (D.texts 11), .string (D.texts 12), .string (D.texts 13), .string (D.texts 14), .string (D.texts 15)] : List Value).length := by kernel_rfl
    have uM : Try.prog.underlying 35 = some (.array 16 4) := by kernel_rfl
    have iM : (Try.prog.info? 35).map (·.size) = some ([.bool (D.dirty 0), .bool (D.dirty 1), .bool (D.dirty 2), .bool (D.dirty 3), .bool (D.dirty 4), .bool (D.dirty 5), .bool (D.dirty 6), .bool (D.dirty 7), .bool (D.dirty 8), .bool (D.dirty 9), .bool (D.dirty 10), .bool (D.dirty 11), .bool (D.dirty 12), .bool (D.dirty 13), .bool (D.dirty 14), .bool (D.dirty 15)] : List Value).length := by kernel_rfl
    -- the region
    refine wp_region_held_drew (S := RvS g D) (by kernel_rfl) K0.out (fun hHeld => ?_)
    refine wpAnyH_take (i := 0) (v := ?_) rfl (by kernel_rfl) (by kernel_rfl) (by kernel_rfl) (fun _ _ _ h => h) (Or.inl ⟨by rfl, ?_⟩) (by assumption) ?_
    rotate_left
    · intro wq hSw; obtain ⟨hq1, hq2, hq3, hq4, hq5⟩ := hSw; go_simp; (try with_reducible rfl)
    try simp only [Act.put, List.getElem_toArray, List.getElem_cons_zero, List.setIfInBounds_toArray, List.set_cons_zero, List.set_cons_succ]
    refine wpAnyH_take (i := 1) (v := ?_) rfl (by kernel_rfl) (by kernel_rfl) (by kernel_rfl) (fun _ _ _ h => h) (Or.inl ⟨by rfl, ?_⟩) (by assumption) ?_
    rotate_left
    · intro wq hSw; obtain ⟨hq1, hq2, hq3, hq4, hq5⟩ := hSw; go_simp; (try with_reducible rfl)
    try simp only [Act.put, List.getElem_toArray, List.getElem_cons_zero, List.getElem_cons_succ, List.setIfInBounds_toArray, List.set_cons_zero, List.set_cons_succ]
    refine wpAnyH_take (i := 2) (v := ?_) rfl (by kernel_rfl) (by kernel_rfl) (by kernel_rfl) (fun _ _ _ h => h) (Or.inl ⟨by rfl, ?_⟩) (by assumption) ?_
    rotate_left
    · intro wq hSw; obtain ⟨hq1, hq2, hq3, hq4, hq5⟩ := hSw; go_simp; (try with_reducible rfl)
    try simp only [Act.put, List.getElem_toArray, List.getElem_cons_zero, List.getElem_cons_succ, List.setIfInBounds_toArray, List.set_cons_zero, List.set_cons_succ]
    refine wpAnyH_take (i := 3) (v := ?_) rfl (by kernel_rfl) (by kernel_rfl) (by kernel_rfl) (fun _ _ _ h => h) (Or.inl ⟨by rfl, ?_⟩) (by assumption) ?_
    rotate_left
    · intro wq hSw; obtain ⟨hq1, hq2, hq3, hq4, hq5⟩ := hSw; go_simp; (try with_reducible rfl)
    try simp only [Act.put, List.getElem_toArray, List.getElem_cons_zero, List.getElem_cons_succ, List.setIfInBounds_toArray, List.set_cons_zero, List.set_cons_succ]
    refine wpAnyH_take (i := 5) (v := ?_) rfl (by kernel_rfl) (by kernel_rfl) (by kernel_rfl) (fun _ _ _ h => h) (Or.inl ⟨by rfl, ?_⟩) (by assumption) ?_
    rotate_left
    · intro wq hSw; obtain ⟨hq1, hq2, hq3, hq4, hq5⟩ := hSw; go_simp; (try with_reducible rfl)
    try simp only [Act.put, List.getElem_toArray, List.getElem_cons_zero, List.getElem_cons_succ, List.setIfInBounds_toArray, List.set_cons_zero, List.set_cons_succ]
    refine wpAnyH_take (i := 6) (v := ?_) rfl (by kernel_rfl) (by kernel_rfl) (by kernel_rfl) (fun _ _ _ h => h) (Or.inl ⟨by rfl, ?_⟩) (by assumption) ?_
    rotate_left
    · intro wq hSw; obtain ⟨hq1, hq2, hq3, hq4, hq5⟩ := hSw; go_simp; (try with_reducible rfl)
    try simp only [Act.put, List.getElem_toArray, List.getElem_cons_zero, List.getElem_cons_succ, List.setIfInBounds_toArray, List.set_cons_zero, List.set_cons_succ]
    refine wpAnyH_take (i := 7) (v := ?_) rfl (by kernel_rfl) (by kernel_rfl) (by kernel_rfl) (fun _ _ _ h => h) (Or.inl ⟨by rfl, ?_⟩) (by assumption) ?_
    rotate_left
    · intro wq hSw; obtain ⟨hq1, hq2, hq3, hq4, hq5⟩ := hSw; go_simp; (try with_reducible rfl)
    try simp only [Act.put, List.getElem_toArray, List.getElem_cons_zero, List.getElem_cons_succ, List.setIfInBounds_toArray, List.set_cons_zero, List.set_cons_succ]
    refine wpAnyH_take (i := 8) (v := ?_) rfl (by kernel_rfl) (by kernel_rfl) (by kernel_rfl) (fun _ _ _ h => h) (Or.inl ⟨by rfl, ?_⟩) (by assumption) ?_
    rotate_left
    · intro wq hSw; obtain ⟨hq1, hq2, hq3, hq4, hq5⟩ := hSw; go_simp; (try with_reducible rfl)
    try simp only [Act.put, List.getElem_toArray, List.getElem_cons_zero, List.getElem_cons_succ, List.setIfInBounds_toArray, List.set_cons_zero, List.set_cons_succ]
    refine wpAnyH_take (i := 9) (v := ?_) rfl (by kernel_rfl) (by kernel_rfl) (by kernel_rfl) (fun _ _ _ h => h) (Or.inl ⟨by rfl, ?_⟩) (by assumption) ?_
    rotate_left
    · intro wq hSw; obtain ⟨hq1, hq2, hq3, hq4, hq5⟩ := hSw; go_simp; (try with_reducible rfl)
    try simp only [Act.put, List.getElem_toArray, List.getElem_cons_zero, List.getElem_cons_succ, List.setIfInBounds_toArray, List.set_cons_zero, List.set_cons_succ]
    refine wpAnyH_take (i := 10) (v := ?_) rfl (by kernel_rfl) (by kernel_rfl) (by kernel_rfl) (fun _ _ _ h => h) (Or.inl ⟨by rfl, ?_⟩) (by assumption) ?_
    rotate_left
    · intro wq hSw; obtain ⟨hq1, hq2, hq3, hq4, hq5⟩ := hSw; go_simp; (try with_reducible rfl)
    try simp only [Act.put, List.getElem_toArray, List.getElem_cons_zero, List.getElem_cons_succ, List.setIfInBounds_toArray, List.set_cons_zero, List.set_cons_succ]
    refine wpAnyH_take (i := 11) (v := ?_) rfl (by kernel_rfl) (by kernel_rfl) (by kernel_rfl) (fun _ _ _ h => h) (Or.inl ⟨by rfl, ?_⟩) (by assumption) ?_
    rotate_left
    · intro wq hSw; obtain ⟨hq1, hq2, hq3, hq4, hq5⟩ := hSw; go_simp; (try with_reducible rfl)
    try simp only [Act.put, List.getElem_toArray, List.getElem_cons_zero, List.getElem_cons_succ, List.setIfInBounds_toArray, List.set_cons_zero, List.set_cons_succ]
    refine wpAnyH_take (i := 12) (v := ?_) rfl (by kernel_rfl) (by kernel_rfl) (by kernel_rfl) (fun _ _ _ h => h) (Or.inl ⟨by rfl, ?_⟩) (by assumption) ?_
    rotate_left
    · intro wq hSw; obtain ⟨hq1, hq2, hq3, hq4, hq5⟩ := hSw; go_simp; (try with_reducible rfl)
    try simp only [Act.put, List.getElem_toArray, List.getElem_cons_zero, List.getElem_cons_succ, List.setIfInBounds_toArray, List.set_cons_zero, List.set_cons_succ]
    refine wpAnyH_take (i := 13) (v := ?_) rfl (by kernel_rfl) (by kernel_rfl) (by kernel_rfl) (fun _ _ _ h => h) (Or.inl ⟨by rfl, ?_⟩) (by assumption) ?_
    rotate_left
    · intro wq hSw; obtain ⟨hq1, hq2, hq3, hq4, hq5⟩ := hSw; go_simp; (try with_reducible rfl)
    try simp only [Act.put, List.getElem_toArray, List.getElem_cons_zero, List.getElem_cons_succ, List.setIfInBounds_toArray, List.set_cons_zero, List.set_cons_succ]
    refine wpAnyH_take (i := 14) (v := ?_) rfl (by kernel_rfl) (by kernel_rfl) (by kernel_rfl) (fun _ _ _ h => h) (Or.inl ⟨by rfl, ?_⟩) (by assumption) ?_
    rotate_left
    · intro wq hSw; obtain ⟨hq1, hq2, hq3, hq4, hq5⟩ := hSw; go_simp; (try with_reducible rfl)
    try simp only [Act.put, List.getElem_toArray, List.getElem_cons_zero, List.getElem_cons_succ, List.setIfInBounds_toArray, List.set_cons_zero, List.set_cons_succ]
    refine wpAnyH_take (i := 15) (v := ?_) rfl (by kernel_rfl) (by kernel_rfl) (by kernel_rfl) (fun _ _ _ h => h) (Or.inl ⟨by rfl, ?_⟩) (by assumption) ?_
    rotate_left
    · intro wq hSw; obtain ⟨hq1, hq2, hq3, hq4, hq5⟩ := hSw; go_simp; (try with_reducible rfl)
    try simp only [Act.put, List.getElem_toArray, List.getElem_cons_zero, List.getElem_cons_succ, List.setIfInBounds_toArray, List.set_cons_zero, List.set_cons_succ]
    refine wpAnyH_take (i := 16) (v := ?_) rfl (by kernel_rfl) (by kernel_rfl) (by kernel_rfl) (fun _ _ _ h => h) (Or.inl ⟨by rfl, ?_⟩) (by assumption) ?_
    rotate_left
    · intro wq hSw; obtain ⟨hq1, hq2, hq3, hq4, hq5⟩ := hSw; go_simp; (try with_reducible rfl)
    try simp only [Act.put, List.getElem_toArray, List.getElem_cons_zero, List.getElem_cons_succ, List.setIfInBounds_toArray, List.set_cons_zero, List.set_cons_succ]
    refine wpAnyH_take (i := 17) (v := ?_) rfl (by kernel_rfl) (by kernel_rfl) (by kernel_rfl) (fun _ _ _ h => h) (Or.inl ⟨by rfl, ?_⟩) (by assumption) ?_
    rotate_left
    · intro wq hSw; obtain ⟨hq1, hq2, hq3, hq4, hq5⟩ := hSw; go_simp; (try with_reducible rfl)
    try simp only [Act.put, List.getElem_toArray, List.getElem_cons_zero, List.getElem_cons_succ, List.setIfInBounds_toArray, List.set_cons_zero, List.set_cons_succ]
    refine wpAnyH_take (i := 18) (v := ?_) rfl (by kernel_rfl) (by kernel_rfl) (by kernel_rfl) (fun _ _ _ h => h) (Or.inl ⟨by rfl, ?_⟩) (by assumption) ?_
    rotate_left
    · intro wq hSw; obtain ⟨hq1, hq2, hq3, hq4, hq5⟩ := hSw; go_simp; (try with_reducible rfl)
    try simp only [Act.put, List.getElem_toArray, List.getElem_cons_zero, List.getElem_cons_succ, List.setIfInBounds_toArray, List.set_cons_zero, List.set_cons_succ]
    refine wpAnyH_take (i := 19) (v := ?_) rfl (by kernel_rfl) (by kernel_rfl) (by kernel_rfl) (fun _ _ _ h => h) (Or.inl ⟨by rfl, ?_⟩) (by assumption) ?_
    rotate_left
    · intro wq hSw; obtain ⟨hq1, hq2, hq3, hq4, hq5⟩ := hSw; go_simp; (try with_reducible rfl)
    try simp only [Act.put, List.getElem_toArray, List.getElem_cons_zero, List.getElem_cons_succ, List.setIfInBounds_toArray, List.set_cons_zero, List.set_cons_succ]
    refine' wpAnyH_take (i := 20) (v := _) rfl (by kernel_rfl) (by kernel_rfl) (by kernel_rfl) (fun _ _ _ h => h) (yieldsIf_load_mid (by rfl) _ _ rfl _ _ rfl ([.string (D.texts 0), .string (D.texts 1), .string (D.texts 2), .string (D.texts 3), .string (D.texts 4), .string (D.texts 5), .string (D.texts 6), .string (D.texts 7), .string (D.texts 8), .string (D.texts 9), .string (D.texts 10), .string (D.texts 11), .string (D.texts 12), .string (D.texts 13), .string (D.texts 14), .string (D.texts 15)] : List Value) _ (fun _ hS => hS.2.2.2.1) uT rfl iT) (by assumption) ?_
    try simp only [Act.put, List.getElem_toArray, List.getElem_cons_zero, List.getElem_cons_succ, List.setIfInBounds_toArray, List.set_cons_zero, List.set_cons_succ]
    refine wpAnyH_take (i := 21) (v := ?_) rfl (by kernel_rfl) (by kernel_rfl) (by kernel_rfl) (fun _ _ _ h => h) (Or.inl ⟨by rfl, ?_⟩) (by assumption) ?_
    rotate_left
    · intro wq hSw; obtain ⟨hq1, hq2, hq3, hq4, hq5⟩ := hSw; go_simp; (try with_reducible rfl)
    try simp only [Act.put, List.getElem_toArray, List.getElem_cons_zero, List.getElem_cons_succ, List.setIfInBounds_toArray, List.set_cons_zero, List.set_cons_succ]
    refine wpAnyH_take (i := 22) (v := ?_) rfl (by kernel_rfl) (by kernel_rfl) (by kernel_rfl) (fun _ _ _ h => h) (Or.inl ⟨by rfl, ?_⟩) (by assumption) ?_
    rotate_left
    · intro wq hSw; obtain ⟨hq1, hq2, hq3, hq4, hq5⟩ := hSw; go_simp; (try with_reducible rfl)
    try simp only [Act.put, List.getElem_toArray, List.getElem_cons_zero, List.getElem_cons_succ, List.setIfInBounds_toArray, List.set_cons_zero, List.set_cons_succ]
    refine wpAnyH_take (i := 23) (v := ?_) rfl (by kernel_rfl) (by kernel_rfl) (by kernel_rfl) (fun _ _ _ h => h) (Or.inl ⟨by rfl, ?_⟩) (by assumption) ?_
    rotate_left
    · intro wq hSw; obtain ⟨hq1, hq2, hq3, hq4, hq5⟩ := hSw; go_simp; (try with_reducible rfl)
    try simp only [Act.put, List.getElem_toArray, List.getElem_cons_zero, List.getElem_cons_succ, List.setIfInBounds_toArray, List.set_cons_zero, List.set_cons_succ]
    refine' wpAnyH_take (i := 24) (v := _) rfl (by kernel_rfl) (by kernel_rfl) (by kernel_rfl) (fun _ _ _ h => h) (yieldsIf_load_mid (by rfl) _ _ rfl _ _ rfl ([.bool (D.dirty 0), .bool (D.dirty 1), .bool (D.dirty 2), .bool (D.dirty 3), .bool (D.dirty 4), .bool (D.dirty 5), .bool (D.dirty 6), .bool (D.dirty 7), .bool (D.dirty 8), .bool (D.dirty 9), .bool (D.dirty 10), .bool (D.dirty 11), .bool (D.dirty 12), .bool (D.dirty 13), .bool (D.dirty 14), .bool (D.dirty 15)] : List Value) _ (fun _ hS => hS.2.2.2.2) uM rfl iM) (by assumption) ?_
    try simp only [Act.put, List.getElem_toArray, List.getElem_cons_zero, List.getElem_cons_succ, List.setIfInBounds_toArray, List.set_cons_zero, List.set_cons_succ]
    refine wpAnyH_take (i := 25) (v := ?_) rfl (by kernel_rfl) (by kernel_rfl) (by kernel_rfl) (fun _ _ _ h => h) (Or.inl ⟨by rfl, ?_⟩) (by assumption) ?_
    rotate_left
    · intro wq hSw; obtain ⟨hq1, hq2, hq3, hq4, hq5⟩ := hSw; go_simp; (try with_reducible rfl)
    try simp only [Act.put, List.getElem_toArray, List.getElem_cons_zero, List.getElem_cons_succ, List.setIfInBounds_toArray, List.set_cons_zero, List.set_cons_succ]
    refine wpAnyH_ready (rs := [4, 26]) (by kernel_rfl) (by simp) ?_
    refine AllReadyH.cons rfl (fun K' hK' => ?_) ?_
    · go_simp
      refine hK'.out _ _ ?_ (fun hHeld => ?_)
      · (first | exact K0.out | exact K1.out _ | exact KF.out | exact KG.out)
      clear hK' K'
      try simp only [Act.put, List.getElem_toArray, List.getElem_cons_zero, List.getElem_cons_succ, List.setIfInBounds_toArray, List.set_cons_zero, List.set_cons_succ]
      refine wpAnyH_ready (rs := [26]) (by kernel_rfl) (by simp) ?_
      refine AllReadyH.cons rfl (fun K' hK' => ?_) AllReadyH.nil
      go_simp
      refine hK'.out _ _ ?_ (fun hHeld => ?_)
      · (first | exact K0.out | exact K1.out _ | exact KF.out | exact KG.out)
      clear hK' K'
      try simp only [Act.put, List.getElem_toArray, List.getElem_cons_zero, List.getElem_cons_succ, List.setIfInBounds_toArray, List.set_cons_zero, List.set_cons_succ]
      refine wpAnyH_ready (rs := [27]) (by kernel_rfl) (by simp) ?_
      refine AllReadyH.cons rfl (fun K' hK' => ?_) AllReadyH.nil
      (refine step_append_lies _ rfl _ _ _ rfl B 73 inf _ 35 296 Try.underlying58 hi hz0 hz1 hz2 rfl (by omega) _ D.snaps.length (rsCells D.snaps) rfl ((HO.out.alloc _).drew) ⟨w.heap.size, 0, none⟩ 1 1 (rsArr (newRSn D)).toList rfl rfl (World.news_of_block (cs := rsArr (newRSn D)) (t := 73) (fr := (0, 0)) (heap_alloc_new w _)) (by simp [rsArr, Value.oneCell']) (by omega) (by unfold maxLen; omega) (by omega) (by simp; omega) (w.heap.size + 1) (by simp) ?_; intro gg cap w2 hO2 hgrow hat hlt2; have HF := Lib.hid (rvSnap_fin HD.out HG.out HO.out (by omega) hgrow hO2); have c35 : w2.cell? ⟨g, 35, none⟩ = some (.slice A D.snaps.length c) := cell_of_row _ _ _ _ _ _ HF.out.1; have f35 : w2.frozen? ⟨g, 35, none⟩ = false := frozen_of_row _ _ _ _ _ HF.out.1; have KF := Lib.hid (rvS_of HF.out.1); have KG := Lib.hid (rvS_of (heap_setCell_same w2 g 35 _ _ (.slice (some ⟨gg, 0, none⟩) (D.snaps.length + 1) cap) HF.out.1)); clear hO2 hgrow hat)
      refine hK'.out _ _ ?_ (fun hHeld => ?_)
      · (first | exact K0.out | exact K1.out _ | exact KF.out | exact KG.out)
      clear hK' K'
      try simp only [Act.put, List.getElem_toArray, List.getElem_cons_zero, List.getElem_cons_succ, List.setIfInBounds_toArray, List.set_cons_zero, List.set_cons_succ]
      refine wpAnyH_take (i := 28) (v := ?_) rfl (by kernel_rfl) (by kernel_rfl) (by kernel_rfl) (fun _ _ _ h => h) (Or.inl ⟨by rfl, ?_⟩) (by assumption) ?_
      rotate_left
      · intro wq hSw; obtain ⟨hq1, hq2, hq3, hq4, hq5⟩ := hSw; go_simp; (try with_reducible rfl)
      try simp only [Act.put, List.getElem_toArray, List.getElem_cons_zero, List.getElem_cons_succ, List.setIfInBounds_toArray, List.set_cons_zero, List.set_cons_succ]
      refine wpAnyH_take (i := 29) (v := ?_) rfl (by kernel_rfl) (by kernel_rfl) (by kernel_rfl) (fun _ _ _ h => h) (Or.inl ⟨by rfl, ?_⟩) (by assumption) ?_
      rotate_left
      · intro wq hSw; obtain ⟨hq1, hq2, hq3, hq4, hq5⟩ := hSw; go_simp; (try with_reducible rfl)
      try simp only [Act.put, List.getElem_toArray, List.getElem_cons_zero, List.getElem_cons_succ, List.setIfInBounds_toArray, List.set_cons_zero, List.set_cons_succ]
      refine wpAnyH_ready (rs := [30]) (by kernel_rfl) (by simp) ?_
      refine AllReadyH.cons rfl (fun K' hK' => ?_) AllReadyH.nil
      go_simp
      refine hK'.out _ _ ?_ (fun hHeld => ?_)
      · (first | exact K0.out | exact K1.out _ | exact KF.out | exact KG.out)
      clear hK' K'
      try simp only [Act.put, List.getElem_toArray, List.getElem_cons_zero, List.getElem_cons_succ, List.setIfInBounds_toArray, List.set_cons_zero, List.set_cons_succ]
      refine wpAnyH_done (by kernel_rfl) ?_ _
      clear hc hHeld uT iT uM iM c35 f35 KF KG
      obtain ⟨_, q1, q2⟩ := HF.out
      clear HF
      generalize hw3 : w2.setCell ⟨g, 35, none⟩ (.slice (some ⟨gg, 0, none⟩) (D.snaps.length + 1) cap) = w3 at *
      clear hw3
      obtain ⟨A3, c3, hg3, hO3, _⟩ := rv_form q1
      obtain ⟨_, s4, hg4, hO4⟩ := rv_row (D' := { D with dirty := fun _ => false, snaps := D.snaps ++ [newRSn D] }) q1.base ⟨q1.ok.size, q1.ok.next, q1.ok.few, q1.ok.sizes⟩ hg3 hO3 rfl
      obtain ⟨r5, s5, hg5, _⟩ := rv_store (D' := { D with next := D.next + 1, dirty := fun _ => false, snaps := D.snaps ++ [newRSn D] }) q1.base ⟨q1.ok.size, by show 1 ≤ D.next + 1 ∧ D.next + 1 ≤ 1000; omega, q1.ok.few, q1.ok.sizes⟩ hg4 hO4 34 (.int .i64 ((D.next : Int) + 1)) (by rw [show (D.next : Int) + 1 = ((D.next + 1 : Nat) : Int) by omega]; rfl) rfl
      have HG3 := Lib.hid hg3
      have FIN := Lib.hid (And.intro r5 (q2.trans (s4.trans s5)))
      have c34 : (w3.setRow g (rvArr { D with dirty := fun _ => false, snaps := D.snaps ++ [newRSn D] } (.slice A3 (D.snaps ++ [newRSn D]).length c3))).cell? ⟨g, 34, none⟩ = some (.int .i64 D.next) := cell_of_row _ _ _ _ _ _ hg4
      have f34 : (w3.setRow g (rvArr { D with dirty := fun _ => false, snaps := D.snaps ++ [newRSn D] } (.slice A3 (D.snaps ++ [newRSn D]).length c3))).frozen? ⟨g, 34, none⟩ = false := frozen_of_row _ _ _ _ _ hg4
      have a1 : IntKind.i64.wrap ((D.next : Int) + 1) = (D.next : Int) + 1 := IntWalk.i64_in _ (by omega)
      have a2 : IntKind.i64.wrap ((D.next : Int) + 1 - 1) = (D.next : Int) := by rw [show (D.next : Int) + 1 - 1 = (D.next : Int) by omega]; exact IntWalk.i64_in _ (by omega)
      simp only [List.length_append, List.length_singleton] at c34 f34 FIN
      clear hg3 hO3 s4 hg4 hO4 r5 s5 hg5 q1 q2
      go_wp2_with ((with_reducible refine isStore 35 ?_); refine wpList_store_at rfl 35 _ _ rfl g 17 16 rfl 60 _ (mArr (fun _ => false)) rfl HG3.out Try.infoMarks (by simp [rvArr_size]) rfl (mArr_one _) _ (rvArr_spliceM _ _ _) ?_)
      go_ret2
      exact ⟨rfl, FIN.out.1, FIN.out.2⟩
    refine AllReadyH.cons rfl (fun K' hK' => ?_) AllReadyH.nil
    go_simp
    refine hK'.out _ _ ?_ (fun hHeld => ?_)
    · (first | exact K0.out | exact K1.out _ | exact KF.out | exact KG.out)
    clear hK' K'
    try simp only [Act.put, List.getElem_toArray, List.getElem_cons_zero, List.getElem_cons_succ, List.setIfInBounds_toArray, List.set_cons_zero, List.set_cons_succ]
    refine wpAnyH_ready (rs := [4]) (by kernel_rfl) (by simp) ?_
    refine AllReadyH.cons rfl (fun K' hK' => ?_) AllReadyH.nil
    go_simp
    refine hK'.out _ _ ?_ (fun hHeld => ?_)
    · (first | exact K0.out | exact K1.out _ | exact KF.out | exact KG.out)
    clear hK' K'
    try simp only [Act.put, List.getElem_toArray, List.getElem_cons_zero, List.getElem_cons_succ, List.setIfInBounds_toArray, List.set_cons_zero, List.set_cons_succ]
    refine wpAnyH_ready (rs := [27]) (by kernel_rfl) (by simp) ?_
    refine AllReadyH.cons rfl (fun K' hK' => ?_) AllReadyH.nil
    (refine step_append_lies _ rfl _ _ _ rfl B 73 inf _ 35 296 Try.underlying58 hi hz0 hz1 hz2 rfl (by omega) _ D.snaps.length (rsCells D.snaps) rfl ((HO.out.alloc _).drew) ⟨w.heap.size, 0, none⟩ 1 1 (rsArr (newRSn D)).toList rfl rfl (World.news_of_block (cs := rsArr (newRSn D)) (t := 73) (fr := (0, 0)) (heap_alloc_new w _)) (by simp [rsArr, Value.oneCell']) (by omega) (by unfold maxLen; omega) (by omega) (by simp; omega) (w.heap.size + 1) (by simp) ?_; intro gg cap w2 hO2 hgrow hat hlt2; have HF := Lib.hid (rvSnap_fin HD.out HG.out HO.out (by omega) hgrow hO2); have c35 : w2.cell? ⟨g, 35, none⟩ = some (.slice A D.snaps.length c) := cell_of_row _ _ _ _ _ _ HF.out.1; have f35 : w2.frozen? ⟨g, 35, none⟩ = false := frozen_of_row _ _ _ _ _ HF.out.1; have KF := Lib.hid (rvS_of HF.out.1); have KG := Lib.hid (rvS_of (heap_setCell_same w2 g 35 _ _ (.slice (some ⟨gg, 0, none⟩) (D.snaps.length + 1) cap) HF.out.1)); clear hO2 hgrow hat)
    refine hK'.out _ _ ?_ (fun hHeld => ?_)
    · (first | exact K0.out | exact K1.out _ | exact KF.out | exact KG.out)
    clear hK' K'
    try simp only [Act.put, List.getElem_toArray, List.getElem_cons_zero, List.getElem_cons_succ, List.setIfInBounds_toArray, List.set_cons_zero, List.set_cons_succ]
    refine wpAnyH_take (i := 28) (v := ?_) rfl (by kernel_rfl) (by kernel_rfl) (by kernel_rfl) (fun _ _ _ h => h) (Or.inl ⟨by rfl, ?_⟩) (by assumption) ?_
    rotate_left
    · intro wq hSw; obtain ⟨hq1, hq2, hq3, hq4, hq5⟩ := hSw; go_simp; (try with_reducible rfl)
    try simp only [Act.put, List.getElem_toArray, List.getElem_cons_zero, List.getElem_cons_succ, List.setIfInBounds_toArray, List.set_cons_zero, List.set_cons_succ]
    refine wpAnyH_take (i := 29) (v := ?_) rfl (by kernel_rfl) (by kernel_rfl) (by kernel_rfl) (fun _ _ _ h => h) (Or.inl ⟨by rfl, ?_⟩) (by assumption) ?_
    rotate_left
    · intro wq hSw; obtain ⟨hq1, hq2, hq3, hq4, hq5⟩ := hSw; go_simp; (try with_reducible rfl)
    try simp only [Act.put, List.getElem_toArray, List.getElem_cons_zero, List.getElem_cons_succ, List.setIfInBounds_toArray, List.set_cons_zero, List.set_cons_succ]
    refine wpAnyH_ready (rs := [30]) (by kernel_rfl) (by simp) ?_
    refine AllReadyH.cons rfl (fun K' hK' => ?_) AllReadyH.nil
    go_simp
    refine hK'.out _ _ ?_ (fun hHeld => ?_)
    · (first | exact K0.out | exact K1.out _ | exact KF.out | exact KG.out)
    clear hK' K'
    try simp only [Act.put, List.getElem_toArray, List.getElem_cons_zero, List.getElem_cons_succ, List.setIfInBounds_toArray, List.set_cons_zero, List.set_cons_succ]
    refine wpAnyH_done (by kernel_rfl) ?_ _
    clear hc hHeld uT iT uM iM c35 f35 KF KG
    obtain ⟨_, q1, q2⟩ := HF.out
    clear HF
    generalize hw3 : w2.setCell ⟨g, 35, none⟩ (.slice (some ⟨gg, 0, none⟩) (D.snaps.length + 1) cap) = w3 at *
    clear hw3
    obtain ⟨A3, c3, hg3, hO3, _⟩ := rv_form q1
    obtain ⟨_, s4, hg4, hO4⟩ := rv_row (D' := { D with dirty := fun _ => false, snaps := D.snaps ++ [newRSn D] }) q1.base ⟨q1.ok.size, q1.ok.next, q1.ok.few, q1.ok.sizes⟩ hg3 hO3 rfl
    obtain ⟨r5, s5, hg5, _⟩ := rv_store (D' := { D with next := D.next + 1, dirty := fun _ => false, snaps := D.snaps ++ [newRSn D] }) q1.base ⟨q1.ok.size, by show 1 ≤ D.next + 1 ∧ D.next + 1 ≤ 1000; omega, q1.ok.few, q1.ok.sizes⟩ hg4 hO4 34 (.int .i64 ((D.next : Int) + 1)) (by rw [show (D.next : Int) + 1 = ((D.next + 1 : Nat) : Int) by omega]; rfl) rfl
    have HG3 := Lib.hid hg3
    have FIN := Lib.hid (And.intro r5 (q2.trans (s4.trans s5)))
    have c34 : (w3.setRow g (rvArr { D with dirty := fun _ => false, snaps := D.snaps ++ [newRSn D] } (.slice A3 (D.snaps ++ [newRSn D]).length c3))).cell? ⟨g, 34, none⟩ = some (.int .i64 D.next) := cell_of_row _ _ _ _ _ _ hg4
    have f34 : (w3.setRow g (rvArr { D with dirty := fun _ => false, snaps := D.snaps ++ [newRSn D] } (.slice A3 (D.snaps ++ [newRSn D]).length c3))).frozen? ⟨g, 34, none⟩ = false := frozen_of_row _ _ _ _ _ hg4
    have a1 : IntKind.i64.wrap ((D.next : Int) + 1) = (D.next : Int) + 1 := IntWalk.i64_in _ (by omega)
    have a2 : IntKind.i64.wrap ((D.next : Int) + 1 - 1) = (D.next : Int) := by rw [show (D.next : Int) + 1 - 1 = (D.next : Int) by omega]; exact IntWalk.i64_in _ (by omega)
    simp only [List.length_append, List.length_singleton] at c34 f34 FIN
    clear hg3 hO3 s4 hg4 hO4 r5 s5 hg5 q1 q2
    go_wp2_with ((with_reducible refine isStore 35 ?_); refine wpList_store_at rfl 35 _ _ rfl g 17 16 rfl 60 _ (mArr (fun _ => false)) rfl HG3.out Try.infoMarks (by simp [rvArr_size]) rfl (mArr_one _) _ (rvArr_spliceM _ _ _) ?_)
    go_ret2
    exact ⟨rfl, FIN.out.1, FIN.out.2⟩
end Go.Proofs.Ytmcoenndfbgdfaa
