/- Package vdisk: Snap. -/
import Derived.Test.YtmcoenndfbgdfaaVd5
import Derived.Deep.AppendLies
import Derived.Deep.RegionLaw
namespace Go.Proofs.Ytmcoenndfbgdfaa
open Go.RowKit

theorem Try.infoSnapZ : (Try.prog.info? 105).map (fun i => (i.zero, i.size, i.bytes)) = some (some (.agg (sArr ⟨0, ⟨0, fun _ => ByteArray.empty⟩, [], false⟩ (.slice none 0 0))), 20, 304) := by kernel_rfl

def newSnap (D : DiskM) : SnapM := ⟨D.last + 1, D.now, [], false⟩
def snapErr (D : DiskM) : Int := if 5 ≤ D.snaps.length ∨ 999 ≤ D.last then 8 else 0
def snapM (D : DiskM) : DiskM := if snapErr D = 0 then { D with last := D.last + 1, snaps := D.snaps ++ [newSnap D] } else D

theorem last_mem {B g : Nat} {w : World} {D : DiskM} (hD : DiskAt B w g D) (hl : D.last + 1 ≤ 999) :
    DiskAt B (w.setCell ⟨g, 17, none⟩ (.int .i64 ((D.last : Int) + 1))) g { D with last := D.last + 1 } ∧ Step B dTypes w (w.setCell ⟨g, 17, none⟩ (.int .i64 ((D.last : Int) + 1))) := by
  obtain ⟨sv, hg, LS, hL, hO, hT⟩ := hD.mem
  have hs : Step B dTypes w (w.setCell ⟨g, 17, none⟩ (.int .i64 ((D.last : Int) + 1))) := (Step.refl B dTypes w).set hg hD.base (by decide) _
  have hg' := heap_setCell_same w g 17 _ _ (.int .i64 ((D.last + 1 : Nat) : Int)) hg
  rw [dArr_setLast] at hg'
  refine ⟨⟨hD.base, ⟨hD.ok.size, hl, hD.ok.few, fun s hs => ⟨(hD.ok.ids s hs).1, Nat.le_succ_of_le (hD.ok.ids s hs).2⟩, hD.ok.sizes, hD.ok.valid⟩, sv, hg', LS, hL, ⟨hO.1, ?_⟩, fun p hp => (hT p hp).step hs (by decide)⟩, hs⟩
  rcases hO.2 with h | ⟨g', cap, cur, hv, hb', hh, r⟩
  · exact .inl h
  · exact .inr ⟨g', cap, cur, hv, hb', (Below.heap_setCell _ _ _ _ (types_ne hh hg (by decide))).trans hh, r⟩

theorem own_ne {w : World} {B : Nat} {e t : TypeId} {size n g : Nat} {v : Value} {xs : List Value} {cs : Array Value} {fr : Nat × Nat} (h : w.ownsRow B e size v n xs) (hg : w.heap[g]? = some (Obj.cells cs t fr)) (ht : t ≠ e) : some g ≠ v.ownBlock := by
  rcases h.2 with ⟨rfl, _⟩ | ⟨g', cap, cur, rfl, _, hh, _⟩
  · simp [Value.ownBlock]
  · simp only [Value.ownBlock]
    intro e'; injection e' with e'
    exact types_ne hg hh ht e'

theorem grown_keep {w w2 : World} {o : Obj} {row : Option Nat} {g : Nat} {x : Option Obj} (h : ((w.alloc o).drew).grownBy w2 row) (hg : g < w.heap.size) (hne : some g ≠ row) (hx : w.heap[g]? = x) : w2.heap[g]? = x := by
  rw [h.block g (by show g < (w.alloc o).heap.size; simp; omega) hne]
  exact (Below.heap_alloc w o g hg).trans hx

theorem snap_fin {B g gg cap sd : Nat} {w w2 : World} {o : Obj} {D : DiskM} {LS : List (SnapM × Value)} {sB : Option Addr} (hD : DiskAt B w g { D with last := D.last + 1 }) (hg : w.heap[g]? = some (.cells (dArr D.now (D.last + 1) (.slice sB D.snaps.length sd)) 98 (0, 0)))
    (hL : LS.map (·.1) = D.snaps) (hO : w.ownsRow B 105 20 (.slice sB D.snaps.length sd) D.snaps.length (sCells LS)) (hT : ∀ p ∈ LS, OwnAr w 0 p.2 p.1.touched) (hne : some g ≠ (Value.slice sB D.snaps.length sd).ownBlock)
    (hgrow : ((w.alloc o).drew).grownBy w2 (Value.slice sB D.snaps.length sd).ownBlock) (hO2 : w2.ownsRow B 105 20 (.slice (some ⟨gg, 0, none⟩) (D.snaps.length + 1) cap) (D.snaps.length + 1) (sCells LS ++ (sArr (newSnap D) (.slice none 0 0)).toList)) (hlt : g < w.heap.size) (hfew : D.snaps.length < 5) :
    DiskAt B (w2.setCell ⟨g, 18, none⟩ (.slice (some ⟨gg, 0, none⟩) (D.snaps.length + 1) cap)) g { D with last := D.last + 1, snaps := D.snaps ++ [newSnap D] } ∧ Step B dTypes w (w2.setCell ⟨g, 18, none⟩ (.slice (some ⟨gg, 0, none⟩) (D.snaps.length + 1) cap)) := by
  have hB := hD.base
  have h0 : Step B dTypes w (w.alloc o).drew := ((Step.refl B dTypes w).alloc (by omega) o).drew
  have h1 : Step B dTypes w w2 := h0.grown hgrow (by show B ≤ (w.alloc o).heap.size; simp; omega) (fun k hk => by
    rcases hO.2 with ⟨e, _⟩ | ⟨g', cap', cur, e, hb, hh, _⟩
    · rw [e] at hk; simp [Value.ownBlock] at hk
    · rw [e] at hk; simp [Value.ownBlock] at hk; subst hk
      exact ⟨hb, cur, _, _, (Below.heap_alloc w o g' (Array.getElem?_eq_some_iff.1 hh).1).trans hh, by decide⟩)
  have hg2 := grown_keep hgrow hlt hne hg
  have hs : Step B dTypes w (w2.setCell ⟨g, 18, none⟩ (.slice (some ⟨gg, 0, none⟩) (D.snaps.length + 1) cap)) := h1.set hg2 hB (by decide) _
  have hg3 := heap_setCell_same w2 g 18 _ _ (.slice (some ⟨gg, 0, none⟩) (D.snaps.length + 1) cap) hg2
  rw [dArr_setSnaps] at hg3
  have hT3 : ∀ p ∈ LS ++ [(newSnap D, .slice none 0 0)], OwnAr (w2.setCell ⟨g, 18, none⟩ (.slice (some ⟨gg, 0, none⟩) (D.snaps.length + 1) cap)) 0 p.2 p.1.touched := fun p hp => by
    rcases List.mem_append.1 hp with hp | hp
    · exact (hT p hp).step hs (by decide)
    · simp at hp; subst hp; exact World.ownsRow_nil _ _ _ _
  have hlen : (D.snaps ++ [newSnap D]).length = D.snaps.length + 1 := by simp
  refine ⟨⟨hB, ⟨hD.ok.size, hD.ok.last, by simp; omega, fun s hs' => ?_, fun s hs' => ?_, fun s hs' => ?_⟩, _, hg3, LS ++ [(newSnap D, .slice none 0 0)], by simp [hL], ?_, hT3⟩, hs⟩
  · rcases List.mem_append.1 hs' with h | h
    · exact hD.ok.ids s h
    · simp at h; subst h; simp [newSnap]
  · rcases List.mem_append.1 hs' with h | h
    · exact hD.ok.sizes s h
    · simp at h; subst h; exact hD.ok.size
  · rcases List.mem_append.1 hs' with h | h
    · exact hD.ok.valid s h
    · simp at h; subst h; exact ⟨trivial, by simp [newSnap]⟩
  · show World.ownsRow _ _ _ _ _ _ _
    rw [hlen, sCells_append, show sCells [(newSnap D, Value.slice none 0 0)] = (sArr (newSnap D) (.slice none 0 0)).toList by simp [sCells]]
    refine ⟨hO2.1, ?_⟩
    rcases hO2.2 with h | ⟨g', cap', cur, hv, hb', hh, r⟩
    · exact .inl h
    · exact .inr ⟨g', cap', cur, hv, hb', (Below.heap_setCell _ _ _ _ (types_ne hh hg2 (by decide))).trans hh, r⟩

set_option maxHeartbeats 4000000 in
set_option maxRecDepth 100000 in
theorem snap_any (B g : Nat) (w : World) (D : DiskM) (hD : DiskAt B w g D) :
    Calls Try.prog 42 #[.pointer (some ⟨g, 0, none⟩)] w fun e w' => e = .returned (.tuple #[.int .i64 (if snapErr D = 0 then D.last + 1 else 0), errV (snapErr D)]) ∧ DiskAt B w' g (snapM D) ∧ Step B dTypes w w' := by
  obtain ⟨sv, hg, LS, hL, hO, hT⟩ := hD.mem
  have hlt := (Array.getElem?_eq_some_iff.1 hg).1
  have h5 := hD.ok.few
  have h9 := hD.ok.last
  have c17 : w.cell? ⟨g, 17, none⟩ = some (.int .i64 D.last) := cell_of_row _ _ _ _ _ _ hg
  have f17 : w.frozen? ⟨g, 17, none⟩ = false := frozen_of_row _ _ _ _ _ hg
  have c18 : w.cell? ⟨g, 18, none⟩ = some sv := cell_of_row _ _ _ _ _ _ hg
  have hlen : LS.length = D.snaps.length := by rw [← hL]; simp
  obtain ⟨sA, sc, rfl⟩ : ∃ A c, sv = .slice A D.snaps.length c := by
    rcases ownsRow_form hO with ⟨A, c, rfl, h0⟩ | ⟨gb, c, rfl, hp⟩
    · exact ⟨A, c, by rw [h0]⟩
    · exact ⟨_, c, rfl⟩
  by_cases hfull : 5 ≤ D.snaps.length ∨ 999 ≤ D.last
  · have he : snapErr D = 8 := by unfold snapErr; rw [if_pos hfull]
    have hm : snapM D = D := by unfold snapM; rw [he]; rfl
    rw [he, hm, if_neg (by decide)]
    clear he hm hg hL hO hT hlen
    by_cases h1 : 5 ≤ D.snaps.length
    · clear hfull
      go_enter Try.func42, Try.ntmps42
      go_wp2
      go_ret2
      exact ⟨rfl, hD, Step.refl _ _ _⟩
    · have h2 : 999 ≤ D.last := by omega
      clear hfull
      go_enter Try.func42, Try.ntmps42
      go_wp2
      go_ret2
      exact ⟨rfl, hD, Step.refl _ _ _⟩
  · have he : snapErr D = 0 := by unfold snapErr; rw [if_neg hfull]
    have hm : snapM D = { D with last := D.last + 1, snaps := D.snaps ++ [newSnap D] } := by unfold snapM; rw [he]; rfl
    rw [he, hm, if_pos rfl]
    have h1 : ¬ 5 ≤ D.snaps.length := by omega
    have h2 : ¬ 999 ≤ D.last := by omega
    obtain ⟨hD1, hs1⟩ := last_mem hD (by omega)
    clear he hm hfull
    go_enter Try.func42, Try.ntmps42
    go_wp2
    generalize hw1 : w.setCell ⟨g, 17, none⟩ (.int .i64 ((D.last : Int) + 1)) = w1 at hD1 hs1 ⊢
    clear hw1 hg hL hO hT hlen c17 f17 c18
    obtain ⟨sv, hg, LS, hL, hO, hT⟩ := hD1.mem
    have hlen : LS.length = D.snaps.length := by rw [hL.symm.trans rfl]; simp
    obtain ⟨sB, sd, rfl⟩ : ∃ A c, sv = .slice A D.snaps.length c := by
      rcases ownsRow_form hO with ⟨A, c, rfl, h0⟩ | ⟨gb, c, rfl, hp⟩
      · exact ⟨A, c, by rw [show D.snaps.length = 0 from h0]⟩
      · exact ⟨_, c, rfl⟩
    have hlt1 := (Array.getElem?_eq_some_iff.1 hg).1
    have hc := fun i => cell_of_row w1 g i _ _ _ hg
    have hf := fun i => frozen_of_row w1 g i _ _ hg
    simp only [dArr] at hc
    have HG := Lib.hid hg
    have HL := Lib.hid hL
    have HE := Lib.hid hlen
    clear hg hL hlen
    obtain ⟨inf, hi, hz0, hz1, hz2⟩ := info_parts Try.infoSnapZ
    have hBg := hD.base
    have HN := Lib.hid (own_ne hO HG.out (by decide))
    go_region_law (refine step_append_lies _ rfl _ _ _ rfl B 105 inf _ 20 304 Try.underlying96 hi hz0 hz1 hz2 rfl (by omega) _ D.snaps.length (sCells LS) rfl ((hO.alloc _).drew) ⟨w1.heap.size, 0, none⟩ 1 1 (sArr (newSnap D) (.slice none 0 0)).toList rfl rfl (World.news_of_block (cs := sArr (newSnap D) (.slice none 0 0)) (t := 105) (fr := (0, 0)) (heap_alloc_new w1 _)) (by simp [sArr, Value.oneCell']) (by omega) (by unfold maxLen; omega) (by omega) (by simp; omega) (w1.heap.size + 1) (by simp) ?_; intro gg cap w2 hO2 hgrow hat hlt2; have c18 : w2.cell? ⟨g, 18, none⟩ = some (.slice sB D.snaps.length sd) := cell_of_row _ _ _ _ _ _ (grown_keep hgrow hlt1 HN.out HG.out); have f18 : w2.frozen? ⟨g, 18, none⟩ = false := frozen_of_row _ _ _ _ _ (grown_keep hgrow hlt1 HN.out HG.out); have c17 : w2.cell? ⟨g, 17, none⟩ = some (.int .i64 ((D.last : Int) + 1)) := cell_of_row _ _ _ _ _ _ (grown_keep hgrow hlt1 HN.out HG.out))
    all_goals
      clear hc hf
      obtain ⟨q1, q2⟩ := snap_fin hD1 HG.out HL.out hO hT HN.out hgrow hO2 hlt1 (by omega)
      go_wp2
      go_ret2
      first
        | exact ⟨rfl, q1, hs1.trans q2⟩
        | exact ⟨rfl, q1.below (below_drewN (Below.refl _ _) _), hs1.trans (q2.drewN _)⟩
end Go.Proofs.Ytmcoenndfbgdfaa
