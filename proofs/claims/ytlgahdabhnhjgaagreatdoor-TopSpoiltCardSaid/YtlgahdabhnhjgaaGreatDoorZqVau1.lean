/- Vaults in memory; New, Copy. -/
import Derived.Test.YtlgahdabhnhjgaaGreatDoorZqVauM
import Derived.Test.YtlgahdabhnhjgaaGreatDoorZqOpenB
import Derived.Test.YtlgahdabhnhjgaaGreatDoorZqLight
import Derived.Lib.SliceRun
namespace Go.Proofs.YtlgahdabhnhjgaaGreatDoor
open Go.RowKit Go.Maps

/-- Points in memory: four numbers each. -/
def ptCells (p : PtM) : List Value := [.int .i64 p.id, .int .i64 p.disk, .int .i64 p.size, .int .i64 p.root]
def pCells (L : List PtM) : List Value := L.flatMap ptCells
theorem pCells_length : ∀ L : List PtM, (pCells L).length = L.length * 4
  | [] => rfl
  | p :: L => by
    show (ptCells p ++ pCells L).length = _
    rw [List.length_append, pCells_length L]
    simp [ptCells]; omega
theorem pCells_append (L M : List PtM) : pCells (L ++ M) = pCells L ++ pCells M := by simp [pCells]
theorem pCells_take (L : List PtM) (i : Nat) (h : i ≤ L.length) : (pCells L).take (i * 4) = pCells (L.take i) := by
  conv => lhs; rw [← List.take_append_drop i L, pCells_append]
  rw [List.take_append_of_le_length (by rw [pCells_length]; simp; omega), List.take_of_length_le (by rw [pCells_length]; simp; omega)]
theorem pCells_drop (L : List PtM) (i : Nat) (h : i ≤ L.length) : (pCells L).drop (i * 4) = pCells (L.drop i) := by
  conv => lhs; rw [← List.take_append_drop i L, pCells_append]
  rw [List.drop_append_of_le_length (by rw [pCells_length]; simp; omega), List.drop_of_length_le (by rw [pCells_length]; simp; omega), List.nil_append]
theorem pCells_at (L : List PtM) (k i : Nat) (hk : k < L.length) (hi : i < 4) : (pCells L)[k * 4 + i]? = (ptCells L[k])[i]? := by
  have e : pCells L = pCells (L.take k) ++ (ptCells L[k] ++ pCells (L.drop (k + 1))) := by
    conv => lhs; rw [← List.take_append_drop k L, pCells_append]
    congr 1
    rw [List.drop_eq_getElem_cons hk]
    rfl
  have hl : (pCells (L.take k)).length = k * 4 := by rw [pCells_length]; simp; omega
  rw [e, List.getElem?_append_right (by omega), hl, List.getElem?_append_left (by simp [ptCells]; omega)]
  congr 1; omega
theorem pCells_one (L : List PtM) : ∀ u ∈ pCells L, u.oneCell' = true := by
  intro u hu
  obtain ⟨p, _, h⟩ := List.mem_flatMap.1 hu
  simp only [ptCells, List.mem_cons, List.not_mem_nil, or_false] at h
  rcases h with rfl | rfl | rfl | rfl <;> rfl

/-- A vault in memory: its row v, its index, its points' row lv (of base B). -/
structure VauAt (w : World) (v x gp bp bn B : Nat) (lv : Value) (V : VauM) : Prop where
  row : w.heap[v]? = some (.cells #[.pointer (some ⟨x, 0, none⟩), lv, .int .i64 V.next] 57 (0, 0))
  idx : IdxAt w x gp bp bn 1000 V.X
  pts : w.ownsRow B 60 4 lv V.L.length (pCells V.L)
/-- All of it lies from B on. -/
structure From (B v x gp bp bn : Nat) : Prop where
  v : B ≤ v
  x : B ≤ x
  gp : B ≤ gp
  bp : B ≤ bp
  bn : B ≤ bn
/-- The blocks that change. -/
def vbs (v bp bn : Nat) (lv : Value) : List Nat := v :: bp :: bn :: lv.ownBlock.toList
theorem vbs_from {B v x gp bp bn : Nat} {lv : Value} {w : World} {n : Nat} {xs : List Value} (h : From B v x gp bp bn) (ho : w.ownsRow B 60 4 lv n xs) : ∀ b ∈ vbs v bp bn lv, B ≤ b := by
  intro b hb
  simp only [vbs, List.mem_cons, Option.mem_toList] at hb
  rcases hb with rfl | rfl | rfl | hb
  · exact h.v
  · exact h.bp
  · exact h.bn
  · exact (World.ownsRow.lt ho b hb).1
theorem ownsRow_keep {w w' : World} {B n : Nat} {t : TypeId} {s : Nat} {lv : Value} {xs : List Value} (h : w.ownsRow B t s lv n xs) (hk : ∀ g, lv.ownBlock = some g → w'.heap[g]? = w.heap[g]?) : w'.ownsRow B t s lv n xs := by
  obtain ⟨h1, h2⟩ := h
  refine ⟨h1, ?_⟩
  rcases h2 with h2 | ⟨g, cap, cur, hv, hg, hh, r⟩
  · exact .inl h2
  · exact .inr ⟨g, cap, cur, hv, hg, (hk g (by rw [hv]; rfl)).trans hh, r⟩
theorem ownsRow_slice {w : World} {B n : Nat} {t : TypeId} {s : Nat} {lv : Value} {xs : List Value} (h : w.ownsRow B t s lv n xs) : ∃ A c, lv = .slice A n c := by
  rcases h.2 with ⟨h1, h2⟩ | ⟨g, cap, cur, h1, _⟩
  · exact ⟨none, 0, by rw [h1, h2]⟩
  · exact ⟨_, _, h1⟩
theorem ownsRow_type {w : World} {B n : Nat} {t : TypeId} {s : Nat} {lv : Value} {xs : List Value} (h : w.ownsRow B t s lv n xs) {g : Nat} (hg : lv.ownBlock = some g) : ∃ cur, w.heap[g]? = some (.cells cur t (0, 0)) := by
  rcases h.2 with ⟨rfl, _⟩ | ⟨b, cap, cur, rfl, _, hh, _⟩
  · cases hg
  · have e : b = g := by simpa [Value.ownBlock] using hg
    subst e
    exact ⟨cur, hh⟩
section
variable {w w' : World} {v x gp bp bn B : Nat} {lv : Value} {V : VauM}
theorem VauAt.lt (h : VauAt w v x gp bp bn B lv V) : v < w.heap.size := (Array.getElem?_eq_some_iff.1 h.row).1
theorem VauAt.cell0 (h : VauAt w v x gp bp bn B lv V) : w.cell? ⟨v, 0, none⟩ = some (.pointer (some ⟨x, 0, none⟩)) := cell_of_row _ _ _ _ _ _ h.row
theorem VauAt.cell1 (h : VauAt w v x gp bp bn B lv V) : w.cell? ⟨v, 1, none⟩ = some lv := cell_of_row _ _ _ _ _ _ h.row
theorem VauAt.cell2 (h : VauAt w v x gp bp bn B lv V) : w.cell? ⟨v, 2, none⟩ = some (.int .i64 V.next) := cell_of_row _ _ _ _ _ _ h.row
theorem VauAt.below (h : VauAt w v x gp bp bn B lv V) (hb : Below w.heap.size w w') : VauAt w' v x gp bp bn B lv V :=
  ⟨(hb.block v h.lt).trans h.row, h.idx.below hb, ownsRow_keep h.pts fun g hg => hb.block g (World.ownsRow.lt h.pts g hg).2⟩
/-- The blocks of a vault differ from those of its kinds. -/
theorem VauAt.notMap (h : VauAt w v x gp bp bn B lv V) : v ∉ [bp, bn] ∧ (∀ g, lv.ownBlock = some g → g ∉ [bp, bn]) ∧ v ≠ x ∧ v ≠ gp ∧ (∀ g, lv.ownBlock = some g → g ≠ x ∧ g ≠ gp ∧ g ≠ v) := by
  obtain ⟨es, c, e1⟩ := h.idx.pool.map.ismap
  obtain ⟨es', c', e2⟩ := h.idx.map.ismap
  have hr := h.row
  have hx := h.idx.row
  have hp := h.idx.pool.row
  refine ⟨?_, fun g hg => ?_, ?_, ?_, fun g hg => ?_⟩
  · simp only [List.mem_cons, List.not_mem_nil, or_false]
    rintro (e | e)
    · rw [e, e1] at hr; cases hr
    · rw [e, e2] at hr; cases hr
  · obtain ⟨cur, hh⟩ := ownsRow_type h.pts hg
    simp only [List.mem_cons, List.not_mem_nil, or_false]
    rintro (e | e)
    · rw [e, e1] at hh; cases hh
    · rw [e, e2] at hh; cases hh
  · intro e; rw [e, hx] at hr; injection hr with hr; injection hr with _ hr _; exact absurd hr (by decide)
  · intro e; rw [e, hp] at hr; injection hr with hr; injection hr with _ hr _; exact absurd hr (by decide)
  · obtain ⟨cur, hh⟩ := ownsRow_type h.pts hg
    refine ⟨?_, ?_, ?_⟩
    · intro e; rw [e, hx] at hh; injection hh with hh; injection hh with _ hh _; exact absurd hh (by decide)
    · intro e; rw [e, hp] at hh; injection hh with hh; injection hh with _ hh _; exact absurd hh (by decide)
    · intro e; rw [e, hr] at hh; injection hh with hh; injection hh with _ hh _; exact absurd hh (by decide)
/-- The index has turned. -/
theorem VauAt.turned (h : VauAt w v x gp bp bn B lv V) {X' : IdxM} (hx : IdxAt w' x gp bp bn 1000 X') (ht : Turn [bp, bn] w w') : VauAt w' v x gp bp bn B lv ⟨X', V.L, V.next⟩ := by
  obtain ⟨n1, n2, _⟩ := h.notMap
  exact ⟨(ht.block v h.lt n1).trans h.row, hx, ownsRow_keep h.pts fun g hg => ht.block g (World.ownsRow.lt h.pts g hg).2 (n2 g hg)⟩
theorem VauAt.pt (h : VauAt w v x gp bp bn B lv V) {k : Nat} (hk : k < V.L.length) : ∃ g c, lv = .slice (some ⟨g, 0, none⟩) V.L.length c ∧ V.L.length ≤ c ∧ c ≤ maxLen ∧ ∀ i, i < 4 → w.cell? ⟨g, k * 4 + i, none⟩ = (ptCells V.L[k])[i]? := by
  have ho := h.pts
  rcases h.pts.2 with ⟨_, h0⟩ | ⟨g, cap, cur, rfl, _, _, h1, h2, _⟩
  · omega
  · refine ⟨g, cap, rfl, h1, h2, fun i hi => ?_⟩
    rw [ho.cellAt _ (by omega), pCells_at _ _ _ hk hi]
end

theorem vauNew_any (w : World) : Calls Tryz.prog 9 #[] w fun e w' => ∃ v x gp bp bn, e = .returned (.pointer (some ⟨v, 0, none⟩)) ∧ VauAt w' v x gp bp bn w.heap.size (.slice none 0 0) emptyVau ∧ From w.heap.size v x gp bp bn ∧ Below w.heap.size w w' := by
  go_enter Tryz.func9, Tryz.ntmps9
  go_wp2_with fail
  ((with_reducible refine (idxNew_any _).mono ?_); rintro e w1 ⟨x, gp, bp, bn, rfl, h1, hx, hgp, hbp, hbn, hb1⟩)
  have b2 := (Below.refl w1.heap.size w1).alloc (Nat.le_refl _) (.cells #[.pointer (some ⟨x, 0, none⟩), .slice none 0 0, .int .i64 1] 57)
  have h2 := h1.below b2
  go_wp2
  go_ret
  exact ⟨w1.heap.size, x, gp, bp, bn, rfl, ⟨heap_alloc_new w1 _, h2.mono (by omega), World.ownsRow_nil _ _ _ _⟩, ⟨hb1.size, hx, hgp, hbp, hbn⟩, belowThen hb1 b2⟩

theorem Tryz.infoPt : (Tryz.prog.info? 60).map (fun i => (i.zero, i.size, i.bytes)) = some (some (.agg #[.int .i64 0, .int .i64 0, .int .i64 0, .int .i64 0]), 4, 32) := by kernel_rfl

set_option maxHeartbeats 1000000 in
set_option maxRecDepth 100000 in
theorem clonePts_any (w : World) (B n : Nat) (lv : Value) (xs : List Value) (h : w.ownsRow B 60 4 lv n xs) (hn : n ≤ 1000) (h1 : ∀ u ∈ xs, u.oneCell' = true) :
    Calls Tryz.prog 32 #[lv] w fun e w' => ∃ A c, e = .returned (.slice A n c) ∧ w'.ownsRow w.heap.size 60 4 (.slice A n c) n xs ∧ Below w.heap.size w w' := by
  obtain ⟨i0, hi, hz0, hz1, hz2⟩ := info_parts Tryz.infoPt
  have hlen := h.1
  have ho := h
  have q22 : ∀ (w : World) (a : Option Addr) (n c n' c' : Nat), (binOp .eql 55 (.slice a n c) (.slice none n' c')).run Tryz.prog w = .ok (.bool a.isNone) w := fun w a n c n' c' => Lib.run_eql_slice_nil w _ _ a n c n' c' Tryz.underlying55
  rcases h.2 with ⟨rfl, rfl⟩ | ⟨g, cap, cur, rfl, hB, hg, hnc, hcm, hcs, htk⟩
  · have hx : xs = [] := List.length_eq_zero_iff.1 (by omega)
    subst hx
    go_enter Tryz.func32, Tryz.ntmps32
    go_wp2
    go_ret
    exact ⟨none, 0, rfl, World.ownsRow_nil _ _ _ _, Below.refl _ _⟩
  · have hnews : ∀ j u, xs[j]? = some u → w.cell? ((⟨g, 0, none⟩ : Addr).add j) = some u := fun j u hj => by
      have hjl := (List.getElem?_eq_some_iff.1 hj).1
      rw [add_lit', Nat.zero_add, ho.cellAt _ (by omega)]
      exact hj
    have HNEWS := Lib.hid hnews
    have hglt := (Array.getElem?_eq_some_iff.1 hg).1
    clear hnews
    go_enter Tryz.func32, Tryz.ntmps32
    go_wp2_with (at_builtin; refine wpList_append_own _ rfl _ _ 55 rfl w.heap.size 60 i0 _ 4 32 Tryz.underlying55 hi hz0 hz1 hz2 rfl (by decide) _ _ _ rfl (World.ownsRow_made w #[] 0 (Nat.le_refl _) (Nat.zero_le _) rfl) ⟨g, 0, none⟩ n cap xs rfl hlen (fun j u hj => Lib.cell?_alloc_some _ (HNEWS.out j u hj)) h1 (by unfold maxLen; omega) (by omega) (by simp) ?_; intro v' w3 hown' hg3 hnil3)
    go_wp2
    go_ret
    have hown2 : w3.ownsRow w.heap.size 60 4 v' n xs := by simpa using hown'
    obtain ⟨A, c, hv⟩ := ownsRow_slice hown2
    subst hv
    exact ⟨A, c, rfl, hown2, ((Below.refl _ w).alloc (Nat.le_refl _) _).grown hg3 (by simp) (fun j hj => by
      have h0 : (w.alloc (.cells #[] 60)).ownsRow w.heap.size 60 4 (.slice (some ⟨w.heap.size, 0, none⟩) 0 0) 0 [] := World.ownsRow_made w #[] 0 (Nat.le_refl _) (Nat.zero_le _) rfl
      exact (World.ownsRow.lt h0 j hj).1)⟩

/-- Copy: the same, in memory of its own. -/
theorem vauCopy_any (w : World) (v x gp bp bn B : Nat) (lv : Value) (V : VauM) (h : VauAt w v x gp bp bn B lv V) (hV : V.Ok) :
    Calls Tryz.prog 11 #[.pointer (some ⟨v, 0, none⟩)] w fun e w' => ∃ v' x' gp' bp' bn' lv', e = .returned (.pointer (some ⟨v', 0, none⟩)) ∧ VauAt w' v' x' gp' bp' bn' w.heap.size lv' V ∧ From w.heap.size v' x' gp' bp' bn' ∧ Below w.heap.size w w' := by
  have c0 := h.cell0
  have c1 := h.cell1
  have c2 := h.cell2
  have hlt := h.lt
  have hl6 := hV.len
  have HP := Lib.hid (fun w' (hb : Below w.heap.size w w') => idxCopy_any w' x gp bp bn 1000 V.X (h.idx.below hb))
  have HN := Lib.hid (fun w' (hb : Below w.heap.size w w') => clonePts_any w' B V.L.length lv (pCells V.L) (h.below hb).pts (by omega) (pCells_one _))
  have HK := Lib.hid (fun w' (hb : Below w.heap.size w w') => show w'.cell? ⟨v, 0, none⟩ = some (.pointer (some ⟨x, 0, none⟩)) ∧ w'.cell? ⟨v, 1, none⟩ = some lv ∧ w'.cell? ⟨v, 2, none⟩ = some (.int .i64 V.next) from ⟨(h.below hb).cell0, (h.below hb).cell1, (h.below hb).cell2⟩)
  go_enter Tryz.func11, Tryz.ntmps11
  go_wp2_with fail
  go_region_held3 (fun w' => w'.cell? ⟨v, 0, none⟩ = some (.pointer (some ⟨x, 0, none⟩)) ∧ w'.cell? ⟨v, 1, none⟩ = some lv ∧ w'.cell? ⟨v, 2, none⟩ = some (.int .i64 V.next)) (first | exact ⟨c0, c1, c2⟩ | exact HK.out _ (Below.trans (b := w.drew) (Below.refl _ _).drew hb1) | exact HK.out _ (belowThen (Below.trans (b := w.drew) (Below.refl _ _).drew hb1) hb2) | exact HK.out _ (belowThen (belowThen (Below.trans (b := w.drew) (Below.refl _ _).drew hb1) hb2) ((Below.refl _ _).alloc (Nat.le_refl _) _)))
    (first
      | (go_at_call 31; refine (HP.out _ (Below.refl _ _).drew).mono ?_; rintro e w1 ⟨x1, gp1, bp1, bn1, rfl, hX1, hx1, hgp1, hbp1, hbn1, hb1⟩)
      | (go_at_call 32; refine (HN.out _ (Below.trans (b := w.drew) (Below.refl _ _).drew hb1)).mono ?_; rintro e w2 ⟨A2, k2, rfl, hO2, hb2⟩))
  all_goals
    have hb01 : Below w.heap.size w w1 := Below.trans (b := w.drew) (Below.refl w.heap.size w).drew hb1
    have hs1 : w.heap.size ≤ w1.heap.size := hb01.size
    have hs2 : w1.heap.size ≤ w2.heap.size := hb2.size
    have hbw : Below w.heap.size w w2 := belowThen hb01 hb2
    have b3 := (Below.refl w2.heap.size w2).alloc (Nat.le_refl _) (.cells #[.pointer (some ⟨x1, 0, none⟩), .slice A2 V.L.length k2, .int .i64 V.next] 57)
    have hX3 := (hX1.below hb2).below b3
    have hO3 : (w2.alloc (.cells #[.pointer (some ⟨x1, 0, none⟩), .slice A2 V.L.length k2, .int .i64 V.next] 57)).ownsRow w.heap.size 60 4 (.slice A2 V.L.length k2) V.L.length (pCells V.L) := by
      have := World.ownsRow.alloc hO2 (.cells #[.pointer (some ⟨x1, 0, none⟩), .slice A2 V.L.length k2, .int .i64 V.next] 57)
      obtain ⟨a1, a2⟩ := this
      refine ⟨a1, ?_⟩
      rcases a2 with a2 | ⟨g, cap, cur, hv, hg, rest⟩
      · exact .inl a2
      · exact .inr ⟨g, cap, cur, hv, by omega, rest⟩
    clear HP HN HK c0 c1 c2
    go_wp2
    go_ret
    exact ⟨w2.heap.size, x1, gp1, bp1, bn1, _, rfl, ⟨heap_alloc_new w2 _, hX3, hO3⟩, ⟨by omega, hx1, hgp1, hbp1, hbn1⟩, belowThen hbw b3⟩
end Go.Proofs.YtlgahdabhnhjgaaGreatDoor
