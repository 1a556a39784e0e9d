/- Package vault: place, Find, replace, add. -/
import Derived.Test.YtlgahdabhnhjgaaGreatDoorZqVauM
import Derived.Test.YtlgahdabhnhjgaaGreatDoorZqLight
import Derived.Lib.SliceRun
import Derived.WalkKit
import Derived.WalkLawsBesides
import Derived.Laws.CopyRow
import Derived.Shelf.SlicesQ.IndexFunc
import Derived.Shelf.SlGeneric
import Derived.Ground.SlgfProg
/- Vaults in memory; New, Copy. -/
namespace Go.Proofs.YtlgahdabhnhjgaaGreatDoor
open Go.RowKit Go.Maps

/-- Points in memory: four numbers each. -/
def ptCells (p : PtM) : List Value := [.int .i64 p.id, .int .i64 p.disk, .int .i64 p.size, .int .i64 p.root]
def pCells (L : List PtM) : List Value := L.flatMap ptCells
theorem pCells_length : ∀ L : List PtM, (pCells L).length = L.length * 4
  | [] => rfl
  | p :: L => by
    show (ptCells p ++ pCells L).length = _
    rw [List.length_append, pCells_length L]
    simp [ptCells]; omega
theorem pCells_append (L M : List PtM) : pCells (L ++ M) = pCells L ++ pCells M := by simp [pCells]
theorem pCells_take (L : List PtM) (i : Nat) (h : i ≤ L.length) : (pCells L).take (i * 4) = pCells (L.take i) := by
  conv => lhs; rw [← List.take_append_drop i L, pCells_append]
  rw [List.take_append_of_le_length (by rw [pCells_length]; simp; omega), List.take_of_length_le (by rw [pCells_length]; simp; omega)]
theorem pCells_drop (L : List PtM) (i : Nat) (h : i ≤ L.length) : (pCells L).drop (i * 4) = pCells (L.drop i) := by
  conv => lhs; rw [← List.take_append_drop i L, pCells_append]
  rw [List.drop_append_of_le_length (by rw [pCells_length]; simp; omega), List.drop_of_length_le (by rw [pCells_length]; simp; omega), List.nil_append]
theorem pCells_at (L : List PtM) (k i : Nat) (hk : k < L.length) (hi : i < 4) : (pCells L)[k * 4 + i]? = (ptCells L[k])[i]? := by
  have e : pCells L = pCells (L.take k) ++ (ptCells L[k] ++ pCells (L.drop (k + 1))) := by
    conv => lhs; rw [← List.take_append_drop k L, pCells_append]
    congr 1
    rw [List.drop_eq_getElem_cons hk]
    rfl
  have hl : (pCells (L.take k)).length = k * 4 := by rw [pCells_length]; simp; omega
  rw [e, List.getElem?_append_right (by omega), hl, List.getElem?_append_left (by simp [ptCells]; omega)]
  congr 1; omega
theorem pCells_one (L : List PtM) : ∀ u ∈ pCells L, u.oneCell' = true := by
  intro u hu
  obtain ⟨p, _, h⟩ := List.mem_flatMap.1 hu
  simp only [ptCells, List.mem_cons, List.not_mem_nil, or_false] at h
  rcases h with rfl | rfl | rfl | rfl <;> rfl

/-- A vault in memory: its row v, its index, its points' row lv (of base B). -/
structure VauAt (w : World) (v x gp bp bn B : Nat) (lv : Value) (V : VauM) : Prop where
  row : w.heap[v]? = some (.cells #[.pointer (some ⟨x, 0, none⟩), lv, .int .i64 V.next] 57 (0, 0))
  idx : IdxAt w x gp bp bn 1000 V.X
  pts : w.ownsRow B 60 4 lv V.L.length (pCells V.L)
/-- All of it lies from B on. -/
structure From (B v x gp bp bn : Nat) : Prop where
  v : B ≤ v
  x : B ≤ x
  gp : B ≤ gp
  bp : B ≤ bp
  bn : B ≤ bn
/-- The blocks that change. -/
def vbs (v bp bn : Nat) (lv : Value) : List Nat := v :: bp :: bn :: lv.ownBlock.toList
theorem vbs_from {B v x gp bp bn : Nat} {lv : Value} {w : World} {n : Nat} {xs : List Value} (h : From B v x gp bp bn) (ho : w.ownsRow B 60 4 lv n xs) : ∀ b ∈ vbs v bp bn lv, B ≤ b := by
  intro b hb
  simp only [vbs, List.mem_cons, Option.mem_toList] at hb
  rcases hb with rfl | rfl | rfl | hb
  · exact h.v
  · exact h.bp
  · exact h.bn
  · exact (World.ownsRow.lt ho b hb).1
theorem ownsRow_keep {w w' : World} {B n : Nat} {t : TypeId} {s : Nat} {lv : Value} {xs : List Value} (h : w.ownsRow B t s lv n xs) (hk : ∀ g, lv.ownBlock = some g → w'.heap[g]? = w.heap[g]?) : w'.ownsRow B t s lv n xs := by
  obtain ⟨h1, h2⟩ := h
  refine ⟨h1, ?_⟩
  rcases h2 with h2 | ⟨g, cap, cur, hv, hg, hh, r⟩
  · exact .inl h2
  · exact .inr ⟨g, cap, cur, hv, hg, (hk g (by rw [hv]; rfl)).trans hh, r⟩
theorem ownsRow_slice {w : World} {B n : Nat} {t : TypeId} {s : Nat} {lv : Value} {xs : List Value} (h : w.ownsRow B t s lv n xs) : ∃ A c, lv = .slice A n c := by
  rcases h.2 with ⟨h1, h2⟩ | ⟨g, cap, cur, h1, _⟩
  · exact ⟨none, 0, by rw [h1, h2]⟩
  · exact ⟨_, _, h1⟩
theorem ownsRow_type {w : World} {B n : Nat} {t : TypeId} {s : Nat} {lv : Value} {xs : List Value} (h : w.ownsRow B t s lv n xs) {g : Nat} (hg : lv.ownBlock = some g) : ∃ cur, w.heap[g]? = some (.cells cur t (0, 0)) := by
  rcases h.2 with ⟨rfl, _⟩ | ⟨b, cap, cur, rfl, _, hh, _⟩
  · cases hg
  · have e : b = g := by simpa [Value.ownBlock] using hg
    subst e
    exact ⟨cur, hh⟩
section
variable {w w' : World} {v x gp bp bn B : Nat} {lv : Value} {V : VauM}
theorem VauAt.lt (h : VauAt w v x gp bp bn B lv V) : v < w.heap.size := (Array.getElem?_eq_some_iff.1 h.row).1
theorem VauAt.cell0 (h : VauAt w v x gp bp bn B lv V) : w.cell? ⟨v, 0, none⟩ = some (.pointer (some ⟨x, 0, none⟩)) := cell_of_row _ _ _ _ _ _ h.row
theorem VauAt.cell1 (h : VauAt w v x gp bp bn B lv V) : w.cell? ⟨v, 1, none⟩ = some lv := cell_of_row _ _ _ _ _ _ h.row
theorem VauAt.cell2 (h : VauAt w v x gp bp bn B lv V) : w.cell? ⟨v, 2, none⟩ = some (.int .i64 V.next) := cell_of_row _ _ _ _ _ _ h.row
theorem VauAt.below (h : VauAt w v x gp bp bn B lv V) (hb : Below w.heap.size w w') : VauAt w' v x gp bp bn B lv V :=
  ⟨(hb.block v h.lt).trans h.row, h.idx.below hb, ownsRow_keep h.pts fun g hg => hb.block g (World.ownsRow.lt h.pts g hg).2⟩
/-- The blocks of a vault differ from those of its kinds. -/
theorem VauAt.notMap (h : VauAt w v x gp bp bn B lv V) : v ∉ [bp, bn] ∧ (∀ g, lv.ownBlock = some g → g ∉ [bp, bn]) ∧ v ≠ x ∧ v ≠ gp ∧ (∀ g, lv.ownBlock = some g → g ≠ x ∧ g ≠ gp ∧ g ≠ v) := by
  obtain ⟨es, c, e1⟩ := h.idx.pool.map.ismap
  obtain ⟨es', c', e2⟩ := h.idx.map.ismap
  have hr := h.row
  have hx := h.idx.row
  have hp := h.idx.pool.row
  refine ⟨?_, fun g hg => ?_, ?_, ?_, fun g hg => ?_⟩
  · simp only [List.mem_cons, List.not_mem_nil, or_false]
    rintro (e | e)
    · rw [e, e1] at hr; cases hr
    · rw [e, e2] at hr; cases hr
  · obtain ⟨cur, hh⟩ := ownsRow_type h.pts hg
    simp only [List.mem_cons, List.not_mem_nil, or_false]
    rintro (e | e)
    · rw [e, e1] at hh; cases hh
    · rw [e, e2] at hh; cases hh
  · intro e; rw [e, hx] at hr; injection hr with hr; injection hr with _ hr _; exact absurd hr (by decide)
  · intro e; rw [e, hp] at hr; injection hr with hr; injection hr with _ hr _; exact absurd hr (by decide)
  · obtain ⟨cur, hh⟩ := ownsRow_type h.pts hg
    refine ⟨?_, ?_, ?_⟩
    · intro e; rw [e, hx] at hh; injection hh with hh; injection hh with _ hh _; exact absurd hh (by decide)
    · intro e; rw [e, hp] at hh; injection hh with hh; injection hh with _ hh _; exact absurd hh (by decide)
    · intro e; rw [e, hr] at hh; injection hh with hh; injection hh with _ hh _; exact absurd hh (by decide)
/-- The index has turned. -/
theorem VauAt.turned (h : VauAt w v x gp bp bn B lv V) {X' : IdxM} (hx : IdxAt w' x gp bp bn 1000 X') (ht : Turn [bp, bn] w w') : VauAt w' v x gp bp bn B lv ⟨X', V.L, V.next⟩ := by
  obtain ⟨n1, n2, _⟩ := h.notMap
  exact ⟨(ht.block v h.lt n1).trans h.row, hx, ownsRow_keep h.pts fun g hg => ht.block g (World.ownsRow.lt h.pts g hg).2 (n2 g hg)⟩
theorem VauAt.pt (h : VauAt w v x gp bp bn B lv V) {k : Nat} (hk : k < V.L.length) : ∃ g c, lv = .slice (some ⟨g, 0, none⟩) V.L.length c ∧ V.L.length ≤ c ∧ c ≤ maxLen ∧ ∀ i, i < 4 → w.cell? ⟨g, k * 4 + i, none⟩ = (ptCells V.L[k])[i]? := by
  have ho := h.pts
  rcases h.pts.2 with ⟨_, h0⟩ | ⟨g, cap, cur, rfl, _, _, h1, h2, _⟩
  · omega
  · refine ⟨g, cap, rfl, h1, h2, fun i hi => ?_⟩
    rw [ho.cellAt _ (by omega), pCells_at _ _ _ hk hi]
end

theorem vauNew_any (w : World) : Calls Tryz.prog 9 #[] w fun e w' => ∃ v x gp bp bn, e = .returned (.pointer (some ⟨v, 0, none⟩)) ∧ VauAt w' v x gp bp bn w.heap.size (.slice none 0 0) emptyVau ∧ From w.heap.size v x gp bp bn ∧ Below w.heap.size w w' := by
  go_enter Tryz.func9, Tryz.ntmps9
  go_wp2_with fail
  ((with_reducible refine (idxNew_any _).mono ?_); rintro e w1 ⟨x, gp, bp, bn, rfl, h1, hx, hgp, hbp, hbn, hb1⟩)
  have b2 := (Below.refl w1.heap.size w1).alloc (Nat.le_refl _) (.cells #[.pointer (some ⟨x, 0, none⟩), .slice none 0 0, .int .i64 1] 57)
  have h2 := h1.below b2
  go_wp2
  go_ret
  exact ⟨w1.heap.size, x, gp, bp, bn, rfl, ⟨heap_alloc_new w1 _, h2.mono (by omega), World.ownsRow_nil _ _ _ _⟩, ⟨hb1.size, hx, hgp, hbp, hbn⟩, belowThen hb1 b2⟩

theorem Tryz.infoPt : (Tryz.prog.info? 60).map (fun i => (i.zero, i.size, i.bytes)) = some (some (.agg #[.int .i64 0, .int .i64 0, .int .i64 0, .int .i64 0]), 4, 32) := by kernel_rfl

set_option maxHeartbeats 1000000 in
set_option maxRecDepth 100000 in
theorem clonePts_any (w : World) (B n : Nat) (lv : Value) (xs : List Value) (h : w.ownsRow B 60 4 lv n xs) (hn : n ≤ 1000) (h1 : ∀ u ∈ xs, u.oneCell' = true) :
    Calls Tryz.prog 32 #[lv] w fun e w' => ∃ A c, e = .returned (.slice A n c) ∧ w'.ownsRow w.heap.size 60 4 (.slice A n c) n xs ∧ Below w.heap.size w w' := by
  obtain ⟨i0, hi, hz0, hz1, hz2⟩ := info_parts Tryz.infoPt
  have hlen := h.1
  have ho := h
  have q22 : ∀ (w : World) (a : Option Addr) (n c n' c' : Nat), (binOp .eql 55 (.slice a n c) (.slice none n' c')).run Tryz.prog w = .ok (.bool a.isNone) w := fun w a n c n' c' => Lib.run_eql_slice_nil w _ _ a n c n' c' Tryz.underlying55
  rcases h.2 with ⟨rfl, rfl⟩ | ⟨g, cap, cur, rfl, hB, hg, hnc, hcm, hcs, htk⟩
  · have hx : xs = [] := List.length_eq_zero_iff.1 (by omega)
    subst hx
    go_enter Tryz.func32, Tryz.ntmps32
    go_wp2
    go_ret
    exact ⟨none, 0, rfl, World.ownsRow_nil _ _ _ _, Below.refl _ _⟩
  · have hnews : ∀ j u, xs[j]? = some u → w.cell? ((⟨g, 0, none⟩ : Addr).add j) = some u := fun j u hj => by
      have hjl := (List.getElem?_eq_some_iff.1 hj).1
      rw [add_lit', Nat.zero_add, ho.cellAt _ (by omega)]
      exact hj
    have HNEWS := Lib.hid hnews
    have hglt := (Array.getElem?_eq_some_iff.1 hg).1
    clear hnews
    go_enter Tryz.func32, Tryz.ntmps32
    go_wp2_with (at_builtin; refine wpList_append_own _ rfl _ _ 55 rfl w.heap.size 60 i0 _ 4 32 Tryz.underlying55 hi hz0 hz1 hz2 rfl (by decide) _ _ _ rfl (World.ownsRow_made w #[] 0 (Nat.le_refl _) (Nat.zero_le _) rfl) ⟨g, 0, none⟩ n cap xs rfl hlen (fun j u hj => Lib.cell?_alloc_some _ (HNEWS.out j u hj)) h1 (by unfold maxLen; omega) (by omega) (by simp) ?_; intro v' w3 hown' hg3 hnil3)
    go_wp2
    go_ret
    have hown2 : w3.ownsRow w.heap.size 60 4 v' n xs := by simpa using hown'
    obtain ⟨A, c, hv⟩ := ownsRow_slice hown2
    subst hv
    exact ⟨A, c, rfl, hown2, ((Below.refl _ w).alloc (Nat.le_refl _) _).grown hg3 (by simp) (fun j hj => by
      have h0 : (w.alloc (.cells #[] 60)).ownsRow w.heap.size 60 4 (.slice (some ⟨w.heap.size, 0, none⟩) 0 0) 0 [] := World.ownsRow_made w #[] 0 (Nat.le_refl _) (Nat.zero_le _) rfl
      exact (World.ownsRow.lt h0 j hj).1)⟩

/-- Copy: the same, in memory of its own. -/
theorem vauCopy_any (w : World) (v x gp bp bn B : Nat) (lv : Value) (V : VauM) (h : VauAt w v x gp bp bn B lv V) (hV : V.Ok) :
    Calls Tryz.prog 11 #[.pointer (some ⟨v, 0, none⟩)] w fun e w' => ∃ v' x' gp' bp' bn' lv', e = .returned (.pointer (some ⟨v', 0, none⟩)) ∧ VauAt w' v' x' gp' bp' bn' w.heap.size lv' V ∧ From w.heap.size v' x' gp' bp' bn' ∧ Below w.heap.size w w' := by
  have c0 := h.cell0
  have c1 := h.cell1
  have c2 := h.cell2
  have hlt := h.lt
  have hl6 := hV.len
  have HP := Lib.hid (fun w' (hb : Below w.heap.size w w') => idxCopy_any w' x gp bp bn 1000 V.X (h.idx.below hb))
  have HN := Lib.hid (fun w' (hb : Below w.heap.size w w') => clonePts_any w' B V.L.length lv (pCells V.L) (h.below hb).pts (by omega) (pCells_one _))
  have HK := Lib.hid (fun w' (hb : Below w.heap.size w w') => show w'.cell? ⟨v, 0, none⟩ = some (.pointer (some ⟨x, 0, none⟩)) ∧ w'.cell? ⟨v, 1, none⟩ = some lv ∧ w'.cell? ⟨v, 2, none⟩ = some (.int .i64 V.next) from ⟨(h.below hb).cell0, (h.below hb).cell1, (h.below hb).cell2⟩)
  go_enter Tryz.func11, Tryz.ntmps11
  go_wp2_with fail
  go_region_held3 (fun w' => w'.cell? ⟨v, 0, none⟩ = some (.pointer (some ⟨x, 0, none⟩)) ∧ w'.cell? ⟨v, 1, none⟩ = some lv ∧ w'.cell? ⟨v, 2, none⟩ = some (.int .i64 V.next)) (first | exact ⟨c0, c1, c2⟩ | exact HK.out _ (Below.trans (b := w.drew) (Below.refl _ _).drew hb1) | exact HK.out _ (belowThen (Below.trans (b := w.drew) (Below.refl _ _).drew hb1) hb2) | exact HK.out _ (belowThen (belowThen (Below.trans (b := w.drew) (Below.refl _ _).drew hb1) hb2) ((Below.refl _ _).alloc (Nat.le_refl _) _)))
    (first
      | (go_at_call 31; refine (HP.out _ (Below.refl _ _).drew).mono ?_; rintro e w1 ⟨x1, gp1, bp1, bn1, rfl, hX1, hx1, hgp1, hbp1, hbn1, hb1⟩)
      | (go_at_call 32; refine (HN.out _ (Below.trans (b := w.drew) (Below.refl _ _).drew hb1)).mono ?_; rintro e w2 ⟨A2, k2, rfl, hO2, hb2⟩))
  all_goals
    have hb01 : Below w.heap.size w w1 := Below.trans (b := w.drew) (Below.refl w.heap.size w).drew hb1
    have hs1 : w.heap.size ≤ w1.heap.size := hb01.size
    have hs2 : w1.heap.size ≤ w2.heap.size := hb2.size
    have hbw : Below w.heap.size w w2 := belowThen hb01 hb2
    have b3 := (Below.refl w2.heap.size w2).alloc (Nat.le_refl _) (.cells #[.pointer (some ⟨x1, 0, none⟩), .slice A2 V.L.length k2, .int .i64 V.next] 57)
    have hX3 := (hX1.below hb2).below b3
    have hO3 : (w2.alloc (.cells #[.pointer (some ⟨x1, 0, none⟩), .slice A2 V.L.length k2, .int .i64 V.next] 57)).ownsRow w.heap.size 60 4 (.slice A2 V.L.length k2) V.L.length (pCells V.L) := by
      have := World.ownsRow.alloc hO2 (.cells #[.pointer (some ⟨x1, 0, none⟩), .slice A2 V.L.length k2, .int .i64 V.next] 57)
      obtain ⟨a1, a2⟩ := this
      refine ⟨a1, ?_⟩
      rcases a2 with a2 | ⟨g, cap, cur, hv, hg, rest⟩
      · exact .inl a2
      · exact .inr ⟨g, cap, cur, hv, by omega, rest⟩
    clear HP HN HK c0 c1 c2
    go_wp2
    go_ret
    exact ⟨w2.heap.size, x1, gp1, bp1, bn1, _, rfl, ⟨heap_alloc_new w2 _, hX3, hO3⟩, ⟨by omega, hx1, hgp1, hbp1, hbn1⟩, belowThen hbw b3⟩
end Go.Proofs.YtlgahdabhnhjgaaGreatDoor

/- Laws of the walk that are about memory alone: an aggregate is loaded from, or stored into, any place of a block that is known whole; results that lie in cells. -/
namespace Go.Proofs.YtlgahdabhnhjgaaGreatDoor
section
variable {P : Program}

theorem add_lit (b off n : Nat) : (⟨b, off, none⟩ : Addr).add n = ⟨b, off + n, none⟩ := by
  unfold Addr.add; split
  · rename_i h; subst h; rfl
  · rfl

/-- So many cells of a block, from a place on. -/
def cut (cs : Array Value) (off n : Nat) : Array Value := ((cs.toList.drop off).take n).toArray
/-- A block with other cells from a place on. -/
def splice (cs : Array Value) (off : Nat) (vs : Array Value) : Array Value := (cs.toList.take off ++ vs.toList ++ cs.toList.drop (off + vs.size)).toArray

theorem run_loadVar_at (w : World) (g off n : Nat) (t ty : TypeId) (cs : Array Value) (fr : Nat × Nat) (d : TypeDesc) (hg : w.heap[g]? = some (.cells cs t fr))
    (hu : P.underlying ty = some d) (hd : (match d with | .struct _ | .array _ _ => true | _ => false) = true) (hi : (P.info? ty).map (·.size) = some n) (hn : off + n ≤ cs.size) :
    (loadVar ty ⟨g, off, none⟩).run P w = .ok (.agg (cut cs off n)) w := by
  have hlen : ((cs.toList.drop off).take n).length = n := by simp; omega
  have hl : (loadCells ⟨g, off, none⟩ ((cs.toList.drop off).take n).length).run P w = .ok ((cs.toList.drop off).take n).toArray w :=
    run_loadCells_list (P := P) w ⟨g, off, none⟩ _ (fun j v hv => by
      rw [add_lit, cell_of_row w g _ cs t fr hg]
      rw [List.getElem?_take] at hv
      split at hv
      · rw [List.getElem?_drop] at hv; simpa using hv
      · cases hv)
  rw [hlen] at hl
  cases hq : P.info? ty with
  | none => simp [hq] at hi
  | some i =>
    have hs : i.size = n := by simpa [hq] using hi
    have hagg : (isAgg ty).run P w = .ok true w := by
      unfold isAgg
      rw [Sem.run_bind, run_underlying hu w]
      cases d <;> simp_all
    simp only [loadVar, Sem.run_bind, hagg, sizeOf, typeInfo, hq, hs, hl, cut, Result.andThen_ok, if_true, Sem.run_pure, run_program]

theorem run_storeVar_at (w : World) (g off n : Nat) (t ty : TypeId) (cs vs : Array Value) (hg : w.heap[g]? = some (.cells cs t (0, 0)))
    (hi : (P.info? ty).map (·.size) = some n) (hn : off + n ≤ cs.size) (hv : vs.size = n) (h1 : ∀ v ∈ vs.toList, v.oneCell' = true) :
    (storeVar ty ⟨g, off, none⟩ (.agg vs)).run P w = .ok () (w.setRow g (splice cs off vs)) := by
  cases hq : P.info? ty with
  | none => simp [hq] at hi
  | some i =>
    have hs : i.size = n := by simpa [hq] using hi
    have hst := run_storeCells_at P g off t vs.toList 0 cs w hg (by simp; omega) h1
    simp only [Nat.add_zero, Array.length_toList] at hst
    simp [storeVar, Sem.run_bind, sizeOf, typeInfo, hq, hs, Value.cells, hv, hst, splice]

theorem wpList_load_at {ops : Array Oper} {rest : List Oper} {o : Oper} {a : Act} {w : World} {Q : Exit → Act → World → Prop} (hgd : o.guard = none) (ty : TypeId) (x : Operand) (ho : o.op = .load ty x)
    (g off n : Nat) (hx : a.eval x = .pointer (some ⟨g, off, none⟩)) (t : TypeId) (cs : Array Value) (fr : Nat × Nat) (d : TypeDesc) (hg : w.heap[g]? = some (.cells cs t fr))
    (hu : P.underlying ty = some d) (hd : (match d with | .struct _ | .array _ _ => true | _ => false) = true) (hi : (P.info? ty).map (·.size) = some n) (hn : off + n ≤ cs.size)
    (vs : Array Value) (hvs : cut cs off n = vs) (h : wpList P ops Q rest (a.put o.dst (.agg vs)) w) : wpList P ops Q (o :: rest) a w :=
  wpList_plain hgd fun K hK => by
    subst hvs
    unfold Oper.wp execOp
    simp only [ho, hx, Instr.loadAt, Instr.sureAddr, Sem.run_bind, Sem.run_pure, Result.andThen_ok, run_loadVar_at w g off n t ty cs fr d hg hu hd hi hn]
    exact hK _ _ h

theorem wpList_store_at {ops : Array Oper} {rest : List Oper} {o : Oper} {a : Act} {w : World} {Q : Exit → Act → World → Prop} (hgd : o.guard = none) (ty : TypeId) (x v : Operand) (ho : o.op = .store ty x v)
    (g off n : Nat) (hx : a.eval x = .pointer (some ⟨g, off, none⟩)) (t : TypeId) (cs vs : Array Value) (hv : a.eval v = .agg vs) (hg : w.heap[g]? = some (.cells cs t (0, 0)))
    (hi : (P.info? ty).map (·.size) = some n) (hn : off + n ≤ cs.size) (hvn : vs.size = n) (h1 : ∀ v ∈ vs.toList, v.oneCell' = true) (cs' : Array Value) (hcs : splice cs off vs = cs')
    (h : wpList P ops Q rest (a.put o.dst undef) (w.setRow g cs')) : wpList P ops Q (o :: rest) a w :=
  wpList_plain hgd fun K hK => by
    subst hcs
    unfold Oper.wp execOp
    simp only [ho, hx, hv, Instr.storeAt, Instr.sureAddr, Sem.run_bind, Sem.run_pure, Result.andThen_ok, run_storeVar_at w g off n t ty cs vs hg hi hn hvn h1]
    exact hK _ _ h

/-- clear of a slice that lies in a block that is known whole. -/
theorem wpList_clear {ops : Array Oper} {rest : List Oper} {o : Oper} {a : Act} {w : World} {Q : Exit → Act → World → Prop} (hgd : o.guard = none) (t : TypeId) (x : Operand) (ho : o.op = .call { callee := .builtin .clear, args := #[x], argTypes := #[t] })
    (g off n c : Nat) (hx : a.eval x = .slice (some ⟨g, off, none⟩) n c) (hn : 0 < n) (e : TypeId) (z : Value) (ht : P.underlying t = some (.slice e)) (hz : (zeroValue e).run P w = .ok z w) (tr : TypeId) (cs : Array Value) (hg : w.heap[g]? = some (.cells cs tr (0, 0)))
    (hfit : off + (Builtin.zeroCells z.cells n).size ≤ cs.size) (h1 : ∀ v ∈ (Builtin.zeroCells z.cells n).toList, v.oneCell' = true) (cs' : Array Value) (hcs : splice cs off (Builtin.zeroCells z.cells n) = cs')
    (h : wpList P ops Q rest (a.put o.dst (.tuple #[])) (w.setRow g cs')) : wpList P ops Q (o :: rest) a w :=
  wpList_plain hgd fun K hK => by
    subst hcs
    have hst := run_storeCells_at P g off tr (Builtin.zeroCells z.cells n).toList 0 cs w hg (by simpa using hfit) h1
    simp only [Nat.add_zero, Array.length_toList] at hst
    obtain ⟨m, rfl⟩ : ∃ m, n = m + 1 := ⟨n - 1, by omega⟩
    unfold Oper.wp
    simp [execOp, ho, resolve, invoke, builtin, hx, Builtin.clear_, run_underlying ht, hz, hst, Result.andThen]
    refine hK _ _ ?_
    simpa [splice] using h

/-- Guards: is the next operation a load into a slot, a store of a type? They change nothing. -/
theorem isLoad {ops : Array Oper} {rest : List Oper} {a : Act} {w : World} {Q : Exit → Act → World → Prop} (d : Nat) {ty t : TypeId} {x : Operand} {pos : String} {after : Array Edge}
    (h : wpList P ops Q (⟨some d, .load ty x, t, pos, after, none⟩ :: rest) a w) : wpList P ops Q (⟨some d, .load ty x, t, pos, after, none⟩ :: rest) a w := h
theorem isClear {ops : Array Oper} {rest : List Oper} {a : Act} {w : World} {Q : Exit → Act → World → Prop} {ty t : TypeId} {x : Operand} {pos : String} {after : Array Edge} {d : Option Nat}
    (h : wpList P ops Q (⟨d, .call { callee := .builtin .clear, args := #[x], argTypes := #[ty] }, t, pos, after, none⟩ :: rest) a w) : wpList P ops Q (⟨d, .call { callee := .builtin .clear, args := #[x], argTypes := #[ty] }, t, pos, after, none⟩ :: rest) a w := h
theorem isStore {ops : Array Oper} {rest : List Oper} {a : Act} {w : World} {Q : Exit → Act → World → Prop} (ty : TypeId) {t : TypeId} {x v : Operand} {pos : String} {after : Array Edge}
    (h : wpList P ops Q (⟨none, .store ty x v, t, pos, after, none⟩ :: rest) a w) : wpList P ops Q (⟨none, .store ty x v, t, pos, after, none⟩ :: rest) a w := h
end
end Go.Proofs.YtlgahdabhnhjgaaGreatDoor

/- A struct result that lies in a cell, beside a second result. -/
namespace Go.Proofs.YtlgahdabhnhjgaaGreatDoor
open Go.RowKit

theorem results_cell_tmp {P : Program} {fn : Func} {p q : Tmp} {ty : TypeId} (h : fn.results = #[.cell p ty, .tmp q]) (tmps : Array Value) (w : World) (g : Nat) (t : TypeId) (cs : Array Value) (fr : Nat × Nat) (d : TypeDesc)
    (hp : tmps.getD p undef = .pointer (some ⟨g, 0, none⟩)) (hg : w.heap[g]? = some (.cells cs t fr))
    (hu : P.underlying ty = some d) (hd : (match d with | .struct _ | .array _ _ => true | _ => false) = true) (hi : (P.info? ty).map (·.size) = some cs.size) (u : Value) (hq : tmps.getD q undef = u) :
    (results fn tmps).run P w = .ok (.tuple #[.agg cs, u]) w := by
  have hp' : tmps[p]?.getD undef = .pointer (some ⟨g, 0, none⟩) := by simpa using hp
  have hq' : tmps[q]?.getD undef = u := by simpa using hq
  simp [results, h, hp', hq', asAddr, run_loadVar_row w g t ty cs fr d hg hu hd hi]
theorem below_row {B : Nat} {w W : World} (h : Below B w W) {g : Nat} (hg : B ≤ g) (cs : Array Value) : Below B w (W.setRow g cs) :=
  ⟨h.os, h.tape, h.output, by simpa using h.size, fun k hk => (setRow_other _ _ _ _ (by omega)).trans (h.block k hk)⟩
theorem splice4 (a b c d e f g h : Value) : splice #[a, b, c, d] 0 #[e, f, g, h] = #[e, f, g, h] := rfl
end Go.Proofs.YtlgahdabhnhjgaaGreatDoor

/- Package vault: place, Find, replace, add. -/
namespace Go.Proofs.YtlgahdabhnhjgaaGreatDoor
open Go.RowKit Go.Maps

def Tryz.idxFnP_ren : Go.Shelf.Ren := ⟨fun | 6 => 82 | n => n, fun | 22 => 55 | 23 => 60 | 25 => 135 | 3 => 3 | 0 => 0 | 4 => 4 | n => n, fun | n => n⟩
theorem Tryz.idxFnP : Go.Proofs.SlLaysH0.n6 Tryz.prog Tryz.idxFnP_ren := {
  mixed := by kernel_rfl
  f6 := ⟨Tryz.f82.name, by decide, Tryz.func82.trans (congrArg some (by kernel_rfl))⟩
  t0 := Tryz.underlying0
  a0 := Tryz.isAgg0
  z0 := Tryz.sizeOf0
  v0 := Tryz.zeroValue0
  t3 := Tryz.underlying3
  a3 := Tryz.isAgg3
  z3 := Tryz.sizeOf3
  v3 := Tryz.zeroValue3
  t4 := Tryz.underlying4
  a4 := Tryz.isAgg4
  z4 := Tryz.sizeOf4
  v4 := Tryz.zeroValue4
  t22 := Tryz.underlying55
  a22 := Tryz.isAgg55
  z22 := Tryz.sizeOf55
  v22 := Tryz.zeroValue55
  t25 := Tryz.underlying135
  a25 := Tryz.isAgg135
  z25 := Tryz.sizeOf135
  v25 := Tryz.zeroValue135 }

def placeInt (L : List PtM) (id : Int) : Int := match placeOf L id with
  | none => -1
  | some k => (k : Int)

theorem placePred (id : Int) (b : Nat) (w : World) (hB : b < w.heap.size) (hcell : w.cell? ⟨b, 0, none⟩ = some (.int .i64 id)) :
    PredBelow Tryz.prog 83 #[.pointer (some ⟨b, 0, none⟩)] (fun p => .agg (ptCells p).toArray) (fun p => decide ((p.id : Int) = id)) w := fun W p hb => by
  have hc : W.cell? ⟨b, 0, none⟩ = some (.int .i64 id) := (hb.cell (p := ⟨b, 0, none⟩) hB).trans hcell
  have hBW : b < W.heap.size := Nat.lt_of_lt_of_le hB hb.size
  have hne : b ≠ W.heap.size := by omega
  show Calls Tryz.prog 83 #[.agg #[.int .i64 p.id, .int .i64 p.disk, .int .i64 p.size, .int .i64 p.root], .pointer (some ⟨b, 0, none⟩)] W _
  go_enter Tryz.func83, Tryz.ntmps83
  go_wp2
  go_ret
  exact ⟨congrArg (fun b => Ending.returned (.bool b)) (by rw [Bool.eq_iff_iff]; simp), hb.alloc hb.size _⟩

theorem idx_place (L : List PtM) (id : Int) : Lib.idxBy (fun _ y => decide ((y.id : Int) = id)) (L.take L.length) default = placeInt L id := by
  unfold placeInt
  cases hp : placeOf L id with
  | none =>
    have := placeOf_none hp
    refine Lib.idxBy_miss _ L L.length default fun j hj => ?_
    rw [getElem!_pos L j hj]
    simpa using this _ (List.getElem_mem hj)
  | some k =>
    unfold placeOf at hp
    obtain ⟨hk, h1, h2⟩ := List.findIdx?_eq_some_iff_getElem.1 hp
    refine Lib.idxBy_hit _ L L.length k default hk (Nat.le_refl _) ?_ fun j hj => ?_
    · rw [getElem!_pos L k hk]; exact h1
    · have hjl : j < L.length := by omega
      rw [getElem!_pos L j hjl]
      have := h2 j hj
      simpa using this

set_option maxHeartbeats 1000000 in
set_option maxRecDepth 100000 in
theorem idxFnNil (w : World) (f : Value) : Calls Tryz.prog 82 #[.slice none 0 0, f] w fun e w' => e = .returned (.int .i64 (-1)) ∧ w' = w := by
  go_enter Tryz.func82, Tryz.ntmps82
  go_wp2
  go_loopw [8] (fun i w' => i = .int .i64 0 ∧ w' = w) (fun _ _ => 0)
  case atStart => exact ⟨rfl, rfl⟩
  case round =>
    obtain ⟨rfl, rfl⟩ := hrel
    go_wp2
    go_ret
    exact ⟨rfl, rfl⟩

set_option maxHeartbeats 1000000 in
set_option maxRecDepth 100000 in
theorem place_any (w : World) (v x gp bp bn B : Nat) (lv : Value) (V : VauM) (id : Int) (h : VauAt w v x gp bp bn B lv V) (hV : V.Ok) :
    Calls Tryz.prog 49 #[.pointer (some ⟨v, 0, none⟩), .int .i64 id] w fun e w' => e = .returned (.int .i64 (placeInt V.L id)) ∧ Below w.heap.size w w' := by
  have hl6 := hV.len
  have hp := h.pts
  have hb1 := (Below.refl w.heap.size w).alloc (Nat.le_refl _) (.cells #[.int .i64 id] 3)
  have c1 := (h.below hb1).cell1
  rcases h.pts.2 with ⟨hlv, h0⟩ | ⟨g, cap, cur, hlv, _, hg, h1, h2, _⟩
  · have hL : V.L = [] := List.length_eq_zero_iff.1 h0
    have hpl : placeInt V.L id = -1 := by rw [hL]; rfl
    rw [hpl]
    rw [hlv] at c1
    clear hp h
    go_enter Tryz.func49, Tryz.ntmps49
    go_wp2_with fail
    ((with_reducible refine (idxFnNil _ _).mono ?_); rintro e w2 ⟨rfl, rfl⟩)
    go_wp2
    go_ret
    exact ⟨rfl, hb1⟩
  · rw [hlv] at c1 hp
    have hglt := (Array.getElem?_eq_some_iff.1 hg).1
    have eg : ∀ args w, (callFunc 83 args).run Tryz.prog w = .ok (.enter 83 args) w := enters_of Tryz.func83 (by kernel_rfl) rfl
    have hcon := AnyQ.slices_IndexFunc Tryz.idxFnP 4 Tryz.isAgg60 Tryz.sizeOf60 ptCells (fun _ => rfl) (fun p => decide ((p.id : Int) = id)) 83 #[.pointer (some ⟨w.heap.size, 0, none⟩)] eg g 0 V.L.length cap V.L (w.alloc (.cells #[.int .i64 id] 3))
      (placePred id w.heap.size _ (by simp) (by simp)) (Nat.le_refl _) (by omega) (by simp; omega) (fun j hj i u hi => by
        have hi4 : i < 4 := by have := (List.getElem?_eq_some_iff.1 hi).1; simpa [ptCells] using this
        rw [getElem!_pos V.L j hj] at hi
        refine Lib.cell?_alloc_some _ ?_
        rw [Nat.zero_add, hp.cellAt _ (by omega), pCells_at _ _ _ hj hi4]
        exact hi)
    rw [idx_place] at hcon
    change Calls Tryz.prog 82 _ _ _ at hcon
    generalize placeInt V.L id = r at hcon ⊢
    generalize V.L.length = n at *
    have HCON := Lib.hid hcon
    clear hp h hcon
    go_enter Tryz.func49, Tryz.ntmps49
    go_wp2_with fail
    ((with_reducible refine HCON.out.mono ?_); rintro e w2 ⟨rfl, hb2⟩)
    go_wp2
    go_ret
    exact ⟨rfl, belowThen hb1 hb2⟩

theorem Tryz.infoPtS : (Tryz.prog.info? 60).map (·.size) = some 4 := by kernel_rfl
/-- A result that lies in a row, and one that does not. -/
theorem find_no (w : World) (v x gp bp bn B : Nat) (lv : Value) (V : VauM) (id : Int) (h : VauAt w v x gp bp bn B lv V) (hV : V.Ok) (hp : placeOf V.L id = none) :
    Calls Tryz.prog 54 #[.pointer (some ⟨v, 0, none⟩), .int .i64 id] w fun e w' => e = .returned (.tuple #[.agg #[.int .i64 0, .int .i64 0, .int .i64 0, .int .i64 0], .bool false]) ∧ Below w.heap.size w w' := by
  have b1 := (Below.refl w.heap.size w).alloc (Nat.le_refl _) (.cells #[.int .i64 0, .int .i64 0, .int .i64 0, .int .i64 0] 60)
  have e1 := heap_alloc_new w (.cells #[.int .i64 0, .int .i64 0, .int .i64 0, .int .i64 0] 60)
  have hs1 : w.heap.size < (w.alloc (.cells #[.int .i64 0, .int .i64 0, .int .i64 0, .int .i64 0] 60)).heap.size := (Array.getElem?_eq_some_iff.1 e1).1
  have hc := place_any _ v x gp bp bn B lv V id (h.below b1) hV
  rw [show placeInt V.L id = -1 by unfold placeInt; rw [hp]] at hc
  have HC := Lib.hid hc
  clear hc
  go_enter Tryz.func54, Tryz.ntmps54
  go_wp2_with fail
  ((with_reducible refine HC.out.mono ?_); rintro e w2 ⟨rfl, hb2⟩)
  have r2 := (hb2.block _ hs1).trans e1
  have hb3 := belowThen b1 hb2
  obtain ⟨gz, hgz⟩ : ∃ gz, w.heap.size = gz := ⟨_, rfl⟩
  rw [hgz] at r2 ⊢
  go_wp2_with ((with_reducible refine isStore 60 ?_); refine wpList_store_at rfl 60 _ _ rfl gz 0 4 rfl 60 _ #[.int .i64 0, .int .i64 0, .int .i64 0, .int .i64 0] rfl r2 Tryz.infoPtS (by simp) rfl (by simp [Value.oneCell']) _ (splice4 _ _ _ _ _ _ _ _) ?_)
  refine bodyPost_ret (results_cell_tmp rfl _ _ gz 60 #[.int .i64 0, .int .i64 0, .int .i64 0, .int .i64 0] (0, 0) _ rfl (setRow_heap _ _ _ _ _ _ r2) Tryz.underlying60 rfl Tryz.infoPtS (.bool false) rfl) rfl ⟨rfl, ?_⟩
  exact below_row hb3 (by omega) _

set_option maxRecDepth 100000 in
theorem find_yes (w : World) (v x gp bp bn B : Nat) (lv : Value) (V : VauM) (id : Int) (h : VauAt w v x gp bp bn B lv V) (hV : V.Ok) (k : Nat) (hk : k < V.L.length) (hp : placeOf V.L id = some k) (p : PtM) (hpt : V.L[k] = p) :
    Calls Tryz.prog 54 #[.pointer (some ⟨v, 0, none⟩), .int .i64 id] w fun e w' => e = .returned (.tuple #[.agg #[.int .i64 p.id, .int .i64 p.disk, .int .i64 p.size, .int .i64 p.root], .bool true]) ∧ Below w.heap.size w w' := by
  have b1 := (Below.refl w.heap.size w).alloc (Nat.le_refl _) (.cells #[.int .i64 0, .int .i64 0, .int .i64 0, .int .i64 0] 60)
  have e1 := heap_alloc_new w (.cells #[.int .i64 0, .int .i64 0, .int .i64 0, .int .i64 0] 60)
  have hs1 : w.heap.size < (w.alloc (.cells #[.int .i64 0, .int .i64 0, .int .i64 0, .int .i64 0] 60)).heap.size := (Array.getElem?_eq_some_iff.1 e1).1
  have hc := place_any _ v x gp bp bn B lv V id (h.below b1) hV
  rw [show placeInt V.L id = (k : Int) by unfold placeInt; rw [hp]] at hc
  have HC := Lib.hid hc
  clear hc
  obtain ⟨n, hn⟩ : ∃ n, V.L.length = n := ⟨_, rfl⟩
  have hl6 := hV.len
  have i1 : (0 : Int) ≤ (k : Int) := by omega
  have i2 : (k : Int) < (n : Int) := by omega
  have i3 : ¬ ((k : Int) < 0) := by omega
  go_enter Tryz.func54, Tryz.ntmps54
  go_wp2_with fail
  ((with_reducible refine HC.out.mono ?_); rintro e w2 ⟨rfl, hb2⟩)
  have hb3 := belowThen b1 hb2
  have h2 := h.below hb3
  have r2 := (hb2.block _ hs1).trans e1
  obtain ⟨g, c, hlv, hnc, hcm, hcell⟩ := h2.pt hk
  have c1 := h2.cell1
  rw [hpt] at hcell
  rw [hlv, hn] at c1
  have d0 : w2.cell? ⟨g, k * 4, none⟩ = some (.int .i64 p.id) := hcell 0 (by omega)
  have d1 : w2.cell? ⟨g, k * 4 + 1, none⟩ = some (.int .i64 p.disk) := hcell 1 (by omega)
  have d2 : w2.cell? ⟨g, k * 4 + 2, none⟩ = some (.int .i64 p.size) := hcell 2 (by omega)
  have d3 : w2.cell? ⟨g, k * 4 + 3, none⟩ = some (.int .i64 p.root) := hcell 3 (by omega)
  clear hcell h h2 HC
  obtain ⟨gz, hgz⟩ : ∃ gz, w.heap.size = gz := ⟨_, rfl⟩
  rw [hgz] at r2 ⊢
  go_wp2_with ((with_reducible refine isStore 60 ?_); refine wpList_store_at rfl 60 _ _ rfl gz 0 4 rfl 60 _ #[.int .i64 p.id, .int .i64 p.disk, .int .i64 p.size, .int .i64 p.root] rfl r2 Tryz.infoPtS (by simp) rfl (by simp [Value.oneCell']) _ (splice4 _ _ _ _ _ _ _ _) ?_)
  refine bodyPost_ret (results_cell_tmp rfl _ _ gz 60 #[.int .i64 p.id, .int .i64 p.disk, .int .i64 p.size, .int .i64 p.root] (0, 0) _ rfl (setRow_heap _ _ _ _ _ _ r2) Tryz.underlying60 rfl Tryz.infoPtS (.bool true) rfl) rfl ⟨rfl, ?_⟩
  exact below_row hb3 (by omega) _

/-- What a call leaves of a vault's index. -/
theorem replace_any (w : World) (v x gp bp bn : Nat) (X : IdxM) (root at_ : Nat) (data : ByteArray) (X' : IdxM) (n : Nat) (ne : Int) (hc : w.cell? ⟨v, 0, none⟩ = some (.pointer (some ⟨x, 0, none⟩))) (h : IdxAt w x gp bp bn 1000 X) (hr : root ≤ 24) (ha : at_ < 16) (hdata : data.size ≤ 9223372036854775807) (hS : replaceX X root at_ data = (X', n, ne)) :
    Calls Tryz.prog 60 #[.pointer (some ⟨v, 0, none⟩), .int .i64 root, .int .i64 at_, .string data] w (IdxRet w x gp bp bn 1011 X' (.tuple #[.int .i64 n, errV ne])) := by
  obtain ⟨X1, n1, e1, hs⟩ : ∃ a b c, setX X root at_ data = (a, b, c) := ⟨_, _, _, rfl⟩
  have hset := idxSet_any w x gp bp bn 1000 X root at_ data h (by omega) ha (by omega) hdata
  rw [hs] at hset
  have HSET := Lib.hid hset
  have HMAPS := Lib.hid h.maps
  clear hset
  go_enter Tryz.func60, Tryz.ntmps60
  go_wp2_with fail
  ((with_reducible refine HSET.out.mono ?_); rintro e w2 ⟨rfl, h2, t2⟩)
  unfold replaceX at hS
  rw [hs] at hS
  simp only at hS
  by_cases he : e1 = 0
  · subst he
    simp only [if_true] at hS
    injection hS with a1 a2
    injection a2 with a2 a3
    subst a1 a2 a3
    have hv0 : errV 0 = .nilIface := rfl
    rw [hv0]
    have c2 : w2.cell? ⟨v, 0, none⟩ = some (.pointer (some ⟨x, 0, none⟩)) := by
      have hlt := World.block_lt_of_cell? w _ hc
      rw [World.cell?_of_block (w := w) (a := ⟨v, 0, none⟩) (t2.block v hlt fun hb => ?_)]
      · exact hc
      · obtain ⟨es, c, e⟩ := HMAPS.out _ hb
        simp [World.cell?, e] at hc
    clear hv0 hc HSET
    go_wp2_with fail
    ((with_reducible refine (idxFree_any _ x gp bp bn _ X1 root h2 (by omega) (by omega)).mono ?_); rintro e w3 ⟨rfl, h3, t3⟩)
    go_wp2
    go_ret2
    exact ⟨rfl, h3, t2.trans t3⟩
  · simp only [he, if_false] at hS
    injection hS with a1 a2
    injection a2 with a2 a3
    subst a1 a2 a3
    have hv : errV e1 = .iface 93 (.int .i64 e1) := by simp [errV, he]
    have HV := Lib.hid hv
    rw [hv]
    clear hv he hc HSET
    go_wp2
    go_ret2
    exact ⟨by rw [HV.out]; rfl, h2, t2⟩
end Go.Proofs.YtlgahdabhnhjgaaGreatDoor
