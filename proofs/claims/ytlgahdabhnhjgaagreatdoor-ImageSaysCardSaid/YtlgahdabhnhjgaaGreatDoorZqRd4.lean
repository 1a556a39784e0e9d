/- image.read: nodes. -/
import Derived.Test.YtlgahdabhnhjgaaGreatDoorZqApO
/- image.read: points. -/
namespace Go.Proofs.YtlgahdabhnhjgaaGreatDoor
open Go.RowKit Go.Maps

theorem belowAl {w w' : World} (h : Below w.heap.size w w') (o : Obj) : Below w.heap.size w (w'.alloc o) := h.alloc h.size o
theorem GVAt.grown {w W w3 : World} {v x gp bp bn B : Nat} {lv : Value} {G : GV} (_ : GVAt w v x gp bp bn B lv G) (hW : Below w.heap.size w W) (hg : W.grownBy w3 lv.ownBlock) : ∀ k, k < w.heap.size → (∀ g, lv.ownBlock = some g → g ≠ k) → w3.heap[k]? = w.heap[k]? :=
  fun k hk hn => (hg.block k (Nat.lt_of_lt_of_le hk hW.size) (fun e => hn k e.symm rfl)).trans (hW.block k hk)
theorem GVAt.vrow {w W w3 : World} {v x gp bp bn B : Nat} {lv : Value} {G : GV} (h : GVAt w v x gp bp bn B lv G) (hW : Below w.heap.size w W) (hg : W.grownBy w3 lv.ownBlock) : w3.heap[v]? = some (.cells #[.pointer (some ⟨x, 0, none⟩), lv, .int .i64 G.next] 57 (0, 0)) :=
  (h.grown hW hg v h.lt.1 fun g e => (h.apart.2 g e).2.2.1).trans h.row
theorem GVAt.added {w W w3 : World} {v x gp bp bn B : Nat} {lv lv' : Value} {G : GV} {p : GP} (h : GVAt w v x gp bp bn B lv G) (hW : Below w.heap.size w W) (hg : W.grownBy w3 lv.ownBlock) (ho : w3.ownsRow B 60 4 lv' (G.L.length + 1) (gvCells (G.L ++ [p]))) :
    GVAt (w3.setCell ⟨v, 1, none⟩ lv') v x gp bp bn B lv' { G with L := G.L ++ [p] } := by
  obtain ⟨⟨a1, a2, a3, a4, a5, a6, a7, a8⟩, a9⟩ := h.apart
  obtain ⟨l1, l2, l3, l4, l5⟩ := h.lt
  have key := h.grown hW hg
  have r3 := h.vrow hW hg
  have keep : ∀ k, k ≠ v → (w3.setCell ⟨v, 1, none⟩ lv').heap[k]? = w3.heap[k]? := fun k hk => Below.heap_setCell _ _ _ _ hk
  have hvn : ∀ g, lv'.ownBlock = some g → g ≠ v := fun g hg' e => by
    obtain ⟨cur, hh⟩ := ownsRow_type ho hg'
    rw [e, r3] at hh
    injection hh with hh
    injection hh with _ hh _
    exact absurd hh (by decide)
  refine ⟨heap_setCell_same w3 v 1 _ _ _ r3, ?_, ?_, h.P.keep ?_, h.N.keep ?_, h.ne, ?_, h.frm⟩
  · exact (keep x a7.symm).trans ((key x l2 fun g e => (a9 g e).2.2.2.1).trans h.xrow)
  · exact (keep gp a8.symm).trans ((key gp l3 fun g e => (a9 g e).2.2.2.2).trans h.grow)
  · exact (keep bp a1).trans (key bp l4 fun g e => (a9 g e).1)
  · exact (keep bn a4).trans (key bn l5 fun g e => (a9 g e).2.1)
  · have e : (G.L ++ [p]).length = G.L.length + 1 := by simp
    show (w3.setCell ⟨v, 1, none⟩ lv').ownsRow B 60 4 lv' (G.L ++ [p]).length (gvCells (G.L ++ [p]))
    rw [e]
    exact ownsRow_keep ho fun g hg' => keep g (hvn g hg')

set_option maxHeartbeats 4000000 in
set_option maxRecDepth 100000 in
theorem read_p (w : World) (v x gp bp bn B : Nat) (lv : Value) (G : GV) (r : Ch) (h : GVAt w v x gp bp bn B lv G) (hE : Errs w) (hB : B ≤ w.heap.size) (hsz : r.val.size ≤ 1000) (hk : G.L.length ≤ 1000) (hkind : r.key.data.toList.take 1 = [112]) :
    Calls Tryz.prog 42 #[.pointer (some ⟨v, 0, none⟩), .agg #[.string r.key, .string r.val, .bool r.gone]] w (RdRet w v x gp bp bn B (readM G r)) := by
  have HR := Lib.hid (show readM G r = { G with L := G.L ++ [⟨num (r.key.data.toList.drop 1), num r.val.data.toList, num (r.val.data.toList.drop 3), num (r.val.data.toList.drop 6)⟩] } by unfold readM; rw [if_neg (by rw [hkind]; decide), if_neg (by rw [hkind]; decide), if_pos hkind])
  obtain ⟨kk, vv, gg⟩ := r
  simp only at HR hkind hsz ⊢
  have b0 := (Below.refl w.heap.size w).alloc (Nat.le_refl _) (.cells #[.string kk, .string vv, .bool gg] 49)
  have e0 := heap_alloc_new w (.cells #[.string kk, .string vv, .bool gg] 49)
  generalize hW : w.alloc (.cells #[.string kk, .string vv, .bool gg] 49) = W at b0 e0
  have d0 : W.cell? ⟨w.heap.size, 0, none⟩ = some (.string kk) := cell_of_row _ _ _ _ _ _ e0
  have d1 : W.cell? ⟨w.heap.size, 1, none⟩ = some (.string vv) := cell_of_row _ _ _ _ _ _ e0
  have HH := Lib.hid (fun w' (hb : Below W.heap.size W w') => h.below (belowThen b0 hb))
  have HE := Lib.hid (fun w' (hb : Below W.heap.size W w') => hE.below (belowThen b0 hb))
  have HD := Lib.hid (fun w' (hb : Below W.heap.size W w') => show w'.cell? ⟨w.heap.size, 1, none⟩ = some (.string vv) from belowKept hb d1)
  have HB0 := Lib.hid (b0.mono hB)
  have hsW : B ≤ W.heap.size := Nat.le_trans hB b0.size
  obtain ⟨nm, hnm⟩ : ∃ nm, kk.data.toList.drop 1 = nm := ⟨_, rfl⟩
  obtain ⟨tk, htk⟩ : ∃ tk, kk.data.toList.take 1 = tk := ⟨_, rfl⟩
  have hs := split_1 W kk
  rw [hnm, htk] at hs
  rw [hnm] at HR
  have HS := Lib.hid hs
  have kq98 : (tk == [98]) = false := by rw [← htk, hkind]; rfl
  have kq110 : (tk == [110]) = false := by rw [← htk, hkind]; rfl
  have kq112 : (tk == [112]) = true := by rw [← htk, hkind]; rfl
  have hn1 := num_bound nm
  have hn2 := num_bound vv.data.toList
  clear h hE b0 e0 d1 hkind hs hnm htk
  go_enter Tryz.func42, Tryz.ntmps42
  go_wp2_with fail
  ((with_reducible refine HS.out.mono ?_); rintro e w1 ⟨rfl, hb1⟩)
  have HN1 := Lib.hid (number_l w1 nm (HE.out w1 hb1))
  go_wp2_with fail
  ((with_reducible refine HN1.out.mono ?_); rintro e w2 ⟨rfl, hb2⟩)
  have hb12 := belowThen hb1 hb2
  have d1 := HD.out w2 hb12
  clear HS HN1
  obtain ⟨l1, hl1⟩ : ∃ l1, vv.data.toList.drop 3 = l1 := ⟨_, rfl⟩
  obtain ⟨l2, hl2⟩ : ∃ l2, l1.drop 3 = l2 := ⟨_, rfl⟩
  rw [drop6, hl1, hl2] at HR
  have hn3 := num_bound l1
  have hn4 := num_bound l2
  have b3 := (Below.refl w2.heap.size w2).alloc (Nat.le_refl _) (.cells #[.int .i64 (num nm), .int .i64 0, .int .i64 0, .int .i64 0] 60)
  have e3 := heap_alloc_new w2 (.cells #[.int .i64 (num nm), .int .i64 0, .int .i64 0, .int .i64 0] 60)
  have hb3 := belowThen hb12 b3
  have hgz : W.heap.size ≤ w2.heap.size := hb12.size
  replace d1 := HD.out _ hb3
  clear b3 hb1 hb2 hb12
  go_wp2_with fail
  generalize w2.alloc (.cells #[.int .i64 (num nm), .int .i64 0, .int .i64 0, .int .i64 0] 60) = W3 at *
  generalize w2.heap.size = gz at *
  have hN2 := number_any W3 vv (HE.out W3 hb3)
  rw [hl1] at hN2
  have HhN2 := Lib.hid hN2
  clear hN2
  ((with_reducible refine HhN2.out.mono ?_); rintro e w4 ⟨rfl, hbx1⟩)
  have r1 := (hbx1.block gz (Array.getElem?_eq_some_iff.1 e3).1).trans e3
  have cc1 : w4.cell? ⟨gz, 1, none⟩ = some (.int .i64 0) := cell_of_row _ _ _ _ _ _ r1
  have ff1 := frozen_of_row w4 gz 1 _ _ r1
  have s1 : (w4.setCell ⟨gz, 1, none⟩ (.int .i64 (num vv.data.toList))).heap[gz]? = some (.cells #[.int .i64 (num nm), .int .i64 (num vv.data.toList), .int .i64 0, .int .i64 0] 60 (0, 0)) := heap_setCell_same w4 gz 1 _ _ _ r1
  have hb4 : Below W.heap.size W (w4.setCell ⟨gz, 1, none⟩ (.int .i64 (num vv.data.toList))) := (belowThen hb3 hbx1).setCell hgz _
  clear HhN2 hbx1 r1 e3 hb3
  go_wp2_with fail
  generalize w4.setCell ⟨gz, 1, none⟩ (.int .i64 (num vv.data.toList)) = W4 at *
  have hN3 := number_l W4 l1 (HE.out W4 hb4)
  rw [hl2] at hN3
  have HhN3 := Lib.hid hN3
  clear hN3
  ((with_reducible refine HhN3.out.mono ?_); rintro e w5 ⟨rfl, hbx2⟩)
  have r2 := (hbx2.block gz (Array.getElem?_eq_some_iff.1 s1).1).trans s1
  have cc2 : w5.cell? ⟨gz, 2, none⟩ = some (.int .i64 0) := cell_of_row _ _ _ _ _ _ r2
  have ff2 := frozen_of_row w5 gz 2 _ _ r2
  have s2 : (w5.setCell ⟨gz, 2, none⟩ (.int .i64 (num l1))).heap[gz]? = some (.cells #[.int .i64 (num nm), .int .i64 (num vv.data.toList), .int .i64 (num l1), .int .i64 0] 60 (0, 0)) := heap_setCell_same w5 gz 2 _ _ _ r2
  have hb5 : Below W.heap.size W (w5.setCell ⟨gz, 2, none⟩ (.int .i64 (num l1))) := (belowThen hb4 hbx2).setCell hgz _
  clear HhN3 hbx2 r2 s1 hb4
  go_wp2_with fail
  generalize w5.setCell ⟨gz, 2, none⟩ (.int .i64 (num l1)) = W5 at *
  have hN4 := number_l W5 l2 (HE.out W5 hb5)
  have HhN4 := Lib.hid hN4
  clear hN4
  ((with_reducible refine HhN4.out.mono ?_); rintro e w6 ⟨rfl, hbx3⟩)
  have r3 := (hbx3.block gz (Array.getElem?_eq_some_iff.1 s2).1).trans s2
  have cc3 : w6.cell? ⟨gz, 3, none⟩ = some (.int .i64 0) := cell_of_row _ _ _ _ _ _ r3
  have ff3 := frozen_of_row w6 gz 3 _ _ r3
  have s3 : (w6.setCell ⟨gz, 3, none⟩ (.int .i64 (num l2))).heap[gz]? = some (.cells #[.int .i64 (num nm), .int .i64 (num vv.data.toList), .int .i64 (num l1), .int .i64 (num l2)] 60 (0, 0)) := heap_setCell_same w6 gz 3 _ _ _ r3
  have hb6 : Below W.heap.size W (w6.setCell ⟨gz, 3, none⟩ (.int .i64 (num l2))) := (belowThen hb5 hbx3).setCell hgz _
  clear HhN4 hbx3 r3 s2 hb5
  go_wp2_with fail
  generalize w6.setCell ⟨gz, 3, none⟩ (.int .i64 (num l2)) = W6 at *
  have r6 := s3
  have p0 : W6.cell? ⟨gz, 0, none⟩ = some (.int .i64 (num nm)) := cell_of_row _ _ _ _ _ _ r6
  have p1 : W6.cell? ⟨gz, 1, none⟩ = some (.int .i64 (num vv.data.toList)) := cell_of_row _ _ _ _ _ _ r6
  have p2 : W6.cell? ⟨gz, 2, none⟩ = some (.int .i64 (num l1)) := cell_of_row _ _ _ _ _ _ r6
  have p3 : W6.cell? ⟨gz, 3, none⟩ = some (.int .i64 (num l2)) := cell_of_row _ _ _ _ _ _ r6
  have h6 := HH.out W6 hb6
  have c1 := h6.c1
  have q1 : ∀ o, (W6.alloc o).cell? ⟨v, 1, none⟩ = some lv := fun o => belowKept (w := W6) ((Below.refl _ _).alloc (Nat.le_refl _) o) c1
  have HG := Lib.hid h6
  have HOW := Lib.hid (fun w' (hb : Below W6.heap.size W6 w') => own_below h6.pts hb)
  have hs6 : B ≤ W6.heap.size := Nat.le_trans hsW hb6.size
  have HSZ := Lib.hid (fun w' (hb : Below W6.heap.size W6 w') => Nat.le_trans hs6 hb.size)
  have HB6 := Lib.hid (HB0.out.trans (hb6.mono hsW))
  have HLT := Lib.hid (fun j hj => (World.ownsRow.lt h6.pts j hj).1)
  have HV := Lib.hid (fun wX w3 (hx : Below W6.heap.size W6 wX) (hg : wX.grownBy w3 lv.ownBlock) => h6.vrow hx hg)
  have HADD := Lib.hid (fun wX w3 lv' (hx : Below W6.heap.size W6 wX) (hg : wX.grownBy w3 lv.ownBlock) (ho : w3.ownsRow B 60 4 lv' (G.L.length + 1) (gvCells G.L ++ [.int .i64 (num nm), .int .i64 (num vv.data.toList), .int .i64 (num l1), .int .i64 (num l2)])) => show GVAt (w3.setCell ⟨v, 1, none⟩ lv') v x gp bp bn B lv' { G with L := G.L ++ [⟨num nm, num vv.data.toList, num l1, num l2⟩] } ∧ Below B w (w3.setCell ⟨v, 1, none⟩ lv') from ⟨h6.added hx hg (by rw [gvCells_append]; exact ho), ((HB6.out.trans (hx.mono hs6)).grown hg (Nat.le_trans hB (HB6.out.trans (hx.mono hs6)).size) (fun j hj => (World.ownsRow.lt h6.pts j hj).1)).setCell h6.frm.v _⟩)
  obtain ⟨i0, hi, hz0, hz1, hz2⟩ := info_parts Tryz.infoPt
  clear s3 r6 h6 hb6 HH HE HD HB0 cc1 cc2 cc3 ff1 ff2 ff3
  go_region_law (first
    | (refine step_appendOwn (by rfl) (.tmp 108) (.tmp 110) 55 (by rfl) B 60 i0 _ 4 32 Tryz.underlying55 hi hz0 hz1 hz2 rfl (by decide) lv G.L.length (gvCells G.L) (by rfl) (HOW.out _ (by (repeat (first | with_reducible exact Below.refl _ _ | with_reducible refine belowAl ?_ _ | with_reducible refine Below.drew ?_)); (first | done | fail))) ⟨W6.heap.size, 0, none⟩ 1 1 [.int .i64 (num nm), .int .i64 (num vv.data.toList), .int .i64 (num l1), .int .i64 (num l2)] (by rfl) rfl (World.news_of_block (cs := #[.int .i64 (num nm), .int .i64 (num vv.data.toList), .int .i64 (num l1), .int .i64 (num l2)]) (t := 60) (fr := (0, 0)) ?hb) (by simp [Value.oneCell']) (by unfold maxLen; omega) (by omega) (HSZ.out _ (by (repeat (first | with_reducible exact Below.refl _ _ | with_reducible refine belowAl ?_ _ | with_reducible refine Below.drew ?_)); (first | done | fail))) ?_; (case hb => (first | exact heap_alloc_new _ _ | exact heap_alloc_new W6 _)); intro v' w8 hO8 hg8 _; obtain ⟨A8, k8, rfl⟩ := slice_form hO8; have r8 := HV.out _ _ (by (repeat (first | with_reducible exact Below.refl _ _ | with_reducible refine belowAl ?_ _ | with_reducible refine Below.drew ?_)); (first | done | fail)) hg8; have c8 : w8.cell? ⟨v, 1, none⟩ = some lv := cell_of_row _ _ _ _ _ _ r8; have f8 := frozen_of_row w8 v 1 _ _ r8; have HZ := Lib.hid (HADD.out _ _ _ (by (repeat (first | with_reducible exact Below.refl _ _ | with_reducible refine belowAl ?_ _ | with_reducible refine Below.drew ?_)); (first | done | fail)) hg8 hO8); clear r8 hg8 hO8)
    | fail)
  all_goals
    go_wp2
    go_end0
    refine ⟨rfl, ?_, HZ.out.2⟩
    rw [HR.out]
    exact ⟨_, HZ.out.1⟩
end Go.Proofs.YtlgahdabhnhjgaaGreatDoor

/- image.read: nodes. -/
namespace Go.Proofs.YtlgahdabhnhjgaaGreatDoor
open Go.RowKit Go.Maps

set_option maxHeartbeats 4000000 in
set_option maxRecDepth 100000 in
theorem read_n (w : World) (v x gp bp bn B : Nat) (lv : Value) (G : GV) (r : Ch) (h : GVAt w v x gp bp bn B lv G) (hE : Errs w) (hB : B ≤ w.heap.size) (hsz : r.val.size ≤ 1000) (hk : G.nk.length ≤ 1000) (hkind : r.key.data.toList.take 1 = [110]) :
    Calls Tryz.prog 42 #[.pointer (some ⟨v, 0, none⟩), .agg #[.string r.key, .string r.val, .bool r.gone]] w (RdRet w v x gp bp bn B (readM G r)) := by
  have HR := Lib.hid (show readM G r = { G with nk := putKey G.nk (num (r.key.data.toList.drop 1)), N := putF G.N (num (r.key.data.toList.drop 1)) ⟨num (r.val.data.toList.drop 3), num (r.val.data.toList.drop 6), num (r.val.data.toList.drop 9), num (r.val.data.toList.drop 12), num r.val.data.toList⟩ } by unfold readM; rw [if_neg (by rw [hkind]; decide), if_pos hkind])
  obtain ⟨kk, vv, gg⟩ := r
  simp only at HR hkind hsz ⊢
  have b0 := (Below.refl w.heap.size w).alloc (Nat.le_refl _) (.cells #[.string kk, .string vv, .bool gg] 49)
  have e0 := heap_alloc_new w (.cells #[.string kk, .string vv, .bool gg] 49)
  generalize hW : w.alloc (.cells #[.string kk, .string vv, .bool gg] 49) = W at b0 e0
  have d0 : W.cell? ⟨w.heap.size, 0, none⟩ = some (.string kk) := cell_of_row _ _ _ _ _ _ e0
  have d1 : W.cell? ⟨w.heap.size, 1, none⟩ = some (.string vv) := cell_of_row _ _ _ _ _ _ e0
  have HH := Lib.hid (fun w' (hb : Below W.heap.size W w') => h.below (belowThen b0 hb))
  have HE := Lib.hid (fun w' (hb : Below W.heap.size W w') => hE.below (belowThen b0 hb))
  have HD := Lib.hid (fun w' (hb : Below W.heap.size W w') => show w'.cell? ⟨w.heap.size, 1, none⟩ = some (.string vv) from belowKept hb d1)
  have HB0 := Lib.hid (b0.mono hB)
  have hsW : B ≤ W.heap.size := Nat.le_trans hB b0.size
  obtain ⟨nm, hnm⟩ : ∃ nm, kk.data.toList.drop 1 = nm := ⟨_, rfl⟩
  obtain ⟨tk, htk⟩ : ∃ tk, kk.data.toList.take 1 = tk := ⟨_, rfl⟩
  have hs := split_1 W kk
  rw [hnm, htk] at hs
  rw [hnm] at HR
  have HS := Lib.hid hs
  have kq98 : (tk == [98]) = false := by rw [← htk, hkind]; rfl
  have kq110 : (tk == [110]) = true := by rw [← htk, hkind]; rfl
  have hn1 := num_bound nm
  have hn2 := num_bound vv.data.toList
  clear h hE b0 e0 d1 hkind hs hnm htk
  go_enter Tryz.func42, Tryz.ntmps42
  go_wp2_with fail
  ((with_reducible refine HS.out.mono ?_); rintro e w1 ⟨rfl, hb1⟩)
  have HN1 := Lib.hid (number_l w1 nm (HE.out w1 hb1))
  go_wp2_with fail
  ((with_reducible refine HN1.out.mono ?_); rintro e w2 ⟨rfl, hb2⟩)
  have hb12 := belowThen hb1 hb2
  have d1 := HD.out w2 hb12
  clear HS HN1
  obtain ⟨l1, hl1⟩ : ∃ l1, vv.data.toList.drop 3 = l1 := ⟨_, rfl⟩
  obtain ⟨l2, hl2⟩ : ∃ l2, l1.drop 3 = l2 := ⟨_, rfl⟩
  obtain ⟨l3, hl3⟩ : ∃ l3, l2.drop 3 = l3 := ⟨_, rfl⟩
  obtain ⟨l4, hl4⟩ : ∃ l4, l3.drop 3 = l4 := ⟨_, rfl⟩
  rw [drop6, drop9, drop12, hl1, hl2, hl3, hl4] at HR
  have b3 := (Below.refl w2.heap.size w2).alloc (Nat.le_refl _) (.cells #[.int .i64 0, .int .i64 0, .int .i64 0, .int .i64 0, .int .i64 0] 81)
  have e3 := heap_alloc_new w2 (.cells #[.int .i64 0, .int .i64 0, .int .i64 0, .int .i64 0, .int .i64 0] 81)
  have hb3 := belowThen hb12 b3
  have hgz : W.heap.size ≤ w2.heap.size := hb12.size
  replace d1 := HD.out _ hb3
  clear b3 hb1 hb2 hb12
  go_wp2_with fail
  generalize w2.alloc (.cells #[.int .i64 0, .int .i64 0, .int .i64 0, .int .i64 0, .int .i64 0] 81) = W3 at *
  generalize w2.heap.size = gz at *
  have hN2 := number_any W3 vv (HE.out W3 hb3)
  rw [hl1] at hN2
  have HhN2 := Lib.hid hN2
  clear hN2
  ((with_reducible refine HhN2.out.mono ?_); rintro e w4 ⟨rfl, hbx1⟩)
  have r1 := (hbx1.block gz (Array.getElem?_eq_some_iff.1 e3).1).trans e3
  have cc1 : w4.cell? ⟨gz, 4, none⟩ = some (.int .i64 0) := cell_of_row _ _ _ _ _ _ r1
  have ff1 := frozen_of_row w4 gz 4 _ _ r1
  have s1 : (w4.setCell ⟨gz, 4, none⟩ (.int .i64 (num vv.data.toList))).heap[gz]? = some (.cells #[.int .i64 0, .int .i64 0, .int .i64 0, .int .i64 0, .int .i64 (num vv.data.toList)] 81 (0, 0)) := heap_setCell_same w4 gz 4 _ _ _ r1
  have hb4 : Below W.heap.size W (w4.setCell ⟨gz, 4, none⟩ (.int .i64 (num vv.data.toList))) := (belowThen hb3 hbx1).setCell hgz _
  clear HhN2 hbx1 r1 e3 hb3
  go_wp2
  generalize w4.setCell ⟨gz, 4, none⟩ (.int .i64 (num vv.data.toList)) = W4 at *
  refine wp_loop_rounds 5 ?_
  rw [rounds_succ]
  have hN := number_l W4 l1 (HE.out W4 hb4)
  rw [hl2] at hN
  have HN2 := Lib.hid hN
  clear hN
  go_wp2_with fail
  ((with_reducible refine HN2.out.mono ?_); rintro e w5 ⟨rfl, hbx2⟩)
  have r2 := (hbx2.block gz (Array.getElem?_eq_some_iff.1 s1).1).trans s1
  have cc2 : w5.cell? ⟨gz, 0, none⟩ = some (.int .i64 0) := cell_of_row _ _ _ _ _ _ r2
  have ff2 := frozen_of_row w5 gz 0 _ _ r2
  have s2 : (w5.setCell ⟨gz, 0, none⟩ (.int .i64 (num l1))).heap[gz]? = some (.cells #[.int .i64 (num l1), .int .i64 0, .int .i64 0, .int .i64 0, .int .i64 (num vv.data.toList)] 81 (0, 0)) := heap_setCell_same w5 gz 0 _ _ _ r2
  have hb5 : Below W.heap.size W (w5.setCell ⟨gz, 0, none⟩ (.int .i64 (num l1))) := (belowThen hb4 hbx2).setCell hgz _
  clear HN2 hbx2 r2 s1 hb4
  go_wp2
  generalize w5.setCell ⟨gz, 0, none⟩ (.int .i64 (num l1)) = W5 at *
  rw [rounds_succ]
  have hN := number_l W5 l2 (HE.out W5 hb5)
  rw [hl3] at hN
  have HN3 := Lib.hid hN
  clear hN
  go_wp2_with fail
  ((with_reducible refine HN3.out.mono ?_); rintro e w6 ⟨rfl, hbx3⟩)
  have r3 := (hbx3.block gz (Array.getElem?_eq_some_iff.1 s2).1).trans s2
  have cc3 : w6.cell? ⟨gz, 1, none⟩ = some (.int .i64 0) := cell_of_row _ _ _ _ _ _ r3
  have ff3 := frozen_of_row w6 gz 1 _ _ r3
  have s3 : (w6.setCell ⟨gz, 1, none⟩ (.int .i64 (num l2))).heap[gz]? = some (.cells #[.int .i64 (num l1), .int .i64 (num l2), .int .i64 0, .int .i64 0, .int .i64 (num vv.data.toList)] 81 (0, 0)) := heap_setCell_same w6 gz 1 _ _ _ r3
  have hb6 : Below W.heap.size W (w6.setCell ⟨gz, 1, none⟩ (.int .i64 (num l2))) := (belowThen hb5 hbx3).setCell hgz _
  clear HN3 hbx3 r3 s2 hb5
  go_wp2
  generalize w6.setCell ⟨gz, 1, none⟩ (.int .i64 (num l2)) = W6 at *
  rw [rounds_succ]
  have hN := number_l W6 l3 (HE.out W6 hb6)
  rw [hl4] at hN
  have HN4 := Lib.hid hN
  clear hN
  go_wp2_with fail
  ((with_reducible refine HN4.out.mono ?_); rintro e w7 ⟨rfl, hbx4⟩)
  have r4 := (hbx4.block gz (Array.getElem?_eq_some_iff.1 s3).1).trans s3
  have cc4 : w7.cell? ⟨gz, 2, none⟩ = some (.int .i64 0) := cell_of_row _ _ _ _ _ _ r4
  have ff4 := frozen_of_row w7 gz 2 _ _ r4
  have s4 : (w7.setCell ⟨gz, 2, none⟩ (.int .i64 (num l3))).heap[gz]? = some (.cells #[.int .i64 (num l1), .int .i64 (num l2), .int .i64 (num l3), .int .i64 0, .int .i64 (num vv.data.toList)] 81 (0, 0)) := heap_setCell_same w7 gz 2 _ _ _ r4
  have hb7 : Below W.heap.size W (w7.setCell ⟨gz, 2, none⟩ (.int .i64 (num l3))) := (belowThen hb6 hbx4).setCell hgz _
  clear HN4 hbx4 r4 s3 hb6
  go_wp2
  generalize w7.setCell ⟨gz, 2, none⟩ (.int .i64 (num l3)) = W7 at *
  rw [rounds_succ]
  have hN := number_l W7 l4 (HE.out W7 hb7)
  have HN5 := Lib.hid hN
  clear hN
  go_wp2_with fail
  ((with_reducible refine HN5.out.mono ?_); rintro e w8 ⟨rfl, hbx5⟩)
  have r5 := (hbx5.block gz (Array.getElem?_eq_some_iff.1 s4).1).trans s4
  have cc5 : w8.cell? ⟨gz, 3, none⟩ = some (.int .i64 0) := cell_of_row _ _ _ _ _ _ r5
  have ff5 := frozen_of_row w8 gz 3 _ _ r5
  have s5 : (w8.setCell ⟨gz, 3, none⟩ (.int .i64 (num l4))).heap[gz]? = some (.cells #[.int .i64 (num l1), .int .i64 (num l2), .int .i64 (num l3), .int .i64 (num l4), .int .i64 (num vv.data.toList)] 81 (0, 0)) := heap_setCell_same w8 gz 3 _ _ _ r5
  have hb8 : Below W.heap.size W (w8.setCell ⟨gz, 3, none⟩ (.int .i64 (num l4))) := (belowThen hb7 hbx5).setCell hgz _
  clear HN5 hbx5 r5 s4 hb7
  go_wp2
  generalize w8.setCell ⟨gz, 3, none⟩ (.int .i64 (num l4)) = W8 at *
  rw [rounds_succ]
  go_wp2
  refine region_tail 9 (by kernel_rfl) (by kernel_rfl) ?_
  intro w9 hw9
  have hb9 : Below W.heap.size W w9 := by rw [hw9]; exact hb8.drew
  have r9 : w9.heap[gz]? = some (.cells #[.int .i64 (num l1), .int .i64 (num l2), .int .i64 (num l3), .int .i64 (num l4), .int .i64 (num vv.data.toList)] 81 (0, 0)) := by rw [hw9]; exact s5
  have k0 : w9.cell? ⟨gz, 0, none⟩ = some (.int .i64 (num l1)) := cell_of_row _ _ _ _ _ _ r9
  have k1 : w9.cell? ⟨gz, 1, none⟩ = some (.int .i64 (num l2)) := cell_of_row _ _ _ _ _ _ r9
  have k2 : w9.cell? ⟨gz, 2, none⟩ = some (.int .i64 (num l3)) := cell_of_row _ _ _ _ _ _ r9
  have k3 : w9.cell? ⟨gz, 3, none⟩ = some (.int .i64 (num l4)) := cell_of_row _ _ _ _ _ _ r9
  have k4 : w9.cell? ⟨gz, 4, none⟩ = some (.int .i64 (num vv.data.toList)) := cell_of_row _ _ _ _ _ _ r9
  have h9 := HH.out w9 hb9
  have c0 := h9.c0
  have x1 := h9.x1
  have hM := h9.N
  have HG := Lib.hid h9
  have HB9 := Lib.hid (HB0.out.trans (hb9.mono hsW))
  clear hw9 s5 hb8 r9 h9 hb9 cc1 cc2 cc3 cc4 cc5 ff1 ff2 ff3 ff4 ff5 HH HE HD HB0
  simp only [List.take_succ_cons, List.take_zero, List.drop_succ_cons, List.drop_zero]
  repeat still_step
  refine wpStill_nil ?_
  go_wp2_with (first
    | (at_mapUpdate; refine wpList_putMapG rfl _ _ _ 64 rfl 81 Tryz.underlying64 bn G.nk _ rfl hM (by omega) _ rfl (by omega) (gnV ⟨num l1, num l2, num l3, num l4, num vv.data.toList⟩) rfl ?_; intro w10 hM10 ht10)
    | fail)
  rw [putAt_map] at hM10
  go_end0
  refine ⟨rfl, ⟨lv, ?_⟩, HB9.out.grown ht10.grown (Nat.le_trans hB HB9.out.size) fun j e => by cases e; exact HG.out.frm.bn⟩
  rw [HR.out]
  exact HG.out.putN hM10 ht10
end Go.Proofs.YtlgahdabhnhjgaaGreatDoor
