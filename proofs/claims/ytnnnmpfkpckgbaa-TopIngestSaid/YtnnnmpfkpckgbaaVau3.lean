/- Package vault: add, Again, Drop, Read. -/
import Derived.Test.YtnnnmpfkpckgbaaVau2
import Derived.Deep.RegionLaw
import Derived.Laws.CopyOwn
import Derived.Deep.AppendLies
namespace Go.Proofs.Ytnnnmpfkpckgbaa
open Go.RowKit Go.Maps

/-- Where a row lies behind a call: where it lay, or in new memory. -/
def Lies (w : World) (lv lv' : Value) : Prop := ∀ b, lv'.ownBlock = some b → lv.ownBlock = some b ∨ w.heap.size ≤ b
theorem Lies.down {w w1 : World} {lv lv' : Value} (h : Lies w1 lv lv') (hw : w.heap.size ≤ w1.heap.size) : Lies w lv lv' := fun b hb => (h b hb).imp id fun x => Nat.le_trans hw x
/-- What a call leaves of a vault. -/
def VauRet (w : World) (v x gp bp bn B : Nat) (lv : Value) (V : VauM) (ne : Int) (u : Value) (e : Ending) (w' : World) : Prop :=
  e = .returned u ∧ (ne = 0 → ∃ lv', VauAt w' v x gp bp bn B lv' V ∧ Lies w lv lv') ∧ Turn (vbs v bp bn lv) w w'

theorem VauAt.grown {w W w3 : World} {v x gp bp bn B : Nat} {lv : Value} {V : VauM} (h : VauAt w v x gp bp bn B lv V) (hW : Below w.heap.size w W) (hg : W.grownBy w3 lv.ownBlock) :
    w3.heap[v]? = some (.cells #[.pointer (some ⟨x, 0, none⟩), lv, .int .i64 V.next] 95 (0, 0)) ∧ IdxAt w3 x gp bp bn 1000 V.X ∧ Turn (vbs v bp bn lv) w w3 := by
  obtain ⟨n1, n2, n3, n4, n5⟩ := h.notMap
  have key : ∀ k, k < w.heap.size → lv.ownBlock ≠ some k → w3.heap[k]? = w.heap[k]? := fun k hk hn => (hg.block k (Nat.lt_of_lt_of_le hk hW.size) (fun e => hn e.symm)).trans (hW.block k hk)
  refine ⟨(key v h.lt fun e => (n5 v e).2.2 rfl).trans h.row, ⟨(key x h.idx.lt fun e => (n5 x e).1 rfl).trans h.idx.row, h.idx.pool.keep (key gp h.idx.pool.lt fun e => (n5 gp e).2.1 rfl) (key bp h.idx.pool.ltb fun e => n2 bp e (by simp)), h.idx.map.keep (key bn h.idx.ltn fun e => n2 bn e (by simp)), h.idx.ne, h.idx.ok⟩, ?_⟩
  refine (Turn.of_below hW).grown hg fun b hb => .inl ?_
  simp [vbs, hb]
theorem VauAt.added {w W w3 : World} {v x gp bp bn B : Nat} {lv lv' : Value} {V : VauM} {disk size root : Nat} (h : VauAt w v x gp bp bn B lv V) (hW : Below w.heap.size w W) (hg : W.grownBy w3 lv.ownBlock) (ho : w3.ownsRow B 88 4 lv' (V.L.length + 1) (pCells V.L ++ ptCells ⟨V.next, disk, size, root⟩)) (t : Int) (ht : t = ((V.next + 1 : Nat) : Int)) :
    VauAt ((w3.setCell ⟨v, 1, none⟩ lv').setCell ⟨v, 2, none⟩ (.int .i64 t)) v x gp bp bn B lv' (addV V disk size root) ∧ Turn (vbs v bp bn lv) w ((w3.setCell ⟨v, 1, none⟩ lv').setCell ⟨v, 2, none⟩ (.int .i64 t)) := by
  subst ht
  obtain ⟨r3, i3, t3⟩ := h.grown hW hg
  have s1 := heap_setCell_same w3 v 1 _ _ lv' r3
  have s2 := heap_setCell_same (w3.setCell ⟨v, 1, none⟩ lv') v 2 _ _ (.int .i64 ((V.next + 1 : Nat) : Int)) s1
  have keep : ∀ k, k ≠ v → ((w3.setCell ⟨v, 1, none⟩ lv').setCell ⟨v, 2, none⟩ (.int .i64 ((V.next + 1 : Nat) : Int))).heap[k]? = w3.heap[k]? := fun k hk => (Below.heap_setCell _ _ _ _ hk).trans (Below.heap_setCell _ _ _ _ hk)
  obtain ⟨n1, n2, n3, n4, n5⟩ := h.notMap
  have hvn : ∀ g, lv'.ownBlock = some g → g ≠ v := fun g hg' e => by
    obtain ⟨cur, hh⟩ := ownsRow_type ho hg'
    rw [e, r3] at hh
    injection hh with hh
    injection hh with _ hh _
    exact absurd hh (by decide)
  refine ⟨⟨s2, ⟨(keep x (fun e => n3 e.symm)).trans i3.row, i3.pool.keep (keep gp (fun e => n4 e.symm)) (keep bp (fun e => n1 (by simp [e]))), i3.map.keep (keep bn (fun e => n1 (by simp [e]))), i3.ne, i3.ok⟩, ?_⟩, ?_⟩
  · have ho2 := ownsRow_keep ho fun g hg' => keep g (hvn g hg')
    have e1 : (addV V disk size root).L.length = V.L.length + 1 := by simp [addV]
    have e2 : pCells (addV V disk size root).L = pCells V.L ++ ptCells ⟨V.next, disk, size, root⟩ := by
      show pCells (V.L ++ [_]) = _
      rw [pCells_append]; simp [pCells]
    rw [e1, e2]; exact ho2
  · refine ⟨t3.os, t3.tape, t3.output, by simpa using t3.size, fun k hk hn => (keep k fun e => hn (by simp [vbs, e])).trans (t3.block k hk hn)⟩

set_option maxHeartbeats 1000000 in
set_option maxRecDepth 100000 in
theorem add_any (w : World) (v x gp bp bn B : Nat) (lv : Value) (V : VauM) (disk size root : Nat) (h : VauAt w v x gp bp bn B lv V) (hL : V.L.length ≤ 6) (hN : V.next ≤ 1000) (hB : B ≤ w.heap.size) (ne : Int) (he : addErr V = ne) :
    Calls Try.prog 48 #[.pointer (some ⟨v, 0, none⟩), .int .i64 disk, .int .i64 size, .int .i64 root] w (VauRet w v x gp bp bn B lv (addV V disk size root) ne (.tuple #[.int .i64 (if ne = 0 then V.next else 0 : Nat), errV ne])) := by
  obtain ⟨i0, hi, hz0, hz1, hz2⟩ := info_parts Try.infoPt
  obtain ⟨A, c, hlv⟩ := ownsRow_slice h.pts
  subst hlv
  have c1 := h.cell1
  have c2 := h.cell2
  obtain ⟨n, hn⟩ : ∃ n, V.L.length = n := ⟨_, rfl⟩
  obtain ⟨t, ht⟩ : ∃ t, V.next = t := ⟨_, rfl⟩
  rw [hn] at c1 hL ⊢
  rw [ht] at c2 hN ⊢
  unfold addErr at he
  rw [hn, ht] at he
  by_cases h1 : 6 ≤ n
  · rw [if_pos (.inl h1)] at he
    subst he
    have i1 : (6 : Int) ≤ (n : Int) := by omega
    go_enter Try.func48, Try.ntmps48
    go_wp2
    go_ret2
    exact ⟨rfl, by simp, Turn.refl _ _⟩
  by_cases h2 : 999 < t
  · rw [if_pos (.inr h2)] at he
    subst he
    have i1 : ¬ ((6 : Int) ≤ (n : Int)) := by omega
    have i2 : (999 : Int) < (t : Int) := by omega
    go_enter Try.func48, Try.ntmps48
    go_wp2
    go_ret2
    exact ⟨rfl, by simp, Turn.refl _ _⟩
  rw [if_neg (by omega)] at he
  subst he
  have i1 : ¬ ((6 : Int) ≤ (n : Int)) := by omega
  have i2 : ¬ ((999 : Int) < (t : Int)) := by omega
  have HH := Lib.hid h
  clear h
  go_enter Try.func48, Try.ntmps48
  have hpts := HH.out.pts
  rw [hn] at hpts
  have hk1 : IntKind.i64.wrap ((t : Int) + 1) = (t : Int) + 1 := IntWalk.i64_in _ (by omega)
  have b1 := (Below.refl w.heap.size w).alloc (Nat.le_refl _) (.cells #[.int .i64 t, .int .i64 disk, .int .i64 size, .int .i64 root] 88)
  go_wp2_with (at_builtin; refine wpList_append_lies _ rfl _ _ 93 rfl B 88 i0 _ 4 32 Try.underlying93 hi hz0 hz1 hz2 rfl (by decide) (.slice A n c) n (pCells V.L) rfl (World.ownsRow.alloc hpts _) ⟨w.heap.size, 0, none⟩ 1 1 [.int .i64 t, .int .i64 disk, .int .i64 size, .int .i64 root] rfl rfl (World.news_of_block (cs := #[.int .i64 t, .int .i64 disk, .int .i64 size, .int .i64 root]) (t := 88) (fr := (0, 0)) (heap_alloc_new w _)) (by simp [Value.oneCell']) (by omega) (by unfold maxLen; omega) (by omega) (by simp; omega) (w.heap.size + 1) (by simp) ?_; intro gg cc w3 hown' hg3 hlies hgw; obtain ⟨r3, _, _⟩ := HH.out.grown b1 (by rw [hn]; exact hg3); have d1 : w3.cell? ⟨v, 1, none⟩ = some (.slice A V.L.length c) := cell_of_row _ _ _ _ _ _ r3; have f1 := frozen_of_row w3 v 1 _ _ r3; have d2 : w3.cell? ⟨v, 2, none⟩ = some (.int .i64 V.next) := cell_of_row _ _ _ _ _ _ r3; have f2 := frozen_of_row w3 v 2 _ _ r3; rw [ht] at d2)
  go_ret2
  obtain ⟨z1, z2⟩ := HH.out.added (disk := disk) (size := size) (root := root) b1 (by rw [hn]; exact hg3) (by rw [hn, ht]; simpa [ptCells] using hown') ((t : Int) + 1) (by rw [ht]; omega)
  rw [hn] at z2
  exact ⟨by simp [errV], fun _ => ⟨_, z1, fun b hb => by
    have hb' : gg = b := by simpa [Value.ownBlock] using hb
    subst hb'
    rcases hlies with e | e
    · exact .inl e
    · exact .inr (by omega)⟩, z2⟩
end Go.Proofs.Ytnnnmpfkpckgbaa
