/- Package vault: Again, Drop, Read. -/
import Derived.Test.YtlgahdabhnhjgaaGreatDoorZqVau2
import Derived.Deep.RegionLaw
import Derived.Laws.CopyOwn
import Derived.Deep.AppendLies
/- Package vault: add, Again, Drop, Read. -/
namespace Go.Proofs.YtlgahdabhnhjgaaGreatDoor
open Go.RowKit Go.Maps

/-- Where a row lies behind a call: where it lay, or in new memory. -/
def Lies (w : World) (lv lv' : Value) : Prop := ∀ b, lv'.ownBlock = some b → lv.ownBlock = some b ∨ w.heap.size ≤ b
theorem Lies.down {w w1 : World} {lv lv' : Value} (h : Lies w1 lv lv') (hw : w.heap.size ≤ w1.heap.size) : Lies w lv lv' := fun b hb => (h b hb).imp id fun x => Nat.le_trans hw x
/-- What a call leaves of a vault. -/
def VauRet (w : World) (v x gp bp bn B : Nat) (lv : Value) (V : VauM) (ne : Int) (u : Value) (e : Ending) (w' : World) : Prop :=
  e = .returned u ∧ (ne = 0 → ∃ lv', VauAt w' v x gp bp bn B lv' V ∧ Lies w lv lv') ∧ Turn (vbs v bp bn lv) w w'

theorem VauAt.grown {w W w3 : World} {v x gp bp bn B : Nat} {lv : Value} {V : VauM} (h : VauAt w v x gp bp bn B lv V) (hW : Below w.heap.size w W) (hg : W.grownBy w3 lv.ownBlock) :
    w3.heap[v]? = some (.cells #[.pointer (some ⟨x, 0, none⟩), lv, .int .i64 V.next] 57 (0, 0)) ∧ IdxAt w3 x gp bp bn 1000 V.X ∧ Turn (vbs v bp bn lv) w w3 := by
  obtain ⟨n1, n2, n3, n4, n5⟩ := h.notMap
  have key : ∀ k, k < w.heap.size → lv.ownBlock ≠ some k → w3.heap[k]? = w.heap[k]? := fun k hk hn => (hg.block k (Nat.lt_of_lt_of_le hk hW.size) (fun e => hn e.symm)).trans (hW.block k hk)
  refine ⟨(key v h.lt fun e => (n5 v e).2.2 rfl).trans h.row, ⟨(key x h.idx.lt fun e => (n5 x e).1 rfl).trans h.idx.row, h.idx.pool.keep (key gp h.idx.pool.lt fun e => (n5 gp e).2.1 rfl) (key bp h.idx.pool.ltb fun e => n2 bp e (by simp)), h.idx.map.keep (key bn h.idx.ltn fun e => n2 bn e (by simp)), h.idx.ne, h.idx.ok⟩, ?_⟩
  refine (Turn.of_below hW).grown hg fun b hb => .inl ?_
  simp [vbs, hb]
theorem VauAt.added {w W w3 : World} {v x gp bp bn B : Nat} {lv lv' : Value} {V : VauM} {disk size root : Nat} (h : VauAt w v x gp bp bn B lv V) (hW : Below w.heap.size w W) (hg : W.grownBy w3 lv.ownBlock) (ho : w3.ownsRow B 60 4 lv' (V.L.length + 1) (pCells V.L ++ ptCells ⟨V.next, disk, size, root⟩)) (t : Int) (ht : t = ((V.next + 1 : Nat) : Int)) :
    VauAt ((w3.setCell ⟨v, 1, none⟩ lv').setCell ⟨v, 2, none⟩ (.int .i64 t)) v x gp bp bn B lv' (addV V disk size root) ∧ Turn (vbs v bp bn lv) w ((w3.setCell ⟨v, 1, none⟩ lv').setCell ⟨v, 2, none⟩ (.int .i64 t)) := by
  subst ht
  obtain ⟨r3, i3, t3⟩ := h.grown hW hg
  have s1 := heap_setCell_same w3 v 1 _ _ lv' r3
  have s2 := heap_setCell_same (w3.setCell ⟨v, 1, none⟩ lv') v 2 _ _ (.int .i64 ((V.next + 1 : Nat) : Int)) s1
  have keep : ∀ k, k ≠ v → ((w3.setCell ⟨v, 1, none⟩ lv').setCell ⟨v, 2, none⟩ (.int .i64 ((V.next + 1 : Nat) : Int))).heap[k]? = w3.heap[k]? := fun k hk => (Below.heap_setCell _ _ _ _ hk).trans (Below.heap_setCell _ _ _ _ hk)
  obtain ⟨n1, n2, n3, n4, n5⟩ := h.notMap
  have hvn : ∀ g, lv'.ownBlock = some g → g ≠ v := fun g hg' e => by
    obtain ⟨cur, hh⟩ := ownsRow_type ho hg'
    rw [e, r3] at hh
    injection hh with hh
    injection hh with _ hh _
    exact absurd hh (by decide)
  refine ⟨⟨s2, ⟨(keep x (fun e => n3 e.symm)).trans i3.row, i3.pool.keep (keep gp (fun e => n4 e.symm)) (keep bp (fun e => n1 (by simp [e]))), i3.map.keep (keep bn (fun e => n1 (by simp [e]))), i3.ne, i3.ok⟩, ?_⟩, ?_⟩
  · have ho2 := ownsRow_keep ho fun g hg' => keep g (hvn g hg')
    have e1 : (addV V disk size root).L.length = V.L.length + 1 := by simp [addV]
    have e2 : pCells (addV V disk size root).L = pCells V.L ++ ptCells ⟨V.next, disk, size, root⟩ := by
      show pCells (V.L ++ [_]) = _
      rw [pCells_append]; simp [pCells]
    rw [e1, e2]; exact ho2
  · refine ⟨t3.os, t3.tape, t3.output, by simpa using t3.size, fun k hk hn => (keep k fun e => hn (by simp [vbs, e])).trans (t3.block k hk hn)⟩

set_option maxHeartbeats 1000000 in
set_option maxRecDepth 100000 in
theorem add_any (w : World) (v x gp bp bn B : Nat) (lv : Value) (V : VauM) (disk size root : Nat) (h : VauAt w v x gp bp bn B lv V) (hL : V.L.length ≤ 6) (hN : V.next ≤ 1000) (hB : B ≤ w.heap.size) (ne : Int) (he : addErr V = ne) :
    Calls Tryz.prog 61 #[.pointer (some ⟨v, 0, none⟩), .int .i64 disk, .int .i64 size, .int .i64 root] w (VauRet w v x gp bp bn B lv (addV V disk size root) ne (.tuple #[.int .i64 (if ne = 0 then V.next else 0 : Nat), errV ne])) := by
  obtain ⟨i0, hi, hz0, hz1, hz2⟩ := info_parts Tryz.infoPt
  obtain ⟨A, c, hlv⟩ := ownsRow_slice h.pts
  subst hlv
  have c1 := h.cell1
  have c2 := h.cell2
  obtain ⟨n, hn⟩ : ∃ n, V.L.length = n := ⟨_, rfl⟩
  obtain ⟨t, ht⟩ : ∃ t, V.next = t := ⟨_, rfl⟩
  rw [hn] at c1 hL ⊢
  rw [ht] at c2 hN ⊢
  unfold addErr at he
  rw [hn, ht] at he
  by_cases h1 : 6 ≤ n
  · rw [if_pos (.inl h1)] at he
    subst he
    have i1 : (6 : Int) ≤ (n : Int) := by omega
    go_enter Tryz.func61, Tryz.ntmps61
    go_wp2
    go_ret2
    exact ⟨rfl, by simp, Turn.refl _ _⟩
  by_cases h2 : 999 < t
  · rw [if_pos (.inr h2)] at he
    subst he
    have i1 : ¬ ((6 : Int) ≤ (n : Int)) := by omega
    have i2 : (999 : Int) < (t : Int) := by omega
    go_enter Tryz.func61, Tryz.ntmps61
    go_wp2
    go_ret2
    exact ⟨rfl, by simp, Turn.refl _ _⟩
  rw [if_neg (by omega)] at he
  subst he
  have i1 : ¬ ((6 : Int) ≤ (n : Int)) := by omega
  have i2 : ¬ ((999 : Int) < (t : Int)) := by omega
  have HH := Lib.hid h
  clear h
  go_enter Tryz.func61, Tryz.ntmps61
  have hpts := HH.out.pts
  rw [hn] at hpts
  have hk1 : IntKind.i64.wrap ((t : Int) + 1) = (t : Int) + 1 := IntWalk.i64_in _ (by omega)
  have b1 := (Below.refl w.heap.size w).alloc (Nat.le_refl _) (.cells #[.int .i64 t, .int .i64 disk, .int .i64 size, .int .i64 root] 60)
  go_wp2_with (at_builtin; refine wpList_append_lies _ rfl _ _ 55 rfl B 60 i0 _ 4 32 Tryz.underlying55 hi hz0 hz1 hz2 rfl (by decide) (.slice A n c) n (pCells V.L) rfl (World.ownsRow.alloc hpts _) ⟨w.heap.size, 0, none⟩ 1 1 [.int .i64 t, .int .i64 disk, .int .i64 size, .int .i64 root] rfl rfl (World.news_of_block (cs := #[.int .i64 t, .int .i64 disk, .int .i64 size, .int .i64 root]) (t := 60) (fr := (0, 0)) (heap_alloc_new w _)) (by simp [Value.oneCell']) (by omega) (by unfold maxLen; omega) (by omega) (by simp; omega) (w.heap.size + 1) (by simp) ?_; intro gg cc w3 hown' hg3 hlies hgw; obtain ⟨r3, _, _⟩ := HH.out.grown b1 (by rw [hn]; exact hg3); have d1 : w3.cell? ⟨v, 1, none⟩ = some (.slice A V.L.length c) := cell_of_row _ _ _ _ _ _ r3; have f1 := frozen_of_row w3 v 1 _ _ r3; have d2 : w3.cell? ⟨v, 2, none⟩ = some (.int .i64 V.next) := cell_of_row _ _ _ _ _ _ r3; have f2 := frozen_of_row w3 v 2 _ _ r3; rw [ht] at d2)
  go_ret2
  obtain ⟨z1, z2⟩ := HH.out.added (disk := disk) (size := size) (root := root) b1 (by rw [hn]; exact hg3) (by rw [hn, ht]; simpa [ptCells] using hown') ((t : Int) + 1) (by rw [ht]; omega)
  rw [hn] at z2
  exact ⟨by simp [errV], fun _ => ⟨_, z1, fun b hb => by
    have hb' : gg = b := by simpa [Value.ownBlock] using hb
    subst hb'
    rcases hlies with e | e
    · exact .inl e
    · exact .inr (by omega)⟩, z2⟩
end Go.Proofs.YtlgahdabhnhjgaaGreatDoor

/- Laws of the walk that are about memory alone, more. -/
namespace Go.Proofs.YtlgahdabhnhjgaaGreatDoor
section
variable {P : Program}

/-- append into the room of a block that is known whole, as one step of a region that draws its order. -/
theorem step_append_row {ops : Array Oper} {o : Oper} {a : Act} {w : World} {K : Act → World → Prop} {Q : Exit → Act → World → Prop} {E : Prop} (hgd : o.guard = none) (s x : Operand) (t : TypeId)
    (hop : o.op = Op.call { callee := Callee.builtin Builtin.append, args := #[s, x], argTypes := #[t, t] }) (e : TypeId) (i : TypeInfo) (ht : P.underlying t = some (.slice e)) (hi : P.info? e = some i)
    (g sLen sCap : Nat) (cur : Array Value) (hg : w.heap[g]? = some (.cells cur e (0, 0))) (hs : a.eval s = .slice (some ⟨g, 0, none⟩) sLen sCap)
    (ad : Addr) (m c : Nat) (news : List Value) (hx : a.eval x = .slice (some ad) m c) (hl : news.length = m * i.size) (hnews : ∀ j u, news[j]? = some u → w.cell? (ad.add j) = some u) (h1 : ∀ u ∈ news, u.oneCell' = true)
    (hroom : sLen + m ≤ sCap) (hfit : sLen * i.size + news.length ≤ cur.size) (cur' : Array Value) (hcur : (cur.toList.take (sLen * i.size) ++ news ++ cur.toList.drop (sLen * i.size + news.length)).toArray = cur')
    (k : Nat) (hk : sLen + m = k) (hK : K (a.put o.dst (.slice (some ⟨g, 0, none⟩) k sCap)) (w.setRow g cur')) :
    if Region.wanted o (yielded ops a.tmps) = true then Oper.wp P o a w K Q else E := by
  have hw : Region.wanted o (yielded ops a.tmps) = true := by simp [Region.wanted, hgd]
  rw [if_pos hw]
  subst hcur hk
  have hrun := run_append_room (P := P) w t o.type e i ht hi g sLen sCap cur hg ad m c news hl hnews h1 hroom hfit
  unfold Oper.wp
  simp [execOp, hop, resolve, invoke, builtin, hs, hx, hrun, Result.andThen]
  have h2 := hK
  simp only [List.append_assoc] at h2
  exact h2

/-- The load of an aggregate from a block that is known whole, as one step of a region that draws its order. -/
theorem step_load_at {ops : Array Oper} {o : Oper} {a : Act} {w : World} {K : Act → World → Prop} {Q : Exit → Act → World → Prop} {E : Prop} (hgd : o.guard = none) (ty : TypeId) (x : Operand) (ho : o.op = .load ty x)
    (g off n : Nat) (hx : a.eval x = .pointer (some ⟨g, off, none⟩)) (t : TypeId) (cs : Array Value) (fr : Nat × Nat) (d : TypeDesc) (hg : w.heap[g]? = some (.cells cs t fr))
    (hu : P.underlying ty = some d) (hd : (match d with | .struct _ | .array _ _ => true | _ => false) = true) (hi : (P.info? ty).map (·.size) = some n) (hn : off + n ≤ cs.size)
    (vs : Array Value) (hvs : cut cs off n = vs) (hK : K (a.put o.dst (.agg vs)) w) :
    if Region.wanted o (yielded ops a.tmps) = true then Oper.wp P o a w K Q else E := by
  have hw : Region.wanted o (yielded ops a.tmps) = true := by simp [Region.wanted, hgd]
  rw [if_pos hw]
  subst hvs
  unfold Oper.wp execOp
  simp only [ho, hx, Instr.loadAt, Instr.sureAddr, Sem.run_bind, Sem.run_pure, Result.andThen_ok, run_loadVar_at w g off n t ty cs fr d hg hu hd hi hn]
  exact hK

end
end Go.Proofs.YtlgahdabhnhjgaaGreatDoor

/- slices.Delete at points. -/
namespace Go.Proofs.YtlgahdabhnhjgaaGreatDoor
open Go.RowKit

theorem zeroPt (w : World) : (zeroValue 60).run Tryz.prog w = .ok (.agg #[.int .i64 0, .int .i64 0, .int .i64 0, .int .i64 0]) w := by kernel_rfl
theorem ptsRow {w : World} {B gb n c : Nat} {xs : List Value} (h : w.ownsRow B 60 4 (.slice (some ⟨gb, 0, none⟩) n c) n xs) :
    ∃ cur, w.heap[gb]? = some (.cells cur 60 (0, 0)) ∧ B ≤ gb ∧ cur.size = c * 4 ∧ n ≤ c ∧ c ≤ maxLen ∧ cur.toList.take (n * 4) = xs := by
  rcases h.2 with ⟨h', _⟩ | ⟨g', cap', cur, h', hb, hg, hnc, hcm, hcs, htake⟩
  · simp at h'
  · simp only [Value.slice.injEq, Option.some.injEq, Addr.mk.injEq, and_true, true_and] at h'
    obtain ⟨rfl, rfl⟩ := h'
    exact ⟨cur, hg, hb, hcs, hnc, hcm, htake⟩

/-- The row behind the deletion of one snapshot: the later ones moved ahead, the last one cleared. -/
def delPts (cur : Array Value) (LS : List PtM) (i : Nat) : Array Value := (cur.toList.take (i * 4) ++ pCells (LS.drop (i + 1)) ++ cur.toList.drop (i * 4 + (pCells (LS.drop (i + 1))).length)).toArray

theorem delPts_size {cur : Array Value} {LS : List PtM} {i n : Nat} (hn : LS.length = n) (hi : i < n) (hc : n * 4 ≤ cur.size) : (delPts cur LS i).size = cur.size := by
  simp [delPts, pCells_length]; omega
theorem delPts_take {cur : Array Value} {LS : List PtM} {i n : Nat} (hn : LS.length = n) (hi : i < n) (ht : cur.toList.take (n * 4) = pCells LS) : (delPts cur LS i).toList.take ((n - 1) * 4) = pCells (LS.eraseIdx i) := by
  have e1 : cur.toList.take (i * 4) = pCells (LS.take i) := by
    rw [← pCells_take LS i (by omega), ← ht, List.take_take, Nat.min_eq_left (by omega)]
  have e2 : (cur.toList.take (i * 4) ++ pCells (LS.drop (i + 1))).length = (n - 1) * 4 := by
    rw [List.length_append, e1, pCells_length, pCells_length]; simp; omega
  unfold delPts
  rw [List.take_append_of_le_length (by omega), List.take_of_length_le (by omega), e1, ← pCells_append, List.eraseIdx_eq_take_drop_succ]

theorem grown_rowP {w W : World} {g : Nat} (h : w.grownBy W (some g)) (cs : Array Value) : w.grownBy (W.setRow g cs) (some g) :=
  ⟨h.os, h.tape, h.output, by simpa using h.size, fun k hk hne => (setRow_other _ _ _ _ (fun e => hne (by rw [e]))).trans (h.block k hk hne)⟩

theorem delP_fin {B gb q c i : Nat} {w W : World} {cur : Array Value} {LS : List PtM} (z : Array Value) (hg : W.heap[gb]? = some (.cells (delPts cur LS i) 60 (0, 0))) (hgr : w.grownBy W (some gb)) (hB : B ≤ gb) (hn : LS.length = q + 1) (hi : i < q + 1) (hds : (delPts cur LS i).size = cur.size) (hcs : cur.size = c * 4) (hqc : q + 1 ≤ c) (hcm : c ≤ maxLen)
    (hdt : (delPts cur LS i).toList.take (q * 4) = pCells (LS.eraseIdx i)) (hz : z.size = 4) :
    (W.setRow gb (splice (delPts cur LS i) (q * 4) z)).ownsRow B 60 4 (.slice (some ⟨gb, 0, none⟩) q c) q (pCells (LS.eraseIdx i)) ∧ w.grownBy (W.setRow gb (splice (delPts cur LS i) (q * 4) z)) (some gb) := by
  refine ⟨⟨?_, .inr ⟨gb, c, _, rfl, hB, setRow_heap _ _ _ _ _ _ hg, by omega, hcm, ?_, ?_⟩⟩, grown_rowP hgr _⟩
  · rw [pCells_length, List.length_eraseIdx, if_pos (by omega), hn]; simp
  · simp [splice, hds, hcs, hz]; omega
  · simp only [splice]
    rw [List.append_assoc, List.take_append_of_le_length (by simp [hds, hcs]; omega), List.take_take, Nat.min_self, hdt]

set_option maxHeartbeats 1000000 in
set_option maxRecDepth 100000 in
theorem deletePts_any (B gb n c i : Nat) (w : World) (LS : List PtM) (hn : LS.length = n) (hn5 : n ≤ 6) (hi : i < n) (hO : w.ownsRow B 60 4 (.slice (some ⟨gb, 0, none⟩) n c) n (pCells LS)) :
    Calls Tryz.prog 51 #[.slice (some ⟨gb, 0, none⟩) n c, .int .i64 i, .int .i64 ((i : Int) + 1)] w fun e w' => e = .returned (.slice (some ⟨gb, 0, none⟩) (n - 1) c) ∧ w'.ownsRow B 60 4 (.slice (some ⟨gb, 0, none⟩) (n - 1) c) (n - 1) (pCells (LS.eraseIdx i)) ∧ w.grownBy w' (some gb) := by
  obtain ⟨q, rfl⟩ : ∃ q, n = q + 1 := ⟨n - 1, by omega⟩
  rw [show q + 1 - 1 = q by omega]
  obtain ⟨cur, hg, hB, hcs, hnc, hcm, htake⟩ := ptsRow hO
  unfold maxLen at hcm
  have hcn : (q + 1) * 4 ≤ cur.size := by rw [hcs]; exact Nat.mul_le_mul_right _ hnc
  obtain ⟨inf, hinf, hz0, hz1, hz2⟩ := info_parts Tryz.infoPt
  have i1 : (0 : Int) ≤ (i : Int) := by omega
  have i2 : (i : Int) ≤ (i : Int) + 1 := by omega
  have i3 : (i : Int) + 1 ≤ (q : Int) + 1 := by omega
  have i4 : (q : Int) + 1 ≤ (c : Int) := by omega
  have i5 : (i : Int) ≤ (c : Int) := by omega
  have i6 : ((i : Int) == (i : Int) + 1) = false := by simp; omega
  have i8 : (0 : Int) ≤ (q : Int) := by omega
  have i9 : (q : Int) ≤ (q : Int) + 1 := by omega
  have iA : (0 : Int) ≤ (q : Int) + 1 := by omega
  have iB : ¬ c = q := by omega
  have HT := Lib.hid htake
  have HCS := Lib.hid hcs
  have HN := Lib.hid hn
  have HDS := Lib.hid (delPts_size hn hi hcn)
  have HDT := Lib.hid (delPts_take hn hi htake)
  clear htake hcs hn
  have i7 : (0 : Int) ≤ (i : Int) + 1 := by omega
  have HL := Lib.hid (show (pCells (LS.drop (i + 1))).length = (q + 1 - (i + 1)) * inf.size by rw [pCells_length, hz1, List.length_drop, HN.out])
  have HO1 := Lib.hid (pCells_one (LS.drop (i + 1)))
  have HF := Lib.hid (show i * inf.size + (pCells (LS.drop (i + 1))).length ≤ cur.size by rw [pCells_length, hz1, List.length_drop, HN.out]; omega)
  have HR := Lib.hid (show (cur.toList.take (i * inf.size) ++ pCells (LS.drop (i + 1)) ++ cur.toList.drop (i * inf.size + (pCells (LS.drop (i + 1))).length)).toArray = delPts cur LS i by rw [hz1]; rfl)
  have HZ0 : Builtin.zeroCells (Value.agg #[.int .i64 0, .int .i64 0, .int .i64 0, .int .i64 0]).cells 1 = #[.int .i64 0, .int .i64 0, .int .i64 0, .int .i64 0] := by kernel_rfl
  have HZ1 := Lib.hid (show q * 4 + (Builtin.zeroCells (Value.agg #[.int .i64 0, .int .i64 0, .int .i64 0, .int .i64 0]).cells 1).size ≤ (delPts cur LS i).size by rw [HZ0, HDS.out]; simp; omega)
  have HZ2 := Lib.hid (show ∀ v ∈ (Builtin.zeroCells (Value.agg #[.int .i64 0, .int .i64 0, .int .i64 0, .int .i64 0]).cells 1).toList, v.oneCell' = true by rw [HZ0]; simp [Value.oneCell'])
  have HZ := Lib.hid HZ0
  clear HZ0
  by_cases hcap : c = i + 1
  · obtain rfl : q = i := by omega
    subst hcap
    have HNW := Lib.hid (show ∀ j u, (pCells (LS.drop (q + 1)))[j]? = some u → w.drew.cell? ((⟨gb, 0, none⟩ : Addr).add j) = some u from fun j u hu => by
      rw [List.drop_of_length_le (by have := HN.out; omega)] at hu; simp [pCells] at hu)
    go_enter Tryz.func51, Tryz.ntmps51
    go_wp2
    go_region_law (refine step_append_row rfl _ _ 55 rfl 60 inf Tryz.underlying55 hinf gb q (q + 1) cur hg (by simp [Act.eval, Act.put]) ⟨gb, 0, none⟩ (q + 1 - (q + 1)) (q + 1 - (q + 1)) (pCells (LS.drop (q + 1))) (by simp [Act.eval, Act.put]) HL.out HNW.out HO1.out (by omega) HF.out _ HR.out q (by omega) ?_)
    have hg1 : ((w.drew).setRow gb (delPts cur LS q)).heap[gb]? = some (.cells (delPts cur LS q) 60 (0, 0)) := setRow_heap _ _ _ _ _ _ hg
    have hg1' : ((w.setRow gb (delPts cur LS q)).drew).heap[gb]? = some (.cells (delPts cur LS q) 60 (0, 0)) := setRow_heap w _ _ _ _ _ hg
    clear hg
    go_wp2_with ((with_reducible refine isClear ?_); refine wpList_clear rfl 55 _ rfl gb (q * 4) 1 ((q + 1) - q) (by simp [Act.eval]) (by omega) 60 _ Tryz.underlying55 (zeroPt _) 60 (delPts cur LS q) (by first | exact hg1 | exact hg1') HZ1.out HZ2.out _ rfl ?_)
    go_ret
    first
      | exact ⟨rfl, delP_fin (W := w.drew.setRow gb (delPts cur LS q)) _ hg1 (grown_rowP ⟨rfl, rfl, rfl, Nat.le_refl _, fun _ _ _ => rfl⟩ _) hB HN.out hi HDS.out HCS.out hnc (by unfold maxLen; omega) HDT.out (by rw [size_zeroCells]; rfl)⟩
      | exact ⟨rfl, delP_fin (W := (w.setRow gb (delPts cur LS q)).drew) _ hg1' ⟨rfl, rfl, rfl, by simp, fun k _ hne => setRow_other _ _ _ _ (fun e => hne (by rw [e]))⟩ hB HN.out hi HDS.out HCS.out hnc (by unfold maxLen; omega) HDT.out (by rw [size_zeroCells]; rfl)⟩
  · have HNW := Lib.hid (show ∀ j u, (pCells (LS.drop (i + 1)))[j]? = some u → w.drew.cell? ((⟨gb, (i + 1) * 4, none⟩ : Addr).add j) = some u from fun j u hu => by
      rw [add_lit]
      have hj : j < (pCells (LS.drop (i + 1))).length := by
        by_cases c : j < (pCells (LS.drop (i + 1))).length
        · exact c
        · rw [List.getElem?_eq_none (by omega)] at hu; cases hu
      rw [pCells_length, List.length_drop, HN.out] at hj
      show w.cell? _ = _
      rw [cell_of_row _ _ _ _ _ _ hg]
      rw [← pCells_drop LS (i + 1) (by have := HN.out; omega), List.getElem?_drop, ← HT.out, List.getElem?_take, if_pos (by omega)] at hu
      simpa using hu)
    go_enter Tryz.func51, Tryz.ntmps51
    go_wp2
    go_region_law (refine step_append_row rfl _ _ 55 rfl 60 inf Tryz.underlying55 hinf gb i c cur hg (by simp [Act.eval, Act.put]) ⟨gb, (i + 1) * 4, none⟩ (q + 1 - (i + 1)) (c - (i + 1)) (pCells (LS.drop (i + 1))) (by simp [Act.eval, Act.put]) HL.out HNW.out HO1.out (by omega) HF.out _ HR.out q (by omega) ?_)
    have hg1 : ((w.drew).setRow gb (delPts cur LS i)).heap[gb]? = some (.cells (delPts cur LS i) 60 (0, 0)) := setRow_heap _ _ _ _ _ _ hg
    have hg1' : ((w.setRow gb (delPts cur LS i)).drew).heap[gb]? = some (.cells (delPts cur LS i) 60 (0, 0)) := setRow_heap w _ _ _ _ _ hg
    clear hg
    go_wp2_with ((with_reducible refine isClear ?_); refine wpList_clear rfl 55 _ rfl gb (q * 4) 1 (c - q) (by simp [Act.eval]) (by omega) 60 _ Tryz.underlying55 (zeroPt _) 60 (delPts cur LS i) (by first | exact hg1 | exact hg1') HZ1.out HZ2.out _ rfl ?_)
    go_ret
    first
      | exact ⟨rfl, delP_fin (W := w.drew.setRow gb (delPts cur LS i)) _ hg1 (grown_rowP ⟨rfl, rfl, rfl, Nat.le_refl _, fun _ _ _ => rfl⟩ _) hB HN.out hi HDS.out HCS.out hnc (by unfold maxLen; omega) HDT.out (by rw [size_zeroCells]; rfl)⟩
      | exact ⟨rfl, delP_fin (W := (w.setRow gb (delPts cur LS i)).drew) _ hg1' ⟨rfl, rfl, rfl, by simp, fun k _ hne => setRow_other _ _ _ _ (fun e => hne (by rw [e]))⟩ hB HN.out hi HDS.out HCS.out hnc (by unfold maxLen; omega) HDT.out (by rw [size_zeroCells]; rfl)⟩
end Go.Proofs.YtlgahdabhnhjgaaGreatDoor

/- Package vault: Again, Drop, Read. -/
namespace Go.Proofs.YtlgahdabhnhjgaaGreatDoor
open Go.RowKit Go.Maps

theorem mapKept {bs : List Nat} {w w' : World} (h : Turn bs w w') (hm : ∀ b ∈ bs, ∃ es c, w.heap[b]? = some (.map es c)) {a : Addr} {v : Value} (hc : w.cell? a = some v) : w'.cell? a = some v := by
  have hlt := World.block_lt_of_cell? w a hc
  rw [World.cell?_of_block (w := w) (h.block a.block hlt fun hb => ?_)]
  · exact hc
  · obtain ⟨es, c, e⟩ := hm _ hb
    simp [World.cell?, e] at hc
theorem belowKept {w w' : World} (hb : Below w.heap.size w w') {a : Addr} {v : Value} (hc : w.cell? a = some v) : w'.cell? a = some v := (hb.cell (World.block_lt_of_cell? w a hc)).trans hc

def readErr (V : VauM) (id at_ : Int) : Int := match placeOf V.L id with
  | none => 5
  | some k => if at_ < 0 ∨ (V.L[k]!.size : Int) ≤ at_ then 1 else 0
def readText (V : VauM) (id at_ : Int) : ByteArray := match placeOf V.L id with
  | none => ByteArray.empty
  | some k => if at_ < 0 ∨ (V.L[k]!.size : Int) ≤ at_ then ByteArray.empty else V.X.get V.L[k]!.root at_.toNat

set_option maxHeartbeats 1000000 in
set_option maxRecDepth 100000 in
theorem read_any (w : World) (v x gp bp bn B : Nat) (lv : Value) (V : VauM) (id at_ : Int) (h : VauAt w v x gp bp bn B lv V) (hV : V.Ok) (s : ByteArray) (ne : Int) (hs : readText V id at_ = s) (he : readErr V id at_ = ne) :
    Calls Tryz.prog 47 #[.pointer (some ⟨v, 0, none⟩), .int .i64 id, .int .i64 at_] w fun e w' => e = .returned (.tuple #[.string s, errV ne]) ∧ Below w.heap.size w w' := by
  unfold readText at hs
  unfold readErr at he
  cases hp : placeOf V.L id with
  | none =>
    rw [hp] at hs he
    simp only at hs he
    subst hs he
    have HF := Lib.hid (find_no w v x gp bp bn B lv V id h hV hp)
    clear hp h
    go_enter Tryz.func47, Tryz.ntmps47
    go_wp2_with fail
    ((with_reducible refine HF.out.mono ?_); rintro e w2 ⟨rfl, hb2⟩)
    have b3 := (Below.refl w2.heap.size w2).alloc (Nat.le_refl _) (.cells #[.int .i64 0, .int .i64 0, .int .i64 0, .int .i64 0] 60)
    go_wp2
    go_ret2
    exact ⟨rfl, belowThen hb2 b3⟩
  | some k =>
    rw [hp] at hs he
    obtain ⟨hk, _⟩ := placeOf_some hp
    simp only [getElem!_pos V.L k hk] at hs he
    obtain ⟨p, hpt⟩ : ∃ p, V.L[k] = p := ⟨_, rfl⟩
    rw [hpt] at hs he
    have hpb := hV.pts _ (List.getElem_mem hk)
    rw [hpt] at hpb
    have HF := Lib.hid (find_yes w v x gp bp bn B lv V id h hV k hk hp p hpt)
    by_cases h1 : at_ < 0
    · rw [if_pos (.inl h1)] at hs he
      subst hs he
      have h1' : decide (at_ < 0) = true := by simpa using h1
      clear hp h hpt hpb
      go_enter Tryz.func47, Tryz.ntmps47
      go_wp2_with fail
      ((with_reducible refine HF.out.mono ?_); rintro e w2 ⟨rfl, hb2⟩)
      have b3 := (Below.refl w2.heap.size w2).alloc (Nat.le_refl _) (.cells #[.int .i64 p.id, .int .i64 p.disk, .int .i64 p.size, .int .i64 p.root] 60)
      go_wp2
      go_ret2
      exact ⟨rfl, belowThen hb2 b3⟩
    have h1' : decide (at_ < 0) = false := by simpa using h1
    by_cases h2 : (p.size : Int) ≤ at_
    · rw [if_pos (.inr h2)] at hs he
      subst hs he
      have h2' : decide ((p.size : Int) ≤ at_) = true := by simpa using h2
      clear hp h hpt hpb
      go_enter Tryz.func47, Tryz.ntmps47
      go_wp2_with fail
      ((with_reducible refine HF.out.mono ?_); rintro e w2 ⟨rfl, hb2⟩)
      have b3 := (Below.refl w2.heap.size w2).alloc (Nat.le_refl _) (.cells #[.int .i64 p.id, .int .i64 p.disk, .int .i64 p.size, .int .i64 p.root] 60)
      go_wp2
      go_ret2
      exact ⟨rfl, belowThen hb2 b3⟩
    have h2' : decide ((p.size : Int) ≤ at_) = false := by simpa using h2
    rw [if_neg (by omega)] at hs he
    subst he
    obtain ⟨i, rfl⟩ := Int.eq_ofNat_of_zero_le (show 0 ≤ at_ by omega)
    have hs' : V.X.get p.root i = s := hs
    have HG := Lib.hid (fun w' (h' : IdxAt w' x gp bp bn 1000 V.X) => idxGet_e w' x gp bp bn 1000 V.X p.root i s h' (by omega) (by omega) hs')
    clear hp hpt hs hs'
    go_enter Tryz.func47, Tryz.ntmps47
    go_wp2_with fail
    ((with_reducible refine HF.out.mono ?_); rintro e w2 ⟨rfl, hb2⟩)
    have b3 := (Below.refl w2.heap.size w2).alloc (Nat.le_refl _) (.cells #[.int .i64 p.id, .int .i64 p.disk, .int .i64 p.size, .int .i64 p.root] 60)
    have hb3 := belowThen hb2 b3
    have h3 := h.below hb3
    have c0 := h3.cell0
    have h3i := h3.idx
    have e3 := heap_alloc_new w2 (.cells #[.int .i64 p.id, .int .i64 p.disk, .int .i64 p.size, .int .i64 p.root] 60)
    have d3 : (w2.alloc (.cells #[.int .i64 p.id, .int .i64 p.disk, .int .i64 p.size, .int .i64 p.root] 60)).cell? ⟨w2.heap.size, 3, none⟩ = some (.int .i64 p.root) := cell_of_row _ _ _ _ _ _ e3
    clear HF h h3 b3 e3
    go_wp2_with fail
    generalize w2.alloc (.cells #[.int .i64 p.id, .int .i64 p.disk, .int .i64 p.size, .int .i64 p.root] 60) = W at *
    generalize w2.heap.size = gz at *
    have HK := Lib.hid (fun w' (hb : Below W.heap.size W.drew w') => show w'.cell? ⟨v, 0, none⟩ = some (.pointer (some ⟨x, 0, none⟩)) ∧ w'.cell? ⟨gz, 3, none⟩ = some (.int .i64 p.root) from ⟨belowKept (w := W.drew) hb c0, belowKept (w := W.drew) hb d3⟩)
    go_region_held3 (fun w' => w'.cell? ⟨v, 0, none⟩ = some (.pointer (some ⟨x, 0, none⟩)) ∧ w'.cell? ⟨gz, 3, none⟩ = some (.int .i64 p.root)) (first | exact ⟨c0, d3⟩ | exact HK.out _ hb4)
      (first | (go_at_call 59; refine (HG.out _ (h3i.below (Below.refl _ _).drew)).mono ?_; rintro e w4 ⟨rfl, hb4⟩))
    all_goals
      clear HK c0 d3 h3i HG
      go_wp2
      go_ret2
      exact ⟨rfl, Below.trans (b := W.drew) hb3.drew (hb4.mono hb3.size)⟩

theorem vAddS (w : World) (v x gp bp bn B : Nat) (lv : Value) (V V' : VauM) (disk size root : Nat) (h : VauAt w v x gp bp bn B lv V) (hL : V.L.length ≤ 6) (hN : V.next ≤ 1000) (hB : B ≤ w.heap.size) (ne : Int) (m : Nat) (he : addErr V = ne) (hm : (if ne = 0 then V.next else 0) = m) (hV' : addV V disk size root = V') :
    Calls Tryz.prog 61 #[.pointer (some ⟨v, 0, none⟩), .int .i64 disk, .int .i64 size, .int .i64 root] w (VauRet w v x gp bp bn B lv V' ne (.tuple #[.int .i64 m, errV ne])) := by
  subst hm hV'
  exact add_any w v x gp bp bn B lv V disk size root h hL hN hB ne he
/-- The blocks of a vault are old. -/
theorem VauAt.old {w : World} {v x gp bp bn B : Nat} {lv : Value} {V : VauM} (h : VauAt w v x gp bp bn B lv V) : ∀ b ∈ vbs v bp bn lv, b < w.heap.size := by
  intro b hb
  simp only [vbs, List.mem_cons, Option.mem_toList] at hb
  rcases hb with rfl | rfl | rfl | hb
  · exact h.lt
  · exact h.idx.pool.ltb
  · exact h.idx.ltn
  · exact (World.ownsRow.lt h.pts b hb).2
theorem two_vbs (v bp bn : Nat) (lv : Value) : ∀ b ∈ [bp, bn], b ∈ vbs v bp bn lv := by
  intro b hb
  simp only [List.mem_cons, List.not_mem_nil, or_false] at hb
  rcases hb with rfl | rfl <;> simp [vbs]

set_option maxHeartbeats 1000000 in
set_option maxRecDepth 100000 in
theorem again_any (w : World) (v x gp bp bn B : Nat) (lv : Value) (V V' : VauM) (id : Int) (h : VauAt w v x gp bp bn B lv V) (hV : V.Ok) (hB : B ≤ w.heap.size) (ne : Int) (m : Nat) (he : againErr V id = ne) (hm : (if ne = 0 then V.next else 0) = m) (hV' : againV V id = V') :
    Calls Tryz.prog 34 #[.pointer (some ⟨v, 0, none⟩), .int .i64 id] w (VauRet w v x gp bp bn B lv V' ne (.tuple #[.int .i64 m, errV ne])) := by
  cases hp : placeOf V.L id with
  | none =>
    have he' : ne = 5 := by rw [← he]; unfold againErr; rw [hp]
    subst he'
    have hm' : m = 0 := by rw [← hm]; rfl
    subst hm'
    have HF := Lib.hid (find_no w v x gp bp bn B lv V id h hV hp)
    clear hp h he hm
    go_enter Tryz.func34, Tryz.ntmps34
    go_wp2_with fail
    ((with_reducible refine HF.out.mono ?_); rintro e w2 ⟨rfl, hb2⟩)
    have b3 := (Below.refl w2.heap.size w2).alloc (Nat.le_refl _) (.cells #[.int .i64 0, .int .i64 0, .int .i64 0, .int .i64 0] 60)
    go_wp2
    go_ret2
    exact ⟨rfl, by simp, Turn.of_below (belowThen hb2 b3)⟩
  | some k =>
    obtain ⟨hk, _⟩ := placeOf_some hp
    obtain ⟨p, hpt⟩ : ∃ p, V.L[k] = p := ⟨_, rfl⟩
    have hpb := hV.pts _ (List.getElem_mem hk)
    rw [hpt] at hpb
    have he1 : addErr V = ne := by rw [← he]; unfold againErr; rw [hp]
    have HX := Lib.hid (fun h0 : ne = 0 => show V' = ⟨V.X.refN p.root, V.L ++ [⟨V.next, p.disk, p.size, p.root⟩], V.next + 1⟩ ∧ ∃ HR, HR.length ≤ 800 ∧ Inv (V.X.refN p.root) HR [] [] from by
      obtain ⟨k', hk', hp', hok, heq, _⟩ := again_good hV (he.trans h0)
      rw [hp] at hp'
      cases hp'
      rw [hpt] at heq
      exact ⟨hV'.symm.trans heq, heldOf (againV V id).L, Nat.le_trans (heldOf_len _) (by have := hok.len; omega), by have := hok.inv; rw [heq] at this ⊢; exact this⟩)
    have HF := Lib.hid (find_yes w v x gp bp bn B lv V id h hV k hk hp p hpt)
    have HA := Lib.hid (fun w' (hb : Below w.heap.size w w') => vAddS w' v x gp bp bn B lv V _ p.disk p.size p.root (h.below hb) hV.len hV.next.2 (Nat.le_trans hB hb.size) ne m he1 hm rfl)
    have HO := Lib.hid h.old
    have HM0 := Lib.hid (fun h : ne ≠ 0 => show m = 0 by rw [← hm, if_neg h])
    have hr : p.root ≤ 1000 := by omega
    clear hp hpt hpb he he1 hV' hm h
    go_enter Tryz.func34, Tryz.ntmps34
    go_wp2_with fail
    ((with_reducible refine HF.out.mono ?_); rintro e w2 ⟨rfl, hb2⟩)
    have b3 := (Below.refl w2.heap.size w2).alloc (Nat.le_refl _) (.cells #[.int .i64 p.id, .int .i64 p.disk, .int .i64 p.size, .int .i64 p.root] 60)
    have e3 := heap_alloc_new w2 (.cells #[.int .i64 p.id, .int .i64 p.disk, .int .i64 p.size, .int .i64 p.root] 60)
    have hb3 := belowThen hb2 b3
    have hs2 : w.heap.size ≤ w2.heap.size := hb2.size
    clear HF
    go_wp2_with fail
    ((with_reducible refine (HA.out _ hb3).mono ?_); rintro e w4 ⟨rfl, hv4, t4⟩)
    by_cases hne : ne = 0
    · subst hne
      obtain ⟨lv4, h4, l4⟩ := hv4 rfl
      have L4 := Lib.hid (l4.down hb3.size)
      obtain ⟨q1, HR, q2, q3⟩ := HX.out rfl
      have c0 := h4.cell0
      have r4 := (t4.block _ (Array.getElem?_eq_some_iff.1 e3).1 (fun hm => by have := HO.out _ hm; omega)).trans e3
      have d3 : w4.cell? ⟨w2.heap.size, 3, none⟩ = some (.int .i64 p.root) := cell_of_row _ _ _ _ _ _ r4
      have hv0 : errV 0 = .nilIface := rfl
      rw [hv0]
      have HS := Lib.hid (idxShare_any w4.drew x gp bp bn 1000 V.X p.root (h4.idx.below (Below.refl _ _).drew) hr (by omega))
      have HMP := Lib.hid h4.idx.maps
      have H4 := Lib.hid h4
      have T4 := Lib.hid t4
      have HB3 := Lib.hid hb3
      clear HA hv4 HX h4 t4 hv0 hb3 e3 r4 l4
      go_wp2_with fail
      generalize w2.heap.size = gz at *
      have HK := Lib.hid (fun w' (t : Turn [bp, bn] w4.drew w') => show w'.cell? ⟨v, 0, none⟩ = some (.pointer (some ⟨x, 0, none⟩)) ∧ w'.cell? ⟨gz, 3, none⟩ = some (.int .i64 p.root) from ⟨mapKept t HMP.out c0, mapKept t HMP.out d3⟩)
      go_region_held3 (fun w' => w'.cell? ⟨v, 0, none⟩ = some (.pointer (some ⟨x, 0, none⟩)) ∧ w'.cell? ⟨gz, 3, none⟩ = some (.int .i64 p.root)) (first | exact ⟨c0, d3⟩ | exact HK.out _ t5)
        (first | (go_at_call 62; refine HS.out.mono ?_; rintro e w5 ⟨rfl, h5, t5⟩))
      all_goals
        clear HK c0 d3 HS
        go_wp2
        go_ret2
        refine ⟨rfl, fun _ => ⟨lv4, ?_, L4.out⟩, (Turn.of_below HB3.out).trans (T4.out.drew.trans (t5.mono (two_vbs _ _ _ _)))⟩
        rw [q1]
        exact (H4.out.below (Below.refl _ _).drew).turned (h5.renorm q3 q2) t5
    · have hv : errV ne = .iface 93 (.int .i64 ne) := by simp [errV, hne]
      have HV := Lib.hid hv
      rw [hv]
      have HM := Lib.hid hne
      clear hv HA HX e3
      go_wp2
      go_ret2
      exact ⟨by rw [HV.out, HM0.out HM.out]; rfl, fun h0 => absurd h0 HM.out, (Turn.of_below hb3).trans t4⟩

theorem VauAt.dropped {w w3 : World} {v x gp bp bn B : Nat} {lv lv' : Value} {V : VauM} {k n : Nat} (h : VauAt w v x gp bp bn B lv V) (hg : w.grownBy w3 lv.ownBlock) (hn : (V.L.eraseIdx k).length = n) (ho : w3.ownsRow B 60 4 lv' n (pCells (V.L.eraseIdx k))) :
    VauAt (w3.setCell ⟨v, 1, none⟩ lv') v x gp bp bn B lv' ⟨V.X, V.L.eraseIdx k, V.next⟩ ∧ Turn (vbs v bp bn lv) w (w3.setCell ⟨v, 1, none⟩ lv') := by
  subst hn
  obtain ⟨r3, i3, t3⟩ := h.grown (Below.refl _ _) hg
  have s1 := heap_setCell_same w3 v 1 _ _ lv' r3
  have keep : ∀ k, k ≠ v → (w3.setCell ⟨v, 1, none⟩ lv').heap[k]? = w3.heap[k]? := fun k hk => Below.heap_setCell _ _ _ _ hk
  obtain ⟨n1, n2, n3, n4, n5⟩ := h.notMap
  have hvn : ∀ g, lv'.ownBlock = some g → g ≠ v := fun g hg' e => by
    obtain ⟨cur, hh⟩ := ownsRow_type ho hg'
    rw [e, r3] at hh
    injection hh with hh
    injection hh with _ hh _
    exact absurd hh (by decide)
  refine ⟨⟨s1, ⟨(keep x (fun e => n3 e.symm)).trans i3.row, i3.pool.keep (keep gp (fun e => n4 e.symm)) (keep bp (fun e => n1 (by simp [e]))), i3.map.keep (keep bn (fun e => n1 (by simp [e]))), i3.ne, i3.ok⟩, ownsRow_keep ho fun g hg' => keep g (hvn g hg')⟩, ?_⟩
  exact ⟨t3.os, t3.tape, t3.output, by simpa using t3.size, fun k hk hn => (keep k fun e => hn (by simp [vbs, e])).trans (t3.block k hk hn)⟩

set_option maxHeartbeats 1000000 in
set_option maxRecDepth 100000 in
theorem drop_any (w : World) (v x gp bp bn B : Nat) (lv : Value) (V V' : VauM) (id : Int) (h : VauAt w v x gp bp bn B lv V) (hV : V.Ok) (ne : Int) (he : dropErr V id = ne) (hV' : dropV V id = V') :
    Calls Tryz.prog 25 #[.pointer (some ⟨v, 0, none⟩), .int .i64 id] w (VauRet w v x gp bp bn B lv V' ne (errV ne)) := by
  have hc := place_any w v x gp bp bn B lv V id h hV
  cases hp : placeOf V.L id with
  | none =>
    have he' : ne = 5 := by rw [← he]; unfold dropErr; rw [hp]
    subst he'
    rw [show placeInt V.L id = -1 by unfold placeInt; rw [hp]] at hc
    have HC := Lib.hid hc
    clear hp h he hc
    go_enter Tryz.func25, Tryz.ntmps25
    go_wp2_with fail
    ((with_reducible refine HC.out.mono ?_); rintro e w2 ⟨rfl, hb2⟩)
    go_wp2
    go_ret
    exact ⟨rfl, by simp, Turn.of_below hb2⟩
  | some k =>
    have he' : ne = 0 := by rw [← he]; unfold dropErr; rw [hp]
    subst he'
    obtain ⟨hk, _⟩ := placeOf_some hp
    obtain ⟨p, hpt⟩ : ∃ p, V.L[k] = p := ⟨_, rfl⟩
    have hpb := hV.pts _ (List.getElem_mem hk)
    rw [hpt] at hpb
    rw [show placeInt V.L id = (k : Int) by unfold placeInt; rw [hp]] at hc
    have HX := Lib.hid (show V' = ⟨V.X.free p.root, V.L.eraseIdx k, V.next⟩ ∧ ∃ HR, HR.length ≤ 800 ∧ Inv (V.X.free p.root) HR [] [] from by
      obtain ⟨k', hk', hp', hok, heq, _⟩ := drop_good hV he
      rw [hp] at hp'
      cases hp'
      rw [hpt] at heq
      exact ⟨hV'.symm.trans heq, heldOf (dropV V id).L, Nat.le_trans (heldOf_len _) (by have := hok.len; omega), by have := hok.inv; rw [heq] at this ⊢; exact this⟩)
    have HC := Lib.hid hc
    obtain ⟨n, hn⟩ : ∃ n, V.L.length = n := ⟨_, rfl⟩
    have hl6 := hV.len
    have i1 : (0 : Int) ≤ (k : Int) := by omega
    have i2 : (k : Int) < (n : Int) := by omega
    have i3 : ¬ ((k : Int) < 0) := by omega
    have i4 : IntKind.i64.wrap ((k : Int) + 1) = (k : Int) + 1 := IntWalk.i64_in _ (by omega)
    have hr : p.root ≤ 1000 := by omega
    have HH := Lib.hid h
    clear hc hp hV' he h
    go_enter Tryz.func25, Tryz.ntmps25
    go_wp2_with fail
    ((with_reducible refine HC.out.mono ?_); rintro e w1 ⟨rfl, hb1⟩)
    have h1 := HH.out.below hb1
    obtain ⟨g, c, hlv, hnc, hcm, hcell⟩ := h1.pt hk
    have c0 := h1.cell0
    have c1 := h1.cell1
    rw [hpt] at hcell
    rw [hlv, hn] at c1
    have d3 : w1.cell? ⟨g, k * 4 + 3, none⟩ = some (.int .i64 p.root) := hcell 3 (by omega)
    have HS := Lib.hid (idxFree_any w1.drew x gp bp bn 1000 V.X p.root (h1.idx.below (Below.refl _ _).drew) hr (by omega))
    have HMP := Lib.hid h1.idx.maps
    have H1 := Lib.hid (h1.below (Below.refl _ _).drew)
    clear hcell h1 HC
    have HK := Lib.hid (fun w' (t : Turn [bp, bn] w1.drew w') => show w'.cell? ⟨v, 0, none⟩ = some (.pointer (some ⟨x, 0, none⟩)) ∧ w'.cell? ⟨v, 1, none⟩ = some (.slice (some ⟨g, 0, none⟩) n c) ∧ w'.cell? ⟨g, k * 4 + 3, none⟩ = some (.int .i64 p.root) from ⟨mapKept t HMP.out c0, mapKept t HMP.out c1, mapKept t HMP.out d3⟩)
    go_wp2_with fail
    go_region_held3 (fun w' => w'.cell? ⟨v, 0, none⟩ = some (.pointer (some ⟨x, 0, none⟩)) ∧ w'.cell? ⟨v, 1, none⟩ = some (.slice (some ⟨g, 0, none⟩) n c) ∧ w'.cell? ⟨g, k * 4 + 3, none⟩ = some (.int .i64 p.root)) (first | exact ⟨c0, c1, d3⟩ | exact HK.out _ t2)
      (first | (go_at_call 50; refine HS.out.mono ?_; rintro e w2 ⟨rfl, h2, t2⟩))
    all_goals
      have hv2 := H1.out.turned h2 t2
      have c1' := hv2.cell1
      have pts2 := hv2.pts
      simp only at pts2
      rw [hlv, hn] at c1' pts2
      have HD := Lib.hid (deletePts_any B g n c k w2 V.L hn (by omega) (by omega) pts2)
      have H2 := Lib.hid hv2
      clear c0 c1 d3 HS h2 hv2 pts2 HK
      go_wp2_with fail
      ((with_reducible refine HD.out.mono ?_); rintro e w3 ⟨rfl, ho3, hg3⟩)
      have hx := H2.out.dropped (k := k) (lv' := .slice (some ⟨g, 0, none⟩) (n - 1) c) (n := n - 1) (by rw [hlv]; exact hg3) (by simp [List.length_eraseIdx, hn]; omega) ho3
      obtain ⟨r3, _, _⟩ := H2.out.grown (Below.refl _ _) (by rw [hlv]; exact hg3)
      have d1 : w3.cell? ⟨v, 1, none⟩ = some lv := cell_of_row _ _ _ _ _ _ r3
      have f1 := frozen_of_row w3 v 1 _ _ r3
      have HZ := Lib.hid hx
      clear hx r3
      go_wp2
      go_ret
      obtain ⟨q1, HR, q2, q3⟩ := HX.out
      refine ⟨rfl, fun _ => ⟨.slice (some ⟨g, 0, none⟩) (n - 1) c, ?_, fun b hb => .inl (by rw [hlv]; exact hb)⟩, (Turn.of_below hb1).drew.trans ((t2.mono (two_vbs _ _ _ _)).trans HZ.out.2)⟩
      rw [q1]
      have z := HZ.out.1
      exact ⟨z.row, z.idx.renorm q3 q2, z.pts⟩
end Go.Proofs.YtlgahdabhnhjgaaGreatDoor
