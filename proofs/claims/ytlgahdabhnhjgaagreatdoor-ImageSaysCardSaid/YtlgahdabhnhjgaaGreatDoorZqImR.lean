/- image.Rows. -/
import Derived.Test.YtlgahdabhnhjgaaGreatDoorZqImT
import Derived.Test.YtlgahdabhnhjgaaGreatDoorZqGv
import Derived.Test.YtlgahdabhnhjgaaGreatDoorZqApO
import Derived.Test.YtlgahdabhnhjgaaGreatDoorZqVau4
import Derived.Test.YtlgahdabhnhjgaaGreatDoorZqGm2
namespace Go.Proofs.YtlgahdabhnhjgaaGreatDoor
open Go.RowKit Go.Maps

theorem keysOf_in {N : Nat} {f : Int → Option Value} {k : Nat} (hk : k < (keysOf N f).length) : ∃ n : Nat, (keysOf N f)[k] = (n : Int) ∧ 1 ≤ n ∧ n ≤ N ∧ (f n).isSome = true := by
  have hm := List.getElem_mem hk
  generalize (keysOf N f)[k] = y at hm ⊢
  unfold keysOf at hm
  rw [List.mem_filter, List.mem_map] at hm
  obtain ⟨⟨i, hi, e⟩, hs⟩ := hm
  have := List.mem_range.1 hi
  refine ⟨i + 1, by rw [← e]; simp, by omega, by omega, ?_⟩
  have e' : ((i + 1 : Nat) : Int) = y := by rw [← e]; simp
  rw [e']
  exact hs
/-- A text of one number, out of a row of one. -/
theorem text1 (w : World) (blk n : Nat) (hg : w.heap[blk]? = some (.cells #[.int .i64 (n : Int)] 3 (0, 0))) (hn : n ≤ 99999) (htab : Tab w) :
    Calls Tryz.prog 38 #[.slice (some ⟨blk, 0, none⟩) 1 1] w fun e w' => e = .returned (.string ⟨(tx [n]).toArray⟩) ∧ Below w.heap.size w w' :=
  text_any w (some ⟨blk, 0, none⟩) 1 [n] (fun i hi => by
    obtain rfl : i = 0 := by simp [ints] at hi; omega
    exact ⟨blk, 0, rfl, cell_of_row _ _ _ _ _ _ hg⟩) (fun x hx => by simp at hx; omega) (by simp) (by simp) htab
/-- The text of a node's four kids, out of its own row. -/
theorem text4 (w : World) (blk a b c d : Nat) (r : Value) (hg : w.heap[blk]? = some (.cells #[.int .i64 (a : Int), .int .i64 (b : Int), .int .i64 (c : Int), .int .i64 (d : Int), r] 81 (0, 0))) (ha : a ≤ 40) (hb : b ≤ 40) (hc : c ≤ 40) (hd : d ≤ 40) (htab : Tab w) :
    Calls Tryz.prog 38 #[.slice (some ⟨blk, 0, none⟩) 4 4] w fun e w' => e = .returned (.string ⟨(tx [a, b, c, d]).toArray⟩) ∧ Below w.heap.size w w' :=
  text_any w (some ⟨blk, 0, none⟩) 4 [a, b, c, d] (fun i hi => by
    have hi4 : i = 0 ∨ i = 1 ∨ i = 2 ∨ i = 3 := by simp [ints] at hi; omega
    rcases hi4 with rfl | rfl | rfl | rfl
    all_goals exact ⟨blk, 0, rfl, cell_of_row _ _ _ _ _ _ hg⟩) (fun x hx => by simp at hx; omega) (by simp) (by simp) htab
/-- A text of three numbers, out of a row of three. -/
theorem text3 (w : World) (blk a b c : Nat) (hg : w.heap[blk]? = some (.cells #[.int .i64 (a : Int), .int .i64 (b : Int), .int .i64 (c : Int)] 3 (0, 0))) (ha : a ≤ 999) (hb : b ≤ 999) (hc : c ≤ 999) (htab : Tab w) :
    Calls Tryz.prog 38 #[.slice (some ⟨blk, 0, none⟩) 3 3] w fun e w' => e = .returned (.string ⟨(tx [a, b, c]).toArray⟩) ∧ Below w.heap.size w w' :=
  text_any w (some ⟨blk, 0, none⟩) 3 [a, b, c] (fun i hi => by
    have hi3 : i = 0 ∨ i = 1 ∨ i = 2 := by simp [ints] at hi; omega
    rcases hi3 with rfl | rfl | rfl
    all_goals exact ⟨blk, 0, rfl, cell_of_row _ _ _ _ _ _ hg⟩) (fun x hx => by simp at hx; omega) (by simp) (by simp) htab
theorem rowP_form (p : PtM) : (⟨⟨#[112]⟩ ++ ⟨(tx [p.id]).toArray⟩, ⟨(tx [p.disk, p.size, p.root]).toArray⟩, false⟩ : Ch) = rowP p := by
  unfold rowP ba
  congr 1
theorem rowN_form (id : Nat) (b : Nod) : (⟨⟨#[110]⟩ ++ ⟨(tx [id]).toArray⟩, ⟨(tx [b.refs]).toArray⟩ ++ ⟨(tx [b.k0, b.k1, b.k2, b.k3]).toArray⟩, false⟩ : Ch) = rowN id b := by
  unfold rowN ba
  congr 1
theorem newAt {w : World} {o : Obj} : (w.alloc o).heap[w.heap.size]? = some o := heap_alloc_new w o
theorem newAt1 {w : World} {o o' : Obj} : ((w.alloc o').alloc o).heap[w.heap.size + 1]? = some o := by
  have := heap_alloc_new (w.alloc o') o
  rwa [show (w.alloc o').heap.size = w.heap.size + 1 from Array.size_push ..] at this
theorem oldAt {w : World} {o x : Obj} {n : Nat} (h : w.heap[n]? = some x) : (w.alloc o).heap[n]? = some x := by
  have := (Array.getElem?_eq_some_iff.1 h).1
  rw [Below.heap_alloc _ _ _ this]; exact h
theorem drewAt {w : World} {x : Obj} {n : Nat} (h : w.heap[n]? = some x) : w.drew.heap[n]? = some x := h
theorem belowAt {w w' : World} {x : Obj} {n : Nat} (hb : Below w.heap.size w w') (h : w.heap[n]? = some x) : w'.heap[n]? = some x := by
  have := (Array.getElem?_eq_some_iff.1 h).1
  rw [hb.block _ this]; exact h
theorem belowAlloc {w w' : World} (h : Below w.heap.size w w') (o : Obj) : Below w.heap.size w (w'.alloc o) := h.alloc h.size o
theorem rowB_form (id : Nat) (b : Blk) : (⟨⟨#[98]⟩ ++ ⟨(tx [id]).toArray⟩, ⟨(tx [b.refs]).toArray⟩ ++ b.data, false⟩ : Ch) = rowB id b := by
  unfold rowB ba
  congr 1
/-- append of one row onto a row of rows of the call's own. -/
theorem appCh {ops : Array Oper} {o : Oper} {a : Act} {w : World} {K : Act → World → Prop} {Q : Exit → Act → World → Prop} {E : Prop} (hgd : o.guard = none) (s x : Operand)
    (ho : o.op = .call { callee := .builtin .append, args := #[s, x], argTypes := #[23, 23] })
    (base : Nat) (u : Value) (xs : List Ch) (n : Nat) (hs : a.eval s = u) (hown : w.ownsRow base 49 3 u n (chCells xs))
    (g c : Nat) (hx : a.eval x = .slice (some ⟨g, 0, none⟩) 1 c) (kk vv : ByteArray) (b : Bool) (fr : Nat × Nat) (hg : w.heap[g]? = some (.cells #[.string kk, .string vv, .bool b] 49 fr))
    (hlen : n ≤ 1000) (hbase : base ≤ w.heap.size)
    (h : ∀ g' c' w', w'.ownsRow base 49 3 (.slice (some ⟨g', 0, none⟩) (n + 1) c') (n + 1) (chCells (xs ++ [⟨kk, vv, b⟩])) → w.grownBy w' u.ownBlock → (u.ownBlock = some g' ∨ g' = w.heap.size) → K (a.put o.dst (.slice (some ⟨g', 0, none⟩) (n + 1) c')) w') :
    if Region.wanted o (yielded ops a.tmps) = true then Oper.wp Tryz.prog o a w K Q else E := by
  obtain ⟨i0, hi, hz0, hz1, hz2⟩ := info_parts Tryz.infoChZ
  refine step_append_lies (P := Tryz.prog) (w := w) hgd s x 23 ho base 49 i0 _ 3 40 Tryz.underlying23 hi hz0 hz1 hz2 rfl (by decide) u _ _ hs hown ⟨g, 0, none⟩ 1 c [.string kk, .string vv, .bool b] hx rfl (World.news_of_block hg) (by simp [Value.oneCell']) (by omega) (by unfold maxLen; omega) (by omega) hbase _ rfl ?_
  intro g' c' w' ho' hg' hl' _
  refine h g' c' w' ?_ hg' hl'
  have e : chCells (xs ++ [⟨kk, vv, b⟩]) = chCells xs ++ [.string kk, .string vv, .bool b] := by simp [chCells]
  rw [e]
  exact ho'
theorem IntsAt.grown {w wX w4 : World} {A : Option Addr} {L : List Int} {u : Value} (h : IntsAt w A L) (hb : Below w.heap.size w wX) (hg : wX.grownBy w4 u.ownBlock) (hne : ∀ b off, A = some ⟨b, off, none⟩ → u.ownBlock ≠ some b) : IntsAt w4 A L := fun i hi => by
  obtain ⟨b, off, e, hc⟩ := h i hi
  have hlt := World.block_lt_of_cell? w _ hc
  refine ⟨b, off, e, ?_⟩
  rw [hg.cell_far ⟨b, off + i, none⟩ (Nat.lt_of_lt_of_le hlt hb.size) (fun e' => hne b off e e'.symm), hb.cell hlt]
  exact hc
theorem own_ne {wX : World} {A : Option Addr} {u : Value} {g M : Nat} (hne : ∀ b off, A = some ⟨b, off, none⟩ → u.ownBlock ≠ some b) (hlt : ∀ b off, A = some ⟨b, off, none⟩ → b < M) (hM : M ≤ wX.heap.size) (hl : u.ownBlock = some g ∨ g = wX.heap.size) : ∀ b off, A = some ⟨b, off, none⟩ → g ≠ b := fun b off e hgb => by
  rcases hl with hl | hl
  · exact hne b off e (by rw [hl, hgb])
  · have := hlt b off e; omega
theorem ownMono {w : World} {base base' : Nat} {e : TypeId} {size : Nat} {v : Value} {n : Nat} {xs : List Value} (h : w.ownsRow base e size v n xs) (hb : base' ≤ base) : w.ownsRow base' e size v n xs :=
  ⟨h.1, h.2.imp id fun ⟨g, cap, cur, h1, h2, h3⟩ => ⟨g, cap, cur, h1, Nat.le_trans hb h2, h3⟩⟩
/-- Which of the texts is called for. -/
theorem args1 {P : Program} {f : FuncId} {A : Option Addr} {w : World} {Q : Ending → World → Prop} (h : Calls P f #[.slice A 1 1] w Q) : Calls P f #[.slice A 1 1] w Q := h
theorem args3 {P : Program} {f : FuncId} {A : Option Addr} {w : World} {Q : Ending → World → Prop} (h : Calls P f #[.slice A 3 3] w Q) : Calls P f #[.slice A 3 3] w Q := h
theorem args4 {P : Program} {f : FuncId} {A : Option Addr} {w : World} {Q : Ending → World → Prop} (h : Calls P f #[.slice A 4 4] w Q) : Calls P f #[.slice A 4 4] w Q := h

set_option maxHeartbeats 4000000 in
set_option maxRecDepth 100000 in
theorem rows_any (w : World) (v x gp bp bn B : Nat) (lv : Value) (V : VauM) (h : VauAt w v x gp bp bn B lv V) (hV : V.Ok0) (hD : ∀ n, (V.X.P n).data.size ≤ 6) (htab : Tab w) :
    Calls Tryz.prog 17 #[.pointer (some ⟨v, 0, none⟩)] w fun e w' => ∃ C c, e = .returned (.slice C (rowsM V).length c) ∧ w'.ownsRow w.heap.size 49 3 (.slice C (rowsM V).length c) (rowsM V).length (chCells (rowsM V)) ∧ Below w.heap.size w w' := by
  obtain ⟨A3, k3, rfl⟩ := slice_form h.pts
  obtain ⟨n3, hn3⟩ : ∃ n, V.L.length = n := ⟨_, rfl⟩
  rw [hn3] at h
  have hn6 : n3 ≤ 6 := by rw [← hn3]; exact hV.len
  have HN3 := Lib.hid hn3
  have HPT := Lib.hid hV.pts
  have HNX := Lib.hid hV.next
  have HH := Lib.hid h
  have HOK := Lib.hid hV.okX
  have HT := Lib.hid (fun w' (hb : Below w.heap.size w w') => htab.below hb)
  have c0 := h.cell0
  have x0 := h.idx.cell0
  obtain ⟨L1, hL1⟩ : ∃ L, numsOf V.X.P = L := ⟨_, rfl⟩
  obtain ⟨n1, hn1⟩ : ∃ n, L1.length = n := ⟨_, rfl⟩
  have hn40 : n1 ≤ 40 := by rw [← hn1, ← hL1]; exact keysOf_le 40 _
  have HN1 := Lib.hid (poolNumbers_any gp bp 1000 w V.X.P h.idx.pool)
  have HL1 := Lib.hid hL1
  have HNN1 := Lib.hid hn1
  have HD := Lib.hid hD
  clear h htab hD hn3
  go_enter Tryz.func17, Tryz.ntmps17
  go_wp2_with fail
  ((with_reducible refine HN1.out.mono ?_); rintro e w1 ⟨u1, rfl, hO1, hb1⟩)
  obtain ⟨A1, k1, hu1, hI1, _⟩ := hO1.at_
  rw [hL1, hn1] at hu1
  rw [hL1] at hI1
  subst hu1
  have HI1 := Lib.hid (fun w' (hb : Below w1.heap.size w1 w') => hI1.below hb)
  have hs1 := hb1.size
  have HB1 := Lib.hid hb1
  clear hO1 hI1 hL1 HN1 hb1
  go_wp2
  go_loopw [3, 21] (fun u i w' => ∃ k : Nat, k ≤ n1 ∧ i = .int .i64 k ∧ w'.ownsRow w1.heap.size 49 3 u k (chCells ((rowsBs V.X.P L1).take k)) ∧ Below w1.heap.size w1 w') (fun _ i _ => n1 - (intOf i).toNat)
  case atStart => exact ⟨0, Nat.zero_le _, rfl, World.ownsRow_nil _ _ _ _, Below.refl _ _⟩
  case round =>
    obtain ⟨k, hk, rfl, hO, hb⟩ := hrel
    have hbw := belowThen HB1.out hb
    have hh := HH.out.below hbw
    have c0 := hh.cell0
    have x0 := hh.idx.cell0
    have p0 := hh.idx.pool.cell
    have hM := hh.idx.pool.map
    by_cases hlt : k < n1
    · have hkl : k < L1.length := by omega
      have hkk : k < (keysOf 40 (poolMap V.X.P)).length := by have := HL1.out; unfold numsOf at this; rw [this]; exact hkl
      obtain ⟨id, hid, hid1, hid2, hsome⟩ := keysOf_in hkk
      have hid' : L1[k] = (id : Int) := by
        have e := HL1.out
        unfold numsOf at e
        subst e
        exact hid
      obtain ⟨b, off, rfl, d0⟩ := HI1.out wr hb k hkl
      rw [hid'] at d0
      have hhas : hasBlk V.X.P (id : Int) = true := by rw [← poolMap_isSome]; exact hsome
      have q1 : (poolMap V.X.P (id : Int)).getD (.agg #[.string ByteArray.empty, .int .i64 0]) = .agg #[.string (V.X.P id).data, .int .i64 (V.X.P id).refs] := by unfold poolMap; rw [hhas]; rfl
      have hrefs : (V.X.P id).refs ≤ 1000 := HOK.out.P.refs id
      have hrow : (rowsBs V.X.P L1).take (k + 1) = (rowsBs V.X.P L1).take k ++ [rowB id (V.X.P id)] := by
        rw [← List.take_append_getElem (by simp [rowsBs]; omega)]
        simp [rowsBs, hid']
      have hdat : (V.X.P id).data.size ≤ 6 := HD.out id
      generalize V.X.P id = bl at q1 hrefs hrow hdat
      have hc1 : ¬ (9223372036854775807 < 1 + (tx [id]).length) := by have := (tx_len [id] (by simp; omega)).1; simp at this; omega
      have hc2 : ¬ (9223372036854775807 < (tx [bl.refs]).length + bl.data.size) := by have := (tx_len [bl.refs] (by simp; omega)).1; simp at this; omega
      have Q1 := Lib.hid q1
      have HROW := Lib.hid hrow
      have hz : (-9223372036854775808 : Int) ≤ (id : Int) ∧ (id : Int) ≤ 9223372036854775807 := by omega
      have i1 : (k : Int) < (n1 : Int) := by omega
      have b3 := (Below.refl wr.heap.size wr).alloc (Nat.le_refl _) (.cells #[.string bl.data, .int .i64 bl.refs] 77)
      have e3 := heap_alloc_new wr (.cells #[.string bl.data, .int .i64 bl.refs] 77)
      clear q1 hrow hid hid' hkk hsome hhas hh
      go_wp2_with (first
        | (at_lookup; refine wpList_look rfl _ _ 95 rfl 77 Tryz.underlying95 _ (Tryz.zeroBlock _) bp 40 _ rfl hM (id : Int) rfl hz _ Q1.out ?_)
        | fail)
      generalize hW : wr.alloc (.cells #[.string bl.data, .int .i64 bl.refs] 77) = W at *
      have s0 : W.cell? ⟨wr.heap.size, 0, none⟩ = some (.string bl.data) := cell_of_row _ _ _ _ _ _ e3
      have s1 : W.cell? ⟨wr.heap.size, 1, none⟩ = some (.int .i64 bl.refs) := cell_of_row _ _ _ _ _ _ e3
      have szW : wr.heap.size < W.heap.size := (Array.getElem?_eq_some_iff.1 e3).1
      have KS := Lib.hid (fun w' (hb : Below W.heap.size W w') => (show w'.cell? ⟨wr.heap.size, 0, none⟩ = some (.string bl.data) ∧ w'.cell? ⟨wr.heap.size, 1, none⟩ = some (.int .i64 bl.refs) from ⟨by rw [hb.cell szW]; exact s0, by rw [hb.cell szW]; exact s1⟩))
      have HOW := Lib.hid (fun w' (hb : Below W.heap.size W w') => own_below hO (belowThen b3 hb))
      have HSZ := Lib.hid (fun w' (hb' : Below W.heap.size W w') => show w1.heap.size ≤ w'.heap.size from (belowThen (belowThen hb b3) hb').size)
      have hsw : w1.heap.size ≤ W.heap.size := (belowThen hb b3).size
      have HFIN := Lib.hid (fun wX w4 (hx : Below W.heap.size W wX) (hg : wX.grownBy w4 u3.ownBlock) => (show (w4.cell? ⟨wr.heap.size, 0, none⟩ = some (.string bl.data) ∧ w4.cell? ⟨wr.heap.size, 1, none⟩ = some (.int .i64 bl.refs)) ∧ Below w1.heap.size w1 w4 from by
        have hb1 := (belowThen (belowThen hb b3) hx).grown hg (belowThen (belowThen hb b3) hx).size (fun j hj => (hO.lt j hj).1)
        refine ⟨?_, hb1⟩
        have hne : wr.heap.size ≠ (u3.ownBlock).getD wr.heap.size.succ := by
          rcases hu : u3.ownBlock with _ | j
          · simp
          · have := (hO.lt j hu).2; simp; omega
        have e := hg.block wr.heap.size (Nat.lt_of_lt_of_le szW hx.size) (fun e => by rw [← e] at hne; simp at hne)
        obtain ⟨k0, k1⟩ := KS.out wX hx
        exact ⟨by rw [World.cell?_of_block e]; exact k0, by rw [World.cell?_of_block e]; exact k1⟩))
      have HTW := Lib.hid (fun w' (hb : Below W.heap.size W w') => HT.out w' (belowThen (belowThen hbw b3) hb))
      clear hO hb hbw e3 b3 hW x0 p0 hM c0 d0
      --< one
      go_region_held3 (fun w' => w'.cell? ⟨wr.heap.size, 0, none⟩ = some (.string bl.data) ∧ w'.cell? ⟨wr.heap.size, 1, none⟩ = some (.int .i64 bl.refs)) (first | with_reducible exact ⟨s0, s1⟩ | with_reducible exact ⟨e0, e1⟩ | with_reducible exact KS.out _ (by (repeat (first | with_reducible exact Below.refl _ _ | with_reducible refine belowAlloc ?_ _ | with_reducible refine Below.drew ?_ | with_reducible refine belowThen ?_ hb5 | with_reducible refine belowThen ?_ hb3 | with_reducible refine belowThen ?_ hb2)); (first | done | fail)))
        (first
          | (go_at_call 38; with_reducible refine (text1 _ _ id (by (repeat (first | with_reducible exact newAt | with_reducible exact newAt1 | with_reducible refine oldAt ?_ | with_reducible refine drewAt ?_ | with_reducible refine belowAt hb5 ?_ | with_reducible refine belowAt hb3 ?_ | with_reducible refine belowAt hb2 ?_)); (first | done | fail)) (by omega) (HTW.out _ (by (repeat (first | with_reducible exact Below.refl _ _ | with_reducible refine belowAlloc ?_ _ | with_reducible refine Below.drew ?_ | with_reducible refine belowThen ?_ hb5 | with_reducible refine belowThen ?_ hb3 | with_reducible refine belowThen ?_ hb2)); (first | done | fail)))).mono ?_; rintro e w2 ⟨rfl, hb2⟩)
          | (go_at_call 38; with_reducible refine (text1 _ _ bl.refs (by (repeat (first | with_reducible exact newAt | with_reducible exact newAt1 | with_reducible refine oldAt ?_ | with_reducible refine drewAt ?_ | with_reducible refine belowAt hb5 ?_ | with_reducible refine belowAt hb3 ?_ | with_reducible refine belowAt hb2 ?_)); (first | done | fail)) (by omega) (HTW.out _ (by (repeat (first | with_reducible exact Below.refl _ _ | with_reducible refine belowAlloc ?_ _ | with_reducible refine Below.drew ?_ | with_reducible refine belowThen ?_ hb5 | with_reducible refine belowThen ?_ hb3 | with_reducible refine belowThen ?_ hb2)); (first | done | fail)))).mono ?_; rintro e w3 ⟨rfl, hb3⟩)
          | (refine appCh (by rfl) (.tmp 37) (.tmp 50) (by rfl) w1.heap.size u3 ((rowsBs V.X.P L1).take k) k (by rfl) ?ho _ _ (by rfl) _ _ _ _ (by (repeat (first | with_reducible exact newAt | with_reducible exact newAt1 | with_reducible refine oldAt ?_ | with_reducible refine drewAt ?_ | with_reducible refine belowAt hb5 ?_ | with_reducible refine belowAt hb3 ?_ | with_reducible refine belowAt hb2 ?_)); (first | done | fail)) ?hl ?hsz ?_; (case ho => exact HOW.out _ (by (repeat (first | with_reducible exact Below.refl _ _ | with_reducible refine belowAlloc ?_ _ | with_reducible refine Below.drew ?_ | with_reducible refine belowThen ?_ hb5 | with_reducible refine belowThen ?_ hb3 | with_reducible refine belowThen ?_ hb2)); (first | done | fail))); (case hl => omega); (case hsz => exact HSZ.out _ (by (repeat (first | with_reducible exact Below.refl _ _ | with_reducible refine belowAlloc ?_ _ | with_reducible refine Below.drew ?_ | with_reducible refine belowThen ?_ hb5 | with_reducible refine belowThen ?_ hb3 | with_reducible refine belowThen ?_ hb2)); (first | done | fail))); intro g4 c4 w4 hO4 hg4 _; obtain ⟨⟨e0, e1⟩, hb4⟩ := HFIN.out _ _ (by (repeat (first | with_reducible exact Below.refl _ _ | with_reducible refine belowAlloc ?_ _ | with_reducible refine Below.drew ?_ | with_reducible refine belowThen ?_ hb5 | with_reducible refine belowThen ?_ hb3 | with_reducible refine belowThen ?_ hb2)); (first | done | fail)) hg4)
          | fail)
      all_goals
        rw [rowB_form, ← HROW.out] at hO4
        have HE := Lib.hid hO4
        have HB4 := Lib.hid hb4
        clear hO4 hg4 hb4 hb2 hb3
        go_wp2
        go_roundw
        case rel => exact ⟨k + 1, hlt, by go_num, HE.out, HB4.out⟩
        case measure => simp [intOf]; omega
      --> one
    · obtain rfl : k = n1 := by omega
      have hL1 : (rowsBs V.X.P L1).length = k := by simp [rowsBs, HNN1.out]
      rw [List.take_of_length_le (by omega)] at hO
      obtain ⟨U, hU⟩ : ∃ U, rowsBs V.X.P L1 = U := ⟨_, rfl⟩
      rw [hU] at hO hL1
      obtain ⟨L2, hL2⟩ : ∃ L, nodsOf V.X.N = L := ⟨_, rfl⟩
      obtain ⟨n2, hn2⟩ : ∃ n, L2.length = n := ⟨_, rfl⟩
      have hn24 : n2 ≤ 24 := by rw [← hn2, ← hL2]; exact keysOf_le 24 _
      have HN2 := Lib.hid (idxNumbers_any wr x gp bp bn 1000 V.X hh.idx)
      have HU := Lib.hid hU
      have HUL := Lib.hid hL1
      have HL2 := Lib.hid hL2
      have HNN2 := Lib.hid hn2
      have HOr := Lib.hid (fun w' (hb : Below wr.heap.size wr w') => own_below hO hb)
      have HBr := Lib.hid hb
      have hsr := hb.size
      clear hL1 hU hh p0 hM x0 hbw
      go_wp2_with fail
      ((with_reducible refine HN2.out.mono ?_); rintro e w2 ⟨u2, rfl, hO2, hb2⟩)
      obtain ⟨A2, k2, hu2, hI2, hA2⟩ := hO2.at_
      rw [hL2, hn2] at hu2
      rw [hL2] at hI2
      subst hu2
      have HI2 := Lib.hid hI2
      have HA2 := Lib.hid (fun b off e => (hA2 b off e).2)
      have hs2 := hb2.size
      have HO2 := Lib.hid (HOr.out w2 hb2)
      have HB2 := Lib.hid (belowThen HBr.out hb2)
      have HNE2 := Lib.hid (show ∀ b off, A2 = some ⟨b, off, none⟩ → u3.ownBlock ≠ some b from fun b off e e' => by have h1 := (hA2 b off e).1; have h2 := (hO.lt b e').2; omega)
      clear hO2 hI2 hL2 HN2 hb2 c0 hb hA2 hO
      go_wp2
      go_loopw [3, 59] (fun u i w' => ∃ j : Nat, j ≤ n2 ∧ i = .int .i64 j ∧ w'.ownsRow w1.heap.size 49 3 u (k + j) (chCells (U ++ (rowsNs V.X.N L2).take j)) ∧ (∀ b off, A2 = some ⟨b, off, none⟩ → u.ownBlock ≠ some b) ∧ IntsAt w' A2 L2 ∧ w2.heap.size ≤ w'.heap.size ∧ Below w1.heap.size w1 w') (fun _ i _ => n2 - (intOf i).toNat)
      case atStart => exact ⟨0, Nat.zero_le _, rfl, by simpa using HO2.out, HNE2.out, HI2.out, Nat.le_refl _, HB2.out⟩
      case round =>
        obtain ⟨j, hj, rfl, hO, hne, hI, hsz2, hb1⟩ := hrel
        have hh := HH.out.below (belowThen HB1.out hb1)
        have c0 := hh.cell0
        have x1 := hh.idx.cell1
        have hM := hh.idx.map
        by_cases hlt : j < n2
        · have hkl : j < L2.length := by have := HNN2.out; omega
          have hkk : j < (keysOf 24 (nodMap V.X.N)).length := by have := HL2.out; unfold nodsOf at this; rw [this]; exact hkl
          obtain ⟨id, hid, hid1, hid2, hsome⟩ := keysOf_in hkk
          have hid' : L2[j] = (id : Int) := by
            have e := HL2.out
            unfold nodsOf at e
            subst e
            exact hid
          have HI := Lib.hid hI
          have HNE := Lib.hid hne
          obtain ⟨b, off, hA, d0⟩ := hI j hkl
          subst hA
          rw [hid'] at d0
          have q1 := nodMap_get HOK.out.N id
          have hrefs : (V.X.N id).refs ≤ 1000 := HOK.out.N.refs id
          have hkids := HOK.out.N.kids id
          have hrow : (rowsNs V.X.N L2).take (j + 1) = (rowsNs V.X.N L2).take j ++ [rowN id (V.X.N id)] := by
            rw [← List.take_append_getElem (by simp [rowsNs]; omega)]
            simp [rowsNs, hid']
          generalize V.X.N id = bl at q1 hrefs hrow hkids
          obtain ⟨hk0, hk1, hk2, hk3⟩ := hkids
          have hc1 : ¬ (9223372036854775807 < 1 + (tx [id]).length) := by have := (tx_len [id] (by simp; omega)).1; simp at this; omega
          have hc2 : ¬ (9223372036854775807 < (tx [bl.refs]).length + (tx [bl.k0, bl.k1, bl.k2, bl.k3]).length) := by
            have := (tx_len [bl.refs] (by simp; omega)).1
            have := (tx_len [bl.k0, bl.k1, bl.k2, bl.k3] (by simp; omega)).1
            simp at *; omega
          unfold nodV at q1
          have Q1 := Lib.hid q1
          have HROW := Lib.hid hrow
          have hz : (-9223372036854775808 : Int) ≤ (id : Int) ∧ (id : Int) ≤ 9223372036854775807 := by omega
          have i1 : (j : Int) < (n2 : Int) := by omega
          have b3 := (Below.refl wr.heap.size wr).alloc (Nat.le_refl _) (.cells #[.int .i64 bl.k0, .int .i64 bl.k1, .int .i64 bl.k2, .int .i64 bl.k3, .int .i64 bl.refs] 81)
          have e3 := heap_alloc_new wr (.cells #[.int .i64 bl.k0, .int .i64 bl.k1, .int .i64 bl.k2, .int .i64 bl.k3, .int .i64 bl.refs] 81)
          clear q1 hrow hid hid' hkk hsome hh
          go_wp2_with (first
            | (at_lookup; refine wpList_look rfl _ _ 64 rfl 81 Tryz.underlying64 _ (Tryz.zeroNode _) bn 24 _ rfl hM (id : Int) rfl hz _ Q1.out ?_)
            | fail)
          generalize hW : wr.alloc (.cells #[.int .i64 bl.k0, .int .i64 bl.k1, .int .i64 bl.k2, .int .i64 bl.k3, .int .i64 bl.refs] 81) = W at *
          have szW : wr.heap.size < W.heap.size := (Array.getElem?_eq_some_iff.1 e3).1
          have HG := Lib.hid (fun w' (hb : Below W.heap.size W w') => (show w'.heap[wr.heap.size]? = some (.cells #[.int .i64 bl.k0, .int .i64 bl.k1, .int .i64 bl.k2, .int .i64 bl.k3, .int .i64 bl.refs] 81 (0, 0)) from by rw [hb.block _ szW]; exact e3))
          have s1 : W.cell? ⟨wr.heap.size, 4, none⟩ = some (.int .i64 bl.refs) := cell_of_row _ _ _ _ _ _ e3
          have KS := Lib.hid (fun w' (hb : Below W.heap.size W w') => (show w'.cell? ⟨wr.heap.size, 4, none⟩ = some (.int .i64 bl.refs) from by rw [hb.cell szW]; exact s1))
          have HOW := Lib.hid (fun w' (hb : Below W.heap.size W w') => own_below hO (belowThen b3 hb))
          have hbW := belowThen hb1 b3
          have HSZ := Lib.hid (fun w' (hb' : Below W.heap.size W w') => show w1.heap.size ≤ w'.heap.size from (belowThen hbW hb').size)
          have hsw : w1.heap.size ≤ W.heap.size := hbW.size
          have hsw2 : w2.heap.size ≤ W.heap.size := Nat.le_trans hsz2 b3.size
          have HFIN := Lib.hid (fun wX w4 g4 (hx : Below W.heap.size W wX) (hg : wX.grownBy w4 u3.ownBlock) (hl : u3.ownBlock = some g4 ∨ g4 = wX.heap.size) => (show w4.cell? ⟨wr.heap.size, 4, none⟩ = some (.int .i64 bl.refs) ∧ Below w1.heap.size w1 w4 ∧ IntsAt w4 (some ⟨b, off, none⟩) L2 ∧ (∀ b' off', some (⟨b, off, none⟩ : Addr) = some ⟨b', off', none⟩ → g4 ≠ b') ∧ w2.heap.size ≤ w4.heap.size from by
            have hb1 := (belowThen hbW hx).grown hg (belowThen hbW hx).size (fun j hj => (hO.lt j hj).1)
            refine ⟨?_, hb1, HI.out.grown (belowThen b3 hx) hg HNE.out, own_ne HNE.out HA2.out (Nat.le_trans hsw2 hx.size) hl, Nat.le_trans (Nat.le_trans hsw2 hx.size) hg.size⟩
            have hne : wr.heap.size ≠ (u3.ownBlock).getD wr.heap.size.succ := by
              rcases hu : u3.ownBlock with _ | j
              · simp
              · have := (hO.lt j hu).2; simp; omega
            have e := hg.block wr.heap.size (Nat.lt_of_lt_of_le szW hx.size) (fun e => by rw [← e] at hne; simp at hne)
            rw [World.cell?_of_block e]; exact KS.out wX hx))
          have HTW := Lib.hid (fun w' (hb : Below W.heap.size W w') => HT.out w' (belowThen (belowThen HB1.out hbW) hb))
          clear hO hb1 e3 b3 hW x1 hM c0 d0 hbW hI hne
          --< two
          go_region_held3 (fun w' => w'.cell? ⟨wr.heap.size, 4, none⟩ = some (.int .i64 bl.refs)) (first | with_reducible exact s1 | with_reducible exact e1 | with_reducible exact KS.out _ (by (repeat (first | with_reducible exact Below.refl _ _ | with_reducible refine belowAlloc ?_ _ | with_reducible refine Below.drew ?_ | with_reducible refine belowThen ?_ hb5 | with_reducible refine belowThen ?_ hb3 | with_reducible refine belowThen ?_ hb2)); (first | done | fail)))
            (first
              | (go_at_call 38; with_reducible refine args4 ?_; with_reducible refine (text4 _ _ bl.k0 bl.k1 bl.k2 bl.k3 _ (HG.out _ (by (repeat (first | with_reducible exact Below.refl _ _ | with_reducible refine belowAlloc ?_ _ | with_reducible refine Below.drew ?_ | with_reducible refine belowThen ?_ hb5 | with_reducible refine belowThen ?_ hb3 | with_reducible refine belowThen ?_ hb2)); (first | done | fail))) hk0 hk1 hk2 hk3 (HTW.out _ (by (repeat (first | with_reducible exact Below.refl _ _ | with_reducible refine belowAlloc ?_ _ | with_reducible refine Below.drew ?_ | with_reducible refine belowThen ?_ hb5 | with_reducible refine belowThen ?_ hb3 | with_reducible refine belowThen ?_ hb2)); (first | done | fail)))).mono ?_; rintro e w5 ⟨rfl, hb5⟩)
              | (go_at_call 38; with_reducible refine args1 ?_; with_reducible refine (text1 _ _ id (by (repeat (first | with_reducible exact newAt | with_reducible exact newAt1 | with_reducible refine oldAt ?_ | with_reducible refine drewAt ?_ | with_reducible refine belowAt hb5 ?_ | with_reducible refine belowAt hb3 ?_ | with_reducible refine belowAt hb2 ?_)); (first | done | fail)) (by omega) (HTW.out _ (by (repeat (first | with_reducible exact Below.refl _ _ | with_reducible refine belowAlloc ?_ _ | with_reducible refine Below.drew ?_ | with_reducible refine belowThen ?_ hb5 | with_reducible refine belowThen ?_ hb3 | with_reducible refine belowThen ?_ hb2)); (first | done | fail)))).mono ?_; rintro e w2 ⟨rfl, hb2⟩)
              | (go_at_call 38; with_reducible refine args1 ?_; with_reducible refine (text1 _ _ bl.refs (by (repeat (first | with_reducible exact newAt | with_reducible exact newAt1 | with_reducible refine oldAt ?_ | with_reducible refine drewAt ?_ | with_reducible refine belowAt hb5 ?_ | with_reducible refine belowAt hb3 ?_ | with_reducible refine belowAt hb2 ?_)); (first | done | fail)) (by omega) (HTW.out _ (by (repeat (first | with_reducible exact Below.refl _ _ | with_reducible refine belowAlloc ?_ _ | with_reducible refine Below.drew ?_ | with_reducible refine belowThen ?_ hb5 | with_reducible refine belowThen ?_ hb3 | with_reducible refine belowThen ?_ hb2)); (first | done | fail)))).mono ?_; rintro e w3 ⟨rfl, hb3⟩)
              | (refine appCh (by rfl) (.tmp 72) (.tmp 86) (by rfl) w1.heap.size u3 (U ++ (rowsNs V.X.N L2).take j) (k + j) (by rfl) ?ho _ _ (by rfl) _ _ _ _ (by (repeat (first | with_reducible exact newAt | with_reducible exact newAt1 | with_reducible refine oldAt ?_ | with_reducible refine drewAt ?_ | with_reducible refine belowAt hb5 ?_ | with_reducible refine belowAt hb3 ?_ | with_reducible refine belowAt hb2 ?_)); (first | done | fail)) ?hl ?hsz ?_; (case ho => exact HOW.out _ (by (repeat (first | with_reducible exact Below.refl _ _ | with_reducible refine belowAlloc ?_ _ | with_reducible refine Below.drew ?_ | with_reducible refine belowThen ?_ hb5 | with_reducible refine belowThen ?_ hb3 | with_reducible refine belowThen ?_ hb2)); (first | done | fail))); (case hl => omega); (case hsz => exact HSZ.out _ (by (repeat (first | with_reducible exact Below.refl _ _ | with_reducible refine belowAlloc ?_ _ | with_reducible refine Below.drew ?_ | with_reducible refine belowThen ?_ hb5 | with_reducible refine belowThen ?_ hb3 | with_reducible refine belowThen ?_ hb2)); (first | done | fail))); intro g4 c4 w4 hO4 hg4 hl4; obtain ⟨e1, hb4, hI4, hn4, hs4⟩ := HFIN.out _ _ _ (by (repeat (first | with_reducible exact Below.refl _ _ | with_reducible refine belowAlloc ?_ _ | with_reducible refine Below.drew ?_ | with_reducible refine belowThen ?_ hb5 | with_reducible refine belowThen ?_ hb3 | with_reducible refine belowThen ?_ hb2)); (first | done | fail)) hg4 hl4)
              | fail)
          all_goals
            rw [rowN_form, List.append_assoc, ← HROW.out] at hO4
            have HE := Lib.hid hO4
            have HB4 := Lib.hid hb4
            have HI4 := Lib.hid hI4
            have HN4 := Lib.hid hn4
            clear hO4 hg4 hb4 hI4 hn4 hl4
            go_wp2
            go_roundw
            case rel => exact ⟨j + 1, hlt, by go_num, HE.out, fun b' off' e h => HN4.out b' off' e (by simpa [Value.ownBlock] using h), HI4.out, hs4, HB4.out⟩
            case measure => simp [intOf]; omega
          --> two
        · obtain rfl : j = n2 := by omega
          have hL2 : (rowsNs V.X.N L2).length = j := by simp [rowsNs, HNN2.out]
          rw [List.take_of_length_le (by omega)] at hO
          obtain ⟨U2, hU2⟩ : ∃ U2, U ++ rowsNs V.X.N L2 = U2 := ⟨_, rfl⟩
          rw [hU2] at hO
          have HU2 := Lib.hid hU2
          obtain ⟨m, hm⟩ : ∃ m, k + j = m := ⟨_, rfl⟩
          rw [hm] at hO
          have hm64 : m ≤ 64 := by omega
          have c1 := hh.cell1
          have HO3 := Lib.hid hO
          have HB3 := Lib.hid hb1
          clear hI hne hU2 hO hb1 hh c0 x1 hM
          go_wp2
          go_loopw [3, 94] (fun u i w' => ∃ q : Nat, q ≤ n3 ∧ i = .int .i64 q ∧ w'.ownsRow w1.heap.size 49 3 u (m + q) (chCells (U2 ++ (V.L.map rowP).take q)) ∧ Below w1.heap.size w1 w') (fun _ i _ => n3 - (intOf i).toNat)
          case atStart => exact ⟨0, Nat.zero_le _, rfl, by simpa using HO3.out, HB3.out⟩
          case round =>
            obtain ⟨q, hq, rfl, hO, hb⟩ := hrel
            have hh := HH.out.below (belowThen HB1.out hb)
            by_cases hlt : q < n3
            · have hql : q < V.L.length := by have := HN3.out; omega
              obtain ⟨g, c, hlv, hnc, hcm, hcell⟩ := hh.pt hql
              obtain ⟨p, hpt⟩ : ∃ p, V.L[q] = p := ⟨_, rfl⟩
              rw [hpt] at hcell
              have hpb := HPT.out _ (List.getElem_mem hql)
              rw [hpt] at hpb
              have hrow : (V.L.map rowP).take (q + 1) = (V.L.map rowP).take q ++ [rowP p] := by
                rw [← List.take_append_getElem (by simp; omega)]
                simp [hpt]
              have HROW := Lib.hid hrow
              simp only [Value.slice.injEq] at hlv
              obtain ⟨hlv1, _, _⟩ := hlv
              subst hlv1
              rename_i hlv2 hlv3
              clear hlv2 hlv3
              have d0 : wr.cell? ⟨g, q * 4, none⟩ = some (.int .i64 p.id) := hcell 0 (by omega)
              have d1 : wr.cell? ⟨g, q * 4 + 1, none⟩ = some (.int .i64 p.disk) := hcell 1 (by omega)
              have d2 : wr.cell? ⟨g, q * 4 + 2, none⟩ = some (.int .i64 p.size) := hcell 2 (by omega)
              have d3 : wr.cell? ⟨g, q * 4 + 3, none⟩ = some (.int .i64 p.root) := hcell 3 (by omega)
              have i1 : (q : Int) < (n3 : Int) := by omega
              have hx0 : p.id ≤ 999 := by have := HNX.out; omega
              have hc1 : ¬ (9223372036854775807 < 1 + (tx [p.id]).length) := by have := (tx_len [p.id] (by simp; omega)).1; simp at this; omega
              have hx1 : p.disk ≤ 999 := by omega
              have hx2 : p.size ≤ 999 := by omega
              have hx3 : p.root ≤ 999 := by omega
              have b3 := (Below.refl wr.heap.size wr).alloc (Nat.le_refl _) (.cells #[.int .i64 p.id, .int .i64 p.disk, .int .i64 p.size, .int .i64 p.root] 60)
              have e3 := heap_alloc_new wr (.cells #[.int .i64 p.id, .int .i64 p.disk, .int .i64 p.size, .int .i64 p.root] 60)
              clear hcell hpt hrow hh hpb
              go_wp2_with fail
              generalize hW : wr.alloc (.cells #[.int .i64 p.id, .int .i64 p.disk, .int .i64 p.size, .int .i64 p.root] 60) = W at *
              have szW : wr.heap.size < W.heap.size := (Array.getElem?_eq_some_iff.1 e3).1
              have KS := Lib.hid (fun w' (hb : Below W.heap.size W w') => (show w'.cell? ⟨wr.heap.size, 0, none⟩ = some (.int .i64 p.id) ∧ w'.cell? ⟨wr.heap.size, 1, none⟩ = some (.int .i64 p.disk) ∧ w'.cell? ⟨wr.heap.size, 2, none⟩ = some (.int .i64 p.size) ∧ w'.cell? ⟨wr.heap.size, 3, none⟩ = some (.int .i64 p.root) from by
                have e := hb.block _ szW
                rw [e3] at e
                exact ⟨cell_of_row _ _ _ _ _ _ e, cell_of_row _ _ _ _ _ _ e, cell_of_row _ _ _ _ _ _ e, cell_of_row _ _ _ _ _ _ e⟩))
              have s1 := KS.out W (Below.refl _ _)
              have HOW := Lib.hid (fun w' (hb : Below W.heap.size W w') => own_below hO (belowThen b3 hb))
              have hbW := belowThen hb b3
              have HSZ := Lib.hid (fun w' (hb' : Below W.heap.size W w') => show w1.heap.size ≤ w'.heap.size from (belowThen hbW hb').size)
              have hsw : w1.heap.size ≤ W.heap.size := hbW.size
              have HFIN := Lib.hid (fun wX w4 (hx : Below W.heap.size W wX) (hg : wX.grownBy w4 u3.ownBlock) => (show (w4.cell? ⟨wr.heap.size, 0, none⟩ = some (.int .i64 p.id) ∧ w4.cell? ⟨wr.heap.size, 1, none⟩ = some (.int .i64 p.disk) ∧ w4.cell? ⟨wr.heap.size, 2, none⟩ = some (.int .i64 p.size) ∧ w4.cell? ⟨wr.heap.size, 3, none⟩ = some (.int .i64 p.root)) ∧ Below w1.heap.size w1 w4 from by
                have hb1 := (belowThen hbW hx).grown hg (belowThen hbW hx).size (fun j hj => (hO.lt j hj).1)
                refine ⟨?_, hb1⟩
                have hne : wr.heap.size ≠ (u3.ownBlock).getD wr.heap.size.succ := by
                  rcases hu : u3.ownBlock with _ | j
                  · simp
                  · have := (hO.lt j hu).2; simp; omega
                have e := hg.block wr.heap.size (Nat.lt_of_lt_of_le szW hx.size) (fun e => by rw [← e] at hne; simp at hne)
                rw [World.cell?_of_block (a := ⟨wr.heap.size, 0, none⟩) e, World.cell?_of_block (a := ⟨wr.heap.size, 1, none⟩) e, World.cell?_of_block (a := ⟨wr.heap.size, 2, none⟩) e, World.cell?_of_block (a := ⟨wr.heap.size, 3, none⟩) e]
                exact KS.out wX hx))
              have HTW := Lib.hid (fun w' (hb : Below W.heap.size W w') => HT.out w' (belowThen (belowThen HB1.out hbW) hb))
              clear hO hb e3 b3 hW hbW c1
              --< three
              go_region_held3 (fun w' => w'.cell? ⟨wr.heap.size, 0, none⟩ = some (.int .i64 p.id) ∧ w'.cell? ⟨wr.heap.size, 1, none⟩ = some (.int .i64 p.disk) ∧ w'.cell? ⟨wr.heap.size, 2, none⟩ = some (.int .i64 p.size) ∧ w'.cell? ⟨wr.heap.size, 3, none⟩ = some (.int .i64 p.root)) (first | with_reducible exact s1 | with_reducible exact e1 | with_reducible exact KS.out _ (by (repeat (first | with_reducible exact Below.refl _ _ | with_reducible refine belowAlloc ?_ _ | with_reducible refine Below.drew ?_ | with_reducible refine belowThen ?_ hb5 | with_reducible refine belowThen ?_ hb3 | with_reducible refine belowThen ?_ hb2)); (first | done | fail)))
                (first
                  | (go_at_call 38; with_reducible refine args3 ?_; with_reducible refine (text3 _ _ p.disk p.size p.root (by (repeat (first | with_reducible exact newAt | with_reducible exact newAt1 | with_reducible refine oldAt ?_ | with_reducible refine drewAt ?_ | with_reducible refine belowAt hb5 ?_ | with_reducible refine belowAt hb3 ?_ | with_reducible refine belowAt hb2 ?_)); (first | done | fail)) hx1 hx2 hx3 (HTW.out _ (by (repeat (first | with_reducible exact Below.refl _ _ | with_reducible refine belowAlloc ?_ _ | with_reducible refine Below.drew ?_ | with_reducible refine belowThen ?_ hb5 | with_reducible refine belowThen ?_ hb3 | with_reducible refine belowThen ?_ hb2)); (first | done | fail)))).mono ?_; rintro e w5 ⟨rfl, hb5⟩)
                  | (go_at_call 38; with_reducible refine args1 ?_; with_reducible refine (text1 _ _ p.id (by (repeat (first | with_reducible exact newAt | with_reducible exact newAt1 | with_reducible refine oldAt ?_ | with_reducible refine drewAt ?_ | with_reducible refine belowAt hb5 ?_ | with_reducible refine belowAt hb3 ?_ | with_reducible refine belowAt hb2 ?_)); (first | done | fail)) (by omega) (HTW.out _ (by (repeat (first | with_reducible exact Below.refl _ _ | with_reducible refine belowAlloc ?_ _ | with_reducible refine Below.drew ?_ | with_reducible refine belowThen ?_ hb5 | with_reducible refine belowThen ?_ hb3 | with_reducible refine belowThen ?_ hb2)); (first | done | fail)))).mono ?_; rintro e w2 ⟨rfl, hb2⟩)
                  | (refine appCh (by rfl) (.tmp 98) (.tmp 113) (by rfl) w1.heap.size u3 (U2 ++ (V.L.map rowP).take q) (m + q) (by rfl) ?ho _ _ (by rfl) _ _ _ _ (by (repeat (first | with_reducible exact newAt | with_reducible exact newAt1 | with_reducible refine oldAt ?_ | with_reducible refine drewAt ?_ | with_reducible refine belowAt hb5 ?_ | with_reducible refine belowAt hb3 ?_ | with_reducible refine belowAt hb2 ?_)); (first | done | fail)) ?hl ?hsz ?_; (case ho => exact HOW.out _ (by (repeat (first | with_reducible exact Below.refl _ _ | with_reducible refine belowAlloc ?_ _ | with_reducible refine Below.drew ?_ | with_reducible refine belowThen ?_ hb5 | with_reducible refine belowThen ?_ hb3 | with_reducible refine belowThen ?_ hb2)); (first | done | fail))); (case hl => omega); (case hsz => exact HSZ.out _ (by (repeat (first | with_reducible exact Below.refl _ _ | with_reducible refine belowAlloc ?_ _ | with_reducible refine Below.drew ?_ | with_reducible refine belowThen ?_ hb5 | with_reducible refine belowThen ?_ hb3 | with_reducible refine belowThen ?_ hb2)); (first | done | fail))); intro g4 c4 w4 hO4 hg4 _; obtain ⟨e1, hb4⟩ := HFIN.out _ _ (by (repeat (first | with_reducible exact Below.refl _ _ | with_reducible refine belowAlloc ?_ _ | with_reducible refine Below.drew ?_ | with_reducible refine belowThen ?_ hb5 | with_reducible refine belowThen ?_ hb3 | with_reducible refine belowThen ?_ hb2)); (first | done | fail)) hg4)
                  | fail)
              all_goals
                rw [rowP_form, List.append_assoc, ← HROW.out] at hO4
                have HE := Lib.hid hO4
                have HB4 := Lib.hid hb4
                clear hO4 hg4 hb4
                go_wp2
                go_roundw
                case rel => exact ⟨q + 1, hlt, by go_num, HE.out, HB4.out⟩
                case measure => simp [intOf]; omega
              --> three
            · obtain rfl : q = n3 := by omega
              rw [List.take_of_length_le (by have := HN3.out; simp; omega)] at hO
              have c2 := hh.cell2
              have HO4 := Lib.hid hO
              have HBB := Lib.hid hb
              clear c1 hO hb hh
              have HTX := Lib.hid (text1 (wr.alloc (.cells #[.int .i64 V.next] 3)) wr.heap.size V.next newAt (by have := HNX.out; omega) (HT.out _ (belowThen (belowThen HB1.out HBB.out) ((Below.refl _ _).alloc (Nat.le_refl _) _))))
              have b5 := (Below.refl wr.heap.size wr).alloc (Nat.le_refl _) (.cells #[.int .i64 V.next] 3)
              go_wp2_with fail
              ((with_reducible refine HTX.out.mono ?_); rintro e w5 ⟨rfl, hb5⟩)
              have hb6 := belowThen b5 hb5
              have hO6 := own_below HO4.out hb6
              have HB6 := Lib.hid (belowThen HBB.out hb6)
              have hs6 : w1.heap.size ≤ w5.heap.size := HB6.out.size
              obtain ⟨A6, k6, rfl⟩ := slice_form hO6
              clear HTX b5 hb5 hb6
              obtain ⟨i0, hi, hz0, hz1, hz2⟩ := info_parts Tryz.infoChZ
              go_wp2_with (at_builtin; refine wpList_append_own _ rfl _ _ 23 rfl w1.heap.size 49 i0 (.agg #[.string ByteArray.empty, .string ByteArray.empty, .bool false]) 3 40 Tryz.underlying23 hi hz0 hz1 hz2 rfl (by decide) (.slice A6 (m + q) k6) (m + q) _ rfl (World.ownsRow.alloc hO6 _) ⟨w5.heap.size, 0, none⟩ 1 1 [.string ⟨#[120]⟩, .string ⟨(tx [V.next]).toArray⟩, .bool false] rfl rfl (World.news_of_block (cs := #[.string ⟨#[120]⟩, .string ⟨(tx [V.next]).toArray⟩, .bool false]) (t := 49) (fr := (0, 0)) (heap_alloc_new w5 _)) (by simp [Value.oneCell']) (by unfold maxLen; omega) (by omega) (by simp; omega) ?_; intro v' w7 hown' hg7 hnil7)
              have hb7 : Below w1.heap.size w1 w7 := (HB6.out.alloc hs6 _).grown hg7 (by simp; omega) (fun b hb' => (World.ownsRow.lt hO6 b hb').1)
              have HB7 := Lib.hid (belowThen HB1.out hb7)
              obtain ⟨C, c, rfl⟩ := slice_form hown'
              have hl := hown'.1
              have e : rowsM V = U2 ++ V.L.map rowP ++ [rowX V.next] := by unfold rowsM; rw [HL1.out, HL2.out, HU.out, HU2.out]
              have ec : chCells (U2 ++ V.L.map rowP ++ [rowX V.next]) = chCells (U2 ++ V.L.map rowP) ++ [.string ⟨#[120]⟩, .string ⟨(tx [V.next]).toArray⟩, .bool false] := chCells_snoc _ _
              have el : (rowsM V).length = m + q + 1 := by
                have := chCells_length (rowsM V)
                rw [e, ec] at this
                rw [e]
                omega
              have hW := ownMono hown' (show w.heap.size ≤ w1.heap.size from HB1.out.size)
              rw [← ec, ← e] at hW
              have HW := Lib.hid hW
              have HEL := Lib.hid el
              clear hb7 hl e ec el hW hown' hg7 hnil7 hO6
              go_wp2
              go_ret
              rw [HEL.out]
              exact ⟨C, c, rfl, HW.out, HB7.out⟩
end Go.Proofs.YtlgahdabhnhjgaaGreatDoor
