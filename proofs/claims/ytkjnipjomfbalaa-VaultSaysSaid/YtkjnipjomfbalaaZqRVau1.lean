/- The reference's vault in memory: NewVault, Find, add. -/
import Derived.Test.YtkjnipjomfbalaaZqVau5
import Derived.Test.YtkjnipjomfbalaaZqIdxS
namespace Go.Proofs.Ytkjnipjomfbalaa
open Go.RowKit Go.Maps

/-- The reference's vault: its row v, its index's row g, its points' row lv. -/
structure RVauAt (w : World) (v g B : Nat) (lv : Value) (V : VauM) : Prop where
  row : w.heap[v]? = some (.cells #[.pointer (some ⟨g, 0, none⟩), lv, .int .i64 V.next] 74 (0, 0))
  idx : RIdxAt w g V.X
  pts : w.ownsRow B 47 4 lv V.L.length (pCells V.L)
  ne : v ≠ g
  pne : ∀ b, lv.ownBlock = some b → b ≠ g ∧ b ≠ v
def rbs (v g : Nat) (lv : Value) : List Nat := v :: g :: lv.ownBlock.toList
section
variable {w w' : World} {v g B : Nat} {lv : Value} {V : VauM}
theorem RVauAt.lt (h : RVauAt w v g B lv V) : v < w.heap.size := (Array.getElem?_eq_some_iff.1 h.row).1
theorem RVauAt.cell0 (h : RVauAt w v g B lv V) : w.cell? ⟨v, 0, none⟩ = some (.pointer (some ⟨g, 0, none⟩)) := cell_of_row _ _ _ _ _ _ h.row
theorem RVauAt.cell1 (h : RVauAt w v g B lv V) : w.cell? ⟨v, 1, none⟩ = some lv := cell_of_row _ _ _ _ _ _ h.row
theorem RVauAt.cell2 (h : RVauAt w v g B lv V) : w.cell? ⟨v, 2, none⟩ = some (.int .i64 V.next) := cell_of_row _ _ _ _ _ _ h.row
theorem RVauAt.below (h : RVauAt w v g B lv V) (hb : Below w.heap.size w w') : RVauAt w' v g B lv V :=
  ⟨(hb.block v h.lt).trans h.row, h.idx.below hb, ownsRow_keep h.pts fun b hg => hb.block b (World.ownsRow.lt h.pts b hg).2, h.ne, h.pne⟩
/-- The index has turned. -/
theorem RVauAt.turned (h : RVauAt w v g B lv V) {X' : IdxM} (hx : RIdxAt w' g X') (ht : Turn [g] w w') : RVauAt w' v g B lv ⟨X', V.L, V.next⟩ :=
  ⟨(ht.block v h.lt (by simpa using h.ne)).trans h.row, hx, ownsRow_keep h.pts fun b hb => ht.block b (World.ownsRow.lt h.pts b hb).2 (by simpa using (h.pne b hb).1), h.ne, h.pne⟩
theorem RVauAt.pt (h : RVauAt w v g B lv V) {k : Nat} (hk : k < V.L.length) : ∃ b c, lv = .slice (some ⟨b, 0, none⟩) V.L.length c ∧ V.L.length ≤ c ∧ c ≤ maxLen ∧ ∀ i, i < 4 → w.cell? ⟨b, k * 4 + i, none⟩ = (ptCells V.L[k])[i]? := by
  have ho := h.pts
  rcases h.pts.2 with ⟨_, h0⟩ | ⟨g, cap, cur, rfl, _, _, h1, h2, _⟩
  · omega
  · refine ⟨g, cap, rfl, h1, h2, fun i hi => ?_⟩
    rw [ho.cellAt _ (by omega), pCells_at _ _ _ hk hi]
end

theorem rvauNew_any (w : World) : Calls Try.prog 7 #[] w fun e w' => ∃ v g, e = .returned (.pointer (some ⟨v, 0, none⟩)) ∧ RVauAt w' v g w.heap.size (.slice none 0 0) emptyVau ∧ w.heap.size ≤ v ∧ w.heap.size ≤ g ∧ Below w.heap.size w w' := by
  have r1 := ridx_new w
  have b1 := (Below.refl w.heap.size w).alloc (Nat.le_refl _) (.cells Try.zeroCells72 72)
  have hs : w.heap.size < (w.alloc (.cells Try.zeroCells72 72)).heap.size := r1.lt
  obtain ⟨w1, hw1⟩ : ∃ w1, w.alloc (.cells Try.zeroCells72 72) = w1 := ⟨_, rfl⟩
  rw [hw1] at r1 b1 hs
  have b2 := (Below.refl w1.heap.size w1).alloc (Nat.le_refl _) (.cells #[.pointer (some ⟨w.heap.size, 0, none⟩), .slice none 0 0, .int .i64 1] 74)
  have R2 := Lib.hid (r1.below b2)
  have B2 := Lib.hid (belowThen b1 b2)
  clear r1 b1 b2
  go_enter Try.func7, Try.ntmps7
  go_wp2
  go_ret
  exact ⟨w1.heap.size, w.heap.size, rfl, ⟨heap_alloc_new w1 _, R2.out, World.ownsRow_nil _ _ _ _, by omega, by simp [Value.ownBlock]⟩, by omega, Nat.le_refl _, B2.out⟩

/-- The reference's Find. -/
theorem rfind_no (w : World) (v g B : Nat) (lv : Value) (V : VauM) (id : Int) (h : RVauAt w v g B lv V) (hV : V.Ok) (hp : placeOf V.L id = none) :
    Calls Try.prog 17 #[.pointer (some ⟨v, 0, none⟩), .int .i64 id] w fun e w' => e = .returned (.tuple #[.agg #[.int .i64 0, .int .i64 0, .int .i64 0, .int .i64 0], .bool false]) ∧ Below w.heap.size w w' := by
  have hl6 := hV.len
  have hno := placeOf_none hp
  have b1 := (Below.refl w.heap.size w).alloc (Nat.le_refl _) (.cells #[.int .i64 0, .int .i64 0, .int .i64 0, .int .i64 0] 47)
  have e1 := heap_alloc_new w (.cells #[.int .i64 0, .int .i64 0, .int .i64 0, .int .i64 0] 47)
  have hs1 : w.heap.size < (w.alloc (.cells #[.int .i64 0, .int .i64 0, .int .i64 0, .int .i64 0] 47)).heap.size := (Array.getElem?_eq_some_iff.1 e1).1
  have h1 := h.below b1
  obtain ⟨n, hn⟩ : ∃ n, V.L.length = n := ⟨_, rfl⟩
  obtain ⟨A, c, hlv⟩ := ownsRow_slice h.pts
  rw [hn] at hlv
  have HNO := Lib.hid hno
  clear hno hp h
  go_enter Try.func17, Try.ntmps17
  go_wp2
  obtain ⟨W, hW⟩ : ∃ W, w.alloc (.cells #[.int .i64 0, .int .i64 0, .int .i64 0, .int .i64 0] 47) = W := ⟨_, rfl⟩
  rw [hW] at b1 e1 hs1 h1 ⊢
  obtain ⟨gz, hgz⟩ : ∃ gz, w.heap.size = gz := ⟨_, rfl⟩
  rw [hgz] at b1 e1 hs1 ⊢
  go_loopw [6] (fun i w' => ∃ j : Nat, j ≤ n ∧ i = .int .i64 j ∧ Below W.heap.size W w') (fun i _ => n - (intOf i).toNat)
  case atStart => exact ⟨0, Nat.zero_le _, rfl, Below.refl _ _⟩
  case round =>
    obtain ⟨j, hj, rfl, hb⟩ := hrel
    have h2 := h1.below hb
    have c1 := h2.cell1
    rw [hlv] at c1
    by_cases hlt : j < n
    · have hjl : j < V.L.length := by omega
      obtain ⟨b, c', hlv', hnc, hcm, hcell⟩ := h2.pt hjl
      rw [hlv, hn] at hlv'
      injection hlv' with hA _ hc
      subst hA hc
      have d0 : wr.cell? ⟨b, j * 4, none⟩ = some (.int .i64 V.L[j].id) := hcell 0 (by omega)
      have hne := HNO.out _ (List.getElem_mem hjl)
      generalize V.L[j].id = q at d0 hne
      have hq : ((q : Int) == id) = false := by simpa using hne
      have i1 : (j : Int) < (n : Int) := by omega
      clear hcell h2
      go_wp2
      go_roundw
      case rel => exact ⟨j + 1, hlt, by go_num, by first | exact hb | exact hb.drew | exact below_drewN hb _⟩
      case measure => simp [intOf]; omega
    · obtain rfl : j = n := by omega
      have i1 : ¬ ((j : Int) < (j : Int)) := by omega
      have r2 := (hb.block _ hs1).trans e1
      have hb3 := b1.trans (hb.mono (by omega))
      clear h2
      go_wp2_with ((with_reducible refine isStore 47 ?_); refine wpList_store_at rfl 47 _ _ rfl gz 0 4 rfl 47 _ #[.int .i64 0, .int .i64 0, .int .i64 0, .int .i64 0] rfl r2 Try.infoPtS (by simp) rfl (by simp [Value.oneCell']) _ (splice4 _ _ _ _ _ _ _ _) ?_)
      refine bodyPost_ret (results_cell_tmp rfl _ _ gz 47 #[.int .i64 0, .int .i64 0, .int .i64 0, .int .i64 0] (0, 0) _ rfl (setRow_heap _ _ _ _ _ _ r2) Try.underlying47 rfl Try.infoPtS (.bool false) rfl) rfl ⟨rfl, ?_⟩
      exact below_row hb3 (by omega) _

theorem placeOf_before {L : List PtM} {id : Int} {k : Nat} (h : placeOf L id = some k) (j : Nat) (hj : j < k) (hl : j < L.length) : (L[j].id : Int) ≠ id := by
  unfold placeOf at h
  obtain ⟨hk, _, h2⟩ := List.findIdx?_eq_some_iff_getElem.1 h
  have := h2 j hj
  simpa using this

set_option maxHeartbeats 1000000 in
set_option maxRecDepth 100000 in
theorem rfind_yes (w : World) (v g B : Nat) (lv : Value) (V : VauM) (id : Int) (h : RVauAt w v g B lv V) (hV : V.Ok) (k : Nat) (hk : k < V.L.length) (hp : placeOf V.L id = some k) (p : PtM) (hpt : V.L[k] = p) :
    Calls Try.prog 17 #[.pointer (some ⟨v, 0, none⟩), .int .i64 id] w fun e w' => e = .returned (.tuple #[.agg #[.int .i64 p.id, .int .i64 p.disk, .int .i64 p.size, .int .i64 p.root], .bool true]) ∧ Below w.heap.size w w' := by
  have hl6 := hV.len
  have hid : (p.id : Int) = id := by obtain ⟨_, e⟩ := placeOf_some hp; rw [hpt] at e; exact e
  have hno := placeOf_before hp
  have b1 := (Below.refl w.heap.size w).alloc (Nat.le_refl _) (.cells #[.int .i64 0, .int .i64 0, .int .i64 0, .int .i64 0] 47)
  have e1 := heap_alloc_new w (.cells #[.int .i64 0, .int .i64 0, .int .i64 0, .int .i64 0] 47)
  have hs1 : w.heap.size < (w.alloc (.cells #[.int .i64 0, .int .i64 0, .int .i64 0, .int .i64 0] 47)).heap.size := (Array.getElem?_eq_some_iff.1 e1).1
  have h1 := h.below b1
  obtain ⟨n, hn⟩ : ∃ n, V.L.length = n := ⟨_, rfl⟩
  obtain ⟨A, c, hlv⟩ := ownsRow_slice h.pts
  rw [hn] at hlv
  have HNO := Lib.hid hno
  have HPT := Lib.hid hpt
  have hkn : k < n := by omega
  subst hid
  clear hno hp h hpt
  go_enter Try.func17, Try.ntmps17
  go_wp2
  obtain ⟨W, hW⟩ : ∃ W, w.alloc (.cells #[.int .i64 0, .int .i64 0, .int .i64 0, .int .i64 0] 47) = W := ⟨_, rfl⟩
  rw [hW] at b1 e1 hs1 h1 ⊢
  obtain ⟨gz, hgz⟩ : ∃ gz, w.heap.size = gz := ⟨_, rfl⟩
  rw [hgz] at b1 e1 hs1 ⊢
  go_loopw [6] (fun i w' => ∃ j : Nat, j ≤ k ∧ i = .int .i64 j ∧ Below W.heap.size W w') (fun i _ => n - (intOf i).toNat)
  case atStart => exact ⟨0, Nat.zero_le _, rfl, Below.refl _ _⟩
  case round =>
    obtain ⟨j, hj, rfl, hb⟩ := hrel
    have h2 := h1.below hb
    have c1 := h2.cell1
    rw [hlv] at c1
    have hjl : j < V.L.length := by omega
    obtain ⟨b, c', hlv', hnc, hcm, hcell⟩ := h2.pt hjl
    rw [hlv, hn] at hlv'
    injection hlv' with hA _ hc
    subst hA hc
    have i1 : (j : Int) < (n : Int) := by omega
    by_cases hlt : j < k
    · have d0 : wr.cell? ⟨b, j * 4, none⟩ = some (.int .i64 V.L[j].id) := hcell 0 (by omega)
      have hne := HNO.out j hlt hjl
      generalize V.L[j].id = q at d0 hne
      have hq : ((q : Int) == (p.id : Int)) = false := by simpa using hne
      clear hcell h2 hne
      go_wp2
      go_roundw
      case rel => exact ⟨j + 1, hlt, by go_num, by first | exact hb | exact hb.drew | exact below_drewN hb _⟩
      case measure => simp [intOf]; omega
    · obtain rfl : j = k := by omega
      rw [HPT.out] at hcell
      have d0 : wr.cell? ⟨b, j * 4, none⟩ = some (.int .i64 p.id) := hcell 0 (by omega)
      have d1 : wr.cell? ⟨b, j * 4 + 1, none⟩ = some (.int .i64 p.disk) := hcell 1 (by omega)
      have d2 : wr.cell? ⟨b, j * 4 + 2, none⟩ = some (.int .i64 p.size) := hcell 2 (by omega)
      have d3 : wr.cell? ⟨b, j * 4 + 3, none⟩ = some (.int .i64 p.root) := hcell 3 (by omega)
      have r2 := (hb.block _ hs1).trans e1
      have hb3 := b1.trans (hb.mono (by omega))
      clear h2 hcell
      go_wp2_with ((with_reducible refine isStore 47 ?_); refine wpList_store_at rfl 47 _ _ rfl gz 0 4 rfl 47 _ #[.int .i64 p.id, .int .i64 p.disk, .int .i64 p.size, .int .i64 p.root] rfl r2 Try.infoPtS (by simp) rfl (by simp [Value.oneCell']) _ (splice4 _ _ _ _ _ _ _ _) ?_)
      refine bodyPost_ret (results_cell_tmp rfl _ _ gz 47 #[.int .i64 p.id, .int .i64 p.disk, .int .i64 p.size, .int .i64 p.root] (0, 0) _ rfl (setRow_heap _ _ _ _ _ _ r2) Try.underlying47 rfl Try.infoPtS (.bool true) rfl) rfl ⟨rfl, ?_⟩
      exact below_row hb3 (by omega) _

/-- What a call leaves of the reference's vault. -/
def RVauRet (w : World) (v g B : Nat) (lv : Value) (V : VauM) (ne : Int) (u : Value) (e : Ending) (w' : World) : Prop :=
  e = .returned u ∧ (ne = 0 → ∃ lv', RVauAt w' v g B lv' V) ∧ Turn (rbs v g lv) w w'

set_option maxHeartbeats 1000000 in
set_option maxRecDepth 100000 in
theorem rput_any (w : World) (v g : Nat) (X : IdxM) (HR : List Nat) (root at_ : Nat) (data : ByteArray) (X' : IdxM) (n : Nat) (ne : Int) (hc : w.cell? ⟨v, 0, none⟩ = some (.pointer (some ⟨g, 0, none⟩))) (hvg : v ≠ g) (h : RIdxAt w g X) (hI : Inv X (opt root HR) [] []) (hHR : HR.length ≤ 700) (ha : at_ < 16) (hdata : data.size ≤ 9223372036854775807) (hS : replaceX X root at_ data = (X', n, ne)) :
    Calls Try.prog 46 #[.pointer (some ⟨v, 0, none⟩), .int .i64 root, .int .i64 at_, .string data] w fun e w' => e = .returned (.tuple #[.int .i64 n, .int .i64 ne]) ∧ (ne = 0 → RIdxAt w' g X') ∧ Turn [g] w w' := by
  obtain ⟨X1, n1, e1, hs⟩ := triple (setX X root at_ data)
  have hok := hI.okX (Nat.le_trans (opt_len _ _) (by omega))
  have hpos := setX_err X root at_ data
  have hgood := setX_good (data := data) hI (mem_opt_self root HR) ha
  rw [hs] at hpos hgood
  simp only at hpos hgood
  have HGOOD := Lib.hid hgood
  have HSET := Lib.hid (refSet_any w g 1000 X root at_ data X1 n1 e1 (opt root HR) h hok (by omega) hI (mem_opt_self root HR) ha hdata hs)
  unfold replaceX at hS
  rw [hs] at hS
  simp only at hS
  have HS := Lib.hid hS
  have hlt := World.block_lt_of_cell? w _ hc
  clear hgood hS hs
  go_enter Try.func46, Try.ntmps46
  go_wp2_with fail
  ((with_reducible refine HSET.out.mono ?_); rintro e w2 ⟨rfl, h2, t2⟩)
  by_cases he : e1 = 0
  · subst he
    have hS := HS.out
    simp only [if_true] at hS
    injection hS with a1 a2
    injection a2 with a2 a3
    subst a1 a2 a3
    have c2 : w2.cell? ⟨v, 0, none⟩ = some (.pointer (some ⟨g, 0, none⟩)) := by
      rw [World.cell?_of_block (w := w) (a := ⟨v, 0, none⟩) (t2.block v hlt (by simpa using hvg))]; exact hc
    obtain ⟨g1, _⟩ := HGOOD.out rfl
    have hI2 := g1.perm (opt_perm n1 root HR)
    have hok2 := hI2.okX (Nat.le_trans (opt_len _ _) (by have := opt_len n1 HR; omega))
    have HFREE := Lib.hid (refFree_held w2 g 1000 X1 root (opt n1 HR) (h2 rfl) hok2 (by omega) hI2)
    clear HSET h2 g1 hI2 hok2 hc
    go_wp2_with fail
    ((with_reducible refine HFREE.out.mono ?_); rintro e w3 ⟨rfl, h3, t3⟩)
    go_wp2
    go_ret2
    exact ⟨rfl, h3, t2.trans t3⟩
  · have hS := HS.out
    simp only [he, if_false] at hS
    injection hS with a1 a2
    injection a2 with a2 a3
    subst a1 a2 a3
    have i1 : (0 : Int) < e1 := by omega
    have HE := Lib.hid he
    clear HSET he hc
    go_wp2
    go_ret2
    exact ⟨rfl, fun h0 => absurd h0 HE.out, t2⟩

theorem RVauAt.grown {w W w3 : World} {v g B : Nat} {lv : Value} {V : VauM} (h : RVauAt w v g B lv V) (hW : Below w.heap.size w W) (hg : W.grownBy w3 lv.ownBlock) :
    w3.heap[v]? = some (.cells #[.pointer (some ⟨g, 0, none⟩), lv, .int .i64 V.next] 74 (0, 0)) ∧ RIdxAt w3 g V.X ∧ Turn (rbs v g lv) w w3 := by
  have key : ∀ k, k < w.heap.size → lv.ownBlock ≠ some k → w3.heap[k]? = w.heap[k]? := fun k hk hn => (hg.block k (Nat.lt_of_lt_of_le hk hW.size) (fun e => hn e.symm)).trans (hW.block k hk)
  refine ⟨(key v h.lt fun e => (h.pne v e).2 rfl).trans h.row, h.idx.keep (key g h.idx.lt fun e => (h.pne g e).1 rfl), ?_⟩
  refine (Turn.of_below hW).grown hg fun b hb => .inl ?_
  simp [rbs, hb]

theorem RVauAt.added {w W w3 : World} {v g B : Nat} {lv lv' : Value} {V : VauM} {disk size root : Nat} (h : RVauAt w v g B lv V) (hW : Below w.heap.size w W) (hg : W.grownBy w3 lv.ownBlock) (ho : w3.ownsRow B 47 4 lv' (V.L.length + 1) (pCells V.L ++ ptCells ⟨V.next, disk, size, root⟩)) (t : Int) (ht : t = ((V.next + 1 : Nat) : Int)) :
    RVauAt ((w3.setCell ⟨v, 1, none⟩ lv').setCell ⟨v, 2, none⟩ (.int .i64 t)) v g B lv' (addV V disk size root) ∧ Turn (rbs v g lv) w ((w3.setCell ⟨v, 1, none⟩ lv').setCell ⟨v, 2, none⟩ (.int .i64 t)) := by
  subst ht
  obtain ⟨r3, i3, t3⟩ := h.grown hW hg
  have s1 := heap_setCell_same w3 v 1 _ _ lv' r3
  have s2 := heap_setCell_same (w3.setCell ⟨v, 1, none⟩ lv') v 2 _ _ (.int .i64 ((V.next + 1 : Nat) : Int)) s1
  have keep : ∀ k, k ≠ v → ((w3.setCell ⟨v, 1, none⟩ lv').setCell ⟨v, 2, none⟩ (.int .i64 ((V.next + 1 : Nat) : Int))).heap[k]? = w3.heap[k]? := fun k hk => (Below.heap_setCell _ _ _ _ hk).trans (Below.heap_setCell _ _ _ _ hk)
  have hpne : ∀ b, lv'.ownBlock = some b → b ≠ g ∧ b ≠ v := fun b hb => by
    refine ⟨fun e => ?_, fun e => ?_⟩
    · have c := i3.blks.data 0 (by omega)
      simp only [Nat.zero_mul] at c
      rcases ho.2 with ⟨_, h0⟩ | ⟨b', cap, cur, rfl, _⟩
      · omega
      · have e' : b' = b := by simpa [Value.ownBlock] using hb
        subst e' e
        have hl := pCells_length V.L
        have := ho.cellAt 0 (by omega)
        rw [c] at this
        cases hL : V.L with
        | nil => rw [hL] at this; simp [pCells, ptCells] at this
        | cons q L => rw [hL] at this; simp [pCells, ptCells] at this
    · obtain ⟨cur, hh⟩ := ownsRow_type ho hb
      rw [e, r3] at hh
      injection hh with hh
      injection hh with _ hh _
      exact absurd hh (by decide)
  refine ⟨⟨s2, i3.keep (keep g (fun e => h.ne e.symm)), ?_, h.ne, hpne⟩, ?_⟩
  · have ho2 := ownsRow_keep ho fun b hb => keep b (hpne b hb).2
    have e1 : (addV V disk size root).L.length = V.L.length + 1 := by simp [addV]
    have e2 : pCells (addV V disk size root).L = pCells V.L ++ ptCells ⟨V.next, disk, size, root⟩ := by
      show pCells (V.L ++ [_]) = _
      rw [pCells_append]; simp [pCells]
    rw [e1, e2]; exact ho2
  · refine ⟨t3.os, t3.tape, t3.output, by simpa using t3.size, fun k hk hn => (keep k fun e => hn (by simp [rbs, e])).trans (t3.block k hk hn)⟩
end Go.Proofs.Ytkjnipjomfbalaa
