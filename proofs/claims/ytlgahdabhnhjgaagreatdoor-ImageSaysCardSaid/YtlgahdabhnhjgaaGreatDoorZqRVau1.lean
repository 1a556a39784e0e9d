/- The reference's vault in memory: NewVault, Find, add. -/
import Derived.Test.YtlgahdabhnhjgaaGreatDoorZqAsIdx
import Derived.Test.YtlgahdabhnhjgaaGreatDoorZqLight
import Derived.Test.YtlgahdabhnhjgaaGreatDoorZqVauM
import Derived.Test.YtlgahdabhnhjgaaGreatDoorZqVau5
/- Contracts of both indexes with named answers, for IndexSays; a closed fact. -/
namespace Go.Proofs.YtlgahdabhnhjgaaGreatDoor
open Go.RowKit Go.Maps

theorem setE (w : World) (x gp bp bn K : Nat) (X : IdxM) (root at_ : Nat) (data : ByteArray) (X' : IdxM) (n : Nat) (ne : Int) (h : IdxAt w x gp bp bn K X) (hr : root ≤ 1000) (ha : at_ < 16) (hK : K ≤ 100000) (hdata : data.size ≤ 9223372036854775807) (hS : setX X root at_ data = (X', n, ne)) :
    Calls Tryz.prog 91 #[.pointer (some ⟨x, 0, none⟩), .int .i64 root, .int .i64 at_, .string data] w (IdxRet w x gp bp bn (K + 11) X' (.tuple #[.int .i64 n, errV ne])) := by
  have := idxSet_any w x gp bp bn K X root at_ data h hr ha hK hdata
  rw [hS] at this
  exact this
theorem three {α β γ : Type} (s : α × β × γ) : ∃ a b c, s = (a, b, c) := ⟨s.1, s.2.1, s.2.2, rfl⟩
theorem freeE (w : World) (x gp bp bn K : Nat) (X X' : IdxM) (id : Nat) (h : IdxAt w x gp bp bn K X) (hid : id ≤ 1000) (hK : K ≤ 1000000) (hX : X.free id = X') :
    Calls Tryz.prog 50 #[.pointer (some ⟨x, 0, none⟩), .int .i64 id] w (IdxRet w x gp bp bn K X' (.tuple #[])) := by
  subst hX; exact idxFree_any w x gp bp bn K X id h hid hK
theorem shareE (w : World) (x gp bp bn K : Nat) (X X' : IdxM) (id : Nat) (h : IdxAt w x gp bp bn K X) (hid : id ≤ 1000) (hK : K ≤ 1000000) (hX : X.refN id = X') :
    Calls Tryz.prog 62 #[.pointer (some ⟨x, 0, none⟩), .int .i64 id] w (IdxRet w x gp bp bn (K + 1) X' (.int .i64 id)) := by
  subst hX; exact idxShare_any w x gp bp bn K X id h hid (by omega)
theorem refFreeE (w : World) (g K : Nat) (X X' : IdxM) (root : Nat) (HR : List Nat) (h : RIdxAt w g X) (hok : X.Ok K) (hK : K ≤ 1000000000) (hI : Inv X (opt root HR) [] []) (hX : X.free root = X') :
    Calls Tryz.prog 68 #[.pointer (some ⟨g, 0, none⟩), .int .i64 root] w (RIdxRet w g X' (.tuple #[])) := by
  subst hX; exact refFree_held w g K X root HR h hok hK hI
theorem refShareE (w : World) (g K : Nat) (X X' : IdxM) (root : Nat) (HR : List Nat) (h : RIdxAt w g X) (hok : X.Ok K) (hK : K ≤ 1000000000) (hI : Inv X HR [] []) (hr : root = 0 ∨ root ∈ HR) (hX : X.refN root = X') :
    Calls Tryz.prog 64 #[.pointer (some ⟨g, 0, none⟩), .int .i64 root] w (RIdxRet w g X' (.int .i64 root)) := by
  subst hX
  refine refShare_any w g X root h ?_ (Nat.le_trans (hok.N.refs root) hK)
  rcases hr with e | e
  · exact .inl e
  · refine .inr ?_
    rw [hI.hasN]
    simpa using (hI.hr root e).1
theorem diffS (w : World) (x gp bp bn K : Nat) (X : IdxM) (a b : Nat) (l : List Int) (n : Nat) (h : IdxAt w x gp bp bn K X) (ha : a ≤ 1000) (hb : b ≤ 1000) (hl : diffUp X a b 16 = l) (hn : l.length = n) :
    Calls Tryz.prog 135 #[.pointer (some ⟨x, 0, none⟩), .int .i64 a, .int .i64 b] w (RetS w l n) := by
  subst hl; exact (idxDiff_any w x gp bp bn K X a b h ha hb).mono fun _ _ h => retS_of hn h
theorem kid_le {X : IdxM} {HR : List Nat} (h : Inv X HR [] []) {root : Nat} (hr : root = 0 ∨ root ∈ HR) (i : Nat) : (X.N root).kid i ≤ 24 := by
  rcases h.kidOf hr i with e | ⟨e, _⟩
  · omega
  · exact (h.nl _ e).2


/-- The reference's row is none of an index. -/
theorem IdxAt.neRef {w : World} {x gp bp bn K g : Nat} {X : IdxM} {p : PoolM} (h : IdxAt w x gp bp bn K X) (hm : BlksAt w g p) : x ≠ g ∧ gp ≠ g ∧ bp ≠ g ∧ bn ≠ g := by
  have c := hm.data 0 (by omega)
  simp only [Nat.zero_mul] at c
  refine ⟨fun e => ?_, fun e => ?_, fun e => ?_, fun e => ?_⟩
  · have := h.cell0; rw [e, c] at this; cases this
  · have := h.pool.cell; rw [e, c] at this; cases this
  · obtain ⟨es, k, hb⟩ := h.pool.map.ismap
    simp [World.cell?, ← e, hb] at c
  · obtain ⟨es, k, hb⟩ := h.map.ismap
    simp [World.cell?, ← e, hb] at c
theorem IdxAt.refTurn {w w' : World} {x gp bp bn K g : Nat} {X : IdxM} {p : PoolM} (h : IdxAt w x gp bp bn K X) (hm : BlksAt w g p) (ht : Turn [g] w w') : IdxAt w' x gp bp bn K X := by
  obtain ⟨a, b, c, d⟩ := h.neRef hm
  exact h.turn ht (by simpa using a) (by simpa using b) (by simpa using c) (by simpa using d)
theorem RIdxAt.idxTurn {w w' : World} {x gp bp bn K g : Nat} {X Y : IdxM} (hm : RIdxAt w g Y) (h : IdxAt w x gp bp bn K X) (ht : Turn [bp, bn] w w') : RIdxAt w' g Y := by
  obtain ⟨a, b, c, d⟩ := h.neRef hm.blks
  exact hm.turn ht (by simp; omega)
theorem OwnInts.keep {w w' : World} {base : Nat} {v : Value} {l : List Int} (h : OwnInts w base v l) (hk : ∀ g, v.ownBlock = some g → w'.heap[g]? = w.heap[g]?) : OwnInts w' base v l := by
  obtain ⟨h1, h2⟩ := h
  refine ⟨h1, ?_⟩
  rcases h2 with h2 | ⟨g, cap, cur, hv, hg, hh, r⟩
  · exact .inl h2
  · exact .inr ⟨g, cap, cur, hv, hg, (hk g (by rw [hv]; rfl)).trans hh, r⟩
/-- A row of numbers is not the reference's. -/
theorem OwnInts.neRef {w : World} {base g : Nat} {v : Value} {l : List Int} {p : PoolM} (h : OwnInts w base v l) (hl : l ≠ []) (hm : BlksAt w g p) : v.ownBlock ≠ some g := by
  have c := hm.data 0 (by omega)
  simp only [Nat.zero_mul] at c
  have h' : w.ownsRow base 3 1 v l.length (l.map (Value.int .i64)) := h
  rcases h.2 with ⟨_, h0⟩ | ⟨b, cap, cur, rfl, _⟩
  · exact absurd (List.length_eq_zero_iff.1 h0) hl
  · intro e
    have e : b = g := by simpa [Value.ownBlock] using e
    subst e
    have := h'.cellAt 0 (by have := List.length_pos_iff.2 hl; omega)
    rw [c] at this
    cases l with
    | nil => exact hl rfl
    | cons x l => simp at this
theorem OwnInts.refTurn {w w' : World} {base g : Nat} {v : Value} {l : List Int} {p : PoolM} (h : OwnInts w base v l) (hl : l ≠ []) (hm : BlksAt w g p) (ht : Turn [g] w w') : OwnInts w' base v l :=
  h.keep fun b hb => ht.block b (World.ownsRow.lt h b hb).2 (by have := h.neRef hl hm; rw [hb] at this; simpa using this)
theorem OwnInts.mapTurn {w w' : World} {base : Nat} {v : Value} {l : List Int} {bs : List Nat} (h : OwnInts w base v l) (ht : Turn bs w w') (hm : ∀ b ∈ bs, ∃ es c, w.heap[b]? = some (.map es c)) : OwnInts w' base v l := by
  obtain ⟨h1, h2⟩ := h
  refine ⟨h1, ?_⟩
  rcases h2 with h2 | ⟨g, cap, cur, hv, hg, hh, r⟩
  · exact .inl h2
  · exact .inr ⟨g, cap, cur, hv, hg, turn_row ht hh hm, r⟩
theorem mapTurn_cell {bs : List Nat} {w w' : World} (h : Turn bs w w') (hm : ∀ b ∈ bs, ∃ es c, w.heap[b]? = some (.map es c)) {a : Addr} {v : Value} (hc : w.cell? a = some v) : w'.cell? a = some v := by
  have hlt := World.block_lt_of_cell? w a hc
  rw [World.cell?_of_block (w := w) (h.block a.block hlt fun hb => ?_)]
  · exact hc
  · obtain ⟨es, c, e⟩ := hm _ hb
    simp [World.cell?, e] at hc
theorem IdxAt.growRow {w w' : World} {x gp bp bn K : Nat} {X : IdxM} (h : IdxAt w x gp bp bn K X) {v : Value} (hg : w.grownBy w' v.ownBlock) {w0 : World} {base : Nat} {l : List Int} (hO : OwnInts w0 base v l) (hsame : ∀ g, v.ownBlock = some g → w.heap[g]? = w0.heap[g]?) : IdxAt w' x gp bp bn K X := by
  have ne : ∀ k, (∀ cur, w.heap[k]? ≠ some (.cells cur 3 (0, 0))) → some k ≠ v.ownBlock := fun k hk e => by
    rcases hO.2 with ⟨rfl, _⟩ | ⟨g, cap, cur, rfl, _, hh, _⟩
    · cases e
    · have e : k = g := by simpa [Value.ownBlock] using e
      subst e
      exact hk cur (by rw [hsame k rfl]; exact hh)
  refine ⟨(hg.block x h.lt (ne x fun cur e => by rw [h.row] at e; injection e with e; injection e with _ e _; exact absurd e (by decide))).trans h.row, h.pool.keep (hg.block gp h.pool.lt (ne gp fun cur e => by rw [h.pool.row] at e; injection e with e; injection e with _ e _; exact absurd e (by decide))) (hg.block bp h.pool.ltb (ne bp fun cur e => by obtain ⟨es, c, e'⟩ := h.pool.map.ismap; rw [e'] at e; cases e)), h.map.keep (hg.block bn h.ltn (ne bn fun cur e => by obtain ⟨es, c, e'⟩ := h.map.ismap; rw [e'] at e; cases e)), h.ne, h.ok⟩
theorem RIdxAt.growRow {w w' : World} {g : Nat} {X : IdxM} (h : RIdxAt w g X) {v : Value} (hg : w.grownBy w' v.ownBlock) (hn : v.ownBlock ≠ some g) : RIdxAt w' g X := h.keep (hg.block g h.lt (fun e => hn e.symm))

/-- Roots as numbers. -/
def numsR (l : List Nat) : List Int := l.map fun n => ((n : Nat) : Int)
theorem numsR_len (l : List Nat) : (numsR l).length = l.length := by simp [numsR]
/-- The roots that are something. -/
def heldR (l : List Nat) : List Nat := l.foldr opt []
theorem heldR_snoc (l : List Nat) (n : Nat) : (opt n (heldR l)).Perm (heldR (l ++ [n])) := by
  induction l with
  | nil => exact List.Perm.refl _
  | cons q l ih => exact (opt_perm _ _ _).trans (opt_congr _ ih)
theorem heldR_at (l : List Nat) (k : Nat) (hk : k < l.length) : (heldR l).Perm (opt l[k] (heldR (l.take k ++ l.drop (k + 1)))) := by
  induction l generalizing k with
  | nil => simp at hk
  | cons q l ih =>
    cases k with
    | zero => exact List.Perm.refl _
    | succ k => exact (opt_congr q (ih k (by simpa using hk))).trans (opt_perm _ _ _)
theorem heldR_mem {l : List Nat} {n : Nat} (h : n ∈ l) : n = 0 ∨ n ∈ heldR l := by
  induction l with
  | nil => cases h
  | cons q l ih =>
    rcases List.mem_cons.1 h with rfl | h
    · exact mem_opt_self _ _
    · exact held_opt (ih h)
theorem heldR_len (l : List Nat) : (heldR l).length ≤ l.length := by
  induction l with
  | nil => simp [heldR]
  | cons q l ih =>
    have := opt_len q (heldR l)
    show (opt q (heldR l)).length ≤ l.length + 1
    omega

def isX : IdxM := (setX emptyIdx 0 5 ⟨#[120]⟩).1
theorem is_id : (setX emptyIdx 0 5 ⟨#[120]⟩).2.1 = 2 := by decide +kernel
theorem is_err : (setX emptyIdx 0 5 ⟨#[120]⟩).2.2 = 0 := by decide +kernel
theorem is_set : setX emptyIdx 0 5 ⟨#[120]⟩ = (isX, 2, 0) := by
  obtain ⟨a, b, c, e⟩ := three (setX emptyIdx 0 5 ⟨#[120]⟩)
  have h1 := is_id
  have h2 := is_err
  unfold isX
  rw [e] at h1 h2 ⊢
  simp only at h1 h2
  rw [h1, h2]
theorem is_get5 : isX.get 2 5 = ⟨#[120]⟩ := by
  have h := (setX_good (X := emptyIdx) (root := 0) (at_ := 5) (data := ⟨#[120]⟩) inv_empty (.inl rfl) (by omega) is_err).2.2.1 5 (by omega)
  rw [is_id] at h
  exact h
theorem is_get4 : isX.get 2 4 = ByteArray.empty := by
  have h := (setX_good (X := emptyIdx) (root := 0) (at_ := 5) (data := ⟨#[120]⟩) inv_empty (.inl rfl) (by omega) is_err).2.2.1 4 (by omega)
  rw [is_id] at h
  exact h
theorem isSet (w : World) (x gp bp bn : Nat) (h : IdxAt w x gp bp bn 0 emptyIdx) : Calls Tryz.prog 91 #[.pointer (some ⟨x, 0, none⟩), .int .i64 0, .int .i64 5, .string ⟨#[120]⟩] w (IdxRet w x gp bp bn 11 isX (.tuple #[.int .i64 2, .nilIface])) :=
  setE w x gp bp bn 0 emptyIdx 0 5 ⟨#[120]⟩ isX 2 0 h (by omega) (by omega) (by omega) (by decide) is_set
theorem isGet5 (w : World) (x gp bp bn : Nat) (h : IdxAt w x gp bp bn 11 isX) : Calls Tryz.prog 59 #[.pointer (some ⟨x, 0, none⟩), .int .i64 2, .int .i64 5] w fun e w' => e = .returned (.string ⟨#[120]⟩) ∧ Below w.heap.size w w' :=
  idxGet_e w x gp bp bn 11 isX 2 5 _ h (by omega) (by omega) is_get5
theorem isGet4 (w : World) (x gp bp bn : Nat) (h : IdxAt w x gp bp bn 11 isX) : Calls Tryz.prog 59 #[.pointer (some ⟨x, 0, none⟩), .int .i64 2, .int .i64 4] w fun e w' => e = .returned (.string ByteArray.empty) ∧ Below w.heap.size w w' :=
  idxGet_e w x gp bp bn 11 isX 2 4 _ h (by omega) (by omega) is_get4
end Go.Proofs.YtlgahdabhnhjgaaGreatDoor

/- The reference's vault in memory: NewVault, Find, add. -/
namespace Go.Proofs.YtlgahdabhnhjgaaGreatDoor
open Go.RowKit Go.Maps

/-- The reference's vault: its row v, its index's row g, its points' row lv. -/
structure RVauAt (w : World) (v g B : Nat) (lv : Value) (V : VauM) : Prop where
  row : w.heap[v]? = some (.cells #[.pointer (some ⟨g, 0, none⟩), lv, .int .i64 V.next] 86 (0, 0))
  idx : RIdxAt w g V.X
  pts : w.ownsRow B 60 4 lv V.L.length (pCells V.L)
  ne : v ≠ g
  pne : ∀ b, lv.ownBlock = some b → b ≠ g ∧ b ≠ v
def rbs (v g : Nat) (lv : Value) : List Nat := v :: g :: lv.ownBlock.toList
section
variable {w w' : World} {v g B : Nat} {lv : Value} {V : VauM}
theorem RVauAt.lt (h : RVauAt w v g B lv V) : v < w.heap.size := (Array.getElem?_eq_some_iff.1 h.row).1
theorem RVauAt.cell0 (h : RVauAt w v g B lv V) : w.cell? ⟨v, 0, none⟩ = some (.pointer (some ⟨g, 0, none⟩)) := cell_of_row _ _ _ _ _ _ h.row
theorem RVauAt.cell1 (h : RVauAt w v g B lv V) : w.cell? ⟨v, 1, none⟩ = some lv := cell_of_row _ _ _ _ _ _ h.row
theorem RVauAt.cell2 (h : RVauAt w v g B lv V) : w.cell? ⟨v, 2, none⟩ = some (.int .i64 V.next) := cell_of_row _ _ _ _ _ _ h.row
theorem RVauAt.below (h : RVauAt w v g B lv V) (hb : Below w.heap.size w w') : RVauAt w' v g B lv V :=
  ⟨(hb.block v h.lt).trans h.row, h.idx.below hb, ownsRow_keep h.pts fun b hg => hb.block b (World.ownsRow.lt h.pts b hg).2, h.ne, h.pne⟩
/-- The index has turned. -/
theorem RVauAt.turned (h : RVauAt w v g B lv V) {X' : IdxM} (hx : RIdxAt w' g X') (ht : Turn [g] w w') : RVauAt w' v g B lv ⟨X', V.L, V.next⟩ :=
  ⟨(ht.block v h.lt (by simpa using h.ne)).trans h.row, hx, ownsRow_keep h.pts fun b hb => ht.block b (World.ownsRow.lt h.pts b hb).2 (by simpa using (h.pne b hb).1), h.ne, h.pne⟩
theorem RVauAt.pt (h : RVauAt w v g B lv V) {k : Nat} (hk : k < V.L.length) : ∃ b c, lv = .slice (some ⟨b, 0, none⟩) V.L.length c ∧ V.L.length ≤ c ∧ c ≤ maxLen ∧ ∀ i, i < 4 → w.cell? ⟨b, k * 4 + i, none⟩ = (ptCells V.L[k])[i]? := by
  have ho := h.pts
  rcases h.pts.2 with ⟨_, h0⟩ | ⟨g, cap, cur, rfl, _, _, h1, h2, _⟩
  · omega
  · refine ⟨g, cap, rfl, h1, h2, fun i hi => ?_⟩
    rw [ho.cellAt _ (by omega), pCells_at _ _ _ hk hi]
end

theorem rvauNew_any (w : World) : Calls Tryz.prog 10 #[] w fun e w' => ∃ v g, e = .returned (.pointer (some ⟨v, 0, none⟩)) ∧ RVauAt w' v g w.heap.size (.slice none 0 0) emptyVau ∧ w.heap.size ≤ v ∧ w.heap.size ≤ g ∧ Below w.heap.size w w' := by
  have r1 := ridx_new w
  have b1 := (Below.refl w.heap.size w).alloc (Nat.le_refl _) (.cells Tryz.zeroCells84 84)
  have hs : w.heap.size < (w.alloc (.cells Tryz.zeroCells84 84)).heap.size := r1.lt
  obtain ⟨w1, hw1⟩ : ∃ w1, w.alloc (.cells Tryz.zeroCells84 84) = w1 := ⟨_, rfl⟩
  rw [hw1] at r1 b1 hs
  have b2 := (Below.refl w1.heap.size w1).alloc (Nat.le_refl _) (.cells #[.pointer (some ⟨w.heap.size, 0, none⟩), .slice none 0 0, .int .i64 1] 86)
  have R2 := Lib.hid (r1.below b2)
  have B2 := Lib.hid (belowThen b1 b2)
  clear r1 b1 b2
  go_enter Tryz.func10, Tryz.ntmps10
  go_wp2
  go_ret
  exact ⟨w1.heap.size, w.heap.size, rfl, ⟨heap_alloc_new w1 _, R2.out, World.ownsRow_nil _ _ _ _, by omega, by simp [Value.ownBlock]⟩, by omega, Nat.le_refl _, B2.out⟩

/-- The reference's Find. -/
theorem rfind_no (w : World) (v g B : Nat) (lv : Value) (V : VauM) (id : Int) (h : RVauAt w v g B lv V) (hV : V.Ok) (hp : placeOf V.L id = none) :
    Calls Tryz.prog 63 #[.pointer (some ⟨v, 0, none⟩), .int .i64 id] w fun e w' => e = .returned (.tuple #[.agg #[.int .i64 0, .int .i64 0, .int .i64 0, .int .i64 0], .bool false]) ∧ Below w.heap.size w w' := by
  have hl6 := hV.len
  have hno := placeOf_none hp
  have b1 := (Below.refl w.heap.size w).alloc (Nat.le_refl _) (.cells #[.int .i64 0, .int .i64 0, .int .i64 0, .int .i64 0] 60)
  have e1 := heap_alloc_new w (.cells #[.int .i64 0, .int .i64 0, .int .i64 0, .int .i64 0] 60)
  have hs1 : w.heap.size < (w.alloc (.cells #[.int .i64 0, .int .i64 0, .int .i64 0, .int .i64 0] 60)).heap.size := (Array.getElem?_eq_some_iff.1 e1).1
  have h1 := h.below b1
  obtain ⟨n, hn⟩ : ∃ n, V.L.length = n := ⟨_, rfl⟩
  obtain ⟨A, c, hlv⟩ := ownsRow_slice h.pts
  rw [hn] at hlv
  have HNO := Lib.hid hno
  clear hno hp h
  go_enter Tryz.func63, Tryz.ntmps63
  go_wp2
  obtain ⟨W, hW⟩ : ∃ W, w.alloc (.cells #[.int .i64 0, .int .i64 0, .int .i64 0, .int .i64 0] 60) = W := ⟨_, rfl⟩
  rw [hW] at b1 e1 hs1 h1 ⊢
  obtain ⟨gz, hgz⟩ : ∃ gz, w.heap.size = gz := ⟨_, rfl⟩
  rw [hgz] at b1 e1 hs1 ⊢
  go_loopw [6] (fun i w' => ∃ j : Nat, j ≤ n ∧ i = .int .i64 j ∧ Below W.heap.size W w') (fun i _ => n - (intOf i).toNat)
  case atStart => exact ⟨0, Nat.zero_le _, rfl, Below.refl _ _⟩
  case round =>
    obtain ⟨j, hj, rfl, hb⟩ := hrel
    have h2 := h1.below hb
    have c1 := h2.cell1
    rw [hlv] at c1
    by_cases hlt : j < n
    · have hjl : j < V.L.length := by omega
      obtain ⟨b, c', hlv', hnc, hcm, hcell⟩ := h2.pt hjl
      rw [hlv, hn] at hlv'
      injection hlv' with hA _ hc
      subst hA hc
      have d0 : wr.cell? ⟨b, j * 4, none⟩ = some (.int .i64 V.L[j].id) := hcell 0 (by omega)
      have hne := HNO.out _ (List.getElem_mem hjl)
      generalize V.L[j].id = q at d0 hne
      have hq : ((q : Int) == id) = false := by simpa using hne
      have i1 : (j : Int) < (n : Int) := by omega
      clear hcell h2
      go_wp2
      go_roundw
      case rel => exact ⟨j + 1, hlt, by go_num, by first | exact hb | exact hb.drew | exact below_drewN hb _⟩
      case measure => simp [intOf]; omega
    · obtain rfl : j = n := by omega
      have i1 : ¬ ((j : Int) < (j : Int)) := by omega
      have r2 := (hb.block _ hs1).trans e1
      have hb3 := b1.trans (hb.mono (by omega))
      clear h2
      go_wp2_with ((with_reducible refine isStore 60 ?_); refine wpList_store_at rfl 60 _ _ rfl gz 0 4 rfl 60 _ #[.int .i64 0, .int .i64 0, .int .i64 0, .int .i64 0] rfl r2 Tryz.infoPtS (by simp) rfl (by simp [Value.oneCell']) _ (splice4 _ _ _ _ _ _ _ _) ?_)
      refine bodyPost_ret (results_cell_tmp rfl _ _ gz 60 #[.int .i64 0, .int .i64 0, .int .i64 0, .int .i64 0] (0, 0) _ rfl (setRow_heap _ _ _ _ _ _ r2) Tryz.underlying60 rfl Tryz.infoPtS (.bool false) rfl) rfl ⟨rfl, ?_⟩
      exact below_row hb3 (by omega) _

theorem placeOf_before {L : List PtM} {id : Int} {k : Nat} (h : placeOf L id = some k) (j : Nat) (hj : j < k) (hl : j < L.length) : (L[j].id : Int) ≠ id := by
  unfold placeOf at h
  obtain ⟨hk, _, h2⟩ := List.findIdx?_eq_some_iff_getElem.1 h
  have := h2 j hj
  simpa using this

set_option maxHeartbeats 1000000 in
set_option maxRecDepth 100000 in
theorem rfind_yes (w : World) (v g B : Nat) (lv : Value) (V : VauM) (id : Int) (h : RVauAt w v g B lv V) (hV : V.Ok) (k : Nat) (hk : k < V.L.length) (hp : placeOf V.L id = some k) (p : PtM) (hpt : V.L[k] = p) :
    Calls Tryz.prog 63 #[.pointer (some ⟨v, 0, none⟩), .int .i64 id] w fun e w' => e = .returned (.tuple #[.agg #[.int .i64 p.id, .int .i64 p.disk, .int .i64 p.size, .int .i64 p.root], .bool true]) ∧ Below w.heap.size w w' := by
  have hl6 := hV.len
  have hid : (p.id : Int) = id := by obtain ⟨_, e⟩ := placeOf_some hp; rw [hpt] at e; exact e
  have hno := placeOf_before hp
  have b1 := (Below.refl w.heap.size w).alloc (Nat.le_refl _) (.cells #[.int .i64 0, .int .i64 0, .int .i64 0, .int .i64 0] 60)
  have e1 := heap_alloc_new w (.cells #[.int .i64 0, .int .i64 0, .int .i64 0, .int .i64 0] 60)
  have hs1 : w.heap.size < (w.alloc (.cells #[.int .i64 0, .int .i64 0, .int .i64 0, .int .i64 0] 60)).heap.size := (Array.getElem?_eq_some_iff.1 e1).1
  have h1 := h.below b1
  obtain ⟨n, hn⟩ : ∃ n, V.L.length = n := ⟨_, rfl⟩
  obtain ⟨A, c, hlv⟩ := ownsRow_slice h.pts
  rw [hn] at hlv
  have HNO := Lib.hid hno
  have HPT := Lib.hid hpt
  have hkn : k < n := by omega
  subst hid
  clear hno hp h hpt
  go_enter Tryz.func63, Tryz.ntmps63
  go_wp2
  obtain ⟨W, hW⟩ : ∃ W, w.alloc (.cells #[.int .i64 0, .int .i64 0, .int .i64 0, .int .i64 0] 60) = W := ⟨_, rfl⟩
  rw [hW] at b1 e1 hs1 h1 ⊢
  obtain ⟨gz, hgz⟩ : ∃ gz, w.heap.size = gz := ⟨_, rfl⟩
  rw [hgz] at b1 e1 hs1 ⊢
  go_loopw [6] (fun i w' => ∃ j : Nat, j ≤ k ∧ i = .int .i64 j ∧ Below W.heap.size W w') (fun i _ => n - (intOf i).toNat)
  case atStart => exact ⟨0, Nat.zero_le _, rfl, Below.refl _ _⟩
  case round =>
    obtain ⟨j, hj, rfl, hb⟩ := hrel
    have h2 := h1.below hb
    have c1 := h2.cell1
    rw [hlv] at c1
    have hjl : j < V.L.length := by omega
    obtain ⟨b, c', hlv', hnc, hcm, hcell⟩ := h2.pt hjl
    rw [hlv, hn] at hlv'
    injection hlv' with hA _ hc
    subst hA hc
    have i1 : (j : Int) < (n : Int) := by omega
    by_cases hlt : j < k
    · have d0 : wr.cell? ⟨b, j * 4, none⟩ = some (.int .i64 V.L[j].id) := hcell 0 (by omega)
      have hne := HNO.out j hlt hjl
      generalize V.L[j].id = q at d0 hne
      have hq : ((q : Int) == (p.id : Int)) = false := by simpa using hne
      clear hcell h2 hne
      go_wp2
      go_roundw
      case rel => exact ⟨j + 1, hlt, by go_num, by first | exact hb | exact hb.drew | exact below_drewN hb _⟩
      case measure => simp [intOf]; omega
    · obtain rfl : j = k := by omega
      rw [HPT.out] at hcell
      have d0 : wr.cell? ⟨b, j * 4, none⟩ = some (.int .i64 p.id) := hcell 0 (by omega)
      have d1 : wr.cell? ⟨b, j * 4 + 1, none⟩ = some (.int .i64 p.disk) := hcell 1 (by omega)
      have d2 : wr.cell? ⟨b, j * 4 + 2, none⟩ = some (.int .i64 p.size) := hcell 2 (by omega)
      have d3 : wr.cell? ⟨b, j * 4 + 3, none⟩ = some (.int .i64 p.root) := hcell 3 (by omega)
      have r2 := (hb.block _ hs1).trans e1
      have hb3 := b1.trans (hb.mono (by omega))
      clear h2 hcell
      go_wp2_with ((with_reducible refine isStore 60 ?_); refine wpList_store_at rfl 60 _ _ rfl gz 0 4 rfl 60 _ #[.int .i64 p.id, .int .i64 p.disk, .int .i64 p.size, .int .i64 p.root] rfl r2 Tryz.infoPtS (by simp) rfl (by simp [Value.oneCell']) _ (splice4 _ _ _ _ _ _ _ _) ?_)
      refine bodyPost_ret (results_cell_tmp rfl _ _ gz 60 #[.int .i64 p.id, .int .i64 p.disk, .int .i64 p.size, .int .i64 p.root] (0, 0) _ rfl (setRow_heap _ _ _ _ _ _ r2) Tryz.underlying60 rfl Tryz.infoPtS (.bool true) rfl) rfl ⟨rfl, ?_⟩
      exact below_row hb3 (by omega) _

/-- What a call leaves of the reference's vault. -/
def RVauRet (w : World) (v g B : Nat) (lv : Value) (V : VauM) (ne : Int) (u : Value) (e : Ending) (w' : World) : Prop :=
  e = .returned u ∧ (ne = 0 → ∃ lv', RVauAt w' v g B lv' V) ∧ Turn (rbs v g lv) w w'

set_option maxHeartbeats 1000000 in
set_option maxRecDepth 100000 in
theorem rput_any (w : World) (v g : Nat) (X : IdxM) (HR : List Nat) (root at_ : Nat) (data : ByteArray) (X' : IdxM) (n : Nat) (ne : Int) (hc : w.cell? ⟨v, 0, none⟩ = some (.pointer (some ⟨g, 0, none⟩))) (hvg : v ≠ g) (h : RIdxAt w g X) (hI : Inv X (opt root HR) [] []) (hHR : HR.length ≤ 700) (ha : at_ < 16) (hdata : data.size ≤ 9223372036854775807) (hS : replaceX X root at_ data = (X', n, ne)) :
    Calls Tryz.prog 65 #[.pointer (some ⟨v, 0, none⟩), .int .i64 root, .int .i64 at_, .string data] w fun e w' => e = .returned (.tuple #[.int .i64 n, .int .i64 ne]) ∧ (ne = 0 → RIdxAt w' g X') ∧ Turn [g] w w' := by
  obtain ⟨X1, n1, e1, hs⟩ := triple (setX X root at_ data)
  have hok := hI.okX (Nat.le_trans (opt_len _ _) (by omega))
  have hpos := setX_err X root at_ data
  have hgood := setX_good (data := data) hI (mem_opt_self root HR) ha
  rw [hs] at hpos hgood
  simp only at hpos hgood
  have HGOOD := Lib.hid hgood
  have HSET := Lib.hid (refSet_any w g 1000 X root at_ data X1 n1 e1 (opt root HR) h hok (by omega) hI (mem_opt_self root HR) ha hdata hs)
  unfold replaceX at hS
  rw [hs] at hS
  simp only at hS
  have HS := Lib.hid hS
  have hlt := World.block_lt_of_cell? w _ hc
  clear hgood hS hs
  go_enter Tryz.func65, Tryz.ntmps65
  go_wp2_with fail
  ((with_reducible refine HSET.out.mono ?_); rintro e w2 ⟨rfl, h2, t2⟩)
  by_cases he : e1 = 0
  · subst he
    have hS := HS.out
    simp only [if_true] at hS
    injection hS with a1 a2
    injection a2 with a2 a3
    subst a1 a2 a3
    have c2 : w2.cell? ⟨v, 0, none⟩ = some (.pointer (some ⟨g, 0, none⟩)) := by
      rw [World.cell?_of_block (w := w) (a := ⟨v, 0, none⟩) (t2.block v hlt (by simpa using hvg))]; exact hc
    obtain ⟨g1, _⟩ := HGOOD.out rfl
    have hI2 := g1.perm (opt_perm n1 root HR)
    have hok2 := hI2.okX (Nat.le_trans (opt_len _ _) (by have := opt_len n1 HR; omega))
    have HFREE := Lib.hid (refFree_held w2 g 1000 X1 root (opt n1 HR) (h2 rfl) hok2 (by omega) hI2)
    clear HSET h2 g1 hI2 hok2 hc
    go_wp2_with fail
    ((with_reducible refine HFREE.out.mono ?_); rintro e w3 ⟨rfl, h3, t3⟩)
    go_wp2
    go_ret2
    exact ⟨rfl, h3, t2.trans t3⟩
  · have hS := HS.out
    simp only [he, if_false] at hS
    injection hS with a1 a2
    injection a2 with a2 a3
    subst a1 a2 a3
    have i1 : (0 : Int) < e1 := by omega
    have HE := Lib.hid he
    clear HSET he hc
    go_wp2
    go_ret2
    exact ⟨rfl, fun h0 => absurd h0 HE.out, t2⟩

theorem RVauAt.grown {w W w3 : World} {v g B : Nat} {lv : Value} {V : VauM} (h : RVauAt w v g B lv V) (hW : Below w.heap.size w W) (hg : W.grownBy w3 lv.ownBlock) :
    w3.heap[v]? = some (.cells #[.pointer (some ⟨g, 0, none⟩), lv, .int .i64 V.next] 86 (0, 0)) ∧ RIdxAt w3 g V.X ∧ Turn (rbs v g lv) w w3 := by
  have key : ∀ k, k < w.heap.size → lv.ownBlock ≠ some k → w3.heap[k]? = w.heap[k]? := fun k hk hn => (hg.block k (Nat.lt_of_lt_of_le hk hW.size) (fun e => hn e.symm)).trans (hW.block k hk)
  refine ⟨(key v h.lt fun e => (h.pne v e).2 rfl).trans h.row, h.idx.keep (key g h.idx.lt fun e => (h.pne g e).1 rfl), ?_⟩
  refine (Turn.of_below hW).grown hg fun b hb => .inl ?_
  simp [rbs, hb]

theorem RVauAt.added {w W w3 : World} {v g B : Nat} {lv lv' : Value} {V : VauM} {disk size root : Nat} (h : RVauAt w v g B lv V) (hW : Below w.heap.size w W) (hg : W.grownBy w3 lv.ownBlock) (ho : w3.ownsRow B 60 4 lv' (V.L.length + 1) (pCells V.L ++ ptCells ⟨V.next, disk, size, root⟩)) (t : Int) (ht : t = ((V.next + 1 : Nat) : Int)) :
    RVauAt ((w3.setCell ⟨v, 1, none⟩ lv').setCell ⟨v, 2, none⟩ (.int .i64 t)) v g B lv' (addV V disk size root) ∧ Turn (rbs v g lv) w ((w3.setCell ⟨v, 1, none⟩ lv').setCell ⟨v, 2, none⟩ (.int .i64 t)) := by
  subst ht
  obtain ⟨r3, i3, t3⟩ := h.grown hW hg
  have s1 := heap_setCell_same w3 v 1 _ _ lv' r3
  have s2 := heap_setCell_same (w3.setCell ⟨v, 1, none⟩ lv') v 2 _ _ (.int .i64 ((V.next + 1 : Nat) : Int)) s1
  have keep : ∀ k, k ≠ v → ((w3.setCell ⟨v, 1, none⟩ lv').setCell ⟨v, 2, none⟩ (.int .i64 ((V.next + 1 : Nat) : Int))).heap[k]? = w3.heap[k]? := fun k hk => (Below.heap_setCell _ _ _ _ hk).trans (Below.heap_setCell _ _ _ _ hk)
  have hpne : ∀ b, lv'.ownBlock = some b → b ≠ g ∧ b ≠ v := fun b hb => by
    refine ⟨fun e => ?_, fun e => ?_⟩
    · have c := i3.blks.data 0 (by omega)
      simp only [Nat.zero_mul] at c
      rcases ho.2 with ⟨_, h0⟩ | ⟨b', cap, cur, rfl, _⟩
      · omega
      · have e' : b' = b := by simpa [Value.ownBlock] using hb
        subst e' e
        have hl := pCells_length V.L
        have := ho.cellAt 0 (by omega)
        rw [c] at this
        cases hL : V.L with
        | nil => rw [hL] at this; simp [pCells, ptCells] at this
        | cons q L => rw [hL] at this; simp [pCells, ptCells] at this
    · obtain ⟨cur, hh⟩ := ownsRow_type ho hb
      rw [e, r3] at hh
      injection hh with hh
      injection hh with _ hh _
      exact absurd hh (by decide)
  refine ⟨⟨s2, i3.keep (keep g (fun e => h.ne e.symm)), ?_, h.ne, hpne⟩, ?_⟩
  · have ho2 := ownsRow_keep ho fun b hb => keep b (hpne b hb).2
    have e1 : (addV V disk size root).L.length = V.L.length + 1 := by simp [addV]
    have e2 : pCells (addV V disk size root).L = pCells V.L ++ ptCells ⟨V.next, disk, size, root⟩ := by
      show pCells (V.L ++ [_]) = _
      rw [pCells_append]; simp [pCells]
    rw [e1, e2]; exact ho2
  · refine ⟨t3.os, t3.tape, t3.output, by simpa using t3.size, fun k hk hn => (keep k fun e => hn (by simp [rbs, e])).trans (t3.block k hk hn)⟩
end Go.Proofs.YtlgahdabhnhjgaaGreatDoor
