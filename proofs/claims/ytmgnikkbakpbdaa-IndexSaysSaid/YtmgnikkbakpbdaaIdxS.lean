/- Contracts of both indexes with named answers, for IndexSays; a closed fact. -/
import Derived.Test.YtmgnikkbakpbdaaRefT
import Derived.Test.YtmgnikkbakpbdaaAsIdx
import Derived.Test.YtmgnikkbakpbdaaIdxCopy
import Derived.Test.YtmgnikkbakpbdaaIdxShare
import Derived.Test.YtmgnikkbakpbdaaIdx6
import Derived.Test.YtmgnikkbakpbdaaVauM
namespace Go.Proofs.Ytmgnikkbakpbdaa
open Go.RowKit Go.Maps

theorem setE (w : World) (x gp bp bn K : Nat) (X : IdxM) (root at_ : Nat) (data : ByteArray) (X' : IdxM) (n : Nat) (ne : Int) (h : IdxAt w x gp bp bn K X) (hr : root ≤ 1000) (ha : at_ < 16) (hK : K ≤ 100000) (hdata : data.size ≤ 9223372036854775807) (hS : setX X root at_ data = (X', n, ne)) :
    Calls Try.prog 23 #[.pointer (some ⟨x, 0, none⟩), .int .i64 root, .int .i64 at_, .string data] w (IdxRet w x gp bp bn (K + 11) X' (.tuple #[.int .i64 n, errV ne])) := by
  have := idxSet_any w x gp bp bn K X root at_ data h hr ha hK hdata
  rw [hS] at this
  exact this
theorem three {α β γ : Type} (s : α × β × γ) : ∃ a b c, s = (a, b, c) := ⟨s.1, s.2.1, s.2.2, rfl⟩
theorem freeE (w : World) (x gp bp bn K : Nat) (X X' : IdxM) (id : Nat) (h : IdxAt w x gp bp bn K X) (hid : id ≤ 1000) (hK : K ≤ 1000000) (hX : X.free id = X') :
    Calls Try.prog 27 #[.pointer (some ⟨x, 0, none⟩), .int .i64 id] w (IdxRet w x gp bp bn K X' (.tuple #[])) := by
  subst hX; exact idxFree_any w x gp bp bn K X id h hid hK
theorem shareE (w : World) (x gp bp bn K : Nat) (X X' : IdxM) (id : Nat) (h : IdxAt w x gp bp bn K X) (hid : id ≤ 1000) (hK : K ≤ 1000000) (hX : X.refN id = X') :
    Calls Try.prog 25 #[.pointer (some ⟨x, 0, none⟩), .int .i64 id] w (IdxRet w x gp bp bn (K + 1) X' (.int .i64 id)) := by
  subst hX; exact idxShare_any w x gp bp bn K X id h hid (by omega)
theorem refFreeE (w : World) (g K : Nat) (X X' : IdxM) (root : Nat) (HR : List Nat) (h : RIdxAt w g X) (hok : X.Ok K) (hK : K ≤ 1000000000) (hI : Inv X (opt root HR) [] []) (hX : X.free root = X') :
    Calls Try.prog 28 #[.pointer (some ⟨g, 0, none⟩), .int .i64 root] w (RIdxRet w g X' (.tuple #[])) := by
  subst hX; exact refFree_held w g K X root HR h hok hK hI
theorem refShareE (w : World) (g K : Nat) (X X' : IdxM) (root : Nat) (HR : List Nat) (h : RIdxAt w g X) (hok : X.Ok K) (hK : K ≤ 1000000000) (hI : Inv X HR [] []) (hr : root = 0 ∨ root ∈ HR) (hX : X.refN root = X') :
    Calls Try.prog 26 #[.pointer (some ⟨g, 0, none⟩), .int .i64 root] w (RIdxRet w g X' (.int .i64 root)) := by
  subst hX
  refine refShare_any w g X root h ?_ (Nat.le_trans (hok.N.refs root) hK)
  rcases hr with e | e
  · exact .inl e
  · refine .inr ?_
    rw [hI.hasN]
    simpa using (hI.hr root e).1
theorem diffS (w : World) (x gp bp bn K : Nat) (X : IdxM) (a b : Nat) (l : List Int) (n : Nat) (h : IdxAt w x gp bp bn K X) (ha : a ≤ 1000) (hb : b ≤ 1000) (hl : diffUp X a b 16 = l) (hn : l.length = n) :
    Calls Try.prog 33 #[.pointer (some ⟨x, 0, none⟩), .int .i64 a, .int .i64 b] w (RetS w l n) := by
  subst hl; exact (idxDiff_any w x gp bp bn K X a b h ha hb).mono fun _ _ h => retS_of hn h
theorem kid_le {X : IdxM} {HR : List Nat} (h : Inv X HR [] []) {root : Nat} (hr : root = 0 ∨ root ∈ HR) (i : Nat) : (X.N root).kid i ≤ 24 := by
  rcases h.kidOf hr i with e | ⟨e, _⟩
  · omega
  · exact (h.nl _ e).2


/-- The reference's row is none of an index. -/
theorem IdxAt.neRef {w : World} {x gp bp bn K g : Nat} {X : IdxM} {p : PoolM} (h : IdxAt w x gp bp bn K X) (hm : BlksAt w g p) : x ≠ g ∧ gp ≠ g ∧ bp ≠ g ∧ bn ≠ g := by
  have c := hm.data 0 (by omega)
  simp only [Nat.zero_mul] at c
  refine ⟨fun e => ?_, fun e => ?_, fun e => ?_, fun e => ?_⟩
  · have := h.cell0; rw [e, c] at this; cases this
  · have := h.pool.cell; rw [e, c] at this; cases this
  · obtain ⟨es, k, hb⟩ := h.pool.map.ismap
    simp [World.cell?, ← e, hb] at c
  · obtain ⟨es, k, hb⟩ := h.map.ismap
    simp [World.cell?, ← e, hb] at c
theorem IdxAt.refTurn {w w' : World} {x gp bp bn K g : Nat} {X : IdxM} {p : PoolM} (h : IdxAt w x gp bp bn K X) (hm : BlksAt w g p) (ht : Turn [g] w w') : IdxAt w' x gp bp bn K X := by
  obtain ⟨a, b, c, d⟩ := h.neRef hm
  exact h.turn ht (by simpa using a) (by simpa using b) (by simpa using c) (by simpa using d)
theorem RIdxAt.idxTurn {w w' : World} {x gp bp bn K g : Nat} {X Y : IdxM} (hm : RIdxAt w g Y) (h : IdxAt w x gp bp bn K X) (ht : Turn [bp, bn] w w') : RIdxAt w' g Y := by
  obtain ⟨a, b, c, d⟩ := h.neRef hm.blks
  exact hm.turn ht (by simp; omega)
theorem OwnInts.keep {w w' : World} {base : Nat} {v : Value} {l : List Int} (h : OwnInts w base v l) (hk : ∀ g, v.ownBlock = some g → w'.heap[g]? = w.heap[g]?) : OwnInts w' base v l := by
  obtain ⟨h1, h2⟩ := h
  refine ⟨h1, ?_⟩
  rcases h2 with h2 | ⟨g, cap, cur, hv, hg, hh, r⟩
  · exact .inl h2
  · exact .inr ⟨g, cap, cur, hv, hg, (hk g (by rw [hv]; rfl)).trans hh, r⟩
/-- A row of numbers is not the reference's. -/
theorem OwnInts.neRef {w : World} {base g : Nat} {v : Value} {l : List Int} {p : PoolM} (h : OwnInts w base v l) (hl : l ≠ []) (hm : BlksAt w g p) : v.ownBlock ≠ some g := by
  have c := hm.data 0 (by omega)
  simp only [Nat.zero_mul] at c
  have h' : w.ownsRow base 3 1 v l.length (l.map (Value.int .i64)) := h
  rcases h.2 with ⟨_, h0⟩ | ⟨b, cap, cur, rfl, _⟩
  · exact absurd (List.length_eq_zero_iff.1 h0) hl
  · intro e
    have e : b = g := by simpa [Value.ownBlock] using e
    subst e
    have := h'.cellAt 0 (by have := List.length_pos_iff.2 hl; omega)
    rw [c] at this
    cases l with
    | nil => exact hl rfl
    | cons x l => simp at this
theorem OwnInts.refTurn {w w' : World} {base g : Nat} {v : Value} {l : List Int} {p : PoolM} (h : OwnInts w base v l) (hl : l ≠ []) (hm : BlksAt w g p) (ht : Turn [g] w w') : OwnInts w' base v l :=
  h.keep fun b hb => ht.block b (World.ownsRow.lt h b hb).2 (by have := h.neRef hl hm; rw [hb] at this; simpa using this)
theorem OwnInts.mapTurn {w w' : World} {base : Nat} {v : Value} {l : List Int} {bs : List Nat} (h : OwnInts w base v l) (ht : Turn bs w w') (hm : ∀ b ∈ bs, ∃ es c, w.heap[b]? = some (.map es c)) : OwnInts w' base v l := by
  obtain ⟨h1, h2⟩ := h
  refine ⟨h1, ?_⟩
  rcases h2 with h2 | ⟨g, cap, cur, hv, hg, hh, r⟩
  · exact .inl h2
  · exact .inr ⟨g, cap, cur, hv, hg, turn_row ht hh hm, r⟩
theorem mapTurn_cell {bs : List Nat} {w w' : World} (h : Turn bs w w') (hm : ∀ b ∈ bs, ∃ es c, w.heap[b]? = some (.map es c)) {a : Addr} {v : Value} (hc : w.cell? a = some v) : w'.cell? a = some v := by
  have hlt := World.block_lt_of_cell? w a hc
  rw [World.cell?_of_block (w := w) (h.block a.block hlt fun hb => ?_)]
  · exact hc
  · obtain ⟨es, c, e⟩ := hm _ hb
    simp [World.cell?, e] at hc
theorem IdxAt.growRow {w w' : World} {x gp bp bn K : Nat} {X : IdxM} (h : IdxAt w x gp bp bn K X) {v : Value} (hg : w.grownBy w' v.ownBlock) {w0 : World} {base : Nat} {l : List Int} (hO : OwnInts w0 base v l) (hsame : ∀ g, v.ownBlock = some g → w.heap[g]? = w0.heap[g]?) : IdxAt w' x gp bp bn K X := by
  have ne : ∀ k, (∀ cur, w.heap[k]? ≠ some (.cells cur 3 (0, 0))) → some k ≠ v.ownBlock := fun k hk e => by
    rcases hO.2 with ⟨rfl, _⟩ | ⟨g, cap, cur, rfl, _, hh, _⟩
    · cases e
    · have e : k = g := by simpa [Value.ownBlock] using e
      subst e
      exact hk cur (by rw [hsame k rfl]; exact hh)
  refine ⟨(hg.block x h.lt (ne x fun cur e => by rw [h.row] at e; injection e with e; injection e with _ e _; exact absurd e (by decide))).trans h.row, h.pool.keep (hg.block gp h.pool.lt (ne gp fun cur e => by rw [h.pool.row] at e; injection e with e; injection e with _ e _; exact absurd e (by decide))) (hg.block bp h.pool.ltb (ne bp fun cur e => by obtain ⟨es, c, e'⟩ := h.pool.map.ismap; rw [e'] at e; cases e)), h.map.keep (hg.block bn h.ltn (ne bn fun cur e => by obtain ⟨es, c, e'⟩ := h.map.ismap; rw [e'] at e; cases e)), h.ne, h.ok⟩
theorem RIdxAt.growRow {w w' : World} {g : Nat} {X : IdxM} (h : RIdxAt w g X) {v : Value} (hg : w.grownBy w' v.ownBlock) (hn : v.ownBlock ≠ some g) : RIdxAt w' g X := h.keep (hg.block g h.lt (fun e => hn e.symm))

/-- Roots as numbers. -/
def numsR (l : List Nat) : List Int := l.map fun n => ((n : Nat) : Int)
theorem numsR_len (l : List Nat) : (numsR l).length = l.length := by simp [numsR]
/-- The roots that are something. -/
def heldR (l : List Nat) : List Nat := l.foldr opt []
theorem heldR_snoc (l : List Nat) (n : Nat) : (opt n (heldR l)).Perm (heldR (l ++ [n])) := by
  induction l with
  | nil => exact List.Perm.refl _
  | cons q l ih => exact (opt_perm _ _ _).trans (opt_congr _ ih)
theorem heldR_at (l : List Nat) (k : Nat) (hk : k < l.length) : (heldR l).Perm (opt l[k] (heldR (l.take k ++ l.drop (k + 1)))) := by
  induction l generalizing k with
  | nil => simp at hk
  | cons q l ih =>
    cases k with
    | zero => exact List.Perm.refl _
    | succ k => exact (opt_congr q (ih k (by simpa using hk))).trans (opt_perm _ _ _)
theorem heldR_mem {l : List Nat} {n : Nat} (h : n ∈ l) : n = 0 ∨ n ∈ heldR l := by
  induction l with
  | nil => cases h
  | cons q l ih =>
    rcases List.mem_cons.1 h with rfl | h
    · exact mem_opt_self _ _
    · exact held_opt (ih h)
theorem heldR_len (l : List Nat) : (heldR l).length ≤ l.length := by
  induction l with
  | nil => simp [heldR]
  | cons q l ih =>
    have := opt_len q (heldR l)
    show (opt q (heldR l)).length ≤ l.length + 1
    omega

def isX : IdxM := (setX emptyIdx 0 5 ⟨#[120]⟩).1
theorem is_id : (setX emptyIdx 0 5 ⟨#[120]⟩).2.1 = 2 := by decide +kernel
theorem is_err : (setX emptyIdx 0 5 ⟨#[120]⟩).2.2 = 0 := by decide +kernel
theorem is_set : setX emptyIdx 0 5 ⟨#[120]⟩ = (isX, 2, 0) := by
  obtain ⟨a, b, c, e⟩ := three (setX emptyIdx 0 5 ⟨#[120]⟩)
  have h1 := is_id
  have h2 := is_err
  unfold isX
  rw [e] at h1 h2 ⊢
  simp only at h1 h2
  rw [h1, h2]
theorem is_get5 : isX.get 2 5 = ⟨#[120]⟩ := by
  have h := (setX_good (X := emptyIdx) (root := 0) (at_ := 5) (data := ⟨#[120]⟩) inv_empty (.inl rfl) (by omega) is_err).2.2.1 5 (by omega)
  rw [is_id] at h
  exact h
theorem is_get4 : isX.get 2 4 = ByteArray.empty := by
  have h := (setX_good (X := emptyIdx) (root := 0) (at_ := 5) (data := ⟨#[120]⟩) inv_empty (.inl rfl) (by omega) is_err).2.2.1 4 (by omega)
  rw [is_id] at h
  exact h
theorem isSet (w : World) (x gp bp bn : Nat) (h : IdxAt w x gp bp bn 0 emptyIdx) : Calls Try.prog 23 #[.pointer (some ⟨x, 0, none⟩), .int .i64 0, .int .i64 5, .string ⟨#[120]⟩] w (IdxRet w x gp bp bn 11 isX (.tuple #[.int .i64 2, .nilIface])) :=
  setE w x gp bp bn 0 emptyIdx 0 5 ⟨#[120]⟩ isX 2 0 h (by omega) (by omega) (by omega) (by decide) is_set
theorem isGet5 (w : World) (x gp bp bn : Nat) (h : IdxAt w x gp bp bn 11 isX) : Calls Try.prog 31 #[.pointer (some ⟨x, 0, none⟩), .int .i64 2, .int .i64 5] w fun e w' => e = .returned (.string ⟨#[120]⟩) ∧ Below w.heap.size w w' :=
  idxGet_e w x gp bp bn 11 isX 2 5 _ h (by omega) (by omega) is_get5
theorem isGet4 (w : World) (x gp bp bn : Nat) (h : IdxAt w x gp bp bn 11 isX) : Calls Try.prog 31 #[.pointer (some ⟨x, 0, none⟩), .int .i64 2, .int .i64 4] w fun e w' => e = .returned (.string ByteArray.empty) ∧ Below w.heap.size w w' :=
  idxGet_e w x gp bp bn 11 isX 2 4 _ h (by omega) (by omega) is_get4
theorem indexes_closed (w : World) : Calls Try.prog 21 #[] w fun e w' => e = .returned (.bool true) ∧ Below w.heap.size w w' := by
  go_enter Try.func21, Try.ntmps21
  go_wp2_with fail
  ((with_reducible refine (idxNew_any _).mono ?_); rintro e w1 ⟨x, gp, bp, bn, rfl, h1, hx, hgp, hbp, hbn, hb1⟩)
  go_wp2_with fail
  ((with_reducible refine (isSet _ _ _ _ _ h1).mono ?_); rintro e w2 ⟨rfl, h2, t2⟩)
  have hb2 := hb1.trans (t2.below hb1.size (by simp; omega))
  clear t2 h1 hb1
  go_wp2_with fail
  ((with_reducible refine (said_nil _).mono ?_); rintro e w2' ⟨rfl, rfl⟩)
  go_wp2_with fail
  ((with_reducible refine (isGet5 _ _ _ _ _ h2).mono ?_); rintro e w3 ⟨rfl, hb3⟩)
  have h3 := h2.below hb3
  replace hb3 := belowThen hb2 hb3
  clear h2 hb2
  go_wp2_with fail
  ((with_reducible refine (isGet4 _ _ _ _ _ h3).mono ?_); rintro e w4 ⟨rfl, hb4⟩)
  go_wp2
  go_ret
  exact ⟨rfl, belowThen hb3 hb4⟩
end Go.Proofs.Ytmgnikkbakpbdaa
