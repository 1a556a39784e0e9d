/- Package index: Set. -/
import Derived.Test.YtlgahdabhnhjgaaGreatDoorZqIdx4
namespace Go.Proofs.YtlgahdabhnhjgaaGreatDoor
open Go.RowKit Go.Maps

/-- Four numbers, one of them replaced. -/
def rep (a : Nat) (i j v : Nat) : Nat := if i = j then v else a
theorem rep_le {a i j v m : Nat} (h1 : a ≤ m) (h2 : v ≤ m) : rep a i j v ≤ m := by unfold rep; split <;> assumption
theorem set4 (a b c d v j : Nat) (hj : j < 4) : (#[Value.int .i64 a, .int .i64 b, .int .i64 c, .int .i64 d]).setIfInBounds j (.int .i64 v) = #[.int .i64 (rep a 0 j v), .int .i64 (rep b 1 j v), .int .i64 (rep c 2 j v), .int .i64 (rep d 3 j v)] := by
  have : j = 0 ∨ j = 1 ∨ j = 2 ∨ j = 3 := by omega
  rcases this with rfl | rfl | rfl | rfl <;> rfl

/-- What Set does once the block is there: the leaf, the root. -/
def setRest (X : IdxM) (root at_ b : Nat) : IdxM × Nat × Int :=
  let L := X.N ((X.N root).kid (at_ / 4))
  let j := at_ % 4
  let X2 := createX IdxM.refB false X (rep L.k0 0 j b) (rep L.k1 1 j b) (rep L.k2 2 j b) (rep L.k3 3 j b)
  let eL := createErr X (rep L.k0 0 j b) (rep L.k1 1 j b) (rep L.k2 2 j b) (rep L.k3 3 j b)
  let l := createId X (rep L.k0 0 j b) (rep L.k1 1 j b) (rep L.k2 2 j b) (rep L.k3 3 j b)
  let X3 := X2.unrefB b
  if eL ≠ 0 then (X3, 0, eL) else
    let R := X.N root
    let i := at_ / 4
    ((createX IdxM.refN true X3 (rep R.k0 0 i l) (rep R.k1 1 i l) (rep R.k2 2 i l) (rep R.k3 3 i l)).relLeaf l,
      createId X3 (rep R.k0 0 i l) (rep R.k1 1 i l) (rep R.k2 2 i l) (rep R.k3 3 i l),
      createErr X3 (rep R.k0 0 i l) (rep R.k1 1 i l) (rep R.k2 2 i l) (rep R.k3 3 i l))
def setX (X : IdxM) (root at_ : Nat) (data : ByteArray) : IdxM × Nat × Int :=
  if data.size = 0 then setRest X root at_ 0
  else if putErr X.P data = 0 then setRest { X with P := putP X.P data } root at_ (putId X.P data)
  else (X, 0, putErr X.P data)

theorem putId_le (p : PoolM) (data : ByteArray) : putId p data ≤ 40 := by
  by_cases h : putErr p data = 0
  · obtain ⟨n, _, e, _, h2, _⟩ := putId_of h
    omega
  · unfold putId; rw [if_neg h]; omega
theorem createId_le (X : IdxM) (a b c d : Nat) : createId X a b c d ≤ 24 := by
  unfold createId
  split
  · omega
  · cases hff : firstFree 24 (usedNod X.N) with
    | none => simp
    | some n => have := firstFree_some hff; simp; omega
theorem createErr_cases (X : IdxM) (a b c d : Nat) : createErr X a b c d = 0 ∨ createErr X a b c d = 8 := by
  unfold createErr
  split
  · exact .inl rfl
  · split
    · exact .inr rfl
    · exact .inl rfl
theorem putErr_cases (p : PoolM) (data : ByteArray) : putErr p data = 0 ∨ putErr p data = 3 ∨ putErr p data = 8 := by
  unfold putErr
  split
  · exact .inr (.inl rfl)
  · split
    · exact .inr (.inr rfl)
    · exact .inl rfl

/-- A contract with its answers named. -/
theorem putP_e (g b K : Nat) (w : World) (p : PoolM) (data : ByteArray) (n : Nat) (ne : Int) (q : PoolM) (h : PoolAt w g b K p) (hdata : data.size ≤ 9223372036854775807) (hn : putId p data = n) (hne : putErr p data = ne) (hq : putP p data = q) :
    Calls Tryz.prog 118 #[.pointer (some ⟨g, 0, none⟩), .string data] w fun e w' => e = .returned (.tuple #[.int .i64 n, errV ne]) ∧ PoolAt w' g b (K + 1) q ∧ Turn [b] w w' := by
  subst hn hne hq; exact poolPut_any g b K w p data h hdata
theorem createB_e (w : World) (x gp bp bn K : Nat) (X : IdxM) (a b c d : Nat) (h : IdxAt w x gp bp bn K X) (hk : a ≤ 40 ∧ b ≤ 40 ∧ c ≤ 40 ∧ d ≤ 40) (hK : K ≤ 1000000) (X' : IdxM) (n : Nat) (ne : Int) (h1 : createX IdxM.refB false X a b c d = X') (h2 : createId X a b c d = n) (h3 : createErr X a b c d = ne) :
    Calls Tryz.prog 119 #[.pointer (some ⟨x, 0, none⟩), .agg #[.int .i64 a, .int .i64 b, .int .i64 c, .int .i64 d], .func (.func 120) #[.pointer (some ⟨x, 0, none⟩)] #[]] w
      (IdxRet w x gp bp bn (K + 5) X' (.tuple #[.int .i64 n, errV ne])) := by
  subst h1 h2 h3; exact createB_any w x gp bp bn K X a b c d h hk hK
theorem createN_e (w : World) (x gp bp bn K : Nat) (X : IdxM) (a b c d : Nat) (h : IdxAt w x gp bp bn K X) (hk : a ≤ 40 ∧ b ≤ 40 ∧ c ≤ 40 ∧ d ≤ 40) (hK : K ≤ 1000000) (X' : IdxM) (n : Nat) (ne : Int) (h1 : createX IdxM.refN true X a b c d = X') (h2 : createId X a b c d = n) (h3 : createErr X a b c d = ne) :
    Calls Tryz.prog 119 #[.pointer (some ⟨x, 0, none⟩), .agg #[.int .i64 a, .int .i64 b, .int .i64 c, .int .i64 d], .func (.func 92) #[.pointer (some ⟨x, 0, none⟩)] #[]] w
      (IdxRet w x gp bp bn (K + 5) X' (.tuple #[.int .i64 n, errV ne])) := by
  subst h1 h2 h3; exact createN_any w x gp bp bn K X a b c d h hk hK

theorem turn_row {bs : List Nat} {w w' : World} (h : Turn bs w w') {g : Nat} {cs : Array Value} {t : TypeId} {fr : Nat × Nat} (hg : w.heap[g]? = some (.cells cs t fr)) (hn : ∀ b ∈ bs, ∃ es c, w.heap[b]? = some (.map es c)) : w'.heap[g]? = some (.cells cs t fr) := by
  rw [h.block g (Array.getElem?_eq_some_iff.1 hg).1 (fun hm => by
    obtain ⟨es, c, e⟩ := hn g hm
    rw [hg] at e
    cases e)]
  exact hg
theorem IdxAt.maps {w : World} {x gp bp bn K : Nat} {X : IdxM} (h : IdxAt w x gp bp bn K X) : ∀ b ∈ [bp, bn], ∃ es c, w.heap[b]? = some (.map es c) := by
  intro b hb
  simp at hb
  rcases hb with rfl | rfl
  · exact h.pool.map.ismap
  · exact h.map.ismap

theorem load4 (g a b c d : Nat) (w : World) (h : w.heap[g]? = some (.cells #[.int .i64 a, .int .i64 b, .int .i64 c, .int .i64 d] 79 (0, 0))) : w.cell? ⟨g, 0, none⟩ = some (.int .i64 a) ∧ w.cell? ⟨g, 1, none⟩ = some (.int .i64 b) ∧ w.cell? ⟨g, 2, none⟩ = some (.int .i64 c) ∧ w.cell? ⟨g, 3, none⟩ = some (.int .i64 d) :=
  ⟨cell_of_row _ _ _ _ _ _ h, cell_of_row _ _ _ _ _ _ h, cell_of_row _ _ _ _ _ _ h, cell_of_row _ _ _ _ _ _ h⟩
theorem cell4 (g a b c d i : Nat) (hi : i < 4) (w : World) (h : w.heap[g]? = some (.cells #[.int .i64 a, .int .i64 b, .int .i64 c, .int .i64 d] 79 (0, 0))) : w.cell? ⟨g, i, none⟩ = some (.int .i64 ((sel4 a b c d i : Nat) : Int)) ∧ w.frozen? ⟨g, i, none⟩ = false := by
  refine ⟨?_, frozen_of_row _ _ _ _ _ h⟩
  rw [cell_of_row _ _ _ _ _ _ h]
  have : i = 0 ∨ i = 1 ∨ i = 2 ∨ i = 3 := by omega
  rcases this with rfl | rfl | rfl | rfl <;> rfl
theorem row_ne {w : World} {x gp bp bn K g : Nat} {X : IdxM} {cs : Array Value} (h : IdxAt w x gp bp bn K X) (hg : w.heap[g]? = some (.cells cs 79 (0, 0))) : x ≠ g ∧ gp ≠ g ∧ bp ≠ g ∧ bn ≠ g := by
  refine ⟨?_, ?_, ?_, ?_⟩
  · rintro rfl; have := h.row; rw [hg] at this; injection this with e; injection e with _ e _; exact absurd e (by decide)
  · rintro rfl; have := h.pool.row; rw [hg] at this; injection this with e; injection e with _ e _; exact absurd e (by decide)
  · rintro rfl; obtain ⟨es, c, e⟩ := h.pool.map.ismap; rw [hg] at e; cases e
  · rintro rfl; obtain ⟨es, c, e⟩ := h.map.ismap; rw [hg] at e; cases e
/-- A number stored into an array of four that is new. -/
theorem store4 {w w' : World} {x gp bp bn K g : Nat} {X : IdxM} {bs : List Nat} {a b c d v j : Nat} {w0 : World} (h : IdxAt w x gp bp bn K X) (hg : w.heap[g]? = some (.cells #[.int .i64 a, .int .i64 b, .int .i64 c, .int .i64 d] 79 (0, 0))) (ht : Turn bs w0 w) (hj : j < 4) (hn : w0.heap.size ≤ g) (hw : w.setCell ⟨g, j, none⟩ (.int .i64 v) = w') :
    IdxAt w' x gp bp bn K X ∧ w'.heap[g]? = some (.cells #[.int .i64 (rep a 0 j v), .int .i64 (rep b 1 j v), .int .i64 (rep c 2 j v), .int .i64 (rep d 3 j v)] 79 (0, 0)) ∧ Turn bs w0 w' ∧ ∀ k, k ≠ g → w'.heap[k]? = w.heap[k]? := by
  subst hw
  obtain ⟨n1, n2, n3, n4⟩ := row_ne h hg
  have ho : ∀ k, k ≠ g → (w.setCell ⟨g, j, none⟩ (.int .i64 v)).heap[k]? = w.heap[k]? := fun k hk => Below.heap_setCell _ _ _ _ hk
  have hs := heap_setCell_same w g j _ _ (.int .i64 v) hg
  rw [set4 a b c d v j hj] at hs
  exact ⟨⟨(ho x n1).trans h.row, h.pool.keep (ho gp n2) (ho bp n3), h.map.keep (ho bn n4), h.ne, h.ok⟩, hs, ht.setCell (p := ⟨g, j, none⟩) hn _, ho⟩

/-- setRest, its answer by the answers of its parts. -/
theorem setRest_err {X X2 : IdxM} {root at_ b L : Nat} {eL : Int} (hL : (X.N root).kid (at_ / 4) = L)
    (h1 : createX IdxM.refB false X (rep (X.N L).k0 0 (at_ % 4) b) (rep (X.N L).k1 1 (at_ % 4) b) (rep (X.N L).k2 2 (at_ % 4) b) (rep (X.N L).k3 3 (at_ % 4) b) = X2)
    (h3 : createErr X (rep (X.N L).k0 0 (at_ % 4) b) (rep (X.N L).k1 1 (at_ % 4) b) (rep (X.N L).k2 2 (at_ % 4) b) (rep (X.N L).k3 3 (at_ % 4) b) = eL) (he : eL ≠ 0) : setRest X root at_ b = (X2.unrefB b, 0, eL) := by
  subst hL h1 h3
  unfold setRest
  simp only [ne_eq, he, not_false_eq_true, if_true]
theorem setRest_ok {X X2 X4 : IdxM} {root at_ b L l r : Nat} {eR : Int} (hL : (X.N root).kid (at_ / 4) = L)
    (h1 : createX IdxM.refB false X (rep (X.N L).k0 0 (at_ % 4) b) (rep (X.N L).k1 1 (at_ % 4) b) (rep (X.N L).k2 2 (at_ % 4) b) (rep (X.N L).k3 3 (at_ % 4) b) = X2)
    (h2 : createId X (rep (X.N L).k0 0 (at_ % 4) b) (rep (X.N L).k1 1 (at_ % 4) b) (rep (X.N L).k2 2 (at_ % 4) b) (rep (X.N L).k3 3 (at_ % 4) b) = l)
    (h3 : createErr X (rep (X.N L).k0 0 (at_ % 4) b) (rep (X.N L).k1 1 (at_ % 4) b) (rep (X.N L).k2 2 (at_ % 4) b) (rep (X.N L).k3 3 (at_ % 4) b) = 0)
    (h4 : createX IdxM.refN true (X2.unrefB b) (rep (X.N root).k0 0 (at_ / 4) l) (rep (X.N root).k1 1 (at_ / 4) l) (rep (X.N root).k2 2 (at_ / 4) l) (rep (X.N root).k3 3 (at_ / 4) l) = X4)
    (h5 : createId (X2.unrefB b) (rep (X.N root).k0 0 (at_ / 4) l) (rep (X.N root).k1 1 (at_ / 4) l) (rep (X.N root).k2 2 (at_ / 4) l) (rep (X.N root).k3 3 (at_ / 4) l) = r)
    (h6 : createErr (X2.unrefB b) (rep (X.N root).k0 0 (at_ / 4) l) (rep (X.N root).k1 1 (at_ / 4) l) (rep (X.N root).k2 2 (at_ / 4) l) (rep (X.N root).k3 3 (at_ / 4) l) = eR) : setRest X root at_ b = (X4.relLeaf l, r, eR) := by
  subst hL h1 h2 h4 h5 h6
  unfold setRest
  simp only [h3, ne_eq, not_true_eq_false, if_false]

set_option maxHeartbeats 8000000 in
set_option maxRecDepth 100000 in
theorem idxSet_any (w : World) (x gp bp bn K : Nat) (X : IdxM) (root at_ : Nat) (data : ByteArray) (h : IdxAt w x gp bp bn K X) (hr : root ≤ 1000) (ha : at_ < 16) (hK : K ≤ 100000) (hdata : data.size ≤ 9223372036854775807) :
    Calls Tryz.prog 91 #[.pointer (some ⟨x, 0, none⟩), .int .i64 root, .int .i64 at_, .string data] w
      (IdxRet w x gp bp bn (K + 11) (setX X root at_ data).1 (.tuple #[.int .i64 (setX X root at_ data).2.1, errV (setX X root at_ data).2.2])) := by
  by_cases hd0 : data.size = 0
  · obtain rfl : data = ByteArray.empty := by
      apply ByteArray.ext
      exact Array.eq_empty_of_size_eq_zero hd0
    rw [show setX X root at_ ByteArray.empty = setRest X root at_ 0 from rfl]
    have h1 : IdxAt w x gp bp bn (K + 1) X := h.mono (by omega)
    have t1 : Turn [bp, bn] w w := Turn.refl _ _
    have hb40 : (0 : Nat) ≤ 40 := by omega
    clear h hdata hd0
    go_enter Tryz.func91, Tryz.ntmps91
    go_wp2_with fail
    ((with_reducible refine (isPos_yes _ _ (by omega) (by omega)).mono ?_); rintro e w1 ⟨rfl, rfl⟩)
    have c1 := h1.cell1
    have hM := h1.map
    have q1 := nodMap_get h1.ok root
    unfold nodV at q1
    have Q1 := Lib.hid q1
    clear q1
    have f5 := field5
    go_wp2_with (first
      | (at_lookup; refine wpList_look rfl _ _ 64 rfl 81 Tryz.underlying64 _ (Tryz.zeroNode _) bn 24 _ rfl hM root rfl (by omega) _ Q1.out ?_)
      | fail)
    have b2 := (Below.refl w.heap.size w).alloc (Nat.le_refl _) (.cells #[.int .i64 (X.N root).k0, .int .i64 (X.N root).k1, .int .i64 (X.N root).k2, .int .i64 (X.N root).k3] 79)
    have h2 := h1.below b2
    have t2 := t1.trans (Turn.of_below (bs := [bp, bn]) b2)
    have s2 : (w.alloc (.cells #[.int .i64 (X.N root).k0, .int .i64 (X.N root).k1, .int .i64 (X.N root).k2, .int .i64 (X.N root).k3] 79)).heap[w.heap.size]? = some (.cells #[.int .i64 (X.N root).k0, .int .i64 (X.N root).k1, .int .i64 (X.N root).k2, .int .i64 (X.N root).k3] 79 (0, 0)) := heap_alloc_new w _
    obtain ⟨g1, hgg, hg1⟩ : ∃ g, w.heap.size = g ∧ w.heap.size ≤ g := ⟨_, rfl, t1.size⟩
    have HG1 := Lib.hid hg1
    clear hg1
    have hl40 := h1.ok.kid root (at_ / 4)
    have hkR := h1.ok.kids root
    have hkL := h1.ok.kids ((X.N root).kid (at_ / 4))
    generalize w.alloc (.cells #[.int .i64 (X.N root).k0, .int .i64 (X.N root).k1, .int .i64 (X.N root).k2, .int .i64 (X.N root).k3] 79) = w2 at b2 h2 t2 s2 ⊢
    rw [hgg] at s2 ⊢
    clear hgg b2 h1 t1 c1 hM Q1
    have c2 := h2.cell1
    have hx2 := h2.lt
    have hg2 : g1 < w2.heap.size := (Array.getElem?_eq_some_iff.1 s2).1
    have hM3 := h2.map
    have cR : w2.cell? ⟨g1, at_ / 4, none⟩ = some (.int .i64 (((X.N root).kid (at_ / 4) : Nat) : Int)) := (cell4 g1 _ _ _ _ (at_ / 4) (by omega) w2 s2).1
    have q2 := nodMap_get h2.ok ((X.N root).kid (at_ / 4))
    unfold nodV at q2
    generalize hLL : (X.N root).kid (at_ / 4) = L at hl40 hkL cR q2
    have hlk1 : (Instr.lookup 64 (.map (some bn)) (.int .i64 L) false).run Tryz.prog w2.drew = .ok (.agg #[.int .i64 (X.N L).k0, .int .i64 (X.N L).k1, .int .i64 (X.N L).k2, .int .i64 (X.N L).k3, .int .i64 (X.N L).refs]) w2.drew := by
      rw [MapOf.look (w := w2.drew) (hM3.keep rfl) Tryz.underlying64 (Tryz.zeroNode _) (by omega), q2]
    have hlk2 : (Instr.lookup 64 (.map (some bn)) (.int .i64 L) false).run Tryz.prog (w2.alloc (.cells #[.int .i64 0, .int .i64 0, .int .i64 0, .int .i64 0] 79)).drew = .ok (.agg #[.int .i64 (X.N L).k0, .int .i64 (X.N L).k1, .int .i64 (X.N L).k2, .int .i64 (X.N L).k3, .int .i64 (X.N L).refs]) (w2.alloc (.cells #[.int .i64 0, .int .i64 0, .int .i64 0, .int .i64 0] 79)).drew := by
      rw [MapOf.look (w := (w2.alloc (.cells #[.int .i64 0, .int .i64 0, .int .i64 0, .int .i64 0] 79)).drew) (hM3.keep (Below.heap_alloc _ _ _ hM3.lt)) Tryz.underlying64 (Tryz.zeroNode _) (by omega), q2]
    have HLL := Lib.hid hLL
    have i2 : (0 : Int) ≤ (at_ : Int).tdiv 4 := by rw [Int.tdiv_eq_ediv_of_nonneg (by omega)]; omega
    have i3 : (at_ : Int).tdiv 4 < 4 := by rw [Int.tdiv_eq_ediv_of_nonneg (by omega)]; omega
    have i4 : ((at_ : Int).tdiv 4).toNat = at_ / 4 := by rw [Int.tdiv_eq_ediv_of_nonneg (by omega)]; omega
    have b4 : Below w2.heap.size w2 (w2.alloc (.cells #[.int .i64 (X.N L).k0, .int .i64 (X.N L).k1, .int .i64 (X.N L).k2, .int .i64 (X.N L).k3] 79)).drew := ((Below.refl _ _).alloc (Nat.le_refl _) _).drew
    have h4 := h2.below b4
    have t4 := t2.trans (Turn.of_below (bs := [bp, bn]) b4)
    have s4 := (b4.block g1 hg2).trans s2
    have s4' : (w2.alloc (.cells #[.int .i64 (X.N L).k0, .int .i64 (X.N L).k1, .int .i64 (X.N L).k2, .int .i64 (X.N L).k3] 79)).drew.heap[w2.heap.size]? = some (.cells #[.int .i64 (X.N L).k0, .int .i64 (X.N L).k1, .int .i64 (X.N L).k2, .int .i64 (X.N L).k3] 79 (0, 0)) := heap_alloc_new w2 _
    have HWS := Lib.hid t2.size
    clear hLL q2 t2 h2 hM3
    go_region
    all_goals
      clear hlk1 hlk2 f5 i2 i3 i4 cR c2
      generalize hw4 : (w2.alloc (.cells #[.int .i64 (X.N L).k0, .int .i64 (X.N L).k1, .int .i64 (X.N L).k2, .int .i64 (X.N L).k3] 79)).drew = w4 at b4 h4 t4 s4 s4' ⊢
      clear hw4 b4 s2
      have hne : g1 ≠ w2.heap.size := by omega
      obtain ⟨g2, hg2e⟩ : ∃ g, w2.heap.size = g := ⟨_, rfl⟩
      have hws2 := HWS.out
      rw [hg2e] at s4' hws2 hne ⊢
      have HW2 := Lib.hid hws2
      clear hws2
      clear hg2e hx2 hg2
      obtain ⟨d1, d2⟩ := cell4 g2 _ _ _ _ (at_ % 4) (by omega) w4 s4'
      generalize hw5 : w4.setCell ⟨g2, at_ % 4, none⟩ (.int .i64 0) = w5
      obtain ⟨h5, s5', t5, o5⟩ := store4 (v := 0) h4 s4' t4 (by omega) HW2.out hw5
      have s5 := (o5 g1 hne).trans s4
      obtain ⟨r0, r1, r2, r3⟩ := load4 _ _ _ _ _ _ s5'
      have j1 : (0 : Int) ≤ (at_ : Int) % 4 := by omega
      have j2 : (at_ : Int) % 4 < 4 := by omega
      have j3 : ((at_ : Int) % 4).toNat = at_ % 4 := by omega
      obtain ⟨X2, hX2⟩ : ∃ X2, createX IdxM.refB false X (rep (X.N L).k0 0 (at_ % 4) 0) (rep (X.N L).k1 1 (at_ % 4) 0) (rep (X.N L).k2 2 (at_ % 4) 0) (rep (X.N L).k3 3 (at_ % 4) 0) = X2 := ⟨_, rfl⟩
      obtain ⟨l, hl⟩ : ∃ l, createId X (rep (X.N L).k0 0 (at_ % 4) 0) (rep (X.N L).k1 1 (at_ % 4) 0) (rep (X.N L).k2 2 (at_ % 4) 0) (rep (X.N L).k3 3 (at_ % 4) 0) = l := ⟨_, rfl⟩
      obtain ⟨eL, heL⟩ : ∃ eL, createErr X (rep (X.N L).k0 0 (at_ % 4) 0) (rep (X.N L).k1 1 (at_ % 4) 0) (rep (X.N L).k2 2 (at_ % 4) 0) (rep (X.N L).k3 3 (at_ % 4) 0) = eL := ⟨_, rfl⟩
      have HX2 := Lib.hid hX2
      have HL := Lib.hid hl
      have HEL := Lib.hid heL
      have hl24 : l ≤ 24 := by rw [← hl]; exact createId_le _ _ _ _ _
      have HCR := Lib.hid (createB_e w5 x gp bp bn (K + 1) X _ _ _ _ h5 ⟨rep_le hkL.1 hb40, rep_le hkL.2.1 hb40, rep_le hkL.2.2.1 hb40, rep_le hkL.2.2.2 hb40⟩ (by omega) X2 l eL hX2 hl heL)
      clear hX2 hl heL o5 h4 s4 s4' t4
      go_wp2_with fail
      clear hw5 d1 d2 r0 r1 r2 r3 j1 j2 j3
      ((with_reducible refine HCR.out.mono ?_); rintro e w6 ⟨rfl, h6, t6⟩)
      have s6 := turn_row t6 s5 h5.maps
      replace t6 := t5.trans t6
      clear HCR s5 s5' t5 h5
      have HUN := Lib.hid (show Calls Tryz.prog 115 #[.pointer (some ⟨x, 0, none⟩), .int .i64 0] w6 (IdxRet w6 x gp bp bn (K + 1 + 5) (X2.unrefB 0) (.tuple #[])) from unrefBlock_any w6 x gp bp bn (K + 1 + 5) X2 0 h6 (by omega) (by omega))
      go_wp2_with fail
      ((with_reducible refine HUN.out.mono ?_); rintro e w7 ⟨rfl, h7, t7⟩)
      have s7 := turn_row t7 s6 h6.maps
      replace t7 := t6.trans t7
      clear HUN h6 s6 t6
      by_cases he0 : eL = 0
      rotate_left
      · have hv : errV eL = .iface 93 (.int .i64 eL) := by simp [errV, he0]
        rw [hv]
        have HR := Lib.hid (setRest_err HLL.out HX2.out HEL.out he0)
        have HV := Lib.hid hv
        clear hv he0
        go_wp2
        go_ret2
        rw [HR.out]
        exact ⟨by show _ = Ending.returned (.tuple #[.int .i64 0, errV eL]); rw [HV.out]; rfl, h7.mono (by omega), t7⟩
      · subst he0
        have hv0 : errV 0 = .nilIface := rfl
        rw [hv0]
        clear hv0
        obtain ⟨d1, d2⟩ := cell4 g1 _ _ _ _ (at_ / 4) (by omega) w7 s7
        generalize hw8 : w7.setCell ⟨g1, at_ / 4, none⟩ (.int .i64 l) = w8
        obtain ⟨h8, s8, t8, _⟩ := store4 (v := l) h7 s7 t7 (by omega) HG1.out hw8
        obtain ⟨r0, r1, r2, r3⟩ := load4 _ _ _ _ _ _ s8
        have j1 : (0 : Int) ≤ (at_ : Int) / 4 := by omega
        have j2 : (at_ : Int) / 4 < 4 := by omega
        have j3 : ((at_ : Int) / 4).toNat = at_ / 4 := by omega
        have hl40' : l ≤ 40 := by omega
        obtain ⟨X4, hX4⟩ : ∃ X4, createX IdxM.refN true (X2.unrefB 0) (rep (X.N root).k0 0 (at_ / 4) l) (rep (X.N root).k1 1 (at_ / 4) l) (rep (X.N root).k2 2 (at_ / 4) l) (rep (X.N root).k3 3 (at_ / 4) l) = X4 := ⟨_, rfl⟩
        obtain ⟨rr, hrr⟩ : ∃ rr, createId (X2.unrefB 0) (rep (X.N root).k0 0 (at_ / 4) l) (rep (X.N root).k1 1 (at_ / 4) l) (rep (X.N root).k2 2 (at_ / 4) l) (rep (X.N root).k3 3 (at_ / 4) l) = rr := ⟨_, rfl⟩
        obtain ⟨eR, heR⟩ : ∃ eR, createErr (X2.unrefB 0) (rep (X.N root).k0 0 (at_ / 4) l) (rep (X.N root).k1 1 (at_ / 4) l) (rep (X.N root).k2 2 (at_ / 4) l) (rep (X.N root).k3 3 (at_ / 4) l) = eR := ⟨_, rfl⟩
        have HCN := Lib.hid (createN_e w8 x gp bp bn (K + 1 + 5) (X2.unrefB 0) _ _ _ _ h8 ⟨rep_le hkR.1 hl40', rep_le hkR.2.1 hl40', rep_le hkR.2.2.1 hl40', rep_le hkR.2.2.2 hl40'⟩ (by omega) X4 rr eR hX4 hrr heR)
        have HR := Lib.hid (setRest_ok HLL.out HX2.out HL.out HEL.out hX4 hrr heR)
        clear hX4 hrr heR h7 s7 t7
        go_wp2_with fail
        clear hw8 d1 d2 r0 r1 r2 r3 j1 j2 j3
        ((with_reducible refine HCN.out.mono ?_); rintro e w9 ⟨rfl, h9, t9⟩)
        replace t9 := t8.trans t9
        clear HCN s8 t8 h8
        go_wp2_with fail
        ((with_reducible refine (releaseLeaf_any w9 x gp bp bn _ X4 l h9 (by omega) (by omega)).mono ?_); rintro e w10 ⟨rfl, h10, t10⟩)
        go_wp2
        go_ret2
        rw [HR.out]
        exact ⟨rfl, h10, t9.trans t10⟩
  · have hne := notEmpty hd0
    by_cases he : putErr X.P data = 0
    rotate_left
    · rw [show setX X root at_ data = (X, 0, putErr X.P data) by unfold setX; rw [if_neg hd0, if_neg he]]
      have c0 := h.cell0
      obtain ⟨ne, hne0⟩ : ∃ ne, putErr X.P data = ne := ⟨_, rfl⟩
      have HPUT := Lib.hid (putP_e gp bp K w X.P data 0 ne X.P h.pool hdata (by unfold putId; rw [if_neg he]) hne0 (by unfold putP; rw [if_neg he]))
      rw [hne0] at he ⊢
      have hv : errV ne = .iface 93 (.int .i64 ne) := by simp [errV, he]
      have HV := Lib.hid hv
      rw [hv] at HPUT
      clear hv he hne0
      go_enter Tryz.func91, Tryz.ntmps91
      go_wp2_with fail
      ((with_reducible refine (isPos_yes _ _ (by omega) (by omega)).mono ?_); rintro e w1 ⟨rfl, rfl⟩)
      go_wp2_with fail
      ((with_reducible refine HPUT.out.mono ?_); rintro e w1 ⟨rfl, hp1, t1⟩)
      go_wp2
      go_ret2
      exact ⟨by show _ = Ending.returned (.tuple #[.int .i64 0, errV ne]); rw [HV.out]; rfl, (h.pooled hp1 t1 (by omega)).mono (by omega), t1.mono (by simp)⟩
    · rw [show setX X root at_ data = setRest { X with P := putP X.P data } root at_ (putId X.P data) by unfold setX; rw [if_neg hd0, if_pos he]]
      have c0 := h.cell0
      have hb40 := putId_le X.P data
      obtain ⟨b, hb⟩ : ∃ b, putId X.P data = b := ⟨_, rfl⟩
      obtain ⟨q, hq⟩ : ∃ q, putP X.P data = q := ⟨_, rfl⟩
      have HPUT := Lib.hid (putP_e gp bp K w X.P data b 0 q h.pool hdata hb he hq)
      rw [hb] at hb40
      rw [hb, hq]
      have hv0 : errV 0 = .nilIface := rfl
      rw [hv0] at HPUT
      obtain ⟨Y, hY⟩ : ∃ Y : IdxM, Y = { X with P := q } := ⟨_, rfl⟩
      rw [← hY]
      have HY := Lib.hid hY
      clear hb hq he hY hv0
      go_enter Tryz.func91, Tryz.ntmps91
      go_wp2_with fail
      ((with_reducible refine (isPos_yes _ _ (by omega) (by omega)).mono ?_); rintro e w1 ⟨rfl, rfl⟩)
      go_wp2_with fail
      ((with_reducible refine HPUT.out.mono ?_); rintro e w1 ⟨rfl, hp1, tp⟩)
      have h1 : IdxAt w1 x gp bp bn (K + 1) Y := by rw [HY.out]; exact h.pooled hp1 tp (by omega)
      have t1 : Turn [bp, bn] w w1 := tp.mono (by simp)
      clear h hp1 tp HY HPUT c0 hdata
      have c1 := h1.cell1
      have hM := h1.map
      have q1 := nodMap_get h1.ok root
      unfold nodV at q1
      have Q1 := Lib.hid q1
      clear q1
      have f5 := field5
      go_wp2_with (first
        | (at_lookup; refine wpList_look rfl _ _ 64 rfl 81 Tryz.underlying64 _ (Tryz.zeroNode _) bn 24 _ rfl hM root rfl (by omega) _ Q1.out ?_)
        | fail)
      have b2 := (Below.refl w1.heap.size w1).alloc (Nat.le_refl _) (.cells #[.int .i64 (Y.N root).k0, .int .i64 (Y.N root).k1, .int .i64 (Y.N root).k2, .int .i64 (Y.N root).k3] 79)
      have h2 := h1.below b2
      have t2 := t1.trans (Turn.of_below (bs := [bp, bn]) b2)
      have s2 : (w1.alloc (.cells #[.int .i64 (Y.N root).k0, .int .i64 (Y.N root).k1, .int .i64 (Y.N root).k2, .int .i64 (Y.N root).k3] 79)).heap[w1.heap.size]? = some (.cells #[.int .i64 (Y.N root).k0, .int .i64 (Y.N root).k1, .int .i64 (Y.N root).k2, .int .i64 (Y.N root).k3] 79 (0, 0)) := heap_alloc_new w1 _
      obtain ⟨g1, hgg, hg1⟩ : ∃ g, w1.heap.size = g ∧ w.heap.size ≤ g := ⟨_, rfl, t1.size⟩
      have HG1 := Lib.hid hg1
      clear hg1
      have hl40 := h1.ok.kid root (at_ / 4)
      have hkR := h1.ok.kids root
      have hkL := h1.ok.kids ((Y.N root).kid (at_ / 4))
      generalize w1.alloc (.cells #[.int .i64 (Y.N root).k0, .int .i64 (Y.N root).k1, .int .i64 (Y.N root).k2, .int .i64 (Y.N root).k3] 79) = w2 at b2 h2 t2 s2 ⊢
      rw [hgg] at s2 ⊢
      clear hgg b2 h1 t1 c1 hM Q1
      have c2 := h2.cell1
      have hx2 := h2.lt
      have hg2 : g1 < w2.heap.size := (Array.getElem?_eq_some_iff.1 s2).1
      have hM3 := h2.map
      have cR : w2.cell? ⟨g1, at_ / 4, none⟩ = some (.int .i64 (((Y.N root).kid (at_ / 4) : Nat) : Int)) := (cell4 g1 _ _ _ _ (at_ / 4) (by omega) w2 s2).1
      have q2 := nodMap_get h2.ok ((Y.N root).kid (at_ / 4))
      unfold nodV at q2
      generalize hLL : (Y.N root).kid (at_ / 4) = L at hl40 hkL cR q2
      have hlk1 : (Instr.lookup 64 (.map (some bn)) (.int .i64 L) false).run Tryz.prog w2.drew = .ok (.agg #[.int .i64 (Y.N L).k0, .int .i64 (Y.N L).k1, .int .i64 (Y.N L).k2, .int .i64 (Y.N L).k3, .int .i64 (Y.N L).refs]) w2.drew := by
        rw [MapOf.look (w := w2.drew) (hM3.keep rfl) Tryz.underlying64 (Tryz.zeroNode _) (by omega), q2]
      have hlk2 : (Instr.lookup 64 (.map (some bn)) (.int .i64 L) false).run Tryz.prog (w2.alloc (.cells #[.int .i64 0, .int .i64 0, .int .i64 0, .int .i64 0] 79)).drew = .ok (.agg #[.int .i64 (Y.N L).k0, .int .i64 (Y.N L).k1, .int .i64 (Y.N L).k2, .int .i64 (Y.N L).k3, .int .i64 (Y.N L).refs]) (w2.alloc (.cells #[.int .i64 0, .int .i64 0, .int .i64 0, .int .i64 0] 79)).drew := by
        rw [MapOf.look (w := (w2.alloc (.cells #[.int .i64 0, .int .i64 0, .int .i64 0, .int .i64 0] 79)).drew) (hM3.keep (Below.heap_alloc _ _ _ hM3.lt)) Tryz.underlying64 (Tryz.zeroNode _) (by omega), q2]
      have HLL := Lib.hid hLL
      have i2 : (0 : Int) ≤ (at_ : Int).tdiv 4 := by rw [Int.tdiv_eq_ediv_of_nonneg (by omega)]; omega
      have i3 : (at_ : Int).tdiv 4 < 4 := by rw [Int.tdiv_eq_ediv_of_nonneg (by omega)]; omega
      have i4 : ((at_ : Int).tdiv 4).toNat = at_ / 4 := by rw [Int.tdiv_eq_ediv_of_nonneg (by omega)]; omega
      have b4 : Below w2.heap.size w2 (w2.alloc (.cells #[.int .i64 (Y.N L).k0, .int .i64 (Y.N L).k1, .int .i64 (Y.N L).k2, .int .i64 (Y.N L).k3] 79)).drew := ((Below.refl _ _).alloc (Nat.le_refl _) _).drew
      have h4 := h2.below b4
      have t4 := t2.trans (Turn.of_below (bs := [bp, bn]) b4)
      have s4 := (b4.block g1 hg2).trans s2
      have s4' : (w2.alloc (.cells #[.int .i64 (Y.N L).k0, .int .i64 (Y.N L).k1, .int .i64 (Y.N L).k2, .int .i64 (Y.N L).k3] 79)).drew.heap[w2.heap.size]? = some (.cells #[.int .i64 (Y.N L).k0, .int .i64 (Y.N L).k1, .int .i64 (Y.N L).k2, .int .i64 (Y.N L).k3] 79 (0, 0)) := heap_alloc_new w2 _
      have HWS := Lib.hid t2.size
      clear hLL q2 t2 h2 hM3
      go_region
      all_goals
        clear hlk1 hlk2 f5 i2 i3 i4 cR c2
        generalize hw4 : (w2.alloc (.cells #[.int .i64 (Y.N L).k0, .int .i64 (Y.N L).k1, .int .i64 (Y.N L).k2, .int .i64 (Y.N L).k3] 79)).drew = w4 at b4 h4 t4 s4 s4' ⊢
        clear hw4 b4 s2
        have hne : g1 ≠ w2.heap.size := by omega
        obtain ⟨g2, hg2e⟩ : ∃ g, w2.heap.size = g := ⟨_, rfl⟩
        have hws2 := HWS.out
        rw [hg2e] at s4' hws2 hne ⊢
        have HW2 := Lib.hid hws2
        clear hws2
        clear hg2e hx2 hg2
        obtain ⟨d1, d2⟩ := cell4 g2 _ _ _ _ (at_ % 4) (by omega) w4 s4'
        generalize hw5 : w4.setCell ⟨g2, at_ % 4, none⟩ (.int .i64 b) = w5
        obtain ⟨h5, s5', t5, o5⟩ := store4 (v := b) h4 s4' t4 (by omega) HW2.out hw5
        have s5 := (o5 g1 hne).trans s4
        obtain ⟨r0, r1, r2, r3⟩ := load4 _ _ _ _ _ _ s5'
        have j1 : (0 : Int) ≤ (at_ : Int) % 4 := by omega
        have j2 : (at_ : Int) % 4 < 4 := by omega
        have j3 : ((at_ : Int) % 4).toNat = at_ % 4 := by omega
        obtain ⟨X2, hX2⟩ : ∃ X2, createX IdxM.refB false Y (rep (Y.N L).k0 0 (at_ % 4) b) (rep (Y.N L).k1 1 (at_ % 4) b) (rep (Y.N L).k2 2 (at_ % 4) b) (rep (Y.N L).k3 3 (at_ % 4) b) = X2 := ⟨_, rfl⟩
        obtain ⟨l, hl⟩ : ∃ l, createId Y (rep (Y.N L).k0 0 (at_ % 4) b) (rep (Y.N L).k1 1 (at_ % 4) b) (rep (Y.N L).k2 2 (at_ % 4) b) (rep (Y.N L).k3 3 (at_ % 4) b) = l := ⟨_, rfl⟩
        obtain ⟨eL, heL⟩ : ∃ eL, createErr Y (rep (Y.N L).k0 0 (at_ % 4) b) (rep (Y.N L).k1 1 (at_ % 4) b) (rep (Y.N L).k2 2 (at_ % 4) b) (rep (Y.N L).k3 3 (at_ % 4) b) = eL := ⟨_, rfl⟩
        have HX2 := Lib.hid hX2
        have HL := Lib.hid hl
        have HEL := Lib.hid heL
        have hl24 : l ≤ 24 := by rw [← hl]; exact createId_le _ _ _ _ _
        have HCR := Lib.hid (createB_e w5 x gp bp bn (K + 1) Y _ _ _ _ h5 ⟨rep_le hkL.1 hb40, rep_le hkL.2.1 hb40, rep_le hkL.2.2.1 hb40, rep_le hkL.2.2.2 hb40⟩ (by omega) X2 l eL hX2 hl heL)
        clear hX2 hl heL o5 h4 s4 s4' t4
        go_wp2_with fail
        clear hw5 d1 d2 r0 r1 r2 r3 j1 j2 j3
        ((with_reducible refine HCR.out.mono ?_); rintro e w6 ⟨rfl, h6, t6⟩)
        have s6 := turn_row t6 s5 h5.maps
        replace t6 := t5.trans t6
        clear HCR s5 s5' t5 h5
        have HUN := Lib.hid (show Calls Tryz.prog 115 #[.pointer (some ⟨x, 0, none⟩), .int .i64 b] w6 (IdxRet w6 x gp bp bn (K + 1 + 5) (X2.unrefB b) (.tuple #[])) from unrefBlock_any w6 x gp bp bn (K + 1 + 5) X2 b h6 (by omega) (by omega))
        go_wp2_with fail
        ((with_reducible refine HUN.out.mono ?_); rintro e w7 ⟨rfl, h7, t7⟩)
        have s7 := turn_row t7 s6 h6.maps
        replace t7 := t6.trans t7
        clear HUN h6 s6 t6
        by_cases he0 : eL = 0
        rotate_left
        · have hv : errV eL = .iface 93 (.int .i64 eL) := by simp [errV, he0]
          rw [hv]
          have HR := Lib.hid (setRest_err HLL.out HX2.out HEL.out he0)
          have HV := Lib.hid hv
          clear hv he0
          go_wp2
          go_ret2
          rw [HR.out]
          exact ⟨by show _ = Ending.returned (.tuple #[.int .i64 0, errV eL]); rw [HV.out]; rfl, h7.mono (by omega), t7⟩
        · subst he0
          have hv0 : errV 0 = .nilIface := rfl
          rw [hv0]
          clear hv0
          obtain ⟨d1, d2⟩ := cell4 g1 _ _ _ _ (at_ / 4) (by omega) w7 s7
          generalize hw8 : w7.setCell ⟨g1, at_ / 4, none⟩ (.int .i64 l) = w8
          obtain ⟨h8, s8, t8, _⟩ := store4 (v := l) h7 s7 t7 (by omega) HG1.out hw8
          obtain ⟨r0, r1, r2, r3⟩ := load4 _ _ _ _ _ _ s8
          have j1 : (0 : Int) ≤ (at_ : Int) / 4 := by omega
          have j2 : (at_ : Int) / 4 < 4 := by omega
          have j3 : ((at_ : Int) / 4).toNat = at_ / 4 := by omega
          have hl40' : l ≤ 40 := by omega
          obtain ⟨X4, hX4⟩ : ∃ X4, createX IdxM.refN true (X2.unrefB b) (rep (Y.N root).k0 0 (at_ / 4) l) (rep (Y.N root).k1 1 (at_ / 4) l) (rep (Y.N root).k2 2 (at_ / 4) l) (rep (Y.N root).k3 3 (at_ / 4) l) = X4 := ⟨_, rfl⟩
          obtain ⟨rr, hrr⟩ : ∃ rr, createId (X2.unrefB b) (rep (Y.N root).k0 0 (at_ / 4) l) (rep (Y.N root).k1 1 (at_ / 4) l) (rep (Y.N root).k2 2 (at_ / 4) l) (rep (Y.N root).k3 3 (at_ / 4) l) = rr := ⟨_, rfl⟩
          obtain ⟨eR, heR⟩ : ∃ eR, createErr (X2.unrefB b) (rep (Y.N root).k0 0 (at_ / 4) l) (rep (Y.N root).k1 1 (at_ / 4) l) (rep (Y.N root).k2 2 (at_ / 4) l) (rep (Y.N root).k3 3 (at_ / 4) l) = eR := ⟨_, rfl⟩
          have HCN := Lib.hid (createN_e w8 x gp bp bn (K + 1 + 5) (X2.unrefB b) _ _ _ _ h8 ⟨rep_le hkR.1 hl40', rep_le hkR.2.1 hl40', rep_le hkR.2.2.1 hl40', rep_le hkR.2.2.2 hl40'⟩ (by omega) X4 rr eR hX4 hrr heR)
          have HR := Lib.hid (setRest_ok HLL.out HX2.out HL.out HEL.out hX4 hrr heR)
          clear hX4 hrr heR h7 s7 t7
          go_wp2_with fail
          clear hw8 d1 d2 r0 r1 r2 r3 j1 j2 j3
          ((with_reducible refine HCN.out.mono ?_); rintro e w9 ⟨rfl, h9, t9⟩)
          replace t9 := t8.trans t9
          clear HCN s8 t8 h8
          go_wp2_with fail
          ((with_reducible refine (releaseLeaf_any w9 x gp bp bn _ X4 l h9 (by omega) (by omega)).mono ?_); rintro e w10 ⟨rfl, h10, t10⟩)
          go_wp2
          go_ret2
          rw [HR.out]
          exact ⟨rfl, h10, t9.trans t10⟩
end Go.Proofs.YtlgahdabhnhjgaaGreatDoor
