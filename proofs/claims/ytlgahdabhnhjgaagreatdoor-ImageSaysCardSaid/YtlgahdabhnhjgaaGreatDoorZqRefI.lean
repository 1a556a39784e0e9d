/- The reference's index in memory: its nodes; Nodes, Get, Share, Diff. -/
import Derived.Test.YtlgahdabhnhjgaaGreatDoorZqLight
import Derived.Test.YtlgahdabhnhjgaaGreatDoorZqZeroI
import Derived.Test.YtlgahdabhnhjgaaGreatDoorZqEq4
/- PoolSays: the contracts of both sides, their answers named. -/
namespace Go.Proofs.YtlgahdabhnhjgaaGreatDoor
open Go.RowKit Go.Maps

theorem putErr_nonneg (p : PoolM) (data : ByteArray) : 0 ≤ putErr p data := by
  unfold putErr
  split
  · omega
  · split <;> omega
theorem refErr_nonneg (p : PoolM) (id : Int) : 0 ≤ refErr p id := by unfold refErr; split <;> omega

theorem putS (g b K : Nat) (w : World) (p : PoolM) (data : ByteArray) (n : Nat) (ne : Int) (q : PoolM) (h : PoolAt w g b K p) (hdata : data.size ≤ 9223372036854775807) (hn : putId p data = n) (hne : putErr p data = ne) (hq : putP p data = q) :
    Calls Tryz.prog 118 #[.pointer (some ⟨g, 0, none⟩), .string data] w fun e w' => e = .returned (.tuple #[.int .i64 n, errV ne]) ∧ PoolAt w' g b (K + 1) q ∧ Turn [b] w w' := by
  subst hn hne hq; exact poolPut_any g b K w p data h hdata
theorem refPutS (g : Nat) (w : World) (p : PoolM) (data : ByteArray) (n : Nat) (ne : Int) (q : PoolM) (h : BlksAt w g p) (hdata : data.size ≤ 9223372036854775807) (hn : putId p data = n) (hne : putErr p data = ne) (hq : putP p data = q) :
    Calls Tryz.prog 121 #[.pointer (some ⟨g, 0, none⟩), .string data] w fun e w' => e = .returned (.tuple #[.int .i64 n, .int .i64 ne]) ∧ BlksAt w' g q ∧ Turn [g] w w' := by
  subst hn hne hq; exact (refPut_any g w p data h hdata).mono fun _ _ ⟨he, h1, h2, _⟩ => ⟨he, h1, h2⟩
theorem addS (g b K : Nat) (w : World) (p : PoolM) (id ne : Int) (q : PoolM) (h : PoolAt w g b K p) (hid : -9223372036854775808 ≤ id ∧ id ≤ 9223372036854775807) (hK : K ≤ 1000000000) (hne : refErr p id = ne) (hq : addRef p id = q) :
    Calls Tryz.prog 152 #[.pointer (some ⟨g, 0, none⟩), .int .i64 id] w fun e w' => e = .returned (errV ne) ∧ PoolAt w' g b (K + 1) q ∧ Turn [b] w w' := by
  subst hne hq; exact poolRef_any g b K w p id h hid hK
theorem subS (g b K : Nat) (w : World) (p : PoolM) (id ne : Int) (q : PoolM) (h : PoolAt w g b K p) (hid : -9223372036854775808 ≤ id ∧ id ≤ 9223372036854775807) (hK : K ≤ 1000000000) (hne : refErr p id = ne) (hq : subRef p id = q) :
    Calls Tryz.prog 138 #[.pointer (some ⟨g, 0, none⟩), .int .i64 id] w fun e w' => e = .returned (errV ne) ∧ PoolAt w' g b K q ∧ Turn [b] w w' := by
  subst hne hq; exact poolUnref_any g b K w p id h hid hK
theorem refAddP (g : Nat) (w : World) (p : PoolM) (id ne : Int) (q : PoolM) (h : BlksAt w g p) (hK : ∀ n, (p n).refs ≤ 1000000000) (hne : refErr p id = ne) (hq : addRef p id = q) :
    Calls Tryz.prog 123 #[.pointer (some ⟨g, 0, none⟩), .int .i64 id, .int .i64 1] w fun e w' => e = .returned (.int .i64 ne) ∧ BlksAt w' g q ∧ Turn [g] w w' ∧ Past g w w' := by
  subst hne hq
  cases hh : hasBlk p id with
  | false =>
    rw [show refErr p id = 5 by unfold refErr; rw [hh]; rfl, show addRef p id = p by unfold addRef; rw [hh]; rfl]
    exact (refRef_no g w p id 1 h hh).mono fun _ w' ⟨he, hw⟩ => ⟨he, hw ▸ h, hw ▸ Turn.refl _ _, hw ▸ Past.refl _ _⟩
  | true =>
    obtain ⟨h1, h2, h3⟩ := (hasBlk_iff p id).1 hh
    obtain ⟨n, rfl⟩ := Int.eq_ofNat_of_zero_le (show 0 ≤ id by omega)
    rw [show refErr p n = 0 by unfold refErr; rw [hh]; rfl, show addRef p n = setBlk p n (if (p n).refs + 1 = 0 then noBlk else ⟨(p n).data, (p n).refs + 1⟩) by unfold addRef; rw [if_pos hh, if_neg (by omega)]; rfl]
    exact (refRef_yes g w p n ((p n).refs + 1) 1 h hh (by omega) (by omega) (hK n)).mono fun _ _ ⟨he, h1, h2, h3⟩ => ⟨he, h1, h2, h3⟩
theorem refSubP (g : Nat) (w : World) (p : PoolM) (id ne : Int) (q : PoolM) (h : BlksAt w g p) (hK : ∀ n, (p n).refs ≤ 1000000000) (hne : refErr p id = ne) (hq : subRef p id = q) :
    Calls Tryz.prog 123 #[.pointer (some ⟨g, 0, none⟩), .int .i64 id, .int .i64 (-1)] w fun e w' => e = .returned (.int .i64 ne) ∧ BlksAt w' g q ∧ Turn [g] w w' ∧ Past g w w' := by
  subst hne hq
  cases hh : hasBlk p id with
  | false =>
    rw [show refErr p id = 5 by unfold refErr; rw [hh]; rfl, show subRef p id = p by unfold subRef; rw [hh]; rfl]
    exact (refRef_no g w p id (-1) h hh).mono fun _ w' ⟨he, hw⟩ => ⟨he, hw ▸ h, hw ▸ Turn.refl _ _, hw ▸ Past.refl _ _⟩
  | true =>
    obtain ⟨h1, h2, h3⟩ := (hasBlk_iff p id).1 hh
    obtain ⟨n, rfl⟩ := Int.eq_ofNat_of_zero_le (show 0 ≤ id by omega)
    rw [Int.toNat_natCast] at h3
    have e : (if (p n).refs = 1 then noBlk else (⟨(p n).data, (p n).refs - 1⟩ : Blk)) = if (p n).refs - 1 = 0 then noBlk else ⟨(p n).data, (p n).refs - 1⟩ := by
      by_cases h : (p n).refs = 1
      · rw [if_pos h, if_pos (by omega)]
      · rw [if_neg h, if_neg (by omega)]
    rw [show refErr p n = 0 by unfold refErr; rw [hh]; rfl, show subRef p n = setBlk p n (if (p n).refs - 1 = 0 then noBlk else ⟨(p n).data, (p n).refs - 1⟩) by unfold subRef; rw [if_pos hh, Int.toNat_natCast, e]]
    exact (refRef_yes g w p n ((p n).refs - 1) (-1) h hh (by omega) (by omega) (hK n)).mono fun _ _ ⟨he, h1, h2, h3⟩ => ⟨he, h1, h2, h3⟩
theorem refAddS (g : Nat) (w : World) (p : PoolM) (id ne : Int) (q : PoolM) (h : BlksAt w g p) (hK : ∀ n, (p n).refs ≤ 1000000000) (hne : refErr p id = ne) (hq : addRef p id = q) :
    Calls Tryz.prog 123 #[.pointer (some ⟨g, 0, none⟩), .int .i64 id, .int .i64 1] w fun e w' => e = .returned (.int .i64 ne) ∧ BlksAt w' g q ∧ Turn [g] w w' :=
  (refAddP g w p id ne q h hK hne hq).mono fun _ _ ⟨he, h1, h2, _⟩ => ⟨he, h1, h2⟩
theorem refSubS (g : Nat) (w : World) (p : PoolM) (id ne : Int) (q : PoolM) (h : BlksAt w g p) (hK : ∀ n, (p n).refs ≤ 1000000000) (hne : refErr p id = ne) (hq : subRef p id = q) :
    Calls Tryz.prog 123 #[.pointer (some ⟨g, 0, none⟩), .int .i64 id, .int .i64 (-1)] w fun e w' => e = .returned (.int .i64 ne) ∧ BlksAt w' g q ∧ Turn [g] w w' :=
  (refSubP g w p id ne q h hK hne hq).mono fun _ _ ⟨he, h1, h2, _⟩ => ⟨he, h1, h2⟩
theorem getS (g b K : Nat) (w : World) (p : PoolM) (id ne : Int) (s : ByteArray) (h : PoolAt w g b K p) (hid : -9223372036854775808 ≤ id ∧ id ≤ 9223372036854775807) (hne : refErr p id = ne) (hs : getText p id = s) :
    Calls Tryz.prog 90 #[.pointer (some ⟨g, 0, none⟩), .int .i64 id] w fun e w' => e = .returned (.tuple #[.string s, errV ne]) ∧ Below w.heap.size w w' := by
  subst hne hs; exact poolGet_any g b K w p id h hid


/-- Numbers, as a slice that lies in new memory. -/
def RetS (w : World) (l : List Int) (n : Nat) (e : Ending) (w' : World) : Prop := ∃ A c, e = .returned (.slice A n c) ∧ IntsAt w' A l ∧ Below w.heap.size w w'
theorem retS_of {w : World} {l : List Int} {n : Nat} (hn : l.length = n) {e : Ending} {w' : World} (h : RetInts w l e w') : RetS w l n e w' := by
  obtain ⟨v, rfl, hO, hb⟩ := h
  obtain ⟨A, c, rfl, hA, _⟩ := hO.at_
  subst hn
  exact ⟨A, c, rfl, hA, hb⟩
theorem numbersS (g b K : Nat) (w : World) (p : PoolM) (l : List Int) (n : Nat) (h : PoolAt w g b K p) (hl : numsOf p = l) (hn : l.length = n) : Calls Tryz.prog 27 #[.pointer (some ⟨g, 0, none⟩)] w (RetS w l n) := by
  subst hl; exact (poolNumbers_any g b K w p h).mono fun _ _ h => retS_of hn h
theorem blocksS (g : Nat) (w : World) (p : PoolM) (l : List Int) (n : Nat) (h : BlksAt w g p) (hl : numsOf p = l) (hn : l.length = n) : Calls Tryz.prog 39 #[.pointer (some ⟨g, 0, none⟩)] w (RetS w l n) := by
  subst hl; exact (refBlocks_any g w p h).mono fun _ _ h => retS_of hn h
theorem sameS (A A' : Option Addr) (c c' n : Nat) (l : List Int) (w : World) (hA : IntsAt w A l) (hA' : IntsAt w A' l) (hl : l.length = n) (hn : n ≤ 1000) :
    Calls Tryz.prog 81 #[.slice A n c, .slice A' n c'] w fun e w' => e = .returned (.bool true) ∧ Below w.heap.size w w' := by
  subst hl
  have := sameNumbers_any A A' c c' l l w hA hA' hn
  simpa using this

theorem Turn.cellKept {bs : List Nat} {a b : World} (h : Turn bs a b) {x i : Nat} {v : Value} (hc : a.cell? ⟨x, i, none⟩ = some v) (hn : x ∉ bs) : b.cell? ⟨x, i, none⟩ = some v := by
  rw [World.cell?_of_block (w := a) (a := ⟨x, i, none⟩) (h.block x (World.block_lt_of_cell? a ⟨x, i, none⟩ hc) hn)]; exact hc
theorem below_cellKept {a b : World} (h : Below a.heap.size a b) {x i : Nat} {v : Value} (hc : a.cell? ⟨x, i, none⟩ = some v) : b.cell? ⟨x, i, none⟩ = some v := by
  rw [World.cell?_of_block (w := a) (a := ⟨x, i, none⟩) (h.block x (World.block_lt_of_cell? a ⟨x, i, none⟩ hc))]; exact hc

theorem firstFreeS : firstFree 40 (usedBlk emptyPool) = some 1 := by decide
def oneX : PoolM := setBlk emptyPool 1 ⟨⟨#[120]⟩, 1⟩
theorem putX (g b K : Nat) (w : World) (h : PoolAt w g b K emptyPool) :
    Calls Tryz.prog 118 #[.pointer (some ⟨g, 0, none⟩), .string ⟨#[120]⟩] w fun e w' => e = .returned (.tuple #[.int .i64 1, .nilIface]) ∧ PoolAt w' g b (K + 1) oneX ∧ Turn [b] w w' := by
  have he : putErr emptyPool ⟨#[120]⟩ = 0 := by unfold putErr; rw [firstFreeS]; rfl
  have hi : putId emptyPool ⟨#[120]⟩ = 1 := by unfold putId; rw [he, firstFreeS]; rfl
  have hp : putP emptyPool ⟨#[120]⟩ = oneX := by unfold putP; rw [he, hi]; rfl
  exact putS g b K w emptyPool ⟨#[120]⟩ 1 0 oneX h (by decide) hi he hp
theorem getX (g b K : Nat) (w : World) (h : PoolAt w g b K oneX) :
    Calls Tryz.prog 90 #[.pointer (some ⟨g, 0, none⟩), .int .i64 1] w fun e w' => e = .returned (.tuple #[.string ⟨#[120]⟩, .nilIface]) ∧ Below w.heap.size w w' :=
  getS g b K w oneX 1 0 _ h (by omega) rfl rfl
end Go.Proofs.YtlgahdabhnhjgaaGreatDoor

/- The reference's index in memory: its nodes; Nodes, Get, Share, Diff. -/
namespace Go.Proofs.YtlgahdabhnhjgaaGreatDoor
open Go.RowKit Go.Maps

/-- The reference's nodes in memory, behind its blocks. -/
structure NodsAt (w : World) (g : Nat) (N : NodM) : Prop where
  kid : ∀ n i, n ≤ 24 → i < 4 → w.cell? ⟨g, 82 + n * 5 + i, none⟩ = some (.int .i64 ((N n).kid i))
  refs : ∀ n, n ≤ 24 → w.cell? ⟨g, 82 + n * 5 + 4, none⟩ = some (.int .i64 (N n).refs)
/-- The reference's index in memory. -/
structure RIdxAt (w : World) (g : Nat) (X : IdxM) : Prop where
  blks : BlksAt w g X.P
  nods : NodsAt w g X.N

theorem NodsAt.keep {w w' : World} {g : Nat} {N : NodM} (h : NodsAt w g N) (hk : w'.heap[g]? = w.heap[g]?) : NodsAt w' g N :=
  ⟨fun n i hn hi => by rw [World.cell?_of_block (w := w) (a := ⟨g, 82 + n * 5 + i, none⟩) hk]; exact h.kid n i hn hi, fun n hn => by rw [World.cell?_of_block (w := w) (a := ⟨g, 82 + n * 5 + 4, none⟩) hk]; exact h.refs n hn⟩
theorem RIdxAt.lt {w : World} {g : Nat} {X : IdxM} (h : RIdxAt w g X) : g < w.heap.size := h.blks.lt
theorem RIdxAt.keep {w w' : World} {g : Nat} {X : IdxM} (h : RIdxAt w g X) (hk : w'.heap[g]? = w.heap[g]?) : RIdxAt w' g X := ⟨h.blks.keep hk, h.nods.keep hk⟩
theorem RIdxAt.below {w w' : World} {g : Nat} {X : IdxM} (h : RIdxAt w g X) (hb : Below w.heap.size w w') : RIdxAt w' g X := h.keep (hb.block g h.lt)
theorem RIdxAt.turn {w w' : World} {g : Nat} {X : IdxM} {bs : List Nat} (h : RIdxAt w g X) (ht : Turn bs w w') (hn : g ∉ bs) : RIdxAt w' g X := h.keep (ht.block g h.lt hn)

theorem NodsAt.past {w w' : World} {g : Nat} {N : NodM} (h : NodsAt w g N) (hp : Past g w w') : NodsAt w' g N :=
  ⟨fun n i hn hi => (hp _ (by omega)).trans (h.kid n i hn hi), fun n hn => (hp _ (by omega)).trans (h.refs n hn)⟩
theorem getText_data {K : Nat} {p : PoolM} (h : p.Ok K) (n : Nat) : getText p n = (p n).data := by
  unfold getText
  cases hh : hasBlk p n with
  | true => rfl
  | false =>
    rw [hasBlk_nat h] at hh
    simp [usedBlk] at hh
    rw [h.gone n hh]; rfl

set_option maxHeartbeats 1000000 in
set_option maxRecDepth 100000 in
theorem refIGet_any (w : World) (g K : Nat) (X : IdxM) (root at_ : Nat) (h : RIdxAt w g X) (hok : X.Ok K) (hr : root ≤ 24) (hl : (X.N root).kid (at_ / 4) ≤ 24) (ha : at_ < 16) :
    Calls Tryz.prog 66 #[.pointer (some ⟨g, 0, none⟩), .int .i64 root, .int .i64 at_] w fun e w' => e = .returned (.string (X.get root at_)) ∧ Below w.heap.size w w' := by
  obtain ⟨q, hq⟩ : ∃ q, at_ / 4 = q := ⟨_, rfl⟩
  obtain ⟨r, hr4⟩ : ∃ r, at_ % 4 = r := ⟨_, rfl⟩
  have hq4 : q < 4 := by omega
  have hr5 : r < 4 := by omega
  have c1 := h.nods.kid root q hr hq4
  rw [hq] at hl
  have hg : X.get root at_ = (X.P ((X.N ((X.N root).kid q)).kid r)).data := by
    rw [← getText_data hok.P, ← hq, ← hr4]; rfl
  rw [hg]
  generalize (X.N root).kid q = L at hl c1
  have c2 := h.nods.kid L r hl hr5
  have hb := hok.N.kid L r
  generalize (X.N L).kid r = B at hb c2
  have c3 := h.blks.data B hb
  have d1 : (at_ : Int) / 4 = (q : Int) := by omega
  have d2 : (at_ : Int).tmod 4 = (r : Int) := by rw [Int.tmod_eq_emod_of_nonneg (by omega)]; omega
  have d3 : (at_ : Int).tdiv 4 = (q : Int) := by rw [Int.tdiv_eq_ediv_of_nonneg (by omega)]; omega
  have i1 : (0 : Int) ≤ (q : Int) := by omega
  have i2 : (q : Int) < 4 := by omega
  have i3 : (0 : Int) ≤ (r : Int) := by omega
  have i4 : (r : Int) < 4 := by omega
  have i5 : (0 : Int) ≤ (root : Int) := by omega
  have i6 : (root : Int) < 25 := by omega
  have i7 : (0 : Int) ≤ (L : Int) := by omega
  have i8 : (L : Int) < 25 := by omega
  have i9 : (0 : Int) ≤ (B : Int) := by omega
  have i10 : (B : Int) < 41 := by omega
  clear hg hq hr4
  go_enter Tryz.func66, Tryz.ntmps66
  go_wp2
  go_quiet (fail)
  go_wp2
  go_ret
  exact ⟨rfl, below_drewN (Below.refl _ _) _⟩

/-- Share: one reference more. -/
theorem NodsAt.setRefs {w : World} {g : Nat} {N : NodM} (h : NodsAt w g N) {n : Nat} (hn : n ≤ 24) (r : Nat) : NodsAt (w.setCell ⟨g, 82 + n * 5 + 4, none⟩ (.int .i64 r)) g (setNod N n { N n with refs := r }) := by
  refine ⟨fun m i hm hi => ?_, fun m hm => ?_⟩
  · rw [World.cell?_setCell_other w _ _ _ (fun x => by injection x with _ y _; omega), h.kid m i hm hi]
    by_cases e : m = n
    · subst e; simp [setNod, Nod.kid]
    · simp [setNod, e]
  · by_cases e : m = n
    · subst e
      rw [World.cell?_setCell_same w _ _ (h.refs m hm)]
      simp [setNod]
    · rw [World.cell?_setCell_other w _ _ _ (fun x => by injection x with _ y _; omega), h.refs m hm]
      simp [setNod, e]
theorem BlksAt.setPast {w : World} {g : Nat} {p : PoolM} (h : BlksAt w g p) {o : Nat} (ho : 82 ≤ o) (v : Value) : BlksAt (w.setCell ⟨g, o, none⟩ v) g p :=
  ⟨fun n hn => by rw [World.cell?_setCell_other w _ _ _ (fun x => by injection x with _ y _; omega)]; exact h.data n hn, fun n hn => by rw [World.cell?_setCell_other w _ _ _ (fun x => by injection x with _ y _; omega)]; exact h.refs n hn, fun i => by rw [World.frozen?_setCell]; exact h.free i⟩
theorem NodsAt.setBefore {w : World} {g : Nat} {N : NodM} (h : NodsAt w g N) {o : Nat} (ho : o < 82) (v : Value) : NodsAt (w.setCell ⟨g, o, none⟩ v) g N :=
  ⟨fun n i hn hi => by rw [World.cell?_setCell_other w _ _ _ (fun x => by injection x with _ y _; omega)]; exact h.kid n i hn hi, fun n hn => by rw [World.cell?_setCell_other w _ _ _ (fun x => by injection x with _ y _; omega)]; exact h.refs n hn⟩

/-- What a call leaves of the reference's index. -/
def RIdxRet (w : World) (g : Nat) (X : IdxM) (v : Value) (e : Ending) (w' : World) : Prop := e = .returned v ∧ RIdxAt w' g X ∧ Turn [g] w w'

set_option maxRecDepth 100000 in
theorem refShare_any (w : World) (g : Nat) (X : IdxM) (root : Nat) (h : RIdxAt w g X) (hr : root = 0 ∨ hasNod X.N root = true) (hK : (X.N root).refs ≤ 1000000000) :
    Calls Tryz.prog 64 #[.pointer (some ⟨g, 0, none⟩), .int .i64 root] w (RIdxRet w g (X.refN root) (.int .i64 root)) := by
  by_cases h0 : root = 0
  · subst h0
    have e : X.refN 0 = X := by
      unfold IdxM.refN incN
      rw [if_neg (by simp [hasNod])]
    rw [e]
    clear e hr
    show Calls _ _ #[_, .int .i64 0] _ _
    go_enter Tryz.func64, Tryz.ntmps64
    go_wp2
    go_ret
    exact ⟨rfl, h, Turn.refl _ _⟩
  · obtain hh | hh := hr
    · exact absurd hh h0
    obtain ⟨n1, n2, n3⟩ := (hasNod_iff _ _).1 hh
    have e : X.refN root = { X with N := setNod X.N root { X.N root with refs := (X.N root).refs + 1 } } := by
      unfold IdxM.refN incN
      rw [if_pos hh]
    rw [e]
    have hr24 : root ≤ 24 := by omega
    have c1 := h.nods.refs root hr24
    have i1 : (0 : Int) < (root : Int) := by omega
    have i2 : (0 : Int) ≤ (root : Int) := by omega
    have i3 : (root : Int) < 25 := by omega
    have i5 : 0 < root := by omega
    obtain ⟨r, hr⟩ : ∃ r, (X.N root).refs + 1 = r := ⟨_, rfl⟩
    have i4 : IntKind.i64.wrap (((X.N root).refs : Int) + 1) = (r : Int) := by rw [IntWalk.i64_in _ (by omega)]; omega
    rw [hr]
    clear e hh hr
    go_enter Tryz.func64, Tryz.ntmps64
    go_wp2
    refine region_tail 12 (by kernel_rfl) (by kernel_rfl) ?_
    intro w2 hw2
    have h2 : RIdxAt w2 g X := by rw [hw2]; exact h.keep rfl
    have t2 : Turn [g] w w2 := (Turn.refl _ _).of_drew hw2
    have c2 := h2.nods.refs root hr24
    have f2 := h2.blks.free (82 + root * 5 + 4)
    have h3 : RIdxAt (w2.setCell ⟨g, 82 + root * 5 + 4, none⟩ (.int .i64 r)) g { X with N := setNod X.N root { X.N root with refs := r } } := ⟨h2.blks.setPast (by omega) _, h2.nods.setRefs hr24 _⟩
    have t3 := t2.cell (p := ⟨g, 82 + root * 5 + 4, none⟩) (by simp) (.int .i64 r)
    clear hw2 c1
    simp only [List.take_succ_cons, List.take_zero, List.drop_succ_cons, List.drop_zero]
    repeat still_step
    refine wpStill_nil ?_
    generalize hw3 : w2.setCell ⟨g, 82 + root * 5 + 4, none⟩ (.int .i64 r) = w3 at h3 t3
    go_wp2
    go_ret
    exact ⟨rfl, h3, t3⟩

/-- A whole node is stored anew. -/
def Nod.setKid (n : Nod) : Nat → Nat → Nod
  | 0, v => { n with k0 := v }
  | 1, v => { n with k1 := v }
  | 2, v => { n with k2 := v }
  | _, v => { n with k3 := v }
theorem setKid_kid (n : Nod) {i : Nat} (hi : i < 4) (v j : Nat) (hj : j < 4) : (n.setKid i v).kid j = if j = i then v else n.kid j := by
  match i, hi with
  | 0, _ => match j, hj with
    | 0, _ => rfl
    | 1, _ => rfl
    | 2, _ => rfl
    | 3, _ => rfl
  | 1, _ => match j, hj with
    | 0, _ => rfl
    | 1, _ => rfl
    | 2, _ => rfl
    | 3, _ => rfl
  | 2, _ => match j, hj with
    | 0, _ => rfl
    | 1, _ => rfl
    | 2, _ => rfl
    | 3, _ => rfl
  | 3, _ => match j, hj with
    | 0, _ => rfl
    | 1, _ => rfl
    | 2, _ => rfl
    | 3, _ => rfl
theorem setKid_refs (n : Nod) (i v : Nat) : (n.setKid i v).refs = n.refs := by unfold Nod.setKid; split <;> rfl
theorem NodsAt.setKid {w : World} {g : Nat} {N : NodM} (h : NodsAt w g N) {n i : Nat} (hn : n ≤ 24) (hi : i < 4) (v : Nat) : NodsAt (w.setCell ⟨g, 82 + n * 5 + i, none⟩ (.int .i64 v)) g (setNod N n ((N n).setKid i v)) := by
  refine ⟨fun m j hm hj => ?_, fun m hm => ?_⟩
  · by_cases e : m = n ∧ j = i
    · obtain ⟨rfl, rfl⟩ := e
      rw [World.cell?_setCell_same w _ _ (h.kid m j hm hj)]
      simp [setNod, setKid_kid _ hi v j hj]
    · rw [World.cell?_setCell_other w _ _ _ (fun x => by injection x with _ y _; exact e ⟨by omega, by omega⟩), h.kid m j hm hj]
      by_cases e2 : m = n
      · subst e2
        have hji : j ≠ i := fun x => e ⟨rfl, x⟩
        simp [setNod, setKid_kid _ hi v j hj, hji]
      · simp [setNod, e2]
  · rw [World.cell?_setCell_other w _ _ _ (fun x => by injection x with _ y _; omega), h.refs m hm]
    by_cases e : m = n
    · subst e; simp [setNod, setKid_refs]
    · simp [setNod, e]
theorem setNod_twice (N : NodM) (n : Nat) (a b : Nod) : setNod (setNod N n a) n b = setNod N n b := by funext i; unfold setNod; split <;> rfl
theorem setNod_at (N : NodM) (n : Nat) (a : Nod) : setNod N n a n = a := by simp [setNod]
/-- The world with a whole node stored. -/
def nodStored (w : World) (g o a b c d r : Nat) : World :=
  ((((w.setCell ⟨g, o, none⟩ (.int .i64 a)).setCell ⟨g, o + 1, none⟩ (.int .i64 b)).setCell ⟨g, o + 2, none⟩ (.int .i64 c)).setCell ⟨g, o + 3, none⟩ (.int .i64 d)).setCell ⟨g, o + 4, none⟩ (.int .i64 r)
theorem NodsAt.set {w : World} {g : Nat} {N : NodM} (h : NodsAt w g N) {n : Nat} (hn : n ≤ 24) (a b c d r : Nat) : NodsAt (nodStored w g (82 + n * 5) a b c d r) g (setNod N n ⟨a, b, c, d, r, (N n).top⟩) := by
  have h1 := ((((h.setKid hn (show 0 < 4 by omega) a).setKid hn (show 1 < 4 by omega) b).setKid hn (show 2 < 4 by omega) c).setKid hn (show 3 < 4 by omega) d).setRefs hn r
  simp only [setNod_twice, setNod_at] at h1
  exact h1
/-- The reference has no field 'top': any will do. -/
theorem NodsAt.topped {w : World} {g : Nat} {N : NodM} {n : Nat} {a b c d r : Nat} {t : Bool} (h : NodsAt w g (setNod N n ⟨a, b, c, d, r, t⟩)) (t' : Bool) : NodsAt w g (setNod N n ⟨a, b, c, d, r, t'⟩) := by
  refine ⟨fun m i hm hi => ?_, fun m hm => ?_⟩
  · rw [h.kid m i hm hi]
    by_cases e : m = n
    · subst e; simp [setNod, Nod.kid]
    · simp [setNod, e]
  · rw [h.refs m hm]
    by_cases e : m = n
    · subst e; simp [setNod]
    · simp [setNod, e]
theorem blks_nodStored {w : World} {g : Nat} {p : PoolM} (h : BlksAt w g p) {o : Nat} (ho : 82 ≤ o) (a b c d r : Nat) : BlksAt (nodStored w g o a b c d r) g p :=
  ((((h.setPast ho _).setPast (by omega) _).setPast (by omega) _).setPast (by omega) _).setPast (by omega) _
theorem turn_nodStored {w w' : World} {g : Nat} (t : Turn [g] w w') (o a b c d r : Nat) : Turn [g] w (nodStored w' g o a b c d r) :=
  ((((t.cell (p := ⟨g, o, none⟩) (by simp) _).cell (p := ⟨g, o + 1, none⟩) (by simp) _).cell (p := ⟨g, o + 2, none⟩) (by simp) _).cell (p := ⟨g, o + 3, none⟩) (by simp) _).cell (p := ⟨g, o + 4, none⟩) (by simp) _
end Go.Proofs.YtlgahdabhnhjgaaGreatDoor
