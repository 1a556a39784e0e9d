/- PoolSays: the contracts of both sides, their answers named. -/
import Derived.Test.YtmgnikkbakpbdaaClone
import Derived.Test.YtmgnikkbakpbdaaZeroI
namespace Go.Proofs.Ytmgnikkbakpbdaa
open Go.RowKit Go.Maps

theorem putErr_nonneg (p : PoolM) (data : ByteArray) : 0 ≤ putErr p data := by
  unfold putErr
  split
  · omega
  · split <;> omega
theorem refErr_nonneg (p : PoolM) (id : Int) : 0 ≤ refErr p id := by unfold refErr; split <;> omega

theorem putS (g b K : Nat) (w : World) (p : PoolM) (data : ByteArray) (n : Nat) (ne : Int) (q : PoolM) (h : PoolAt w g b K p) (hdata : data.size ≤ 9223372036854775807) (hn : putId p data = n) (hne : putErr p data = ne) (hq : putP p data = q) :
    Calls Try.prog 9 #[.pointer (some ⟨g, 0, none⟩), .string data] w fun e w' => e = .returned (.tuple #[.int .i64 n, errV ne]) ∧ PoolAt w' g b (K + 1) q ∧ Turn [b] w w' := by
  subst hn hne hq; exact poolPut_any g b K w p data h hdata
theorem refPutS (g : Nat) (w : World) (p : PoolM) (data : ByteArray) (n : Nat) (ne : Int) (q : PoolM) (h : BlksAt w g p) (hdata : data.size ≤ 9223372036854775807) (hn : putId p data = n) (hne : putErr p data = ne) (hq : putP p data = q) :
    Calls Try.prog 10 #[.pointer (some ⟨g, 0, none⟩), .string data] w fun e w' => e = .returned (.tuple #[.int .i64 n, .int .i64 ne]) ∧ BlksAt w' g q ∧ Turn [g] w w' := by
  subst hn hne hq; exact (refPut_any g w p data h hdata).mono fun _ _ ⟨he, h1, h2, _⟩ => ⟨he, h1, h2⟩
theorem addS (g b K : Nat) (w : World) (p : PoolM) (id ne : Int) (q : PoolM) (h : PoolAt w g b K p) (hid : -9223372036854775808 ≤ id ∧ id ≤ 9223372036854775807) (hK : K ≤ 1000000000) (hne : refErr p id = ne) (hq : addRef p id = q) :
    Calls Try.prog 12 #[.pointer (some ⟨g, 0, none⟩), .int .i64 id] w fun e w' => e = .returned (errV ne) ∧ PoolAt w' g b (K + 1) q ∧ Turn [b] w w' := by
  subst hne hq; exact poolRef_any g b K w p id h hid hK
theorem subS (g b K : Nat) (w : World) (p : PoolM) (id ne : Int) (q : PoolM) (h : PoolAt w g b K p) (hid : -9223372036854775808 ≤ id ∧ id ≤ 9223372036854775807) (hK : K ≤ 1000000000) (hne : refErr p id = ne) (hq : subRef p id = q) :
    Calls Try.prog 14 #[.pointer (some ⟨g, 0, none⟩), .int .i64 id] w fun e w' => e = .returned (errV ne) ∧ PoolAt w' g b K q ∧ Turn [b] w w' := by
  subst hne hq; exact poolUnref_any g b K w p id h hid hK
theorem refAddP (g : Nat) (w : World) (p : PoolM) (id ne : Int) (q : PoolM) (h : BlksAt w g p) (hK : ∀ n, (p n).refs ≤ 1000000000) (hne : refErr p id = ne) (hq : addRef p id = q) :
    Calls Try.prog 13 #[.pointer (some ⟨g, 0, none⟩), .int .i64 id, .int .i64 1] w fun e w' => e = .returned (.int .i64 ne) ∧ BlksAt w' g q ∧ Turn [g] w w' ∧ Past g w w' := by
  subst hne hq
  cases hh : hasBlk p id with
  | false =>
    rw [show refErr p id = 5 by unfold refErr; rw [hh]; rfl, show addRef p id = p by unfold addRef; rw [hh]; rfl]
    exact (refRef_no g w p id 1 h hh).mono fun _ w' ⟨he, hw⟩ => ⟨he, hw ▸ h, hw ▸ Turn.refl _ _, hw ▸ Past.refl _ _⟩
  | true =>
    obtain ⟨h1, h2, h3⟩ := (hasBlk_iff p id).1 hh
    obtain ⟨n, rfl⟩ := Int.eq_ofNat_of_zero_le (show 0 ≤ id by omega)
    rw [show refErr p n = 0 by unfold refErr; rw [hh]; rfl, show addRef p n = setBlk p n (if (p n).refs + 1 = 0 then noBlk else ⟨(p n).data, (p n).refs + 1⟩) by unfold addRef; rw [if_pos hh, if_neg (by omega)]; rfl]
    exact (refRef_yes g w p n ((p n).refs + 1) 1 h hh (by omega) (by omega) (hK n)).mono fun _ _ ⟨he, h1, h2, h3⟩ => ⟨he, h1, h2, h3⟩
theorem refSubP (g : Nat) (w : World) (p : PoolM) (id ne : Int) (q : PoolM) (h : BlksAt w g p) (hK : ∀ n, (p n).refs ≤ 1000000000) (hne : refErr p id = ne) (hq : subRef p id = q) :
    Calls Try.prog 13 #[.pointer (some ⟨g, 0, none⟩), .int .i64 id, .int .i64 (-1)] w fun e w' => e = .returned (.int .i64 ne) ∧ BlksAt w' g q ∧ Turn [g] w w' ∧ Past g w w' := by
  subst hne hq
  cases hh : hasBlk p id with
  | false =>
    rw [show refErr p id = 5 by unfold refErr; rw [hh]; rfl, show subRef p id = p by unfold subRef; rw [hh]; rfl]
    exact (refRef_no g w p id (-1) h hh).mono fun _ w' ⟨he, hw⟩ => ⟨he, hw ▸ h, hw ▸ Turn.refl _ _, hw ▸ Past.refl _ _⟩
  | true =>
    obtain ⟨h1, h2, h3⟩ := (hasBlk_iff p id).1 hh
    obtain ⟨n, rfl⟩ := Int.eq_ofNat_of_zero_le (show 0 ≤ id by omega)
    rw [Int.toNat_natCast] at h3
    have e : (if (p n).refs = 1 then noBlk else (⟨(p n).data, (p n).refs - 1⟩ : Blk)) = if (p n).refs - 1 = 0 then noBlk else ⟨(p n).data, (p n).refs - 1⟩ := by
      by_cases h : (p n).refs = 1
      · rw [if_pos h, if_pos (by omega)]
      · rw [if_neg h, if_neg (by omega)]
    rw [show refErr p n = 0 by unfold refErr; rw [hh]; rfl, show subRef p n = setBlk p n (if (p n).refs - 1 = 0 then noBlk else ⟨(p n).data, (p n).refs - 1⟩) by unfold subRef; rw [if_pos hh, Int.toNat_natCast, e]]
    exact (refRef_yes g w p n ((p n).refs - 1) (-1) h hh (by omega) (by omega) (hK n)).mono fun _ _ ⟨he, h1, h2, h3⟩ => ⟨he, h1, h2, h3⟩
theorem refAddS (g : Nat) (w : World) (p : PoolM) (id ne : Int) (q : PoolM) (h : BlksAt w g p) (hK : ∀ n, (p n).refs ≤ 1000000000) (hne : refErr p id = ne) (hq : addRef p id = q) :
    Calls Try.prog 13 #[.pointer (some ⟨g, 0, none⟩), .int .i64 id, .int .i64 1] w fun e w' => e = .returned (.int .i64 ne) ∧ BlksAt w' g q ∧ Turn [g] w w' :=
  (refAddP g w p id ne q h hK hne hq).mono fun _ _ ⟨he, h1, h2, _⟩ => ⟨he, h1, h2⟩
theorem refSubS (g : Nat) (w : World) (p : PoolM) (id ne : Int) (q : PoolM) (h : BlksAt w g p) (hK : ∀ n, (p n).refs ≤ 1000000000) (hne : refErr p id = ne) (hq : subRef p id = q) :
    Calls Try.prog 13 #[.pointer (some ⟨g, 0, none⟩), .int .i64 id, .int .i64 (-1)] w fun e w' => e = .returned (.int .i64 ne) ∧ BlksAt w' g q ∧ Turn [g] w w' :=
  (refSubP g w p id ne q h hK hne hq).mono fun _ _ ⟨he, h1, h2, _⟩ => ⟨he, h1, h2⟩
theorem getS (g b K : Nat) (w : World) (p : PoolM) (id ne : Int) (s : ByteArray) (h : PoolAt w g b K p) (hid : -9223372036854775808 ≤ id ∧ id ≤ 9223372036854775807) (hne : refErr p id = ne) (hs : getText p id = s) :
    Calls Try.prog 16 #[.pointer (some ⟨g, 0, none⟩), .int .i64 id] w fun e w' => e = .returned (.tuple #[.string s, errV ne]) ∧ Below w.heap.size w w' := by
  subst hne hs; exact poolGet_any g b K w p id h hid


/-- Numbers, as a slice that lies in new memory. -/
def RetS (w : World) (l : List Int) (n : Nat) (e : Ending) (w' : World) : Prop := ∃ A c, e = .returned (.slice A n c) ∧ IntsAt w' A l ∧ Below w.heap.size w w'
theorem retS_of {w : World} {l : List Int} {n : Nat} (hn : l.length = n) {e : Ending} {w' : World} (h : RetInts w l e w') : RetS w l n e w' := by
  obtain ⟨v, rfl, hO, hb⟩ := h
  obtain ⟨A, c, rfl, hA, _⟩ := hO.at_
  subst hn
  exact ⟨A, c, rfl, hA, hb⟩
theorem numbersS (g b K : Nat) (w : World) (p : PoolM) (l : List Int) (n : Nat) (h : PoolAt w g b K p) (hl : numsOf p = l) (hn : l.length = n) : Calls Try.prog 19 #[.pointer (some ⟨g, 0, none⟩)] w (RetS w l n) := by
  subst hl; exact (poolNumbers_any g b K w p h).mono fun _ _ h => retS_of hn h
theorem blocksS (g : Nat) (w : World) (p : PoolM) (l : List Int) (n : Nat) (h : BlksAt w g p) (hl : numsOf p = l) (hn : l.length = n) : Calls Try.prog 20 #[.pointer (some ⟨g, 0, none⟩)] w (RetS w l n) := by
  subst hl; exact (refBlocks_any g w p h).mono fun _ _ h => retS_of hn h
theorem sameS (A A' : Option Addr) (c c' n : Nat) (l : List Int) (w : World) (hA : IntsAt w A l) (hA' : IntsAt w A' l) (hl : l.length = n) (hn : n ≤ 1000) :
    Calls Try.prog 18 #[.slice A n c, .slice A' n c'] w fun e w' => e = .returned (.bool true) ∧ Below w.heap.size w w' := by
  subst hl
  have := sameNumbers_any A A' c c' l l w hA hA' hn
  simpa using this

theorem Turn.cellKept {bs : List Nat} {a b : World} (h : Turn bs a b) {x i : Nat} {v : Value} (hc : a.cell? ⟨x, i, none⟩ = some v) (hn : x ∉ bs) : b.cell? ⟨x, i, none⟩ = some v := by
  rw [World.cell?_of_block (w := a) (a := ⟨x, i, none⟩) (h.block x (World.block_lt_of_cell? a ⟨x, i, none⟩ hc) hn)]; exact hc
theorem below_cellKept {a b : World} (h : Below a.heap.size a b) {x i : Nat} {v : Value} (hc : a.cell? ⟨x, i, none⟩ = some v) : b.cell? ⟨x, i, none⟩ = some v := by
  rw [World.cell?_of_block (w := a) (a := ⟨x, i, none⟩) (h.block x (World.block_lt_of_cell? a ⟨x, i, none⟩ hc))]; exact hc

theorem firstFreeS : firstFree 40 (usedBlk emptyPool) = some 1 := by decide
def oneX : PoolM := setBlk emptyPool 1 ⟨⟨#[120]⟩, 1⟩
theorem putX (g b K : Nat) (w : World) (h : PoolAt w g b K emptyPool) :
    Calls Try.prog 9 #[.pointer (some ⟨g, 0, none⟩), .string ⟨#[120]⟩] w fun e w' => e = .returned (.tuple #[.int .i64 1, .nilIface]) ∧ PoolAt w' g b (K + 1) oneX ∧ Turn [b] w w' := by
  have he : putErr emptyPool ⟨#[120]⟩ = 0 := by unfold putErr; rw [firstFreeS]; rfl
  have hi : putId emptyPool ⟨#[120]⟩ = 1 := by unfold putId; rw [he, firstFreeS]; rfl
  have hp : putP emptyPool ⟨#[120]⟩ = oneX := by unfold putP; rw [he, hi]; rfl
  exact putS g b K w emptyPool ⟨#[120]⟩ 1 0 oneX h (by decide) hi he hp
theorem getX (g b K : Nat) (w : World) (h : PoolAt w g b K oneX) :
    Calls Try.prog 16 #[.pointer (some ⟨g, 0, none⟩), .int .i64 1] w fun e w' => e = .returned (.tuple #[.string ⟨#[120]⟩, .nilIface]) ∧ Below w.heap.size w w' :=
  getS g b K w oneX 1 0 _ h (by omega) rfl rfl
end Go.Proofs.Ytmgnikkbakpbdaa
