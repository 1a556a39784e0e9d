/- LightChanges, LightActs: they answer, and change nothing. -/
import Derived.Test.YtlgahdabhnhjgaaGreatDoorZqPool
import Derived.Shelf.SlMaps.Clone
import Derived.Shelf.SlGeneric
import Derived.Test.YtlgahdabhnhjgaaGreatDoorZqEq4
import Derived.Test.YtlgahdabhnhjgaaGreatDoorZqIdx4
import Derived.Test.YtlgahdabhnhjgaaGreatDoorZqNums
import Derived.Test.YtlgahdabhnhjgaaGreatDoorRows
import Derived.ProofKit
import Derived.OpenShut
import Derived.ShutString
import Derived.ChangeOld
import Derived.Deep.SlicePairs
/- maps.Clone, pool.Copy. -/
namespace Go.Proofs.YtlgahdabhnhjgaaGreatDoor
open Go.RowKit Go.Maps

def Tryz.cloneB_ren : Go.Shelf.Ren := ⟨fun | 5 => 87 | 7 => 88 | n => n, fun | 23 => 95 | 25 => 3 | 3 => 77 | 4 => 4 | 20 => 20 | n => n, fun | n => n⟩
theorem Tryz.cloneB : Go.Proofs.SlLaysW.n5 Tryz.prog Tryz.cloneB_ren := {
  mixed := by kernel_rfl
  f5 := ⟨Tryz.f87.name, by decide, Tryz.func87.trans (congrArg some (by kernel_rfl))⟩
  f7 := Tryz.func88.trans (congrArg some (by kernel_rfl))
  t4 := Tryz.underlying4
  a4 := Tryz.isAgg4
  z4 := Tryz.sizeOf4
  v4 := Tryz.zeroValue4
  t20 := Tryz.underlying20
  a20 := Tryz.isAgg20
  z20 := Tryz.sizeOf20
  v20 := Tryz.zeroValue20
  t23 := Tryz.underlying95
  a23 := Tryz.isAgg95
  z23 := Tryz.sizeOf95
  v23 := Tryz.zeroValue95 }

theorem cloneB_any (b N : Nat) (f : Int → Option Value) (w : World) (h : MapOf w b N f) :
    Calls Tryz.prog 87 #[.map (some b)] w fun e w' => e = .returned (.map (some w.heap.size)) ∧ MapOf w' w.heap.size N f ∧ Below w.heap.size w w' := by
  obtain ⟨D, hD, r⟩ := h
  refine (AnyW.maps_Clone_owns Tryz.cloneB 3 anyElem b _ D w hD).mono ?_
  rintro e w' ⟨rfl, h1, _, hb⟩
  exact ⟨rfl, ⟨D, h1, r⟩, hb⟩

theorem poolCopy_any (g b K : Nat) (w : World) (p : PoolM) (h : PoolAt w g b K p) :
    Calls Tryz.prog 56 #[.pointer (some ⟨g, 0, none⟩)] w fun e w' => ∃ g' b', e = .returned (.pointer (some ⟨g', 0, none⟩)) ∧ PoolAt w' g' b' K p ∧ w.heap.size ≤ g' ∧ w.heap.size ≤ b' ∧ Below w.heap.size w w' := by
  have c0 := h.cell
  go_enter Tryz.func56, Tryz.ntmps56
  go_wp2_with fail
  ((with_reducible refine (cloneB_any b 40 (poolMap p) _ h.map).mono ?_); rintro e w1 ⟨rfl, h1, hb1⟩)
  go_wp2
  go_ret
  have b2 := (Below.refl w1.heap.size w1).alloc (Nat.le_refl _) (.cells #[.map (some w.heap.size)] 97)
  exact ⟨w1.heap.size, w.heap.size, rfl, ⟨heap_alloc_new w1 _, h1.keep (b2.block _ h1.lt), h.ok⟩, hb1.size, Nat.le_refl _, belowThen hb1 b2⟩
end Go.Proofs.YtlgahdabhnhjgaaGreatDoor

/- Package index: Copy. -/
namespace Go.Proofs.YtlgahdabhnhjgaaGreatDoor
open Go.RowKit Go.Maps

def Tryz.cloneN_ren : Go.Shelf.Ren := ⟨fun | 5 => 57 | 7 => 88 | n => n, fun | 23 => 64 | 25 => 3 | 3 => 81 | 4 => 4 | 20 => 20 | n => n, fun | n => n⟩
theorem Tryz.cloneN : Go.Proofs.SlLaysW.n5 Tryz.prog Tryz.cloneN_ren := {
  mixed := by kernel_rfl
  f5 := ⟨Tryz.f57.name, by decide, Tryz.func57.trans (congrArg some (by kernel_rfl))⟩
  f7 := Tryz.func88.trans (congrArg some (by kernel_rfl))
  t4 := Tryz.underlying4
  a4 := Tryz.isAgg4
  z4 := Tryz.sizeOf4
  v4 := Tryz.zeroValue4
  t20 := Tryz.underlying20
  a20 := Tryz.isAgg20
  z20 := Tryz.sizeOf20
  v20 := Tryz.zeroValue20
  t23 := Tryz.underlying64
  a23 := Tryz.isAgg64
  z23 := Tryz.sizeOf64
  v23 := Tryz.zeroValue64 }

theorem cloneN_any (b N : Nat) (f : Int → Option Value) (w : World) (h : MapOf w b N f) :
    Calls Tryz.prog 57 #[.map (some b)] w fun e w' => e = .returned (.map (some w.heap.size)) ∧ MapOf w' w.heap.size N f ∧ Below w.heap.size w w' := by
  obtain ⟨D, hD, r⟩ := h
  refine (AnyW.maps_Clone_owns Tryz.cloneN 3 anyElem b _ D w hD).mono ?_
  rintro e w' ⟨rfl, h1, _, hb⟩
  exact ⟨rfl, ⟨D, h1, r⟩, hb⟩

theorem idxCopy_any (w : World) (x gp bp bn K : Nat) (X : IdxM) (h : IdxAt w x gp bp bn K X) :
    Calls Tryz.prog 31 #[.pointer (some ⟨x, 0, none⟩)] w fun e w' => ∃ x' gp' bp' bn', e = .returned (.pointer (some ⟨x', 0, none⟩)) ∧ IdxAt w' x' gp' bp' bn' K X ∧ w.heap.size ≤ x' ∧ w.heap.size ≤ gp' ∧ w.heap.size ≤ bp' ∧ w.heap.size ≤ bn' ∧ Below w.heap.size w w' := by
  have c0 := h.cell0
  have c1 := h.cell1
  go_enter Tryz.func31, Tryz.ntmps31
  go_wp2_with fail
  have hlt := h.lt
  have HP := Lib.hid (fun w' (hb : Below w.heap.size w w') => poolCopy_any gp bp K w' X.P (h.pool.below hb))
  have HN := Lib.hid (fun w' (hb : Below w.heap.size w w') => cloneN_any bn 24 (nodMap X.N) w' (h.map.keep (hb.block bn h.ltn)))
  have HK := Lib.hid (fun w' (hb : Below w.heap.size w w') => show w'.cell? ⟨x, 0, none⟩ = some (.pointer (some ⟨gp, 0, none⟩)) ∧ w'.cell? ⟨x, 1, none⟩ = some (.map (some bn)) from ⟨by rw [hb.cell (p := ⟨x, 0, none⟩) hlt]; exact c0, by rw [hb.cell (p := ⟨x, 1, none⟩) hlt]; exact c1⟩)
  have HOK := Lib.hid h.ok
  clear h
  go_region_held3 (fun w' => w'.cell? ⟨x, 0, none⟩ = some (.pointer (some ⟨gp, 0, none⟩)) ∧ w'.cell? ⟨x, 1, none⟩ = some (.map (some bn))) (first | exact ⟨c0, c1⟩ | exact HK.out _ (Below.trans (b := w.drew) (Below.refl _ _).drew hb1) | exact HK.out _ (belowThen (Below.trans (b := w.drew) (Below.refl _ _).drew hb1) hb2) | exact HK.out _ (belowThen (belowThen (Below.trans (b := w.drew) (Below.refl _ _).drew hb1) hb2) ((Below.refl _ _).alloc (Nat.le_refl _) _)))
    (first
      | (go_at_call 56; refine (HP.out _ (Below.refl _ _).drew).mono ?_; rintro e w1 ⟨g1, b1, rfl, hP1, hg1, hbb1, hb1⟩)
      | (go_at_call 57; refine (HN.out _ (Below.trans (b := w.drew) (Below.refl _ _).drew hb1)).mono ?_; rintro e w2 ⟨rfl, hM2, hb2⟩))
  all_goals
    have hb01 : Below w.heap.size w w1 := Below.trans (b := w.drew) (Below.refl w.heap.size w).drew hb1
    have hs1 : w.heap.size ≤ w1.heap.size := hb01.size
    have hs2 : w1.heap.size ≤ w2.heap.size := hb2.size
    have hbw : Below w.heap.size w w2 := belowThen hb01 hb2
    have b3 := (Below.refl w2.heap.size w2).alloc (Nat.le_refl _) (.cells #[.pointer (some ⟨g1, 0, none⟩), .map (some w1.heap.size)] 66)
    have hlb := hP1.ltb
    go_wp2
    go_ret
    exact ⟨w2.heap.size, g1, b1, w1.heap.size, rfl, ⟨heap_alloc_new w2 _, (hP1.below hb2).below b3, hM2.keep (b3.block _ hM2.lt), by omega, HOK.out⟩, by omega, hg1, hbb1, hs1, belowThen hbw b3⟩
end Go.Proofs.YtlgahdabhnhjgaaGreatDoor

/- Package index: Share. -/
namespace Go.Proofs.YtlgahdabhnhjgaaGreatDoor
open Go.RowKit Go.Maps

theorem idxShare_any (w : World) (x gp bp bn K : Nat) (X : IdxM) (root : Nat) (h : IdxAt w x gp bp bn K X) (hr : root ≤ 1000) (hK : K ≤ 1000000000) :
    Calls Tryz.prog 62 #[.pointer (some ⟨x, 0, none⟩), .int .i64 root] w (IdxRet w x gp bp bn (K + 1) (X.refN root) (.int .i64 root)) := by
  go_enter Tryz.func62, Tryz.ntmps62
  go_wp2_with fail
  ((with_reducible refine (refNode_any _ x gp bp bn K X root h hr hK).mono ?_); rintro e w1 ⟨rfl, h1, t1⟩)
  go_wp2
  go_ret
  exact ⟨rfl, h1, t1⟩
end Go.Proofs.YtlgahdabhnhjgaaGreatDoor

/- Package index: Diff. -/
namespace Go.Proofs.YtlgahdabhnhjgaaGreatDoor
open Go.RowKit Go.Maps

/-- Do two roots differ at a place? -/
def differ (X : IdxM) (a b i : Nat) : Bool := !((X.get a i).toList == (X.get b i).toList)
/-- The places below n at which they differ. -/
def diffUp (X : IdxM) (a b n : Nat) : List Int := ((List.range n).filter (differ X a b)).map fun i => ((i : Nat) : Int)
theorem diffUp_succ (X : IdxM) (a b n : Nat) : diffUp X a b (n + 1) = if differ X a b n = true then diffUp X a b n ++ [(n : Int)] else diffUp X a b n := by
  unfold diffUp
  rw [List.range_succ, List.filter_append]
  cases h : differ X a b n <;> simp [h]
theorem diffUp_len (X : IdxM) (a b n : Nat) : (diffUp X a b n).length ≤ n := by
  unfold diffUp
  have := List.length_filter_le (differ X a b) (List.range n)
  simpa using this

theorem OwnInts.below {w w' : World} {base : Nat} {v : Value} {l : List Int} (h : OwnInts w base v l) (hb : Below w.heap.size w w') : OwnInts w' base v l := by
  obtain ⟨h1, h2⟩ := h
  refine ⟨h1, ?_⟩
  rcases h2 with h2 | ⟨g, cap, cur, hv, hg, hh, r⟩
  · exact .inl h2
  · exact .inr ⟨g, cap, cur, hv, hg, (hb.block g (Array.getElem?_eq_some_iff.1 hh).1).trans hh, r⟩

/-- Get, its answer named. -/
theorem idxGet_e (w : World) (x gp bp bn K : Nat) (X : IdxM) (root at_ : Nat) (s : ByteArray) (h : IdxAt w x gp bp bn K X) (hr : root ≤ 1000) (ha : at_ < 16) (hs : X.get root at_ = s) :
    Calls Tryz.prog 59 #[.pointer (some ⟨x, 0, none⟩), .int .i64 root, .int .i64 at_] w fun e w' => e = .returned (.string s) ∧ Below w.heap.size w w' := by
  subst hs; exact idxGet_any w x gp bp bn K X root at_ h hr ha

set_option maxHeartbeats 1000000 in
set_option maxRecDepth 100000 in
theorem idxDiff_any (w : World) (x gp bp bn K : Nat) (X : IdxM) (a b : Nat) (h : IdxAt w x gp bp bn K X) (ha : a ≤ 1000) (hb : b ≤ 1000) :
    Calls Tryz.prog 135 #[.pointer (some ⟨x, 0, none⟩), .int .i64 a, .int .i64 b] w (RetInts w (diffUp X a b 16)) := by
  obtain ⟨i0, hi, hz0, hz1, hz2⟩ := info_parts Tryz.infoInt
  go_enter Tryz.func135, Tryz.ntmps135
  go_wp2
  go_loopw [7, 9] (fun v i w' => ∃ k : Nat, k ≤ 16 ∧ i = .int .i64 k ∧ OwnInts w' w.heap.size v (diffUp X a b k) ∧ Below w.heap.size w w') (fun _ i _ => 16 - (intOf i).toNat)
  case atStart => exact ⟨0, Nat.zero_le _, rfl, World.ownsRow_nil _ _ _ _, Below.refl _ _⟩
  case round =>
    obtain ⟨k, hk, rfl, hO, hb0⟩ := hrel
    by_cases hlt : k < 16
    · obtain ⟨s, hs⟩ : ∃ s, X.get a k = s := ⟨_, rfl⟩
      obtain ⟨t, ht⟩ : ∃ t, X.get b k = t := ⟨_, rfl⟩
      have hdf : differ X a b k = !(s.toList == t.toList) := by unfold differ; rw [hs, ht]
      have HG1 := Lib.hid (fun w' (h' : IdxAt w' x gp bp bn K X) => idxGet_e w' x gp bp bn K X a k s h' ha hlt hs)
      have HG2 := Lib.hid (fun w' (h' : IdxAt w' x gp bp bn K X) => idxGet_e w' x gp bp bn K X b k t h' hb hlt ht)
      have hD := diffUp_succ X a b k
      have hlen := diffUp_len X a b k
      have h1 := h.below hb0
      have i1 : (k : Int) < 16 := by omega
      clear hs ht
      go_wp2_with fail
      ((with_reducible refine (HG1.out _ h1).mono ?_); rintro e w1 ⟨rfl, hb1⟩)
      have h2 := h1.below hb1
      have hO1 := hO.below hb1
      replace hb1 := belowThen hb0 hb1
      clear h1 hO hb0 HG1
      go_wp2_with fail
      ((with_reducible refine (HG2.out _ h2).mono ?_); rintro e w2 ⟨rfl, hb2⟩)
      have hO2 := hO1.below hb2
      replace hb2 := belowThen hb1 hb2
      have hsz := hb2.size
      clear h2 hO1 hb1 HG2
      cases hst : (s.toList == t.toList) with
      | true =>
        rw [hst] at hdf
        rw [hdf] at hD
        have HD := Lib.hid hD
        clear hD hdf
        go_wp2
        go_roundw
        case rel => exact ⟨k + 1, hlt, by go_num, by rw [HD.out]; exact hO2, hb2⟩
        case measure => simp [intOf]; omega
      | false =>
        rw [hst] at hdf
        rw [hdf] at hD
        have HD := Lib.hid hD
        clear hD hdf
        go_wp2_with (at_builtin; refine wpList_append_own _ rfl _ _ 61 rfl w.heap.size 3 i0 (.int .i64 0) 1 8 Tryz.underlying61 hi hz0 hz1 hz2 rfl (by decide) _ _ _ rfl (World.ownsRow.alloc hO2 _) ⟨w2.heap.size, 0, none⟩ 1 1 [.int .i64 (k : Int)] rfl rfl (cell_one_new _ _ _) (by simp [Value.oneCell']) (by unfold maxLen; omega) (by omega) (by simp; omega) ?_; intro v' w3 hown' hg3 hnil3)
        go_wp2
        go_roundw
        case rel => exact ⟨k + 1, hlt, by go_num, by rw [HD.out]; simp only [Bool.not_false, if_true]; unfold OwnInts; simpa using hown', (hb2.alloc hsz _).grown hg3 (by simp; omega) (fun j hj => (World.ownsRow.lt hO2 j hj).1)⟩
        case measure => simp [intOf]; omega
    · obtain rfl : k = 16 := by omega
      go_wp2
      go_ret
      exact ⟨_, rfl, hO, hb0⟩
end Go.Proofs.YtlgahdabhnhjgaaGreatDoor

/- Arguments opened: what all rows share. -/
namespace Go.Proofs.YtlgahdabhnhjgaaGreatDoor
open Go.ChangeShapes Go.WideShapes Go.ChangeAt Go.RowKit Go.Deep

theorem Tryz.own : ownKnob Tryz.prog.godebug = none := by kernel_rfl
theorem Tryz.laidOut : laidOutB Tryz.prog = true := by kernel_rfl
theorem Tryz.cellsInt : Tryz.prog.cellsOf 3 = 1 := by kernel_rfl

theorem addr_zero {w : World} {a : Addr} {v : Value} (h : w.cell? (a.add 0) = some v) : ∃ b off, a = ⟨b, off, none⟩ := by
  obtain ⟨b, off, spot⟩ := a
  have : spot = none := by simpa [Addr.add] using World.cell?_spot h
  exact ⟨b, off, by rw [this]⟩

theorem add_lit' (b off n : Nat) : (⟨b, off, none⟩ : Addr).add n = ⟨b, off + n, none⟩ := by
  unfold Addr.add; split
  · rename_i h; subst h; rfl
  · rfl

theorem wf_i64 {n : Int} (h : (Lit.int .i64 n).wf = true) : -9223372036854775808 ≤ n ∧ n ≤ 9223372036854775807 := by
  have := bounds_i64 h
  omega
theorem wf_u64 {n : Int} (h : (Lit.int .u64 n).wf = true) : 0 ≤ n ∧ n < 18446744073709551616 := by
  have := bounds_u64 h
  omega
end Go.Proofs.YtlgahdabhnhjgaaGreatDoor

/- Arguments that are slices of acts, opened to lists. -/
namespace Go.Proofs.YtlgahdabhnhjgaaGreatDoor
open Go.ChangeShapes Go.WideShapes Go.ChangeAt Go.RowKit Go.Deep

/-- An act; of its puts and changes: the slices. -/
structure ActM where
  kind : ByteArray
  s : ByteArray
  a : Int
  b : Int
  c : Int
  d : Int
  k : Int
  pA : Option Addr
  pL : Nat
  pC : Nat
  cA : Option Addr
  cL : Nat
  cC : Nat
instance : Inhabited ActM := ⟨⟨ByteArray.empty, ByteArray.empty, 0, 0, 0, 0, 0, none, 0, 0, none, 0, 0⟩⟩
def actArr (m : ActM) : Array Value := #[.string m.kind, .string m.s, .int .i64 m.a, .int .i64 m.b, .int .i64 m.c, .int .i64 m.d, .int .u64 m.k, .slice m.pA m.pL m.pC, .slice m.cA m.cL m.cC]
/-- The other numbers are numbers of 64 bits, too. -/
def Wide (m : ActM) : Prop := (-9223372036854775808 ≤ m.b ∧ m.b ≤ 9223372036854775807) ∧ (-9223372036854775808 ≤ m.c ∧ m.c ≤ 9223372036854775807) ∧ (-9223372036854775808 ≤ m.d ∧ m.d ≤ 9223372036854775807)
/-- Puts in memory, as far as they are asked for. -/
def PutsAt (w : World) (N : Nat) (A : Option Addr) (n : Nat) : Prop := n ≤ maxLen ∧ ∀ i, i < n → ∃ b off s, A = some ⟨b, off, none⟩ ∧ b < N ∧ w.cell? ⟨b, off + i * 2 + 1, none⟩ = some (.string s) ∧ s.size ≤ maxLen ∧ ∃ x : Int, w.cell? ⟨b, off + i * 2, none⟩ = some (.int .i64 x)
def ChangesAt (w : World) (N : Nat) (A : Option Addr) (n : Nat) : Prop := n ≤ maxLen ∧ ∀ i, i < n → ∃ b off s t, A = some ⟨b, off, none⟩ ∧ b < N ∧ w.cell? ⟨b, off + i * 3, none⟩ = some (.string s) ∧ w.cell? ⟨b, off + i * 3 + 1, none⟩ = some (.string t) ∧ s.size ≤ maxLen ∧ t.size ≤ maxLen ∧ ∃ q : Bool, w.cell? ⟨b, off + i * 3 + 2, none⟩ = some (.bool q)
def ActAt (w : World) (N : Nat) (b off : Nat) (m : ActM) : Prop := b < N ∧ (∀ j, j < 9 → w.cell? ⟨b, off + j, none⟩ = (actArr m)[j]?) ∧ PutsAt w N m.pA m.pL ∧ ChangesAt w N m.cA m.cL ∧ -9223372036854775808 ≤ m.a ∧ m.a ≤ 9223372036854775807 ∧ m.s.size ≤ maxLen ∧ 0 ≤ m.k ∧ m.k < 18446744073709551616 ∧ Wide m
def ActsAt (w : World) (N : Nat) (A : Option Addr) (l : List ActM) : Prop := l.length ≤ maxLen ∧ ∀ i, (hi : i < l.length) → ∃ b off, A = some ⟨b, off, none⟩ ∧ ActAt w N b (off + i * 9) l[i]

theorem PutsAt.up {w w' : World} {N M : Nat} {A : Option Addr} {n : Nat} (h : PutsAt w N A n) (hb : Below M w w') (hN : N ≤ M) (hN' : N ≤ w'.heap.size) : PutsAt w' w'.heap.size A n :=
  ⟨h.1, fun i hi => by
    obtain ⟨b, off, s, e, hlt, hc, hs, x, hx⟩ := h.2 i hi
    exact ⟨b, off, s, e, by omega, by rw [hb.cell (p := ⟨b, off + i * 2 + 1, none⟩) (show b < M by omega)]; exact hc, hs, x, by rw [hb.cell (p := ⟨b, off + i * 2, none⟩) (show b < M by omega)]; exact hx⟩⟩
theorem ChangesAt.up {w w' : World} {N M : Nat} {A : Option Addr} {n : Nat} (h : ChangesAt w N A n) (hb : Below M w w') (hN : N ≤ M) (hN' : N ≤ w'.heap.size) : ChangesAt w' w'.heap.size A n :=
  ⟨h.1, fun i hi => by
    obtain ⟨b, off, s, t, e, hlt, hc, hc', hs, ht, q, hq⟩ := h.2 i hi
    exact ⟨b, off, s, t, e, by omega, by rw [hb.cell (p := ⟨b, off + i * 3, none⟩) (show b < M by omega)]; exact hc, by rw [hb.cell (p := ⟨b, off + i * 3 + 1, none⟩) (show b < M by omega)]; exact hc', hs, ht, q, by rw [hb.cell (p := ⟨b, off + i * 3 + 2, none⟩) (show b < M by omega)]; exact hq⟩⟩

theorem Tryz.cellsStr : Tryz.prog.cellsOf 9 = 1 := by kernel_rfl
theorem Tryz.cellsAct : Tryz.prog.cellsOf 38 = 9 := by kernel_rfl
theorem Tryz.cellsChange : Tryz.prog.cellsOf 49 = 3 := by kernel_rfl
theorem Tryz.cellsPut : Tryz.prog.cellsOf 73 = 2 := by kernel_rfl
theorem Tryz.cellsPuts : Tryz.prog.cellsOf 36 = 1 := by kernel_rfl
theorem Tryz.cellsChanges : Tryz.prog.cellsOf 23 = 1 := by kernel_rfl
theorem Tryz.cellsBool : Tryz.prog.cellsOf 4 = 1 := by kernel_rfl
theorem Tryz.cellsU64 : Tryz.prog.cellsOf 35 = 1 := by kernel_rfl

section
variable {H : Type} {enc : TypeId × Value → H} {W : World} {base : Nat} {spare : Nat → Bool} {held : Bool}

theorem open_puts {fuel : Nat} {cs : List Value} {x : DataW H × List MemPlace} (h : DataW.trod enc Tryz.prog W base spare held fuel 36 cs = some x) : ∃ A n c, cs = [.slice A n c] ∧ PutsAt W W.heap.size A n := by
  rcases open_slice_pairs Tryz.underlying36 Tryz.underlying73 Tryz.cellsPut rfl rfl Tryz.cellsInt Tryz.cellsStr h with ⟨hcs, _⟩ | ⟨a, len, cap, m, n, V0, V1, D0, D1, P0, P1, hcs, _, hl, hm, hmm, _, hx⟩
  · exact ⟨none, 0, 0, hcs, by simp [maxLen], fun i hi => by omega⟩
  · have hlm : len ≤ m := by rw [hmm]; split <;> omega
    refine ⟨some a, len, cap, hcs, by omega, fun i hi => ?_⟩
    obtain ⟨h1, h2, h3, h4⟩ := hx i (by omega)
    obtain ⟨s, e1, _, hs⟩ := DataW.trod_string Tryz.underlying9 h4
    obtain ⟨x, e0, _, _⟩ := DataW.trod_int Tryz.underlying3 h3
    simp at e1 e0
    obtain ⟨b, off, rfl⟩ := addr_zero (by simpa using (hx 0 (by omega)).1)
    rw [add_lit', e1] at h2
    rw [add_lit', e0] at h1
    exact ⟨b, off, s, rfl, World.block_lt_of_cell? W _ h2, by rw [Nat.add_assoc]; exact h2, hs, x, h1⟩

set_option maxRecDepth 10000 in
theorem open_changes {fuel : Nat} {cs : List Value} {x : DataW H × List MemPlace} (h : DataW.trod enc Tryz.prog W base spare held fuel 23 cs = some x) : ∃ A n c, cs = [.slice A n c] ∧ ChangesAt W W.heap.size A n := by
  rcases open_slice Tryz.underlying23 h with ⟨hcs, _⟩ | ⟨a, len, cap, m, n, D, Pl, hcs, _, hl, hm, hmm, _, hx⟩
  · exact ⟨none, 0, 0, hcs, by simp [maxLen], fun i hi => by omega⟩
  · have hlm : len ≤ m := by rw [hmm]; split <;> omega
    rw [Tryz.cellsChange] at hx
    refine ⟨some a, len, cap, hcs, by omega, fun i hi => ?_⟩
    have hz : ∃ b off, a = ⟨b, off, none⟩ := by
      obtain ⟨cs', h1, _⟩ := hx 0 (by omega)
      obtain ⟨_, hlen, hcell⟩ := World.cells?_some h1
      have := hcell 0 (by omega)
      simp only [Nat.zero_mul] at this
      rw [add_add, Nat.add_zero] at this
      obtain ⟨v, hv⟩ : ∃ v, cs'[0]? = some v := ⟨_, List.getElem?_eq_getElem (by omega)⟩
      rw [hv] at this
      exact addr_zero this
    obtain ⟨b, off, rfl⟩ := hz
    obtain ⟨cs', h1, h2⟩ := hx i (by omega)
    obtain ⟨_, hlen, hcell⟩ := World.cells?_some h1
    obtain ⟨xs, k, _, _, _, hxl, hf⟩ := DataW.trod_struct Tryz.underlying49 h2
    have hxl : xs.length = 3 := hxl
    match xs, hxl, cs', hlen with
    | [y0, y1, y2], _, [v0, v1, v2], _ =>
      have g0 := hf 0 _ rfl
      have g1 := hf 1 _ rfl
      have g2 := hf 2 _ rfl
      simp [Tryz.cellsStr, Tryz.cellsBool] at g0 g1 g2
      obtain ⟨s, e0, _, hs⟩ := DataW.trod_string Tryz.underlying9 g0
      obtain ⟨t, e1, _, ht⟩ := DataW.trod_string Tryz.underlying9 g1
      obtain ⟨q, e2, _⟩ := DataW.trod_bool Tryz.underlying4 g2
      simp at e0 e1 e2
      have c0 := hcell 0 (by omega)
      have c1 := hcell 1 (by omega)
      have c2 := hcell 2 (by omega)
      rw [add_add, add_lit'] at c0 c1 c2
      simp [e0, e1, e2] at c0 c1 c2
      exact ⟨b, off, s, t, rfl, World.block_lt_of_cell? W _ c0, c0, by rw [Nat.add_assoc]; exact c1, hs, ht, q, by rw [Nat.add_assoc]; exact c2⟩

set_option maxRecDepth 10000 in
theorem open_acts {A : Option Addr} {len cap : Nat} {d : DataW H} {p : List MemPlace} (h : DataW.Trod enc Tryz.prog W base spare held 22 (.slice A len cap) d p) :
    ∃ l : List ActM, l.length = len ∧ ActsAt W W.heap.size A l ∧ True := by
  obtain ⟨fuel, hf⟩ := h
  rcases open_slice Tryz.underlying22 hf with ⟨hcs, _⟩ | ⟨a, len', cap', m, n, D, Pl, hcs, _, hl, hm, hmm, _, hx⟩
  · simp [Value.cells] at hcs
    obtain ⟨rfl, rfl, rfl⟩ := hcs
    exact ⟨[], rfl, ⟨by simp, fun i hi => by simp at hi⟩, trivial⟩
  · simp [Value.cells] at hcs
    obtain ⟨rfl, rfl, rfl⟩ := hcs
    have hlm : len ≤ m := by rw [hmm]; split <;> omega
    rw [Tryz.cellsAct] at hx
    have hz : 0 < len → ∃ b off, a = ⟨b, off, none⟩ := by
      intro h0
      obtain ⟨cs', h1, _⟩ := hx 0 (by omega)
      obtain ⟨_, hlen, hcell⟩ := World.cells?_some h1
      have := hcell 0 (by omega)
      simp only [Nat.zero_mul] at this
      rw [add_add, Nat.add_zero] at this
      obtain ⟨v, hv⟩ : ∃ v, cs'[0]? = some v := ⟨_, List.getElem?_eq_getElem (by omega)⟩
      rw [hv] at this
      exact addr_zero this
    have each : ∀ i, i < len → ∃ q : ActM, ∃ b off, a = ⟨b, off, none⟩ ∧ ActAt W W.heap.size b (off + i * 9) q := by
      intro i hi
      obtain ⟨b, off, rfl⟩ := hz (by omega)
      obtain ⟨cs', h1, h2⟩ := hx i (by omega)
      obtain ⟨_, hlen, hcell⟩ := World.cells?_some h1
      obtain ⟨xs, k, _, _, _, hxl, hf⟩ := DataW.trod_struct Tryz.underlying38 h2
      have hxl : xs.length = 9 := hxl
      match xs, hxl, cs', hlen with
      | [y0, y1, y2, y3, y4, y5, y6, y7, y8], _, [v0, v1, v2, v3, v4, v5, v6, v7, v8], _ =>
        have g0 := hf 0 _ rfl
        have g1 := hf 1 _ rfl
        have g2 := hf 2 _ rfl
        have g3 := hf 3 _ rfl
        have g4 := hf 4 _ rfl
        have g5 := hf 5 _ rfl
        have g6 := hf 6 _ rfl
        have g7 := hf 7 _ rfl
        have g8 := hf 8 _ rfl
        simp [Tryz.cellsStr, Tryz.cellsInt, Tryz.cellsU64, Tryz.cellsPuts, Tryz.cellsChanges] at g0 g1 g2 g3 g4 g5 g6 g7 g8
        obtain ⟨s0, e0, _, _⟩ := DataW.trod_string Tryz.underlying9 g0
        obtain ⟨s1, e1, _, hs1⟩ := DataW.trod_string Tryz.underlying9 g1
        obtain ⟨n2, e2, _, w2⟩ := DataW.trod_int Tryz.underlying3 g2
        obtain ⟨n3, e3, _, w3⟩ := DataW.trod_int Tryz.underlying3 g3
        obtain ⟨n4, e4, _, w4⟩ := DataW.trod_int Tryz.underlying3 g4
        obtain ⟨n5, e5, _, w5⟩ := DataW.trod_int Tryz.underlying3 g5
        obtain ⟨n6, e6, _, w6⟩ := DataW.trod_int Tryz.underlying35 g6
        obtain ⟨pA, pL, pC, e7, hp⟩ := open_puts g7
        obtain ⟨cA, cL, cC, e8, hc⟩ := open_changes g8
        simp at e0 e1 e2 e3 e4 e5 e6 e7 e8
        subst e0 e1 e2 e3 e4 e5 e6 e7 e8
        have hb : b < W.heap.size := by
          have c0 := hcell 0 (by omega)
          rw [add_add, add_lit'] at c0
          simp at c0
          exact World.block_lt_of_cell? W _ c0
        refine ⟨⟨s0, s1, n2, n3, n4, n5, n6, pA, pL, pC, cA, cL, cC⟩, b, off, rfl, hb, fun j hj => ?_, hp, hc, (wf_i64 w2).1, (wf_i64 w2).2, hs1, (wf_u64 w6).1, (wf_u64 w6).2, ⟨(wf_i64 w3).1, (wf_i64 w3).2⟩, ⟨(wf_i64 w4).1, (wf_i64 w4).2⟩, (wf_i64 w5).1, (wf_i64 w5).2⟩
        have := hcell j (by omega)
        rw [add_add, add_lit', ← Nat.add_assoc] at this
        rw [this]
        simp [actArr]
    obtain ⟨q, hq⟩ := choose_lt each
    refine ⟨(List.range len).map q, by simp, ⟨by simp; omega, fun i hi => ?_⟩, trivial⟩
    have hi' : i < len := by simpa using hi
    obtain ⟨b, off, rfl, hA⟩ := hq i hi'
    exact ⟨b, off, rfl, by simpa using hA⟩
end
end Go.Proofs.YtlgahdabhnhjgaaGreatDoor

/- LightChanges, LightActs: they answer, and change nothing. -/
namespace Go.Proofs.YtlgahdabhnhjgaaGreatDoor
open Go.RowKit

/-- A call that answers one of two, and leaves all memory that was. -/
def BoolRet (w : World) (p : Bool → Prop) (e : Ending) (w' : World) : Prop := ∃ r, e = .returned (.bool r) ∧ p r ∧ Below w.heap.size w w'

set_option maxHeartbeats 400000 in
theorem lightChanges_any (A : Option Addr) (n c : Nat) (most : Int) (w : World) (N : Nat) (hN : N ≤ w.heap.size) (hA : ChangesAt w N A n) :
    Calls Tryz.prog 8 #[.slice A n c, .int .i64 most] w (BoolRet w fun _ => True) := by
  obtain ⟨hm, hA⟩ := hA
  unfold maxLen at hm
  go_enter Tryz.func8, Tryz.ntmps8
  by_cases h0 : most < (n : Int)
  · go_wp2
    go_ret
    exact ⟨_, rfl, trivial, Below.refl _ _⟩
  · go_wp2
    go_loopw [5] (fun i w' => ∃ k : Nat, k ≤ n ∧ i = .int .i64 k ∧ Below w.heap.size w w') (fun i _ => n - (intOf i).toNat)
    case atStart => exact ⟨0, Nat.zero_le _, rfl, Below.refl _ _⟩
    case round =>
      obtain ⟨k, hk, rfl, hb⟩ := hrel
      by_cases hlt : k < n
      · obtain ⟨b, off, s, t, rfl, hbN, h1, h2, _⟩ := hA k hlt
        rw [← hb.cell (p := ⟨b, off + k * 3, none⟩) (show b < _ by omega)] at h1
        rw [← hb.cell (p := ⟨b, off + k * 3 + 1, none⟩) (show b < _ by omega)] at h2
        have i1 : (k : Int) < (n : Int) := by omega
        by_cases c1 : 20 < (s.size : Int)
        · go_wp2
          go_ret
          exact ⟨_, rfl, trivial, by first | exact hb | exact hb.drew | exact below_drewN hb _⟩
        · by_cases c2 : 60 < (t.size : Int)
          · go_wp2
            go_ret
            exact ⟨_, rfl, trivial, by first | exact hb | exact hb.drew | exact below_drewN hb _⟩
          · go_wp2
            go_roundw
            case rel => exact ⟨k + 1, hlt, by go_num, by first | exact hb | exact hb.drew | exact below_drewN hb _⟩
            case measure => simp [intOf]; omega
      · go_wp2
        go_ret
        exact ⟨_, rfl, trivial, hb⟩

theorem ActAt.cells {w : World} {N b off : Nat} {m : ActM} (h : ActAt w N b off m) : w.cell? ⟨b, off, none⟩ = some (.string m.kind) ∧ w.cell? ⟨b, off + 1, none⟩ = some (.string m.s) ∧ w.cell? ⟨b, off + 2, none⟩ = some (.int .i64 m.a) ∧ w.cell? ⟨b, off + 7, none⟩ = some (.slice m.pA m.pL m.pC) ∧ w.cell? ⟨b, off + 8, none⟩ = some (.slice m.cA m.cL m.cC) :=
  ⟨h.2.1 0 (by omega), h.2.1 1 (by omega), h.2.1 2 (by omega), h.2.1 7 (by omega), h.2.1 8 (by omega)⟩
theorem ActAt.up {w w' : World} {N M b off : Nat} {m : ActM} (h : ActAt w N b off m) (hb : Below M w w') (hN : N ≤ M) (hN' : N ≤ w'.heap.size) : ActAt w' w'.heap.size b off m := by
  obtain ⟨h1, h2, h3, h4, h5, h6, h7⟩ := h
  exact ⟨by omega, fun j hj => by rw [hb.cell (p := ⟨b, off + j, none⟩) (show b < M by omega)]; exact h2 j hj, h3.up hb hN hN', h4.up hb hN hN', h5, h6, h7⟩
theorem ActsAt.up {w w' : World} {N M : Nat} {A : Option Addr} {l : List ActM} (h : ActsAt w N A l) (hb : Below M w w') (hN : N ≤ M) (hN' : N ≤ w'.heap.size) : ActsAt w' w'.heap.size A l :=
  ⟨h.1, fun i hi => by obtain ⟨b, off, e, ha⟩ := h.2 i hi; exact ⟨b, off, e, ha.up hb hN hN'⟩⟩
theorem ActsAt.below {w w' : World} {A : Option Addr} {l : List ActM} (h : ActsAt w w.heap.size A l) (hb : Below w.heap.size w w') : ActsAt w' w'.heap.size A l := h.up hb (Nat.le_refl _) hb.size

set_option maxHeartbeats 2000000 in
set_option maxRecDepth 100000 in
theorem lightActs_any (A : Option Addr) (l : List ActM) (c : Nat) (most : Int) (w : World) (hA : ActsAt w w.heap.size A l) :
    Calls Tryz.prog 7 #[.slice A l.length c, .int .i64 most] w (BoolRet w fun r => r = true → (l.length : Int) ≤ most) := by
  have hm := hA.1
  unfold maxLen at hm
  go_enter Tryz.func7, Tryz.ntmps7
  by_cases h0 : most < (l.length : Int)
  · go_wp2
    go_ret
    exact ⟨_, rfl, by simp, Below.refl _ _⟩
  · have H0 := Lib.hid (show ∀ r : Bool, r = true → (l.length : Int) ≤ most from fun _ _ => by omega)
    go_wp2
    go_loopw [5] (fun i w' => ∃ k : Nat, k ≤ l.length ∧ i = .int .i64 k ∧ Below w.heap.size w w') (fun i _ => l.length - (intOf i).toNat)
    case atStart => exact ⟨0, Nat.zero_le _, rfl, Below.refl _ _⟩
    case round =>
      obtain ⟨k, hk, rfl, hb⟩ := hrel
      by_cases hlt : k < l.length
      · obtain ⟨b, off, rfl, hact⟩ := (hA.below hb).2 k hlt
        obtain ⟨_, g1, _, g7, g8⟩ := hact.cells
        have i1 : (k : Int) < (l.length : Int) := by omega
        by_cases c1 : 100 < ((l[k].s).size : Int)
        · go_wp2
          go_ret
          exact ⟨_, rfl, by first | trivial | exact H0.out _, hb⟩
        · by_cases c2 : 24 < (l[k].pL : Int)
          · go_wp2
            go_ret
            exact ⟨_, rfl, by first | trivial | exact H0.out _, hb⟩
          · go_wp2_with fail
            obtain ⟨_, _, hP, hC, _, _, _⟩ := hact
            ((with_reducible refine (lightChanges_any _ _ _ _ _ _ (Nat.le_refl _) hC).mono ?_); rintro e w1 ⟨r, rfl, _, hb1⟩)
            have hb2 := belowThen hb hb1
            obtain ⟨b', off', e', hact⟩ := (hA.below hb2).2 k hlt
            injection e' with e'
            injection e' with e1 e2 _
            subst e1 e2
            obtain ⟨_, _, _, g7, _⟩ := hact.cells
            obtain ⟨_, _, hP, _, _, _, _⟩ := hact
            cases r
            · go_wp2
              go_ret
              exact ⟨_, rfl, by first | trivial | exact H0.out _, hb2⟩
            · go_wp2
              go_loopw [6] (fun i w' => ∃ j : Nat, j ≤ l[k].pL ∧ i = .int .i64 j ∧ Below w1.heap.size w1 w') (fun i _ => l[k].pL - (intOf i).toNat)
              case atStart => exact ⟨0, Nat.zero_le _, rfl, Below.refl _ _⟩
              case round =>
                obtain ⟨j, hj, rfl, hb3⟩ := hrel
                have hb4 := belowThen hb2 hb3
                have g7' : wr.cell? ⟨b, off + k * 9 + 7, none⟩ = some (.slice l[k].pA l[k].pL l[k].pC) := by
                  rw [hb3.cell (p := ⟨b, off + k * 9 + 7, none⟩) (World.block_lt_of_cell? w1 _ g7)]; exact g7
                clear g7
                by_cases hjl : j < l[k].pL
                · obtain ⟨b5, off5, s5, e5, hlt5, h5, _⟩ := (hP.up hb3 (Nat.le_refl _) hb3.size).2 j hjl
                  rw [e5] at g7'
                  have i2 : (j : Int) < (l[k].pL : Int) := by omega
                  by_cases c3 : 20 < (s5.size : Int)
                  · go_wp2
                    go_ret
                    exact ⟨_, rfl, by first | trivial | exact H0.out _, hb4⟩
                  · go_wp2
                    go_roundw
                    case rel => exact ⟨j + 1, hjl, by go_num, hb3⟩
                    case measure => simp [intOf]; omega
                · go_wp2
                  go_roundw
                  case rel => exact ⟨k + 1, hlt, by go_num, hb4⟩
                  case measure => simp [intOf]; omega
      · go_wp2
        go_ret
        exact ⟨_, rfl, by first | trivial | exact H0.out _, hb⟩
end Go.Proofs.YtlgahdabhnhjgaaGreatDoor
