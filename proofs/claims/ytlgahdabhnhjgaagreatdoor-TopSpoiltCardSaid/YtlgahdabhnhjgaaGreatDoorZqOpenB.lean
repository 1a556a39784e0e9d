/- Arguments opened: what all rows share. -/
import Derived.Test.YtlgahdabhnhjgaaGreatDoorZqPool
import Derived.Shelf.SlMaps.Clone
import Derived.Shelf.SlGeneric
import Derived.Test.YtlgahdabhnhjgaaGreatDoorZqEq4
import Derived.Test.YtlgahdabhnhjgaaGreatDoorZqIdx4
import Derived.Test.YtlgahdabhnhjgaaGreatDoorZqMaps
import Derived.Test.YtlgahdabhnhjgaaGreatDoorRows
import Derived.ProofKit
import Derived.OpenShut
import Derived.ShutString
import Derived.ChangeOld
import Derived.Deep.SlicePairs
/- maps.Clone, pool.Copy. -/
namespace Go.Proofs.YtlgahdabhnhjgaaGreatDoor
open Go.RowKit Go.Maps

def Tryz.cloneB_ren : Go.Shelf.Ren := ⟨fun | 5 => 87 | 7 => 88 | n => n, fun | 23 => 95 | 25 => 3 | 3 => 77 | 4 => 4 | 20 => 20 | n => n, fun | n => n⟩
theorem Tryz.cloneB : Go.Proofs.SlLaysW.n5 Tryz.prog Tryz.cloneB_ren := {
  mixed := by kernel_rfl
  f5 := ⟨Tryz.f87.name, by decide, Tryz.func87.trans (congrArg some (by kernel_rfl))⟩
  f7 := Tryz.func88.trans (congrArg some (by kernel_rfl))
  t4 := Tryz.underlying4
  a4 := Tryz.isAgg4
  z4 := Tryz.sizeOf4
  v4 := Tryz.zeroValue4
  t20 := Tryz.underlying20
  a20 := Tryz.isAgg20
  z20 := Tryz.sizeOf20
  v20 := Tryz.zeroValue20
  t23 := Tryz.underlying95
  a23 := Tryz.isAgg95
  z23 := Tryz.sizeOf95
  v23 := Tryz.zeroValue95 }

theorem cloneB_any (b N : Nat) (f : Int → Option Value) (w : World) (h : MapOf w b N f) :
    Calls Tryz.prog 87 #[.map (some b)] w fun e w' => e = .returned (.map (some w.heap.size)) ∧ MapOf w' w.heap.size N f ∧ Below w.heap.size w w' := by
  obtain ⟨D, hD, r⟩ := h
  refine (AnyW.maps_Clone_owns Tryz.cloneB 3 anyElem b _ D w hD).mono ?_
  rintro e w' ⟨rfl, h1, _, hb⟩
  exact ⟨rfl, ⟨D, h1, r⟩, hb⟩

theorem poolCopy_any (g b K : Nat) (w : World) (p : PoolM) (h : PoolAt w g b K p) :
    Calls Tryz.prog 56 #[.pointer (some ⟨g, 0, none⟩)] w fun e w' => ∃ g' b', e = .returned (.pointer (some ⟨g', 0, none⟩)) ∧ PoolAt w' g' b' K p ∧ w.heap.size ≤ g' ∧ w.heap.size ≤ b' ∧ Below w.heap.size w w' := by
  have c0 := h.cell
  go_enter Tryz.func56, Tryz.ntmps56
  go_wp2_with fail
  ((with_reducible refine (cloneB_any b 40 (poolMap p) _ h.map).mono ?_); rintro e w1 ⟨rfl, h1, hb1⟩)
  go_wp2
  go_ret
  have b2 := (Below.refl w1.heap.size w1).alloc (Nat.le_refl _) (.cells #[.map (some w.heap.size)] 97)
  exact ⟨w1.heap.size, w.heap.size, rfl, ⟨heap_alloc_new w1 _, h1.keep (b2.block _ h1.lt), h.ok⟩, hb1.size, Nat.le_refl _, belowThen hb1 b2⟩
end Go.Proofs.YtlgahdabhnhjgaaGreatDoor

/- Package index: Copy. -/
namespace Go.Proofs.YtlgahdabhnhjgaaGreatDoor
open Go.RowKit Go.Maps

def Tryz.cloneN_ren : Go.Shelf.Ren := ⟨fun | 5 => 57 | 7 => 88 | n => n, fun | 23 => 64 | 25 => 3 | 3 => 81 | 4 => 4 | 20 => 20 | n => n, fun | n => n⟩
theorem Tryz.cloneN : Go.Proofs.SlLaysW.n5 Tryz.prog Tryz.cloneN_ren := {
  mixed := by kernel_rfl
  f5 := ⟨Tryz.f57.name, by decide, Tryz.func57.trans (congrArg some (by kernel_rfl))⟩
  f7 := Tryz.func88.trans (congrArg some (by kernel_rfl))
  t4 := Tryz.underlying4
  a4 := Tryz.isAgg4
  z4 := Tryz.sizeOf4
  v4 := Tryz.zeroValue4
  t20 := Tryz.underlying20
  a20 := Tryz.isAgg20
  z20 := Tryz.sizeOf20
  v20 := Tryz.zeroValue20
  t23 := Tryz.underlying64
  a23 := Tryz.isAgg64
  z23 := Tryz.sizeOf64
  v23 := Tryz.zeroValue64 }

theorem cloneN_any (b N : Nat) (f : Int → Option Value) (w : World) (h : MapOf w b N f) :
    Calls Tryz.prog 57 #[.map (some b)] w fun e w' => e = .returned (.map (some w.heap.size)) ∧ MapOf w' w.heap.size N f ∧ Below w.heap.size w w' := by
  obtain ⟨D, hD, r⟩ := h
  refine (AnyW.maps_Clone_owns Tryz.cloneN 3 anyElem b _ D w hD).mono ?_
  rintro e w' ⟨rfl, h1, _, hb⟩
  exact ⟨rfl, ⟨D, h1, r⟩, hb⟩

theorem idxCopy_any (w : World) (x gp bp bn K : Nat) (X : IdxM) (h : IdxAt w x gp bp bn K X) :
    Calls Tryz.prog 31 #[.pointer (some ⟨x, 0, none⟩)] w fun e w' => ∃ x' gp' bp' bn', e = .returned (.pointer (some ⟨x', 0, none⟩)) ∧ IdxAt w' x' gp' bp' bn' K X ∧ w.heap.size ≤ x' ∧ w.heap.size ≤ gp' ∧ w.heap.size ≤ bp' ∧ w.heap.size ≤ bn' ∧ Below w.heap.size w w' := by
  have c0 := h.cell0
  have c1 := h.cell1
  go_enter Tryz.func31, Tryz.ntmps31
  go_wp2_with fail
  have hlt := h.lt
  have HP := Lib.hid (fun w' (hb : Below w.heap.size w w') => poolCopy_any gp bp K w' X.P (h.pool.below hb))
  have HN := Lib.hid (fun w' (hb : Below w.heap.size w w') => cloneN_any bn 24 (nodMap X.N) w' (h.map.keep (hb.block bn h.ltn)))
  have HK := Lib.hid (fun w' (hb : Below w.heap.size w w') => show w'.cell? ⟨x, 0, none⟩ = some (.pointer (some ⟨gp, 0, none⟩)) ∧ w'.cell? ⟨x, 1, none⟩ = some (.map (some bn)) from ⟨by rw [hb.cell (p := ⟨x, 0, none⟩) hlt]; exact c0, by rw [hb.cell (p := ⟨x, 1, none⟩) hlt]; exact c1⟩)
  have HOK := Lib.hid h.ok
  clear h
  go_region_held3 (fun w' => w'.cell? ⟨x, 0, none⟩ = some (.pointer (some ⟨gp, 0, none⟩)) ∧ w'.cell? ⟨x, 1, none⟩ = some (.map (some bn))) (first | exact ⟨c0, c1⟩ | exact HK.out _ (Below.trans (b := w.drew) (Below.refl _ _).drew hb1) | exact HK.out _ (belowThen (Below.trans (b := w.drew) (Below.refl _ _).drew hb1) hb2) | exact HK.out _ (belowThen (belowThen (Below.trans (b := w.drew) (Below.refl _ _).drew hb1) hb2) ((Below.refl _ _).alloc (Nat.le_refl _) _)))
    (first
      | (go_at_call 56; refine (HP.out _ (Below.refl _ _).drew).mono ?_; rintro e w1 ⟨g1, b1, rfl, hP1, hg1, hbb1, hb1⟩)
      | (go_at_call 57; refine (HN.out _ (Below.trans (b := w.drew) (Below.refl _ _).drew hb1)).mono ?_; rintro e w2 ⟨rfl, hM2, hb2⟩))
  all_goals
    have hb01 : Below w.heap.size w w1 := Below.trans (b := w.drew) (Below.refl w.heap.size w).drew hb1
    have hs1 : w.heap.size ≤ w1.heap.size := hb01.size
    have hs2 : w1.heap.size ≤ w2.heap.size := hb2.size
    have hbw : Below w.heap.size w w2 := belowThen hb01 hb2
    have b3 := (Below.refl w2.heap.size w2).alloc (Nat.le_refl _) (.cells #[.pointer (some ⟨g1, 0, none⟩), .map (some w1.heap.size)] 66)
    have hlb := hP1.ltb
    go_wp2
    go_ret
    exact ⟨w2.heap.size, g1, b1, w1.heap.size, rfl, ⟨heap_alloc_new w2 _, (hP1.below hb2).below b3, hM2.keep (b3.block _ hM2.lt), by omega, HOK.out⟩, by omega, hg1, hbb1, hs1, belowThen hbw b3⟩
end Go.Proofs.YtlgahdabhnhjgaaGreatDoor

/- Package index: Share. -/
namespace Go.Proofs.YtlgahdabhnhjgaaGreatDoor
open Go.RowKit Go.Maps

theorem idxShare_any (w : World) (x gp bp bn K : Nat) (X : IdxM) (root : Nat) (h : IdxAt w x gp bp bn K X) (hr : root ≤ 1000) (hK : K ≤ 1000000000) :
    Calls Tryz.prog 62 #[.pointer (some ⟨x, 0, none⟩), .int .i64 root] w (IdxRet w x gp bp bn (K + 1) (X.refN root) (.int .i64 root)) := by
  go_enter Tryz.func62, Tryz.ntmps62
  go_wp2_with fail
  ((with_reducible refine (refNode_any _ x gp bp bn K X root h hr hK).mono ?_); rintro e w1 ⟨rfl, h1, t1⟩)
  go_wp2
  go_ret
  exact ⟨rfl, h1, t1⟩
end Go.Proofs.YtlgahdabhnhjgaaGreatDoor

/- Package index: Diff. -/
namespace Go.Proofs.YtlgahdabhnhjgaaGreatDoor
open Go.RowKit Go.Maps

/-- Do two roots differ at a place? -/
def differ (X : IdxM) (a b i : Nat) : Bool := !((X.get a i).toList == (X.get b i).toList)
/-- The places below n at which they differ. -/
def diffUp (X : IdxM) (a b n : Nat) : List Int := ((List.range n).filter (differ X a b)).map fun i => ((i : Nat) : Int)
theorem diffUp_succ (X : IdxM) (a b n : Nat) : diffUp X a b (n + 1) = if differ X a b n = true then diffUp X a b n ++ [(n : Int)] else diffUp X a b n := by
  unfold diffUp
  rw [List.range_succ, List.filter_append]
  cases h : differ X a b n <;> simp [h]
theorem diffUp_len (X : IdxM) (a b n : Nat) : (diffUp X a b n).length ≤ n := by
  unfold diffUp
  have := List.length_filter_le (differ X a b) (List.range n)
  simpa using this

theorem OwnInts.below {w w' : World} {base : Nat} {v : Value} {l : List Int} (h : OwnInts w base v l) (hb : Below w.heap.size w w') : OwnInts w' base v l := by
  obtain ⟨h1, h2⟩ := h
  refine ⟨h1, ?_⟩
  rcases h2 with h2 | ⟨g, cap, cur, hv, hg, hh, r⟩
  · exact .inl h2
  · exact .inr ⟨g, cap, cur, hv, hg, (hb.block g (Array.getElem?_eq_some_iff.1 hh).1).trans hh, r⟩

/-- Get, its answer named. -/
theorem idxGet_e (w : World) (x gp bp bn K : Nat) (X : IdxM) (root at_ : Nat) (s : ByteArray) (h : IdxAt w x gp bp bn K X) (hr : root ≤ 1000) (ha : at_ < 16) (hs : X.get root at_ = s) :
    Calls Tryz.prog 59 #[.pointer (some ⟨x, 0, none⟩), .int .i64 root, .int .i64 at_] w fun e w' => e = .returned (.string s) ∧ Below w.heap.size w w' := by
  subst hs; exact idxGet_any w x gp bp bn K X root at_ h hr ha

set_option maxHeartbeats 1000000 in
set_option maxRecDepth 100000 in
theorem idxDiff_any (w : World) (x gp bp bn K : Nat) (X : IdxM) (a b : Nat) (h : IdxAt w x gp bp bn K X) (ha : a ≤ 1000) (hb : b ≤ 1000) :
    Calls Tryz.prog 135 #[.pointer (some ⟨x, 0, none⟩), .int .i64 a, .int .i64 b] w (RetInts w (diffUp X a b 16)) := by
  obtain ⟨i0, hi, hz0, hz1, hz2⟩ := info_parts Tryz.infoInt
  go_enter Tryz.func135, Tryz.ntmps135
  go_wp2
  go_loopw [7, 9] (fun v i w' => ∃ k : Nat, k ≤ 16 ∧ i = .int .i64 k ∧ OwnInts w' w.heap.size v (diffUp X a b k) ∧ Below w.heap.size w w') (fun _ i _ => 16 - (intOf i).toNat)
  case atStart => exact ⟨0, Nat.zero_le _, rfl, World.ownsRow_nil _ _ _ _, Below.refl _ _⟩
  case round =>
    obtain ⟨k, hk, rfl, hO, hb0⟩ := hrel
    by_cases hlt : k < 16
    · obtain ⟨s, hs⟩ : ∃ s, X.get a k = s := ⟨_, rfl⟩
      obtain ⟨t, ht⟩ : ∃ t, X.get b k = t := ⟨_, rfl⟩
      have hdf : differ X a b k = !(s.toList == t.toList) := by unfold differ; rw [hs, ht]
      have HG1 := Lib.hid (fun w' (h' : IdxAt w' x gp bp bn K X) => idxGet_e w' x gp bp bn K X a k s h' ha hlt hs)
      have HG2 := Lib.hid (fun w' (h' : IdxAt w' x gp bp bn K X) => idxGet_e w' x gp bp bn K X b k t h' hb hlt ht)
      have hD := diffUp_succ X a b k
      have hlen := diffUp_len X a b k
      have h1 := h.below hb0
      have i1 : (k : Int) < 16 := by omega
      clear hs ht
      go_wp2_with fail
      ((with_reducible refine (HG1.out _ h1).mono ?_); rintro e w1 ⟨rfl, hb1⟩)
      have h2 := h1.below hb1
      have hO1 := hO.below hb1
      replace hb1 := belowThen hb0 hb1
      clear h1 hO hb0 HG1
      go_wp2_with fail
      ((with_reducible refine (HG2.out _ h2).mono ?_); rintro e w2 ⟨rfl, hb2⟩)
      have hO2 := hO1.below hb2
      replace hb2 := belowThen hb1 hb2
      have hsz := hb2.size
      clear h2 hO1 hb1 HG2
      cases hst : (s.toList == t.toList) with
      | true =>
        rw [hst] at hdf
        rw [hdf] at hD
        have HD := Lib.hid hD
        clear hD hdf
        go_wp2
        go_roundw
        case rel => exact ⟨k + 1, hlt, by go_num, by rw [HD.out]; exact hO2, hb2⟩
        case measure => simp [intOf]; omega
      | false =>
        rw [hst] at hdf
        rw [hdf] at hD
        have HD := Lib.hid hD
        clear hD hdf
        go_wp2_with (at_builtin; refine wpList_append_own _ rfl _ _ 61 rfl w.heap.size 3 i0 (.int .i64 0) 1 8 Tryz.underlying61 hi hz0 hz1 hz2 rfl (by decide) _ _ _ rfl (World.ownsRow.alloc hO2 _) ⟨w2.heap.size, 0, none⟩ 1 1 [.int .i64 (k : Int)] rfl rfl (cell_one_new _ _ _) (by simp [Value.oneCell']) (by unfold maxLen; omega) (by omega) (by simp; omega) ?_; intro v' w3 hown' hg3 hnil3)
        go_wp2
        go_roundw
        case rel => exact ⟨k + 1, hlt, by go_num, by rw [HD.out]; simp only [Bool.not_false, if_true]; unfold OwnInts; simpa using hown', (hb2.alloc hsz _).grown hg3 (by simp; omega) (fun j hj => (World.ownsRow.lt hO2 j hj).1)⟩
        case measure => simp [intOf]; omega
    · obtain rfl : k = 16 := by omega
      go_wp2
      go_ret
      exact ⟨_, rfl, hO, hb0⟩
end Go.Proofs.YtlgahdabhnhjgaaGreatDoor

/- Arguments opened: what all rows share. -/
namespace Go.Proofs.YtlgahdabhnhjgaaGreatDoor
open Go.ChangeShapes Go.WideShapes Go.ChangeAt Go.RowKit Go.Deep

theorem Tryz.own : ownKnob Tryz.prog.godebug = none := by kernel_rfl
theorem Tryz.laidOut : laidOutB Tryz.prog = true := by kernel_rfl
theorem Tryz.cellsInt : Tryz.prog.cellsOf 3 = 1 := by kernel_rfl

theorem addr_zero {w : World} {a : Addr} {v : Value} (h : w.cell? (a.add 0) = some v) : ∃ b off, a = ⟨b, off, none⟩ := by
  obtain ⟨b, off, spot⟩ := a
  have : spot = none := by simpa [Addr.add] using World.cell?_spot h
  exact ⟨b, off, by rw [this]⟩

theorem add_lit' (b off n : Nat) : (⟨b, off, none⟩ : Addr).add n = ⟨b, off + n, none⟩ := by
  unfold Addr.add; split
  · rename_i h; subst h; rfl
  · rfl

theorem wf_i64 {n : Int} (h : (Lit.int .i64 n).wf = true) : -9223372036854775808 ≤ n ∧ n ≤ 9223372036854775807 := by
  have := bounds_i64 h
  omega
theorem wf_u64 {n : Int} (h : (Lit.int .u64 n).wf = true) : 0 ≤ n ∧ n < 18446744073709551616 := by
  have := bounds_u64 h
  omega
end Go.Proofs.YtlgahdabhnhjgaaGreatDoor
