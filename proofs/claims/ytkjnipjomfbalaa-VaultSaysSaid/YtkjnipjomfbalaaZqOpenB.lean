/- Arguments opened: what all rows share. -/
import Derived.Test.YtkjnipjomfbalaaZqPool
import Derived.Shelf.SlMaps.Clone
import Derived.Shelf.SlGeneric
import Derived.Test.YtkjnipjomfbalaaZqIdxM
import Derived.Test.YtkjnipjomfbalaaZqIdx4
import Derived.Test.YtkjnipjomfbalaaZqBase
import Derived.Test.YtkjnipjomfbalaaRows
import Derived.ProofKit
import Derived.OpenShut
import Derived.ShutString
import Derived.ChangeOld
import Derived.Deep.SlicePairs
/- maps.Clone, pool.Copy. -/
namespace Go.Proofs.Ytkjnipjomfbalaa
open Go.RowKit Go.Maps

def Try.cloneB_ren : Go.Shelf.Ren := ⟨fun | 5 => 58 | 7 => 59 | n => n, fun | 23 => 101 | 25 => 3 | 3 => 65 | 4 => 4 | 20 => 20 | n => n, fun | n => n⟩
theorem Try.cloneB : Go.Proofs.SlLaysW.n5 Try.prog Try.cloneB_ren := {
  mixed := by kernel_rfl
  f5 := ⟨Try.f58.name, by decide, Try.func58.trans (congrArg some (by kernel_rfl))⟩
  f7 := Try.func59.trans (congrArg some (by kernel_rfl))
  t4 := Try.underlying4
  a4 := Try.isAgg4
  z4 := Try.sizeOf4
  v4 := Try.zeroValue4
  t20 := Try.underlying20
  a20 := Try.isAgg20
  z20 := Try.sizeOf20
  v20 := Try.zeroValue20
  t23 := Try.underlying101
  a23 := Try.isAgg101
  z23 := Try.sizeOf101
  v23 := Try.zeroValue101 }

theorem cloneB_any (b N : Nat) (f : Int → Option Value) (w : World) (h : MapOf w b N f) :
    Calls Try.prog 58 #[.map (some b)] w fun e w' => e = .returned (.map (some w.heap.size)) ∧ MapOf w' w.heap.size N f ∧ Below w.heap.size w w' := by
  obtain ⟨D, hD, r⟩ := h
  refine (AnyW.maps_Clone_owns Try.cloneB 3 anyElem b _ D w hD).mono ?_
  rintro e w' ⟨rfl, h1, _, hb⟩
  exact ⟨rfl, ⟨D, h1, r⟩, hb⟩

theorem poolCopy_any (g b K : Nat) (w : World) (p : PoolM) (h : PoolAt w g b K p) :
    Calls Try.prog 40 #[.pointer (some ⟨g, 0, none⟩)] w fun e w' => ∃ g' b', e = .returned (.pointer (some ⟨g', 0, none⟩)) ∧ PoolAt w' g' b' K p ∧ w.heap.size ≤ g' ∧ w.heap.size ≤ b' ∧ Below w.heap.size w w' := by
  have c0 := h.cell
  go_enter Try.func40, Try.ntmps40
  go_wp2_with fail
  ((with_reducible refine (cloneB_any b 40 (poolMap p) _ h.map).mono ?_); rintro e w1 ⟨rfl, h1, hb1⟩)
  go_wp2
  go_ret
  have b2 := (Below.refl w1.heap.size w1).alloc (Nat.le_refl _) (.cells #[.map (some w.heap.size)] 103)
  exact ⟨w1.heap.size, w.heap.size, rfl, ⟨heap_alloc_new w1 _, h1.keep (b2.block _ h1.lt), h.ok⟩, hb1.size, Nat.le_refl _, belowThen hb1 b2⟩
end Go.Proofs.Ytkjnipjomfbalaa

/- Package index: Copy. -/
namespace Go.Proofs.Ytkjnipjomfbalaa
open Go.RowKit Go.Maps

def Try.cloneN_ren : Go.Shelf.Ren := ⟨fun | 5 => 41 | 7 => 59 | n => n, fun | 23 => 92 | 25 => 3 | 3 => 69 | 4 => 4 | 20 => 20 | n => n, fun | n => n⟩
theorem Try.cloneN : Go.Proofs.SlLaysW.n5 Try.prog Try.cloneN_ren := {
  mixed := by kernel_rfl
  f5 := ⟨Try.f41.name, by decide, Try.func41.trans (congrArg some (by kernel_rfl))⟩
  f7 := Try.func59.trans (congrArg some (by kernel_rfl))
  t4 := Try.underlying4
  a4 := Try.isAgg4
  z4 := Try.sizeOf4
  v4 := Try.zeroValue4
  t20 := Try.underlying20
  a20 := Try.isAgg20
  z20 := Try.sizeOf20
  v20 := Try.zeroValue20
  t23 := Try.underlying92
  a23 := Try.isAgg92
  z23 := Try.sizeOf92
  v23 := Try.zeroValue92 }

theorem cloneN_any (b N : Nat) (f : Int → Option Value) (w : World) (h : MapOf w b N f) :
    Calls Try.prog 41 #[.map (some b)] w fun e w' => e = .returned (.map (some w.heap.size)) ∧ MapOf w' w.heap.size N f ∧ Below w.heap.size w w' := by
  obtain ⟨D, hD, r⟩ := h
  refine (AnyW.maps_Clone_owns Try.cloneN 3 anyElem b _ D w hD).mono ?_
  rintro e w' ⟨rfl, h1, _, hb⟩
  exact ⟨rfl, ⟨D, h1, r⟩, hb⟩

theorem idxCopy_any (w : World) (x gp bp bn K : Nat) (X : IdxM) (h : IdxAt w x gp bp bn K X) :
    Calls Try.prog 24 #[.pointer (some ⟨x, 0, none⟩)] w fun e w' => ∃ x' gp' bp' bn', e = .returned (.pointer (some ⟨x', 0, none⟩)) ∧ IdxAt w' x' gp' bp' bn' K X ∧ w.heap.size ≤ x' ∧ w.heap.size ≤ gp' ∧ w.heap.size ≤ bp' ∧ w.heap.size ≤ bn' ∧ Below w.heap.size w w' := by
  have c0 := h.cell0
  have c1 := h.cell1
  go_enter Try.func24, Try.ntmps24
  go_wp2_with fail
  have hlt := h.lt
  have HP := Lib.hid (fun w' (hb : Below w.heap.size w w') => poolCopy_any gp bp K w' X.P (h.pool.below hb))
  have HN := Lib.hid (fun w' (hb : Below w.heap.size w w') => cloneN_any bn 24 (nodMap X.N) w' (h.map.keep (hb.block bn h.ltn)))
  have HK := Lib.hid (fun w' (hb : Below w.heap.size w w') => show w'.cell? ⟨x, 0, none⟩ = some (.pointer (some ⟨gp, 0, none⟩)) ∧ w'.cell? ⟨x, 1, none⟩ = some (.map (some bn)) from ⟨by rw [hb.cell (p := ⟨x, 0, none⟩) hlt]; exact c0, by rw [hb.cell (p := ⟨x, 1, none⟩) hlt]; exact c1⟩)
  have HOK := Lib.hid h.ok
  clear h
  go_region_held3 (fun w' => w'.cell? ⟨x, 0, none⟩ = some (.pointer (some ⟨gp, 0, none⟩)) ∧ w'.cell? ⟨x, 1, none⟩ = some (.map (some bn))) (first | exact ⟨c0, c1⟩ | exact HK.out _ (Below.trans (b := w.drew) (Below.refl _ _).drew hb1) | exact HK.out _ (belowThen (Below.trans (b := w.drew) (Below.refl _ _).drew hb1) hb2) | exact HK.out _ (belowThen (belowThen (Below.trans (b := w.drew) (Below.refl _ _).drew hb1) hb2) ((Below.refl _ _).alloc (Nat.le_refl _) _)))
    (first
      | (go_at_call 40; refine (HP.out _ (Below.refl _ _).drew).mono ?_; rintro e w1 ⟨g1, b1, rfl, hP1, hg1, hbb1, hb1⟩)
      | (go_at_call 41; refine (HN.out _ (Below.trans (b := w.drew) (Below.refl _ _).drew hb1)).mono ?_; rintro e w2 ⟨rfl, hM2, hb2⟩))
  all_goals
    have hb01 : Below w.heap.size w w1 := Below.trans (b := w.drew) (Below.refl w.heap.size w).drew hb1
    have hs1 : w.heap.size ≤ w1.heap.size := hb01.size
    have hs2 : w1.heap.size ≤ w2.heap.size := hb2.size
    have hbw : Below w.heap.size w w2 := belowThen hb01 hb2
    have b3 := (Below.refl w2.heap.size w2).alloc (Nat.le_refl _) (.cells #[.pointer (some ⟨g1, 0, none⟩), .map (some w1.heap.size)] 94)
    have hlb := hP1.ltb
    go_wp2
    go_ret
    exact ⟨w2.heap.size, g1, b1, w1.heap.size, rfl, ⟨heap_alloc_new w2 _, (hP1.below hb2).below b3, hM2.keep (b3.block _ hM2.lt), by omega, HOK.out⟩, by omega, hg1, hbb1, hs1, belowThen hbw b3⟩
end Go.Proofs.Ytkjnipjomfbalaa

/- Package index: Share. -/
namespace Go.Proofs.Ytkjnipjomfbalaa
open Go.RowKit Go.Maps

theorem idxShare_any (w : World) (x gp bp bn K : Nat) (X : IdxM) (root : Nat) (h : IdxAt w x gp bp bn K X) (hr : root ≤ 1000) (hK : K ≤ 1000000000) :
    Calls Try.prog 42 #[.pointer (some ⟨x, 0, none⟩), .int .i64 root] w (IdxRet w x gp bp bn (K + 1) (X.refN root) (.int .i64 root)) := by
  go_enter Try.func42, Try.ntmps42
  go_wp2_with fail
  ((with_reducible refine (refNode_any _ x gp bp bn K X root h hr hK).mono ?_); rintro e w1 ⟨rfl, h1, t1⟩)
  go_wp2
  go_ret
  exact ⟨rfl, h1, t1⟩
end Go.Proofs.Ytkjnipjomfbalaa

/- Package index: Diff. -/
namespace Go.Proofs.Ytkjnipjomfbalaa
open Go.RowKit Go.Maps

/-- Do two roots differ at a place? -/
def differ (X : IdxM) (a b i : Nat) : Bool := !((X.get a i).toList == (X.get b i).toList)
/-- The places below n at which they differ. -/
def diffUp (X : IdxM) (a b n : Nat) : List Int := ((List.range n).filter (differ X a b)).map fun i => ((i : Nat) : Int)
theorem diffUp_succ (X : IdxM) (a b n : Nat) : diffUp X a b (n + 1) = if differ X a b n = true then diffUp X a b n ++ [(n : Int)] else diffUp X a b n := by
  unfold diffUp
  rw [List.range_succ, List.filter_append]
  cases h : differ X a b n <;> simp [h]
theorem diffUp_len (X : IdxM) (a b n : Nat) : (diffUp X a b n).length ≤ n := by
  unfold diffUp
  have := List.length_filter_le (differ X a b) (List.range n)
  simpa using this

theorem OwnInts.below {w w' : World} {base : Nat} {v : Value} {l : List Int} (h : OwnInts w base v l) (hb : Below w.heap.size w w') : OwnInts w' base v l := by
  obtain ⟨h1, h2⟩ := h
  refine ⟨h1, ?_⟩
  rcases h2 with h2 | ⟨g, cap, cur, hv, hg, hh, r⟩
  · exact .inl h2
  · exact .inr ⟨g, cap, cur, hv, hg, (hb.block g (Array.getElem?_eq_some_iff.1 hh).1).trans hh, r⟩

/-- Get, its answer named. -/
theorem idxGet_e (w : World) (x gp bp bn K : Nat) (X : IdxM) (root at_ : Nat) (s : ByteArray) (h : IdxAt w x gp bp bn K X) (hr : root ≤ 1000) (ha : at_ < 16) (hs : X.get root at_ = s) :
    Calls Try.prog 33 #[.pointer (some ⟨x, 0, none⟩), .int .i64 root, .int .i64 at_] w fun e w' => e = .returned (.string s) ∧ Below w.heap.size w w' := by
  subst hs; exact idxGet_any w x gp bp bn K X root at_ h hr ha

end Go.Proofs.Ytkjnipjomfbalaa

/- Arguments opened: what all rows share. -/
namespace Go.Proofs.Ytkjnipjomfbalaa
open Go.ChangeShapes Go.WideShapes Go.ChangeAt Go.RowKit Go.Deep

theorem Try.own : ownKnob Try.prog.godebug = none := by kernel_rfl
theorem Try.laidOut : laidOutB Try.prog = true := by kernel_rfl
theorem Try.cellsInt : Try.prog.cellsOf 3 = 1 := by kernel_rfl

theorem addr_zero {w : World} {a : Addr} {v : Value} (h : w.cell? (a.add 0) = some v) : ∃ b off, a = ⟨b, off, none⟩ := by
  obtain ⟨b, off, spot⟩ := a
  have : spot = none := by simpa [Addr.add] using World.cell?_spot h
  exact ⟨b, off, by rw [this]⟩

theorem add_lit' (b off n : Nat) : (⟨b, off, none⟩ : Addr).add n = ⟨b, off + n, none⟩ := by
  unfold Addr.add; split
  · rename_i h; subst h; rfl
  · rfl

theorem wf_i64 {n : Int} (h : (Lit.int .i64 n).wf = true) : -9223372036854775808 ≤ n ∧ n ≤ 9223372036854775807 := by
  have := bounds_i64 h
  omega
theorem wf_u64 {n : Int} (h : (Lit.int .u64 n).wf = true) : 0 ≤ n ∧ n < 18446744073709551616 := by
  have := bounds_u64 h
  omega
end Go.Proofs.Ytkjnipjomfbalaa
