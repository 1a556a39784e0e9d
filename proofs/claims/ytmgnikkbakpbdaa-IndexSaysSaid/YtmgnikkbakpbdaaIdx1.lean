/- Package index: New, Numbers, isPosition, refBlock, unrefBlock, refNode. -/
import Derived.Test.YtmgnikkbakpbdaaIdxM
namespace Go.Proofs.Ytmgnikkbakpbdaa
open Go.RowKit Go.Maps

theorem isPos_yes (n : Int) (w : World) (h1 : 0 ≤ n) (h2 : n < 16) : Calls Try.prog 41 #[.int .i64 n] w fun e w' => e = .returned (.bool true) ∧ w = w' := by
  go_enter Try.func41, Try.ntmps41
  go_wp2
  go_ret
  exact ⟨rfl, rfl⟩

theorem emptyIdx_ok : emptyIdx.Ok 0 := ⟨emptyPool_ok, ⟨fun _ h => absurd rfl h, fun _ => Nat.le_refl _, fun _ _ => rfl, fun _ => ⟨by simp [emptyIdx, noNod], by simp [emptyIdx, noNod], by simp [emptyIdx, noNod], by simp [emptyIdx, noNod]⟩⟩⟩

theorem idxNew_any (w : World) : Calls Try.prog 22 #[] w fun e w' => ∃ x gp bp bn, e = .returned (.pointer (some ⟨x, 0, none⟩)) ∧ IdxAt w' x gp bp bn 0 emptyIdx ∧ w.heap.size ≤ x ∧ w.heap.size ≤ gp ∧ w.heap.size ≤ bp ∧ w.heap.size ≤ bn ∧ Below w.heap.size w w' := by
  have hmm := @run_makeMap Try.prog
  go_enter Try.func22, Try.ntmps22
  go_wp2_with fail
  ((with_reducible refine (poolNew_any _).mono ?_); rintro e w1 ⟨rfl, h1, hb1⟩)
  have hz := h1.lt
  have hz' := h1.ltb
  have hsz := hb1.size
  go_wp2
  go_ret
  have b2 : Below w1.heap.size w1 ((w1.alloc (.map #[] 0)).alloc (.cells #[.pointer (some ⟨w.heap.size + 1, 0, none⟩), .map (some w1.heap.size)] 85)) := ((Below.refl _ _).alloc (Nat.le_refl _) _).alloc (by simp) _
  refine ⟨w1.heap.size + 1, w.heap.size + 1, w.heap.size, w1.heap.size, rfl, ⟨?_, h1.below b2, ?_, by omega, emptyIdx_ok.N⟩, by omega, by omega, by omega, by omega, belowThen hb1 b2⟩
  · simpa using heap_alloc_new (w1.alloc (.map #[] 0)) (.cells #[.pointer (some ⟨w.heap.size + 1, 0, none⟩), .map (some w1.heap.size)] 85)
  · exact ((MapOf.made w1 24).keep (Below.heap_alloc _ _ _ (by simp))).congr (fun m => by simp [nodMap, hasNod, emptyIdx, noNod])

theorem idxNumbers_any (w : World) (x gp bp bn K : Nat) (X : IdxM) (h : IdxAt w x gp bp bn K X) : Calls Try.prog 51 #[.pointer (some ⟨x, 0, none⟩)] w (RetInts w (nodsOf X.N)) := by
  have c1 := h.cell1
  go_enter Try.func51, Try.ntmps51
  go_wp2_with fail
  ((with_reducible refine (sorted_Node bn 24 (nodMap X.N) _ h.map (by omega)).mono ?_); rintro e w1 ⟨v, rfl, hO, hb1⟩)
  go_wp2
  go_ret
  exact ⟨v, rfl, hO, hb1⟩

/-- What a call on an index leaves: another index, no reference count above K'. -/
def IdxRet (w : World) (x gp bp bn K' : Nat) (X : IdxM) (v : Value) (e : Ending) (w' : World) : Prop := e = .returned v ∧ IdxAt w' x gp bp bn K' X ∧ Turn [bp, bn] w w'

theorem refBlock_any (w : World) (x gp bp bn K : Nat) (X : IdxM) (k : Nat) (h : IdxAt w x gp bp bn K X) (hk : k ≤ 1000) (hK : K ≤ 1000000000) :
    Calls Try.prog 43 #[.pointer (some ⟨x, 0, none⟩), .int .i64 k] w (IdxRet w x gp bp bn (K + 1) (X.refB k) (.tuple #[])) := by
  have c0 := h.cell0
  go_enter Try.func43, Try.ntmps43
  go_wp2_with fail
  ((with_reducible refine (poolRef_any gp bp K _ X.P k h.pool (by omega) hK).mono ?_); rintro e w1 ⟨rfl, h1, ht1⟩)
  go_wp2
  go_end0
  exact ⟨rfl, h.pooled h1 ht1 (by omega), ht1.mono (by simp)⟩

theorem unrefBlock_any (w : World) (x gp bp bn K : Nat) (X : IdxM) (k : Nat) (h : IdxAt w x gp bp bn K X) (hk : k ≤ 1000) (hK : K ≤ 1000000000) :
    Calls Try.prog 44 #[.pointer (some ⟨x, 0, none⟩), .int .i64 k] w (IdxRet w x gp bp bn K (X.unrefB k) (.tuple #[])) := by
  have c0 := h.cell0
  go_enter Try.func44, Try.ntmps44
  go_wp2_with fail
  ((with_reducible refine (poolUnref_any gp bp K _ X.P k h.pool (by omega) hK).mono ?_); rintro e w1 ⟨rfl, h1, ht1⟩)
  go_wp2
  go_end0
  exact ⟨rfl, h.pooled h1 ht1 (by omega), ht1.mono (by simp)⟩

set_option maxHeartbeats 1000000 in
set_option maxRecDepth 100000 in
theorem refNode_any (w : World) (x gp bp bn K : Nat) (X : IdxM) (k : Nat) (h : IdxAt w x gp bp bn K X) (hk : k ≤ 1000) (hK : K ≤ 1000000000) :
    Calls Try.prog 45 #[.pointer (some ⟨x, 0, none⟩), .int .i64 k] w (IdxRet w x gp bp bn (K + 1) (X.refN k) (.tuple #[])) := by
  have c1 := h.cell1
  have hM := h.map
  have hlt := h.lt
  have q1 := nodMap_get h.ok k
  unfold nodV at q1
  have Q1 := Lib.hid q1
  clear q1
  cases hh : hasNod X.N k with
  | true =>
    have q2 : (nodMap X.N k).isSome = true := by rw [nodMap_isSome, hh]
    have Q2 := Lib.hid q2
    obtain ⟨hn1, hn2, hn3⟩ := (hasNod_iff X.N k).1 hh
    have hrefs := h.ok.refs k
    have hok := setNod_ok (n := k) h.ok (Nat.le_succ K) (by omega) (by omega) (b := { X.N k with refs := (X.N k).refs + 1 }) (by simpa using hrefs) (by simp) (h.ok.kids k)
    have hX : X.refN k = { X with N := setNod X.N k { X.N k with refs := (X.N k).refs + 1 } } := by unfold IdxM.refN incN; rw [hh]; rfl
    have HX := Lib.hid hX
    have i1 : IntKind.i64.wrap (((X.N k).refs : Int) + 1) = ((X.N k).refs : Int) + 1 := IntWalk.i64_in _ (by omega)
    have h0 : IdxAt (w.alloc (.cells #[.int .i64 (X.N k).k0, .int .i64 (X.N k).k1, .int .i64 (X.N k).k2, .int .i64 (X.N k).k3, .int .i64 (((X.N k).refs : Int) + 1)] 33)) x gp bp bn K X := h.below ((Below.refl _ _).alloc (Nat.le_refl _) _)
    have c2 := h0.cell1
    clear hh q2 hX hn3
    go_enter Try.func45, Try.ntmps45
    go_wp2_with (first
      | (at_lookup; refine wpList_lookOk rfl _ _ 83 rfl 33 Try.underlying83 _ (Try.zeroNode _) bn 24 _ rfl hM k rfl (by omega) _ true Q1.out Q2.out ?_)
      | go_in)
    refine region_tail 6 (by kernel_rfl) (by kernel_rfl) ?_
    intro w2 hw2
    have h2 : IdxAt w2 x gp bp bn K X := by rw [hw2]; exact h0.below (Below.refl _ _).drew
    have k0 : w2.cell? ⟨w.heap.size, 0, none⟩ = some (.int .i64 (X.N k).k0) := by rw [hw2]; exact cell_of_row _ _ _ _ _ _ (heap_alloc_new w _)
    have k1 : w2.cell? ⟨w.heap.size, 1, none⟩ = some (.int .i64 (X.N k).k1) := by rw [hw2]; exact cell_of_row _ _ _ _ _ _ (heap_alloc_new w _)
    have k2 : w2.cell? ⟨w.heap.size, 2, none⟩ = some (.int .i64 (X.N k).k2) := by rw [hw2]; exact cell_of_row _ _ _ _ _ _ (heap_alloc_new w _)
    have k3 : w2.cell? ⟨w.heap.size, 3, none⟩ = some (.int .i64 (X.N k).k3) := by rw [hw2]; exact cell_of_row _ _ _ _ _ _ (heap_alloc_new w _)
    have k4 : w2.cell? ⟨w.heap.size, 4, none⟩ = some (.int .i64 (((X.N k).refs : Int) + 1)) := by rw [hw2]; exact cell_of_row _ _ _ _ _ _ (heap_alloc_new w _)
    have t2 : Turn [bp, bn] w w2 := ((Turn.refl _ _).alloc _).of_drew hw2
    have c3 := h2.cell1
    have hM2 := h2.map
    clear hw2 c2 h0
    simp only [List.take_succ_cons, List.take_zero, List.drop_succ_cons, List.drop_zero]
    repeat still_step
    refine wpStill_nil ?_
    go_wp2_with (first
      | (at_mapUpdate; refine wpList_putMap rfl _ _ _ 83 rfl 33 Try.underlying83 bn 24 _ rfl hM2 (by omega) k rfl (by omega) _ rfl ?_; intro w3 hM3 ht3)
      | go_in)
    go_end0
    refine ⟨rfl, ?_, t2.turned ht3 (by simp)⟩
    rw [HX.out]
    exact h2.noded hM3 ht3 (fun m => nodMap_set (by omega) (by omega) (b := { X.N k with refs := (X.N k).refs + 1 }) (by simp) m) hok (by omega)
  | false =>
    have q2 : (nodMap X.N k).isSome = false := by rw [nodMap_isSome, hh]
    have Q2 := Lib.hid q2
    have hX : X.refN k = X := by unfold IdxM.refN incN; rw [hh]; rfl
    have HX := Lib.hid hX
    clear hh q2 hX
    go_enter Try.func45, Try.ntmps45
    go_wp2_with (first
      | (at_lookup; refine wpList_lookOk rfl _ _ 83 rfl 33 Try.underlying83 _ (Try.zeroNode _) bn 24 _ rfl hM k rfl (by omega) _ false Q1.out Q2.out ?_)
      | go_in)
    go_end0
    have b1 := (Below.refl w.heap.size w).alloc (Nat.le_refl _) (.cells #[.int .i64 (X.N k).k0, .int .i64 (X.N k).k1, .int .i64 (X.N k).k2, .int .i64 (X.N k).k3, .int .i64 (X.N k).refs] 33)
    refine ⟨rfl, ?_, Turn.of_below b1⟩
    rw [HX.out]
    exact (h.below b1).mono (by omega)
end Go.Proofs.Ytmgnikkbakpbdaa
