/- The reference's index in memory: its blocks; PutBlock, RefBlock, GetBlock, Blocks. -/
import Derived.Test.YtmgnikkbakpbdaaPool
namespace Go.Proofs.Ytmgnikkbakpbdaa
open Go.RowKit Go.Maps

/-- The reference's blocks in memory (its nodes lie behind them). -/
structure BlksAt (w : World) (g : Nat) (p : PoolM) : Prop where
  data : ∀ n, n ≤ 40 → w.cell? ⟨g, n * 2, none⟩ = some (.string (p n).data)
  refs : ∀ n, n ≤ 40 → w.cell? ⟨g, n * 2 + 1, none⟩ = some (.int .i64 (p n).refs)
  free : ∀ i, w.frozen? ⟨g, i, none⟩ = false

theorem BlksAt.lt {w : World} {g : Nat} {p : PoolM} (h : BlksAt w g p) : g < w.heap.size := World.block_lt_of_cell? w ⟨g, 0, none⟩ (h.data 0 (by omega))
theorem BlksAt.keep {w w' : World} {g : Nat} {p : PoolM} (h : BlksAt w g p) (hk : w'.heap[g]? = w.heap[g]?) : BlksAt w' g p :=
  ⟨fun n hn => by rw [World.cell?_of_block (w := w) (a := ⟨g, n * 2, none⟩) hk]; exact h.data n hn, fun n hn => by rw [World.cell?_of_block (w := w) (a := ⟨g, n * 2 + 1, none⟩) hk]; exact h.refs n hn, fun i => by rw [World.frozen?_of_block (w := w) (a := ⟨g, i, none⟩) hk]; exact h.free i⟩
theorem BlksAt.below {w w' : World} {g : Nat} {p : PoolM} (h : BlksAt w g p) (hb : Below w.heap.size w w') : BlksAt w' g p := h.keep (hb.block g h.lt)
theorem BlksAt.turn {w w' : World} {g : Nat} {p : PoolM} {bs : List Nat} (h : BlksAt w g p) (ht : Turn bs w w') (hn : g ∉ bs) : BlksAt w' g p := h.keep (ht.block g h.lt hn)
/-- One block is stored anew. -/
theorem BlksAt.setRefs {w : World} {g : Nat} {p : PoolM} (h : BlksAt w g p) {n : Nat} (hn : n ≤ 40) (r : Nat) : BlksAt (w.setCell ⟨g, n * 2 + 1, none⟩ (.int .i64 r)) g (setBlk p n ⟨(p n).data, r⟩) := by
  refine ⟨fun m hm => ?_, fun m hm => ?_, fun i => by rw [World.frozen?_setCell]; exact h.free i⟩
  · rw [World.cell?_setCell_other w _ _ _ (fun x => by injection x with _ y _; omega), h.data m hm]
    by_cases e : m = n
    · subst e; simp [setBlk]
    · simp [setBlk, e]
  · by_cases e : m = n
    · subst e
      rw [World.cell?_setCell_same w _ _ (h.refs m hm)]
      simp [setBlk]
    · rw [World.cell?_setCell_other w _ _ _ (fun x => by injection x with _ y _; omega), h.refs m hm]
      simp [setBlk, e]
theorem BlksAt.setData {w : World} {g : Nat} {p : PoolM} (h : BlksAt w g p) {n : Nat} (hn : n ≤ 40) (s : ByteArray) : BlksAt (w.setCell ⟨g, n * 2, none⟩ (.string s)) g (setBlk p n ⟨s, (p n).refs⟩) := by
  refine ⟨fun m hm => ?_, fun m hm => ?_, fun i => by rw [World.frozen?_setCell]; exact h.free i⟩
  · by_cases e : m = n
    · subst e
      rw [World.cell?_setCell_same w _ _ (h.data m hm)]
      simp [setBlk]
    · rw [World.cell?_setCell_other w _ _ _ (fun x => by injection x with _ y _; omega), h.data m hm]
      simp [setBlk, e]
  · rw [World.cell?_setCell_other w _ _ _ (fun x => by injection x with _ y _; omega), h.refs m hm]
    by_cases e : m = n
    · subst e; simp [setBlk]
    · simp [setBlk, e]
theorem BlksAt.set {w : World} {g : Nat} {p : PoolM} (h : BlksAt w g p) {n : Nat} (hn : n ≤ 40) (b : Blk) : BlksAt ((w.setCell ⟨g, n * 2, none⟩ (.string b.data)).setCell ⟨g, n * 2 + 1, none⟩ (.int .i64 b.refs)) g (setBlk p n b) := by
  have := (h.setData hn b.data).setRefs hn b.refs
  have e : setBlk (setBlk p n ⟨b.data, (p n).refs⟩) n ⟨(setBlk p n ⟨b.data, (p n).refs⟩ n).data, b.refs⟩ = setBlk p n b := by
    funext i
    unfold setBlk
    by_cases h : i = n
    · simp [h]
    · simp [h]
  rw [e] at this
  exact this
theorem Turn.cell {bs : List Nat} {a b : World} (h : Turn bs a b) {p : Addr} (hp : p.block ∈ bs) (u : Value) : Turn bs a (b.setCell p u) :=
  ⟨h.os, h.tape, h.output, by simpa using h.size, fun k hk hn => (Below.heap_setCell _ _ _ _ (fun e => hn (by rw [e]; exact hp))).trans (h.block k hk hn)⟩

/-- RefBlock, by one more or one less. -/
theorem refRef_no (g : Nat) (w : World) (p : PoolM) (id many : Int) (h : BlksAt w g p) (hh : hasBlk p id = false) :
    Calls Try.prog 13 #[.pointer (some ⟨g, 0, none⟩), .int .i64 id, .int .i64 many] w fun e w' => e = .returned (.int .i64 5) ∧ w = w' := by
  by_cases h1 : id < 1
  · clear hh
    go_enter Try.func13, Try.ntmps13
    go_wp2
    go_ret
    exact ⟨rfl, rfl⟩
  have h1' : decide (id < 1) = false := by simpa using h1
  by_cases h2 : 40 < id
  · clear hh
    go_enter Try.func13, Try.ntmps13
    go_wp2
    go_ret
    exact ⟨rfl, rfl⟩
  have h2' : decide (40 < id) = false := by simpa using h2
  obtain ⟨n, rfl⟩ := Int.eq_ofNat_of_zero_le (show 0 ≤ id by omega)
  have c1 := h.refs n (by omega)
  have h3 : (p n).refs = 0 := by
    simp [hasBlk] at hh
    exact hh (by omega) (by omega)
  rw [h3] at c1
  have i1 : (0 : Int) ≤ (n : Int) := by omega
  have i2 : (n : Int) < 41 := by omega
  clear hh h3
  go_enter Try.func13, Try.ntmps13
  go_wp2
  go_ret
  exact ⟨rfl, rfl⟩

/-- What lies behind the blocks is as it was. -/
def Past (g : Nat) (w w' : World) : Prop := ∀ i, 82 ≤ i → w'.cell? ⟨g, i, none⟩ = w.cell? ⟨g, i, none⟩
theorem Past.refl (g : Nat) (w : World) : Past g w w := fun _ _ => rfl
theorem Past.of_drew {g : Nat} {w w2 : World} (e : w2 = w.drew) : Past g w w2 := fun _ _ => by rw [e]; rfl
theorem Past.cell {g : Nat} {w w' : World} (h : Past g w w') {o : Nat} (ho : o < 82) (v : Value) : Past g w (w'.setCell ⟨g, o, none⟩ v) := fun i hi => by
  rw [World.cell?_setCell_other w' _ _ _ (fun x => by injection x with _ y _; omega)]
  exact h i hi
/-- What RefBlock leaves. -/
def RefRet (g : Nat) (p : PoolM) (n r : Nat) (w w' : World) : Prop := BlksAt w' g (setBlk p n (if r = 0 then noBlk else ⟨(p n).data, r⟩)) ∧ Turn [g] w w' ∧ Past g w w'

set_option maxHeartbeats 1000000 in
set_option maxRecDepth 100000 in
theorem refRef_yes (g : Nat) (w : World) (p : PoolM) (n r : Nat) (many : Int) (h : BlksAt w g p) (hh : hasBlk p n = true) (hmany : -1 ≤ many ∧ many ≤ 1) (hr : ((p n).refs : Int) + many = r) (hK : (p n).refs ≤ 1000000000) :
    Calls Try.prog 13 #[.pointer (some ⟨g, 0, none⟩), .int .i64 n, .int .i64 many] w fun e w' => e = .returned (.int .i64 0) ∧ RefRet g p n r w w' := by
  obtain ⟨hn1, hn2, hn3⟩ := (hasBlk_iff p n).1 hh
  have hn3 : (p n).refs ≠ 0 := hn3
  have hn40 : n ≤ 40 := by omega
  have c1 := h.refs n hn40
  have i0 : decide ((n : Int) < 1) = false := by simp; omega
  have i0' : decide (40 < (n : Int)) = false := by simp; omega
  have i1 : (0 : Int) ≤ (n : Int) := by omega
  have i2 : (n : Int) < 41 := by omega
  have i3 : (((p n).refs : Int) == 0) = false := by simpa using hn3
  have i4 : IntKind.i64.wrap (((p n).refs : Int) + many) = (r : Int) := by rw [hr]; exact IntWalk.i64_in _ (by omega)
  have HR := Lib.hid hr
  clear hh hr hn3
  go_enter Try.func13, Try.ntmps13
  go_wp2
  refine region_tail 15 (by kernel_rfl) (by kernel_rfl) ?_
  intro w2 hw2
  have h2 : BlksAt w2 g p := by rw [hw2]; exact h.keep rfl
  have t2 : Turn [g] w w2 := (Turn.refl _ _).of_drew hw2
  have p3 := (Past.of_drew (g := g) hw2).cell (show n * 2 + 1 < 82 by omega) (.int .i64 r)
  have c2 := h2.refs n hn40
  have f2 := h2.free (n * 2 + 1)
  have h3 := h2.setRefs hn40 r
  have t3 := t2.cell (p := ⟨g, n * 2 + 1, none⟩) (by simp) (.int .i64 r)
  clear hw2 c1
  simp only [List.take_succ_cons, List.take_zero, List.drop_succ_cons, List.drop_zero]
  repeat still_step
  refine wpStill_nil ?_
  generalize hw3 : w2.setCell ⟨g, n * 2 + 1, none⟩ (.int .i64 r) = w3 at h3 t3 p3
  have c3 := h3.refs n hn40
  have c4 := h3.data n hn40
  have f3 := h3.free (n * 2 + 1)
  have f4 := h3.free (n * 2)
  have e1 : setBlk p n ⟨(p n).data, r⟩ n = ⟨(p n).data, r⟩ := by simp [setBlk]
  rw [e1] at c3 c4
  by_cases hr0 : r = 0
  · have h4 := h3.set hn40 noBlk
    have t4 := (t3.cell (p := ⟨g, n * 2, none⟩) (by simp) (.string noBlk.data)).cell (p := ⟨g, n * 2 + 1, none⟩) (by simp) (.int .i64 noBlk.refs)
    have e2 : setBlk (setBlk p n ⟨(p n).data, r⟩) n noBlk = setBlk p n noBlk := by funext i; unfold setBlk; split <;> rfl
    rw [e2] at h4
    have hr0' : ((r : Int) == 0) = true := by simpa using hr0
    have hbd : ∀ w, (Instr.build 29 #[]).run Try.prog w = .ok (.agg #[.string ByteArray.empty, .int .i64 0]) w := fun w => by kernel_rfl
    have h5 : RefRet g p n r w ((w3.setCell ⟨g, n * 2, none⟩ (.string ByteArray.empty)).setCell ⟨g, n * 2 + 1, none⟩ (.int .i64 0)) := by unfold RefRet; rw [if_pos hr0]; exact ⟨h4, t4, (p3.cell (show n * 2 < 82 by omega) _).cell (show n * 2 + 1 < 82 by omega) _⟩
    clear e1 e2 h3 t3 h4 t4 hr0 h2 t2 p3
    go_wp2
    go_ret
    exact ⟨rfl, h5⟩
  · have hr0' : ((r : Int) == 0) = false := by simpa using hr0
    have h4 : RefRet g p n r w w3 := by unfold RefRet; rw [if_neg hr0]; exact ⟨h3, t3, p3⟩
    clear e1 h3 t3 hr0 h2 t2 p3
    go_wp2
    go_ret
    exact ⟨rfl, h4⟩
end Go.Proofs.Ytmgnikkbakpbdaa
