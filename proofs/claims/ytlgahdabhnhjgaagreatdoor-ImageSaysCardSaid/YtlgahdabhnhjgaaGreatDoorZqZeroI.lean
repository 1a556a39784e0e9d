/- The reference's empty index. -/
import Derived.Test.YtlgahdabhnhjgaaGreatDoorZqPool
import Derived.Test.YtlgahdabhnhjgaaGreatDoorZqKept
/- The reference's index in memory: its blocks; PutBlock, RefBlock, GetBlock, Blocks. -/
namespace Go.Proofs.YtlgahdabhnhjgaaGreatDoor
open Go.RowKit Go.Maps

/-- The reference's blocks in memory (its nodes lie behind them). -/
structure BlksAt (w : World) (g : Nat) (p : PoolM) : Prop where
  data : ∀ n, n ≤ 40 → w.cell? ⟨g, n * 2, none⟩ = some (.string (p n).data)
  refs : ∀ n, n ≤ 40 → w.cell? ⟨g, n * 2 + 1, none⟩ = some (.int .i64 (p n).refs)
  free : ∀ i, w.frozen? ⟨g, i, none⟩ = false

theorem BlksAt.lt {w : World} {g : Nat} {p : PoolM} (h : BlksAt w g p) : g < w.heap.size := World.block_lt_of_cell? w ⟨g, 0, none⟩ (h.data 0 (by omega))
theorem BlksAt.keep {w w' : World} {g : Nat} {p : PoolM} (h : BlksAt w g p) (hk : w'.heap[g]? = w.heap[g]?) : BlksAt w' g p :=
  ⟨fun n hn => by rw [World.cell?_of_block (w := w) (a := ⟨g, n * 2, none⟩) hk]; exact h.data n hn, fun n hn => by rw [World.cell?_of_block (w := w) (a := ⟨g, n * 2 + 1, none⟩) hk]; exact h.refs n hn, fun i => by rw [World.frozen?_of_block (w := w) (a := ⟨g, i, none⟩) hk]; exact h.free i⟩
theorem BlksAt.below {w w' : World} {g : Nat} {p : PoolM} (h : BlksAt w g p) (hb : Below w.heap.size w w') : BlksAt w' g p := h.keep (hb.block g h.lt)
theorem BlksAt.turn {w w' : World} {g : Nat} {p : PoolM} {bs : List Nat} (h : BlksAt w g p) (ht : Turn bs w w') (hn : g ∉ bs) : BlksAt w' g p := h.keep (ht.block g h.lt hn)
/-- One block is stored anew. -/
theorem BlksAt.setRefs {w : World} {g : Nat} {p : PoolM} (h : BlksAt w g p) {n : Nat} (hn : n ≤ 40) (r : Nat) : BlksAt (w.setCell ⟨g, n * 2 + 1, none⟩ (.int .i64 r)) g (setBlk p n ⟨(p n).data, r⟩) := by
  refine ⟨fun m hm => ?_, fun m hm => ?_, fun i => by rw [World.frozen?_setCell]; exact h.free i⟩
  · rw [World.cell?_setCell_other w _ _ _ (fun x => by injection x with _ y _; omega), h.data m hm]
    by_cases e : m = n
    · subst e; simp [setBlk]
    · simp [setBlk, e]
  · by_cases e : m = n
    · subst e
      rw [World.cell?_setCell_same w _ _ (h.refs m hm)]
      simp [setBlk]
    · rw [World.cell?_setCell_other w _ _ _ (fun x => by injection x with _ y _; omega), h.refs m hm]
      simp [setBlk, e]
theorem BlksAt.setData {w : World} {g : Nat} {p : PoolM} (h : BlksAt w g p) {n : Nat} (hn : n ≤ 40) (s : ByteArray) : BlksAt (w.setCell ⟨g, n * 2, none⟩ (.string s)) g (setBlk p n ⟨s, (p n).refs⟩) := by
  refine ⟨fun m hm => ?_, fun m hm => ?_, fun i => by rw [World.frozen?_setCell]; exact h.free i⟩
  · by_cases e : m = n
    · subst e
      rw [World.cell?_setCell_same w _ _ (h.data m hm)]
      simp [setBlk]
    · rw [World.cell?_setCell_other w _ _ _ (fun x => by injection x with _ y _; omega), h.data m hm]
      simp [setBlk, e]
  · rw [World.cell?_setCell_other w _ _ _ (fun x => by injection x with _ y _; omega), h.refs m hm]
    by_cases e : m = n
    · subst e; simp [setBlk]
    · simp [setBlk, e]
theorem BlksAt.set {w : World} {g : Nat} {p : PoolM} (h : BlksAt w g p) {n : Nat} (hn : n ≤ 40) (b : Blk) : BlksAt ((w.setCell ⟨g, n * 2, none⟩ (.string b.data)).setCell ⟨g, n * 2 + 1, none⟩ (.int .i64 b.refs)) g (setBlk p n b) := by
  have := (h.setData hn b.data).setRefs hn b.refs
  have e : setBlk (setBlk p n ⟨b.data, (p n).refs⟩) n ⟨(setBlk p n ⟨b.data, (p n).refs⟩ n).data, b.refs⟩ = setBlk p n b := by
    funext i
    unfold setBlk
    by_cases h : i = n
    · simp [h]
    · simp [h]
  rw [e] at this
  exact this
theorem Turn.cell {bs : List Nat} {a b : World} (h : Turn bs a b) {p : Addr} (hp : p.block ∈ bs) (u : Value) : Turn bs a (b.setCell p u) :=
  ⟨h.os, h.tape, h.output, by simpa using h.size, fun k hk hn => (Below.heap_setCell _ _ _ _ (fun e => hn (by rw [e]; exact hp))).trans (h.block k hk hn)⟩

/-- RefBlock, by one more or one less. -/
theorem refRef_no (g : Nat) (w : World) (p : PoolM) (id many : Int) (h : BlksAt w g p) (hh : hasBlk p id = false) :
    Calls Tryz.prog 123 #[.pointer (some ⟨g, 0, none⟩), .int .i64 id, .int .i64 many] w fun e w' => e = .returned (.int .i64 5) ∧ w = w' := by
  by_cases h1 : id < 1
  · clear hh
    go_enter Tryz.func123, Tryz.ntmps123
    go_wp2
    go_ret
    exact ⟨rfl, rfl⟩
  have h1' : decide (id < 1) = false := by simpa using h1
  by_cases h2 : 40 < id
  · clear hh
    go_enter Tryz.func123, Tryz.ntmps123
    go_wp2
    go_ret
    exact ⟨rfl, rfl⟩
  have h2' : decide (40 < id) = false := by simpa using h2
  obtain ⟨n, rfl⟩ := Int.eq_ofNat_of_zero_le (show 0 ≤ id by omega)
  have c1 := h.refs n (by omega)
  have h3 : (p n).refs = 0 := by
    simp [hasBlk] at hh
    exact hh (by omega) (by omega)
  rw [h3] at c1
  have i1 : (0 : Int) ≤ (n : Int) := by omega
  have i2 : (n : Int) < 41 := by omega
  clear hh h3
  go_enter Tryz.func123, Tryz.ntmps123
  go_wp2
  go_ret
  exact ⟨rfl, rfl⟩

/-- What lies behind the blocks is as it was. -/
def Past (g : Nat) (w w' : World) : Prop := ∀ i, 82 ≤ i → w'.cell? ⟨g, i, none⟩ = w.cell? ⟨g, i, none⟩
theorem Past.refl (g : Nat) (w : World) : Past g w w := fun _ _ => rfl
theorem Past.of_drew {g : Nat} {w w2 : World} (e : w2 = w.drew) : Past g w w2 := fun _ _ => by rw [e]; rfl
theorem Past.cell {g : Nat} {w w' : World} (h : Past g w w') {o : Nat} (ho : o < 82) (v : Value) : Past g w (w'.setCell ⟨g, o, none⟩ v) := fun i hi => by
  rw [World.cell?_setCell_other w' _ _ _ (fun x => by injection x with _ y _; omega)]
  exact h i hi
/-- What RefBlock leaves. -/
def RefRet (g : Nat) (p : PoolM) (n r : Nat) (w w' : World) : Prop := BlksAt w' g (setBlk p n (if r = 0 then noBlk else ⟨(p n).data, r⟩)) ∧ Turn [g] w w' ∧ Past g w w'

set_option maxHeartbeats 1000000 in
set_option maxRecDepth 100000 in
theorem refRef_yes (g : Nat) (w : World) (p : PoolM) (n r : Nat) (many : Int) (h : BlksAt w g p) (hh : hasBlk p n = true) (hmany : -1 ≤ many ∧ many ≤ 1) (hr : ((p n).refs : Int) + many = r) (hK : (p n).refs ≤ 1000000000) :
    Calls Tryz.prog 123 #[.pointer (some ⟨g, 0, none⟩), .int .i64 n, .int .i64 many] w fun e w' => e = .returned (.int .i64 0) ∧ RefRet g p n r w w' := by
  obtain ⟨hn1, hn2, hn3⟩ := (hasBlk_iff p n).1 hh
  have hn3 : (p n).refs ≠ 0 := hn3
  have hn40 : n ≤ 40 := by omega
  have c1 := h.refs n hn40
  have i0 : decide ((n : Int) < 1) = false := by simp; omega
  have i0' : decide (40 < (n : Int)) = false := by simp; omega
  have i1 : (0 : Int) ≤ (n : Int) := by omega
  have i2 : (n : Int) < 41 := by omega
  have i3 : (((p n).refs : Int) == 0) = false := by simpa using hn3
  have i4 : IntKind.i64.wrap (((p n).refs : Int) + many) = (r : Int) := by rw [hr]; exact IntWalk.i64_in _ (by omega)
  have HR := Lib.hid hr
  clear hh hr hn3
  go_enter Tryz.func123, Tryz.ntmps123
  go_wp2
  refine region_tail 15 (by kernel_rfl) (by kernel_rfl) ?_
  intro w2 hw2
  have h2 : BlksAt w2 g p := by rw [hw2]; exact h.keep rfl
  have t2 : Turn [g] w w2 := (Turn.refl _ _).of_drew hw2
  have p3 := (Past.of_drew (g := g) hw2).cell (show n * 2 + 1 < 82 by omega) (.int .i64 r)
  have c2 := h2.refs n hn40
  have f2 := h2.free (n * 2 + 1)
  have h3 := h2.setRefs hn40 r
  have t3 := t2.cell (p := ⟨g, n * 2 + 1, none⟩) (by simp) (.int .i64 r)
  clear hw2 c1
  simp only [List.take_succ_cons, List.take_zero, List.drop_succ_cons, List.drop_zero]
  repeat still_step
  refine wpStill_nil ?_
  generalize hw3 : w2.setCell ⟨g, n * 2 + 1, none⟩ (.int .i64 r) = w3 at h3 t3 p3
  have c3 := h3.refs n hn40
  have c4 := h3.data n hn40
  have f3 := h3.free (n * 2 + 1)
  have f4 := h3.free (n * 2)
  have e1 : setBlk p n ⟨(p n).data, r⟩ n = ⟨(p n).data, r⟩ := by simp [setBlk]
  rw [e1] at c3 c4
  by_cases hr0 : r = 0
  · have h4 := h3.set hn40 noBlk
    have t4 := (t3.cell (p := ⟨g, n * 2, none⟩) (by simp) (.string noBlk.data)).cell (p := ⟨g, n * 2 + 1, none⟩) (by simp) (.int .i64 noBlk.refs)
    have e2 : setBlk (setBlk p n ⟨(p n).data, r⟩) n noBlk = setBlk p n noBlk := by funext i; unfold setBlk; split <;> rfl
    rw [e2] at h4
    have hr0' : ((r : Int) == 0) = true := by simpa using hr0
    have hbd : ∀ w, (Instr.build 77 #[]).run Tryz.prog w = .ok (.agg #[.string ByteArray.empty, .int .i64 0]) w := fun w => by kernel_rfl
    have h5 : RefRet g p n r w ((w3.setCell ⟨g, n * 2, none⟩ (.string ByteArray.empty)).setCell ⟨g, n * 2 + 1, none⟩ (.int .i64 0)) := by unfold RefRet; rw [if_pos hr0]; exact ⟨h4, t4, (p3.cell (show n * 2 < 82 by omega) _).cell (show n * 2 + 1 < 82 by omega) _⟩
    clear e1 e2 h3 t3 h4 t4 hr0 h2 t2 p3
    go_wp2
    go_ret
    exact ⟨rfl, h5⟩
  · have hr0' : ((r : Int) == 0) = false := by simpa using hr0
    have h4 : RefRet g p n r w w3 := by unfold RefRet; rw [if_neg hr0]; exact ⟨h3, t3, p3⟩
    clear e1 h3 t3 hr0 h2 t2 p3
    go_wp2
    go_ret
    exact ⟨rfl, h4⟩
end Go.Proofs.YtlgahdabhnhjgaaGreatDoor

/- The reference's index: PutBlock, Blocks; and same. -/
namespace Go.Proofs.YtlgahdabhnhjgaaGreatDoor
open Go.RowKit Go.Maps

/-- What PutBlock leaves. -/
def PutRet (g : Nat) (q : PoolM) (w w' : World) : Prop := BlksAt w' g q ∧ Turn [g] w w' ∧ Past g w w'

set_option maxHeartbeats 1000000 in
set_option maxRecDepth 100000 in
theorem refPut_any (g : Nat) (w : World) (p : PoolM) (data : ByteArray) (h : BlksAt w g p) (hdata : data.size ≤ 9223372036854775807) :
    Calls Tryz.prog 121 #[.pointer (some ⟨g, 0, none⟩), .string data] w fun e w' => e = .returned (.tuple #[.int .i64 (putId p data), .int .i64 (putErr p data)]) ∧ PutRet g (putP p data) w w' := by
  by_cases hd0 : data.size = 0
  · obtain rfl : data = ByteArray.empty := by
      apply ByteArray.ext
      exact Array.eq_empty_of_size_eq_zero hd0
    have he : putErr p ByteArray.empty = 3 := rfl
    rw [show putId p ByteArray.empty = 0 by unfold putId; rw [he]; rfl, show putP p ByteArray.empty = p by unfold putP; rw [he]; rfl, he]
    go_enter Tryz.func121, Tryz.ntmps121
    go_wp2
    go_ret2
    exact ⟨rfl, h, Turn.refl _ _, Past.refl _ _⟩
  have hne := notEmpty hd0
  by_cases hd6 : 6 < data.size
  · have he : putErr p data = 3 := by unfold putErr; rw [if_pos (Or.inr hd6)]
    rw [show putId p data = 0 by unfold putId; rw [he]; rfl, show putP p data = p by unfold putP; rw [he]; rfl, he]
    clear he
    go_enter Tryz.func121, Tryz.ntmps121
    go_wp2
    all_goals
      go_ret2
      exact ⟨rfl, h, Turn.refl _ _, Past.refl _ _⟩
  have hd7 : decide (6 < (data.size : Int)) = false := by simp; omega
  cases hff : firstFree 40 (usedBlk p) with
  | none =>
    have he : putErr p data = 8 := by unfold putErr; rw [if_neg (by omega), if_pos hff]
    rw [show putId p data = 0 by unfold putId; rw [he]; rfl, show putP p data = p by unfold putP; rw [he]; rfl, he]
    have HU := Lib.hid (firstFree_none hff)
    clear he hff
    go_enter Tryz.func121, Tryz.ntmps121
    go_wp2
    go_loopw [6] (fun i wr => ∃ k : Nat, 1 ≤ k ∧ k ≤ 41 ∧ i = .int .i64 k ∧ wr = w) (fun i _ => 41 - (intOf i).toNat)
    case atStart => exact ⟨1, Nat.le_refl _, by omega, rfl, rfl⟩
    case round =>
      obtain ⟨k, hk1, hk, rfl, rfl⟩ := hrel
      by_cases hlt : k ≤ 40
      · have c1 := h.refs k hlt
        have hu : (p k).refs ≠ 0 := by have := HU.out k hk1 hlt; simpa [usedBlk] using this
        have i1 : (0 : Int) ≤ (k : Int) := by omega
        have i2 : (k : Int) < 41 := by omega
        have i3 : (((p k).refs : Int) == 0) = false := by simpa using hu
        have i4 : (k : Int) ≤ 40 := by omega
        clear hu
        go_wp2
        go_roundw
        case rel => exact ⟨k + 1, by omega, by omega, by go_num, trivial⟩
        case measure => simp [intOf]; omega
      · obtain rfl : k = 41 := by omega
        go_wp2
        go_ret2
        exact ⟨rfl, h, Turn.refl _ _, Past.refl _ _⟩
  | some m =>
    have he : putErr p data = 0 := by unfold putErr; rw [if_neg (by omega), if_neg (by simp [hff])]
    have hid : putId p data = m := by unfold putId; rw [he, hff]; rfl
    rw [show putP p data = setBlk p m ⟨data, 1⟩ by unfold putP; rw [he, hid]; rfl, hid, he]
    obtain ⟨m1, m2, m3, m4⟩ := firstFree_some hff
    have HU := Lib.hid m4
    have H0 := Lib.hid m3
    clear he hff hid m3 m4
    go_enter Tryz.func121, Tryz.ntmps121
    go_wp2
    go_loopw [6] (fun i wr => ∃ k : Nat, 1 ≤ k ∧ k ≤ m ∧ i = .int .i64 k ∧ wr = w) (fun i _ => 41 - (intOf i).toNat)
    case atStart => exact ⟨1, Nat.le_refl _, by omega, rfl, rfl⟩
    case round =>
      obtain ⟨k, hk1, hk, rfl, rfl⟩ := hrel
      have hk40 : k ≤ 40 := by omega
      have c1 := h.refs k hk40
      have i1 : (0 : Int) ≤ (k : Int) := by omega
      have i2 : (k : Int) < 41 := by omega
      have i4 : (k : Int) ≤ 40 := by omega
      by_cases hlt : k < m
      · have hu : (p k).refs ≠ 0 := by have := HU.out k hk1 hlt; simpa [usedBlk] using this
        have i3 : (((p k).refs : Int) == 0) = false := by simpa using hu
        clear hu
        go_wp2
        go_roundw
        case rel => exact ⟨k + 1, by omega, by omega, by go_num, trivial⟩
        case measure => simp [intOf]; omega
      · obtain rfl : k = m := by omega
        have hu : (p k).refs = 0 := by have := H0.out; simpa [usedBlk] using this
        have i3 : (((p k).refs : Int) == 0) = true := by simpa using hu
        have c2 := h.data k hk40
        have f1 := h.free (k * 2 + 1)
        have f2 := h.free (k * 2)
        have h4 := h.set hk40 ⟨data, 1⟩
        have t4 := ((Turn.refl [g] wr).cell (p := ⟨g, k * 2, none⟩) (by simp) (.string data)).cell (p := ⟨g, k * 2 + 1, none⟩) (by simp) (.int .i64 1)
        clear hu
        go_wp2
        go_ret2
        exact ⟨rfl, h4, t4, ((Past.refl g wr).cell (show k * 2 < 82 by omega) _).cell (show k * 2 + 1 < 82 by omega) _⟩

def blocksUp (p : PoolM) (k : Nat) : List Int := ((List.range k).map fun i => ((i : Nat) : Int) + 1).filter fun m => (poolMap p m).isSome
theorem blocksUp_succ (p : PoolM) (k : Nat) (hk : k < 40) : blocksUp p (k + 1) = blocksUp p k ++ if 0 < (p (k + 1)).refs then [((k + 1 : Nat) : Int)] else [] := by
  unfold blocksUp
  rw [List.range_succ, List.map_append, List.filter_append]
  congr 1
  have e : ((k : Int) + 1) = ((k + 1 : Nat) : Int) := by omega
  have : (poolMap p ((k + 1 : Nat) : Int)).isSome = decide (0 < (p (k + 1)).refs) := by
    rw [poolMap_isSome, Bool.eq_iff_iff, hasBlk_iff]
    simp only [Int.toNat_natCast, decide_eq_true_eq]
    omega
  by_cases h : 0 < (p (k + 1)).refs
  · simp only [List.map_cons, List.map_nil, List.filter_cons, List.filter_nil, e, this, h, decide_true, if_true]
  · simp only [List.map_cons, List.map_nil, List.filter_cons, List.filter_nil, e, this, h, decide_false, if_false, Bool.false_eq_true]
theorem blocksUp_all (p : PoolM) : blocksUp p 40 = numsOf p := rfl
theorem blocksUp_len (p : PoolM) (k : Nat) : (blocksUp p k).length ≤ k := by
  have := List.length_filter_le (fun m => (poolMap p m).isSome) ((List.range k).map fun i => ((i : Nat) : Int) + 1)
  simpa [blocksUp] using this

set_option maxHeartbeats 1000000 in
set_option maxRecDepth 100000 in
theorem refBlocks_any (g : Nat) (w : World) (p : PoolM) (h : BlksAt w g p) :
    Calls Tryz.prog 39 #[.pointer (some ⟨g, 0, none⟩)] w (RetInts w (numsOf p)) := by
  obtain ⟨i0, hi, hz0, hz1, hz2⟩ := info_parts Tryz.infoInt
  rw [← blocksUp_all]
  go_enter Tryz.func39, Tryz.ntmps39
  go_wp2
  go_loopw [3, 4] (fun v i w' => ∃ k : Nat, k ≤ 40 ∧ i = .int .i64 ((k + 1 : Nat) : Int) ∧ OwnInts w' w.heap.size v (blocksUp p k) ∧ Below w.heap.size w w') (fun _ i _ => 41 - (intOf i).toNat)
  case atStart => exact ⟨0, Nat.zero_le _, rfl, World.ownsRow_nil _ _ _ _, Below.refl _ _⟩
  case round =>
    obtain ⟨k, hk, rfl, hO, hb0⟩ := hrel
    by_cases hlt : k < 40
    · have hB := h.below hb0
      have hD := blocksUp_succ p k hlt
      have hlen := blocksUp_len p k
      obtain ⟨n, hn⟩ : ∃ n, k + 1 = n := ⟨_, rfl⟩
      have HN := Lib.hid hn
      rw [hn] at hD ⊢
      have c1 := hB.refs n (by omega)
      have i1 : (0 : Int) ≤ (n : Int) := by omega
      have i2 : (n : Int) < 41 := by omega
      have i4 : (n : Int) ≤ 40 := by omega
      have hsz := hb0.size
      by_cases hu : 0 < (p n).refs
      · rw [if_pos hu] at hD
        have HD := Lib.hid hD
        clear hD hn
        go_wp2_with (at_builtin; refine wpList_append_own _ rfl _ _ 61 rfl w.heap.size 3 i0 (.int .i64 0) 1 8 Tryz.underlying61 hi hz0 hz1 hz2 rfl (by decide) _ _ _ rfl (World.ownsRow.alloc hO _) ⟨wr.heap.size, 0, none⟩ 1 1 [.int .i64 (n : Int)] rfl rfl (cell_one_new _ _ _) (by simp [Value.oneCell']) (by unfold maxLen; omega) (by omega) (by simp; omega) ?_; intro v' w3 hown' hg3 hnil3)
        go_wp2
        go_roundw
        case rel => exact ⟨k + 1, hlt, by have := HN.out; subst this; go_num, by rw [HN.out, HD.out]; unfold OwnInts; simpa using hown', (hb0.alloc hsz _).grown hg3 (by simp; omega) (fun j hj => (World.ownsRow.lt hO j hj).1)⟩
        case measure => have := HN.out; simp [intOf]; omega
      · rw [if_neg hu, List.append_nil] at hD
        have HD := Lib.hid hD
        have i3 : decide (0 < (p n).refs) = false := by simpa using hu
        clear hD hn
        go_wp2
        go_roundw
        case rel => exact ⟨k + 1, hlt, by have := HN.out; subst this; go_num, by rw [HN.out, HD.out]; exact hO, hb0⟩
        case measure => have := HN.out; simp [intOf]; omega
    · obtain rfl : k = 40 := by omega
      go_wp2
      go_ret
      exact ⟨_, rfl, hO, hb0⟩

end Go.Proofs.YtlgahdabhnhjgaaGreatDoor

/- The reference's empty index. -/
namespace Go.Proofs.YtlgahdabhnhjgaaGreatDoor
open Go.RowKit Go.Maps

theorem zeroIdx_cells : Tryz.zeroCells84.toList.take 82 = (List.replicate 41 [Value.string ByteArray.empty, Value.int .i64 0]).flatten := by kernel_rfl
theorem zeroIdx_at (i : Nat) (hi : i < 82) : Tryz.zeroCells84[i]? = if i % 2 = 0 then some (.string ByteArray.empty) else some (.int .i64 0) := by
  have h1 : Tryz.zeroCells84[i]? = (Tryz.zeroCells84.toList.take 82)[i]? := by
    rw [List.getElem?_take_of_lt hi, Array.getElem?_toList]
  rw [h1, zeroIdx_cells]
  have : ∀ (k i : Nat), i < k * 2 → ((List.replicate k [Value.string ByteArray.empty, Value.int .i64 0]).flatten)[i]? = if i % 2 = 0 then some (.string ByteArray.empty) else some (.int .i64 0) := by
    intro k
    induction k with
    | zero => intro i hi; omega
    | succ k ih =>
      intro i hi
      rw [List.replicate_succ, List.flatten_cons]
      match i with
      | 0 => rfl
      | 1 => rfl
      | i + 2 =>
        have := ih i (by omega)
        rw [show (i + 2) % 2 = i % 2 by omega, ← this]
        rfl
  exact this 41 i (by omega)
theorem blks_new (w : World) : BlksAt (w.alloc (.cells Tryz.zeroCells84 84)) w.heap.size emptyPool := by
  refine ⟨fun n hn => ?_, fun n hn => ?_, fun i => World.frozen?_alloc_at _ _ _ _ rfl⟩
  · rw [World.cell?_alloc_at _ _ _ _ rfl, zeroIdx_at _ (by omega), if_pos (by omega)]; rfl
  · rw [World.cell?_alloc_at _ _ _ _ rfl, zeroIdx_at _ (by omega), if_neg (by omega)]; rfl
end Go.Proofs.YtlgahdabhnhjgaaGreatDoor
