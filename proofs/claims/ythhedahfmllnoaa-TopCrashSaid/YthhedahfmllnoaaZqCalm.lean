/- A disk of a few sectors that is not armed and not down: what its methods come to. -/
import Derived.Test.YthhedahfmllnoaaZqDk5
import Derived.Laws.MakeOwn
/- Package disk: New. -/
namespace Go.Proofs.Ythhedahfmllnoaa
open Go.RowKit
attribute [local go_sem ↓] Go.wp_at_zero Go.wp_at_succ

theorem Try.infoSectorZ : (Try.prog.info? 88).map (fun i => (i.zero, i.size, i.bytes)) = some (some (.agg (bv (List.replicate 80 0)).toArray), 80, 80) := by kernel_rfl

theorem secs_zero (n : Nat) : secs (List.replicate n (List.replicate 80 0)) = List.replicate (n * 80) (.int .u8 0) := by
  induction n with
  | zero => simp [secs]
  | succ n ih =>
    rw [List.replicate_succ, secs, List.flatMap_cons, show (List.replicate n (List.replicate 80 (0 : UInt8))).flatMap bv = secs (List.replicate n (List.replicate 80 0)) from rfl, ih, bv, List.map_replicate, show ((0 : UInt8).toNat : Int) = 0 from rfl, List.replicate_append_replicate]
    congr 1; omega

theorem made_zeros (m k : Nat) (hm : 0 < m) : madeCells (bv (List.replicate m 0)).toArray k = (List.replicate k (Value.int .u8 0)).toArray := by
  apply Array.ext
  · simp [madeCells]
  · intro i h1 h2
    simp only [madeCells, Array.getElem_map, Array.getElem_range]
    have hs : (bv (List.replicate m 0)).toArray.size = m := by simp [bv]
    rw [hs, getElem!_pos _ _ (by rw [hs]; exact Nat.mod_lt _ hm)]
    simp [bv]

theorem made_zero (n : Nat) : madeCells (bv (List.replicate 80 0)).toArray (n * 80) = (secs (List.replicate n (List.replicate 80 0))).toArray := by
  rw [secs_zero, made_zeros 80 _ (by omega)]

theorem three_alloc (w : World) (a b c : Obj) : (((w.alloc a).alloc b).alloc c).drew.heap[w.heap.size]? = some a ∧ (((w.alloc a).alloc b).alloc c).drew.heap[w.heap.size + 1]? = some b ∧ (((w.alloc a).alloc b).alloc c).drew.heap[w.heap.size + 1 + 1]? = some c ∧ Below w.heap.size w (((w.alloc a).alloc b).alloc c).drew := by
  refine ⟨?_, ?_, ?_, ((((Below.refl _ _).alloc (Nat.le_refl _) _).alloc (by simp) _).alloc (by simp; omega) _).drew⟩
  · show (((w.alloc a).alloc b).alloc c).heap[w.heap.size]? = _
    rw [heap_alloc_old _ _ (by simp; omega), heap_alloc_old _ _ (by simp)]
    exact heap_alloc_new w a
  · show (((w.alloc a).alloc b).alloc c).heap[w.heap.size + 1]? = _
    rw [heap_alloc_old _ _ (by simp)]
    have := heap_alloc_new (w.alloc a) b
    simpa using this
  · show (((w.alloc a).alloc b).alloc c).heap[w.heap.size + 1 + 1]? = _
    have := heap_alloc_new ((w.alloc a).alloc b) c
    simpa using this

theorem Try.infoByteZ : (Try.prog.info? 5).map (fun i => (i.zero, i.size, i.bytes)) = some (some (.int .u8 0), 1, 1) := by kernel_rfl
theorem made_bytes (n : Nat) : madeCells #[Value.int .u8 0] n = (bv (List.replicate n 0)).toArray := by
  apply Array.ext
  · simp [madeCells, bv]
  · intro i h1 h2
    simp only [madeCells, Array.getElem_map, Array.getElem_range]
    simp [bv, Nat.mod_one]

theorem run_makeSectors (w : World) (n : Nat) (hn : n ≤ 260) : (Instr.makeSlice 65 (.int .i64 (n : Int)) (.int .i64 (n : Int))).run Try.prog w =
    .ok (.slice (some ⟨w.heap.size, 0, none⟩) n n) (w.alloc (.cells (secs (List.replicate n (List.replicate 80 0))).toArray 88)) := by
  obtain ⟨inf, hin, hz0, hz1, hz2⟩ := info_parts Try.infoSectorZ
  have h := run_make (P := Try.prog) w 65 88 inf _ Try.underlying65 hin hz0 .i64 .i64 (n : Int) (n : Int) (by omega) (Int.le_refl _) (by rw [hz2]; omega) (by omega)
  rw [h, hz1]
  simp only [Int.toNat_natCast, Value.cells, made_zero]

def DkNew (W : World) (n : Int) (e : Ending) (w' : World) : Prop :=
  if 1 ≤ n ∧ n ≤ 260 then ∃ g, e = .returned (.tuple #[.pointer (some ⟨g, 0, none⟩), .nilIface]) ∧ DkAt W.heap.size w' g (dkNew n.toNat) ∧ Below W.heap.size W w'
  else e = .returned (.tuple #[.pointer none, errV 1]) ∧ W = w'

theorem dkNew_mem (w w2 : World) (g gn gd : Nat) (n : Nat) (h1 : 1 ≤ n) (h2 : n ≤ 260) (b1 : w.heap.size ≤ g) (b2 : w.heap.size ≤ gn) (b3 : w.heap.size ≤ gd) (ne : gn ≠ gd)
    (hr : w2.heap[g]? = some (.cells (dkArr n gn gd (.slice none 0 0) (-1) false) 68 (0, 0))) (hn : w2.heap[gn]? = some (.cells (secs (List.replicate n (List.replicate 80 0))).toArray 88 (0, 0)))
    (hd : w2.heap[gd]? = some (.cells (secs (List.replicate n (List.replicate 80 0))).toArray 88 (0, 0))) : DkAt w.heap.size w2 g (dkNew n) := by
  refine ⟨dkNew_ok h1 h2, gn, gd, .slice none 0 0, b1, ?_, b2, b3, ne, hn, hd, World.ownsRow_nil _ _ _ _⟩
  rw [show (dkNew n).now.length = n by simp [dkNew]]
  exact hr

set_option maxHeartbeats 2000000 in
theorem dkNew_any (w : World) (n : Int) : Calls Try.prog 7 #[.int .i64 n] w (DkNew w n) := by
  by_cases hn : 1 ≤ n ∧ n ≤ 260
  · obtain ⟨k, rfl⟩ := Int.eq_ofNat_of_zero_le (show 0 ≤ n by omega)
    have h1 : 1 ≤ k := by omega
    have h2 : k ≤ 260 := by omega
    have i1 : ¬ (k : Int) < 1 := by omega
    have i2 : ¬ (260 : Int) < (k : Int) := by omega
    have hm := fun w' => run_makeSectors w' k h2
    have FIN := Lib.hid (fun w2 g gn gd => dkNew_mem w w2 g gn gd k h1 h2)
    generalize hZ : (secs (List.replicate k (List.replicate 80 0))).toArray = Z at *
    have HN := Lib.hid hn
    clear hZ hn h1 h2
    have key : Calls Try.prog 7 #[.int .i64 (k : Int)] w (fun e w' => ∃ g, e = .returned (.tuple #[.pointer (some ⟨g, 0, none⟩), .nilIface]) ∧ DkAt w.heap.size w' g (dkNew k) ∧ Below w.heap.size w w') := by
      go_enter Try.func7, Try.ntmps7
      go_wp2
      go_region
      · obtain ⟨t1, t2, t3, t4⟩ := three_alloc w (Obj.cells Z 88) (Obj.cells Z 88) (.cells (dkArr k w.heap.size (w.heap.size + 1) (.slice none 0 0) (-1) false) 68)
        go_wp2
        go_ret2
        exact ⟨_, rfl, FIN.out _ _ w.heap.size (w.heap.size + 1) (by omega) (by omega) (by omega) (by omega) t3 t1 t2, t4⟩
      · obtain ⟨t1, t2, t3, t4⟩ := three_alloc w (Obj.cells Z 88) (Obj.cells Z 88) (.cells (dkArr k (w.heap.size + 1) w.heap.size (.slice none 0 0) (-1) false) 68)
        go_wp2
        go_ret2
        exact ⟨_, rfl, FIN.out _ _ (w.heap.size + 1) w.heap.size (by omega) (by omega) (by omega) (by omega) t3 t2 t1, t4⟩
    exact key.mono (fun e w' h => by unfold DkNew; rw [if_pos HN.out]; exact h)
  · have key : Calls Try.prog 7 #[.int .i64 n] w (fun e w' => e = .returned (.tuple #[.pointer none, errV 1]) ∧ w = w') := by
      by_cases h1 : n < 1
      · clear hn
        go_enter Try.func7, Try.ntmps7
        go_wp2
        go_ret2
        exact ⟨rfl, rfl⟩
      · have h2 : 260 < n := by omega
        clear hn
        go_enter Try.func7, Try.ntmps7
        go_wp2
        go_ret2
        exact ⟨rfl, rfl⟩
    exact key.mono (fun e w' h => by unfold DkNew; rw [if_neg hn]; exact h)
end Go.Proofs.Ythhedahfmllnoaa

/- A disk of a few sectors that is not armed and not down: what its methods come to. -/
namespace Go.Proofs.Ythhedahfmllnoaa
open Go.RowKit

/-- Not armed, not down, of n sectors. -/
structure Calm (n : Nat) (D : DkM) : Prop where
  left : D.left = -1
  down : D.down = false
  size : D.now.length = n

theorem Calm.stepE {n : Nat} {D : DkM} (h : Calm n D) : dkStepE D = 0 := by
  unfold dkStepE; rw [if_neg]; rw [h.left, h.down]; simp
theorem Calm.step {n : Nat} {D : DkM} (h : Calm n D) : dkStep D = D := by
  have h1 := h.left
  unfold dkStep; rw [if_neg (by omega), if_neg (by rw [h.down]; simp), if_neg (by omega)]
def badAt (n : Nat) (k : Int) (x : ByteArray) : Prop := ¬ (0 ≤ k ∧ k < n) ∨ 80 < x.size
instance (n : Nat) (k : Int) (x : ByteArray) : Decidable (badAt n k x) := by unfold badAt; infer_instance
theorem Calm.writeE {n : Nat} {D : DkM} (h : Calm n D) (k : Int) (x : ByteArray) : dkWriteE D k x = if badAt n k x then 1 else 0 := by
  unfold dkWriteE badAt; rw [h.size, h.stepE]
theorem Calm.write {n : Nat} {D : DkM} (h : Calm n D) (k : Int) (x : ByteArray) : dkWrite D k x = if badAt n k x then D else dkPut D k.toNat (pad80 x) := by
  unfold dkWrite badAt; rw [h.size, h.stepE, h.step]; simp
theorem Calm.put {n : Nat} {D : DkM} (h : Calm n D) (k : Nat) (s : List UInt8) : Calm n (dkPut D k s) := ⟨h.left, h.down, by simp [dkPut, h.size]⟩
theorem Calm.writes {n : Nat} {D : DkM} (h : Calm n D) (k : Int) (x : ByteArray) : Calm n (dkWrite D k x) := by
  rw [h.write]; split
  · exact h
  · exact h.put _ _
theorem Calm.flush {n : Nat} {D : DkM} (h : Calm n D) : dkFlush D = dkSaved D := by unfold dkFlush; rw [if_pos h.stepE, h.step]
theorem Calm.saved {n : Nat} {D : DkM} (h : Calm n D) : Calm n (dkSaved D) := ⟨h.left, h.down, h.size⟩
theorem Calm.restart {n : Nat} {D : DkM} (hs : D.dur.length = n) (keep : Nat) : Calm n (dkRestart D keep) := ⟨rfl, rfl, by rw [dkRestart, dkKeep_length]; exact hs⟩
theorem Calm.readE {n : Nat} {D : DkM} (h : Calm n D) (k : Nat) (hk : k < n) : dkReadE D k = 0 := by
  unfold dkReadE; rw [if_neg (by rw [h.down]; simp), if_pos (by rw [h.size]; omega)]
theorem Calm.read {n : Nat} {D : DkM} (h : Calm n D) (k : Nat) (hk : k < n) : dkRead D k = ⟨(D.now.getD k []).toArray⟩ := by
  unfold dkRead; rw [if_pos (h.readE k hk)]; simp
theorem calm_new {n : Nat} : Calm n (dkNew n) := ⟨rfl, rfl, by simp [dkNew]⟩

theorem Calm.wr_le {n : Nat} {D : DkM} (h : Calm n D) (k : Int) (x : ByteArray) : (dkWrite D k x).wr.length ≤ D.wr.length + 1 := by
  rw [h.write]; split
  · omega
  · simp [dkPut]
end Go.Proofs.Ythhedahfmllnoaa
