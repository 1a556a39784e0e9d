/- The disk that can fail, as plain data. -/
import Derived.Test.YthhedahfmllnoaaZqRng
import Derived.Deep.MidRow
import Derived.Laws.CopyOwn
import Derived.Test.YthhedahfmllnoaaZqCh0
/- Rows of one size, one after the other. -/
namespace Go.Proofs.Ythhedahfmllnoaa
open Go.RowKit

theorem flat_length {α : Type} (f : α → List Value) (m : Nat) : ∀ (L : List α), (∀ x ∈ L, (f x).length = m) → (L.flatMap f).length = L.length * m
  | [], _ => by simp
  | a :: r, h => by
    rw [List.flatMap_cons, List.length_append, flat_length f m r (fun x hx => h x (by simp [hx])), h a (by simp), List.length_cons]
    rw [Nat.add_mul]; omega

theorem flat_at {α : Type} (f : α → List Value) (m : Nat) : ∀ (L : List α), (∀ x ∈ L, (f x).length = m) → ∀ (i : Nat) (h : i < L.length), ((L.flatMap f).drop (i * m)).take m = f L[i]
  | [], _, i, h => by simp at h
  | a :: r, hf, 0, h => by
    have ha := hf a (by simp)
    rw [List.flatMap_cons, Nat.zero_mul, List.drop_zero, List.take_append_of_le_length (by omega), List.take_of_length_le (by omega)]
    rfl
  | a :: r, hf, i + 1, h => by
    have ha := hf a (by simp)
    have e : (i + 1) * m = (f a).length + i * m := by rw [ha, Nat.add_mul]; omega
    rw [List.flatMap_cons, e, ← List.drop_drop, List.drop_left, flat_at f m r (fun x hx => hf x (by simp [hx])) i (by simpa using h)]
    rfl

theorem flat_cell {α : Type} (f : α → List Value) (m : Nat) (L : List α) (hf : ∀ x ∈ L, (f x).length = m) (i : Nat) (h : i < L.length) (j : Nat) (v : Value) (hj : (f L[i])[j]? = some v) :
    (L.flatMap f)[i * m + j]? = some v := by
  rw [← flat_at f m L hf i h, List.getElem?_take] at hj
  split at hj
  · rw [List.getElem?_drop] at hj; exact hj
  · cases hj

theorem flat_set {α : Type} (f : α → List Value) (m : Nat) : ∀ (L : List α), (∀ x ∈ L, (f x).length = m) → ∀ (i : Nat) (s : α), i < L.length → (f s).length = m → Go.splice (L.flatMap f) (i * m) (f s) = (L.set i s).flatMap f
  | [], _, i, s, h, _ => by simp at h
  | a :: r, hf, 0, s, h, hs => by
    have ha := hf a (by simp)
    simp only [Go.splice, Nat.zero_mul, List.take_zero, List.nil_append, List.flatMap_cons, List.set_cons_zero, Nat.zero_add]
    rw [hs, ← ha, List.drop_left]
  | a :: r, hf, i + 1, s, h, hs => by
    have ha := hf a (by simp)
    have ih := flat_set f m r (fun x hx => hf x (by simp [hx])) i s (by simpa using h) hs
    have e : (i + 1) * m = (f a).length + i * m := by rw [ha, Nat.add_mul]; omega
    have e2 : (i + 1) * m + (f s).length = (f a).length + (i * m + (f s).length) := by rw [e]; omega
    simp only [Go.splice] at ih
    simp only [Go.splice, List.flatMap_cons, List.set_cons_succ]
    rw [e2, e, ← ih, ← List.drop_drop, List.drop_left, List.take_append]
    simp [List.take_of_length_le]

/-- One cell of one row. -/
theorem flat_set1 {α : Type} (f : α → List Value) (m : Nat) : ∀ (L : List α), (∀ x ∈ L, (f x).length = m) → ∀ (i : Nat) (h : i < L.length) (j : Nat) (u : Value) (s : α), j < m → (f L[i]).set j u = f s → (L.flatMap f).set (i * m + j) u = (L.set i s).flatMap f
  | [], _, i, h, _, _, _, _, _ => by simp at h
  | a :: r, hf, 0, h, j, u, s, hj, hs => by
    have ha := hf a (by simp)
    simp only [List.flatMap_cons, Nat.zero_mul, Nat.zero_add, List.set_cons_zero]
    rw [List.set_append_left _ _ (by omega)]
    congr 1
  | a :: r, hf, i + 1, h, j, u, s, hj, hs => by
    have ha := hf a (by simp)
    simp only [List.flatMap_cons, List.set_cons_succ]
    rw [List.set_append_right _ _ (by rw [ha, Nat.add_mul]; omega)]
    congr 1
    have e : (i + 1) * m + j - (f a).length = i * m + j := by rw [ha, Nat.add_mul]; omega
    rw [e]
    exact flat_set1 f m r (fun x hx => hf x (by simp [hx])) i (by simpa using h) j u s hj hs
end Go.Proofs.Ythhedahfmllnoaa

/- The disk that can fail, as plain data. -/
namespace Go.Proofs.Ythhedahfmllnoaa

/-- The cells of sectors. -/
def secs (L : List (List UInt8)) : List Value := L.flatMap bv
def Secs (L : List (List UInt8)) : Prop := ∀ s ∈ L, s.length = 80
theorem Secs.bv {L : List (List UInt8)} (h : Secs L) : ∀ s ∈ L, (bv s).length = 80 := fun s hs => by rw [bv_length]; exact h s hs
theorem secs_length {L : List (List UInt8)} (h : Secs L) : (secs L).length = L.length * 80 := flat_length _ _ L h.bv
theorem secs_cell {L : List (List UInt8)} (h : Secs L) (i : Nat) (hi : i < L.length) (j : Nat) (v : Value) (hj : (bv L[i])[j]? = some v) : (secs L)[i * 80 + j]? = some v := flat_cell _ _ L h.bv i hi j v hj
theorem secs_set {L : List (List UInt8)} (h : Secs L) (i : Nat) (s : List UInt8) (hi : i < L.length) (hs : s.length = 80) : Go.splice (secs L) (i * 80) (bv s) = secs (L.set i s) := flat_set _ _ L h.bv i s hi (by rw [bv_length]; exact hs)
theorem secs_one (L : List (List UInt8)) : ∀ v ∈ secs L, v.oneCell' = true := by
  intro v hv; simp only [secs, List.mem_flatMap] at hv; obtain ⟨s, _, h⟩ := hv; exact bv_one s v h
theorem Secs.set {L : List (List UInt8)} (h : Secs L) (i : Nat) {s : List UInt8} (hs : s.length = 80) : Secs (L.set i s) := fun x hx => by
  rcases List.mem_or_eq_of_mem_set hx with h1 | h1
  · exact h x h1
  · rw [h1]; exact hs

/-- A write that waits. -/
def wrArr (p : Nat × List UInt8) : List Value := .int .i64 p.1 :: bv p.2
def wrCells (L : List (Nat × List UInt8)) : List Value := L.flatMap wrArr

/-- A disk that can fail. -/
structure DkM where
  now : List (List UInt8)
  dur : List (List UInt8)
  wr : List (Nat × List UInt8)
  left : Int
  down : Bool

structure DkM.Ok (D : DkM) : Prop where
  size : D.dur.length = D.now.length
  few : D.now.length ≤ 260
  some : 1 ≤ D.now.length
  now : Secs D.now
  dur : Secs D.dur
  wr : ∀ p ∈ D.wr, p.1 < D.now.length ∧ p.2.length = 80
  lo : -9223372036854775808 ≤ D.left
  hi : D.left ≤ 9223372036854775807

theorem wrs_len {D : DkM} (h : D.Ok) : ∀ p ∈ D.wr, (wrArr p).length = 81 := fun p hp => by simp [wrArr, bv_length, (h.wr p hp).2]

/-- Data, and zeros up to the sector's end. -/
def pad80 (x : ByteArray) : List UInt8 := x.data.toList ++ List.replicate (80 - x.size) 0
theorem pad80_length (x : ByteArray) (h : x.size ≤ 80) : (pad80 x).length = 80 := by
  have : x.data.toList.length = x.size := rfl
  simp only [pad80, List.length_append, List.length_replicate, this]; omega

def dkNew (n : Nat) : DkM := ⟨List.replicate n (List.replicate 80 0), List.replicate n (List.replicate 80 0), [], -1, false⟩
theorem dkNew_ok {n : Nat} (h1 : 1 ≤ n) (h2 : n ≤ 260) : (dkNew n).Ok := by
  refine ⟨by simp [dkNew], by simpa [dkNew] using h2, by simpa [dkNew] using h1, fun s hs => ?_, fun s hs => ?_, fun p hp => by simp [dkNew] at hp, by simp [dkNew], by simp [dkNew]⟩
  all_goals
    simp only [dkNew] at hs
    rw [List.eq_of_mem_replicate hs]; simp

/-- A step: its error's number, and the disk behind it. -/
def dkStepE (D : DkM) : Int := if D.left = 0 ∨ D.down = true then 9 else 0
def dkStep (D : DkM) : DkM := if D.left = 0 then { D with down := true } else if D.down = true then D else if 0 < D.left then { D with left := D.left - 1 } else D

theorem dkStep_now (D : DkM) : (dkStep D).now = D.now := by unfold dkStep; split <;> (try split) <;> (try split) <;> rfl
theorem dkStep_dur (D : DkM) : (dkStep D).dur = D.dur := by unfold dkStep; split <;> (try split) <;> (try split) <;> rfl
theorem dkStep_wr (D : DkM) : (dkStep D).wr = D.wr := by unfold dkStep; split <;> (try split) <;> (try split) <;> rfl
theorem dkStep_ok {D : DkM} (h : D.Ok) : (dkStep D).Ok := by
  have hlo := h.lo
  have hhi := h.hi
  unfold dkStep
  split
  · exact ⟨h.size, h.few, h.some, h.now, h.dur, h.wr, h.lo, h.hi⟩
  · split
    · exact h
    · split
      · exact ⟨h.size, h.few, h.some, h.now, h.dur, h.wr, by show _ ≤ D.left - 1; omega, by show D.left - 1 ≤ _; omega⟩
      · exact h

def dkWriteE (D : DkM) (k : Int) (x : ByteArray) : Int := if ¬ (0 ≤ k ∧ k < D.now.length) ∨ 80 < x.size then 1 else dkStepE D
def dkPut (D : DkM) (k : Nat) (s : List UInt8) : DkM := { D with now := D.now.set k s, wr := D.wr ++ [(k, s)] }
def dkWrite (D : DkM) (k : Int) (x : ByteArray) : DkM :=
  if ¬ (0 ≤ k ∧ k < D.now.length) ∨ 80 < x.size then D else if dkStepE D = 0 then dkPut (dkStep D) k.toNat (pad80 x) else dkStep D
theorem dkPut_ok {D : DkM} (h : D.Ok) {k : Nat} (hk : k < D.now.length) {s : List UInt8} (hs : s.length = 80) : (dkPut D k s).Ok := by
  refine ⟨by simpa [dkPut] using h.size, by simpa [dkPut] using h.few, by simpa [dkPut] using h.some, h.now.set k hs, h.dur, fun p hp => ?_, h.lo, h.hi⟩
  simp only [dkPut, List.mem_append, List.mem_singleton, List.length_set] at hp ⊢
  rcases hp with hp | rfl
  · exact h.wr p hp
  · exact ⟨hk, hs⟩
theorem dkWrite_ok {D : DkM} (h : D.Ok) (k : Int) (x : ByteArray) : (dkWrite D k x).Ok := by
  unfold dkWrite
  split
  · exact h
  · rename_i hn
    split
    · exact dkPut_ok (dkStep_ok h) (by rw [dkStep_now]; omega) (pad80_length x (by omega))
    · exact dkStep_ok h

/-- Everything that was written is durable. -/
def dkSaved (D : DkM) : DkM := { D with dur := D.now, wr := [] }
def dkFlush (D : DkM) : DkM := if dkStepE D = 0 then dkSaved (dkStep D) else dkStep D
theorem dkSaved_ok {D : DkM} (h : D.Ok) : (dkSaved D).Ok := ⟨rfl, h.few, h.some, h.now, h.now, fun p hp => by simp [dkSaved] at hp, h.lo, h.hi⟩
theorem dkFlush_ok {D : DkM} (h : D.Ok) : (dkFlush D).Ok := by
  unfold dkFlush
  split
  · exact dkSaved_ok (dkStep_ok h)
  · exact dkStep_ok h

/-- Is the write with this number kept? -/
def kept64 (keep : Nat) (k : Nat) : Bool := keep.testBit (k % 64)
/-- The writes that are kept, from the number i on, laid over sectors. -/
def dkKeep (keep : Nat) : Nat → List (Nat × List UInt8) → List (List UInt8) → List (List UInt8)
  | _, [], L => L
  | i, p :: r, L => dkKeep keep (i + 1) r (if kept64 keep i = true then L.set p.1 p.2 else L)
theorem dkKeep_append (keep : Nat) : ∀ (a : List (Nat × List UInt8)) (i : Nat) (b : List (Nat × List UInt8)) (L : List (List UInt8)), dkKeep keep i (a ++ b) L = dkKeep keep (i + a.length) b (dkKeep keep i a L)
  | [], i, b, L => by simp [dkKeep]
  | p :: a, i, b, L => by
    simp only [List.cons_append, dkKeep, List.length_cons]
    rw [dkKeep_append keep a (i + 1) b]
    congr 1; omega
theorem dkKeep_length (keep : Nat) : ∀ (a : List (Nat × List UInt8)) (i : Nat) (L : List (List UInt8)), (dkKeep keep i a L).length = L.length
  | [], _, _ => rfl
  | p :: a, i, L => by rw [dkKeep, dkKeep_length keep a]; split <;> simp
theorem dkKeep_secs (keep : Nat) : ∀ (a : List (Nat × List UInt8)) (i : Nat) (L : List (List UInt8)), (∀ p ∈ a, p.2.length = 80) → Secs L → Secs (dkKeep keep i a L)
  | [], _, _, _, h => h
  | p :: a, i, L, ha, h => by
    rw [dkKeep]
    refine dkKeep_secs keep a _ _ (fun q hq => ha q (by simp [hq])) ?_
    split
    · exact h.set _ (ha p (by simp))
    · exact h
def dkRestart (D : DkM) (keep : Nat) : DkM := ⟨dkKeep keep 0 D.wr D.dur, dkKeep keep 0 D.wr D.dur, [], -1, false⟩
theorem dkRestart_ok {D : DkM} (h : D.Ok) (keep : Nat) : (dkRestart D keep).Ok := by
  have hl : (dkKeep keep 0 D.wr D.dur).length = D.now.length := by rw [dkKeep_length, h.size]
  have hs : Secs (dkKeep keep 0 D.wr D.dur) := dkKeep_secs keep D.wr 0 D.dur (fun p hp => (h.wr p hp).2) h.dur
  exact ⟨rfl, by show _ ≤ 260; rw [dkRestart, hl]; exact h.few, by show 1 ≤ (dkKeep _ _ _ _).length; rw [hl]; exact h.some, hs, hs, fun p hp => by simp [dkRestart] at hp, by simp [dkRestart], by simp [dkRestart]⟩

def dkReadE (D : DkM) (k : Int) : Int := if D.down = true then 9 else if 0 ≤ k ∧ k < D.now.length then 0 else 1
def dkRead (D : DkM) (k : Int) : ByteArray := if dkReadE D k = 0 then ⟨(D.now.getD k.toNat []).toArray⟩ else ByteArray.empty
end Go.Proofs.Ythhedahfmllnoaa
