/- A disk of a few sectors that is not armed and not down: what its methods come to. -/
import Derived.Test.YtllaohobmkcmfaaDk6
namespace Go.Proofs.Ytllaohobmkcmfaa
open Go.RowKit

/-- Not armed, not down, of n sectors. -/
structure Calm (n : Nat) (D : DkM) : Prop where
  left : D.left = -1
  down : D.down = false
  size : D.now.length = n

theorem Calm.stepE {n : Nat} {D : DkM} (h : Calm n D) : dkStepE D = 0 := by
  unfold dkStepE; rw [if_neg]; rw [h.left, h.down]; simp
theorem Calm.step {n : Nat} {D : DkM} (h : Calm n D) : dkStep D = D := by
  have h1 := h.left
  unfold dkStep; rw [if_neg (by omega), if_neg (by rw [h.down]; simp), if_neg (by omega)]
def badAt (n : Nat) (k : Int) (x : ByteArray) : Prop := ¬ (0 ≤ k ∧ k < n) ∨ 80 < x.size
instance (n : Nat) (k : Int) (x : ByteArray) : Decidable (badAt n k x) := by unfold badAt; infer_instance
theorem Calm.writeE {n : Nat} {D : DkM} (h : Calm n D) (k : Int) (x : ByteArray) : dkWriteE D k x = if badAt n k x then 1 else 0 := by
  unfold dkWriteE badAt; rw [h.size, h.stepE]
theorem Calm.write {n : Nat} {D : DkM} (h : Calm n D) (k : Int) (x : ByteArray) : dkWrite D k x = if badAt n k x then D else dkPut D k.toNat (pad80 x) := by
  unfold dkWrite badAt; rw [h.size, h.stepE, h.step]; simp
theorem Calm.put {n : Nat} {D : DkM} (h : Calm n D) (k : Nat) (s : List UInt8) : Calm n (dkPut D k s) := ⟨h.left, h.down, by simp [dkPut, h.size]⟩
theorem Calm.writes {n : Nat} {D : DkM} (h : Calm n D) (k : Int) (x : ByteArray) : Calm n (dkWrite D k x) := by
  rw [h.write]; split
  · exact h
  · exact h.put _ _
theorem Calm.flush {n : Nat} {D : DkM} (h : Calm n D) : dkFlush D = dkSaved D := by unfold dkFlush; rw [if_pos h.stepE, h.step]
theorem Calm.saved {n : Nat} {D : DkM} (h : Calm n D) : Calm n (dkSaved D) := ⟨h.left, h.down, h.size⟩
theorem Calm.restart {n : Nat} {D : DkM} (hs : D.dur.length = n) (keep : Nat) : Calm n (dkRestart D keep) := ⟨rfl, rfl, by rw [dkRestart, dkKeep_length]; exact hs⟩
theorem Calm.readE {n : Nat} {D : DkM} (h : Calm n D) (k : Nat) (hk : k < n) : dkReadE D k = 0 := by
  unfold dkReadE; rw [if_neg (by rw [h.down]; simp), if_pos (by rw [h.size]; omega)]
theorem Calm.read {n : Nat} {D : DkM} (h : Calm n D) (k : Nat) (hk : k < n) : dkRead D k = ⟨(D.now.getD k []).toArray⟩ := by
  unfold dkRead; rw [if_pos (h.readE k hk)]; simp
theorem calm_new {n : Nat} : Calm n (dkNew n) := ⟨rfl, rfl, by simp [dkNew]⟩

theorem Calm.wr_le {n : Nat} {D : DkM} (h : Calm n D) (k : Int) (x : ByteArray) : (dkWrite D k x).wr.length ≤ D.wr.length + 1 := by
  rw [h.write]; split
  · omega
  · simp [dkPut]
end Go.Proofs.Ytllaohobmkcmfaa
