/- DiskSays: what both disks have in common; the closed fact. -/
import Derived.Test.YtimbdomkpdmehaaCalm
import Derived.Test.YtimbdomkpdmehaaRd5
import Derived.Test.YtimbdomkpdmehaaSaid
namespace Go.Proofs.Ytimbdomkpdmehaa
open Go.RowKit

/-- The program's disk and the document's agree: the second counts its steps otherwise once it is down. -/
structure Agree (D M : DkM) : Prop where
  now : D.now = M.now
  dur : D.dur = M.dur
  wr : D.wr = M.wr
  down : D.down = M.down
  left : D.down = false → max D.left (-1) = M.left

theorem Agree.stepE {D M : DkM} (h : Agree D M) : dkStepE D = rdStepE M := by
  unfold dkStepE rdStepE
  cases hd : D.down with
  | true => simp [← h.down, hd]
  | false =>
    have hl := h.left hd
    have : D.left = 0 ↔ M.left = 0 := by omega
    simp [← h.down, hd, this]

theorem Agree.step {D M : DkM} (h : Agree D M) : Agree (dkStep D) (rdStep M) := by
  unfold dkStep rdStep
  cases hd : D.down with
  | true =>
    rw [if_pos (show M.down = true by rw [← h.down]; exact hd)]
    by_cases h0 : D.left = 0
    · rw [if_pos h0]; exact ⟨h.now, h.dur, h.wr, by show true = M.down; rw [← h.down, hd], fun e => by simp at e⟩
    · rw [if_neg h0]; simp only [if_true]; exact h
  | false =>
    have hl := h.left hd
    rw [if_neg (show ¬ M.down = true by rw [← h.down, hd]; simp)]
    by_cases h0 : D.left = 0
    · rw [if_pos h0, if_pos (show M.left = 0 by omega)]; exact ⟨h.now, h.dur, h.wr, rfl, fun e => by simp at e⟩
    · rw [if_neg h0, if_neg (show ¬ M.left = 0 by omega), if_neg (by simp)]
      by_cases hp : 0 < D.left
      · rw [if_pos hp, if_pos (show 0 < M.left by omega)]
        exact ⟨h.now, h.dur, h.wr, by show false = M.down; rw [← h.down, hd], fun _ => by show max (D.left - 1) (-1) = M.left - 1; omega⟩
      · rw [if_neg hp, if_neg (show ¬ 0 < M.left by omega)]; exact h

theorem Agree.put {D M : DkM} (h : Agree D M) (k : Nat) (s : List UInt8) : Agree (dkPut D k s) (dkPut M k s) :=
  ⟨by simp only [dkPut, h.now], h.dur, by simp only [dkPut, h.wr], h.down, h.left⟩
theorem Agree.saved {D M : DkM} (h : Agree D M) : Agree (dkSaved D) (dkSaved M) := ⟨h.now, h.now, rfl, h.down, h.left⟩
theorem Agree.writeE {D M : DkM} (h : Agree D M) (k : Int) (x : ByteArray) : dkWriteE D k x = rdWriteE M k x := by
  unfold dkWriteE rdWriteE; rw [h.now, h.stepE]
theorem Agree.write {D M : DkM} (h : Agree D M) (k : Int) (x : ByteArray) : Agree (dkWrite D k x) (rdWrite M k x) := by
  unfold dkWrite rdWrite
  rw [h.now, h.stepE]
  split
  · exact h
  · split
    · exact h.step.put _ _
    · exact h.step
theorem Agree.flush {D M : DkM} (h : Agree D M) : Agree (dkFlush D) (rdFlush M) := by
  unfold dkFlush rdFlush
  rw [h.stepE]
  split
  · exact h.step.saved
  · exact h.step
theorem Agree.restart {D M : DkM} (h : Agree D M) (keep : Nat) : Agree (dkRestart D keep) (dkRestart M keep) := by
  unfold dkRestart
  rw [h.wr, h.dur]
  exact ⟨rfl, rfl, rfl, rfl, fun _ => by simp⟩
theorem Agree.readE {D M : DkM} (h : Agree D M) (k : Int) : dkReadE D k = dkReadE M k := by unfold dkReadE; rw [h.down, h.now]
theorem Agree.read {D M : DkM} (h : Agree D M) (k : Int) : dkRead D k = dkRead M k := by unfold dkRead; rw [h.readE, h.now]
theorem Agree.arm {D M : DkM} (h : Agree D M) (n : Int) : Agree (dkArm D n) (dkArm M (max n (-1))) := ⟨h.now, h.dur, h.wr, h.down, fun _ => rfl⟩
theorem agree_new (n : Nat) : Agree (dkNew n) (dkNew n) := ⟨rfl, rfl, rfl, rfl, fun _ => by simp [dkNew]⟩

theorem dkStepE_nonneg (D : DkM) : 0 ≤ dkStepE D := by unfold dkStepE; split <;> omega
theorem dkWriteE_nonneg (D : DkM) (k : Int) (x : ByteArray) : 0 ≤ dkWriteE D k x := by unfold dkWriteE; split; omega; exact dkStepE_nonneg D
theorem dkReadE_nonneg (D : DkM) (k : Int) : 0 ≤ dkReadE D k := by unfold dkReadE; split; omega; split <;> omega
theorem dkStep_wrl (D : DkM) : (dkStep D).wr.length = D.wr.length := by rw [dkStep_wr]
theorem dkWrite_wrl (D : DkM) (k : Int) (x : ByteArray) : (dkWrite D k x).wr.length ≤ D.wr.length + 1 := by
  unfold dkWrite; split
  · omega
  · split
    · simp [dkPut, dkStep_wr]
    · rw [dkStep_wr]; omega
theorem dkFlush_wrl (D : DkM) : (dkFlush D).wr.length ≤ D.wr.length := by
  unfold dkFlush; split
  · simp [dkSaved]
  · rw [dkStep_wr]; exact Nat.le_refl _
theorem dkWrite_len (D : DkM) (k : Int) (x : ByteArray) : (dkWrite D k x).now.length = D.now.length := by
  unfold dkWrite; split
  · rfl
  · split
    · simp [dkPut, dkStep_now]
    · rw [dkStep_now]
theorem dkFlush_len (D : DkM) : (dkFlush D).now.length = D.now.length := by
  unfold dkFlush; split
  · simp [dkSaved, dkStep_now]
  · rw [dkStep_now]

abbrev xy : ByteArray := ⟨#[120, 121]⟩
theorem xy_pad : ((dkRestart (dkSaved (dkPut (dkNew 3) 1 (pad80 xy))) 0).now.getD 1 []) = 120 :: 121 :: List.replicate 78 0 := by
  simp [dkRestart, dkSaved, dkPut, dkNew, dkKeep, pad80, ByteArray.size]

set_option maxHeartbeats 1000000 in
set_option maxRecDepth 100000 in
theorem spins_any (w : World) : Calls Try.prog 6 #[] w fun e w' => e = .returned (.bool true) ∧ Below w.heap.size w w' := by
  go_enter Try.func6, Try.ntmps6
  go_wp2_with fail
  ((with_reducible refine (dkNew_any _ 3).mono ?_); rintro e w1 hnew)
  unfold DkNew at hnew
  rw [if_pos (by omega)] at hnew
  obtain ⟨g, rfl, hD, hb1⟩ := hnew
  rw [show (3 : Int).toNat = 3 from rfl] at hD
  have HC : Calm 3 (dkNew 3) := calm_new
  have HD := HC.write 1 xy
  rw [if_neg (by simp [badAt, ByteArray.size])] at HD
  have HE := HC.writeE 1 xy
  rw [if_neg (by simp [badAt, ByteArray.size])] at HE
  have HW := dkWrite_any _ g w1 (dkNew 3) 1 xy hD (by decide) (by simp [dkNew])
  rw [HE, HD, show errV 0 = .nilIface from rfl, show (1 : Int).toNat = 1 from rfl] at HW
  have HC2 := HC.put 1 (pad80 xy)
  have HW' := Lib.hid HW
  have HX := Lib.hid xy_pad
  clear HW HE HD hD HC
  go_wp2_with fail
  ((with_reducible refine HW'.out.mono ?_); rintro e w2 ⟨rfl, hD2, hs2⟩)
  have hb2 := hb1.trans hs2.below
  clear HW' hs2 hb1
  generalize dkPut (dkNew 3) 1 (pad80 xy) = D at *
  have HF := dkFlush_any _ g w2 D hD2
  rw [HC2.stepE, HC2.flush, show errV 0 = .nilIface from rfl] at HF
  have HF' := Lib.hid HF
  clear HF
  go_wp2_with fail
  ((with_reducible refine HF'.out.mono ?_); rintro e w3 ⟨rfl, hD3, hs3⟩)
  have hb3 := hb2.trans hs3.below
  have HC3 := HC2.saved
  have hwr : (dkSaved D).wr.length ≤ 1000000 := by simp [dkSaved]
  have hdl : (dkSaved D).dur.length = 3 := HC2.size
  clear HF' hs3 hb2 hD2 HC2
  generalize dkSaved D = D at *
  have HR0 := dkRestart_any _ g w3 D 0 hD3 (by omega) hwr
  rw [show ((0 : Nat) : Int) = 0 from rfl] at HR0
  have HR := Lib.hid HR0
  clear HR0
  have HC4 := Calm.restart hdl 0
  clear HC3 hdl
  go_wp2_with fail
  ((with_reducible refine HR.out.mono ?_); rintro e w4 ⟨rfl, hD4, hs4⟩)
  have hb4 := hb3.trans hs4.below
  clear HR hs4 hb3 hD3
  generalize dkRestart D 0 = D at *
  have HRD := dkRead_any _ g w4 D 1 hD4
  have e1 := HC4.readE 1 (by omega)
  have e2 := HC4.read 1 (by omega)
  rw [HX.out] at e2
  rw [show ((1 : Nat) : Int) = 1 from rfl] at e1 e2
  rw [e1, e2, show errV 0 = .nilIface from rfl] at HRD
  obtain ⟨S, hS⟩ : ∃ S : ByteArray, S = ⟨(120 :: 121 :: List.replicate 78 0).toArray⟩ := ⟨_, rfl⟩
  have hS1 : S.size = 80 := by rw [hS]; rfl
  have hS2 : (S.extract 0 2).toList = [120, 121] := by rw [hS]; decide +kernel
  rw [← hS] at HRD
  have hS3 : ((S.extract 0 2).toList == [120, 121]) = true := by rw [hS2]; rfl
  have hS4 : ((S.size : Int) == 80) = true := by rw [hS1]; rfl
  have hS5 : (2 : Int) ≤ (S.size : Int) := by omega
  clear hS hS2 hS1
  have HRD' := Lib.hid HRD
  have HSZ := dkSectors_any _ g w4 D hD4
  rw [HC4.size] at HSZ
  have HSZ' := Lib.hid HSZ
  clear HRD e1 e2 HSZ HX hwr
  go_wp2_with fail
  ((with_reducible refine HRD'.out.mono ?_); rintro e w5 ⟨rfl, rfl⟩)
  clear HRD'
  go_wp2_with fail
  ((with_reducible refine (said_nil _).mono ?_); rintro e w5 ⟨rfl, rfl⟩)
  go_wp2_with fail
  ((with_reducible refine (said_nil _).mono ?_); rintro e w5 ⟨rfl, rfl⟩)
  go_wp2_with fail
  ((with_reducible refine (said_nil _).mono ?_); rintro e w5 ⟨rfl, rfl⟩)
  go_wp2_with fail
  ((with_reducible refine HSZ'.out.mono ?_); rintro e w5 ⟨rfl, rfl⟩)
  go_wp2
  go_ret
  exact ⟨rfl, hb4⟩
end Go.Proofs.Ytimbdomkpdmehaa
