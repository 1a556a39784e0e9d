/- The store, pure: what writing a slot leaves. -/
import Derived.Test.YthhedahfmllnoaaZqStP2
namespace Go.Proofs.Ythhedahfmllnoaa

/-- What pieces leave that were written from a sector on. -/
def Put (D R : DkM) (k : Nat) (xs : List ByteArray) (e : Int) : Prop :=
  (e = 0 ∧ R.now = setAll D.now k xs ∧ R.dur = D.dur ∧ R.wr = D.wr ++ wrs k xs ∧ R.down = false) ∨
  (e = 9 ∧ R.down = true ∧ R.dur = D.dur ∧ ∃ i, R.wr = D.wr ++ (wrs k xs).take i)
theorem wrP_put : ∀ (xs : List Pc) (base k : Nat) (D : DkM), D.down = false → (∀ i, (h : i < xs.length) → xs[i].1.1 = k + i) → base + k + xs.length ≤ D.now.length → Put D (wrP (base : Int) D xs).1 (base + k) (xs.map fun x => x.1.2) (wrP (base : Int) D xs).2
  | [], base, k, D, hd, _, _ => .inl ⟨rfl, rfl, rfl, by simp [wrP, wrs], hd⟩
  | x :: r, base, k, D, hd, hk, hl => by
    have hx : x.1.1 = k := hk 0 (by simp)
    have hz := x.2.2
    simp only [List.length_cons] at hl
    have hin : ¬ (¬ (0 ≤ (base : Int) + (x.1.1 : Int) ∧ (base : Int) + (x.1.1 : Int) < D.now.length) ∨ 80 < x.1.2.size) := by rw [hx]; omega
    have hE : dkWriteE D ((base : Int) + (x.1.1 : Int)) x.1.2 = dkStepE D := by unfold dkWriteE; rw [if_neg hin]
    have hW : dkWrite D ((base : Int) + (x.1.1 : Int)) x.1.2 = if dkStepE D = 0 then dkPut (dkStep D) (base + k) (pad80 x.1.2) else dkStep D := by
      unfold dkWrite; rw [if_neg hin, hx, show ((base : Int) + (k : Int)).toNat = base + k by omega]
    simp only [wrP, hE, hW, List.map_cons]
    by_cases h : dkStepE D = 0
    · rw [if_pos h, if_pos h]
      have ih := wrP_put r base (k + 1) (dkPut (dkStep D) (base + k) (pad80 x.1.2)) (step_down hd h) (fun i hi => by have : r[i].1.1 = k + (i + 1) := hk (i + 1) (by simpa using hi); omega) (by simp only [dkPut, dkStep_now, List.length_set]; omega)
      rcases ih with ⟨q1, q2, q3, q4, q5⟩ | ⟨q1, q2, q3, i, q4⟩
      · refine .inl ⟨q1, ?_, ?_, ?_, q5⟩
        · rw [q2]; simp [dkPut, dkStep_now, setAll, Nat.add_assoc]
        · rw [q3]; simp [dkPut, dkStep_dur]
        · rw [q4]; simp [dkPut, dkStep_wr, wrs, Nat.add_assoc]
      · refine .inr ⟨q1, q2, by rw [q3]; simp [dkPut, dkStep_dur], i + 1, ?_⟩
        rw [q4]; simp [dkPut, dkStep_wr, wrs, Nat.add_assoc]
    · rw [if_neg h, if_neg h]
      obtain ⟨f1, f2⟩ := step_fail hd h
      exact .inr ⟨f1, f2, dkStep_dur D, 0, by simp [dkStep_wr]⟩

/-- The ways in which writing a slot ends, of a disk that is durable: all is done; or it fails, and behind a restart there is what was, but for the slot's own rows; or the header too is written. -/
structure HdOut (D R : DkM) (e : Int) (s : Nat) (ys : List ByteArray) (x : ByteArray) : Prop where
  out : (e = 0 ∧ R.down = false ∧ R.wr = [] ∧ R.dur = R.now ∧ R.now = (setAll D.now (s * 61 + 1) ys).set (s * 61) (pad80 x)) ∨
    (e = 9 ∧ R.down = true ∧ ((D.dur = D.now ∧ D.wr = []) → ∀ keep, ((dkRestart R keep).now.length = D.now.length ∧ ∀ p, (p < s * 61 + 1 ∨ s * 61 + 1 + ys.length ≤ p) → (dkRestart R keep).now[p]? = D.now[p]?) ∨ (dkRestart R keep).now = (setAll D.now (s * 61 + 1) ys).set (s * 61) (pad80 x)))

theorem hdWrite_out (D : DkM) (h : Hd) (rows : List Ch) (hd : D.down = false) (hn : 122 ≤ D.now.length) (hs : h.slot ≤ 1) (hr : rows.length ≤ 80) (hg : ∀ x ∈ rows, chErr x = 0) :
    HdOut D (hdWrite D h rows).1 (hdWrite D h rows).2 h.slot ((pcsOf ⟨(stText rows).toArray⟩).map fun x => x.1.2) (hdText h) ∧ ((pcsOf ⟨(stText rows).toArray⟩).map fun x => x.1.2).length ≤ 60 := by
  have hT : (⟨(stText rows).toArray⟩ : ByteArray).size ≤ 4720 := by
    show (stText rows).length ≤ 4720
    have := stText_fine hg
    omega
  obtain ⟨T, hTe⟩ : ∃ T : ByteArray, (⟨(stText rows).toArray⟩ : ByteArray) = T := ⟨_, rfl⟩
  unfold hdWrite
  rw [hTe] at hT ⊢
  have hc := pcs_count T.size 0 T
  have ha := pcs_at T.size 0 T (by omega)
  rw [show pcs T.size 0 T = pcsOf T from rfl] at hc ha
  have hp := wrP_put (pcsOf T) (h.slot * 61 + 1) 0 D hd ha (by omega)
  rw [show (((h.slot * 61 + 1 : Nat) : Int)) = (h.slot : Int) * 61 + 1 by omega, Nat.add_zero] at hp
  refine ⟨?_, by rw [List.length_map]; omega⟩
  have hyl : ((pcsOf T).map fun x => x.1.2).length ≤ 60 := by rw [List.length_map]; omega
  generalize ((pcsOf T).map fun x => x.1.2) = ys at *
  generalize wrP ((h.slot : Int) * 61 + 1) D (pcsOf T) = P at *
  obtain ⟨D1, e1⟩ := P
  simp only [] at hp
  have old : ∀ R : DkM, R.dur = D.dur → (∃ i, R.wr = D.wr ++ (wrs (h.slot * 61 + 1) ys).take i) → (D.dur = D.now ∧ D.wr = []) → ∀ keep, (dkRestart R keep).now.length = D.now.length ∧ ∀ p, (p < h.slot * 61 + 1 ∨ h.slot * 61 + 1 + ys.length ≤ p) → (dkRestart R keep).now[p]? = D.now[p]? := by
    rintro R r1 ⟨i, r2⟩ ⟨d1, d2⟩ keep
    show (dkKeep keep 0 R.wr R.dur).length = _ ∧ ∀ p, _ → (dkKeep keep 0 R.wr R.dur)[p]? = _
    rw [r1, r2, d1, d2, List.nil_append]
    refine ⟨dkKeep_length _ _ _ _, fun p hp => keep_out keep _ 0 _ p (fun q hq => ?_)⟩
    have := wrs_at _ _ q (List.mem_of_mem_take hq)
    omega
  unfold hdWr2
  rcases hp with ⟨rfl, q1, q2, q3, q4⟩ | ⟨rfl, q1, q2, q3⟩
  · rw [if_neg (by simp)]
    by_cases f1 : dkStepE D1 = 0
    · rw [if_neg (by simpa using f1)]
      obtain ⟨u1, u2, u3, u4⟩ := flush_up f1
      have hlen : (dkFlush D1).now.length = D.now.length := by rw [u2, q1, setAll_length]
      have hin : ¬ (¬ (0 ≤ (h.slot : Int) * 61 ∧ (h.slot : Int) * 61 < (dkFlush D1).now.length) ∨ 80 < (hdText h).size) := by rw [hlen, hdText_size]; omega
      have hE : dkWriteE (dkFlush D1) ((h.slot : Int) * 61) (hdText h) = dkStepE (dkFlush D1) := by unfold dkWriteE; rw [if_neg hin]
      have hW : dkWrite (dkFlush D1) ((h.slot : Int) * 61) (hdText h) = if dkStepE (dkFlush D1) = 0 then dkPut (dkStep (dkFlush D1)) (h.slot * 61) (pad80 (hdText h)) else dkStep (dkFlush D1) := by
        unfold dkWrite; rw [if_neg hin, show ((h.slot : Int) * 61).toNat = h.slot * 61 by omega]
      rw [hE, hW]
      generalize dkFlush D1 = D2 at *
      by_cases f2 : dkStepE D2 = 0
      · rw [if_neg (by simpa using f2), if_pos f2]
        have hd3 : (dkPut (dkStep D2) (h.slot * 61) (pad80 (hdText h))).down = false := step_down u1 f2
        have hn3 : (dkPut (dkStep D2) (h.slot * 61) (pad80 (hdText h))).now = (setAll D.now (h.slot * 61 + 1) ys).set (h.slot * 61) (pad80 (hdText h)) := by simp [dkPut, dkStep_now, u2, q1]
        have hu3 : (dkPut (dkStep D2) (h.slot * 61) (pad80 (hdText h))).dur = setAll D.now (h.slot * 61 + 1) ys := by simp [dkPut, dkStep_dur, u3, q1]
        have hw3 : (dkPut (dkStep D2) (h.slot * 61) (pad80 (hdText h))).wr = [(h.slot * 61, pad80 (hdText h))] := by simp [dkPut, dkStep_wr, u4]
        generalize dkPut (dkStep D2) (h.slot * 61) (pad80 (hdText h)) = D3 at *
        by_cases f3 : dkStepE D3 = 0
        · obtain ⟨v1, v2, v3, v4⟩ := flush_up f3
          exact ⟨.inl ⟨f3, v1, v4, by rw [v3, v2], by rw [v2, hn3]⟩⟩
        · obtain ⟨g1, g2⟩ := step_fail hd3 f3
          have hfl : dkFlush D3 = dkStep D3 := by unfold dkFlush; rw [if_neg f3]
          refine ⟨.inr ⟨g1, by rw [hfl]; exact g2, fun hdur keep => ?_⟩⟩
          show ((dkKeep keep 0 (dkFlush D3).wr (dkFlush D3).dur).length = _ ∧ ∀ p, _ → (dkKeep keep 0 (dkFlush D3).wr (dkFlush D3).dur)[p]? = _) ∨ dkKeep keep 0 (dkFlush D3).wr (dkFlush D3).dur = _
          rw [hfl, dkStep_wr, dkStep_dur, hw3, hu3]
          rcases keep_one keep 0 (h.slot * 61, pad80 (hdText h)) 1 (setAll D.now (h.slot * 61 + 1) ys) with hk | hk
          · rw [show [(h.slot * 61, pad80 (hdText h))] = [(h.slot * 61, pad80 (hdText h))].take 1 from rfl, hk]
            exact .inl ⟨setAll_length _ _ _, fun p hp => setAll_out _ _ _ _ hp⟩
          · rw [show [(h.slot * 61, pad80 (hdText h))] = [(h.slot * 61, pad80 (hdText h))].take 1 from rfl, hk]
            exact .inr rfl
      · rw [if_pos f2, if_neg f2]
        obtain ⟨g1, g2⟩ := step_fail u1 f2
        refine ⟨.inr ⟨g1, g2, fun hdur keep => .inl ?_⟩⟩
        show (dkKeep keep 0 (dkStep D2).wr (dkStep D2).dur).length = _ ∧ ∀ p, _ → (dkKeep keep 0 (dkStep D2).wr (dkStep D2).dur)[p]? = _
        rw [dkStep_wr, dkStep_dur, u4, u3, q1]
        exact ⟨setAll_length _ _ _, fun p hp => setAll_out _ _ _ _ hp⟩
    · rw [if_pos f1]
      obtain ⟨g1, g2⟩ := step_fail q4 f1
      have hfl : dkFlush D1 = dkStep D1 := by unfold dkFlush; rw [if_neg f1]
      refine ⟨.inr ⟨g1, by rw [hfl]; exact g2, fun hdur keep => .inl ?_⟩⟩
      rw [hfl]
      exact old _ (by rw [dkStep_dur, q2]) ⟨(wrs (h.slot * 61 + 1) ys).length, by rw [dkStep_wr, q3, List.take_length]⟩ hdur keep
  · rw [if_pos (by simp)]
    exact ⟨.inr ⟨rfl, q1, fun hdur keep => .inl (old _ q2 q3 hdur keep)⟩⟩
end Go.Proofs.Ythhedahfmllnoaa
