/- A log and its disk: an entry that is put is there, or, where the disk fails, there or not. -/
import Derived.Test.YthhedahfmllnoaaZqLgP
namespace Go.Proofs.Ythhedahfmllnoaa
open Go.RowKit Go.PlainAid

/-! The disk behind a log's writes. -/
def setAll : List (List UInt8) → Nat → List ByteArray → List (List UInt8)
  | now, _, [] => now
  | now, k, x :: r => setAll (now.set k (pad80 x)) (k + 1) r
def wrs : Nat → List ByteArray → List (Nat × List UInt8)
  | _, [] => []
  | k, x :: r => (k, pad80 x) :: wrs (k + 1) r
theorem setAll_length : ∀ (xs : List ByteArray) (now : List (List UInt8)) (k : Nat), (setAll now k xs).length = now.length
  | [], _, _ => rfl
  | x :: r, now, k => by rw [setAll, setAll_length r]; simp
theorem setAll_out : ∀ (xs : List ByteArray) (now : List (List UInt8)) (k p : Nat), (p < k ∨ k + xs.length ≤ p) → (setAll now k xs)[p]? = now[p]?
  | [], _, _, _, _ => rfl
  | x :: r, now, k, p, h => by
    rw [setAll, setAll_out r _ (k + 1) p (by simp only [List.length_cons] at h; omega), List.getElem?_set_ne (by simp only [List.length_cons] at h; omega)]
theorem setAll_in : ∀ (xs : List ByteArray) (now : List (List UInt8)) (k j : Nat) (hj : j < xs.length), k + xs.length ≤ now.length → (setAll now k xs)[k + j]? = some (pad80 xs[j])
  | x :: r, now, k, 0, _, h => by
    rw [setAll, setAll_out r _ (k + 1) (k + 0) (by omega), Nat.add_zero, List.getElem?_set_self (by simp only [List.length_cons] at h; omega)]
    rfl
  | x :: r, now, k, j + 1, hj, h => by
    rw [setAll, show k + (j + 1) = k + 1 + j by omega]
    exact setAll_in r _ (k + 1) j (by simpa using hj) (by simp only [List.length_cons, List.length_set] at h ⊢; omega)
theorem wrs_at : ∀ (xs : List ByteArray) (k : Nat) (p : Nat × List UInt8), p ∈ wrs k xs → k ≤ p.1 ∧ p.1 < k + xs.length
  | x :: r, k, p, h => by
    simp only [wrs, List.mem_cons] at h
    rcases h with rfl | h
    · simp
    · have := wrs_at r (k + 1) p h
      simp only [List.length_cons]; omega

theorem step_fail {D : DkM} (hd : D.down = false) (h : ¬ dkStepE D = 0) : dkStepE D = 9 ∧ (dkStep D).down = true := by
  have hl : D.left = 0 := by
    by_cases hl : D.left = 0
    · exact hl
    · exact absurd (by unfold dkStepE; rw [if_neg (by simp [hl, hd])]) h
  exact ⟨by unfold dkStepE; rw [if_pos (.inl hl)], by unfold dkStep; rw [if_pos hl]⟩
theorem step_down {D : DkM} (hd : D.down = false) (h : dkStepE D = 0) : (dkStep D).down = false := by
  have hl : ¬ D.left = 0 := fun hl => by unfold dkStepE at h; rw [if_pos (.inl hl)] at h; omega
  unfold dkStep
  rw [if_neg hl, if_neg (by simp [hd])]
  split <;> exact hd

def Wrote (D R : DkM) (k : Nat) (xs : List ByteArray) (e : Int) : Prop :=
  (e = 0 ∧ R.now = setAll D.now k xs ∧ R.dur = R.now ∧ R.wr = [] ∧ R.down = false) ∨
  (e = 9 ∧ R.down = true ∧ R.dur = D.dur ∧ ∃ i, R.wr = D.wr ++ (wrs k xs).take i)

theorem wrote : ∀ (xs : List ByteArray) (k : Nat) (D : DkM), D.down = false → (∀ x ∈ xs, x.size ≤ 80) → k + xs.length ≤ D.now.length → Wrote D (lgWrite xs k D).1 k xs (lgWrite xs k D).2
  | [], k, D, hd, _, _ => by
    unfold lgWrite dkFlush
    by_cases h : dkStepE D = 0
    · refine .inl ⟨h, ?_⟩
      simp only [if_pos h]
      exact ⟨by simp [dkSaved, dkStep_now, setAll], rfl, rfl, by simpa [dkSaved] using step_down hd h⟩
    · obtain ⟨h9, hdn⟩ := step_fail hd h
      refine .inr ⟨h9, ?_⟩
      simp only [if_neg h]
      exact ⟨hdn, dkStep_dur D, 0, by simp [dkStep_wr]⟩
  | x :: r, k, D, hd, hs, hk => by
    simp only [List.length_cons] at hk
    have hx := hs x (by simp)
    have hin : ¬ (¬ (0 ≤ (k : Int) ∧ (k : Int) < D.now.length) ∨ 80 < x.size) := by omega
    have hE : dkWriteE D k x = dkStepE D := by unfold dkWriteE; rw [if_neg hin]
    by_cases h : dkStepE D = 0
    · have hW : dkWrite D k x = dkPut (dkStep D) k (pad80 x) := by unfold dkWrite; rw [if_neg hin, if_pos h, Int.toNat_natCast]
      have ih := wrote r (k + 1) (dkPut (dkStep D) k (pad80 x)) (by simpa [dkPut] using step_down hd h) (fun y hy => hs y (by simp [hy])) (by simp only [dkPut, List.length_set, dkStep_now]; omega)
      have e0 : lgWrite (x :: r) k D = lgWrite r (k + 1) (dkPut (dkStep D) k (pad80 x)) := by rw [lgWrite, hE, if_pos h, hW]
      rw [e0]
      rcases ih with ⟨h1, h2, h3⟩ | ⟨h1, h2, h3, i, h4⟩
      · exact .inl ⟨h1, by rw [h2]; simp [dkPut, setAll, dkStep_now], h3⟩
      · exact .inr ⟨h1, h2, by rw [h3]; simp [dkPut, dkStep_dur], i + 1, by rw [h4]; simp [dkPut, dkStep_wr, wrs]⟩
    · obtain ⟨h9, hdn⟩ := step_fail hd h
      have hW : dkWrite D k x = dkStep D := by unfold dkWrite; rw [if_neg hin, if_neg h]
      have e0 : lgWrite (x :: r) k D = (dkStep D, dkStepE D) := by rw [lgWrite, hE, if_neg h, hW]
      rw [e0]
      exact .inr ⟨h9, hdn, dkStep_dur D, 0, by simp [dkStep_wr]⟩

theorem keep_out (keep : Nat) : ∀ (a : List (Nat × List UInt8)) (i : Nat) (L : List (List UInt8)) (p : Nat), (∀ q ∈ a, q.1 ≠ p) → (dkKeep keep i a L)[p]? = L[p]?
  | [], _, _, _, _ => rfl
  | q :: a, i, L, p, h => by
    rw [dkKeep, keep_out keep a (i + 1) _ p (fun q hq => h q (by simp [hq]))]
    split
    · rw [List.getElem?_set_ne (h q (by simp))]
    · rfl
theorem keep_one (keep i : Nat) (p : Nat × List UInt8) (j : Nat) (L : List (List UInt8)) : dkKeep keep i ([p].take j) L = L ∨ dkKeep keep i ([p].take j) L = L.set p.1 p.2 := by
  cases j with
  | zero => exact .inl rfl
  | succ j =>
    have : [p].take (j + 1) = [p] := by simp
    rw [this, dkKeep, dkKeep]
    split
    · exact .inr rfl
    · exact .inl rfl

/-! Sectors as texts. -/
def txt (now : List (List UInt8)) (frm many : Nat) : List ByteArray := (List.range many).map fun i => ⟨(now.getD (frm + i) []).toArray⟩
theorem txt_length (now : List (List UInt8)) (frm many : Nat) : (txt now frm many).length = many := by simp [txt]
theorem txt_at (now : List (List UInt8)) (frm many i : Nat) : (txt now frm many)[i]? = if i < many then some ⟨(now.getD (frm + i) []).toArray⟩ else none := by
  unfold txt
  by_cases h : i < many
  · rw [if_pos h]; simp [h]
  · rw [if_neg h]; simp; omega
theorem txt_take {now now' : List (List UInt8)} {frm many n : Nat} (h : ∀ i, i < n → now'[frm + i]? = now[frm + i]?) : (txt now' frm many).take n = (txt now frm many).take n := by
  apply List.ext_getElem?
  intro i
  rw [List.getElem?_take, List.getElem?_take]
  split
  · rename_i hi
    rw [txt_at, txt_at]
    simp only [List.getD, h i hi]
  · rfl
theorem txt_drop {now : List (List UInt8)} {frm many n : Nat} (V : List ByteArray) (hn : n + V.length ≤ many) (h : ∀ j, (hj : j < V.length) → now[frm + n + j]? = some (pad80 V[j])) :
    (txt now frm many).drop n = V.map onDisk ++ (txt now frm many).drop (n + V.length) := by
  apply List.ext_getElem?
  intro j
  rw [List.getElem?_drop, txt_at]
  by_cases hj : j < V.length
  · rw [List.getElem?_append_left (by simpa using hj), if_pos (by omega)]
    have := h j hj
    rw [show frm + (n + j) = frm + n + j by omega]
    simp [List.getD, this, hj, onDisk]
  · rw [List.getElem?_append_right (by simp; omega), List.getElem?_drop, txt_at, List.length_map, show n + V.length + (j - V.length) = n + j by omega]

/-- A log on a disk that works: what is read. -/
structure LInv (D : DkM) (L : LgM) (want : List (List Ch)) : Prop where
  up : D.down = false
  wr : D.wr = []
  dur : D.dur = D.now
  fit : L.frm + L.many ≤ D.now.length
  fin : L.fin ≤ L.many
  read : lgRead L.first (txt D.now L.frm L.many) 0 [] [] 0 = (want, L.fin)

/-- Sectors that are as they were up to the log's end. -/
theorem LInv.again {D : DkM} {L : LgM} {want : List (List Ch)} (h : LInv D L want) {now : List (List UInt8)} (hn : ∀ i, i < L.fin → now[L.frm + i]? = D.now[L.frm + i]?) :
    lgRead L.first (txt now L.frm L.many) 0 [] [] 0 = lgRead L.first ((txt now L.frm L.many).drop L.fin) L.fin [] want L.fin := by
  have hl : ((txt D.now L.frm L.many).take L.fin).length = L.fin := by rw [List.length_take, txt_length]; exact Nat.min_eq_left h.fin
  have := read_split L.first ((txt D.now L.frm L.many).take L.fin) ((txt D.now L.frm L.many).drop L.fin) ((txt now L.frm L.many).drop L.fin) 0 [] [] want 0 (Nat.le_refl _) (fun _ => rfl) (by rw [List.take_append_drop, hl, Nat.zero_add]; exact h.read)
  rw [hl, Nat.zero_add, ← txt_take hn, List.take_append_drop] at this
  exact this
theorem LInv.blank {D : DkM} {L : LgM} {want : List (List Ch)} (h : LInv D L want) (hlt : L.fin < L.many) {now : List (List UInt8)} (hn : ∀ i, i < L.fin → now[L.frm + i]? = D.now[L.frm + i]?) (hb : now[L.frm + L.fin]? = some (pad80 blankT)) :
    lgRead L.first (txt now L.frm L.many) 0 [] [] 0 = (want, L.fin) := by
  rw [h.again hn, txt_drop [blankT] (by simp; omega) (fun j hj => by
    have : j = 0 := by simpa using hj
    subst this; simpa using hb)]
  exact read_blank _ _ _ _ _ _
theorem LInv.entry {D : DkM} {L : LgM} {want : List (List Ch)} (h : LInv D L want) (l : List Ch) (hl : chsErr l = 0) (hfit : L.fin + l.length + 1 ≤ L.many) {now : List (List UInt8)} (hn : ∀ i, i < L.fin → now[L.frm + i]? = D.now[L.frm + i]?)
    (hS : ∀ j, (hj : j < (entSecs L l).length) → now[L.frm + L.fin + j]? = some (pad80 (entSecs L l)[j])) (hb : L.fin + l.length + 1 < L.many → now[L.frm + (L.fin + l.length + 1)]? = some (pad80 blankT)) :
    lgRead L.first (txt now L.frm L.many) 0 [] [] 0 = (want ++ [l], L.fin + l.length + 1) := by
  have hSl := entSecs_length L l
  rw [h.again hn, txt_drop (entSecs L l) (by rw [hSl]; omega) hS, hSl]
  have hm : (entSecs L l).map onDisk = (secsOf (L.first + L.fin) l).map onDisk ++ [onDisk (secB (L.first + L.fin + l.length) 99 ⟨(lit (([] : List Ch).length + l.length) 4).toArray⟩)] := by
    unfold entSecs; simp
  rw [hm, List.append_assoc, List.singleton_append, read_entry L.first l _ L.fin [] want L.fin hl]
  by_cases hroom : L.fin + l.length + 1 < L.many
  · rw [show L.fin + (l.length + 1) = L.fin + l.length + 1 by omega, txt_drop [blankT] (by simp; omega) (fun j hj => by
      have : j = 0 := by simpa using hj
      subst this
      have := hb hroom
      rw [show L.frm + (L.fin + l.length + 1) = L.frm + (L.fin + l.length + 1) + 0 by omega] at this
      simpa using this)]
    exact read_blank _ _ _ _ _ _
  · rw [List.drop_eq_nil_of_le (by rw [txt_length]; omega)]
    rfl
end Go.Proofs.Ythhedahfmllnoaa
