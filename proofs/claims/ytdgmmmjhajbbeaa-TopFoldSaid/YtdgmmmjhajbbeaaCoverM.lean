/- What differs is reported: the reasoning on models. -/
import Derived.Test.YtdgmmmjhajbbeaaStaleM
namespace Go.Proofs.Ytdgmmmjhajbbeaa
open Go.RowKit

/-- What a reader sees of contents at a place. -/
def view (c : Cont) (i : Nat) : Option ByteArray := if i < c.size then some (c.texts i) else none
/-- What was not touched since a snapshot is as it was. -/
def Lnk (s : SnapM) (c : Cont) : Prop := s.forgot = false → ∀ i : Nat, i < 16 → hasB s.touched i = false → view s.was i = view c i
def headWas (L : List SnapM) (now : Cont) : Cont := match L with
  | [] => now
  | s :: _ => s.was
def Cov : List SnapM → Cont → Prop
  | [], _ => True
  | s :: r, now => Lnk s (headWas r now) ∧ Cov r now

theorem has_uni16 (l r : List Ar) (i : Nat) (h : i < 16) : hasB (uni l r) i = (hasB l i || hasB r i) := by
  unfold uni
  rw [areasOf_has]
  have : (i : Int) < 16 := by omega
  simp [this]

theorem headWas_append (L R : List SnapM) (c : Cont) : headWas (L ++ R) c = headWas L (headWas R c) := by cases L <;> rfl
theorem cov_concat (r : List SnapM) (s : SnapM) (c : Cont) : Cov (r ++ [s]) c ↔ Cov r s.was ∧ Lnk s c := by
  induction r with
  | nil => simp [Cov, headWas]
  | cons t r ih =>
    simp only [List.cons_append, Cov, ih, headWas_append]
    simp only [headWas, and_assoc]

theorem cov_touch {L : List SnapM} {c c' : Cont} {a : Ar} (h : Cov L c) (hs : ∀ i : Nat, i < 16 → inAr a i = false → view c i = view c' i) : Cov (onLast (addTouch a) L) c' := by
  rcases List.eq_nil_or_concat L with rfl | ⟨r, s, rfl⟩
  · trivial
  · rw [List.concat_eq_append] at h ⊢
    rw [onLast_concat, cov_concat]
    rw [cov_concat] at h
    refine ⟨h.1, fun hf i hi hn => ?_⟩
    have hn' : hasB (uni s.touched [a]) i = false := hn
    rw [has_uni16 _ _ _ hi, hasB_cons, hasB_nil, Bool.or_false, Bool.or_eq_false_iff] at hn'
    exact (h.2 hf i hi hn'.1).trans (hs i hi hn'.2)

theorem cov_forget {L : List SnapM} {c : Cont} (h : Cov L c) : Cov (onLast setForgot L) c := by
  rcases List.eq_nil_or_concat L with rfl | ⟨r, s, rfl⟩
  · trivial
  · rw [List.concat_eq_append] at h ⊢
    rw [onLast_concat, cov_concat]
    rw [cov_concat] at h
    exact ⟨h.1, fun hf => by cases hf⟩

theorem lnk_merge {s t : SnapM} {c : Cont} (h1 : Lnk s t.was) (h2 : Lnk t c) : Lnk (merge s t) c := by
  intro hf i hi hn
  have hf' : (s.forgot || t.forgot) = false := hf
  have hn' : hasB (uni s.touched t.touched) i = false := hn
  rw [has_uni16 _ _ _ hi, Bool.or_eq_false_iff] at hn'
  rw [Bool.or_eq_false_iff] at hf'
  exact (h1 hf'.1 i hi hn'.1).trans (h2 hf'.2 i hi hn'.2)

theorem dropL_cons (s : SnapM) (r : List SnapM) (i : Nat) : dropL (s :: r) (i + 2) = s :: dropL r (i + 1) := by
  simp only [dropL, List.getElem?_cons_succ]
  cases h1 : r[i]? with
  | none => rfl
  | some x =>
    cases h2 : r[i + 1]? with
    | none => rfl
    | some y => simp

theorem headWas_drop (L : List SnapM) (i : Nat) (c : Cont) (h : i + 1 < L.length) : headWas (dropL L (i + 1)) c = headWas L c := by
  cases L with
  | nil => simp at h
  | cons s r =>
    cases i with
    | zero =>
      cases r with
      | nil => simp at h
      | cons t r => simp [dropL, headWas, merge]
    | succ i => rw [dropL_cons]; rfl

theorem cov_dropS (c : Cont) (i : Nat) : ∀ L : List SnapM, i + 1 < L.length → Cov L c → Cov (dropL L (i + 1)) c := by
  induction i with
  | zero =>
    intro L hi h
    match L, hi, h with
    | s :: t :: r, _, h =>
      simp only [dropL, List.getElem?_cons_zero, List.getElem?_cons_succ, List.set_cons_zero, List.eraseIdx_cons_succ, List.eraseIdx_cons_zero]
      obtain ⟨h1, h2, h3⟩ := h
      exact ⟨lnk_merge h1 h2, h3⟩
  | succ i ih =>
    intro L hi h
    match L, hi, h with
    | s :: r, hi, h =>
      rw [dropL_cons]
      simp at hi
      refine ⟨?_, ih r (by omega) h.2⟩
      rw [headWas_drop r i c (by omega)]
      exact h.1

theorem cov_drop {L : List SnapM} {c : Cont} (i : Nat) (hi : i < L.length) (h : Cov L c) : Cov (dropL L i) c := by
  cases i with
  | zero =>
    cases L with
    | nil => simp at hi
    | cons s r => simpa [dropL] using h.2
  | succ i => exact cov_dropS c i L hi h

theorem view_write (c : Cont) (k : Int) (d : ByteArray) (hk : 0 ≤ k) (i : Nat) (hn : inAr (k, 1) i = false) : view c i = view { c with texts := setText c.texts k.toNat d } i := by
  rw [inAr_false] at hn
  simp only at hn
  unfold view setText
  have : ¬ (i = k.toNat) := by omega
  simp [this]

theorem view_size (c : Cont) (n i : Nat) (hn : inAr (((min n c.size : Nat) : Int), ((max n c.size : Nat) : Int) - (min n c.size : Nat)) i = false) : view c i = view ⟨n, clearText c.texts (min n c.size) (max n c.size)⟩ i := by
  rw [inAr_false] at hn
  simp only at hn
  unfold view clearText
  simp only
  have hcase : i < min n c.size ∨ max n c.size ≤ i := by omega
  rcases hcase with h | h
  · rw [if_pos (by omega), if_pos (by omega), if_neg (by omega)]
  · rw [if_neg (by omega), if_neg (by omega)]

/-- What every act keeps. -/
def Covers (D : DiskM) : Prop := Cov D.snaps D.now
theorem covers_change (D : DiskM) (m : ActM) (h : Covers D) : Covers (changeM D m) := by
  unfold changeM
  split
  · unfold writeM; split
    · rename_i hw
      have hk : 0 ≤ m.a := by
        by_cases c : 0 ≤ m.a
        · exact c
        · exfalso; unfold writeErr at hw; rw [if_pos (by omega)] at hw; omega
      exact cov_touch h fun i _ hn => view_write D.now m.a m.s hk i hn
    · exact h
  · split
    · unfold resizeM; split
      · unfold resizeTo; split
        · exact h
        · exact cov_touch h fun i _ hn => view_size D.now _ i hn
      · exact h
    · split
      · unfold snapM; split
        · exact (cov_concat _ _ _).2 ⟨h, fun _ _ _ _ => rfl⟩
        · exact h
      · split
        · unfold dropM
          cases hp : posIn D.snaps m.a with
          | none => exact h
          | some i => exact cov_drop i (posIn_lt hp).1 h
        · split
          · exact cov_forget h
          · exact h
theorem covers_run (D : DiskM) (l : List ActM) (h : Covers D) : Covers (runM D l) := by
  unfold runM
  induction l generalizing D with
  | nil => exact h
  | cons m r ih => exact ih _ (covers_change D m h)

theorem cov_get {L : List SnapM} {c : Cont} (h : Cov L c) (k : Nat) (hk : k + 1 < L.length) : Lnk L[k] L[k + 1].was := by
  induction L generalizing k with
  | nil => simp at hk
  | cons s r ih =>
    cases k with
    | zero =>
      match r, hk, h with
      | t :: r, _, h => exact h.1
    | succ k => simpa using ih h.2 k (by simpa using hk)

theorem cov_range {L : List SnapM} {c : Cont} (h : Cov L c) (lo n : Nat) (hh : lo + n < L.length) (i : Nat) (hi : i < 16) (hs : ∀ k, (hk : k < L.length) → lo ≤ k → k < lo + n → L[k].forgot = false ∧ hasB L[k].touched i = false) :
    view (L[lo]'(by omega)).was i = view L[lo + n].was i := by
  induction n with
  | zero => rfl
  | succ n ih =>
    obtain ⟨h1, h2⟩ := hs (lo + n) (by omega) (by omega) (by omega)
    exact (ih (by omega) fun k hk a b => hs k hk a (by omega)).trans (cov_get h (lo + n) (by omega) h1 i hi h2)

theorem has_foldT (L : List SnapM) (l : List Ar) (i : Nat) (hi : i < 16) : hasB (foldT l L) i = (hasB l i || L.any fun s => hasB s.touched i) := by
  unfold foldT
  induction L generalizing l with
  | nil => simp
  | cons s r ih => rw [List.foldl_cons, ih, has_uni16 _ _ _ hi, List.any_cons, Bool.or_assoc]
end Go.Proofs.Ytdgmmmjhajbbeaa
