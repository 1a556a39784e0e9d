/- Plain facts on pages: how many blocks, which ones, and what comes next. -/
import Derived.Test.YtdgmmmjhajbbeaaPage
namespace Go.Proofs.Ytdgmmmjhajbbeaa
open Go.RowKit

/-- How many of the first n blocks are marked. -/
def cnt (m : Nat → Bool) : Nat → Int
  | 0 => 0
  | n + 1 => cnt m n + (if m n then 1 else 0)

theorem cnt_step (m : Nat → Bool) (n : Nat) : cnt m (n + 1) = cnt m n + (if m n then 1 else 0) := rfl
theorem cnt_yes {m : Nat → Bool} {n : Nat} (h : m n = true) : cnt m (n + 1) = cnt m n + 1 := by simp [cnt, h]
theorem cnt_no {m : Nat → Bool} {n : Nat} (h : m n = false) : cnt m (n + 1) = cnt m n := by simp [cnt, h]
theorem cnt_bound (m : Nat → Bool) (n : Nat) : 0 ≤ cnt m n ∧ cnt m n ≤ n := by
  induction n with
  | zero => exact ⟨by simp [cnt], by simp [cnt]⟩
  | succ n ih => rw [cnt_step]; split <;> (constructor <;> omega)

/-- The marks from block i on, below block k. -/
def window (m : Nat → Bool) (i k : Nat) : Nat → Bool := fun x => decide (i ≤ x) && decide (x < k) && m x

theorem cnt_window (m : Nat → Bool) {i k : Nat} (hik : i ≤ k) (n : Nat) : cnt (window m i k) n = cnt m (min k n) - cnt m (min i n) := by
  induction n with
  | zero => simp [cnt]
  | succ n ih =>
    rw [cnt_step, ih]
    by_cases h1 : n < i
    · have e1 : min i (n + 1) = n + 1 := by omega
      have e2 : min k (n + 1) = n + 1 := by omega
      have e3 : min i n = n := by omega
      have e4 : min k n = n := by omega
      have e5 : window m i k n = false := by simp [window]; omega
      rw [e1, e2, e3, e4, e5]; simp
    · by_cases h2 : n < k
      · have e1 : min i (n + 1) = i := by omega
        have e2 : min k (n + 1) = n + 1 := by omega
        have e3 : min i n = i := by omega
        have e4 : min k n = n := by omega
        have e5 : window m i k n = m n := by
          have a : decide (i ≤ n) = true := by simp; omega
          have b : decide (n < k) = true := by simp; omega
          simp [window, a, b]
        rw [e1, e2, e3, e4, e5, cnt_step]; omega
      · have e1 : min i (n + 1) = i := by omega
        have e2 : min k (n + 1) = k := by omega
        have e3 : min i n = i := by omega
        have e4 : min k n = k := by omega
        have e5 : window m i k n = false := by simp [window]; omega
        rw [e1, e2, e3, e4, e5]; simp

theorem sum_build (m : Nat → Bool) (n : Nat) (hn : n ≤ 16) : sumMany (build m n) = cnt m n := by
  induction n with
  | zero => rfl
  | succ n ih =>
    have ih' := ih (by omega)
    by_cases hm : m n = true
    · rw [cnt_yes hm]
      by_cases hp : 0 < n ∧ m (n - 1) = true
      · obtain ⟨L, a, e1, e2, _, _⟩ := build_grow m n hm hp.1 hp.2 (by omega)
        rw [e1, sumMany_snoc] at ih'
        rw [e2, sumMany_snoc]; simp only; omega
      · rw [build_new m n hm hp, sumMany_snoc, ih']
    · have hm' : m n = false := by simpa using hm
      rw [cnt_no hm', build_skip m n hm', ih']

theorem sum_areasOf (m : Nat → Bool) : sumMany (areasOf m) = cnt m 16 := sum_build m 16 (by omega)

theorem cnt_congr {m m' : Nat → Bool} {n : Nat} (h : ∀ i, i < n → m i = m' i) : cnt m n = cnt m' n := by
  induction n with
  | zero => rfl
  | succ n ih => rw [cnt_step, cnt_step, ih (fun i hi => h i (by omega)), h n (by omega)]

/-- What a page is: all that is left, or just so many, and the next one is marked. -/
theorem pg_spec (m : Nat → Bool) (n : Nat) : ∀ (i : Nat) (q : Int), 0 ≤ q →
    (pgNext m n i q = -1 ∧ (∀ x, pgMarks m n i q x = window m i (i + n) x) ∧ cnt m (i + n) - cnt m i ≤ q) ∨
    (∃ k : Nat, pgNext m n i q = k ∧ i + q ≤ k ∧ k < i + n ∧ m k = true ∧ (∀ x, pgMarks m n i q x = window m i k x) ∧ cnt m k - cnt m i = q) := by
  induction n with
  | zero => intro i q hq; left; exact ⟨rfl, fun x => by simp [pgMarks, window]; omega, by simp; omega⟩
  | succ n ih =>
    intro i q hq
    cases hm : m i with
    | true =>
      by_cases h : q < 1
      · obtain ⟨g1, g2⟩ := pg_stop m (n := n) hm h
        right
        refine ⟨i, g1, by omega, by omega, hm, fun x => ?_, by omega⟩
        rw [g2 x]; symm; simp [window]; omega
      · obtain ⟨g1, g2⟩ := pg_take m (n := n) hm h
        have hc := cnt_yes hm
        rcases ih (i + 1) (q - 1) (by omega) with ⟨h1, h2, h3⟩ | ⟨k, h1, h2, h3, h4, h5, h6⟩
        · left
          refine ⟨by rw [g1, h1], fun x => ?_, by rw [show i + (n + 1) = i + 1 + n by omega]; omega⟩
          rw [g2 x, h2 x]
          by_cases e : x = i
          · subst e; simp [window, hm]
          · simp only [window, e, decide_false, Bool.false_or]
            have : decide (i + 1 ≤ x) = decide (i ≤ x) := by rw [decide_eq_decide]; omega
            rw [this, show i + 1 + n = i + (n + 1) by omega]
        · right
          refine ⟨k, by rw [g1, h1], by omega, by omega, h4, fun x => ?_, by omega⟩
          rw [g2 x, h5 x]
          by_cases e : x = i
          · subst e
            have : decide (x < k) = true := by simp; omega
            simp [window, hm, this]
          · simp only [window, e, decide_false, Bool.false_or]
            have : decide (i + 1 ≤ x) = decide (i ≤ x) := by rw [decide_eq_decide]; omega
            rw [this]
    | false =>
      obtain ⟨g1, g2⟩ := pg_skip m (n := n) (q := q) hm
      have hc := cnt_no hm
      rcases ih (i + 1) q hq with ⟨h1, h2, h3⟩ | ⟨k, h1, h2, h3, h4, h5, h6⟩
      · left
        refine ⟨by rw [g1, h1], fun x => ?_, by rw [show i + (n + 1) = i + 1 + n by omega]; omega⟩
        rw [g2 x, h2 x]
        by_cases e : x = i
        · subst e; simp [window, hm]
        · simp only [window]
          have : decide (i + 1 ≤ x) = decide (i ≤ x) := by rw [decide_eq_decide]; omega
          rw [this, show i + 1 + n = i + (n + 1) by omega]
      · right
        refine ⟨k, by rw [g1, h1], by omega, by omega, h4, fun x => ?_, by omega⟩
        rw [g2 x, h5 x]
        by_cases e : x = i
        · subst e; simp [window, hm]
        · simp only [window]
          have : decide (i + 1 ≤ x) = decide (i ≤ x) := by rw [decide_eq_decide]; omega
          rw [this]

/-- The blocks of a list below k. -/
def upto (l : List Ar) (k : Nat) : List Ar := areasOf (window (fun i => hasB l i) 0 k)

theorem page_spec (l : List Ar) (i : Nat) (q : Int) (hi : i ≤ 16) (hq : 0 ≤ q) :
    (pageNext l i q = -1 ∧ pageAr l i q = areasOf (window (fun i => hasB l i) i 16) ∧ sumMany (pageAr l i q) ≤ q ∧ sumMany (pageAr l i q) = cnt (fun i => hasB l i) 16 - cnt (fun i => hasB l i) i) ∨
    (∃ k : Nat, pageNext l i q = k ∧ i + q ≤ k ∧ k < 16 ∧ pageAr l i q = areasOf (window (fun i => hasB l i) i k) ∧ sumMany (pageAr l i q) = q ∧ cnt (fun i => hasB l i) k = cnt (fun i => hasB l i) i + q) := by
  have e : (max (i : Int) 0).toNat = i := by omega
  have hs := pg_spec (fun i => hasB l i) (16 - i) i q hq
  unfold pageNext pageAr
  rw [e]
  rcases hs with ⟨h1, h2, h3⟩ | ⟨k, h1, h2, h3, h4, h5, h6⟩
  · left
    rw [show i + (16 - i) = 16 by omega] at h2 h3
    have ea : areasOf (pgMarks (fun i => hasB l i) (16 - i) i q) = areasOf (window (fun i => hasB l i) i 16) := areasOf_congr fun x _ => h2 x
    have es : sumMany (areasOf (window (fun i => hasB l i) i 16)) = cnt (fun i => hasB l i) 16 - cnt (fun i => hasB l i) i := by
      rw [sum_areasOf, cnt_window _ hi, show min 16 16 = 16 by omega, show min i 16 = i by omega]
    exact ⟨h1, ea, by rw [ea, es]; exact h3, by rw [ea, es]⟩
  · right
    have ea : areasOf (pgMarks (fun i => hasB l i) (16 - i) i q) = areasOf (window (fun i => hasB l i) i k) := areasOf_congr fun x _ => h5 x
    have es : sumMany (areasOf (window (fun i => hasB l i) i k)) = cnt (fun i => hasB l i) k - cnt (fun i => hasB l i) i := by
      rw [sum_areasOf, cnt_window _ (by omega), show min k 16 = k by omega, show min i 16 = i by omega]
    exact ⟨k, h1, h2, by omega, ea, by rw [ea, es]; exact h6, by omega⟩

theorem uni_upto (l : List Ar) {i k : Nat} (hik : i ≤ k) : uni (upto l i) (areasOf (window (fun i => hasB l i) i k)) = upto l k := by
  unfold uni upto
  refine areasOf_congr fun x hx => ?_
  rw [areasOf_has, areasOf_has]
  have e1 : decide ((0 : Int) ≤ (x : Int)) = true := by simp
  have e2 : decide ((x : Int) < 16) = true := by simp; omega
  rw [e1, e2, Int.toNat_natCast]
  simp only [window, Bool.true_and, Nat.zero_le, decide_true]
  cases hasB l x
  · simp
  · rw [Bool.eq_iff_iff]; simp; omega

theorem upto_all {l : List Ar} (h : ValidFrom 0 l) : upto l 16 = l := by
  have : upto l 16 = areasOf (marksOf l) := areasOf_congr fun x hx => by
    have : decide (x < 16) = true := by simpa using hx
    simp [window, marksOf, this]
  rw [this, areasOf_marksOf h]

theorem sum_valid {l : List Ar} (h : ValidFrom 0 l) : sumMany l = cnt (fun i => hasB l i) 16 := by
  conv => lhs; rw [← areasOf_marksOf h]
  rw [sum_areasOf]; rfl

theorem bd_sum {l : List Ar} (h : Bd l) (hl : l.length ≤ 20) : ∀ k, k ≤ l.length → 0 ≤ sumMany (l.take k) ∧ sumMany (l.take k) ≤ 1000 := by
  have : ∀ k, k ≤ l.length → 0 ≤ sumMany (l.take k) ∧ sumMany (l.take k) ≤ 16 * k := by
    intro k
    induction k with
    | zero => intro _; simp [sumMany]
    | succ k ih =>
      intro hk
      obtain ⟨h1, h2⟩ := ih (by omega)
      obtain ⟨b1, b2, b3⟩ := h k hk
      rw [take_snoc_ar l k hk, sumMany_snoc]
      constructor <;> omega
  intro k hk
  have := this k hk
  omega

end Go.Proofs.Ytdgmmmjhajbbeaa
