/- The document's rows: are two lists the same? -/
import Derived.Test.YthhedahfmllnoaaZqCmp
/- Rows as plain data: how a change turns them; the order of keys. -/
namespace Go.Proofs.Ythhedahfmllnoaa
open Go.RowKit

/-! The order of texts. -/
abbrev cb := Lib.compareBytes
theorem cb_self : ∀ a : List UInt8, cb a a = 0
  | [] => rfl
  | x :: a => by
    show (if x < x then (-1 : Int) else if x < x then 1 else cb a a) = 0
    rw [if_neg (UInt8.lt_irrefl x), if_neg (UInt8.lt_irrefl x)]
    exact cb_self a
theorem cb_swap : ∀ a b : List UInt8, cb b a = - cb a b
  | [], [] => rfl
  | [], _ :: _ => rfl
  | _ :: _, [] => rfl
  | x :: a, y :: b => by
    show (if y < x then (-1 : Int) else if x < y then 1 else cb b a) = - (if x < y then (-1 : Int) else if y < x then 1 else cb a b)
    have ih := cb_swap a b
    by_cases h1 : y < x
    · have h2 : ¬ x < y := fun h => UInt8.lt_irrefl x (UInt8.lt_trans h h1)
      rw [if_pos h1, if_neg h2, if_pos h1]
    · by_cases h2 : x < y
      · rw [if_neg h1, if_pos h2, if_pos h2]; rfl
      · rw [if_neg h1, if_neg h2, if_neg h2, if_neg h1]; exact ih
theorem cb_zero : ∀ a b : List UInt8, cb a b = 0 → a = b
  | [], [], _ => rfl
  | [], _ :: _, h => by cases h
  | _ :: _, [], h => by cases h
  | x :: a, y :: b, h => by
    replace h : (if x < y then (-1 : Int) else if y < x then 1 else cb a b) = 0 := h
    by_cases h1 : x < y
    · rw [if_pos h1] at h; cases h
    · by_cases h2 : y < x
      · rw [if_neg h1, if_pos h2] at h; cases h
      · rw [if_neg h1, if_neg h2] at h
        rw [cb_zero a b h, UInt8.le_antisymm (UInt8.not_lt.1 h2) (UInt8.not_lt.1 h1)]
theorem cb_trans : ∀ a b c : List UInt8, cb a b < 0 → cb b c < 0 → cb a c < 0
  | [], [], _, h, _ => by cases h
  | [], _ :: _, [], _, h => by cases h
  | [], _ :: _, _ :: _, _, _ => by show (-1 : Int) < 0; decide
  | _ :: _, [], _, h, _ => by cases h
  | _ :: _, _ :: _, [], _, h => by cases h
  | x :: a, y :: b, z :: c, h, k => by
    replace h : (if x < y then (-1 : Int) else if y < x then 1 else cb a b) < 0 := h
    replace k : (if y < z then (-1 : Int) else if z < y then 1 else cb b c) < 0 := k
    show (if x < z then (-1 : Int) else if z < x then 1 else cb a c) < 0
    by_cases h1 : x < y
    · by_cases k1 : y < z
      · rw [if_pos (UInt8.lt_trans h1 k1)]; decide
      · by_cases k2 : z < y
        · rw [if_neg k1, if_pos k2] at k; cases k
        · have : y = z := UInt8.le_antisymm (UInt8.not_lt.1 k2) (UInt8.not_lt.1 k1)
          rw [← this, if_pos h1]; decide
    · by_cases h2 : y < x
      · rw [if_neg h1, if_pos h2] at h; cases h
      · have e : x = y := UInt8.le_antisymm (UInt8.not_lt.1 h2) (UInt8.not_lt.1 h1)
        rw [if_neg h1, if_neg h2] at h
        subst e
        by_cases k1 : x < z
        · rw [if_pos k1]; decide
        · by_cases k2 : z < x
          · rw [if_neg k1, if_pos k2] at k; cases k
          · rw [if_neg k1, if_neg k2] at k ⊢
            exact cb_trans a b c h k
theorem less_cb : ∀ a b : List UInt8, Op.bytesLess a b = decide (cb a b < 0)
  | [], [] => rfl
  | [], _ :: _ => rfl
  | _ :: _, [] => rfl
  | x :: a, y :: b => by
    show (decide (x < y) || (x == y && Op.bytesLess a b)) = decide ((if x < y then (-1 : Int) else if y < x then 1 else cb a b) < 0)
    rw [less_cb a b]
    by_cases h1 : x < y
    · simp [h1]
    · by_cases h2 : y < x
      · have : ¬ x = y := fun e => by subst e; exact UInt8.lt_irrefl x h2
        simp [h1, h2, this]
      · have e : x = y := UInt8.le_antisymm (UInt8.not_lt.1 h2) (UInt8.not_lt.1 h1)
        subst e
        simp [h1]

theorem toList_data (x : ByteArray) : x.toList = x.data.toList := ByteArray.toList_eq x
theorem cmp_self (a : ByteArray) : cmpB a a = 0 := cb_self _
theorem cmp_swap (a b : ByteArray) : cmpB b a = - cmpB a b := cb_swap _ _
theorem cmp_zero {a b : ByteArray} (h : cmpB a b = 0) : a = b := by
  have := cb_zero _ _ h
  obtain ⟨⟨a⟩⟩ := a
  obtain ⟨⟨b⟩⟩ := b
  simp only [] at this
  rw [this]
theorem cmp_trans {a b c : ByteArray} (h : cmpB a b < 0) (k : cmpB b c < 0) : cmpB a c < 0 := cb_trans _ _ _ h k
theorem eq_cmp (a b : ByteArray) : (a.toList == b.toList) = decide (cmpB a b = 0) := by
  rw [toList_data, toList_data]
  by_cases h : cmpB a b = 0
  · rw [cmp_zero h]; simp [cmp_self]
  · have : ¬ a.data = b.data := fun e => h (by unfold cmpB; rw [e]; exact cb_self _)
    simp [h, this]
theorem leq_cmp (a b : ByteArray) : (Op.bytesLess a.toList b.toList || a.toList == b.toList) = decide (cmpB a b ≤ 0) := by
  rw [eq_cmp, toList_data, toList_data, less_cb]
  show (decide (cmpB a b < 0) || decide (cmpB a b = 0)) = _
  rw [← Bool.decide_or]
  congr 1
  apply propext
  omega

/-! Rows. -/
def SortedCh (m : List Ch) : Prop := m.Pairwise fun a b => cmpB a.key b.key < 0
def rLo (m : List Ch) (k : ByteArray) : List Ch := m.filter fun x => decide (cmpB x.key k < 0)
def rHi (m : List Ch) (k : ByteArray) : List Ch := m.filter fun x => decide (0 < cmpB x.key k)
/-- Rows behind a change. -/
def ap1 (m : List Ch) (c : Ch) : List Ch := rLo m c.key ++ ((if c.gone then [] else [c]) ++ rHi m c.key)
def apAll (m : List Ch) (l : List Ch) : List Ch := l.foldl ap1 m

theorem ap1_sorted {m : List Ch} (h : SortedCh m) (c : Ch) : SortedCh (ap1 m c) := by
  unfold SortedCh ap1
  rw [List.pairwise_append]
  refine ⟨h.filter _, ?_, ?_⟩
  · rw [List.pairwise_append]
    refine ⟨by cases c.gone <;> simp, h.filter _, ?_⟩
    intro a ha b hb
    have hb2 := (List.mem_filter.1 hb).2
    simp only [decide_eq_true_eq] at hb2
    have hac : a = c := by cases hg : c.gone <;> simp [hg] at ha; exact ha
    rw [hac, cmp_swap]; omega
  · intro a ha b hb
    have ha2 := (List.mem_filter.1 ha).2
    simp only [decide_eq_true_eq] at ha2
    rcases List.mem_append.1 hb with hb | hb
    · have hbc : b = c := by cases hg : c.gone <;> simp [hg] at hb; exact hb
      rw [hbc]; exact ha2
    · have hb2 := (List.mem_filter.1 hb).2
      simp only [decide_eq_true_eq] at hb2
      exact cmp_trans ha2 (by rw [cmp_swap]; omega)
theorem apAll_sorted : ∀ (l : List Ch) {m : List Ch}, SortedCh m → SortedCh (apAll m l)
  | [], _, h => h
  | c :: l, _, h => apAll_sorted l (ap1_sorted h c)
theorem ap1_len (m : List Ch) (c : Ch) : (ap1 m c).length ≤ m.length + 1 := by
  have h1 : ∀ l : List Ch, (rLo l c.key).length + (rHi l c.key).length ≤ l.length := by
    intro l
    induction l with
    | nil => simp [rLo, rHi]
    | cons y r ih =>
      unfold rLo rHi at ih ⊢
      simp only [List.filter_cons]
      by_cases a : cmpB y.key c.key < 0
      · have b : ¬ 0 < cmpB y.key c.key := by omega
        simp [a, b]; omega
      · by_cases b : 0 < cmpB y.key c.key
        · simp [a, b]; omega
        · simp [a, b]; omega
  have := h1 m
  unfold ap1
  simp only [List.length_append]
  split <;> simp <;> omega
theorem apAll_snoc (m l : List Ch) (c : Ch) : apAll m (l ++ [c]) = ap1 (apAll m l) c := by simp [apAll]
theorem apAll_len : ∀ (l m : List Ch), (apAll m l).length ≤ m.length + l.length
  | [], m => by simp [apAll]
  | c :: l, m => by
    have a := apAll_len l (ap1 m c)
    have b := ap1_len m c
    show (apAll (ap1 m c) l).length ≤ _
    simp only [List.length_cons]; omega

/-- What lies behind a key in sorted rows. -/
theorem hi_all {y : Ch} {r : List Ch} {k : ByteArray} (h : SortedCh (y :: r)) (hy : 0 ≤ cmpB y.key k) : rHi r k = r ∧ rLo (y :: r) k = [] := by
  have hr : ∀ z ∈ r, 0 < cmpB z.key k := by
    intro z hz
    have h1 := (List.pairwise_cons.1 h).1 z hz
    by_cases h0 : cmpB y.key k = 0
    · have := cmp_swap z.key y.key
      have e := cmp_zero h0
      rw [← e]; omega
    · have h2 : cmpB k y.key < 0 := by rw [cmp_swap]; omega
      have h3 := cmp_trans h2 h1
      rw [cmp_swap] at h3; omega
  refine ⟨List.filter_eq_self.2 (fun z hz => decide_eq_true (hr z hz)), List.filter_eq_nil_iff.2 (fun z hz => ?_)⟩
  simp only [decide_eq_true_eq]
  rcases List.mem_cons.1 hz with rfl | hz
  · omega
  · have := hr z hz; omega

/-- The place where the search ends parts the rows. -/
theorem ap_parts {p q : List Ch} {k : ByteArray} (hp : ∀ x ∈ p, cmpB x.key k < 0) (hq : ∀ x ∈ q, 0 ≤ cmpB x.key k) : rLo (p ++ q) k = p ∧ rHi (p ++ q) k = rHi q k := by
  refine ⟨?_, ?_⟩
  · unfold rLo
    rw [List.filter_append, List.filter_eq_self.2 (fun x hx => decide_eq_true (hp x hx)), List.filter_eq_nil_iff.2 (fun x hx => by have := hq x hx; simp; omega), List.append_nil]
  · unfold rHi
    rw [List.filter_append, List.filter_eq_nil_iff.2 (fun x hx => by have := hp x hx; simp; omega), List.nil_append]

theorem ap_none {p q : List Ch} {c : Ch} (hp : ∀ x ∈ p, cmpB x.key c.key < 0) (hq : ∀ x ∈ q, 0 ≤ cmpB x.key c.key) (hs : SortedCh (p ++ q)) (hn : ∀ y r, q = y :: r → ¬ cmpB y.key c.key = 0) : ap1 (p ++ q) c = p ++ ((if c.gone then [] else [c]) ++ q) := by
  obtain ⟨e1, e2⟩ := ap_parts hp hq
  unfold ap1
  rw [e1, e2]
  congr 2
  cases hqq : q with
  | nil => rfl
  | cons y r =>
    subst hqq
    have hy := hq y (by simp)
    have h0 := hn y r rfl
    have := (hi_all (List.pairwise_append.1 hs).2.1 hy).1
    unfold rHi at this ⊢
    rw [List.filter_cons, if_pos (by simp; omega), this]
theorem ap_some {p r : List Ch} {y c : Ch} (hp : ∀ x ∈ p, cmpB x.key c.key < 0) (hq : ∀ x ∈ y :: r, 0 ≤ cmpB x.key c.key) (hs : SortedCh (p ++ y :: r)) (hn : cmpB y.key c.key = 0) : ap1 (p ++ y :: r) c = p ++ ((if c.gone then [] else [c]) ++ r) := by
  obtain ⟨e1, e2⟩ := ap_parts hp hq
  unfold ap1
  rw [e1, e2]
  congr 2
  have := (hi_all (List.pairwise_append.1 hs).2.1 (hq y (by simp))).1
  unfold rHi at this ⊢
  rw [List.filter_cons, if_neg (by simp; omega), this]
end Go.Proofs.Ythhedahfmllnoaa

/- The document's rows: are two lists the same? -/
namespace Go.Proofs.Ythhedahfmllnoaa
open Go.RowKit

instance : DecidableEq Ch := fun a b => decidable_of_iff (a.key = b.key ∧ a.val = b.val ∧ a.gone = b.gone) ⟨fun h => by obtain ⟨a1, a2, a3⟩ := a; obtain ⟨b1, b2, b3⟩ := b; simp only [] at h; rw [h.1, h.2.1, h.2.2], fun h => by rw [h]; exact ⟨rfl, rfl, rfl⟩⟩

theorem takes_eq {l r : List Ch} {k : Nat} (hk : k < l.length) (hk' : k < r.length) (h : l.take k = r.take k) (e : l[k] = r[k]) : l.take (k + 1) = r.take (k + 1) := by
  rw [List.take_succ_eq_append_getElem hk, List.take_succ_eq_append_getElem hk', h, e]
theorem takes_ne {l r : List Ch} {k : Nat} (hk : k < l.length) (hk' : k < r.length) (h : ¬ l[k] = r[k]) : decide (l = r) = false := by
  simp only [decide_eq_false_iff_not]; intro e; subst e; exact h rfl
theorem text_yes {a b : ByteArray} (h : a = b) : (a.toList == b.toList) = true := by rw [h]; simp
theorem text_no {a b : ByteArray} (h : ¬ a = b) : (a.toList == b.toList) = false := by
  rw [eq_cmp]; exact decide_eq_false (fun e => h (cmp_zero e))

set_option maxHeartbeats 4000000 in
set_option maxRecDepth 100000 in
theorem sameChs_any (w : World) (A B : Option Addr) (cA cB : Nat) (l r : List Ch) (h1 : ChsAt w A l) (h2 : ChsAt w B r) (hn : l.length ≤ 100000) :
    Calls Try.prog 15 #[.slice A l.length cA, .slice B r.length cB] w fun e w' => e = .returned (.bool (decide (l = r))) ∧ Below w.heap.size w w' := by
  by_cases hlen : l.length = r.length
  · have hd : ((l.length : Int) != (r.length : Int)) = false := by simp [hlen]
    have HL := Lib.hid hlen; clear hlen
    go_enter Try.func15, Try.ntmps15
    go_wp2
    go_loopw [5] (fun i w' => ∃ k : Nat, k ≤ l.length ∧ i = .int .i64 k ∧ Hid (l.take k = r.take k) ∧ Below w.heap.size w w') (fun i _ => l.length - (intOf i).toNat)
    case atStart => exact ⟨0, Nat.zero_le _, rfl, rfl, Below.refl _ _⟩
    case round =>
      obtain ⟨k, hk, rfl, HE, hb⟩ := hrel
      by_cases hlt : k < l.length
      · have hlt' : k < r.length := by have := HL.out; omega
        obtain ⟨b, off, rfl, hB, c0, c1, c2, s1, s2⟩ := (h1.below hb) k hlt
        obtain ⟨b', off', rfl, hB', c0', c1', c2', s1', s2'⟩ := (h2.below hb) k hlt'
        have EQ := Lib.hid (fun (h : l[k] = r[k]) => takes_eq hlt hlt' HE.out h)
        have NE := Lib.hid (fun (h : ¬ l[k] = r[k]) => takes_ne hlt hlt' h)
        have i1 : (k : Int) < (l.length : Int) := by omega
        generalize l[k] = x at *
        generalize r[k] = y at *
        obtain ⟨x1, x2, x3⟩ := x
        obtain ⟨y1, y2, y3⟩ := y
        simp only [] at c0 c1 c2 c0' c1' c2'
        clear s1 s2 s1' s2' hB hB'
        by_cases e1 : x1 = y1
        · subst e1
          have t1 : (x1.toList == x1.toList) = true := text_yes rfl
          by_cases e2 : x2 = y2
          · subst e2
            have t2 : (x2.toList == x2.toList) = true := text_yes rfl
            by_cases e3 : x3 = y3
            · subst e3
              have t3 : (x3 == x3) = true := by simp
              have EQ2 := Lib.hid (EQ.out rfl)
              clear EQ NE
              go_wp2
              go_quiet (fail)
              go_wp2
              go_roundw
              case rel => exact ⟨k + 1, hlt, by go_num, EQ2.out, below_drewN hb _⟩
              case measure => simp [intOf]; omega
            · have t3 : (x3 == y3) = false := by simp [e3]
              have NE2 := Lib.hid (NE.out (by simp [e3]))
              clear EQ NE e3
              go_wp2
              go_quiet (fail)
              go_wp2
              go_ret
              exact ⟨ret_bool NE2.out.symm, below_drewN hb _⟩
          · have t2 : (x2.toList == y2.toList) = false := text_no e2
            have NE2 := Lib.hid (NE.out (by simp [e2]))
            clear EQ NE e2
            go_wp2
            go_quiet (fail)
            go_wp2
            go_ret
            exact ⟨ret_bool NE2.out.symm, below_drewN hb _⟩
        · have t1 : (x1.toList == y1.toList) = false := text_no e1
          have NE2 := Lib.hid (NE.out (by simp [e1]))
          clear EQ NE e1
          go_wp2
          go_quiet (fail)
          go_wp2
          go_ret
          exact ⟨ret_bool NE2.out.symm, below_drewN hb _⟩
      · go_wp2
        go_ret
        have h1 : l.take k = l := List.take_of_length_le (by omega)
        have h2 : r.take k = r := List.take_of_length_le (by have := HL.out; omega)
        exact ⟨ret_bool (by rw [← h1, ← h2, HE.out]; simp), hb⟩
  · have hd : ((l.length : Int) != (r.length : Int)) = true := by simp; omega
    have HR := Lib.hid (show decide (l = r) = false by simp only [decide_eq_false_iff_not]; intro e; exact hlen (by rw [e]))
    clear hlen h1 h2
    go_enter Try.func15, Try.ntmps15
    go_wp2
    go_ret
    exact ⟨ret_bool HR.out.symm, Below.refl _ _⟩
end Go.Proofs.Ythhedahfmllnoaa
