/- Plain facts on areas of blocks (no program): lists of (first block, how many), which blocks they have, when they are valid, that a valid list is known by its blocks. -/
namespace Go.Proofs.Ytmcoenndfbgdfaa

abbrev Ar := Int × Int

def inAr (a : Ar) (i : Int) : Bool := decide (a.1 ≤ i) && decide (i - a.1 < a.2)
def hasB (l : List Ar) (i : Int) : Bool := l.any (fun a => inAr a i)

def ValidFrom : Int → List Ar → Prop
  | _, [] => True
  | lo, a :: r => lo ≤ a.1 ∧ 1 ≤ a.2 ∧ a.1 + a.2 ≤ 16 ∧ ValidFrom (a.1 + a.2 + 1) r

theorem inAr_iff (a : Ar) (i : Int) : inAr a i = true ↔ a.1 ≤ i ∧ i < a.1 + a.2 := by
  unfold inAr; simp; omega

theorem inAr_false (a : Ar) (i : Int) : inAr a i = false ↔ i < a.1 ∨ a.1 + a.2 ≤ i := by
  unfold inAr; simp; omega

theorem hasB_cons (a : Ar) (l : List Ar) (i : Int) : hasB (a :: l) i = (inAr a i || hasB l i) := by simp [hasB]
theorem hasB_nil (i : Int) : hasB [] i = false := rfl
theorem hasB_append (a b : List Ar) (i : Int) : hasB (a ++ b) i = (hasB a i || hasB b i) := by simp [hasB]

theorem hasB_low {lo : Int} {l : List Ar} (h : ValidFrom lo l) {i : Int} (hi : i < lo) : hasB l i = false := by
  induction l generalizing lo with
  | nil => rfl
  | cons a r ih =>
    obtain ⟨h1, h2, h3, h4⟩ := h
    rw [hasB_cons, (inAr_false a i).2 (by omega), ih h4 (by omega)]; rfl

theorem hasB_high {lo : Int} {l : List Ar} (h : ValidFrom lo l) {i : Int} (hi : 16 ≤ i) : hasB l i = false := by
  induction l generalizing lo with
  | nil => rfl
  | cons a r ih =>
    obtain ⟨h1, h2, h3, h4⟩ := h
    rw [hasB_cons, (inAr_false a i).2 (by omega), ih h4]; rfl

theorem hasB_range {lo : Int} {l : List Ar} (h : ValidFrom lo l) {i : Int} (hi : hasB l i = true) : lo ≤ i ∧ i < 16 := by
  constructor
  · by_cases c : i < lo
    · rw [hasB_low h c] at hi; cases hi
    · omega
  · by_cases c : 16 ≤ i
    · rw [hasB_high h c] at hi; cases hi
    · omega

theorem valid_ext {lo lo' : Int} {l l' : List Ar} (h : ValidFrom lo l) (h' : ValidFrom lo' l') (he : ∀ i, hasB l i = hasB l' i) : l = l' := by
  induction l generalizing lo lo' l' with
  | nil =>
    cases l' with
    | nil => rfl
    | cons b s =>
      obtain ⟨h1, h2, h3, h4⟩ := h'
      have := he b.1
      rw [hasB_cons, (inAr_iff b b.1).2 (by omega)] at this
      simp [hasB] at this
  | cons a r ih =>
    obtain ⟨h1, h2, h3, h4⟩ := h
    cases l' with
    | nil =>
      have := he a.1
      rw [hasB_cons, (inAr_iff a a.1).2 (by omega)] at this
      simp [hasB] at this
    | cons b s =>
      obtain ⟨g1, g2, g3, g4⟩ := h'
      have e1 : a.1 = b.1 := by
        have x := he a.1
        have y := he b.1
        rw [hasB_cons, hasB_cons, (inAr_iff a a.1).2 (by omega)] at x
        rw [hasB_cons, hasB_cons, (inAr_iff b b.1).2 (by omega)] at y
        rcases Int.lt_trichotomy a.1 b.1 with c | c | c
        · rw [(inAr_false b a.1).2 (by omega), hasB_low g4 (by omega)] at x; simp at x
        · exact c
        · rw [(inAr_false a b.1).2 (by omega), hasB_low h4 (by omega)] at y; simp at y
      have e2 : a.2 = b.2 := by
        rcases Int.lt_trichotomy a.2 b.2 with c | c | c
        · have x := he (a.1 + a.2)
          rw [hasB_cons, hasB_cons, (inAr_iff b _).2 (by omega), (inAr_false a _).2 (by omega), hasB_low h4 (by omega)] at x; simp at x
        · exact c
        · have x := he (b.1 + b.2)
          rw [hasB_cons, hasB_cons, (inAr_iff a _).2 (by omega), (inAr_false b _).2 (by omega), hasB_low g4 (by omega)] at x; simp at x
      have e : a = b := Prod.ext e1 e2
      subst e
      congr 1
      refine ih h4 g4 (fun i => ?_)
      by_cases c : i < a.1 + a.2 + 1
      · rw [hasB_low h4 c, hasB_low g4 c]
      · have x := he i
        rw [hasB_cons, hasB_cons, (inAr_false a i).2 (by omega)] at x
        simpa using x

/-- What Check answers: 0, or the number of an error. -/
def chk : Option Int → List Ar → Int
  | _, [] => 0
  | p, a :: r =>
    if a.1 < 0 ∨ a.2 < 1 ∨ 16 - a.1 < a.2 then 1
    else match p with
      | some e => if a.1 ≤ e then 3 else chk (some (a.1 + a.2)) r
      | none => chk (some (a.1 + a.2)) r

theorem chk_some {l : List Ar} {e : Int} (he : -1 ≤ e) : chk (some e) l = 0 ↔ ValidFrom (e + 1) l := by
  induction l generalizing e with
  | nil => simp [chk, ValidFrom]
  | cons a r ih =>
    unfold chk ValidFrom
    by_cases c : a.1 < 0 ∨ a.2 < 1 ∨ 16 - a.1 < a.2
    · rw [if_pos c]; constructor
      · intro h; cases h
      · rintro ⟨h1, h2, h3, _⟩; omega
    · rw [if_neg c]
      by_cases d : a.1 ≤ e
      · simp only [if_pos d]; constructor
        · intro h; cases h
        · rintro ⟨h1, h2, h3, _⟩; omega
      · simp only [if_neg d]
        rw [ih (by omega)]
        constructor
        · intro h; exact ⟨by omega, by omega, by omega, h⟩
        · rintro ⟨_, _, _, h⟩; exact h

theorem chk_none {l : List Ar} : chk none l = 0 ↔ ValidFrom 0 l := by
  cases l with
  | nil => simp [chk, ValidFrom]
  | cons a r =>
    unfold chk ValidFrom
    by_cases c : a.1 < 0 ∨ a.2 < 1 ∨ 16 - a.1 < a.2
    · rw [if_pos c]; constructor
      · intro h; cases h
      · rintro ⟨h1, h2, h3, _⟩; omega
    · rw [if_neg c]
      show chk (some (a.1 + a.2)) r = 0 ↔ _
      rw [chk_some (by omega)]
      constructor
      · intro h; exact ⟨by omega, by omega, by omega, h⟩
      · rintro ⟨_, _, _, h⟩; exact h

theorem ValidFrom.append {lo : Int} {l : List Ar} {x : Ar} (h : ValidFrom lo l) (hlo : lo ≤ x.1) (hx : 1 ≤ x.2 ∧ x.1 + x.2 ≤ 16) (hl : ∀ a ∈ l, a.1 + a.2 + 1 ≤ x.1) : ValidFrom lo (l ++ [x]) := by
  induction l generalizing lo with
  | nil => exact ⟨hlo, hx.1, hx.2, trivial⟩
  | cons a r ih =>
    obtain ⟨h1, h2, h3, h4⟩ := h
    exact ⟨h1, h2, h3, ih h4 (hl a (List.mem_cons_self ..)) (fun b hb => hl b (List.mem_cons_of_mem _ hb))⟩

theorem ValidFrom.init {lo : Int} {l : List Ar} {x : Ar} (h : ValidFrom lo (l ++ [x])) : ValidFrom lo l ∧ (∀ a ∈ l, a.1 + a.2 + 1 ≤ x.1) ∧ lo ≤ x.1 ∧ 1 ≤ x.2 ∧ x.1 + x.2 ≤ 16 := by
  induction l generalizing lo with
  | nil => obtain ⟨h1, h2, h3, _⟩ := h; exact ⟨trivial, by simp, h1, h2, h3⟩
  | cons a r ih =>
    obtain ⟨h1, h2, h3, h4⟩ := h
    obtain ⟨g1, g2, g3, g4, g5⟩ := ih h4
    refine ⟨⟨h1, h2, h3, g1⟩, fun b hb => ?_, by omega, g4, g5⟩
    rcases List.mem_cons.1 hb with rfl | hb
    · omega
    · exact g2 b hb

/-- The areas of the first n blocks that are marked, built as the program builds them. -/
def build (m : Nat → Bool) : Nat → List Ar
  | 0 => []
  | n + 1 =>
    if m n then
      if 0 < n ∧ m (n - 1) = true then
        match (build m n).getLast? with
        | some a => (build m n).dropLast ++ [(a.1, a.2 + 1)]
        | none => []
      else build m n ++ [((n : Int), 1)]
    else build m n

def areasOf (m : Nat → Bool) : List Ar := build m 16

/-- If the last of n blocks is marked, the list ends with an area that ends there; else it ends before. -/
theorem build_inv (m : Nat → Bool) (n : Nat) (hn : n ≤ 16) :
    ValidFrom 0 (build m n) ∧ (∀ i : Int, hasB (build m n) i = (decide (0 ≤ i) && decide (i < n) && m i.toNat)) ∧
    (0 < n → m (n - 1) = true → ∃ (l : List Ar) (a : Ar), build m n = l ++ [a] ∧ a.1 + a.2 = (n : Int)) ∧ ((n = 0 ∨ m (n - 1) = false) → ∀ a ∈ build m n, a.1 + a.2 + 1 ≤ n) := by
  induction n with
  | zero => exact ⟨trivial, fun i => by simp [build, hasB]; omega, fun h => absurd h (by omega), fun _ a ha => by simp [build] at ha⟩
  | succ n ih =>
    obtain ⟨h1, h2, h3, h4⟩ := ih (by omega)
    by_cases hm : m n = true
    · by_cases hp : 0 < n ∧ m (n - 1) = true
      · obtain ⟨l, a, e, ha⟩ := h3 hp.1 hp.2
        have eb : build m (n + 1) = l ++ [(a.1, a.2 + 1)] := by
          simp only [build, hm, if_true, hp, and_self, e, List.getLast?_append, List.getLast?_singleton, Option.some_or, List.dropLast_concat]
        rw [e] at h1
        obtain ⟨g1, g2, g3, g4, g5⟩ := h1.init
        refine ⟨?_, fun i => ?_, fun _ _ => ⟨l, _, eb, by simp; omega⟩, fun h => ?_⟩
        · rw [eb]; exact g1.append g3 ⟨by simp; omega, by simp; omega⟩ (by simpa using g2)
        · have h2i := h2 i
          rw [e, hasB_append, hasB_cons, hasB_nil] at h2i
          rw [eb, hasB_append, hasB_cons, hasB_nil]
          by_cases hi : i = n
          · subst hi
            rw [(inAr_iff (a.1, a.2 + 1) (n : Int)).2 (by simp; omega)]
            simp [hm]; omega
          · have : inAr (a.1, a.2 + 1) i = inAr a i := by
              rw [Bool.eq_iff_iff, inAr_iff, inAr_iff]; simp; omega
            rw [this, h2i]
            have d : decide (i < ((n + 1 : Nat) : Int)) = decide (i < (n : Int)) := by rw [decide_eq_decide]; omega
            rw [d]
        · rcases h with h | h
          · omega
          · simp [hm] at h
      · have eb : build m (n + 1) = build m n ++ [((n : Int), 1)] := by simp only [build, hm, if_true, hp, if_false]
        have hlast : ∀ a ∈ build m n, a.1 + a.2 + 1 ≤ n := h4 (by
          rcases Nat.eq_zero_or_pos n with z | z
          · exact .inl z
          · right; cases c : m (n - 1) with
            | false => rfl
            | true => exact absurd ⟨z, c⟩ hp)
        refine ⟨?_, fun i => ?_, fun _ _ => ⟨_, _, eb, by simp⟩, fun h => ?_⟩
        · rw [eb]; exact h1.append (by simp) ⟨by simp, by simp; omega⟩ (by simpa using hlast)
        · rw [eb, hasB_append, hasB_cons, hasB_nil, h2 i]
          by_cases hi : i = n
          · subst hi
            rw [(inAr_iff ((n : Int), 1) (n : Int)).2 (by simp; omega)]
            simp [hm]; omega
          · rw [(inAr_false ((n : Int), 1) i).2 (by simp; omega)]
            have d : decide (i < ((n + 1 : Nat) : Int)) = decide (i < (n : Int)) := by rw [decide_eq_decide]; omega
            rw [d]; simp
        · rcases h with h | h
          · omega
          · simp [hm] at h
    · have hm' : m n = false := by simpa using hm
      have eb : build m (n + 1) = build m n := by simp only [build, hm', if_false, Bool.false_eq_true]
      refine ⟨by rw [eb]; exact h1, fun i => ?_, fun _ h => by simp [hm'] at h, fun _ a ha => ?_⟩
      · rw [eb, h2 i]
        by_cases hi : i = n
        · subst hi; simp [hm']
        · have d : decide (i < ((n + 1 : Nat) : Int)) = decide (i < (n : Int)) := by rw [decide_eq_decide]; omega
          rw [d]
      · rw [eb] at ha
        by_cases hp : 0 < n ∧ m (n - 1) = true
        · obtain ⟨l, b, e, hb⟩ := h3 hp.1 hp.2
          rw [e] at ha h1
          obtain ⟨g1, g2, g3, g4, g5⟩ := h1.init
          rcases List.mem_append.1 ha with ha | ha
          · have := g2 a ha; omega
          · simp at ha; subst ha; omega
        · have := h4 (by
            rcases Nat.eq_zero_or_pos n with z | z
            · exact .inl z
            · right; cases c : m (n - 1) with
              | false => rfl
              | true => exact absurd ⟨z, c⟩ hp) a ha
          omega

theorem areasOf_valid (m : Nat → Bool) : ValidFrom 0 (areasOf m) := (build_inv m 16 (by omega)).1
theorem areasOf_has (m : Nat → Bool) (i : Int) : hasB (areasOf m) i = (decide (0 ≤ i) && decide (i < 16) && m i.toNat) := (build_inv m 16 (by omega)).2.1 i

/-- The blocks of a list. -/
def marksOf (l : List Ar) : Nat → Bool := fun i => hasB l i

theorem areasOf_marksOf {l : List Ar} (h : ValidFrom 0 l) : areasOf (marksOf l) = l := by
  refine valid_ext (areasOf_valid _) h (fun i => ?_)
  rw [areasOf_has]
  by_cases c : 0 ≤ i ∧ i < 16
  · obtain ⟨n, rfl⟩ := Int.eq_ofNat_of_zero_le c.1
    simp [marksOf, c.2]
  · by_cases d : i < 0
    · rw [hasB_low h d]; simp; omega
    · rw [hasB_high h (by omega)]; simp; omega

theorem areasOf_congr {m m' : Nat → Bool} (h : ∀ i, i < 16 → m i = m' i) : areasOf m = areasOf m' := by
  refine valid_ext (areasOf_valid _) (areasOf_valid _) (fun i => ?_)
  rw [areasOf_has, areasOf_has]
  by_cases c : 0 ≤ i ∧ i < 16
  · rw [h i.toNat (by omega)]
  · have : (decide (0 ≤ i) && decide (i < 16)) = false := by simp; omega
    rw [this]; rfl

theorem marksOf_areasOf (m : Nat → Bool) {i : Nat} (hi : i < 16) : marksOf (areasOf m) i = m i := by
  unfold marksOf; rw [areasOf_has]; simp; omega

theorem build_len (m : Nat → Bool) (n : Nat) : (build m n).length ≤ n := by
  induction n with
  | zero => simp [build]
  | succ n ih =>
    simp only [build]
    split
    · split
      · split
        · rename_i a h
          have : (build m n).length ≠ 0 := by intro e; rw [List.length_eq_zero_iff.1 e] at h; cases h
          simp; omega
        · simp
      · simp; omega
    · omega

theorem areasOf_len (m : Nat → Bool) : (areasOf m).length ≤ 16 := build_len m 16

/-- How many blocks a list has: the sum of its numbers. -/
def sumMany (l : List Ar) : Int := (l.map (·.2)).sum

theorem sumMany_snoc (l : List Ar) (a : Ar) : sumMany (l ++ [a]) = sumMany l + a.2 := by simp [sumMany]

end Go.Proofs.Ytmcoenndfbgdfaa
