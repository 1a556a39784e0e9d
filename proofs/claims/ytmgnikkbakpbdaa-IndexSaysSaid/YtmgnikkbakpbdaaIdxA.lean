/- Shared indexes, plainly: every reference is counted, nothing refers to what is not there. -/
import Derived.Test.YtmgnikkbakpbdaaIdx5
namespace Go.Proofs.Ytmgnikkbakpbdaa

def Nod.kids (n : Nod) : List Nat := [n.k0, n.k1, n.k2, n.k3]
theorem kid_mem (n : Nod) (i : Nat) : n.kid i ∈ n.kids := by
  unfold Nod.kid sel4 Nod.kids
  split <;> simp

/-- How often a node refers to a number, if it is of this kind. -/
def con (T : Bool) (N : NodM) (n m : Nat) : Nat := if (N m).refs ≠ 0 ∧ (N m).top = T then (N m).kids.count n else 0
def refsTo (T : Bool) (N : NodM) (n : Nat) : Nat := ((List.range 25).map (con T N n)).sum

theorem sum_at (f g : Nat → Nat) (m0 : Nat) (h : ∀ i, i ≠ m0 → f i = g i) : ∀ n, ((List.range n).map g).sum + (if m0 < n then f m0 else 0) = ((List.range n).map f).sum + (if m0 < n then g m0 else 0)
  | 0 => by simp
  | n + 1 => by
    have ih := sum_at f g m0 h n
    rw [List.range_succ, List.map_append, List.map_append, List.sum_append, List.sum_append]
    simp only [List.map_cons, List.map_nil, List.sum_cons, List.sum_nil]
    by_cases e : m0 = n
    · subst e
      rw [if_neg (by omega), if_neg (by omega)] at ih
      rw [if_pos (by omega), if_pos (by omega)]
      omega
    · have hn := h n (fun x => e x.symm)
      by_cases hl : m0 < n
      · rw [if_pos hl, if_pos hl] at ih
        rw [if_pos (by omega), if_pos (by omega)]
        omega
      · rw [if_neg hl, if_neg hl] at ih
        rw [if_neg (by omega), if_neg (by omega)]
        omega
theorem sum_congr (f g : Nat → Nat) (h : ∀ i, f i = g i) (n : Nat) : ((List.range n).map f).sum = ((List.range n).map g).sum := by
  have : f = g := funext h
  rw [this]
theorem sum_zero (f : Nat → Nat) : ∀ n, (∀ i, i < n → f i = 0) → ((List.range n).map f).sum = 0
  | 0, _ => by simp
  | n + 1, h => by
    rw [List.range_succ, List.map_append, List.sum_append, sum_zero f n (fun i hi => h i (by omega))]
    simp [h n (by omega)]
theorem le_sum (f : Nat → Nat) (m : Nat) : ∀ n, m < n → f m ≤ ((List.range n).map f).sum
  | 0, h => by omega
  | n + 1, h => by
    rw [List.range_succ, List.map_append, List.sum_append]
    simp only [List.map_cons, List.map_nil, List.sum_cons, List.sum_nil]
    by_cases e : m = n
    · subst e; omega
    · have := le_sum f m n (by omega)
      omega

/-- Each reference is counted: HR, HL, HB are the references to roots, leaves and blocks that are held from outside. -/
structure Inv (X : IdxM) (HR HL HB : List Nat) : Prop where
  pl : ∀ b, (X.P b).refs ≠ 0 → 1 ≤ b ∧ b ≤ 40
  pg : ∀ b, (X.P b).refs = 0 → X.P b = noBlk
  nl : ∀ n, (X.N n).refs ≠ 0 → 1 ≤ n ∧ n ≤ 24
  ng : ∀ n, (X.N n).refs = 0 → X.N n = noNod
  top : ∀ n, (X.N n).refs ≠ 0 → (X.N n).top = true → (X.N n).refs = HR.count n
  leaf : ∀ n, (X.N n).refs ≠ 0 → (X.N n).top = false → (X.N n).refs = HL.count n + refsTo true X.N n
  blk : ∀ b, (X.P b).refs ≠ 0 → (X.P b).refs = HB.count b + refsTo false X.N b
  kidT : ∀ n, (X.N n).refs ≠ 0 → (X.N n).top = true → ∀ k ∈ (X.N n).kids, k ≠ 0 → (X.N k).refs ≠ 0 ∧ (X.N k).top = false
  kidF : ∀ n, (X.N n).refs ≠ 0 → (X.N n).top = false → ∀ k ∈ (X.N n).kids, k ≠ 0 → (X.P k).refs ≠ 0
  hr : ∀ n ∈ HR, (X.N n).refs ≠ 0 ∧ (X.N n).top = true
  hl : ∀ n ∈ HL, (X.N n).refs ≠ 0 ∧ (X.N n).top = false
  hb : ∀ b ∈ HB, (X.P b).refs ≠ 0

theorem inv_empty : Inv emptyIdx [] [] [] :=
  ⟨fun _ h => absurd rfl h, fun _ _ => rfl, fun _ h => absurd rfl h, fun _ _ => rfl, fun _ h => absurd rfl h, fun _ h => absurd rfl h, fun _ h => absurd rfl h, fun _ h => absurd rfl h, fun _ h => absurd rfl h, by simp, by simp, by simp⟩

section
variable {X : IdxM} {HR HL HB : List Nat}

/-- What is not there is not referred to. -/
theorem Inv.noRefN (h : Inv X HR HL HB) {n : Nat} (hn : n ≠ 0) (h0 : (X.N n).refs = 0) : refsTo true X.N n = 0 ∧ HR.count n = 0 ∧ HL.count n = 0 := by
  refine ⟨sum_zero _ _ fun m _ => ?_, List.count_eq_zero.2 fun hm => (h.hr n hm).1 h0, List.count_eq_zero.2 fun hm => (h.hl n hm).1 h0⟩
  unfold con
  split
  · rename_i hc
    exact List.count_eq_zero.2 fun hm => (h.kidT m hc.1 hc.2 n hm hn).1 h0
  · rfl
theorem Inv.noTopRef (h : Inv X HR HL HB) {n : Nat} (hn : n ≠ 0) (h0 : (X.N n).refs ≠ 0 → (X.N n).top = true) : refsTo true X.N n = 0 := by
  refine sum_zero _ _ fun m _ => ?_
  unfold con
  split
  · rename_i hc
    refine List.count_eq_zero.2 fun hm => ?_
    obtain ⟨h1, h2⟩ := h.kidT m hc.1 hc.2 n hm hn
    rw [h0 h1] at h2
    cases h2
  · rfl
theorem Inv.noRefB (h : Inv X HR HL HB) {b : Nat} (hn : b ≠ 0) (h0 : (X.P b).refs = 0) : refsTo false X.N b = 0 ∧ HB.count b = 0 := by
  refine ⟨sum_zero _ _ fun m _ => ?_, List.count_eq_zero.2 fun hm => h.hb b hm h0⟩
  unfold con
  split
  · rename_i hc
    exact List.count_eq_zero.2 fun hm => h.kidF m hc.1 hc.2 b hm hn h0
  · rfl
theorem Inv.has (h : Inv X HR HL HB) (k : Nat) : hasBlk X.P k = decide ((X.P k).refs ≠ 0) := by
  rw [Bool.eq_iff_iff, hasBlk_iff]
  simp only [decide_eq_true_eq, Int.toNat_natCast]
  exact ⟨fun h => h.2.2, fun h' => by have := h.pl k h'; exact ⟨by omega, by omega, h'⟩⟩
theorem Inv.hasN (h : Inv X HR HL HB) (k : Nat) : hasNod X.N k = decide ((X.N k).refs ≠ 0) := by
  rw [Bool.eq_iff_iff, hasNod_iff]
  simp only [decide_eq_true_eq, Int.toNat_natCast]
  exact ⟨fun h => h.2.2, fun h' => by have := h.nl k h'; exact ⟨by omega, by omega, h'⟩⟩
end

/-- Pools whose blocks have low numbers; one more reference, one less, at each number. -/
theorem addRef_at {p : PoolM} (hp : ∀ b, (p b).refs ≠ 0 → 1 ≤ b ∧ b ≤ 40) (k i : Nat) : addRef p k i = { p i with refs := (p i).refs + if (p i).refs ≠ 0 ∧ i = k then 1 else 0 } := by
  unfold addRef
  by_cases hh : hasBlk p k = true
  · rw [if_pos hh]
    have h3 := ((hasBlk_iff p k).1 hh).2.2
    simp only [Int.toNat_natCast, setBlk] at h3 ⊢
    by_cases e : i = k
    · subst e; simp [h3]
    · simp [e]
  · rw [if_neg hh]
    by_cases e : i = k
    · subst e
      have : (p i).refs = 0 := by
        refine Decidable.byContradiction fun h' => hh ((hasBlk_iff p i).2 ?_)
        have := hp i h'
        exact ⟨by omega, by omega, h'⟩
      simp [this]
      rw [← this]
    · simp [e]
theorem addRef_low {p : PoolM} (hp : ∀ b, (p b).refs ≠ 0 → 1 ≤ b ∧ b ≤ 40) (k : Nat) : ∀ b, (addRef p k b).refs ≠ 0 → 1 ≤ b ∧ b ≤ 40 := fun b hb => by
  rw [addRef_at hp] at hb
  refine hp b fun h0 => hb ?_
  simp [h0]
theorem addRef4_at {p : PoolM} (hp : ∀ b, (p b).refs ≠ 0 → 1 ≤ b ∧ b ≤ 40) (a b c d i : Nat) : addRef (addRef (addRef (addRef p a) b) c) d i = { p i with refs := (p i).refs + if (p i).refs ≠ 0 then [a, b, c, d].count i else 0 } := by
  rw [addRef_at (addRef_low (addRef_low (addRef_low hp a) b) c), addRef_at (addRef_low (addRef_low hp a) b), addRef_at (addRef_low hp a), addRef_at hp]
  by_cases h0 : (p i).refs = 0
  · simp [h0]
  · have e1 : ∀ n, (p i).refs + n ≠ 0 := fun n => by omega
    have e2 : ∀ n m, (p i).refs + n + m ≠ 0 := fun n m => by omega
    have e3 : ∀ n m k, (p i).refs + n + m + k ≠ 0 := fun n m k => by omega
    simp only [ne_eq, h0, not_false_eq_true, true_and, e1, e2, e3, if_true]
    congr 1
    simp only [List.count_cons, List.count_nil, beq_iff_eq]
    simp only [Nat.add_assoc]
    have es : ∀ z, (if i = z then 1 else 0) = (if z = i then (1 : Nat) else 0) := fun z => by by_cases e : i = z <;> simp [e, eq_comm]
    simp only [es]
    omega
theorem subRef_at {p : PoolM} (hp : ∀ b, (p b).refs ≠ 0 → 1 ≤ b ∧ b ≤ 40) (k i : Nat) : subRef p k i = if (p i).refs ≠ 0 ∧ i = k then (if (p i).refs = 1 then noBlk else { p i with refs := (p i).refs - 1 }) else p i := by
  unfold subRef
  by_cases hh : hasBlk p k = true
  · rw [if_pos hh]
    have h3 := ((hasBlk_iff p k).1 hh).2.2
    simp only [Int.toNat_natCast, setBlk] at h3 ⊢
    by_cases e : i = k
    · subst e; simp [h3]
    · simp [e]
  · rw [if_neg hh]
    by_cases e : i = k
    · subst e
      have : (p i).refs = 0 := by
        refine Decidable.byContradiction fun h' => hh ((hasBlk_iff p i).2 ?_)
        have := hp i h'
        exact ⟨by omega, by omega, h'⟩
      simp [this]
    · simp [e]
theorem incN_at {N : NodM} (hp : ∀ n, (N n).refs ≠ 0 → 1 ≤ n ∧ n ≤ 24) (k i : Nat) : incN N k i = { N i with refs := (N i).refs + if (N i).refs ≠ 0 ∧ i = k then 1 else 0 } := by
  unfold incN
  by_cases hh : hasNod N k = true
  · rw [if_pos hh]
    have h3 := ((hasNod_iff N k).1 hh).2.2
    simp only [Int.toNat_natCast, setNod] at h3 ⊢
    by_cases e : i = k
    · subst e; simp [h3]
    · simp [e]
  · rw [if_neg hh]
    by_cases e : i = k
    · subst e
      have : (N i).refs = 0 := by
        refine Decidable.byContradiction fun h' => hh ((hasNod_iff N i).2 ?_)
        have := hp i h'
        exact ⟨by omega, by omega, h'⟩
      simp [this]
      rw [← this]
    · simp [e]
theorem incN_low {N : NodM} (hp : ∀ n, (N n).refs ≠ 0 → 1 ≤ n ∧ n ≤ 24) (k : Nat) : ∀ n, (incN N k n).refs ≠ 0 → 1 ≤ n ∧ n ≤ 24 := fun n hn => by
  rw [incN_at hp] at hn
  refine hp n fun h0 => hn ?_
  simp [h0]
theorem incN4_at {N : NodM} (hp : ∀ n, (N n).refs ≠ 0 → 1 ≤ n ∧ n ≤ 24) (a b c d i : Nat) : incN (incN (incN (incN N a) b) c) d i = { N i with refs := (N i).refs + if (N i).refs ≠ 0 then [a, b, c, d].count i else 0 } := by
  rw [incN_at (incN_low (incN_low (incN_low hp a) b) c), incN_at (incN_low (incN_low hp a) b), incN_at (incN_low hp a), incN_at hp]
  by_cases h0 : (N i).refs = 0
  · simp [h0]
  · have e1 : ∀ n, (N i).refs + n ≠ 0 := fun n => by omega
    have e2 : ∀ n m, (N i).refs + n + m ≠ 0 := fun n m => by omega
    have e3 : ∀ n m k, (N i).refs + n + m + k ≠ 0 := fun n m k => by omega
    simp only [ne_eq, h0, not_false_eq_true, true_and, e1, e2, e3, if_true]
    congr 1
    simp only [List.count_cons, List.count_nil, beq_iff_eq]
    simp only [Nat.add_assoc]
    have es : ∀ z, (if i = z then 1 else 0) = (if z = i then (1 : Nat) else 0) := fun z => by by_cases e : i = z <;> simp [e, eq_comm]
    simp only [es]
    omega
end Go.Proofs.Ytmgnikkbakpbdaa
