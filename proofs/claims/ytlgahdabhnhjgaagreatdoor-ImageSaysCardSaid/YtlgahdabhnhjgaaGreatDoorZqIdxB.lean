/- Shared indexes, plainly: what each step keeps. -/
import Derived.Test.YtlgahdabhnhjgaaGreatDoorZqIdx5
/- Shared indexes, plainly: every reference is counted, nothing refers to what is not there. -/
namespace Go.Proofs.YtlgahdabhnhjgaaGreatDoor

def Nod.kids (n : Nod) : List Nat := [n.k0, n.k1, n.k2, n.k3]
theorem kid_mem (n : Nod) (i : Nat) : n.kid i ∈ n.kids := by
  unfold Nod.kid sel4 Nod.kids
  split <;> simp

/-- How often a node refers to a number, if it is of this kind. -/
def con (T : Bool) (N : NodM) (n m : Nat) : Nat := if (N m).refs ≠ 0 ∧ (N m).top = T then (N m).kids.count n else 0
def refsTo (T : Bool) (N : NodM) (n : Nat) : Nat := ((List.range 25).map (con T N n)).sum

theorem sum_at (f g : Nat → Nat) (m0 : Nat) (h : ∀ i, i ≠ m0 → f i = g i) : ∀ n, ((List.range n).map g).sum + (if m0 < n then f m0 else 0) = ((List.range n).map f).sum + (if m0 < n then g m0 else 0)
  | 0 => by simp
  | n + 1 => by
    have ih := sum_at f g m0 h n
    rw [List.range_succ, List.map_append, List.map_append, List.sum_append, List.sum_append]
    simp only [List.map_cons, List.map_nil, List.sum_cons, List.sum_nil]
    by_cases e : m0 = n
    · subst e
      rw [if_neg (by omega), if_neg (by omega)] at ih
      rw [if_pos (by omega), if_pos (by omega)]
      omega
    · have hn := h n (fun x => e x.symm)
      by_cases hl : m0 < n
      · rw [if_pos hl, if_pos hl] at ih
        rw [if_pos (by omega), if_pos (by omega)]
        omega
      · rw [if_neg hl, if_neg hl] at ih
        rw [if_neg (by omega), if_neg (by omega)]
        omega
theorem sum_congr (f g : Nat → Nat) (h : ∀ i, f i = g i) (n : Nat) : ((List.range n).map f).sum = ((List.range n).map g).sum := by
  have : f = g := funext h
  rw [this]
theorem sum_zero (f : Nat → Nat) : ∀ n, (∀ i, i < n → f i = 0) → ((List.range n).map f).sum = 0
  | 0, _ => by simp
  | n + 1, h => by
    rw [List.range_succ, List.map_append, List.sum_append, sum_zero f n (fun i hi => h i (by omega))]
    simp [h n (by omega)]
theorem le_sum (f : Nat → Nat) (m : Nat) : ∀ n, m < n → f m ≤ ((List.range n).map f).sum
  | 0, h => by omega
  | n + 1, h => by
    rw [List.range_succ, List.map_append, List.sum_append]
    simp only [List.map_cons, List.map_nil, List.sum_cons, List.sum_nil]
    by_cases e : m = n
    · subst e; omega
    · have := le_sum f m n (by omega)
      omega

/-- Each reference is counted: HR, HL, HB are the references to roots, leaves and blocks that are held from outside. -/
structure Inv (X : IdxM) (HR HL HB : List Nat) : Prop where
  pl : ∀ b, (X.P b).refs ≠ 0 → 1 ≤ b ∧ b ≤ 40
  pg : ∀ b, (X.P b).refs = 0 → X.P b = noBlk
  nl : ∀ n, (X.N n).refs ≠ 0 → 1 ≤ n ∧ n ≤ 24
  ng : ∀ n, (X.N n).refs = 0 → X.N n = noNod
  top : ∀ n, (X.N n).refs ≠ 0 → (X.N n).top = true → (X.N n).refs = HR.count n
  leaf : ∀ n, (X.N n).refs ≠ 0 → (X.N n).top = false → (X.N n).refs = HL.count n + refsTo true X.N n
  blk : ∀ b, (X.P b).refs ≠ 0 → (X.P b).refs = HB.count b + refsTo false X.N b
  kidT : ∀ n, (X.N n).refs ≠ 0 → (X.N n).top = true → ∀ k ∈ (X.N n).kids, k ≠ 0 → (X.N k).refs ≠ 0 ∧ (X.N k).top = false
  kidF : ∀ n, (X.N n).refs ≠ 0 → (X.N n).top = false → ∀ k ∈ (X.N n).kids, k ≠ 0 → (X.P k).refs ≠ 0
  hr : ∀ n ∈ HR, (X.N n).refs ≠ 0 ∧ (X.N n).top = true
  hl : ∀ n ∈ HL, (X.N n).refs ≠ 0 ∧ (X.N n).top = false
  hb : ∀ b ∈ HB, (X.P b).refs ≠ 0

theorem inv_empty : Inv emptyIdx [] [] [] :=
  ⟨fun _ h => absurd rfl h, fun _ _ => rfl, fun _ h => absurd rfl h, fun _ _ => rfl, fun _ h => absurd rfl h, fun _ h => absurd rfl h, fun _ h => absurd rfl h, fun _ h => absurd rfl h, fun _ h => absurd rfl h, by simp, by simp, by simp⟩

section
variable {X : IdxM} {HR HL HB : List Nat}

/-- What is not there is not referred to. -/
theorem Inv.noRefN (h : Inv X HR HL HB) {n : Nat} (hn : n ≠ 0) (h0 : (X.N n).refs = 0) : refsTo true X.N n = 0 ∧ HR.count n = 0 ∧ HL.count n = 0 := by
  refine ⟨sum_zero _ _ fun m _ => ?_, List.count_eq_zero.2 fun hm => (h.hr n hm).1 h0, List.count_eq_zero.2 fun hm => (h.hl n hm).1 h0⟩
  unfold con
  split
  · rename_i hc
    exact List.count_eq_zero.2 fun hm => (h.kidT m hc.1 hc.2 n hm hn).1 h0
  · rfl
theorem Inv.noTopRef (h : Inv X HR HL HB) {n : Nat} (hn : n ≠ 0) (h0 : (X.N n).refs ≠ 0 → (X.N n).top = true) : refsTo true X.N n = 0 := by
  refine sum_zero _ _ fun m _ => ?_
  unfold con
  split
  · rename_i hc
    refine List.count_eq_zero.2 fun hm => ?_
    obtain ⟨h1, h2⟩ := h.kidT m hc.1 hc.2 n hm hn
    rw [h0 h1] at h2
    cases h2
  · rfl
theorem Inv.noRefB (h : Inv X HR HL HB) {b : Nat} (hn : b ≠ 0) (h0 : (X.P b).refs = 0) : refsTo false X.N b = 0 ∧ HB.count b = 0 := by
  refine ⟨sum_zero _ _ fun m _ => ?_, List.count_eq_zero.2 fun hm => h.hb b hm h0⟩
  unfold con
  split
  · rename_i hc
    exact List.count_eq_zero.2 fun hm => h.kidF m hc.1 hc.2 b hm hn h0
  · rfl
theorem Inv.has (h : Inv X HR HL HB) (k : Nat) : hasBlk X.P k = decide ((X.P k).refs ≠ 0) := by
  rw [Bool.eq_iff_iff, hasBlk_iff]
  simp only [decide_eq_true_eq, Int.toNat_natCast]
  exact ⟨fun h => h.2.2, fun h' => by have := h.pl k h'; exact ⟨by omega, by omega, h'⟩⟩
theorem Inv.hasN (h : Inv X HR HL HB) (k : Nat) : hasNod X.N k = decide ((X.N k).refs ≠ 0) := by
  rw [Bool.eq_iff_iff, hasNod_iff]
  simp only [decide_eq_true_eq, Int.toNat_natCast]
  exact ⟨fun h => h.2.2, fun h' => by have := h.nl k h'; exact ⟨by omega, by omega, h'⟩⟩
end

/-- Pools whose blocks have low numbers; one more reference, one less, at each number. -/
theorem addRef_at {p : PoolM} (hp : ∀ b, (p b).refs ≠ 0 → 1 ≤ b ∧ b ≤ 40) (k i : Nat) : addRef p k i = { p i with refs := (p i).refs + if (p i).refs ≠ 0 ∧ i = k then 1 else 0 } := by
  unfold addRef
  by_cases hh : hasBlk p k = true
  · rw [if_pos hh]
    have h3 := ((hasBlk_iff p k).1 hh).2.2
    simp only [Int.toNat_natCast, setBlk] at h3 ⊢
    by_cases e : i = k
    · subst e; simp [h3]
    · simp [e]
  · rw [if_neg hh]
    by_cases e : i = k
    · subst e
      have : (p i).refs = 0 := by
        refine Decidable.byContradiction fun h' => hh ((hasBlk_iff p i).2 ?_)
        have := hp i h'
        exact ⟨by omega, by omega, h'⟩
      simp [this]
      rw [← this]
    · simp [e]
theorem addRef_low {p : PoolM} (hp : ∀ b, (p b).refs ≠ 0 → 1 ≤ b ∧ b ≤ 40) (k : Nat) : ∀ b, (addRef p k b).refs ≠ 0 → 1 ≤ b ∧ b ≤ 40 := fun b hb => by
  rw [addRef_at hp] at hb
  refine hp b fun h0 => hb ?_
  simp [h0]
theorem addRef4_at {p : PoolM} (hp : ∀ b, (p b).refs ≠ 0 → 1 ≤ b ∧ b ≤ 40) (a b c d i : Nat) : addRef (addRef (addRef (addRef p a) b) c) d i = { p i with refs := (p i).refs + if (p i).refs ≠ 0 then [a, b, c, d].count i else 0 } := by
  rw [addRef_at (addRef_low (addRef_low (addRef_low hp a) b) c), addRef_at (addRef_low (addRef_low hp a) b), addRef_at (addRef_low hp a), addRef_at hp]
  by_cases h0 : (p i).refs = 0
  · simp [h0]
  · have e1 : ∀ n, (p i).refs + n ≠ 0 := fun n => by omega
    have e2 : ∀ n m, (p i).refs + n + m ≠ 0 := fun n m => by omega
    have e3 : ∀ n m k, (p i).refs + n + m + k ≠ 0 := fun n m k => by omega
    simp only [ne_eq, h0, not_false_eq_true, true_and, e1, e2, e3, if_true]
    congr 1
    simp only [List.count_cons, List.count_nil, beq_iff_eq]
    simp only [Nat.add_assoc]
    have es : ∀ z, (if i = z then 1 else 0) = (if z = i then (1 : Nat) else 0) := fun z => by by_cases e : i = z <;> simp [e, eq_comm]
    simp only [es]
    omega
theorem subRef_at {p : PoolM} (hp : ∀ b, (p b).refs ≠ 0 → 1 ≤ b ∧ b ≤ 40) (k i : Nat) : subRef p k i = if (p i).refs ≠ 0 ∧ i = k then (if (p i).refs = 1 then noBlk else { p i with refs := (p i).refs - 1 }) else p i := by
  unfold subRef
  by_cases hh : hasBlk p k = true
  · rw [if_pos hh]
    have h3 := ((hasBlk_iff p k).1 hh).2.2
    simp only [Int.toNat_natCast, setBlk] at h3 ⊢
    by_cases e : i = k
    · subst e; simp [h3]
    · simp [e]
  · rw [if_neg hh]
    by_cases e : i = k
    · subst e
      have : (p i).refs = 0 := by
        refine Decidable.byContradiction fun h' => hh ((hasBlk_iff p i).2 ?_)
        have := hp i h'
        exact ⟨by omega, by omega, h'⟩
      simp [this]
    · simp [e]
theorem incN_at {N : NodM} (hp : ∀ n, (N n).refs ≠ 0 → 1 ≤ n ∧ n ≤ 24) (k i : Nat) : incN N k i = { N i with refs := (N i).refs + if (N i).refs ≠ 0 ∧ i = k then 1 else 0 } := by
  unfold incN
  by_cases hh : hasNod N k = true
  · rw [if_pos hh]
    have h3 := ((hasNod_iff N k).1 hh).2.2
    simp only [Int.toNat_natCast, setNod] at h3 ⊢
    by_cases e : i = k
    · subst e; simp [h3]
    · simp [e]
  · rw [if_neg hh]
    by_cases e : i = k
    · subst e
      have : (N i).refs = 0 := by
        refine Decidable.byContradiction fun h' => hh ((hasNod_iff N i).2 ?_)
        have := hp i h'
        exact ⟨by omega, by omega, h'⟩
      simp [this]
      rw [← this]
    · simp [e]
theorem incN_low {N : NodM} (hp : ∀ n, (N n).refs ≠ 0 → 1 ≤ n ∧ n ≤ 24) (k : Nat) : ∀ n, (incN N k n).refs ≠ 0 → 1 ≤ n ∧ n ≤ 24 := fun n hn => by
  rw [incN_at hp] at hn
  refine hp n fun h0 => hn ?_
  simp [h0]
theorem incN4_at {N : NodM} (hp : ∀ n, (N n).refs ≠ 0 → 1 ≤ n ∧ n ≤ 24) (a b c d i : Nat) : incN (incN (incN (incN N a) b) c) d i = { N i with refs := (N i).refs + if (N i).refs ≠ 0 then [a, b, c, d].count i else 0 } := by
  rw [incN_at (incN_low (incN_low (incN_low hp a) b) c), incN_at (incN_low (incN_low hp a) b), incN_at (incN_low hp a), incN_at hp]
  by_cases h0 : (N i).refs = 0
  · simp [h0]
  · have e1 : ∀ n, (N i).refs + n ≠ 0 := fun n => by omega
    have e2 : ∀ n m, (N i).refs + n + m ≠ 0 := fun n m => by omega
    have e3 : ∀ n m k, (N i).refs + n + m + k ≠ 0 := fun n m k => by omega
    simp only [ne_eq, h0, not_false_eq_true, true_and, e1, e2, e3, if_true]
    congr 1
    simp only [List.count_cons, List.count_nil, beq_iff_eq]
    simp only [Nat.add_assoc]
    have es : ∀ z, (if i = z then 1 else 0) = (if z = i then (1 : Nat) else 0) := fun z => by by_cases e : i = z <;> simp [e, eq_comm]
    simp only [es]
    omega
end Go.Proofs.YtlgahdabhnhjgaaGreatDoor

/- Shared indexes, plainly: what each step keeps. -/
namespace Go.Proofs.YtlgahdabhnhjgaaGreatDoor

/-- A reference that is held, if it is to something. -/
def opt (k : Nat) (L : List Nat) : List Nat := if k = 0 then L else k :: L
theorem count_opt {m : Nat} (hm : m ≠ 0) (k : Nat) (L : List Nat) : (opt k L).count m = L.count m + (if k = m then 1 else 0) := by
  unfold opt
  by_cases h : k = 0
  · subst h; rw [if_pos rfl, if_neg (fun e => hm e.symm)]; omega
  · rw [if_neg h, List.count_cons]; simp
theorem mem_opt {m k : Nat} {L : List Nat} (h : m ∈ opt k L) : (m = k ∧ k ≠ 0) ∨ m ∈ L := by
  unfold opt at h
  split at h
  · exact .inr h
  · rename_i hk
    rcases List.mem_cons.1 h with h | h
    · exact .inl ⟨h, hk⟩
    · exact .inr h
theorem mem_opt_of {m k : Nat} {L : List Nat} (h : m ∈ L) : m ∈ opt k L := by
  unfold opt; split
  · exact h
  · exact List.mem_cons_of_mem _ h
theorem count_kids {m a b c d : Nat} (hm : m ≠ 0) (L : List Nat) : (opt a (opt b (opt c (opt d L)))).count m = L.count m + [a, b, c, d].count m := by
  rw [count_opt hm, count_opt hm, count_opt hm, count_opt hm]
  simp only [List.count_cons, List.count_nil, beq_iff_eq]
  omega

theorem refsTo_set (T : Bool) (N : NodM) {n : Nat} (hn : n ≤ 24) (nd : Nod) (k : Nat) : refsTo T (setNod N n nd) k + con T N k n = refsTo T N k + con T (setNod N n nd) k n := by
  have := sum_at (con T N k) (con T (setNod N n nd) k) n (fun i hi => by unfold con; simp [setNod, hi]) 25
  rw [if_pos (by omega), if_pos (by omega)] at this
  exact this
theorem con_none {T : Bool} {N : NodM} {k n : Nat} (h : (N n).refs = 0) : con T N k n = 0 := by unfold con; rw [if_neg (by simp [h])]
theorem con_self (T : Bool) (N : NodM) (k n : Nat) (nd : Nod) : con T (setNod N n nd) k n = if nd.refs ≠ 0 ∧ nd.top = T then nd.kids.count k else 0 := by unfold con; simp [setNod]
theorem setNod_same (N : NodM) (n : Nat) (nd : Nod) : setNod N n nd n = nd := by simp [setNod]
theorem setNod_other (N : NodM) {n m : Nat} (nd : Nod) (h : m ≠ n) : setNod N n nd m = N m := by simp [setNod, h]
theorem refsTo_congr {T : Bool} {N N' : NodM} (h : ∀ m, ((N' m).refs = 0 ↔ (N m).refs = 0) ∧ (N' m).top = (N m).top ∧ (N' m).kids = (N m).kids) (k : Nat) : refsTo T N' k = refsTo T N k := by
  refine sum_congr _ _ (fun m => ?_) _
  obtain ⟨h1, h2, h3⟩ := h m
  unfold con
  rw [h2, h3]
  by_cases h0 : (N m).refs = 0
  · rw [if_neg (fun e => e.1 (h1.2 h0)), if_neg (fun e => e.1 h0)]
  · by_cases ht : (N m).top = T
    · rw [if_pos ⟨fun e => h0 (h1.1 e), ht⟩, if_pos ⟨h0, ht⟩]
    · rw [if_neg (fun e => ht e.2), if_neg (fun e => ht e.2)]

section
variable {X : IdxM} {HR HL HB : List Nat}

theorem Inv.put (h : Inv X HR HL HB) (data : ByteArray) (he : putErr X.P data = 0) : Inv { X with P := putP X.P data } HR HL (putId X.P data :: HB) := by
  obtain ⟨n, _, e, h1, h2, h3, _, _⟩ := putId_of he
  have e2 : putP X.P data = setBlk X.P n ⟨data, 1⟩ := by unfold putP; rw [if_pos he, e]
  have h0 : (X.P n).refs = 0 := by simpa [usedBlk] using h3
  obtain ⟨r1, r2⟩ := h.noRefB (by omega) h0
  rw [e, e2]
  have s1 : setBlk X.P n ⟨data, 1⟩ n = ⟨data, 1⟩ := by simp [setBlk]
  have s2 : ∀ m, m ≠ n → setBlk X.P n ⟨data, 1⟩ m = X.P m := fun m hm => by simp [setBlk, hm]
  refine ⟨fun b hb => ?_, fun b hb => ?_, h.nl, h.ng, h.top, h.leaf, fun b hb => ?_, h.kidT, fun m hm ht k hk hk0 => ?_, h.hr, h.hl, fun b hb => ?_⟩
  · by_cases eb : b = n
    · subst eb; exact ⟨h1, h2⟩
    · simp only [s2 b eb] at hb; exact h.pl b hb
  · by_cases eb : b = n
    · subst eb; simp only [s1] at hb; cases hb
    · simp only [s2 b eb] at hb ⊢; exact h.pg b hb
  · by_cases eb : b = n
    · subst eb; simp only [s1, List.count_cons_self]; omega
    · simp only [s2 b eb] at hb ⊢
      rw [List.count_cons_of_ne (fun x => eb x.symm)]
      exact h.blk b hb
  · by_cases eb : k = n
    · subst eb; simp only [s1]; omega
    · simp only [s2 k eb]; exact h.kidF m hm ht k hk hk0
  · by_cases eb : b = n
    · subst eb; simp only [s1]; omega
    · simp only [s2 b eb]
      rcases List.mem_cons.1 hb with hb | hb
      · exact absurd hb eb
      · exact h.hb b hb

theorem Inv.mkLeaf (h : Inv X HR HL HB) {a b c d n : Nat} (hff : firstFree 24 (usedNod X.N) = some n) (hk : ∀ k ∈ [a, b, c, d], k ≠ 0 → (X.P k).refs ≠ 0) :
    Inv (each4 IdxM.refB { X with N := setNod X.N n ⟨a, b, c, d, 1, false⟩ } a b c d) HR (n :: HL) HB := by
  obtain ⟨h1, h2, h3, _⟩ := firstFree_some hff
  have h0 : (X.N n).refs = 0 := by simpa [usedNod] using h3
  obtain ⟨r1, r2, r3⟩ := h.noRefN (by omega) h0
  have hP : ∀ i, addRef (addRef (addRef (addRef X.P a) b) c) d i = { X.P i with refs := (X.P i).refs + if (X.P i).refs ≠ 0 then [a, b, c, d].count i else 0 } := addRef4_at h.pl a b c d
  have hz : ∀ i, (addRef (addRef (addRef (addRef X.P a) b) c) d i).refs = 0 ↔ (X.P i).refs = 0 := fun i => by rw [hP]; constructor <;> intro e <;> simp at e ⊢ <;> omega
  have hT : ∀ k, refsTo true (setNod X.N n ⟨a, b, c, d, 1, false⟩) k = refsTo true X.N k := fun k => by
    have := refsTo_set true X.N h2 ⟨a, b, c, d, 1, false⟩ k
    rw [con_none h0, con_self] at this
    simpa using this
  have hF : ∀ k, refsTo false (setNod X.N n ⟨a, b, c, d, 1, false⟩) k = refsTo false X.N k + [a, b, c, d].count k := fun k => by
    have := refsTo_set false X.N h2 ⟨a, b, c, d, 1, false⟩ k
    rw [con_none h0, con_self] at this
    simpa [Nod.kids] using this
  show Inv ⟨addRef (addRef (addRef (addRef X.P a) b) c) d, setNod X.N n ⟨a, b, c, d, 1, false⟩⟩ HR (n :: HL) HB
  refine ⟨fun i hi => h.pl i (fun e => hi ((hz i).2 e)), fun i hi => ?_, fun m hm => ?_, fun m hm => ?_, fun m hm ht => ?_, fun m hm ht => ?_, fun i hi => ?_, fun m hm ht k hkm hk0 => ?_, fun m hm ht k hkm hk0 => ?_, fun m hm => ?_, fun m hm => ?_, fun i hi => fun e => h.hb i hi ((hz i).1 e)⟩
  · have := (hz i).1 hi
    show addRef _ _ i = _
    rw [hP, h.pg i this]; simp [noBlk]
  · by_cases e : m = n
    · subst e; exact ⟨h1, h2⟩
    · simp only [setNod_other _ _ e] at hm; exact h.nl m hm
  · by_cases e : m = n
    · subst e; simp only [setNod_same] at hm; cases hm
    · simp only [setNod_other _ _ e] at hm ⊢; exact h.ng m hm
  · by_cases e : m = n
    · subst e; simp only [setNod_same] at ht; cases ht
    · simp only [setNod_other _ _ e] at hm ht ⊢; exact h.top m hm ht
  · show _ = _ + refsTo true (setNod X.N n _) m
    rw [hT]
    by_cases e : m = n
    · subst e; simp only [setNod_same, List.count_cons_self]; omega
    · simp only [setNod_other _ _ e] at hm ht ⊢
      rw [List.count_cons_of_ne (fun x => e x.symm)]
      exact h.leaf m hm ht
  · have h0' : (X.P i).refs ≠ 0 := fun e => hi ((hz i).2 e)
    show (addRef _ _ i).refs = _ + refsTo false (setNod X.N n _) i
    rw [hF, hP, if_pos h0', h.blk i h0']
    simp only
    omega
  · by_cases e : m = n
    · subst e; simp only [setNod_same] at ht; cases ht
    · simp only [setNod_other _ _ e] at hm ht hkm
      have := h.kidT m hm ht k hkm hk0
      have hkn : k ≠ n := fun e => by subst e; exact this.1 h0
      simp only [setNod_other _ _ hkn]
      exact this
  · refine fun e0 => ?_
    have e1 := (hz k).1 e0
    by_cases e : m = n
    · subst e; simp only [setNod_same, Nod.kids] at hkm; exact hk k hkm hk0 e1
    · simp only [setNod_other _ _ e] at hm ht hkm; exact h.kidF m hm ht k hkm hk0 e1
  · have := h.hr m hm
    have e : m ≠ n := fun e => by subst e; exact this.1 h0
    simp only [setNod_other _ _ e]; exact this
  · rcases List.mem_cons.1 hm with rfl | hm
    · simp [setNod_same]
    · have := h.hl m hm
      have e : m ≠ n := fun e => by subst e; exact this.1 h0
      simp only [setNod_other _ _ e]; exact this

theorem Inv.mkRoot (h : Inv X HR HL HB) {a b c d n : Nat} (hff : firstFree 24 (usedNod X.N) = some n) (hk : ∀ k ∈ [a, b, c, d], k ≠ 0 → (X.N k).refs ≠ 0 ∧ (X.N k).top = false) :
    Inv (each4 IdxM.refN { X with N := setNod X.N n ⟨a, b, c, d, 1, true⟩ } a b c d) (n :: HR) HL HB := by
  obtain ⟨h1, h2, h3, _⟩ := firstFree_some hff
  have h0 : (X.N n).refs = 0 := by simpa [usedNod] using h3
  obtain ⟨r1, r2, r3⟩ := h.noRefN (by omega) h0
  have hl1 : ∀ m, (setNod X.N n ⟨a, b, c, d, 1, true⟩ m).refs ≠ 0 → 1 ≤ m ∧ m ≤ 24 := fun m hm => by
    by_cases e : m = n
    · subst e; exact ⟨h1, h2⟩
    · rw [setNod_other _ _ e] at hm; exact h.nl m hm
  have hcn : [a, b, c, d].count n = 0 := List.count_eq_zero.2 fun hm => (hk n hm (by omega)).1 h0
  have hN : ∀ i, incN (incN (incN (incN (setNod X.N n ⟨a, b, c, d, 1, true⟩) a) b) c) d i = { setNod X.N n ⟨a, b, c, d, 1, true⟩ i with refs := (setNod X.N n ⟨a, b, c, d, 1, true⟩ i).refs + if (setNod X.N n ⟨a, b, c, d, 1, true⟩ i).refs ≠ 0 then [a, b, c, d].count i else 0 } := incN4_at hl1 a b c d
  generalize hM : incN (incN (incN (incN (setNod X.N n ⟨a, b, c, d, 1, true⟩) a) b) c) d = M at hN
  have hz : ∀ m, ((M m).refs = 0 ↔ (setNod X.N n ⟨a, b, c, d, 1, true⟩ m).refs = 0) ∧ (M m).top = (setNod X.N n ⟨a, b, c, d, 1, true⟩ m).top ∧ (M m).kids = (setNod X.N n ⟨a, b, c, d, 1, true⟩ m).kids := fun m => by
    rw [hN]; refine ⟨?_, rfl, rfl⟩; constructor <;> intro e <;> simp at e ⊢ <;> omega
  have mn : M n = ⟨a, b, c, d, 1, true⟩ := by rw [hN, setNod_same]; simp [hcn]
  have mo : ∀ m, m ≠ n → M m = { X.N m with refs := (X.N m).refs + if (X.N m).refs ≠ 0 then [a, b, c, d].count m else 0 } := fun m e => by rw [hN, setNod_other _ _ e]
  have mz : ∀ m, m ≠ n → ((M m).refs = 0 ↔ (X.N m).refs = 0) := fun m e => by have := (hz m).1; rw [setNod_other _ _ e] at this; exact this
  have hT : ∀ k, refsTo true M k = refsTo true X.N k + [a, b, c, d].count k := fun k => by
    rw [refsTo_congr hz k]
    have := refsTo_set true X.N h2 ⟨a, b, c, d, 1, true⟩ k
    rw [con_none h0, con_self] at this
    simpa [Nod.kids] using this
  have hF : ∀ k, refsTo false M k = refsTo false X.N k := fun k => by
    rw [refsTo_congr hz k]
    have := refsTo_set false X.N h2 ⟨a, b, c, d, 1, true⟩ k
    rw [con_none h0, con_self] at this
    simpa using this
  show Inv ⟨X.P, incN (incN (incN (incN (setNod X.N n ⟨a, b, c, d, 1, true⟩) a) b) c) d⟩ (n :: HR) HL HB
  rw [hM]
  clear hM hN
  refine ⟨h.pl, h.pg, fun m hm => ?_, fun m hm => ?_, fun m hm ht => ?_, fun m hm ht => ?_, fun i hi => ?_, fun m hm ht k hkm hk0 => ?_, fun m hm ht k hkm hk0 => ?_, fun m hm => ?_, fun m hm => ?_, h.hb⟩
  · by_cases e : m = n
    · subst e; exact ⟨h1, h2⟩
    · exact h.nl m (fun x => hm ((mz m e).2 x))
  · by_cases e : m = n
    · subst e; simp only [mn] at hm; cases hm
    · have := (mz m e).1 hm
      show M m = _
      rw [mo m e, h.ng m this]; simp [noNod]
  · by_cases e : m = n
    · subst e; simp only [mn, List.count_cons_self]; omega
    · have h0' : (X.N m).refs ≠ 0 := fun x => hm ((mz m e).2 x)
      have ht' : (X.N m).top = true := by simp only [mo m e] at ht; exact ht
      have hc : [a, b, c, d].count m = 0 := List.count_eq_zero.2 fun hmm => by
        by_cases m0 : m = 0
        · have := h.nl m h0'; omega
        · have := (hk m hmm m0).2; rw [ht'] at this; cases this
      rw [List.count_cons_of_ne (fun x => e x.symm)]
      simp only [mo m e, hc]
      rw [h.top m h0' ht']; simp
  · by_cases e : m = n
    · subst e; simp only [mn] at ht; cases ht
    · have h0' : (X.N m).refs ≠ 0 := fun x => hm ((mz m e).2 x)
      have ht' : (X.N m).top = false := by simp only [mo m e] at ht; exact ht
      show (M m).refs = _ + refsTo true M m
      rw [hT, mo m e]
      simp only [if_pos h0']
      rw [h.leaf m h0' ht']; omega
  · show _ = _ + refsTo false M i
    rw [hF]; exact h.blk i hi
  · have goal : ∀ k, k ≠ 0 → ((X.N k).refs ≠ 0 ∧ (X.N k).top = false) → (M k).refs ≠ 0 ∧ (M k).top = false := fun k _ hx => by
      have hkn : k ≠ n := fun e => by subst e; exact hx.1 h0
      exact ⟨fun x => hx.1 ((mz k hkn).1 x), by rw [mo k hkn]; exact hx.2⟩
    by_cases e : m = n
    · subst e; simp only [mn, Nod.kids] at hkm; exact goal k hk0 (hk k hkm hk0)
    · have h0' : (X.N m).refs ≠ 0 := fun x => hm ((mz m e).2 x)
      have ht' : (X.N m).top = true := by simp only [mo m e] at ht; exact ht
      have hkm' : k ∈ (X.N m).kids := by simp only [mo m e, Nod.kids] at hkm; exact hkm
      exact goal k hk0 (h.kidT m h0' ht' k hkm' hk0)
  · by_cases e : m = n
    · subst e; simp only [mn] at ht; cases ht
    · have h0' : (X.N m).refs ≠ 0 := fun x => hm ((mz m e).2 x)
      have ht' : (X.N m).top = false := by simp only [mo m e] at ht; exact ht
      have hkm' : k ∈ (X.N m).kids := by simp only [mo m e, Nod.kids] at hkm; exact hkm
      exact h.kidF m h0' ht' k hkm' hk0
  · rcases List.mem_cons.1 hm with rfl | hm
    · simp [mn]
    · have := h.hr m hm
      have e : m ≠ n := fun e => by subst e; exact this.1 h0
      exact ⟨fun x => this.1 ((mz m e).1 x), by show (M m).top = _; rw [mo m e]; exact this.2⟩
  · have := h.hl m hm
    have e : m ≠ n := fun e => by subst e; exact this.1 h0
    exact ⟨fun x => this.1 ((mz m e).1 x), by show (M m).top = _; rw [mo m e]; exact this.2⟩
end
end Go.Proofs.YtlgahdabhnhjgaaGreatDoor
