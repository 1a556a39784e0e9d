/- Shared indexes, plainly: what is given back. -/
import Derived.Test.YtlgahdabhnhjgaaGreatDoorZqIdxB
namespace Go.Proofs.YtlgahdabhnhjgaaGreatDoor
section
variable {X : IdxM} {HR HL HB : List Nat}

theorem Inv.perm (h : Inv X HR HL HB) {HR' : List Nat} (hp : HR.Perm HR') : Inv X HR' HL HB :=
  ⟨h.pl, h.pg, h.nl, h.ng, fun n hn ht => by rw [← hp.count_eq]; exact h.top n hn ht, h.leaf, h.blk, h.kidT, h.kidF, fun n hn => h.hr n (hp.mem_iff.2 hn), h.hl, h.hb⟩

theorem zeroP (h : Inv X HR HL HB) : (X.P 0).refs = 0 := Decidable.byContradiction fun e => by have := h.pl 0 e; omega
theorem zeroN (h : Inv X HR HL HB) : (X.N 0).refs = 0 := Decidable.byContradiction fun e => by have := h.nl 0 e; omega

/-- A held block is given back. -/
theorem Inv.unref (k : Nat) (h : Inv X HR HL (opt k HB)) : Inv (X.unrefB k) HR HL HB := by
  have hP : ∀ i, subRef X.P k i = if (X.P i).refs ≠ 0 ∧ i = k then (if (X.P i).refs = 1 then noBlk else { X.P i with refs := (X.P i).refs - 1 }) else X.P i := subRef_at h.pl k
  by_cases hk : k = 0
  · subst hk
    have e : X.unrefB 0 = X := by
      have : subRef X.P ((0 : Nat) : Int) = X.P := funext fun i => by
        rw [hP, if_neg]
        rintro ⟨h1, rfl⟩
        exact h1 (zeroP h)
      unfold IdxM.unrefB
      rw [this]
    rw [e]
    exact h
  · have ho : opt k HB = k :: HB := by unfold opt; rw [if_neg hk]
    rw [ho] at h
    have hkp : (X.P k).refs ≠ 0 := h.hb k (by simp)
    have hc := h.blk k hkp
    rw [List.count_cons_self] at hc
    have hs : ∀ i, i ≠ k → subRef X.P k i = X.P i := fun i hi => by rw [hP, if_neg (fun e => hi e.2)]
    have hself : subRef X.P k k = if (X.P k).refs = 1 then noBlk else { X.P k with refs := (X.P k).refs - 1 } := by rw [hP, if_pos ⟨hkp, rfl⟩]
    -- what is still referred to is still there
    have hstill : ∀ i, (X.P i).refs ≠ 0 → 0 < HB.count i + refsTo false X.N i → (subRef X.P k i).refs ≠ 0 := fun i h0 h1 => by
      by_cases e : i = k
      · subst e
        rw [hself]
        rw [if_neg (by omega)]
        simp only; omega
      · rw [hs i e]; exact h0
    show Inv ⟨subRef X.P k, X.N⟩ HR HL HB
    refine ⟨fun i hi => ?_, fun i hi => ?_, h.nl, h.ng, h.top, h.leaf, fun i hi => ?_, h.kidT, fun m hm ht j hj hj0 => ?_, h.hr, h.hl, fun i hi => ?_⟩
    · by_cases e : i = k
      · subst e; exact h.pl i hkp
      · simp only [hs i e] at hi; exact h.pl i hi
    · by_cases e : i = k
      · subst e
        simp only [hself] at hi ⊢
        split at hi
        · rename_i h1; rw [if_pos h1]
        · simp only at hi; omega
      · simp only [hs i e] at hi ⊢; exact h.pg i hi
    · by_cases e : i = k
      · subst e
        simp only [hself] at hi ⊢
        split at hi
        · exact absurd rfl hi
        · rename_i h1; rw [if_neg h1]; simp only; omega
      · simp only [hs i e] at hi ⊢
        have := h.blk i hi
        rwa [List.count_cons_of_ne (fun x => e x.symm)] at this
    · have h0 := h.kidF m hm ht j hj hj0
      have hm25 := h.nl m hm
      have hle := le_sum (con false X.N j) m 25 (by omega)
      have hpos : 0 < con false X.N j m := by unfold con; rw [if_pos ⟨hm, ht⟩]; exact List.count_pos_iff.2 hj
      exact hstill j h0 (by unfold refsTo; omega)
    · exact hstill i (h.hb i (List.mem_cons_of_mem _ hi)) (by have := List.count_pos_iff.2 hi; omega)

/-- A node that is held is given back, but others refer to it. -/
theorem Inv.lessLeaf {l : Nat} (h : Inv X HR (l :: HL) HB) (h1 : (X.N l).refs ≠ 1) : Inv { X with N := setNod X.N l { X.N l with refs := (X.N l).refs - 1 } } HR HL HB := by
  obtain ⟨hlp, hlt⟩ := h.hl l (by simp)
  have hc := h.leaf l hlp hlt
  rw [List.count_cons_self] at hc
  have hz : ∀ m, ((setNod X.N l { X.N l with refs := (X.N l).refs - 1 } m).refs = 0 ↔ (X.N m).refs = 0) ∧ (setNod X.N l { X.N l with refs := (X.N l).refs - 1 } m).top = (X.N m).top ∧ (setNod X.N l { X.N l with refs := (X.N l).refs - 1 } m).kids = (X.N m).kids := fun m => by
    by_cases e : m = l
    · subst e; rw [setNod_same]; refine ⟨?_, rfl, rfl⟩; simp only; omega
    · rw [setNod_other _ _ e]; exact ⟨Iff.rfl, rfl, rfl⟩
  have hr := fun T k => refsTo_congr (T := T) hz k
  generalize hM : setNod X.N l { X.N l with refs := (X.N l).refs - 1 } = M at hz hr ⊢
  have ml : (M l).refs = (X.N l).refs - 1 := by rw [← hM, setNod_same]
  have mo : ∀ m, m ≠ l → M m = X.N m := fun m e => by rw [← hM, setNod_other _ _ e]
  clear hM
  refine ⟨h.pl, h.pg, fun m hm => h.nl m fun e => hm ((hz m).1.2 e), fun m hm => ?_, fun m hm ht => ?_, fun m hm ht => ?_, fun b hb => ?_, fun m hm ht k hk hk0 => ?_, fun m hm ht k hk hk0 => ?_, fun m hm => ?_, fun m hm => ?_, h.hb⟩
  · have := (hz m).1.1 hm
    have e : m ≠ l := fun e => by subst e; exact hlp this
    show M m = _
    rw [mo m e]; exact h.ng m this
  · have e : m ≠ l := fun e => by subst e; have := (hz m).2.1; rw [hlt] at this; rw [show (M m).top = true from ht] at this; cases this
    simp only [mo m e] at hm ht ⊢; exact h.top m hm ht
  · show (M m).refs = _ + refsTo true M m
    rw [hr]
    by_cases e : m = l
    · subst e; rw [ml]; omega
    · have hm' : (X.N m).refs ≠ 0 := fun x => hm ((hz m).1.2 x)
      have ht' : (X.N m).top = false := by rw [← (hz m).2.1]; exact ht
      rw [mo m e]
      have := h.leaf m hm' ht'
      rwa [List.count_cons_of_ne (fun x => e x.symm)] at this
  · show _ = _ + refsTo false M b
    rw [hr]; exact h.blk b hb
  · have hm' : (X.N m).refs ≠ 0 := fun x => hm ((hz m).1.2 x)
    have ht' : (X.N m).top = true := by rw [← (hz m).2.1]; exact ht
    have hk' : k ∈ (X.N m).kids := by rw [← (hz m).2.2]; exact hk
    obtain ⟨a1, a2⟩ := h.kidT m hm' ht' k hk' hk0
    exact ⟨fun x => a1 ((hz k).1.1 x), by show (M k).top = _; rw [(hz k).2.1]; exact a2⟩
  · have hm' : (X.N m).refs ≠ 0 := fun x => hm ((hz m).1.2 x)
    have ht' : (X.N m).top = false := by rw [← (hz m).2.1]; exact ht
    have hk' : k ∈ (X.N m).kids := by rw [← (hz m).2.2]; exact hk
    exact h.kidF m hm' ht' k hk' hk0
  · obtain ⟨a1, a2⟩ := h.hr m hm
    exact ⟨fun x => a1 ((hz m).1.1 x), by show (M m).top = _; rw [(hz m).2.1]; exact a2⟩
  · obtain ⟨a1, a2⟩ := h.hl m (List.mem_cons_of_mem _ hm)
    exact ⟨fun x => a1 ((hz m).1.1 x), by show (M m).top = _; rw [(hz m).2.1]; exact a2⟩

theorem Inv.lessRoot {l : Nat} (h : Inv X (l :: HR) HL HB) (h1 : (X.N l).refs ≠ 1) : Inv { X with N := setNod X.N l { X.N l with refs := (X.N l).refs - 1 } } HR HL HB := by
  obtain ⟨hlp, hlt⟩ := h.hr l (by simp)
  have hc := h.top l hlp hlt
  rw [List.count_cons_self] at hc
  have hz : ∀ m, ((setNod X.N l { X.N l with refs := (X.N l).refs - 1 } m).refs = 0 ↔ (X.N m).refs = 0) ∧ (setNod X.N l { X.N l with refs := (X.N l).refs - 1 } m).top = (X.N m).top ∧ (setNod X.N l { X.N l with refs := (X.N l).refs - 1 } m).kids = (X.N m).kids := fun m => by
    by_cases e : m = l
    · subst e; rw [setNod_same]; refine ⟨?_, rfl, rfl⟩; simp only; omega
    · rw [setNod_other _ _ e]; exact ⟨Iff.rfl, rfl, rfl⟩
  have hr := fun T k => refsTo_congr (T := T) hz k
  generalize hM : setNod X.N l { X.N l with refs := (X.N l).refs - 1 } = M at hz hr ⊢
  have ml : (M l).refs = (X.N l).refs - 1 := by rw [← hM, setNod_same]
  have mo : ∀ m, m ≠ l → M m = X.N m := fun m e => by rw [← hM, setNod_other _ _ e]
  clear hM
  refine ⟨h.pl, h.pg, fun m hm => h.nl m fun e => hm ((hz m).1.2 e), fun m hm => ?_, fun m hm ht => ?_, fun m hm ht => ?_, fun b hb => ?_, fun m hm ht k hk hk0 => ?_, fun m hm ht k hk hk0 => ?_, fun m hm => ?_, fun m hm => ?_, h.hb⟩
  · have := (hz m).1.1 hm
    have e : m ≠ l := fun e => by subst e; exact hlp this
    show M m = _
    rw [mo m e]; exact h.ng m this
  · by_cases e : m = l
    · subst e; show (M m).refs = _; rw [ml]; omega
    · have hm' : (X.N m).refs ≠ 0 := fun x => hm ((hz m).1.2 x)
      have ht' : (X.N m).top = true := by rw [← (hz m).2.1]; exact ht
      show (M m).refs = _
      rw [mo m e]
      have := h.top m hm' ht'
      rwa [List.count_cons_of_ne (fun x => e x.symm)] at this
  · have e : m ≠ l := fun e => by subst e; have := (hz m).2.1; rw [hlt] at this; rw [show (M m).top = false from ht] at this; cases this
    show (M m).refs = _ + refsTo true M m
    rw [hr]
    simp only [mo m e] at hm ht ⊢; exact h.leaf m hm ht
  · show _ = _ + refsTo false M b
    rw [hr]; exact h.blk b hb
  · have hm' : (X.N m).refs ≠ 0 := fun x => hm ((hz m).1.2 x)
    have ht' : (X.N m).top = true := by rw [← (hz m).2.1]; exact ht
    have hk' : k ∈ (X.N m).kids := by rw [← (hz m).2.2]; exact hk
    obtain ⟨a1, a2⟩ := h.kidT m hm' ht' k hk' hk0
    exact ⟨fun x => a1 ((hz k).1.1 x), by show (M k).top = _; rw [(hz k).2.1]; exact a2⟩
  · have hm' : (X.N m).refs ≠ 0 := fun x => hm ((hz m).1.2 x)
    have ht' : (X.N m).top = false := by rw [← (hz m).2.1]; exact ht
    have hk' : k ∈ (X.N m).kids := by rw [← (hz m).2.2]; exact hk
    exact h.kidF m hm' ht' k hk' hk0
  · obtain ⟨a1, a2⟩ := h.hr m (List.mem_cons_of_mem _ hm)
    exact ⟨fun x => a1 ((hz m).1.1 x), by show (M m).top = _; rw [(hz m).2.1]; exact a2⟩
  · obtain ⟨a1, a2⟩ := h.hl m hm
    exact ⟨fun x => a1 ((hz m).1.1 x), by show (M m).top = _; rw [(hz m).2.1]; exact a2⟩

/-- .. and nothing else refers to it: it goes, and what it referred to is held. -/
theorem Inv.noLeaf {l : Nat} (h : Inv X HR (l :: HL) HB) (h1 : (X.N l).refs = 1) : Inv { X with N := setNod X.N l noNod } HR HL (opt (X.N l).k0 (opt (X.N l).k1 (opt (X.N l).k2 (opt (X.N l).k3 HB)))) := by
  obtain ⟨hlp, hlt⟩ := h.hl l (by simp)
  have hl24 := h.nl l hlp
  have hc := h.leaf l hlp hlt
  rw [List.count_cons_self] at hc
  have hc0 : HL.count l = 0 := by omega
  have hr0 : refsTo true X.N l = 0 := by omega
  have hT : ∀ k, refsTo true (setNod X.N l noNod) k = refsTo true X.N k := fun k => by
    have := refsTo_set true X.N hl24.2 noNod k
    rw [con_self] at this
    have e : con true X.N k l = 0 := by unfold con; rw [if_neg]; rintro ⟨_, e⟩; rw [hlt] at e; cases e
    rw [e] at this
    simpa [noNod] using this
  have hF : ∀ k, refsTo false (setNod X.N l noNod) k + (X.N l).kids.count k = refsTo false X.N k := fun k => by
    have := refsTo_set false X.N hl24.2 noNod k
    rw [con_self] at this
    have e : con false X.N k l = (X.N l).kids.count k := by unfold con; rw [if_pos ⟨hlp, hlt⟩]
    rw [e] at this
    simpa [noNod] using this
  have mo : ∀ m, m ≠ l → setNod X.N l noNod m = X.N m := fun m e => setNod_other _ _ e
  have ml : setNod X.N l noNod l = noNod := setNod_same _ _ _
  generalize setNod X.N l noNod = M at hT hF mo ml ⊢
  have off : ∀ m, (M m).refs ≠ 0 → m ≠ l := fun m hm e => by subst e; rw [ml] at hm; exact hm rfl
  refine ⟨h.pl, h.pg, fun m hm => ?_, fun m hm => ?_, fun m hm ht => ?_, fun m hm ht => ?_, fun b hb => ?_, fun m hm ht k hk hk0 => ?_, fun m hm ht k hk hk0 => ?_, fun m hm => ?_, fun m hm => ?_, fun b hb => ?_⟩
  · have e := off m hm; simp only [mo m e] at hm; exact h.nl m hm
  · by_cases e : m = l
    · subst e; exact ml
    · simp only [mo m e] at hm ⊢; exact h.ng m hm
  · have e := off m hm; simp only [mo m e] at hm ht ⊢; exact h.top m hm ht
  · have e := off m hm
    show (M m).refs = _ + refsTo true M m
    rw [hT]
    simp only [mo m e] at hm ht ⊢
    have := h.leaf m hm ht
    rwa [List.count_cons_of_ne (fun x => e x.symm)] at this
  · show (X.P b).refs = _ + refsTo false M b
    have hb' : (X.P b).refs ≠ 0 := hb
    have hp := h.pl b hb'
    have := h.blk b hb'
    rw [count_kids (by omega)]
    have := hF b
    simp only [Nod.kids] at this
    omega
  · have e := off m hm
    simp only [mo m e] at hm ht hk
    obtain ⟨a1, a2⟩ := h.kidT m hm ht k hk hk0
    have ek : k ≠ l := fun ek => by
      subst ek
      have hm25 := h.nl m hm
      have hle := le_sum (con true X.N k) m 25 (by omega)
      have hpos : 0 < con true X.N k m := by unfold con; rw [if_pos ⟨hm, ht⟩]; exact List.count_pos_iff.2 hk
      unfold refsTo at hr0
      omega
    simp only [mo k ek]
    exact ⟨a1, a2⟩
  · have e := off m hm
    simp only [mo m e] at hm ht hk
    exact h.kidF m hm ht k hk hk0
  · obtain ⟨a1, a2⟩ := h.hr m hm
    have e : m ≠ l := fun e => by subst e; rw [hlt] at a2; cases a2
    simp only [mo m e]; exact ⟨a1, a2⟩
  · obtain ⟨a1, a2⟩ := h.hl m (List.mem_cons_of_mem _ hm)
    have e : m ≠ l := fun e => by subst e; exact absurd (List.count_pos_iff.2 hm) (by omega)
    simp only [mo m e]; exact ⟨a1, a2⟩
  · have key : ∀ k ∈ (X.N l).kids, k ≠ 0 → (X.P k).refs ≠ 0 := h.kidF l hlp hlt
    rcases mem_opt hb with ⟨rfl, h0⟩ | hb
    · exact key _ (by simp [Nod.kids]) h0
    rcases mem_opt hb with ⟨rfl, h0⟩ | hb
    · exact key _ (by simp [Nod.kids]) h0
    rcases mem_opt hb with ⟨rfl, h0⟩ | hb
    · exact key _ (by simp [Nod.kids]) h0
    rcases mem_opt hb with ⟨rfl, h0⟩ | hb
    · exact key _ (by simp [Nod.kids]) h0
    exact h.hb b hb

theorem Inv.noRoot {l : Nat} (h : Inv X (l :: HR) HL HB) (h1 : (X.N l).refs = 1) : Inv { X with N := setNod X.N l noNod } HR (opt (X.N l).k0 (opt (X.N l).k1 (opt (X.N l).k2 (opt (X.N l).k3 HL)))) HB := by
  obtain ⟨hlp, hlt⟩ := h.hr l (by simp)
  have hl24 := h.nl l hlp
  have hc := h.top l hlp hlt
  rw [List.count_cons_self] at hc
  have hc0 : HR.count l = 0 := by omega
  have hF : ∀ k, refsTo false (setNod X.N l noNod) k = refsTo false X.N k := fun k => by
    have := refsTo_set false X.N hl24.2 noNod k
    rw [con_self] at this
    have e : con false X.N k l = 0 := by unfold con; rw [if_neg]; rintro ⟨_, e⟩; rw [hlt] at e; cases e
    rw [e] at this
    simpa [noNod] using this
  have hT : ∀ k, refsTo true (setNod X.N l noNod) k + (X.N l).kids.count k = refsTo true X.N k := fun k => by
    have := refsTo_set true X.N hl24.2 noNod k
    rw [con_self] at this
    have e : con true X.N k l = (X.N l).kids.count k := by unfold con; rw [if_pos ⟨hlp, hlt⟩]
    rw [e] at this
    simpa [noNod] using this
  have mo : ∀ m, m ≠ l → setNod X.N l noNod m = X.N m := fun m e => setNod_other _ _ e
  have ml : setNod X.N l noNod l = noNod := setNod_same _ _ _
  generalize setNod X.N l noNod = M at hT hF mo ml ⊢
  have off : ∀ m, (M m).refs ≠ 0 → m ≠ l := fun m hm e => by subst e; rw [ml] at hm; exact hm rfl
  have lo : ∀ k, (X.N k).refs ≠ 0 ∧ (X.N k).top = false → (M k).refs ≠ 0 ∧ (M k).top = false := fun k hx => by
    have e : k ≠ l := fun e => by subst e; have := hx.2; rw [hlt] at this; cases this
    rw [mo k e]; exact hx
  refine ⟨h.pl, h.pg, fun m hm => ?_, fun m hm => ?_, fun m hm ht => ?_, fun m hm ht => ?_, fun b hb => ?_, fun m hm ht k hk hk0 => ?_, fun m hm ht k hk hk0 => ?_, fun m hm => ?_, fun m hm => ?_, h.hb⟩
  · have e := off m hm; simp only [mo m e] at hm; exact h.nl m hm
  · by_cases e : m = l
    · subst e; exact ml
    · simp only [mo m e] at hm ⊢; exact h.ng m hm
  · have e := off m hm
    simp only [mo m e] at hm ht ⊢
    have := h.top m hm ht
    rwa [List.count_cons_of_ne (fun x => e x.symm)] at this
  · have e := off m hm
    show (M m).refs = _ + refsTo true M m
    have hm' : (X.N m).refs ≠ 0 := by simp only [mo m e] at hm; exact hm
    have ht' : (X.N m).top = false := by simp only [mo m e] at ht; exact ht
    have hp := h.nl m hm'
    rw [mo m e, count_kids (by omega)]
    have := h.leaf m hm' ht'
    have := hT m
    simp only [Nod.kids] at this
    omega
  · show (X.P b).refs = _ + refsTo false M b
    rw [hF]; exact h.blk b hb
  · have e := off m hm
    simp only [mo m e] at hm ht hk
    exact lo k (h.kidT m hm ht k hk hk0)
  · have e := off m hm
    simp only [mo m e] at hm ht hk
    exact h.kidF m hm ht k hk hk0
  · obtain ⟨a1, a2⟩ := h.hr m (List.mem_cons_of_mem _ hm)
    have e : m ≠ l := fun e => by subst e; exact absurd (List.count_pos_iff.2 hm) (by omega)
    simp only [mo m e]; exact ⟨a1, a2⟩
  · have key : ∀ k ∈ (X.N l).kids, k ≠ 0 → (M k).refs ≠ 0 ∧ (M k).top = false := fun k hk h0 => lo k (h.kidT l hlp hlt k hk h0)
    rcases mem_opt hm with ⟨rfl, h0⟩ | hm
    · exact key _ (by simp [Nod.kids]) h0
    rcases mem_opt hm with ⟨rfl, h0⟩ | hm
    · exact key _ (by simp [Nod.kids]) h0
    rcases mem_opt hm with ⟨rfl, h0⟩ | hm
    · exact key _ (by simp [Nod.kids]) h0
    rcases mem_opt hm with ⟨rfl, h0⟩ | hm
    · exact key _ (by simp [Nod.kids]) h0
    exact lo m (h.hl m hm)

theorem Inv.relLeaf (l : Nat) (h : Inv X HR (opt l HL) HB) : Inv (X.relLeaf l) HR HL HB := by
  unfold IdxM.relLeaf releaseX
  by_cases hl : l = 0
  · subst hl
    have : hasNod X.N ((0 : Nat) : Int) = false := by rw [h.hasN]; simp [zeroN h]
    rw [this]
    exact h
  · rw [show opt l HL = l :: HL by unfold opt; rw [if_neg hl]] at h
    obtain ⟨hlp, _⟩ := h.hl l (by simp)
    have : hasNod X.N (l : Int) = true := by rw [h.hasN]; simpa using hlp
    rw [if_pos this]
    by_cases h1 : (X.N l).refs = 1
    · rw [if_pos h1]
      exact Inv.unref _ (Inv.unref _ (Inv.unref _ (Inv.unref _ (h.noLeaf h1))))
    · rw [if_neg h1]
      exact h.lessLeaf h1

theorem Inv.free (l : Nat) (h : Inv X (opt l HR) HL HB) : Inv (X.free l) HR HL HB := by
  unfold IdxM.free releaseX
  by_cases hl : l = 0
  · subst hl
    have : hasNod X.N ((0 : Nat) : Int) = false := by rw [h.hasN]; simp [zeroN h]
    rw [this]
    exact h
  · rw [show opt l HR = l :: HR by unfold opt; rw [if_neg hl]] at h
    obtain ⟨hlp, _⟩ := h.hr l (by simp)
    have : hasNod X.N (l : Int) = true := by rw [h.hasN]; simpa using hlp
    rw [if_pos this]
    by_cases h1 : (X.N l).refs = 1
    · rw [if_pos h1]
      exact Inv.relLeaf _ (Inv.relLeaf _ (Inv.relLeaf _ (Inv.relLeaf _ (h.noRoot h1))))
    · rw [if_neg h1]
      exact h.lessRoot h1

/-- Nothing is held: nothing is there. -/
theorem Inv.nothing (h : Inv X [] [] []) : (∀ n, (X.N n).refs = 0) ∧ ∀ b, (X.P b).refs = 0 := by
  have t : ∀ n, (X.N n).refs ≠ 0 → (X.N n).top = false := fun n hn => by
    cases ht : (X.N n).top with
    | false => rfl
    | true => have := h.top n hn ht; simp at this; exact absurd this hn
  have c : ∀ k, refsTo true X.N k = 0 := fun k => sum_zero _ _ fun m _ => by
    unfold con
    rw [if_neg]
    rintro ⟨a, b⟩
    rw [t m a] at b; cases b
  have n0 : ∀ n, (X.N n).refs = 0 := fun n => Decidable.byContradiction fun hn => by
    have := h.leaf n hn (t n hn)
    rw [c] at this; simp at this; exact hn this
  refine ⟨n0, fun b => Decidable.byContradiction fun hb => ?_⟩
  have := h.blk b hb
  have c2 : refsTo false X.N b = 0 := sum_zero _ _ fun m _ => con_none (n0 m)
  rw [c2] at this; simp at this; exact hb this
end
end Go.Proofs.YtlgahdabhnhjgaaGreatDoor
