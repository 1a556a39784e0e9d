/- A dropped snapshot between others does not matter: the reasoning on models. -/
import Derived.Test.YtdgmmmjhajbbeaaCoverN
namespace Go.Proofs.Ytdgmmmjhajbbeaa
open Go.RowKit

/-- Where a place is when another one is gone. -/
def sh (k p : Nat) : Nat := if p < k then p else p - 1

theorem dropL_get (L : List SnapM) (k : Nat) (hk : k < L.length) (j : Nat) : (dropL L k)[j]? = if j + 1 < k then L[j]? else if h : j + 1 = k then some (merge (L[j]'(by omega)) L[k]) else L[j + 1]? := by
  cases k with
  | zero => simp [dropL]
  | succ k =>
    have h1 : L[k]? = some (L[k]'(by omega)) := List.getElem?_eq_getElem (by omega)
    have h2 : L[k + 1]? = some L[k + 1] := List.getElem?_eq_getElem hk
    simp only [dropL, h1, h2]
    rw [List.getElem?_eraseIdx]
    by_cases c1 : j < k
    · rw [if_pos (by omega), if_pos (by omega), List.getElem?_set_ne (by omega)]
    · by_cases c2 : j = k
      · subst c2
        rw [if_pos (by omega), if_neg (by omega), dif_pos rfl, List.getElem?_set_self (by omega)]
      · rw [if_neg (by omega), if_neg (by omega), dif_neg (by omega), List.getElem?_set_ne (by omega)]

theorem any_seg (L : List SnapM) (lo hi : Nat) (φ : SnapM → Bool) : (seg L lo hi).any φ = true ↔ ∃ j s, lo ≤ j ∧ j < hi ∧ L[j]? = some s ∧ φ s = true := by
  rw [List.any_eq_true]
  constructor
  · rintro ⟨s, hs, hφ⟩
    obtain ⟨n, hn⟩ := List.mem_iff_getElem?.1 hs
    unfold seg at hn
    rw [List.getElem?_take] at hn
    split at hn
    · rw [List.getElem?_drop] at hn
      exact ⟨lo + n, s, by omega, by omega, hn, hφ⟩
    · cases hn
  · rintro ⟨j, s, h1, h2, h3, h4⟩
    refine ⟨s, List.mem_iff_getElem?.2 ⟨j - lo, ?_⟩, h4⟩
    unfold seg
    rw [List.getElem?_take, if_pos (by omega), List.getElem?_drop, show lo + (j - lo) = j by omega]
    exact h3

theorem any_drop (L : List SnapM) (k lo hi : Nat) (hk : k < L.length) (h1 : lo ≠ k) (h2 : hi ≠ k) (φ : SnapM → Bool) (hφ : ∀ s t, φ (merge s t) = (φ s || φ t)) : (seg (dropL L k) (sh k lo) (sh k hi)).any φ = (seg L lo hi).any φ := by
  rw [Bool.eq_iff_iff, any_seg, any_seg]
  unfold sh
  constructor
  · rintro ⟨j, s, a1, a2, a3, a4⟩
    rw [dropL_get L k hk] at a3
    by_cases c1 : j + 1 < k
    · rw [if_pos c1] at a3
      refine ⟨j, s, ?_, ?_, a3, a4⟩ <;> (split at a1 <;> split at a2 <;> omega)
    · rw [if_neg c1] at a3
      by_cases c2 : j + 1 = k
      · rw [dif_pos c2] at a3
        injection a3 with a3
        subst a3
        rw [hφ, Bool.or_eq_true] at a4
        rcases a4 with a4 | a4
        · refine ⟨j, _, ?_, ?_, List.getElem?_eq_getElem (by omega), a4⟩ <;> (split at a1 <;> split at a2 <;> omega)
        · refine ⟨k, _, ?_, ?_, List.getElem?_eq_getElem (by omega), a4⟩ <;> (split at a1 <;> split at a2 <;> omega)
      · rw [dif_neg c2] at a3
        refine ⟨j + 1, s, ?_, ?_, a3, a4⟩ <;> (split at a1 <;> split at a2 <;> omega)
  · rintro ⟨i, s, a1, a2, a3, a4⟩
    by_cases c1 : i + 1 < k
    · refine ⟨i, s, ?_, ?_, by rw [dropL_get L k hk, if_pos c1]; exact a3, a4⟩ <;> (split <;> omega)
    · by_cases c2 : i + 1 = k
      · have e : L[i]? = some (L[i]'(by omega)) := List.getElem?_eq_getElem (by omega)
        rw [e] at a3
        injection a3 with a3
        refine ⟨i, _, ?_, ?_, by rw [dropL_get L k hk, if_neg c1, dif_pos c2], by rw [hφ, a3, a4]; rfl⟩ <;> (split <;> omega)
      · by_cases c3 : i = k
        · subst c3
          have e : L[i]? = some (L[i]'(by omega)) := List.getElem?_eq_getElem (by omega)
          rw [e] at a3
          injection a3 with a3
          refine ⟨i - 1, _, ?_, ?_, by rw [dropL_get L i hk, if_neg (by omega), dif_pos (show i - 1 + 1 = i by omega)], by rw [hφ, a3, a4, Bool.or_true]⟩ <;> (split <;> omega)
        · refine ⟨i - 1, s, ?_, ?_, by rw [dropL_get L k hk, if_neg (by omega), dif_neg (by omega), show i - 1 + 1 = i by omega]; exact a3, a4⟩ <;> (split <;> omega)

theorem posIn_eq_some {L : List SnapM} {a : Int} {p : Nat} : posIn L a = some p ↔ ∃ h : p < L.length, (L[p].id : Int) = a ∧ ∀ j, (hj : j < L.length) → j < p → (L[j].id : Int) ≠ a := by
  constructor
  · intro h
    obtain ⟨h1, h2⟩ := posIn_lt h
    refine ⟨h1, h2, fun j hj hjp he => ?_⟩
    induction L generalizing p j with
    | nil => simp at h1
    | cons s r ih =>
      unfold posIn at h
      split at h
      · injection h with h; omega
      · rename_i hs
        cases hr : posIn r a with
        | none => rw [hr] at h; simp at h
        | some q =>
          rw [hr] at h
          simp at h
          subst h
          cases j with
          | zero => exact hs he
          | succ j =>
            obtain ⟨g1, g2⟩ := posIn_lt hr
            exact ih hr g1 g2 j (by simpa using hj) (by omega) (by simpa using he)
  · rintro ⟨h1, h2, h3⟩
    exact posIn_some h1 h2 fun j hj hlt => h3 j hj hlt

theorem dropL_length (L : List SnapM) (k : Nat) (hk : k < L.length) : (dropL L k).length = L.length - 1 := by
  cases k with
  | zero => simp [dropL]
  | succ k =>
    have h1 : L[k]? = some (L[k]'(by omega)) := List.getElem?_eq_getElem (by omega)
    have h2 : L[k + 1]? = some L[k + 1] := List.getElem?_eq_getElem hk
    simp only [dropL, h1, h2]
    rw [List.length_eraseIdx, if_pos (by simpa using hk)]; simp

/-- A snapshot that is left is as it was. -/
theorem dropL_same (L : List SnapM) (k p : Nat) (hk : k < L.length) (hp : p < L.length) (hne : p ≠ k) : ∃ s, (dropL L k)[sh k p]? = some s ∧ s.id = L[p].id ∧ s.was = L[p].was := by
  rw [dropL_get L k hk]
  unfold sh
  by_cases c : p < k
  · rw [if_pos c]
    by_cases c1 : p + 1 < k
    · rw [if_pos c1]; exact ⟨_, List.getElem?_eq_getElem hp, rfl, rfl⟩
    · rw [if_neg c1, dif_pos (by omega)]; exact ⟨_, rfl, rfl, rfl⟩
  · rw [if_neg c, if_neg (by omega), dif_neg (by omega), show p - 1 + 1 = p by omega]
    exact ⟨_, List.getElem?_eq_getElem hp, rfl, rfl⟩

theorem posIn_drop {L : List SnapM} {k p : Nat} (hk : k < L.length) {a : Int} (h : posIn L a = some p) (hne : p ≠ k) : posIn (dropL L k) a = some (sh k p) := by
  obtain ⟨h1, h2, h3⟩ := posIn_eq_some.1 h
  obtain ⟨s, e1, e2, _⟩ := dropL_same L k p hk h1 hne
  have hl : sh k p < (dropL L k).length := by
    rw [dropL_length L k hk]; unfold sh; split <;> omega
  refine posIn_some hl ?_ fun j hj hlt => ?_
  · rw [List.getElem?_eq_getElem hl] at e1
    injection e1 with e1
    rw [e1, e2]; exact h2
  · have e : (dropL L k)[j]? = some (dropL L k)[j] := List.getElem?_eq_getElem hj
    rw [dropL_length L k hk] at hj
    rw [dropL_get L k hk] at e
    have hjp : ∀ q, q < p → (hq : q < L.length) → (L[q].id : Int) ≠ a := fun q hq hql => h3 q hql hq
    unfold sh at hlt
    by_cases c1 : j + 1 < k
    · rw [if_pos c1, List.getElem?_eq_getElem (by omega)] at e
      injection e with e
      rw [← e]; exact hjp j (by split at hlt <;> omega) (by omega)
    · rw [if_neg c1] at e
      by_cases c2 : j + 1 = k
      · rw [dif_pos c2] at e
        injection e with e
        rw [← e]; exact hjp j (by split at hlt <;> omega) (by omega)
      · rw [dif_neg c2, List.getElem?_eq_getElem (by omega)] at e
        injection e with e
        rw [← e]; exact hjp (j + 1) (by split at hlt <;> omega) (by omega)

theorem posIn_dropN {L : List SnapM} {k : Nat} (hk : k < L.length) {a : Int} (h : posIn L a = none) : posIn (dropL L k) a = none := by
  have hall : ∀ j, (hj : j < L.length) → (L[j].id : Int) ≠ a := fun j hj he => by
    induction L generalizing j k with
    | nil => simp at hj
    | cons s r ih =>
      unfold posIn at h
      split at h
      · cases h
      · rename_i hs
        cases j with
        | zero => exact hs he
        | succ j =>
          have hr : posIn r a = none := by cases c : posIn r a with | none => rfl | some q => rw [c] at h; simp at h
          exact ih (k := 0) (by simp at hj; omega) hr j (by simpa using hj) (by simpa using he)
  refine posIn_none fun j hj => ?_
  have e : (dropL L k)[j]? = some (dropL L k)[j] := List.getElem?_eq_getElem hj
  rw [dropL_length L k hk] at hj
  rw [dropL_get L k hk] at e
  by_cases c1 : j + 1 < k
  · rw [if_pos c1, List.getElem?_eq_getElem (by omega)] at e
    injection e with e
    rw [← e]; exact hall j (by omega)
  · rw [if_neg c1] at e
    by_cases c2 : j + 1 = k
    · rw [dif_pos c2] at e
      injection e with e
      rw [← e]; exact hall j (by omega)
    · rw [dif_neg c2, List.getElem?_eq_getElem (by omega)] at e
      injection e with e
      rw [← e]; exact hall (j + 1) (by omega)

theorem any_congr_foldT {S T : List SnapM} (h : ∀ i : Nat, i < 16 → (S.any fun s => hasB s.touched i) = (T.any fun s => hasB s.touched i)) : foldT [] S = foldT [] T := by
  have e : ∀ i, i < 16 → marksOf (foldT [] S) i = marksOf (foldT [] T) i := fun i hi => by
    show hasB (foldT [] S) i = hasB (foldT [] T) i
    rw [has_foldT _ _ _ hi, has_foldT _ _ _ hi, h i hi]
  rw [← areasOf_marksOf (foldT_ok S).1, ← areasOf_marksOf (foldT_ok T).1]
  exact areasOf_congr e

theorem sh_min (k p q : Nat) : min (sh k p) (sh k q) = sh k (min p q) := by unfold sh; split <;> split <;> split <;> omega
theorem sh_max (k p q : Nat) : max (sh k p) (sh k q) = sh k (max p q) := by unfold sh; split <;> split <;> split <;> omega

/-- Drop of one snapshot leaves what is asked of two others. -/
theorem fold_fin (D : DiskM) (a b c : Int) (ha : c ≠ a) (hb : c ≠ b) : chgErr (dropM D c) a b = chgErr D a b ∧ chgAr (dropM D c) a b = chgAr D a b ∧ ∀ i : Nat, readText (dropM D c) a i = readText D a i := by
  unfold dropM
  cases hc : posIn D.snaps c with
  | none => exact ⟨rfl, rfl, fun _ => rfl⟩
  | some k =>
    obtain ⟨hk, hck⟩ := posIn_lt hc
    have hnk : ∀ {x : Int} {p : Nat}, c ≠ x → posIn D.snaps x = some p → p ≠ k := fun hx hp he => by
      obtain ⟨h1, h2⟩ := posIn_lt hp
      subst he
      exact hx (hck.symm.trans h2)
    simp only
    have hread : ∀ i : Nat, readText { D with snaps := dropL D.snaps k } a i = readText D a i := fun i => by
      cases hp : posIn D.snaps a with
      | none =>
        have hp' : posIn (dropL D.snaps k) a = none := posIn_dropN hk hp
        unfold readText; simp only [hp, hp']
      | some p =>
        have hp' : posIn (dropL D.snaps k) a = some (sh k p) := posIn_drop hk hp (hnk ha hp)
        obtain ⟨s, e1, _, e3⟩ := dropL_same D.snaps k p hk (posIn_lt hp).1 (hnk ha hp)
        unfold readText
        simp only [hp, hp', e1, List.getElem?_eq_getElem (posIn_lt hp).1, e3]
    cases hp : posIn D.snaps a with
    | none =>
      have hp' : posIn (dropL D.snaps k) a = none := posIn_dropN hk hp
      refine ⟨?_, ?_, hread⟩
      · unfold chgErr; simp only [hp, hp']
      · unfold chgAr; simp only [hp, hp']
    | some p =>
      have hp' : posIn (dropL D.snaps k) a = some (sh k p) := posIn_drop hk hp (hnk ha hp)
      cases hq : posIn D.snaps b with
      | none =>
        have hq' : posIn (dropL D.snaps k) b = none := posIn_dropN hk hq
        refine ⟨?_, ?_, hread⟩
        · unfold chgErr; simp only [hp, hp', hq, hq']
        · unfold chgAr; simp only [hp, hp', hq, hq']
      | some q =>
        have hq' : posIn (dropL D.snaps k) b = some (sh k q) := posIn_drop hk hq (hnk hb hq)
        have np := hnk ha hp
        have nq := hnk hb hq
        have n1 : min p q ≠ k := by omega
        have n2 : max p q ≠ k := by omega
        have e1 := any_drop D.snaps k (min p q) (max p q) hk n1 n2 (·.forgot) (fun _ _ => rfl)
        have e2 := any_congr_foldT (S := seg (dropL D.snaps k) (sh k (min p q)) (sh k (max p q))) (T := seg D.snaps (min p q) (max p q)) fun i hi =>
          any_drop D.snaps k (min p q) (max p q) hk n1 n2 (fun s => hasB s.touched i) (fun s t => has_uni16 _ _ _ hi)
        refine ⟨?_, ?_, hread⟩
        · unfold chgErr; simp only [hp, hp', hq, hq', sh_min k p q, sh_max k p q, e1]
        · unfold chgAr; simp only [hp, hp', hq, hq', sh_min k p q, sh_max k p q, e1, e2]
end Go.Proofs.Ytdgmmmjhajbbeaa
