/- What differs is reported: what Changed and Read answer. -/
import Derived.Test.YtdgmmmjhajbbeaaCoverM
namespace Go.Proofs.Ytdgmmmjhajbbeaa
open Go.RowKit

theorem chgErr_comm (D : DiskM) (a b : Int) : chgErr D b a = chgErr D a b := by
  unfold chgErr
  cases posIn D.snaps a <;> cases posIn D.snaps b <;> simp only [Nat.min_comm, Nat.max_comm]
theorem chgAr_comm (D : DiskM) (a b : Int) : chgAr D b a = chgAr D a b := by
  unfold chgAr
  cases posIn D.snaps a <;> cases posIn D.snaps b <;> simp only [Nat.min_comm, Nat.max_comm]
theorem chgErr_small (D : DiskM) (a b : Int) : 0 ≤ chgErr D a b ∧ chgErr D a b ≤ 100 := by
  unfold chgErr
  split
  · split <;> decide
  · decide
theorem chgAr_nil (D : DiskM) (a b : Int) (h : chgErr D a b ≠ 0) : chgAr D a b = [] := by
  unfold chgErr at h
  unfold chgAr
  cases hp : posIn D.snaps a with
  | none => rfl
  | some i =>
    cases hq : posIn D.snaps b with
    | none => rfl
    | some j =>
      rw [hp, hq] at h
      simp only at h ⊢
      split
      · rfl
      · rename_i hn; rw [if_neg hn] at h; exact absurd rfl h
theorem chgAr_ok (D : DiskM) (a b : Int) : ValidFrom 0 (chgAr D a b) ∧ (chgAr D a b).length ≤ 16 := by
  unfold chgAr
  split
  · split
    · exact ⟨trivial, by simp⟩
    · exact foldT_ok _
  · exact ⟨trivial, by simp⟩

theorem read_text (D : DiskM) (a : Int) (p i : Nat) (h : posIn D.snaps a = some p) (hp : p < D.snaps.length) : readText D a i = (view D.snaps[p].was i).getD ByteArray.empty := by
  unfold readText view
  rw [h]
  simp only [List.getElem?_eq_getElem hp]
  by_cases c : i < D.snaps[p].was.size
  · rw [if_pos (by omega), if_pos c]; simp
  · rw [if_neg (by omega), if_neg c]; rfl
theorem read_err (D : DiskM) (a : Int) (p i : Nat) (h : posIn D.snaps a = some p) (hp : p < D.snaps.length) : readErr D a i = if (view D.snaps[p].was i).isSome then 0 else 1 := by
  unfold readErr view
  rw [h]
  simp only [List.getElem?_eq_getElem hp]
  by_cases c : i < D.snaps[p].was.size
  · rw [if_pos (by omega), if_pos c]; rfl
  · rw [if_neg (by omega), if_neg c]; rfl

theorem cover_le {D : DiskM} (h : Covers D) {p q i : Nat} (hpq : p ≤ q) (hq : q < D.snaps.length) (hi : i < 16) (hf : ¬ (seg D.snaps p q).any (·.forgot) = true) (hn : hasB (foldT [] (seg D.snaps p q)) i = false) :
    view (D.snaps[p]'(by omega)).was i = view D.snaps[q].was i := by
  obtain ⟨n, rfl⟩ : ∃ n, q = p + n := ⟨q - p, by omega⟩
  refine cov_range h p n hq i hi fun k hk h1 h2 => ?_
  have hg := seg_get (L := D.snaps) (lo := p) (hi := p + n) (k := k - p) (by omega) (by omega)
  have hm := List.mem_of_getElem? hg
  have e : D.snaps[p + (k - p)]'(by omega) = D.snaps[k] := by congr 1; omega
  rw [e] at hm
  rw [has_foldT _ _ _ hi, hasB_nil, Bool.false_or, Bool.eq_false_iff] at hn
  constructor
  · cases c : D.snaps[k].forgot with
    | false => rfl
    | true => exact absurd (List.any_eq_true.2 ⟨_, hm, c⟩) hf
  · cases c : hasB D.snaps[k].touched i with
    | false => rfl
    | true => exact absurd (List.any_eq_true.2 ⟨_, hm, c⟩) hn

theorem cover_fin {D : DiskM} (h : Covers D) {a b : Int} (he : chgErr D a b = 0) {i : Nat} (hi : i < 16) (hn : hasB (chgAr D a b) i = false) : readText D a i = readText D b i ∧ readErr D a i = readErr D b i := by
  unfold chgErr at he
  unfold chgAr at hn
  cases hp : posIn D.snaps a with
  | none => rw [hp] at he; simp at he
  | some p =>
    cases hq : posIn D.snaps b with
    | none => rw [hp, hq] at he; simp at he
    | some q =>
      rw [hp, hq] at he hn
      simp only at he hn
      have hf : ¬ (seg D.snaps (min p q) (max p q)).any (·.forgot) = true := by
        intro c; rw [if_pos c] at he; omega
      rw [if_neg hf] at hn
      have hpl := (posIn_lt hp).1
      have hql := (posIn_lt hq).1
      have hv : view D.snaps[p].was i = view D.snaps[q].was i := by
        rcases Nat.le_total p q with c | c
        · rw [Nat.min_eq_left c, Nat.max_eq_right c] at hf hn
          exact cover_le h c hql hi hf hn
        · rw [Nat.min_eq_right c, Nat.max_eq_left c] at hf hn
          exact (cover_le h c hpl hi hf hn).symm
      rw [read_text D a p i hp hpl, read_text D b q i hq hql, read_err D a p i hp hpl, read_err D b q i hq hql, hv]
      exact ⟨rfl, rfl⟩

set_option maxRecDepth 100000 in
theorem unlike_any (B g : Nat) (w : World) (D : DiskM) (a b : Int) (i : Nat) (hD : DiskAt B w g D) :
    Calls Try.prog 45 #[.pointer (some ⟨g, 0, none⟩), .int .i64 a, .int .i64 b, .int .i64 i] w (BoolRet w fun r => readText D a i = readText D b i ∧ readErr D a i = readErr D b i → r = false) := by
  have r1 := fun w h => read_any B g w D a i h
  have r2 := fun w h => read_any B g w D b i h
  generalize readText D a i = s at *
  generalize readText D b i = t at *
  generalize readSize D a i = n1 at *
  generalize readSize D b i = n2 at *
  generalize readErr D a i = x at *
  generalize readErr D b i = y at *
  go_enter Try.func45, Try.ntmps45
  go_wp2_with fail
  ((with_reducible refine (r1 _ hD).mono ?_); rintro e w1 ⟨rfl, hb1⟩)
  go_wp2_with fail
  ((with_reducible refine (r2 _ (hD.below hb1)).mono ?_); rintro e w2 ⟨rfl, hb2⟩)
  replace hb1 := belowThen hb1 hb2
  clear r1 r2 hD hb2
  have hv : errV 0 = .nilIface := rfl
  cases hst : (s.toList == t.toList) with
  | true =>
    by_cases hx : x = 0
    · subst hx
      rw [hv]
      by_cases hy : y = 0
      · subst hy
        rw [hv]
        go_wp2
        go_quiet (fail)
        go_wp2
        go_ret
        exact ⟨_, rfl, by first | trivial | (intro h; first | rfl | (exfalso; omega) | (exfalso; obtain ⟨_, h⟩ := h; omega)), below_drewN hb1 _⟩
      · have hvy : errV y = .iface 124 (.int .i64 y) := by simp [errV, hy]
        rw [hvy]
        go_wp2
        go_quiet (fail)
        go_wp2
        go_ret
        exact ⟨_, rfl, by first | trivial | (intro h; first | rfl | (exfalso; omega) | (exfalso; obtain ⟨_, h⟩ := h; omega)), below_drewN hb1 _⟩
    · have hvx : errV x = .iface 124 (.int .i64 x) := by simp [errV, hx]
      rw [hvx]
      by_cases hy : y = 0
      · subst hy
        rw [hv]
        go_wp2
        go_quiet (fail)
        go_wp2
        go_ret
        exact ⟨_, rfl, by first | trivial | (intro h; first | rfl | (exfalso; omega) | (exfalso; obtain ⟨_, h⟩ := h; omega)), below_drewN hb1 _⟩
      · have hvy : errV y = .iface 124 (.int .i64 y) := by simp [errV, hy]
        rw [hvy]
        go_wp2
        go_quiet (fail)
        go_wp2
        go_ret
        exact ⟨_, rfl, by first | trivial | (intro h; first | rfl | (exfalso; omega) | (exfalso; obtain ⟨_, h⟩ := h; omega)), below_drewN hb1 _⟩
  | false =>
    have hne : ¬ s = t := by intro h; rw [h] at hst; simp at hst
    go_wp2
    go_quiet (fail)
    go_wp2
    go_ret
    exact ⟨_, rfl, by first | trivial | (intro h; exact absurd h.1 hne), below_drewN hb1 _⟩
end Go.Proofs.Ytdgmmmjhajbbeaa
