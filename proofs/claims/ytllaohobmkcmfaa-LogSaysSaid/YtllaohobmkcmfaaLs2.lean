/- LogSays: entries that stay while a log is written. -/
import Derived.Test.YtllaohobmkcmfaaLs1
namespace Go.Proofs.Ytllaohobmkcmfaa
open Go.RowKit Go.PlainAid

theorem not_mem_lgTypes : 50 ∉ lgTypes ∧ 45 ∉ lgTypes ∧ 9 ∉ lgTypes := by decide

/-- Changes that stay, whatever a log does. -/
def ChsF (B : Nat) (w : World) (A : Option Addr) (l : List Ch) : Prop := ∀ w', Step B lgTypes w w' → ChsAt w' A l
/-- Entries that stay, whatever a log does. -/
def DeedsF (B : Nat) (w : World) (A : Option Addr) (L : List (List Ch)) (vs : List Value) : Prop :=
  vs.length = L.length ∧ ∀ i, (h1 : i < L.length) → (h2 : i < vs.length) → ∃ b off Ai ci, A = some ⟨b, off, none⟩ ∧ vs[i] = .slice Ai L[i].length ci ∧ (∀ w', Step B lgTypes w w' → b < w'.heap.size ∧ w'.cell? ⟨b, off + i, none⟩ = some vs[i]) ∧ ChsF B w Ai L[i]
theorem ChsF.step {B : Nat} {w w' : World} {A : Option Addr} {l : List Ch} (h : ChsF B w A l) (hs : Step B lgTypes w w') : ChsF B w' A l := fun _ h2 => h _ (hs.trans h2)
theorem ChsF.now {B : Nat} {w : World} {A : Option Addr} {l : List Ch} (h : ChsF B w A l) : ChsAt w A l := h _ (Step.refl _ _ _)
theorem ChsF.old {w w' : World} {A : Option Addr} {l : List Ch} (h : ChsAt w A l) (hb : Below w.heap.size w w') : ChsF w.heap.size w' A l := fun _ h2 => h.below (hb.trans h2.below)
theorem DeedsF.step {B : Nat} {w w' : World} {A : Option Addr} {L : List (List Ch)} {vs : List Value} (h : DeedsF B w A L vs) (hs : Step B lgTypes w w') : DeedsF B w' A L vs := ⟨h.1, fun i h1 h2 => by
  obtain ⟨b, off, Ai, ci, e, e2, h3, h4⟩ := h.2 i h1 h2
  exact ⟨b, off, Ai, ci, e, e2, fun w2 hs2 => h3 w2 (hs.trans hs2), h4.step hs⟩⟩
theorem DeedsF.now {B : Nat} {w : World} {A : Option Addr} {L : List (List Ch)} {vs : List Value} (h : DeedsF B w A L vs) : DeedsIn w A L := fun i hi => by
  obtain ⟨b, off, Ai, ci, e, e2, h3, h4⟩ := h.2 i hi (by rw [h.1]; exact hi)
  obtain ⟨h5, h6⟩ := h3 w (Step.refl _ _ _)
  exact ⟨b, off, Ai, ci, e, h5, by rw [h6, e2], h4.now⟩
theorem DeedsF.nil (B : Nat) (w : World) (A : Option Addr) : DeedsF B w A [] [] := ⟨rfl, fun i h => by simp at h⟩
theorem DeedsF.one {B : Nat} {w : World} {A : Option Addr} {L : List (List Ch)} {vs : List Value} (h : DeedsF B w A L vs) : ∀ u ∈ vs, u.oneCell' = true := fun u hu => by
  obtain ⟨i, hi, rfl⟩ := List.getElem_of_mem hu
  obtain ⟨_, _, _, _, _, e, _⟩ := h.2 i (by rw [← h.1]; exact hi) hi
  rw [e]; rfl
theorem DeedsF.cells {B : Nat} {w : World} {a : Addr} {L : List (List Ch)} {vs : List Value} (h : DeedsF B w (some a) L vs) : ∀ j u, vs[j]? = some u → w.cell? (a.add j) = some u := fun j u hu => by
  obtain ⟨hj, rfl⟩ := List.getElem?_eq_some_iff.1 hu
  obtain ⟨b, off, _, _, e, _, h3, _⟩ := h.2 j (by rw [← h.1]; exact hj) hj
  simp only [Option.some.injEq] at e
  subst e
  rw [add_lit]
  exact (h3 w (Step.refl _ _ _)).2
/-- An own row of entries. -/
theorem DeedsF.row {B B1 : Nat} {w : World} {A : Option Addr} {n c : Nat} {L : List (List Ch)} {vs : List Value} (hO : w.ownsRow B1 45 1 (.slice A n c) L.length vs) (hvs : vs.length = L.length) (h3 : ∀ i, (h1 : i < L.length) → (h2 : i < vs.length) → ∃ Ai ci, vs[i] = .slice Ai L[i].length ci ∧ ChsF B w Ai L[i]) : DeedsF B w A L vs := ⟨hvs, fun i h1 h2 => by
  obtain ⟨Ai, ci, e, hc⟩ := h3 i h1 h2
  rcases hO.2 with ⟨_, h0⟩ | ⟨g, cap, cur, e2, hB, hg, hnc, hcm, hcs, htk⟩
  · omega
  · simp only [Value.slice.injEq] at e2
    obtain ⟨rfl, _, _⟩ := e2
    refine ⟨g, 0, Ai, ci, rfl, e, fun w' hs => ?_, hc⟩
    have hg' := hs.other _ _ _ _ hg not_mem_lgTypes.2.1
    refine ⟨(Array.getElem?_eq_some_iff.1 hg').1, ?_⟩
    rw [cell_of_row _ _ _ _ _ _ hg']
    obtain ⟨u, hu⟩ : ∃ u, vs[i] = u := ⟨_, rfl⟩
    rw [hu]
    have : vs[i]? = some u := by rw [List.getElem?_eq_getElem h2, hu]
    rw [← htk, List.getElem?_take] at this
    split at this
    · simpa using this
    · cases this⟩
/-- Entries out of a log. -/
theorem DeedsF.of {B B1 : Nat} {w : World} {A : Option Addr} {n c : Nat} {L : List (List Ch)} (h : DeedsAt w B1 (.slice A n c) L) (hz : ∀ l ∈ L, ∀ x ∈ l, x.key.size ≤ maxLen ∧ x.val.size ≤ maxLen) : ∃ vs, DeedsF B w A L vs := by
  obtain ⟨vs, h1, h2, h3⟩ := h
  refine ⟨vs, DeedsF.row h2 h1 (fun i hi hv => ?_)⟩
  have hr := h3 i hi hv
  obtain ⟨Ai, ci, e⟩ := slice_form (show w.ownsRow B1 50 3 vs[i] L[i].length (chCells L[i]) from hr)
  refine ⟨Ai, ci, e, fun w' hs => ?_⟩
  have hr' : w.ownsRow B1 50 3 vs[i] L[i].length (chCells L[i]) := hr
  rw [e] at hr'
  exact chs_own (own_step hr' hs not_mem_lgTypes.1) (fun x hx => hz _ (List.getElem_mem hi) x hx)
/-- One more entry, in a row of its own. -/
theorem DeedsF.snoc {B B1 : Nat} {w w' : World} {A A' Ai : Option Addr} {ci n c : Nat} {L : List (List Ch)} {l : List Ch} {vs : List Value} (h : DeedsF B w A L vs) (hs : Step B lgTypes w w') (hl : ChsF B w' Ai l)
    (hO : w'.ownsRow B1 45 1 (.slice A' n c) (L.length + 1) (vs ++ [.slice Ai l.length ci])) : DeedsF B w' A' (L ++ [l]) (vs ++ [.slice Ai l.length ci]) := by
  refine DeedsF.row (by simpa using hO) (by simp [h.1]) (fun i h1 h2 => ?_)
  by_cases hi : i < L.length
  · obtain ⟨_, _, A2, c2, _, e, _, h4⟩ := h.2 i hi (by rw [h.1]; exact hi)
    refine ⟨A2, c2, ?_, ?_⟩
    · rw [List.getElem_append_left (by rw [h.1]; exact hi), List.getElem_append_left hi]; exact e
    · rw [List.getElem_append_left hi]; exact h4.step hs
  · have hie : i = L.length := by simp at h1; omega
    subst hie
    refine ⟨Ai, ci, ?_, ?_⟩
    · rw [List.getElem_append_right (by rw [h.1]; exact Nat.le_refl _)]; simp [h.1]
    · simpa using hl

theorem parseC_small {s : ByteArray} (h : s.size ≤ 80) : (parseC s).key.size ≤ 80 ∧ (parseC s).val.size ≤ 80 := by
  unfold parseC
  split
  · unfold chCut; simp; omega
  · simp [noCh, ByteArray.size]
/-- What a log's sectors say is not large. -/
theorem lgRead_small (first : Nat) : ∀ (l : List ByteArray) (k : Nat) (cs : List Ch) (es : List (List Ch)) (e : Nat), (∀ s ∈ l, s.size ≤ 80) → (∀ x ∈ cs, x.key.size ≤ 80 ∧ x.val.size ≤ 80) → (∀ c ∈ es, ∀ x ∈ c, x.key.size ≤ 80 ∧ x.val.size ≤ 80) → cs.length ≤ k → es.length ≤ k → (∀ c ∈ es, c.length ≤ k) →
    (∀ c ∈ (lgRead first l k cs es e).1, ∀ x ∈ c, x.key.size ≤ 80 ∧ x.val.size ≤ 80) ∧ (lgRead first l k cs es e).1.length ≤ k + l.length ∧ (∀ c ∈ (lgRead first l k cs es e).1, c.length ≤ k + l.length)
  | [], k, cs, es, e, _, _, h3, _, h5, h6 => by
    rw [lgRead]; exact ⟨h3, by simpa using h5, by simpa using h6⟩
  | s :: r, k, cs, es, e, h1, h2, h3, h4, h5, h6 => by
    have hs := h1 s (by simp)
    have hr : ∀ s ∈ r, s.size ≤ 80 := fun x hx => h1 x (by simp [hx])
    have hb : (ctBody (first + k) s).size ≤ 80 := by
      unfold ctBody; split
      · unfold ctText; simp; omega
      · simp [ByteArray.size]
    have lift : ∀ {R : List (List Ch)}, ((∀ c ∈ R, ∀ x ∈ c, x.key.size ≤ 80 ∧ x.val.size ≤ 80) ∧ R.length ≤ k + 1 + r.length ∧ (∀ c ∈ R, c.length ≤ k + 1 + r.length)) → (∀ c ∈ R, ∀ x ∈ c, x.key.size ≤ 80 ∧ x.val.size ≤ 80) ∧ R.length ≤ k + (s :: r).length ∧ (∀ c ∈ R, c.length ≤ k + (s :: r).length) := fun ⟨a, b, c⟩ =>
      ⟨a, by simp only [List.length_cons]; omega, fun x hx => by have := c x hx; simp only [List.length_cons]; omega⟩
    rw [lgRead]
    split
    · rename_i hA
      refine lift (lgRead_small first r (k + 1) _ es e hr (fun x hx => ?_) h3 (by simp; omega) (by omega) (fun c hc => by have := h6 c hc; omega))
      rcases List.mem_append.1 hx with hx | hx
      · exact h2 x hx
      · rw [List.mem_singleton.1 hx]
        exact parseC_small hb
    · split
      · refine lift (lgRead_small first r (k + 1) [] _ (k + 1) hr (by simp) (fun c hc => ?_) (by simp) (by simp; omega) (fun c hc => ?_))
        · rcases List.mem_append.1 hc with hc | hc
          · exact h3 c hc
          · rw [List.mem_singleton.1 hc]; exact h2
        · rcases List.mem_append.1 hc with hc | hc
          · have := h6 c hc; omega
          · rw [List.mem_singleton.1 hc]; omega
      · exact ⟨h3, by simp only [List.length_cons]; omega, fun c hc => by have := h6 c hc; simp only [List.length_cons]; omega⟩
end Go.Proofs.Ytllaohobmkcmfaa
