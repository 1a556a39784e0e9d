/- TopLog: entries in memory; a log on a disk that is not armed. -/
import Derived.Test.YtllaohobmkcmfaaLgR
import Derived.Test.YtllaohobmkcmfaaTl1
import Derived.Test.YtllaohobmkcmfaaCalm
namespace Go.Proofs.Ytllaohobmkcmfaa
open Go.RowKit Go.PlainAid

theorem calm_lgWrite {n : Nat} : ∀ (xs : List ByteArray) (k : Nat) (D : DkM), Calm n D → (∀ x ∈ xs, x.size ≤ 80) → k + xs.length ≤ n → (lgWrite xs k D).2 = 0 ∧ Calm n (lgWrite xs k D).1
  | [], k, D, h, _, _ => by
    rw [lgWrite]
    exact ⟨h.stepE, by rw [h.flush]; exact h.saved⟩
  | x :: r, k, D, h, hs, hk => by
    simp only [List.length_cons] at hk
    have hb : ¬ badAt n (k : Int) x := by unfold badAt; have := hs x (by simp); omega
    have hE : dkWriteE D k x = 0 := by rw [h.writeE, if_neg hb]
    rw [lgWrite, hE, if_pos rfl]
    exact calm_lgWrite r (k + 1) _ (h.writes _ _) (fun y hy => hs y (by simp [hy])) (by omega)

theorem calm_put {n : Nat} {D : DkM} {L : LgM} {l : List Ch} (h : Calm n D) (hl : chsErr l = 0) (hfit : L.fin + l.length + 1 ≤ L.many) (hn : L.frm + L.many ≤ n) : (lgPut (entSecs L l) L D).2 = 0 ∧ Calm n (lgPut (entSecs L l) L D).1 := by
  have hSl := entSecs_length L l
  have hb : ∀ x ∈ [blankT], x.size ≤ 80 := fun x hx => by rw [List.mem_singleton.1 hx]; simp [blankT, ByteArray.size]
  obtain ⟨a1, a2⟩ := calm_lgWrite [blankT] (L.frm + L.fin) D h hb (by simp; omega)
  obtain ⟨b1, b2⟩ := calm_lgWrite (restOf (entSecs L l) (L.many - L.fin)) (L.frm + (L.fin + 1)) _ a2 (rest_small hl) (by rw [rest_length]; omega)
  obtain ⟨c1, c2⟩ := calm_lgWrite [(entSecs L l).headD blankT] (L.frm + L.fin) _ b2 (fun x hx => by rw [List.mem_singleton.1 hx, ent_head (by omega)]; exact ent_small hl _ (List.getElem_mem _)) (by simp; omega)
  unfold lgPut
  rw [if_pos a1, if_pos b1]
  exact ⟨c1, c2⟩

/-- A disk that was started again holds what the log reads. -/
theorem LInv.restart {D : DkM} {L : LgM} {n : Nat} (keep : Nat) (want : List (List Ch)) (f : Nat) (hl : (dkRestart D keep).now.length = n) (hn : L.frm + L.many ≤ n) (hf : f ≤ L.many) (hr : lgRead L.first (txt (dkRestart D keep).now L.frm L.many) 0 [] [] 0 = (want, f)) : LInv (dkRestart D keep) { L with fin := f } want ∧ Calm n (dkRestart D keep) :=
  ⟨⟨rfl, rfl, rfl, by show L.frm + L.many ≤ _; omega, hf, hr⟩, ⟨rfl, rfl, hl⟩⟩
theorem LInv.same {D : DkM} {L : LgM} {want : List (List Ch)} (h : LInv D L want) (keep : Nat) : lgRead L.first (txt (dkRestart D keep).now L.frm L.many) 0 [] [] 0 = (want, L.fin) ∧ (dkRestart D keep).now.length = D.now.length := by
  have e : (dkRestart D keep).now = D.now := by show dkKeep keep 0 D.wr D.dur = _; rw [h.wr, h.dur]; rfl
  rw [e]; exact ⟨h.read, rfl⟩

/-- A row of entries of the call's own; what they point to lay there before. -/
structure WantAt (w0 w : World) (B : Nat) (v : Value) (L : List (List Ch)) : Prop where
  own : ∃ vs : List Value, vs.length = L.length ∧ w.ownsRow B 45 1 v L.length vs ∧ ∀ i, (h1 : i < L.length) → (h2 : i < vs.length) → ∃ Ai ci, vs[i] = .slice Ai L[i].length ci ∧ ChsAt w0 Ai L[i]
  empty : L = [] → v = .slice none 0 0
theorem WantAt.nil (w0 w : World) (B : Nat) : WantAt w0 w B (.slice none 0 0) [] := ⟨⟨[], rfl, World.ownsRow_nil _ _ _ _, fun i h => by simp at h⟩, fun _ => rfl⟩
theorem WantAt.keep {w0 w w' : World} {B : Nat} {v : Value} {L : List (List Ch)} (h : WantAt w0 w B v L) (hk : ∀ (k : Nat) (cs : Array Value), w.heap[k]? = some (.cells cs 45 (0, 0)) → w'.heap[k]? = some (.cells cs 45 (0, 0))) : WantAt w0 w' B v L := by
  obtain ⟨vs, h1, h2, h3⟩ := h.own
  refine ⟨⟨vs, h1, ⟨h2.1, ?_⟩, h3⟩, h.empty⟩
  rcases h2.2 with h4 | ⟨g, cap, cur, e, hB, hg, r⟩
  · exact .inl h4
  · exact .inr ⟨g, cap, cur, e, hB, hk g cur hg, r⟩
theorem WantAt.step {w0 w w' : World} {B B' : Nat} {ts : List TypeId} {v : Value} {L : List (List Ch)} (h : WantAt w0 w B v L) (hs : Step B' ts w w') (ht : 45 ∉ ts) : WantAt w0 w' B v L := h.keep fun _ _ e => hs.other _ _ _ _ e ht
theorem WantAt.below {w0 w w' : World} {B : Nat} {v : Value} {L : List (List Ch)} (h : WantAt w0 w B v L) (hb : Below w.heap.size w w') : WantAt w0 w' B v L := h.keep fun _ _ e => by rw [hb.block _ (Array.getElem?_eq_some_iff.1 e).1]; exact e
theorem WantAt.form {w0 w : World} {B : Nat} {v : Value} {L : List (List Ch)} (h : WantAt w0 w B v L) : ∃ A c, v = .slice A L.length c := by
  obtain ⟨vs, _, h2, _⟩ := h.own
  exact slice_form h2
theorem WantAt.deeds {w0 w : World} {B : Nat} {A : Option Addr} {n c : Nat} {L : List (List Ch)} (h : WantAt w0 w B (.slice A n c) L) (hb : Below w0.heap.size w0 w) : DeedsIn w A L := fun i hi => by
  obtain ⟨vs, h1, h2, h3⟩ := h.own
  obtain ⟨Ai, ci, e, hc⟩ := h3 i hi (by omega)
  rcases h2.2 with ⟨_, h0⟩ | ⟨g, cap, cur, e2, hB, hg, hnc, hcm, hcs, htk⟩
  · omega
  · simp only [Value.slice.injEq] at e2
    obtain ⟨rfl, _, _⟩ := e2
    refine ⟨g, 0, Ai, ci, rfl, (Array.getElem?_eq_some_iff.1 hg).1, ?_, hc.below hb⟩
    rw [cell_of_row _ _ _ _ _ _ hg]
    have : vs[i]? = some (.slice Ai L[i].length ci) := by rw [List.getElem?_eq_getElem (by omega), e]
    rw [← htk, List.getElem?_take] at this
    split at this
    · simpa using this
    · cases this
/-- One more entry. -/
theorem WantAt.snoc {w0 w' : World} {B : Nat} {v' : Value} {L : List (List Ch)} {l : List Ch} {Ai : Option Addr} {ci : Nat} {vs : List Value} (hvs : vs.length = L.length) (h3 : ∀ i, (h1 : i < L.length) → (h2 : i < vs.length) → ∃ Ai ci, vs[i] = .slice Ai L[i].length ci ∧ ChsAt w0 Ai L[i]) (hl : ChsAt w0 Ai l)
    (hO : w'.ownsRow B 45 1 v' (L.length + 1) (vs ++ [.slice Ai l.length ci])) : WantAt w0 w' B v' (L ++ [l]) := by
  refine ⟨⟨vs ++ [.slice Ai l.length ci], by simp [hvs], by simpa using hO, fun i h1 h2 => ?_⟩, fun h => by simp at h⟩
  by_cases hi : i < L.length
  · obtain ⟨A, c, e, hc⟩ := h3 i hi (by omega)
    refine ⟨A, c, ?_, ?_⟩
    · rw [List.getElem_append_left (by omega), List.getElem_append_left hi]; exact e
    · rw [List.getElem_append_left hi]; exact hc
  · have hie : i = L.length := by simp at h1; omega
    subst hie
    refine ⟨Ai, ci, ?_, ?_⟩
    · rw [List.getElem_append_right (by omega)]; simp [hvs]
    · simpa using hl

/-- Entries out of the log, as a call is handed them. -/
theorem deeds_in {w : World} {B : Nat} {A : Option Addr} {n c : Nat} {L : List (List Ch)} (h : DeedsAt w B (.slice A n c) L) (hz : ∀ l ∈ L, ∀ x ∈ l, x.key.size ≤ maxLen ∧ x.val.size ≤ maxLen) : DeedsIn w A L := fun i hi => by
  obtain ⟨vs, h1, h2, h3⟩ := h
  have hr := h3 i hi (by omega)
  obtain ⟨Ai, ci, e⟩ := slice_form (show w.ownsRow B 50 3 vs[i] L[i].length (chCells L[i]) from hr)
  rcases h2.2 with ⟨_, h0⟩ | ⟨g, cap, cur, e2, hB, hg, hnc, hcm, hcs, htk⟩
  · omega
  · simp only [Value.slice.injEq] at e2
    obtain ⟨rfl, _, _⟩ := e2
    refine ⟨g, 0, Ai, ci, rfl, (Array.getElem?_eq_some_iff.1 hg).1, ?_, ?_⟩
    · rw [cell_of_row _ _ _ _ _ _ hg]
      have : vs[i]? = some (.slice Ai L[i].length ci) := by rw [List.getElem?_eq_getElem (by omega), e]
      rw [← htk, List.getElem?_take] at this
      split at this
      · simpa using this
      · cases this
    · have hr' : w.ownsRow B 50 3 vs[i] L[i].length (chCells L[i]) := hr
      rw [e] at hr'
      exact chs_own hr' (fun x hx => hz _ (List.getElem_mem hi) x hx)
end Go.Proofs.Ytllaohobmkcmfaa
