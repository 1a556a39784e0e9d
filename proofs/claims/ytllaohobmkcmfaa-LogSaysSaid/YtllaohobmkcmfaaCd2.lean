/- The document's log: ClosedDeeds, what it keeps to. -/
import Derived.Test.YtllaohobmkcmfaaCd1
import Derived.Test.YtllaohobmkcmfaaRr2
namespace Go.Proofs.Ytllaohobmkcmfaa
open Go.RowKit Go.PlainAid
attribute [local go_sem ↓] Go.wp_at_zero Go.wp_at_succ

structure CdSt (w w' : World) (v4 v5 : Value) (vs : List Value) (cs : List Ch) (es : List (List Ch)) : Prop where
  chg : ChRow w' w.heap.size v5 cs
  ent : w'.ownsRow w.heap.size 45 1 v4 es.length vs
  len : vs.length = es.length
  each : ∀ i, (hi : i < es.length) → (hv : i < vs.length) → ChRow w' w.heap.size vs[i] es[i] ∧ (vs[i].ownBlock = none ∨ vs[i].ownBlock ≠ v5.ownBlock)
  kept : Below w.heap.size w w'
  empty : es = [] → v4 = .slice none 0 0
theorem CdSt.zero (w : World) : CdSt w w (.slice none 0 0) (.slice none 0 0) [] [] [] :=
  ⟨World.ownsRow_nil _ _ _ _, World.ownsRow_nil _ _ _ _, rfl, fun i hi => by simp at hi, Below.refl _ _, fun _ => rfl⟩
theorem CdSt.below {w w1 w2 : World} {v4 v5 : Value} {vs : List Value} {cs : List Ch} {es : List (List Ch)} (h : CdSt w w1 v4 v5 vs cs es) (hb : Below w1.heap.size w1 w2) : CdSt w w2 v4 v5 vs cs es := by
  have hs : Step w1.heap.size [] w1 w2 := ⟨hb, fun k cs t fr e _ => by rw [hb.block k (Array.getElem?_eq_some_iff.1 e).1]; exact e⟩
  exact ⟨own_step h.chg hs (by simp), own_step h.ent hs (by simp), h.len, fun i hi hv => ⟨own_step (h.each i hi hv).1 hs (by simp), (h.each i hi hv).2⟩, belowThen h.kept hb, h.empty⟩
theorem CdSt.add {w w1 w4 : World} {gg cap : Nat} {v4 v5 : Value} {vs : List Value} {cs : List Ch} {es : List (List Ch)} {c : Ch} {o : Obj} (h : CdSt w w1 v4 v5 vs cs es)
    (hg : World.grownBy (w1.alloc o) w4 v5.ownBlock) (hO : w4.ownsRow w.heap.size 50 3 (.slice (some ⟨gg, 0, none⟩) (cs.length + 1) cap) (cs.length + 1) (chCells cs ++ [.string c.key, .string c.val, .bool c.gone])) (hat : v5.ownBlock = some gg ∨ gg = w1.heap.size + 1) :
    CdSt w w4 v4 (.slice (some ⟨gg, 0, none⟩) (cs.length + 1) cap) vs (cs ++ [c]) es := by
  refine ⟨?_, own_far2 h.ent hg (own_ne_row h.ent h.chg (by decide)), h.len, fun i hi hv => ⟨own_far2 (h.each i hi hv).1 hg (h.each i hi hv).2, ?_⟩, Below.grown (h.kept.alloc h.kept.size o) hg (by have := h.kept.size; simp; omega) (fun q hq => (own_lt h.chg hq).2), h.empty⟩
  · show w4.ownsRow _ _ _ _ _ _
    rw [chCells_snoc, List.length_append, List.length_singleton]
    exact hO
  · cases hq : vs[i].ownBlock with
    | none => exact .inl rfl
    | some q =>
      right
      simp only [Value.ownBlock, ne_eq, Option.some.injEq]
      have hlt := (own_lt (h.each i hi hv).1 hq).1
      rcases hat with h' | h'
      · rcases (h.each i hi hv).2 with h2 | h2
        · rw [hq] at h2; cases h2
        · rw [hq, h'] at h2; simpa using h2
      · omega
theorem CdSt.close {w w1 w4 : World} {gg cap : Nat} {v4 v5 : Value} {vs : List Value} {cs : List Ch} {es : List (List Ch)} {o : Obj} (h : CdSt w w1 v4 v5 vs cs es)
    (hg : World.grownBy (w1.alloc o) w4 v4.ownBlock) (hO : w4.ownsRow w.heap.size 45 1 (.slice (some ⟨gg, 0, none⟩) (es.length + 1) cap) (es.length + 1) (vs ++ [v5])) :
    CdSt w w4 (.slice (some ⟨gg, 0, none⟩) (es.length + 1) cap) (.slice none 0 0) (vs ++ [v5]) [] (es ++ [cs]) := by
  refine ⟨World.ownsRow_nil _ _ _ _, ?_, by simp [h.len], fun i hi hv => ⟨?_, ?_⟩, Below.grown (h.kept.alloc h.kept.size o) hg (by have := h.kept.size; simp; omega) (fun q hq => (own_lt h.ent hq).2), fun h => by simp at h⟩
  · rw [List.length_append, List.length_singleton]
    exact hO
  · by_cases hi' : i < es.length
    · rw [List.getElem_append_left (by rw [h.len]; exact hi'), List.getElem_append_left hi']
      exact own_far2 (h.each i hi' (by rw [h.len]; exact hi')).1 hg (own_ne_row (h.each i hi' (by rw [h.len]; exact hi')).1 h.ent (by decide))
    · have hie : i = es.length := by simp at hi; omega
      subst hie
      have e1 : (vs ++ [v5])[es.length] = v5 := by rw [List.getElem_append_right (by rw [h.len]; exact Nat.le_refl _)]; simp [h.len]
      have e2 : (es ++ [cs])[es.length] = cs := by simp
      rw [e1, e2]
      exact own_far2 h.chg hg (own_ne_row h.chg h.ent (by decide))
  · cases hq : ((vs ++ [v5])[i]).ownBlock with
    | none => exact .inl rfl
    | some q => exact .inr (by simp [Value.ownBlock])

/-- A step of lgRead in the document's words. -/
theorem lgRead_stop {first k : Nat} {s : ByteArray} {r : List ByteArray} {cs : List Ch} {es : List (List Ch)} {e : Nat} (h : ctOk (first + k) s = false) : lgRead first (s :: r) k cs es e = (es, e) := by
  rw [lgRead, if_neg (by unfold ctKind; rw [h]; simp), if_neg (by unfold ctKind; rw [h]; simp)]
theorem lgRead_close {first k : Nat} {s : ByteArray} {r : List ByteArray} {cs : List Ch} {es : List (List Ch)} {e : Nat} (h : ctOk (first + k) s = true) (h0 : bt s 0 = 99) (hb : (ctText s).toList = lit cs.length 4) : lgRead first (s :: r) k cs es e = lgRead first r (k + 1) [] (es ++ [cs]) (k + 1) := by
  have e1 : ctKind (first + k) s = 99 := by unfold ctKind; rw [if_pos h, h0]
  have e2 : ctBody (first + k) s = ctText s := by unfold ctBody; rw [if_pos h]
  rw [lgRead, e1, e2, if_neg (by simp), if_pos ⟨rfl, hb⟩]
theorem lgRead_odd {first k : Nat} {s : ByteArray} {r : List ByteArray} {cs : List Ch} {es : List (List Ch)} {e : Nat} (h : ctOk (first + k) s = true) (h0 : ¬ bt s 0 = 111) (hb : ¬ (bt s 0 = 99 ∧ (ctText s).toList = lit cs.length 4)) : lgRead first (s :: r) k cs es e = (es, e) := by
  have e1 : ctKind (first + k) s = bt s 0 := by unfold ctKind; rw [if_pos h]
  have e2 : ctBody (first + k) s = ctText s := by unfold ctBody; rw [if_pos h]
  rw [lgRead, e1, e2, if_neg (by simp [h0]), if_neg hb]
theorem lgRead_bad {first k : Nat} {s : ByteArray} {r : List ByteArray} {cs : List Ch} {es : List (List Ch)} {e : Nat} (h : ctOk (first + k) s = true) (h0 : bt s 0 = 111) (hb : ¬ parseE (ctText s) = 0) : lgRead first (s :: r) k cs es e = (es, e) := by
  have e1 : ctKind (first + k) s = 111 := by unfold ctKind; rw [if_pos h, h0]
  have e2 : ctBody (first + k) s = ctText s := by unfold ctBody; rw [if_pos h]
  rw [lgRead, e1, e2, if_neg (by simp [hb]), if_neg (by simp)]
theorem lgRead_more {first k : Nat} {s : ByteArray} {r : List ByteArray} {cs : List Ch} {es : List (List Ch)} {e : Nat} (h : ctOk (first + k) s = true) (h0 : bt s 0 = 111) (hb : parseE (ctText s) = 0) : lgRead first (s :: r) k cs es e = lgRead first r (k + 1) (cs ++ [parseC (ctText s)]) es e := by
  have e1 : ctKind (first + k) s = 111 := by unfold ctKind; rw [if_pos h, h0]
  have e2 : ctBody (first + k) s = ctText s := by unfold ctBody; rw [if_pos h]
  rw [lgRead, e1, e2, if_pos ⟨rfl, hb⟩]
end Go.Proofs.Ytllaohobmkcmfaa
