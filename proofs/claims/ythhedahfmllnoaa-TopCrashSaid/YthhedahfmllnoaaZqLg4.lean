/- Package log: read. -/
import Derived.Test.YthhedahfmllnoaaZqLg3
import Derived.Test.YthhedahfmllnoaaZqCmp
import Derived.Test.YthhedahfmllnoaaZqRow2
import Derived.Deep.DeepCutAuto
import Derived.Deep.CutBlock
import Derived.Deep.AppendLies
namespace Go.Proofs.Ythhedahfmllnoaa
open Go.RowKit Go.PlainAid
attribute [local go_sem ↓] Go.wp_at_zero Go.wp_at_succ

/-- Entries: an own row of slices, each an own row of changes. -/
def DeedsAt (w : World) (B : Nat) (v : Value) (L : List (List Ch)) : Prop := ∃ vs : List Value, vs.length = L.length ∧ w.ownsRow B 36 1 v L.length vs ∧ ∀ i, (hi : i < L.length) → (hv : i < vs.length) → ChRow w B vs[i] L[i]

/-- What a log's sectors say: the entries, and where the last one ends. -/
def lgRead (first : Nat) : List ByteArray → Nat → List Ch → List (List Ch) → Nat → List (List Ch) × Nat
  | [], _, _, es, e => (es, e)
  | s :: r, k, cs, es, e =>
    if ctKind (first + k) s = 111 ∧ parseE (ctBody (first + k) s) = 0 then lgRead first r (k + 1) (cs ++ [parseC (ctBody (first + k) s)]) es e
    else if ctKind (first + k) s = 99 ∧ (ctBody (first + k) s).toList = lit cs.length 4 then lgRead first r (k + 1) [] (es ++ [cs]) (k + 1)
    else (es, e)

/-- All old blocks but one are as they were. -/
structure Kept1 (gl : Nat) (w w' : World) : Prop where
  os : w'.os = w.os
  tape : w'.tape = w.tape
  output : w'.output = w.output
  size : w.heap.size ≤ w'.heap.size
  block : ∀ k, k < w.heap.size → k ≠ gl → w'.heap[k]? = w.heap[k]?
theorem Kept1.refl (gl : Nat) (w : World) : Kept1 gl w w := ⟨rfl, rfl, rfl, Nat.le_refl _, fun _ _ _ => rfl⟩
theorem Kept1.below {gl : Nat} {w w1 w2 : World} (h : Kept1 gl w w1) {B : Nat} (hb : Below B w1 w2) (hB : w.heap.size ≤ B) : Kept1 gl w w2 :=
  ⟨hb.os.trans h.os, hb.tape.trans h.tape, hb.output.trans h.output, Nat.le_trans h.size hb.size, fun k hk hne => (hb.block k (by omega)).trans (h.block k hk hne)⟩
theorem Kept1.step {gl B : Nat} {w w' : World} {t : TypeId} {cs : Array Value} {fr : Nat × Nat} (h : Kept1 gl w w') (hB : B ≤ gl) (hBw : B ≤ w.heap.size) (hg : w.heap[gl]? = some (.cells cs t fr)) : Step B [t] w w' :=
  ⟨⟨h.os, h.tape, h.output, h.size, fun k hk => h.block k (by omega) (by omega)⟩, fun k cs' t' fr' e ht => by
    have hlt := (Array.getElem?_eq_some_iff.1 e).1
    rw [h.block k hlt (by rintro rfl; rw [hg] at e; injection e with e; injection e with _ e _; exact ht (by simp [e]))]; exact e, fun k o e hn => by
    rw [h.block k (Array.getElem?_eq_some_iff.1 e).1 (by rintro rfl; rw [hg] at e; injection e with e; exact hn _ _ _ e.symm)]; exact e⟩

/-- What read keeps to while it reads. -/
structure RdSt (B : Nat) (w w' : World) (gl g : Nat) (L : LgM) (v4 v5 : Value) (vs : List Value) (cs : List Ch) (es : List (List Ch)) (e : Nat) : Prop where
  chg : ChRow w' w.heap.size v5 cs
  ent : w'.ownsRow w.heap.size 36 1 v4 es.length vs
  len : vs.length = es.length
  each : ∀ i, (hi : i < es.length) → (hv : i < vs.length) → ChRow w' w.heap.size vs[i] es[i] ∧ (vs[i].ownBlock = none ∨ vs[i].ownBlock ≠ v5.ownBlock)
  log : LgAt B w' gl g { L with fin := e }
  old : gl < w.heap.size
  kept : Kept1 gl w w'

theorem RdSt.below {B : Nat} {w w1 w2 : World} {gl g : Nat} {L : LgM} {v4 v5 : Value} {vs : List Value} {cs : List Ch} {es : List (List Ch)} {e : Nat} (h : RdSt B w w1 gl g L v4 v5 vs cs es e) (hb : Below w1.heap.size w1 w2) : RdSt B w w2 gl g L v4 v5 vs cs es e := by
  have hs : Step w1.heap.size [] w1 w2 := Step.of_below hb (Nat.le_refl _)
  exact ⟨own_step h.chg hs (by simp), own_step h.ent hs (by simp), h.len, fun i hi hv => ⟨own_step (h.each i hi hv).1 hs (by simp), (h.each i hi hv).2⟩, h.log.step hs (by simp), h.old, h.kept.below hb h.kept.size⟩

theorem own_far2 {w w' : World} {B : Nat} {e : TypeId} {size n : Nat} {v : Value} {xs : List Value} {row : Option Nat} {o : Obj} (h : w.ownsRow B e size v n xs) (hg : World.grownBy (w.alloc o) w' row) (hne : v.ownBlock = none ∨ v.ownBlock ≠ row) : w'.ownsRow B e size v n xs := by
  obtain ⟨h1, h2⟩ := h
  refine ⟨h1, ?_⟩
  rcases h2 with h2 | ⟨g, cap, cur, hv, hb, hh, r⟩
  · exact .inl h2
  · have hlt := (Array.getElem?_eq_some_iff.1 hh).1
    refine .inr ⟨g, cap, cur, hv, hb, ?_, r⟩
    rw [hg.block g (by simp; omega) (by rcases hne with h | h <;> rw [hv] at h <;> simp [Value.ownBlock] at h; exact h), heap_alloc_old _ _ hlt]
    exact hh

theorem own_ne_row {w : World} {B B' : Nat} {e e' : TypeId} {size size' n n' : Nat} {v v' : Value} {xs xs' : List Value} (h : w.ownsRow B e size v n xs) (h' : w.ownsRow B' e' size' v' n' xs') (hne : e ≠ e') : v.ownBlock = none ∨ v.ownBlock ≠ v'.ownBlock := by
  rcases h.2 with ⟨rfl, _⟩ | ⟨g, _, _, rfl, _, hh, _⟩
  · exact .inl rfl
  · right
    rcases h'.2 with ⟨rfl, _⟩ | ⟨g', _, _, rfl, _, hh', _⟩
    · simp [Value.ownBlock]
    · simp only [Value.ownBlock, ne_eq, Option.some.injEq]
      exact types_ne hh hh' hne

theorem own_lt {w : World} {B : Nat} {e : TypeId} {size n : Nat} {v : Value} {xs : List Value} (h : w.ownsRow B e size v n xs) {q : Nat} (hq : v.ownBlock = some q) : q < w.heap.size ∧ B ≤ q := by
  rcases h.2 with ⟨rfl, _⟩ | ⟨g', c', cur, rfl, hb, hh, _⟩
  · simp [Value.ownBlock] at hq
  · simp only [Value.ownBlock, Option.some.injEq] at hq
    subst hq
    exact ⟨(Array.getElem?_eq_some_iff.1 hh).1, hb⟩

theorem kept_grown {gl : Nat} {w w1 w4 : World} {e : TypeId} {size n : Nat} {v : Value} {xs : List Value} {o : Obj} (h : Kept1 gl w w1) (hO : w1.ownsRow w.heap.size e size v n xs) (hg : World.grownBy (w1.alloc o) w4 v.ownBlock) : Kept1 gl w w4 ∧ ∀ k, k < w.heap.size → w4.heap[k]? = w1.heap[k]? := by
  have hk : ∀ k, k < w.heap.size → w4.heap[k]? = w1.heap[k]? := fun k hk => by
    have h1 := h.size
    rw [hg.block k (by simp; omega) (fun h' => by have := (own_lt hO h'.symm).2; omega), heap_alloc_old _ _ (by omega)]
  have hsz := hg.size
  simp at hsz
  have h1 := h.size
  exact ⟨⟨hg.os.trans h.os, hg.tape.trans h.tape, hg.output.trans h.output, by omega, fun k hk' hne => (hk k hk').trans (h.block k hk' hne)⟩, hk⟩

/-- One more change. -/
theorem RdSt.add {B : Nat} {w w1 w4 : World} {gl g gg cap : Nat} {L : LgM} {v4 v5 : Value} {vs : List Value} {cs : List Ch} {es : List (List Ch)} {e : Nat} {c : Ch} {o : Obj} (h : RdSt B w w1 gl g L v4 v5 vs cs es e)
    (hg : World.grownBy (w1.alloc o) w4 v5.ownBlock) (hO : w4.ownsRow w.heap.size 60 3 (.slice (some ⟨gg, 0, none⟩) (cs.length + 1) cap) (cs.length + 1) (chCells cs ++ [.string c.key, .string c.val, .bool c.gone])) (hat : v5.ownBlock = some gg ∨ gg = w1.heap.size + 1) :
    RdSt B w w4 gl g L v4 (.slice (some ⟨gg, 0, none⟩) (cs.length + 1) cap) vs (cs ++ [c]) es e := by
  obtain ⟨hk, hold⟩ := kept_grown h.kept h.chg hg
  refine ⟨?_, own_far2 h.ent hg (own_ne_row h.ent h.chg (by decide)), h.len, fun i hi hv => ⟨own_far2 (h.each i hi hv).1 hg (h.each i hi hv).2, ?_⟩, ⟨h.log.1, (hold gl h.old).trans h.log.2⟩, h.old, hk⟩
  · show w4.ownsRow _ _ _ _ _ _
    rw [chCells_snoc, List.length_append, List.length_singleton]
    exact hO
  · cases hq : vs[i].ownBlock with
    | none => exact .inl rfl
    | some q =>
      right
      simp only [Value.ownBlock, ne_eq, Option.some.injEq]
      have hlt := (own_lt (h.each i hi hv).1 hq).1
      rcases hat with h' | h'
      · rcases (h.each i hi hv).2 with h2 | h2
        · rw [hq] at h2; cases h2
        · rw [hq, h'] at h2; simpa using h2
      · omega

/-- An entry is closed: it goes to the others, and the log ends behind it. -/
theorem RdSt.close {B : Nat} {w w1 w4 : World} {gl g gg cap : Nat} {L : LgM} {v4 v5 : Value} {vs : List Value} {cs : List Ch} {es : List (List Ch)} {e e' : Nat} {o : Obj} (h : RdSt B w w1 gl g L v4 v5 vs cs es e)
    (hg : World.grownBy (w1.alloc o) w4 v4.ownBlock) (hO : w4.ownsRow w.heap.size 36 1 (.slice (some ⟨gg, 0, none⟩) (es.length + 1) cap) (es.length + 1) (vs ++ [v5])) :
    w4.cell? ⟨gl, 4, none⟩ = some (.int .i64 (e : Int)) ∧ w4.frozen? ⟨gl, 4, none⟩ = false ∧
    RdSt B w (w4.setCell ⟨gl, 4, none⟩ (.int .i64 (e' : Int))) gl g L (.slice (some ⟨gg, 0, none⟩) (es.length + 1) cap) (.slice none 0 0) (vs ++ [v5]) [] (es ++ [cs]) e' := by
  obtain ⟨hk, hold⟩ := kept_grown h.kept h.ent hg
  have hr4 := (hold gl h.old).trans h.log.2
  have hr5 := heap_setCell_same w4 gl 4 _ _ (.int .i64 (e' : Int)) hr4
  have hs45 : Step B [114] w4 (w4.setCell ⟨gl, 4, none⟩ (.int .i64 (e' : Int))) := (Step.refl B [114] w4).set hr4 h.log.1 (by simp) _
  refine ⟨cell_of_row _ _ _ _ _ _ hr4, frozen_of_row _ _ _ _ _ hr4, World.ownsRow_nil _ _ _ _, ?_, by simp [h.len], fun i hi hv => ⟨?_, ?_⟩, ⟨h.log.1, hr5⟩, h.old, ?_⟩
  · rw [List.length_append, List.length_singleton]
    exact own_step hO hs45 (by decide)
  · by_cases hi' : i < es.length
    · rw [List.getElem_append_left (by rw [h.len]; exact hi'), List.getElem_append_left hi']
      exact own_step (own_far2 (h.each i hi' (by rw [h.len]; exact hi')).1 hg (own_ne_row (h.each i hi' (by rw [h.len]; exact hi')).1 h.ent (by decide))) hs45 (by decide)
    · have hie : i = es.length := by simp at hi; omega
      subst hie
      have e1 : (vs ++ [v5])[es.length] = v5 := by rw [List.getElem_append_right (by rw [h.len]; exact Nat.le_refl _)]; simp [h.len]
      have e2 : (es ++ [cs])[es.length] = cs := by simp
      rw [e1, e2]
      exact own_step (own_far2 h.chg hg (own_ne_row h.chg h.ent (by decide))) hs45 (by decide)
  · cases hq : ((vs ++ [v5])[i]).ownBlock with
    | none => exact .inl rfl
    | some q => exact .inr (by simp [Value.ownBlock])
  · refine ⟨hk.os, hk.tape, hk.output, by simpa using hk.size, fun k hk' hne => ?_⟩
    rw [Below.heap_setCell _ _ _ _ hne]
    exact hk.block k hk' hne
end Go.Proofs.Ythhedahfmllnoaa
