/- Package log: put. -/
import Derived.Test.YthhedahfmllnoaaZqLg7
import Derived.ArgAppend
import Derived.Deep.DeepCutAuto
import Derived.Deep.CutBlock
namespace Go.Proofs.Ythhedahfmllnoaa
open Go.RowKit Go.PlainAid
attribute [local go_sem ↓] Go.wp_at_zero Go.wp_at_succ

/-- What happens to new blocks does not matter. -/
theorem Step.fresh {B : Nat} {ts : List TypeId} {w w1 w2 : World} (h : Step B ts w w1) (hb : Below w.heap.size w1 w2) (hB : B ≤ w.heap.size) : Step B ts w w2 :=
  ⟨h.below.trans (hb.mono hB), fun k cs t fr e ht => by
    rw [hb.block k (Array.getElem?_eq_some_iff.1 e).1]; exact h.other k cs t fr e ht, fun k o e hn => by
    rw [hb.block k (Array.getElem?_eq_some_iff.1 e).1]; exact h.rest k o e hn⟩

/-- A text laid behind others, wherever they lie: the row is another one, or the cell behind them is written. -/
theorem rest_room {w : World} {gs m : Nat} {cs : Array Value} {S : List ByteArray} (hm : S.length = m + 1) (hrow : w.heap[gs]? = some (.cells cs 9 (0, 0))) (hcs : ∀ (j : Nat) (u : Value), (txV S)[j]? = some u → cs[j]? = some u) (hlt : m + 1 < cs.size) :
    TxAt (w.setCells gs (1 + m * 1) [.string ⟨#[]⟩]) (some ⟨gs, 1, none⟩) (S.tail ++ [⟨#[]⟩]) ∧ (w.setCells gs (1 + m * 1) [.string ⟨#[]⟩]).heap[gs]? = some (.cells (cs.setIfInBounds (m + 1) (.string ⟨#[]⟩)) 9 (0, 0)) ∧ ∀ k, k ≠ gs → (w.setCells gs (1 + m * 1) [.string ⟨#[]⟩]).heap[k]? = w.heap[k]? := by
  have e : w.setCells gs (1 + m * 1) [.string ⟨#[]⟩] = w.setCell ⟨gs, m + 1, none⟩ (.string ⟨#[]⟩) := by
    rw [show 1 + m * 1 = m + 1 by omega]; rfl
  rw [e]
  have hr := heap_setCell_same w gs (m + 1) _ _ (.string ⟨#[]⟩) hrow
  refine ⟨fun i hi => ⟨gs, 1, _, rfl, hr, ?_⟩, hr, fun k hk => Below.heap_setCell _ _ _ _ hk⟩
  simp only [List.length_append, List.length_tail, List.length_singleton, hm] at hi
  by_cases h : i < m
  · rw [List.getElem_append_left (by simp [hm]; omega)]
    rw [Array.getElem?_setIfInBounds]
    rw [if_neg (by omega)]
    refine hcs (1 + i) _ ?_
    simp [txV, List.getElem_tail, Nat.add_comm 1 i]
  · have hie : i = m := by omega
    subst hie
    rw [Array.getElem?_setIfInBounds, if_pos (by omega), if_pos (by omega)]
    simp [hm]

/-- What put keeps to. -/
structure PutSt (B : Nat) (W w : World) (gl g gs : Nat) (L : LgM) (D : DkM) (s0 : ByteArray) : Prop where
  log : LgAt B w gl g L
  disk : DkAt B w g D
  row : ∃ cs, w.heap[gs]? = some (.cells cs 9 (0, 0)) ∧ cs[0]? = some (.string s0)
  step : Step B dkTypes W w
theorem PutSt.below {B : Nat} {W w w' : World} {gl g gs : Nat} {L : LgM} {D : DkM} {s0 : ByteArray} (h : PutSt B W w gl g gs L D s0) (hb : Below w.heap.size w w') : PutSt B W w' gl g gs L D s0 := by
  obtain ⟨cs, hr, h0⟩ := h.row
  have hs : Step w.heap.size [] w w' := Step.of_below hb (Nat.le_refl _)
  obtain ⟨_, _, _, _, hi⟩ := h.disk
  exact ⟨h.log.step hs (by simp), h.disk.below hb, ⟨cs, hs.other _ _ _ _ hr (by simp), h0⟩, h.step.trans ⟨hb.mono (Nat.le_trans hi.base (Nat.le_of_lt (Array.getElem?_eq_some_iff.1 hi.row).1)), fun k cs t fr e _ => hs.other _ _ _ _ e (by simp), fun k o e hn => hs.rest k o e hn⟩⟩
theorem PutSt.write {B : Nat} {W w w' : World} {gl g gs : Nat} {L : LgM} {D D' : DkM} {s0 : ByteArray} (h : PutSt B W w gl g gs L D s0) (hD : DkAt B w' g D') (hs : Step B dkTypes w w') : PutSt B W w' gl g gs L D' s0 := by
  obtain ⟨cs, hr, h0⟩ := h.row
  exact ⟨h.log.step hs not_mem_lg.1, hD, ⟨cs, hs.other _ _ _ _ hr not_mem_lg.2, h0⟩, h.step.trans hs⟩

/-- A text is laid behind the sectors, in their row. -/
theorem PutSt.room {B : Nat} {W w w' : World} {gl g gs j : Nat} {L : LgM} {D : DkM} {s0 : ByteArray} {cs : Array Value} {v : Value} (h : PutSt B W w gl g gs L D s0) (hB : B ≤ W.heap.size) (hgs : W.heap.size ≤ gs) (hrow : w.heap[gs]? = some (.cells cs 9 (0, 0)))
    (hr : w'.heap[gs]? = some (.cells (cs.setIfInBounds (j + 1) v) 9 (0, 0))) (ho : ∀ k, k ≠ gs → w'.heap[k]? = w.heap[k]?) (hos : w'.os = w.os) (htp : w'.tape = w.tape) (hout : w'.output = w.output) (hsz : w'.heap.size = w.heap.size) : PutSt B W w' gl g gs L D s0 := by
  have hb : Below W.heap.size w w' := ⟨hos, htp, hout, by omega, fun k hk => ho k (by omega)⟩
  have hs : Step B [9] w w' := ⟨hb.mono hB, fun k cs' t fr e ht => by
    rw [ho k (by rintro rfl; rw [hrow] at e; injection e with e; injection e with _ e _; exact ht (by simp [e]))]; exact e, fun k o e hn => by
    rw [ho k (by rintro rfl; rw [hrow] at e; injection e with e; exact hn _ _ _ e.symm)]; exact e⟩
  obtain ⟨cs0, hr0, h0⟩ := h.row
  rw [hrow] at hr0
  injection hr0 with hr0
  injection hr0 with hr0 _ _
  subst hr0
  refine ⟨h.log.step hs (by decide), h.disk.step hs (by decide) (by decide) (by decide), ⟨_, hr, ?_⟩, h.step.fresh hb hB⟩
  rw [Array.getElem?_setIfInBounds, if_neg (by omega)]
  exact h0

theorem tx_own {w : World} {N m c : Nat} {A : Option Addr} {l : List ByteArray} (h : w.ownsRow N 9 1 (.slice A m c) m (txV l)) (hl : l.length = m) : TxAt w A l := fun i hi => by
  rcases h.2 with ⟨_, h0⟩ | ⟨g', cap, cur, hv, _, hh, _, _, hsz, htk⟩
  · omega
  · injection hv with hv _ _
    refine ⟨g', 0, cur, hv, hh, ?_⟩
    have : (txV l)[i]? = some (.string l[i]) := by simp [txV, hi]
    rw [← htk, List.getElem?_take] at this
    split at this
    · simpa using this
    · cases this

def blankT : ByteArray := ⟨#[]⟩
/-- The sectors behind the first, and a blank one, as far as there is room. -/
def restOf (S : List ByteArray) (room : Nat) : List ByteArray := (S.tail ++ [blankT]).take (room - 1)
/-- An entry's sectors put on the disk. -/
def lgPut (S : List ByteArray) (L : LgM) (D : DkM) : DkM × Int :=
  if (lgWrite [blankT] (L.frm + L.fin) D).2 = 0 then
    if (lgWrite (restOf S (L.many - L.fin)) (L.frm + (L.fin + 1)) (lgWrite [blankT] (L.frm + L.fin) D).1).2 = 0 then
      lgWrite [S.headD blankT] (L.frm + L.fin) (lgWrite (restOf S (L.many - L.fin)) (L.frm + (L.fin + 1)) (lgWrite [blankT] (L.frm + L.fin) D).1).1
    else lgWrite (restOf S (L.many - L.fin)) (L.frm + (L.fin + 1)) (lgWrite [blankT] (L.frm + L.fin) D).1
  else lgWrite [blankT] (L.frm + L.fin) D

theorem tx_oneL {w : World} (s : ByteArray) : TxAt (w.alloc (.cells #[.string s] 9)) (some ⟨w.heap.size, 0, none⟩) [s] := fun i hi => by
  have : i = 0 := by simpa using hi
  subst this
  exact ⟨w.heap.size, 0, _, rfl, heap_alloc_new _ _, rfl⟩

theorem lgWrite_wr : ∀ (l : List ByteArray) (k : Nat) (D : DkM), (lgWrite l k D).1.wr.length ≤ D.wr.length + l.length
  | [], k, D => by
    simp only [lgWrite]
    unfold dkFlush
    split
    · simp [dkSaved]
    · rw [dkStep_wr]; simp
  | x :: r, k, D => by
    simp only [lgWrite]
    have h1 := dkWrite_le D k x
    split
    · have := lgWrite_wr r (k + 1) (dkWrite D k x)
      simp only [List.length_cons]
      omega
    · simp only [List.length_cons]; omega
end Go.Proofs.Ythhedahfmllnoaa
