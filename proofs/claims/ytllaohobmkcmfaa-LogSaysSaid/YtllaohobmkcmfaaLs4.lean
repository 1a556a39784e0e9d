/- LogSays: what its rounds keep to. -/
import Derived.Test.YtllaohobmkcmfaaLs3
import Derived.Test.YtllaohobmkcmfaaActs
import Derived.Test.YtllaohobmkcmfaaOpenC
namespace Go.Proofs.Ytllaohobmkcmfaa
open Go.RowKit Go.PlainAid Go.ChangeAt Go.Deep Go.ChangeShapes Go.WideShapes

theorem LgAt.below {B : Nat} {w w' : World} {gl g : Nat} {L : LgM} (h : LgAt B w gl g L) (hb : Below w.heap.size w w') : LgAt B w' gl g L := h.step (B' := w.heap.size) (ts := []) ⟨hb, fun k cs t fr e _ => by rw [hb.block k (Array.getElem?_eq_some_iff.1 e).1]; exact e⟩ (by simp)

/-- An act's changes as a list. -/
theorem chs_of_changes {w : World} {N : Nat} {A : Option Addr} {n : Nat} (h : ChangesAt w N A n) (hN : N ≤ w.heap.size) : ∃ l : List Ch, l.length = n ∧ ChsAt w A l := by
  have each : ∀ i, i < n → ∃ c : Ch, ∃ b off, A = some ⟨b, off, none⟩ ∧ b < w.heap.size ∧ w.cell? ⟨b, off + i * 3, none⟩ = some (.string c.key) ∧ w.cell? ⟨b, off + i * 3 + 1, none⟩ = some (.string c.val) ∧ w.cell? ⟨b, off + i * 3 + 2, none⟩ = some (.bool c.gone) ∧ c.key.size ≤ maxLen ∧ c.val.size ≤ maxLen := fun i hi => by
    obtain ⟨b, off, s, t, e, hb, h1, h2, h3, h4, q, h5⟩ := h.2 i hi
    exact ⟨⟨s, t, q⟩, b, off, e, by omega, h1, h2, h5, h3, h4⟩
  obtain ⟨q, hq⟩ := choose_lt each
  refine ⟨(List.range n).map q, by simp, fun i hi => ?_⟩
  have hi' : i < n := by simpa using hi
  obtain ⟨b, off, e, hb, h1, h2, h3, h4, h5⟩ := hq i hi'
  have : ((List.range n).map q)[i] = q i := by simp
  rw [this]
  exact ⟨b, off, e, hb, h1, h2, h3, h4, h5⟩

structure LsSt (w wr : World) (g N fr mn fs gl f : Nat) (D : DkM) (want : List (List Ch)) (Ag : Option Addr) (vsg : List Value) (Aw : Option Addr) (vsw : List Value) : Prop where
  disk : DkAt w.heap.size wr g D
  calm : Calm N D
  few : D.wr.length ≤ 40
  log : LgAt w.heap.size wr gl g ⟨fr, mn, fs, f⟩
  inv : LInv (dkSaved D) ⟨fr, mn, fs, f⟩ want
  got : DeedsF w.heap.size wr Ag want vsg
  wan : DeedsF w.heap.size wr Aw want vsw
  kept : Below w.heap.size w wr
theorem LsSt.below {w wr w' : World} {g N fr mn fs gl f : Nat} {D : DkM} {want : List (List Ch)} {Ag : Option Addr} {vsg : List Value} {Aw : Option Addr} {vsw : List Value} (h : LsSt w wr g N fr mn fs gl f D want Ag vsg Aw vsw) (hb : Below wr.heap.size wr w') : LsSt w w' g N fr mn fs gl f D want Ag vsg Aw vsw := by
  have hs : Step w.heap.size lgTypes wr w' := Step.of_below hb h.kept.size
  exact ⟨h.disk.below hb, h.calm, h.few, h.log.below hb, h.inv, h.got.step hs, h.wan.step hs, belowThen h.kept hb⟩
theorem LsSt.same {w wr : World} {g N fr mn fs gl f : Nat} {D : DkM} {want : List (List Ch)} {Ag : Option Addr} {vsg : List Value} {Aw : Option Addr} {vsw : List Value} (h : LsSt w wr g N fr mn fs gl f D want Ag vsg Aw vsw) (cg cw : Nat) (h1 : want.length ≤ 100000) (h2 : ∀ x ∈ want, x.length ≤ 100000) : Calls Try.prog 14 #[.slice Ag want.length cg, .slice Aw want.length cw] wr fun e w' => e = .returned (.bool true) ∧ Below wr.heap.size wr w' := by
  have := sameDeeds_any wr Ag Aw cg cw want want h.got.now h.wan.now h1 h2
  rw [decide_eq_true rfl] at this
  exact this
theorem LsSt.sizes {w wr : World} {g N fr mn fs gl f : Nat} {D : DkM} {want : List (List Ch)} {Ag : Option Addr} {vsg : List Value} {Aw : Option Addr} {vsw : List Value} (h : LsSt w wr g N fr mn fs gl f D want Ag vsg Aw vsw) : ∀ l ∈ want, ∀ x ∈ l, x.key.size ≤ maxLen ∧ x.val.size ≤ maxLen := fun l hl x hx => by
  obtain ⟨i, hi, rfl⟩ := List.getElem_of_mem hl
  obtain ⟨_, _, _, _, _, _, _, hc⟩ := h.got.now i hi
  exact hc.sizes x hx
theorem LsSt.opened {w wr w' : World} {g N fr mn fs gl f : Nat} {D : DkM} {want : List (List Ch)} {Ag : Option Addr} {vsg : List Value} {Aw : Option Addr} {vsw : List Value} (h : LsSt w wr g N fr mn fs gl f D want Ag vsg Aw vsw) {B1 gl' n c : Nat} {A' : Option Addr} (hE : DeedsAt w' B1 (.slice A' n c) want) (hL : LgAt w.heap.size w' gl' g ⟨fr, mn, fs, f⟩) (hb : Below wr.heap.size wr w') : ∃ vs', LsSt w w' g N fr mn fs gl' f D want A' vs' Aw vsw := by
  have h2 := h.below hb
  obtain ⟨vs', hF⟩ := DeedsF.of (B := w.heap.size) hE h.sizes
  exact ⟨vs', h2.disk, h2.calm, h2.few, hL, h2.inv, hF, h2.wan, h2.kept⟩
/-- Behind Add. -/
theorem LsSt.put {w wr w' : World} {g N fr mn fs gl f f' : Nat} {D D' : DkM} {want want' : List (List Ch)} {Ag A2 : Option Addr} {vsg vs2 : List Value} {Aw : Option Addr} {vsw : List Value} (h : LsSt w wr g N fr mn fs gl f D want Ag vsg Aw vsw) (hs : Step w.heap.size lgTypes wr w') (hD : DkAt w.heap.size w' g D') (hC : Calm N D') (hw : D'.wr.length ≤ 40) (hL : LgAt w.heap.size w' gl g ⟨fr, mn, fs, f'⟩) (hI : LInv (dkSaved D') ⟨fr, mn, fs, f'⟩ want') (h2 : DeedsF w.heap.size w' A2 want' vs2) : LsSt w w' g N fr mn fs gl f' D' want' A2 vs2 A2 vs2 :=
  ⟨hD, hC, hw, hL, hI, h2, h2, h.kept.trans hs.below⟩
theorem LsSt.stay {w wr w' : World} {g N fr mn fs gl f : Nat} {D : DkM} {want : List (List Ch)} {Ag : Option Addr} {vsg : List Value} {Aw : Option Addr} {vsw : List Value} (h : LsSt w wr g N fr mn fs gl f D want Ag vsg Aw vsw) (hs : Step w.heap.size lgTypes wr w') (hD : DkAt w.heap.size w' g D) (hL : LgAt w.heap.size w' gl g ⟨fr, mn, fs, f⟩) : LsSt w w' g N fr mn fs gl f D want Ag vsg Aw vsw :=
  ⟨hD, h.calm, h.few, hL, h.inv, h.got.step hs, h.wan.step hs, h.kept.trans hs.below⟩
end Go.Proofs.Ytllaohobmkcmfaa
