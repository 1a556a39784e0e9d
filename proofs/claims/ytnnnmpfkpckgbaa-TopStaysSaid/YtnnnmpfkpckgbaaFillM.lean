/- A vault behind one act, plainly. -/
import Derived.Test.YtnnnmpfkpckgbaaVau5
import Derived.Test.YtnnnmpfkpckgbaaLight
namespace Go.Proofs.Ytnnnmpfkpckgbaa
open Go.RowKit Go.Maps

/-- A vault lies somewhere. -/
def VauIn (w : World) (u : Nat) (V : VauM) : Prop := ∃ x gp bp bn B lv, VauAt w u x gp bp bn B lv V
theorem VauIn.below {w w' : World} {u : Nat} {V : VauM} (h : VauIn w u V) (hb : Below w.heap.size w w') : VauIn w' u V := by
  obtain ⟨x, gp, bp, bn, B, lv, h⟩ := h
  exact ⟨x, gp, bp, bn, B, lv, h.below hb⟩

/-- A vault behind one act. -/
def fillV (V : VauM) (m : ActM) (ps : List (Int × ByteArray)) : VauM :=
  if (m.kind.toList == [105, 110, 103, 101, 115, 116]) = true then (if ingestErr V m.a m.b m.c ps = 0 then ingestV V m.a m.b m.c ps else V)
  else if (m.kind.toList == [97, 103, 97, 105, 110]) = true then (if againErr V m.a = 0 then againV V m.a else V)
  else if (m.kind.toList == [100, 114, 111, 112]) = true then (if dropErr V m.a = 0 then dropV V m.a else V)
  else V
theorem fillV_ok {V : VauM} (h : V.Ok) (m : ActM) (ps : List (Int × ByteArray)) : (fillV V m ps).Ok := by
  unfold fillV
  split
  · split
    · rename_i he; exact (ingest_good h he).1
    · exact h
  · split
    · split
      · rename_i he
        obtain ⟨_, _, _, h1, _⟩ := again_good h he
        exact h1
      · exact h
    · split
      · split
        · rename_i he
          obtain ⟨_, _, _, h1, _⟩ := drop_good h he
          exact h1
        · exact h
      · exact h

/-- No point has a text from its size on. -/
def Short (V : VauM) : Prop := ∀ p ∈ V.L, ∀ i, p.size ≤ i → i < 16 → V.X.get p.root i = ByteArray.empty
theorem short_empty : Short emptyVau := by intro p hp; simp [emptyVau] at hp
theorem overlay_out : ∀ (ps : List (Int × ByteArray)) (f : Nat → ByteArray) (i : Nat), (∀ p ∈ ps, p.1 ≠ (i : Int)) → overlay f ps i = f i
  | [], _, _, _ => rfl
  | p :: ps, f, i, h => by
    show overlay (fun i => if (i : Int) = p.1 then p.2 else f i) ps i = _
    rw [overlay_out ps _ i fun q hq => h q (List.mem_cons_of_mem _ hq), if_neg fun e => h p (by simp) e.symm]
theorem fillV_short {V : VauM} (h : V.Ok) (hs : Short V) (m : ActM) (ps : List (Int × ByteArray)) : Short (fillV V m ps) := by
  unfold fillV
  split
  · split
    · rename_i he
      obtain ⟨_, _, hL, hg, hov, hbd, hin⟩ := ingest_good h he
      intro p hp i hi h16
      rw [hL] at hp
      rcases List.mem_append.1 hp with hp | hp
      · rw [hg _ (heldOf_mem hp) i]; exact hs p hp i hi h16
      · simp only [List.mem_cons, List.not_mem_nil, or_false] at hp
        subst hp
        simp only at hi ⊢
        rw [hov i h16, overlay_out _ _ _ fun q hq => by have := hin q hq; omega]
        unfold baseText
        cases hb : placeOf V.L m.a with
        | none => rfl
        | some k =>
          obtain ⟨hk, _⟩ := placeOf_some hb
          simp only [getElem!_pos V.L k hk]
          split
          · rfl
          · exact hs _ (List.getElem_mem hk) i (by omega) h16
    · exact hs
  · split
    · split
      · rename_i he
        obtain ⟨k, hk, _, _, heq, _, hg⟩ := again_good h he
        intro p hp i hi h16
        have hp' : p ∈ V.L ++ [⟨V.next, V.L[k].disk, V.L[k].size, V.L[k].root⟩] := by rw [heq] at hp; exact hp
        rcases List.mem_append.1 hp' with hp | hp
        · rw [hg _ (heldOf_mem hp) i]; exact hs p hp i hi h16
        · simp only [List.mem_cons, List.not_mem_nil, or_false] at hp
          subst hp
          rw [hg _ (heldOf_mem (List.getElem_mem hk)) i]
          exact hs _ (List.getElem_mem hk) i hi h16
      · exact hs
    · split
      · split
        · rename_i he
          obtain ⟨k, hk, _, _, heq, hg⟩ := drop_good h he
          intro p hp i hi h16
          have hp' : p ∈ V.L.eraseIdx k := by rw [heq] at hp; exact hp
          rw [hg _ (heldOf_mem hp') i]
          exact hs p (List.mem_of_mem_eraseIdx hp') i hi h16
        · exact hs
      · exact hs

/-- What fill leaves. -/
def FillRet (w : World) (V : VauM) (e : Ending) (w' : World) : Prop := ∃ u, e = .returned (.pointer (some ⟨u, 0, none⟩)) ∧ VauIn w' u V ∧ Below w.heap.size w w'

theorem ret_below {w1 w2 w3 : World} {v x gp bp bn B : Nat} {lv : Value} {V V' : VauM} {ne : Int} {u : Value} {e : Ending} (h : VauAt w2 v x gp bp bn B lv V) (hf : From B v x gp bp bn) (hB : B ≤ w1.heap.size) (hb : Below B w1 w2) (hr : VauRet w2 v x gp bp bn B lv V' ne u e w3) : Below B w1 w3 :=
  hb.trans (hr.2.2.below (Nat.le_trans hB hb.size) (vbs_from hf h.pts))

theorem ActAt.puts {w : World} {N b off : Nat} {m : ActM} (h : ActAt w N b off m) : ∃ ps, ps.length = m.pL ∧ PutList w m.pA ps := by
  obtain ⟨_, _, h3, _⟩ := h
  exact h3.list
end Go.Proofs.Ytnnnmpfkpckgbaa
