/- Every block's data has at most 6 bytes, whatever was done. Pure. -/
import Derived.Test.YtbmlkpgagbhblaaGreatDoorZqVau5
import Derived.Test.YtbmlkpgagbhblaaGreatDoorZqLight
/- A vault behind one act, plainly. -/
namespace Go.Proofs.YtbmlkpgagbhblaaGreatDoor
open Go.RowKit Go.Maps

/-- A vault lies somewhere. -/
def VauIn (w : World) (u : Nat) (V : VauM) : Prop := ∃ x gp bp bn B lv, VauAt w u x gp bp bn B lv V
theorem VauIn.below {w w' : World} {u : Nat} {V : VauM} (h : VauIn w u V) (hb : Below w.heap.size w w') : VauIn w' u V := by
  obtain ⟨x, gp, bp, bn, B, lv, h⟩ := h
  exact ⟨x, gp, bp, bn, B, lv, h.below hb⟩

/-- A vault behind one act. -/
def fillV (V : VauM) (m : ActM) (ps : List (Int × ByteArray)) : VauM :=
  if (m.kind.toList == [105, 110, 103, 101, 115, 116]) = true then (if ingestErr V m.a m.b m.c ps = 0 then ingestV V m.a m.b m.c ps else V)
  else if (m.kind.toList == [97, 103, 97, 105, 110]) = true then (if againErr V m.a = 0 then againV V m.a else V)
  else if (m.kind.toList == [100, 114, 111, 112]) = true then (if dropErr V m.a = 0 then dropV V m.a else V)
  else V
theorem fillV_ok {V : VauM} (h : V.Ok) (m : ActM) (ps : List (Int × ByteArray)) : (fillV V m ps).Ok := by
  unfold fillV
  split
  · split
    · rename_i he; exact (ingest_good h he).1
    · exact h
  · split
    · split
      · rename_i he
        obtain ⟨_, _, _, h1, _⟩ := again_good h he
        exact h1
      · exact h
    · split
      · split
        · rename_i he
          obtain ⟨_, _, _, h1, _⟩ := drop_good h he
          exact h1
        · exact h
      · exact h

/-- No point has a text from its size on. -/
def Short (V : VauM) : Prop := ∀ p ∈ V.L, ∀ i, p.size ≤ i → i < 16 → V.X.get p.root i = ByteArray.empty
theorem short_empty : Short emptyVau := by intro p hp; simp [emptyVau] at hp
theorem overlay_out : ∀ (ps : List (Int × ByteArray)) (f : Nat → ByteArray) (i : Nat), (∀ p ∈ ps, p.1 ≠ (i : Int)) → overlay f ps i = f i
  | [], _, _, _ => rfl
  | p :: ps, f, i, h => by
    show overlay (fun i => if (i : Int) = p.1 then p.2 else f i) ps i = _
    rw [overlay_out ps _ i fun q hq => h q (List.mem_cons_of_mem _ hq), if_neg fun e => h p (by simp) e.symm]
theorem fillV_short {V : VauM} (h : V.Ok) (hs : Short V) (m : ActM) (ps : List (Int × ByteArray)) : Short (fillV V m ps) := by
  unfold fillV
  split
  · split
    · rename_i he
      obtain ⟨_, _, hL, hg, hov, hbd, hin⟩ := ingest_good h he
      intro p hp i hi h16
      rw [hL] at hp
      rcases List.mem_append.1 hp with hp | hp
      · rw [hg _ (heldOf_mem hp) i]; exact hs p hp i hi h16
      · simp only [List.mem_cons, List.not_mem_nil, or_false] at hp
        subst hp
        simp only at hi ⊢
        rw [hov i h16, overlay_out _ _ _ fun q hq => by have := hin q hq; omega]
        unfold baseText
        cases hb : placeOf V.L m.a with
        | none => rfl
        | some k =>
          obtain ⟨hk, _⟩ := placeOf_some hb
          simp only [getElem!_pos V.L k hk]
          split
          · rfl
          · exact hs _ (List.getElem_mem hk) i (by omega) h16
    · exact hs
  · split
    · split
      · rename_i he
        obtain ⟨k, hk, _, _, heq, _, hg⟩ := again_good h he
        intro p hp i hi h16
        have hp' : p ∈ V.L ++ [⟨V.next, V.L[k].disk, V.L[k].size, V.L[k].root⟩] := by rw [heq] at hp; exact hp
        rcases List.mem_append.1 hp' with hp | hp
        · rw [hg _ (heldOf_mem hp) i]; exact hs p hp i hi h16
        · simp only [List.mem_cons, List.not_mem_nil, or_false] at hp
          subst hp
          rw [hg _ (heldOf_mem (List.getElem_mem hk)) i]
          exact hs _ (List.getElem_mem hk) i hi h16
      · exact hs
    · split
      · split
        · rename_i he
          obtain ⟨k, hk, _, _, heq, hg⟩ := drop_good h he
          intro p hp i hi h16
          have hp' : p ∈ V.L.eraseIdx k := by rw [heq] at hp; exact hp
          rw [hg _ (heldOf_mem hp') i]
          exact hs p (List.mem_of_mem_eraseIdx hp') i hi h16
        · exact hs
      · exact hs

/-- What fill leaves. -/
def FillRet (w : World) (V : VauM) (e : Ending) (w' : World) : Prop := ∃ u, e = .returned (.pointer (some ⟨u, 0, none⟩)) ∧ VauIn w' u V ∧ Below w.heap.size w w'

theorem ret_below {w1 w2 w3 : World} {v x gp bp bn B : Nat} {lv : Value} {V V' : VauM} {ne : Int} {u : Value} {e : Ending} (h : VauAt w2 v x gp bp bn B lv V) (hf : From B v x gp bp bn) (hB : B ≤ w1.heap.size) (hb : Below B w1 w2) (hr : VauRet w2 v x gp bp bn B lv V' ne u e w3) : Below B w1 w3 :=
  hb.trans (hr.2.2.below (Nat.le_trans hB hb.size) (vbs_from hf h.pts))

theorem ActAt.puts {w : World} {N b off : Nat} {m : ActM} (h : ActAt w N b off m) : ∃ ps, ps.length = m.pL ∧ PutList w m.pA ps := by
  obtain ⟨_, _, h3, _⟩ := h
  exact h3.list
end Go.Proofs.YtbmlkpgagbhblaaGreatDoor

/- Every block's data has at most 6 bytes, whatever was done. Pure. -/
namespace Go.Proofs.YtbmlkpgagbhblaaGreatDoor
open Go.RowKit Go.Maps

def Small (P : PoolM) : Prop := ∀ n, (P n).data.size ≤ 6

theorem small_empty : Small emptyPool := fun _ => by simp [emptyPool, noBlk]
theorem Small.set {P : PoolM} (h : Small P) (n : Nat) {b : Blk} (hb : b.data.size ≤ 6) : Small (setBlk P n b) := fun i => by
  unfold setBlk
  split
  · exact hb
  · exact h i
theorem Small.put {P : PoolM} (h : Small P) (data : ByteArray) : Small (putP P data) := by
  unfold putP
  split
  · rename_i he
    refine h.set _ ?_
    show data.size ≤ 6
    unfold putErr at he
    split at he
    · cases he
    · omega
  · exact h
theorem Small.add {P : PoolM} (h : Small P) (id : Int) : Small (addRef P id) := by
  unfold addRef
  split
  · exact h.set _ (h _)
  · exact h
theorem Small.sub {P : PoolM} (h : Small P) (id : Int) : Small (subRef P id) := by
  unfold subRef
  split
  · refine h.set _ ?_
    split
    · simp [noBlk]
    · exact h _
  · exact h
/-- An operation on a place that keeps blocks small. -/
def Keeps (op : IdxM → Nat → IdxM) : Prop := ∀ X k, Small X.P → Small (op X k).P
theorem keeps_refB : Keeps IdxM.refB := fun _ _ h => h.add _
theorem keeps_unrefB : Keeps IdxM.unrefB := fun _ _ h => h.sub _
theorem keeps_refN : Keeps IdxM.refN := fun _ _ h => h
theorem Keeps.each4 {op : IdxM → Nat → IdxM} (h : Keeps op) (X : IdxM) (hX : Small X.P) (a b c d : Nat) : Small (each4 op X a b c d).P := h _ _ (h _ _ (h _ _ (h _ _ hX)))
theorem Keeps.create {op : IdxM → Nat → IdxM} (h : Keeps op) (t : Bool) {X : IdxM} (hX : Small X.P) (a b c d : Nat) : Small (createX op t X a b c d).P := by
  unfold createX
  split
  · exact hX
  · split
    · exact hX
    · refine h.each4 _ ?_ _ _ _ _; exact hX
theorem Keeps.release {op : IdxM → Nat → IdxM} (h : Keeps op) : Keeps (releaseX op) := fun X id hX => by
  unfold releaseX
  split
  · split
    · refine h.each4 _ ?_ _ _ _ _; exact hX
    · exact hX
  · exact hX
theorem keeps_relLeaf : Keeps IdxM.relLeaf := keeps_unrefB.release
theorem keeps_free : Keeps IdxM.free := keeps_relLeaf.release
theorem small_setRest {X : IdxM} (h : Small X.P) (root at_ b : Nat) : Small (setRest X root at_ b).1.P := by
  unfold setRest
  dsimp only
  split
  · exact keeps_unrefB _ _ (keeps_refB.create _ h _ _ _ _)
  · exact keeps_relLeaf _ _ (keeps_refN.create _ (keeps_unrefB _ _ (keeps_refB.create _ h _ _ _ _)) _ _ _ _)
theorem small_set {X : IdxM} (h : Small X.P) (root at_ : Nat) (data : ByteArray) : Small (setX X root at_ data).1.P := by
  unfold setX
  split
  · exact small_setRest h _ _ _
  · split
    · exact small_setRest (X := { X with P := putP X.P data }) (h.put data) _ _ _
    · exact h
theorem small_replace {X : IdxM} (h : Small X.P) (root at_ : Nat) (data : ByteArray) : Small (replaceX X root at_ data).1.P := by
  unfold replaceX
  split
  · exact keeps_free _ _ (small_set h _ _ _)
  · exact small_set h _ _ _
theorem small_trim : ∀ (k : Nat) {X : IdxM} (_ : Small X.P) (root at_ : Nat), Small (trimX X root at_ k).1.P
  | 0, _, h, _, _ => h
  | k + 1, X, h, root, at_ => by
    unfold trimX
    split
    · exact small_trim k (small_replace h _ _ _) _ _
    · exact small_replace h _ _ _
theorem small_puts : ∀ (l : List (Int × ByteArray)) {X : IdxM} (_ : Small X.P) (root size : Nat), Small (putsX X root size l).1.P
  | [], _, h, _, _ => h
  | p :: l, X, h, root, size => by
    unfold putsX
    split
    · exact h
    · split
      · exact small_puts l h _ _
      · split
        · exact small_puts l (small_replace h _ _ _) _ _
        · exact small_replace h _ _ _
theorem small_start {V : VauM} (h : Small V.X.P) (base disk : Int) (size : Nat) : Small (startX V base disk size).1.P := by
  unfold startX
  split
  · exact h
  · split
    · exact h
    · split
      · exact h
      · exact small_trim _ (X := V.X.refN _) h _ _
theorem small_ingest {V : VauM} (h : Small V.X.P) (base disk size : Int) (l : List (Int × ByteArray)) : Small (ingestV V base disk size l).X.P := small_puts l (small_start h _ _ _) _ _
theorem small_again {V : VauM} (h : Small V.X.P) (id : Int) : Small (againV V id).X.P := by
  unfold againV
  split <;> exact h
theorem small_drop {V : VauM} (h : Small V.X.P) (id : Int) : Small (dropV V id).X.P := by
  unfold dropV
  split
  · exact h
  · exact keeps_free _ _ h
theorem small_fill {V : VauM} (h : Small V.X.P) (m : ActM) (ps : List (Int × ByteArray)) : Small (fillV V m ps).X.P := by
  unfold fillV
  split
  · split
    · exact small_ingest h _ _ _ _
    · exact h
  · split
    · split
      · exact small_again h _
      · exact h
    · split
      · split
        · exact small_drop h _
        · exact h
      · exact h
end Go.Proofs.YtbmlkpgagbhblaaGreatDoor
