/- What was not touched is not reported: the reasoning on models. -/
import Derived.Test.YtdgmmmjhajbbeaaCoverN
namespace Go.Proofs.Ytdgmmmjhajbbeaa
open Go.RowKit

/-- The newest snapshot has this number, and these blocks were touched since. -/
def Since (D : DiskM) (a : Int) (T : Nat → Bool) : Prop := ∃ r s, D.snaps = r ++ [s] ∧ posIn r a = none ∧ (s.id : Int) = a ∧ s.forgot = false ∧ ∀ i : Nat, i < 16 → hasB s.touched i = T i

theorem since_snap {D : DiskM} (hk : D.Ok) (hs : snapErr D = 0) : Since (snapM D) (snapId D) (fun _ => false) := by
  have e2 : snapId D = (D.last : Int) + 1 := by unfold snapId; rw [if_pos hs]
  refine ⟨D.snaps, newSnap D, by unfold snapM; rw [if_pos hs], ?_, by rw [e2]; rfl, rfl, fun _ _ => rfl⟩
  rw [e2]
  exact posIn_none fun j hj => by
    have := (hk.ids _ (List.getElem_mem hj)).2
    omega

theorem since_touch {D : DiskM} {a : Int} {T : Nat → Bool} (h : Since D a T) (c : Cont) (x : Ar) : Since (touchM { D with now := c } x) a (fun i => T i || inAr x i) := by
  obtain ⟨r, s, h1, h2, h3, h4, h5⟩ := h
  refine ⟨r, addTouch x s, ?_, h2, h3, h4, fun i hi => ?_⟩
  · show onLast (addTouch x) D.snaps = _
    rw [h1, onLast_concat]
  · show hasB (uni s.touched [x]) i = _
    rw [has_uni16 _ _ _ hi, h5 i hi, hasB_cons, hasB_nil, Bool.or_false]

theorem since_congr {D : DiskM} {a : Int} {T T' : Nat → Bool} (h : Since D a T) (ht : ∀ i, i < 16 → T i = T' i) : Since D a T' := by
  obtain ⟨r, s, h1, h2, h3, h4, h5⟩ := h
  exact ⟨r, s, h1, h2, h3, h4, fun i hi => (h5 i hi).trans (ht i hi)⟩

theorem since_write {D : DiskM} {a : Int} {T : Nat → Bool} (h : Since D a T) (k : Nat) (d : ByteArray) (he : writeErr D k d = 0) : Since (writeM D k d) a (fun i => if i = k then true else T i) := by
  unfold writeM
  rw [if_pos he]
  refine since_congr (since_touch h _ _) fun i hi => ?_
  by_cases c : i = k
  · subst c; simp [inAr]
  · rw [if_neg c, (inAr_false _ _).2 (by simp only; omega), Bool.or_false]

theorem since_size {D : DiskM} {a : Int} {T : Nat → Bool} (h : Since D a T) (n : Nat) (hn : 1 ≤ n ∧ n ≤ 16) : Since (resizeM D n) a (fun i => if min D.now.size n ≤ i ∧ i < max D.now.size n then true else T i) := by
  unfold resizeM
  rw [if_pos (by omega), Int.toNat_natCast]
  unfold resizeTo
  by_cases c : n = D.now.size
  · rw [if_pos c]
    exact since_congr h fun i _ => by rw [if_neg (by omega)]
  · rw [if_neg c]
    refine since_congr (since_touch h _ _) fun i hi => ?_
    by_cases d : min D.now.size n ≤ i ∧ i < max D.now.size n
    · rw [if_pos d, (inAr_iff _ _).2 (by simp only; omega), Bool.or_true]
    · rw [if_neg d, (inAr_false _ _).2 (by simp only; omega), Bool.or_false]

theorem since_fin {D : DiskM} {a : Int} {T : Nat → Bool} (hk : D.Ok) (h : Since D a T) (hs : snapErr D = 0) : chgErr (snapM D) a (snapId D) = 0 ∧ ∀ i : Nat, i < 16 → hasB (chgAr (snapM D) a (snapId D)) i = T i := by
  obtain ⟨r, s, h1, h2, h3, h4, h5⟩ := h
  have e1 : (snapM D).snaps = D.snaps ++ [newSnap D] := by unfold snapM; rw [if_pos hs]
  have e2 : snapId D = (D.last : Int) + 1 := by unfold snapId; rw [if_pos hs]
  have p0 : posIn D.snaps ((D.last : Int) + 1) = none := posIn_none fun j hj => by
    have := (hk.ids _ (List.getElem_mem hj)).2
    omega
  have hl : D.snaps.length = r.length + 1 := by rw [h1]; simp
  have pa : posIn D.snaps a = some r.length := by rw [h1, posIn_append, h2]; simp [posIn, h3]
  have p1 : posIn (snapM D).snaps a = some r.length := by rw [e1, posIn_append, pa]
  have p2 : posIn (snapM D).snaps (snapId D) = some (r.length + 1) := by rw [e1, e2, posIn_append, p0]; simp [posIn, newSnap, hl]
  have m1 : min r.length (r.length + 1) = r.length := by omega
  have m2 : max r.length (r.length + 1) = r.length + 1 := by omega
  have hseg : seg (snapM D).snaps r.length (r.length + 1) = [s] := by
    unfold seg
    rw [e1, h1, List.append_assoc, List.drop_left, show r.length + 1 - r.length = 1 by omega]
    rfl
  have hf : ¬ ([s].any (·.forgot)) = true := by simp [h4]
  constructor
  · unfold chgErr; rw [p1, p2]; simp only [m1, m2, hseg]; rw [if_neg hf]
  · intro i hi
    unfold chgAr; rw [p1, p2]; simp only [m1, m2, hseg]; rw [if_neg hf, has_foldT _ _ _ hi, hasB_nil]
    simp [h5 i hi]
end Go.Proofs.Ytdgmmmjhajbbeaa
