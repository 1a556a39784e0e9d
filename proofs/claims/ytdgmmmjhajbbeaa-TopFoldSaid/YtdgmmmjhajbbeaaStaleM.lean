/- What is forgotten stays forgotten: the reasoning on models. -/
import Derived.Test.YtdgmmmjhajbbeaaTrack
namespace Go.Proofs.Ytdgmmmjhajbbeaa
open Go.RowKit

def LastForgot (L : List SnapM) : Prop := ∀ s, L.getLast? = some s → s.forgot = true

theorem onLast_concat (f : SnapM → SnapM) (r : List SnapM) (s : SnapM) : onLast f (r ++ [s]) = r ++ [f s] := by
  rw [onLast_pos f (n := r.length) (by simp)]
  simp

theorem posIn_append (L R : List SnapM) (a : Int) : posIn (L ++ R) a = match posIn L a with | some i => some i | none => (posIn R a).map (· + L.length) := by
  induction L with
  | nil => simp [posIn]
  | cons s r ih =>
    simp only [List.cons_append, posIn]
    split
    · rfl
    · rw [ih]
      cases h : posIn r a with
      | some i => simp
      | none => simp [Option.map_map]; cases posIn R a <;> simp <;> omega

theorem posIn_onLast (f : SnapM → SnapM) (hf : ∀ s, (f s).id = s.id) (L : List SnapM) (a : Int) : posIn (onLast f L) a = posIn L a := by
  rcases List.eq_nil_or_concat L with rfl | ⟨r, s, rfl⟩
  · rfl
  · rw [List.concat_eq_append, onLast_concat, posIn_append, posIn_append]
    simp only [posIn, hf]

theorem lastForgot_onLast (f : SnapM → SnapM) (L : List SnapM) (hf : ∀ s, s.forgot = true → (f s).forgot = true) (h : LastForgot L) : LastForgot (onLast f L) := by
  rcases List.eq_nil_or_concat L with rfl | ⟨r, s, rfl⟩
  · exact h
  · rw [List.concat_eq_append, onLast_concat]
    intro t ht
    simp at ht
    subst ht
    exact hf s (h s (by simp))

theorem lastForgot_forget (D : DiskM) : LastForgot (forgetM D).snaps := by
  unfold forgetM
  show LastForgot (onLast setForgot D.snaps)
  rcases List.eq_nil_or_concat D.snaps with h | ⟨r, s, h⟩
  · rw [h]; intro s hs; cases hs
  · rw [h, List.concat_eq_append, onLast_concat]
    intro t ht
    simp at ht
    subst ht
    rfl

theorem posIn_forget (D : DiskM) (a : Int) : posIn (forgetM D).snaps a = posIn D.snaps a := posIn_onLast setForgot (fun _ => rfl) _ _

/-- What an act leaves that makes and drops no snapshot. -/
def StaleKeep (D D' : DiskM) : Prop := (∀ a, posIn D'.snaps a = posIn D.snaps a) ∧ LastForgot D'.snaps

theorem stale_touch (D D' : DiskM) (h : StaleKeep D D') (c : Cont) (a : Ar) : StaleKeep D (touchM { D' with now := c } a) :=
  ⟨fun x => (posIn_onLast (addTouch a) (fun _ => rfl) _ _).trans (h.1 x), lastForgot_onLast (addTouch a) _ (fun _ hs => hs) h.2⟩

theorem stale_change (D D' : DiskM) (m : ActM) (h : StaleKeep D D') (h1 : (m.kind.toList == [115, 110, 97, 112]) = false) (h2 : (m.kind.toList == [117, 110, 115, 110, 97, 112]) = false) : StaleKeep D (changeM D' m) := by
  unfold changeM
  rw [h1, h2]
  split
  · unfold writeM; split
    · exact stale_touch D D' h _ _
    · exact h
  · split
    · unfold resizeM; split
      · unfold resizeTo; split
        · exact h
        · exact stale_touch D D' h _ _
      · exact h
    · simp only [Bool.false_eq_true, if_false]
      split
      · exact ⟨fun a => (posIn_forget D' a).trans (h.1 a), lastForgot_forget D'⟩
      · exact h

theorem stale_fin {D : DiskM} (hk : D.Ok) (h : LastForgot D.snaps) {a : Int} (ha : posIn D.snaps a ≠ none) (hs : snapErr D = 0) :
    chgErr (snapM D) a (snapId D) = 7 ∧ chgErr (snapM D) (snapId D) a = 7 ∧ chgAr (snapM D) a (snapId D) = [] ∧ chgAr (snapM D) (snapId D) a = [] := by
  obtain ⟨i, hi⟩ : ∃ i, posIn D.snaps a = some i := by cases h : posIn D.snaps a with | none => exact absurd h ha | some i => exact ⟨i, rfl⟩
  obtain ⟨hil, _⟩ := posIn_lt hi
  have e1 : (snapM D).snaps = D.snaps ++ [newSnap D] := by unfold snapM; rw [if_pos hs]
  have e2 : snapId D = (D.last : Int) + 1 := by unfold snapId; rw [if_pos hs]
  have p1 : posIn (snapM D).snaps a = some i := by rw [e1, posIn_append, hi]
  have p0 : posIn D.snaps ((D.last : Int) + 1) = none := posIn_none fun j hj => by
    have := (hk.ids _ (List.getElem_mem hj)).2
    omega
  have p2 : posIn (snapM D).snaps (snapId D) = some D.snaps.length := by rw [e1, e2, posIn_append, p0]; simp [posIn, newSnap]
  have hany : (seg (snapM D).snaps i D.snaps.length).any (·.forgot) = true := by
    rw [List.any_eq_true]
    obtain ⟨n, hn⟩ : ∃ n, D.snaps.length = n + 1 := ⟨D.snaps.length - 1, by omega⟩
    have hlen : D.snaps.length ≤ (snapM D).snaps.length := by rw [e1]; simp
    have hg := seg_get (L := (snapM D).snaps) (lo := i) (hi := D.snaps.length) (k := n - i) hlen (by omega)
    refine ⟨_, List.mem_of_getElem? hg, ?_⟩
    have e3 : (snapM D).snaps[i + (n - i)]? = some (D.snaps[n]'(by omega)) := by
      rw [e1, show i + (n - i) = n by omega, List.getElem?_append_left (by omega), List.getElem?_eq_getElem]
    rw [List.getElem?_eq_getElem (by rw [e1]; simp; omega)] at e3
    injection e3 with e3
    rw [e3]
    apply h
    rw [List.getLast?_eq_getElem?, show D.snaps.length - 1 = n by omega, List.getElem?_eq_getElem]
  have m1 : min i D.snaps.length = i := by omega
  have m2 : max i D.snaps.length = D.snaps.length := by omega
  have m3 : min D.snaps.length i = i := by omega
  have m4 : max D.snaps.length i = D.snaps.length := by omega
  refine ⟨?_, ?_, ?_, ?_⟩
  · unfold chgErr; rw [p1, p2]; simp only [m1, m2]; rw [if_pos hany]
  · unfold chgErr; rw [p1, p2]; simp only [m3, m4]; rw [if_pos hany]
  · unfold chgAr; rw [p1, p2]; simp only [m1, m2]; rw [if_pos hany]
  · unfold chgAr; rw [p1, p2]; simp only [m3, m4]; rw [if_pos hany]
end Go.Proofs.Ytdgmmmjhajbbeaa
