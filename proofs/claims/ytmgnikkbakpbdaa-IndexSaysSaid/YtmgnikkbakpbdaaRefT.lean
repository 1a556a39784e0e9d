/- The reference's index: Set answers as the model does. -/
import Derived.Test.YtmgnikkbakpbdaaRefS
namespace Go.Proofs.Ytmgnikkbakpbdaa
open Go.RowKit Go.Maps

theorem createId_none {X : IdxM} {a b c d : Nat} (h : createErr X a b c d ≠ 0) : createId X a b c d = 0 := by
  unfold createErr at h
  unfold createId
  split
  · rfl
  · rename_i hz
    rw [if_neg hz] at h
    split at h
    · rename_i hff
      rw [hff]; rfl
    · exact absurd rfl h

theorem refRest_any (w : World) (g K : Nat) (X : IdxM) (root at_ : Nat) (data : ByteArray) (Xb : IdxM) (b : Nat) (X' : IdxM) (n : Nat) (ne : Int) (HR : List Nat)
    (h : RIdxAt w g X) (hokb : Xb.Ok K) (hK : K ≤ 100000) (hI : Inv Xb HR [] (opt b [])) (hr : root = 0 ∨ root ∈ HR) (hr24 : root ≤ 24) (ha : at_ < 16) (hdata : data.size ≤ 9223372036854775807) (hb : b = 0 ∨ (Xb.P b).refs ≠ 0) (hb40 : b ≤ 40)
    (hput : data.size = 0 ∧ Xb = X ∧ b = 0 ∨ data.size ≠ 0 ∧ putErr X.P data = 0 ∧ putId X.P data = b ∧ Xb = { X with P := putP X.P data })
    (hS : setRest Xb root at_ b = (X', n, ne)) :
    Calls Try.prog 24 #[.pointer (some ⟨g, 0, none⟩), .int .i64 root, .int .i64 at_, .string data] w fun e w' => e = .returned (.tuple #[.int .i64 n, .int .i64 ne]) ∧ (ne = 0 → RIdxAt w' g X') ∧ Turn [g] w w' := by
  obtain ⟨L, hL⟩ : ∃ L, (Xb.N root).kid (at_ / 4) = L := ⟨_, rfl⟩
  have hlf := hI.kidOf hr (at_ / 4)
  rw [hL] at hlf
  have hL24 : L ≤ 24 := by
    rcases hlf with e | ⟨e, _⟩
    · omega
    · exact (hI.nl L e).2
  obtain ⟨X2, hX2⟩ : ∃ X2, createX IdxM.refB false Xb (rep (Xb.N L).k0 0 (at_ % 4) b) (rep (Xb.N L).k1 1 (at_ % 4) b) (rep (Xb.N L).k2 2 (at_ % 4) b) (rep (Xb.N L).k3 3 (at_ % 4) b) = X2 := ⟨_, rfl⟩
  obtain ⟨l, hl⟩ : ∃ l, createId Xb (rep (Xb.N L).k0 0 (at_ % 4) b) (rep (Xb.N L).k1 1 (at_ % 4) b) (rep (Xb.N L).k2 2 (at_ % 4) b) (rep (Xb.N L).k3 3 (at_ % 4) b) = l := ⟨_, rfl⟩
  obtain ⟨eL, heL⟩ : ∃ e, createErr Xb (rep (Xb.N L).k0 0 (at_ % 4) b) (rep (Xb.N L).k1 1 (at_ % 4) b) (rep (Xb.N L).k2 2 (at_ % 4) b) (rep (Xb.N L).k3 3 (at_ % 4) b) = e := ⟨_, rfl⟩
  obtain ⟨X4, hX4⟩ : ∃ X4, createX IdxM.refN true (X2.unrefB b) (rep (Xb.N root).k0 0 (at_ / 4) l) (rep (Xb.N root).k1 1 (at_ / 4) l) (rep (Xb.N root).k2 2 (at_ / 4) l) (rep (Xb.N root).k3 3 (at_ / 4) l) = X4 := ⟨_, rfl⟩
  obtain ⟨r, hrr⟩ : ∃ r, createId (X2.unrefB b) (rep (Xb.N root).k0 0 (at_ / 4) l) (rep (Xb.N root).k1 1 (at_ / 4) l) (rep (Xb.N root).k2 2 (at_ / 4) l) (rep (Xb.N root).k3 3 (at_ / 4) l) = r := ⟨_, rfl⟩
  obtain ⟨eR, heR⟩ : ∃ e, createErr (X2.unrefB b) (rep (Xb.N root).k0 0 (at_ / 4) l) (rep (Xb.N root).k1 1 (at_ / 4) l) (rep (Xb.N root).k2 2 (at_ / 4) l) (rep (Xb.N root).k3 3 (at_ / 4) l) = e := ⟨_, rfl⟩
  have hl24 : l ≤ 24 := by rw [← hl]; exact createId_le _ _ _ _ _
  have hkLb := hokb.N.kids L
  have hkRb := hokb.N.kids root
  have kL : rep (Xb.N L).k0 0 (at_ % 4) b ≤ 40 ∧ rep (Xb.N L).k1 1 (at_ % 4) b ≤ 40 ∧ rep (Xb.N L).k2 2 (at_ % 4) b ≤ 40 ∧ rep (Xb.N L).k3 3 (at_ % 4) b ≤ 40 := ⟨rep_le hkLb.1 hb40, rep_le hkLb.2.1 hb40, rep_le hkLb.2.2.1 hb40, rep_le hkLb.2.2.2 hb40⟩
  have kR : rep (Xb.N root).k0 0 (at_ / 4) l ≤ 40 ∧ rep (Xb.N root).k1 1 (at_ / 4) l ≤ 40 ∧ rep (Xb.N root).k2 2 (at_ / 4) l ≤ 40 ∧ rep (Xb.N root).k3 3 (at_ / 4) l ≤ 40 := ⟨rep_le hkRb.1 (by omega), rep_le hkRb.2.1 (by omega), rep_le hkRb.2.2.1 (by omega), rep_le hkRb.2.2.2 (by omega)⟩
  have hkL : ∀ k ∈ [rep (Xb.N L).k0 0 (at_ % 4) b, rep (Xb.N L).k1 1 (at_ % 4) b, rep (Xb.N L).k2 2 (at_ % 4) b, rep (Xb.N L).k3 3 (at_ % 4) b], k ≠ 0 → (Xb.P k).refs ≠ 0 := fun k hk hk0 => by
    rcases rep_mem hk with rfl | hk
    · rcases hb with e | e
      · exact absurd e hk0
      · exact e
    · rcases hlf with rfl | ⟨h1, h2⟩
      · rw [hI.ng 0 (zeroN hI)] at hk
        simp [noNod] at hk
        exact absurd hk hk0
      · exact hI.kidF L h1 h2 k hk hk0
  have ok2 : X2.Ok (K + 5) := by rw [← hX2]; exact create_okL hokb kL
  have ok3 : (X2.unrefB b).Ok (K + 5) := unrefB_okX ok2 b
  have ok4 : X4.Ok (K + 10) := by rw [← hX4]; exact create_okR ok3 kR
  have facts : eL = 0 → Inv (X2.unrefB b) HR (opt l []) [] ∧ ∀ k ∈ [rep (Xb.N root).k0 0 (at_ / 4) l, rep (Xb.N root).k1 1 (at_ / 4) l, rep (Xb.N root).k2 2 (at_ / 4) l, rep (Xb.N root).k3 3 (at_ / 4) l], k ≠ 0 → ((X2.unrefB b).N k).refs ≠ 0 ∧ ((X2.unrefB b).N k).top = false := fun e0 => by
    obtain ⟨i2, k2, c2, n2, p2⟩ := create_leaf hI _ _ _ _ hkL (by rw [heL]; exact e0)
    rw [hX2, hl] at i2
    rw [hX2] at k2
    have i3 := Inv.unref b i2
    refine ⟨i3, fun k hk hk0 => ?_⟩
    rcases rep_mem hk with rfl | hk
    · exact i3.hl k (by unfold opt; rw [if_neg hk0]; simp)
    · rcases hr with rfl | hr
      · rw [hI.ng 0 (zeroN hI)] at hk
        simp [noNod] at hk
        exact absurd hk hk0
      · obtain ⟨h1, h2⟩ := hI.hr root hr
        obtain ⟨a1, a2⟩ := hI.kidT root h1 h2 k hk hk0
        obtain ⟨b1, _, b3⟩ := k2.N k a1
        exact ⟨b1, b3.trans a2⟩
  refine (refSet_walk w g X root at_ data Xb b L l r eL eR X2 (X2.unrefB b) X4 (X4.relLeaf l) h hdata hr24 ha hput hL hL24 (Lib.hid fun w' h' => ?_) (Lib.hid fun e0 w' h' => ?_) (Lib.hid fun e => by rw [e, unrefB_zero]) (Lib.hid fun e0 w' h' => ?_) (Lib.hid fun e0 e1 w' h' => ?_) (by rcases createErr_cases Xb (rep (Xb.N L).k0 0 (at_ % 4) b) (rep (Xb.N L).k1 1 (at_ % 4) b) (rep (Xb.N L).k2 2 (at_ % 4) b) (rep (Xb.N L).k3 3 (at_ % 4) b) with e | e <;> omega) (by rcases createErr_cases (X2.unrefB b) (rep (Xb.N root).k0 0 (at_ / 4) l) (rep (Xb.N root).k1 1 (at_ / 4) l) (rep (Xb.N root).k2 2 (at_ / 4) l) (rep (Xb.N root).k3 3 (at_ / 4) l) with e | e <;> omega)).mono ?_
  · have := refNodeL w' g K Xb _ _ _ _ h' hokb (by omega) kL (fun i _ => by
      by_cases e : sel4 (rep (Xb.N L).k0 0 (at_ % 4) b) (rep (Xb.N L).k1 1 (at_ % 4) b) (rep (Xb.N L).k2 2 (at_ % 4) b) (rep (Xb.N L).k3 3 (at_ % 4) b) i = 0
      · exact .inl e
      · refine .inr ?_
        rw [hI.has]
        simpa using hkL _ (sel4_mem i) e)
    rw [hX2, hl, heL] at this
    exact this
  · refine (refSubP g w' X2.P b (refErr X2.P b) (subRef X2.P b) h'.blks (fun n => Nat.le_trans (ok2.P.refs n) (by omega)) rfl rfl).mono ?_
    rintro e w'' ⟨he, h1, t1, p1⟩
    exact ⟨_, he, ⟨h1, h'.nods.past p1⟩, t1⟩
  · obtain ⟨i3, hkR⟩ := facts e0
    have := refNodeR w' g (K + 5) (X2.unrefB b) _ _ _ _ h' ok3 (by omega) kR (fun i _ => by
      by_cases e : sel4 (rep (Xb.N root).k0 0 (at_ / 4) l) (rep (Xb.N root).k1 1 (at_ / 4) l) (rep (Xb.N root).k2 2 (at_ / 4) l) (rep (Xb.N root).k3 3 (at_ / 4) l) i = 0
      · exact .inl e
      · refine .inr ?_
        rw [i3.hasN]
        simpa using (hkR _ (sel4_mem i) e).1)
    rw [hX4, hrr, heR] at this
    exact this
  · obtain ⟨i3, hkR⟩ := facts e0
    have i4 := (create_root i3 _ _ _ _ hkR (by rw [heR]; exact e1)).1
    rw [hX4] at i4
    exact refUnrefL w' g (K + 10) X4 l h' ok4 (by omega) (held_has i4)
  · rintro e w' ⟨q1, q2, q3, t⟩
    by_cases e0 : eL = 0
    · by_cases e1 : eR = 0
      · have hS' := setRest_ok hL hX2 hl (heL.trans e0) hX4 hrr heR
        rw [hS] at hS'
        obtain ⟨rfl, rfl, rfl⟩ : X' = X4.relLeaf l ∧ n = r ∧ ne = eR := by
          injection hS' with a1 a2
          injection a2 with a2 a3
          exact ⟨a1, a2, a3⟩
        obtain ⟨he, hw⟩ := q3 e0 e1
        exact ⟨by rw [he, e1], fun _ => hw, t⟩
      · have hS' := setRest_ok hL hX2 hl (heL.trans e0) hX4 hrr heR
        rw [hS] at hS'
        obtain ⟨rfl, rfl, rfl⟩ : X' = X4.relLeaf l ∧ n = r ∧ ne = eR := by
          injection hS' with a1 a2
          injection a2 with a2 a3
          exact ⟨a1, a2, a3⟩
        have hn0 : n = 0 := by rw [← hrr]; exact createId_none (by rw [heR]; exact e1)
        exact ⟨by rw [q2 e0 e1, hn0]; rfl, fun e => absurd e e1, t⟩
    · have hS' := setRest_err hL hX2 heL e0
      rw [hS] at hS'
      obtain ⟨rfl, rfl, rfl⟩ : X' = X2.unrefB b ∧ n = 0 ∧ ne = eL := by
        injection hS' with a1 a2
        injection a2 with a2 a3
        exact ⟨a1, a2, a3⟩
      exact ⟨by rw [q1 e0]; rfl, fun e => absurd e e0, t⟩

/-- Set of the reference answers as the model does; where it answers no error it leaves what the model has. -/
theorem refSet_any (w : World) (g K : Nat) (X : IdxM) (root at_ : Nat) (data : ByteArray) (X' : IdxM) (n : Nat) (ne : Int) (HR : List Nat)
    (h : RIdxAt w g X) (hok : X.Ok K) (hK : K ≤ 10000) (hI : Inv X HR [] []) (hr : root = 0 ∨ root ∈ HR) (ha : at_ < 16) (hdata : data.size ≤ 9223372036854775807) (hS : setX X root at_ data = (X', n, ne)) :
    Calls Try.prog 24 #[.pointer (some ⟨g, 0, none⟩), .int .i64 root, .int .i64 at_, .string data] w fun e w' => e = .returned (.tuple #[.int .i64 n, .int .i64 ne]) ∧ (ne = 0 → RIdxAt w' g X') ∧ Turn [g] w w' := by
  have hr24 : root ≤ 24 := by
    rcases hr with e | e
    · omega
    · exact (hI.nl root (hI.hr root e).1).2
  by_cases hd : data.size = 0
  · have hS' : setRest X root at_ 0 = (X', n, ne) := by rw [← hS]; unfold setX; rw [if_pos hd]
    exact refRest_any w g K X root at_ data X 0 X' n ne HR h hok (by omega) hI hr hr24 ha hdata (.inl rfl) (by omega) (.inl ⟨hd, rfl, rfl⟩) hS'
  · by_cases hp : putErr X.P data = 0
    · have hS' : setRest { X with P := putP X.P data } root at_ (putId X.P data) = (X', n, ne) := by rw [← hS]; unfold setX; rw [if_neg hd, if_pos hp]
      obtain ⟨_, hat, _, hn0⟩ := keep_put hI data hp
      have hI' := hI.put data hp
      have ho : opt (putId X.P data) [] = [putId X.P data] := by unfold opt; rw [if_neg hn0]
      exact refRest_any w g (K + 1) X root at_ data { X with P := putP X.P data } (putId X.P data) X' n ne HR h ⟨putP_ok hok.P data, hok.N.mono (by omega)⟩ (by omega) (by rw [ho]; exact hI') hr hr24 ha hdata (.inr (by show (putP X.P data (putId X.P data)).refs ≠ 0; rw [hat]; simp)) (putId_le _ _) (.inr ⟨hd, hp, rfl, rfl⟩) hS'
    · have hS' : (X, 0, putErr X.P data) = (X', n, ne) := by rw [← hS]; unfold setX; rw [if_neg hd, if_neg hp]
      obtain ⟨rfl, rfl, rfl⟩ : X = X' ∧ 0 = n ∧ putErr X.P data = ne := by
        injection hS' with a1 a2
        injection a2 with a2 a3
        exact ⟨a1, a2, a3⟩
      refine (refSet_full w g X root at_ data _ h hdata hd rfl hp).mono ?_
      rintro e w' ⟨he, t⟩
      exact ⟨by rw [he]; rfl, fun e => absurd e hp, t⟩
/-- Free of the reference, of a root that is held. -/
theorem refFree_held (w : World) (g K : Nat) (X : IdxM) (root : Nat) (HR : List Nat) (h : RIdxAt w g X) (hok : X.Ok K) (hK : K ≤ 1000000000) (hI : Inv X (opt root HR) [] []) :
    Calls Try.prog 28 #[.pointer (some ⟨g, 0, none⟩), .int .i64 root] w (RIdxRet w g (X.free root) (.tuple #[])) := by
  by_cases h0 : root = 0
  · subst h0
    exact refFree_any w g K X 0 h hok hK (.inl rfl) (fun e => by rw [zeroN hI] at e; omega)
  · have ho : opt root HR = root :: HR := by unfold opt; rw [if_neg h0]
    rw [ho] at hI
    refine refFree_any w g K X root h hok hK (.inr ?_) (fun e => free_kids hI e)
    rw [hI.hasN]
    simpa using (hI.hr root (by simp)).1
end Go.Proofs.Ytmgnikkbakpbdaa
