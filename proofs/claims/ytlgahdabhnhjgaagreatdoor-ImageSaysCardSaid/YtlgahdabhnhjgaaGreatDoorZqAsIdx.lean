/- asIndex: an index has what its model has. -/
import Derived.Test.YtlgahdabhnhjgaaGreatDoorZqRefS
import Derived.Test.YtlgahdabhnhjgaaGreatDoorZqRefI
import Derived.Test.YtlgahdabhnhjgaaGreatDoorZqLight
import Derived.Test.YtlgahdabhnhjgaaGreatDoorZqEq4
/- The reference's index: Set answers as the model does. -/
namespace Go.Proofs.YtlgahdabhnhjgaaGreatDoor
open Go.RowKit Go.Maps

theorem createId_none {X : IdxM} {a b c d : Nat} (h : createErr X a b c d ≠ 0) : createId X a b c d = 0 := by
  unfold createErr at h
  unfold createId
  split
  · rfl
  · rename_i hz
    rw [if_neg hz] at h
    split at h
    · rename_i hff
      rw [hff]; rfl
    · exact absurd rfl h

theorem refRest_any (w : World) (g K : Nat) (X : IdxM) (root at_ : Nat) (data : ByteArray) (Xb : IdxM) (b : Nat) (X' : IdxM) (n : Nat) (ne : Int) (HR : List Nat)
    (h : RIdxAt w g X) (hokb : Xb.Ok K) (hK : K ≤ 100000) (hI : Inv Xb HR [] (opt b [])) (hr : root = 0 ∨ root ∈ HR) (hr24 : root ≤ 24) (ha : at_ < 16) (hdata : data.size ≤ 9223372036854775807) (hb : b = 0 ∨ (Xb.P b).refs ≠ 0) (hb40 : b ≤ 40)
    (hput : data.size = 0 ∧ Xb = X ∧ b = 0 ∨ data.size ≠ 0 ∧ putErr X.P data = 0 ∧ putId X.P data = b ∧ Xb = { X with P := putP X.P data })
    (hS : setRest Xb root at_ b = (X', n, ne)) :
    Calls Tryz.prog 93 #[.pointer (some ⟨g, 0, none⟩), .int .i64 root, .int .i64 at_, .string data] w fun e w' => e = .returned (.tuple #[.int .i64 n, .int .i64 ne]) ∧ (ne = 0 → RIdxAt w' g X') ∧ Turn [g] w w' := by
  obtain ⟨L, hL⟩ : ∃ L, (Xb.N root).kid (at_ / 4) = L := ⟨_, rfl⟩
  have hlf := hI.kidOf hr (at_ / 4)
  rw [hL] at hlf
  have hL24 : L ≤ 24 := by
    rcases hlf with e | ⟨e, _⟩
    · omega
    · exact (hI.nl L e).2
  obtain ⟨X2, hX2⟩ : ∃ X2, createX IdxM.refB false Xb (rep (Xb.N L).k0 0 (at_ % 4) b) (rep (Xb.N L).k1 1 (at_ % 4) b) (rep (Xb.N L).k2 2 (at_ % 4) b) (rep (Xb.N L).k3 3 (at_ % 4) b) = X2 := ⟨_, rfl⟩
  obtain ⟨l, hl⟩ : ∃ l, createId Xb (rep (Xb.N L).k0 0 (at_ % 4) b) (rep (Xb.N L).k1 1 (at_ % 4) b) (rep (Xb.N L).k2 2 (at_ % 4) b) (rep (Xb.N L).k3 3 (at_ % 4) b) = l := ⟨_, rfl⟩
  obtain ⟨eL, heL⟩ : ∃ e, createErr Xb (rep (Xb.N L).k0 0 (at_ % 4) b) (rep (Xb.N L).k1 1 (at_ % 4) b) (rep (Xb.N L).k2 2 (at_ % 4) b) (rep (Xb.N L).k3 3 (at_ % 4) b) = e := ⟨_, rfl⟩
  obtain ⟨X4, hX4⟩ : ∃ X4, createX IdxM.refN true (X2.unrefB b) (rep (Xb.N root).k0 0 (at_ / 4) l) (rep (Xb.N root).k1 1 (at_ / 4) l) (rep (Xb.N root).k2 2 (at_ / 4) l) (rep (Xb.N root).k3 3 (at_ / 4) l) = X4 := ⟨_, rfl⟩
  obtain ⟨r, hrr⟩ : ∃ r, createId (X2.unrefB b) (rep (Xb.N root).k0 0 (at_ / 4) l) (rep (Xb.N root).k1 1 (at_ / 4) l) (rep (Xb.N root).k2 2 (at_ / 4) l) (rep (Xb.N root).k3 3 (at_ / 4) l) = r := ⟨_, rfl⟩
  obtain ⟨eR, heR⟩ : ∃ e, createErr (X2.unrefB b) (rep (Xb.N root).k0 0 (at_ / 4) l) (rep (Xb.N root).k1 1 (at_ / 4) l) (rep (Xb.N root).k2 2 (at_ / 4) l) (rep (Xb.N root).k3 3 (at_ / 4) l) = e := ⟨_, rfl⟩
  have hl24 : l ≤ 24 := by rw [← hl]; exact createId_le _ _ _ _ _
  have hkLb := hokb.N.kids L
  have hkRb := hokb.N.kids root
  have kL : rep (Xb.N L).k0 0 (at_ % 4) b ≤ 40 ∧ rep (Xb.N L).k1 1 (at_ % 4) b ≤ 40 ∧ rep (Xb.N L).k2 2 (at_ % 4) b ≤ 40 ∧ rep (Xb.N L).k3 3 (at_ % 4) b ≤ 40 := ⟨rep_le hkLb.1 hb40, rep_le hkLb.2.1 hb40, rep_le hkLb.2.2.1 hb40, rep_le hkLb.2.2.2 hb40⟩
  have kR : rep (Xb.N root).k0 0 (at_ / 4) l ≤ 40 ∧ rep (Xb.N root).k1 1 (at_ / 4) l ≤ 40 ∧ rep (Xb.N root).k2 2 (at_ / 4) l ≤ 40 ∧ rep (Xb.N root).k3 3 (at_ / 4) l ≤ 40 := ⟨rep_le hkRb.1 (by omega), rep_le hkRb.2.1 (by omega), rep_le hkRb.2.2.1 (by omega), rep_le hkRb.2.2.2 (by omega)⟩
  have hkL : ∀ k ∈ [rep (Xb.N L).k0 0 (at_ % 4) b, rep (Xb.N L).k1 1 (at_ % 4) b, rep (Xb.N L).k2 2 (at_ % 4) b, rep (Xb.N L).k3 3 (at_ % 4) b], k ≠ 0 → (Xb.P k).refs ≠ 0 := fun k hk hk0 => by
    rcases rep_mem hk with rfl | hk
    · rcases hb with e | e
      · exact absurd e hk0
      · exact e
    · rcases hlf with rfl | ⟨h1, h2⟩
      · rw [hI.ng 0 (zeroN hI)] at hk
        simp [noNod] at hk
        exact absurd hk hk0
      · exact hI.kidF L h1 h2 k hk hk0
  have ok2 : X2.Ok (K + 5) := by rw [← hX2]; exact create_okL hokb kL
  have ok3 : (X2.unrefB b).Ok (K + 5) := unrefB_okX ok2 b
  have ok4 : X4.Ok (K + 10) := by rw [← hX4]; exact create_okR ok3 kR
  have facts : eL = 0 → Inv (X2.unrefB b) HR (opt l []) [] ∧ ∀ k ∈ [rep (Xb.N root).k0 0 (at_ / 4) l, rep (Xb.N root).k1 1 (at_ / 4) l, rep (Xb.N root).k2 2 (at_ / 4) l, rep (Xb.N root).k3 3 (at_ / 4) l], k ≠ 0 → ((X2.unrefB b).N k).refs ≠ 0 ∧ ((X2.unrefB b).N k).top = false := fun e0 => by
    obtain ⟨i2, k2, c2, n2, p2⟩ := create_leaf hI _ _ _ _ hkL (by rw [heL]; exact e0)
    rw [hX2, hl] at i2
    rw [hX2] at k2
    have i3 := Inv.unref b i2
    refine ⟨i3, fun k hk hk0 => ?_⟩
    rcases rep_mem hk with rfl | hk
    · exact i3.hl k (by unfold opt; rw [if_neg hk0]; simp)
    · rcases hr with rfl | hr
      · rw [hI.ng 0 (zeroN hI)] at hk
        simp [noNod] at hk
        exact absurd hk hk0
      · obtain ⟨h1, h2⟩ := hI.hr root hr
        obtain ⟨a1, a2⟩ := hI.kidT root h1 h2 k hk hk0
        obtain ⟨b1, _, b3⟩ := k2.N k a1
        exact ⟨b1, b3.trans a2⟩
  refine (refSet_walk w g X root at_ data Xb b L l r eL eR X2 (X2.unrefB b) X4 (X4.relLeaf l) h hdata hr24 ha hput hL hL24 (Lib.hid fun w' h' => ?_) (Lib.hid fun e0 w' h' => ?_) (Lib.hid fun e => by rw [e, unrefB_zero]) (Lib.hid fun e0 w' h' => ?_) (Lib.hid fun e0 e1 w' h' => ?_) (by rcases createErr_cases Xb (rep (Xb.N L).k0 0 (at_ % 4) b) (rep (Xb.N L).k1 1 (at_ % 4) b) (rep (Xb.N L).k2 2 (at_ % 4) b) (rep (Xb.N L).k3 3 (at_ % 4) b) with e | e <;> omega) (by rcases createErr_cases (X2.unrefB b) (rep (Xb.N root).k0 0 (at_ / 4) l) (rep (Xb.N root).k1 1 (at_ / 4) l) (rep (Xb.N root).k2 2 (at_ / 4) l) (rep (Xb.N root).k3 3 (at_ / 4) l) with e | e <;> omega)).mono ?_
  · have := refNodeL w' g K Xb _ _ _ _ h' hokb (by omega) kL (fun i _ => by
      by_cases e : sel4 (rep (Xb.N L).k0 0 (at_ % 4) b) (rep (Xb.N L).k1 1 (at_ % 4) b) (rep (Xb.N L).k2 2 (at_ % 4) b) (rep (Xb.N L).k3 3 (at_ % 4) b) i = 0
      · exact .inl e
      · refine .inr ?_
        rw [hI.has]
        simpa using hkL _ (sel4_mem i) e)
    rw [hX2, hl, heL] at this
    exact this
  · refine (refSubP g w' X2.P b (refErr X2.P b) (subRef X2.P b) h'.blks (fun n => Nat.le_trans (ok2.P.refs n) (by omega)) rfl rfl).mono ?_
    rintro e w'' ⟨he, h1, t1, p1⟩
    exact ⟨_, he, ⟨h1, h'.nods.past p1⟩, t1⟩
  · obtain ⟨i3, hkR⟩ := facts e0
    have := refNodeR w' g (K + 5) (X2.unrefB b) _ _ _ _ h' ok3 (by omega) kR (fun i _ => by
      by_cases e : sel4 (rep (Xb.N root).k0 0 (at_ / 4) l) (rep (Xb.N root).k1 1 (at_ / 4) l) (rep (Xb.N root).k2 2 (at_ / 4) l) (rep (Xb.N root).k3 3 (at_ / 4) l) i = 0
      · exact .inl e
      · refine .inr ?_
        rw [i3.hasN]
        simpa using (hkR _ (sel4_mem i) e).1)
    rw [hX4, hrr, heR] at this
    exact this
  · obtain ⟨i3, hkR⟩ := facts e0
    have i4 := (create_root i3 _ _ _ _ hkR (by rw [heR]; exact e1)).1
    rw [hX4] at i4
    exact refUnrefL w' g (K + 10) X4 l h' ok4 (by omega) (held_has i4)
  · rintro e w' ⟨q1, q2, q3, t⟩
    by_cases e0 : eL = 0
    · by_cases e1 : eR = 0
      · have hS' := setRest_ok hL hX2 hl (heL.trans e0) hX4 hrr heR
        rw [hS] at hS'
        obtain ⟨rfl, rfl, rfl⟩ : X' = X4.relLeaf l ∧ n = r ∧ ne = eR := by
          injection hS' with a1 a2
          injection a2 with a2 a3
          exact ⟨a1, a2, a3⟩
        obtain ⟨he, hw⟩ := q3 e0 e1
        exact ⟨by rw [he, e1], fun _ => hw, t⟩
      · have hS' := setRest_ok hL hX2 hl (heL.trans e0) hX4 hrr heR
        rw [hS] at hS'
        obtain ⟨rfl, rfl, rfl⟩ : X' = X4.relLeaf l ∧ n = r ∧ ne = eR := by
          injection hS' with a1 a2
          injection a2 with a2 a3
          exact ⟨a1, a2, a3⟩
        have hn0 : n = 0 := by rw [← hrr]; exact createId_none (by rw [heR]; exact e1)
        exact ⟨by rw [q2 e0 e1, hn0]; rfl, fun e => absurd e e1, t⟩
    · have hS' := setRest_err hL hX2 heL e0
      rw [hS] at hS'
      obtain ⟨rfl, rfl, rfl⟩ : X' = X2.unrefB b ∧ n = 0 ∧ ne = eL := by
        injection hS' with a1 a2
        injection a2 with a2 a3
        exact ⟨a1, a2, a3⟩
      exact ⟨by rw [q1 e0]; rfl, fun e => absurd e e0, t⟩

/-- Set of the reference answers as the model does; where it answers no error it leaves what the model has. -/
theorem refSet_any (w : World) (g K : Nat) (X : IdxM) (root at_ : Nat) (data : ByteArray) (X' : IdxM) (n : Nat) (ne : Int) (HR : List Nat)
    (h : RIdxAt w g X) (hok : X.Ok K) (hK : K ≤ 10000) (hI : Inv X HR [] []) (hr : root = 0 ∨ root ∈ HR) (ha : at_ < 16) (hdata : data.size ≤ 9223372036854775807) (hS : setX X root at_ data = (X', n, ne)) :
    Calls Tryz.prog 93 #[.pointer (some ⟨g, 0, none⟩), .int .i64 root, .int .i64 at_, .string data] w fun e w' => e = .returned (.tuple #[.int .i64 n, .int .i64 ne]) ∧ (ne = 0 → RIdxAt w' g X') ∧ Turn [g] w w' := by
  have hr24 : root ≤ 24 := by
    rcases hr with e | e
    · omega
    · exact (hI.nl root (hI.hr root e).1).2
  by_cases hd : data.size = 0
  · have hS' : setRest X root at_ 0 = (X', n, ne) := by rw [← hS]; unfold setX; rw [if_pos hd]
    exact refRest_any w g K X root at_ data X 0 X' n ne HR h hok (by omega) hI hr hr24 ha hdata (.inl rfl) (by omega) (.inl ⟨hd, rfl, rfl⟩) hS'
  · by_cases hp : putErr X.P data = 0
    · have hS' : setRest { X with P := putP X.P data } root at_ (putId X.P data) = (X', n, ne) := by rw [← hS]; unfold setX; rw [if_neg hd, if_pos hp]
      obtain ⟨_, hat, _, hn0⟩ := keep_put hI data hp
      have hI' := hI.put data hp
      have ho : opt (putId X.P data) [] = [putId X.P data] := by unfold opt; rw [if_neg hn0]
      exact refRest_any w g (K + 1) X root at_ data { X with P := putP X.P data } (putId X.P data) X' n ne HR h ⟨putP_ok hok.P data, hok.N.mono (by omega)⟩ (by omega) (by rw [ho]; exact hI') hr hr24 ha hdata (.inr (by show (putP X.P data (putId X.P data)).refs ≠ 0; rw [hat]; simp)) (putId_le _ _) (.inr ⟨hd, hp, rfl, rfl⟩) hS'
    · have hS' : (X, 0, putErr X.P data) = (X', n, ne) := by rw [← hS]; unfold setX; rw [if_neg hd, if_neg hp]
      obtain ⟨rfl, rfl, rfl⟩ : X = X' ∧ 0 = n ∧ putErr X.P data = ne := by
        injection hS' with a1 a2
        injection a2 with a2 a3
        exact ⟨a1, a2, a3⟩
      refine (refSet_full w g X root at_ data _ h hdata hd rfl hp).mono ?_
      rintro e w' ⟨he, t⟩
      exact ⟨by rw [he]; rfl, fun e => absurd e hp, t⟩
/-- Free of the reference, of a root that is held. -/
theorem refFree_held (w : World) (g K : Nat) (X : IdxM) (root : Nat) (HR : List Nat) (h : RIdxAt w g X) (hok : X.Ok K) (hK : K ≤ 1000000000) (hI : Inv X (opt root HR) [] []) :
    Calls Tryz.prog 68 #[.pointer (some ⟨g, 0, none⟩), .int .i64 root] w (RIdxRet w g (X.free root) (.tuple #[])) := by
  by_cases h0 : root = 0
  · subst h0
    exact refFree_any w g K X 0 h hok hK (.inl rfl) (fun e => by rw [zeroN hI] at e; omega)
  · have ho : opt root HR = root :: HR := by unfold opt; rw [if_neg h0]
    rw [ho] at hI
    refine refFree_any w g K X root h hok hK (.inr ?_) (fun e => free_kids hI e)
    rw [hI.hasN]
    simpa using (hI.hr root (by simp)).1
end Go.Proofs.YtlgahdabhnhjgaaGreatDoor

/- The reference's index: Nodes, Diff; the empty one. -/
namespace Go.Proofs.YtlgahdabhnhjgaaGreatDoor
open Go.RowKit Go.Maps

theorem NodsAt.lt {w : World} {g : Nat} {N : NodM} (h : NodsAt w g N) : g < w.heap.size := World.block_lt_of_cell? w ⟨g, 82 + 0 * 5 + 4, none⟩ (h.refs 0 (by omega))
theorem zeroIdx_nods : Tryz.zeroCells84.toList.drop 82 = List.replicate 125 (Value.int .i64 0) := by kernel_rfl
theorem zeroIdx_past (i : Nat) (h1 : 82 ≤ i) (h2 : i < 207) : Tryz.zeroCells84[i]? = some (.int .i64 0) := by
  have e : Tryz.zeroCells84[i]? = (Tryz.zeroCells84.toList.drop 82)[i - 82]? := by
    rw [List.getElem?_drop, show 82 + (i - 82) = i by omega, Array.getElem?_toList]
  rw [e, zeroIdx_nods, List.getElem?_replicate, if_pos (by omega)]
theorem ridx_new (w : World) : RIdxAt (w.alloc (.cells Tryz.zeroCells84 84)) w.heap.size emptyIdx := by
  refine ⟨blks_new w, fun n i hn hi => ?_, fun n hn => ?_⟩
  · rw [World.cell?_alloc_at _ _ _ _ rfl, zeroIdx_past _ (by omega) (by omega)]
    match i, hi with
    | 0, _ => rfl
    | 1, _ => rfl
    | 2, _ => rfl
    | 3, _ => rfl
  · rw [World.cell?_alloc_at _ _ _ _ rfl, zeroIdx_past _ (by omega) (by omega)]
    rfl

def nodesUp (N : NodM) (k : Nat) : List Int := ((List.range k).map fun i => ((i : Nat) : Int) + 1).filter fun m => (nodMap N m).isSome
theorem nodesUp_succ (N : NodM) (k : Nat) (hk : k < 24) : nodesUp N (k + 1) = nodesUp N k ++ if 0 < (N (k + 1)).refs then [((k + 1 : Nat) : Int)] else [] := by
  unfold nodesUp
  rw [List.range_succ, List.map_append, List.filter_append]
  congr 1
  have e : ((k : Int) + 1) = ((k + 1 : Nat) : Int) := by omega
  have : (nodMap N ((k + 1 : Nat) : Int)).isSome = decide (0 < (N (k + 1)).refs) := by
    rw [nodMap_isSome, Bool.eq_iff_iff, hasNod_iff]
    simp only [Int.toNat_natCast, decide_eq_true_eq]
    omega
  by_cases h : 0 < (N (k + 1)).refs
  · simp only [List.map_cons, List.map_nil, List.filter_cons, List.filter_nil, e, this, h, decide_true, if_true]
  · simp only [List.map_cons, List.map_nil, List.filter_cons, List.filter_nil, e, this, h, decide_false, if_false, Bool.false_eq_true]
theorem nodesUp_all (N : NodM) : nodesUp N 24 = nodsOf N := rfl
theorem nodesUp_len (N : NodM) (k : Nat) : (nodesUp N k).length ≤ k := by
  have := List.length_filter_le (fun m => (nodMap N m).isSome) ((List.range k).map fun i => ((i : Nat) : Int) + 1)
  simpa [nodesUp] using this

set_option maxHeartbeats 1000000 in
set_option maxRecDepth 100000 in
theorem refNodes_any (g : Nat) (w : World) (N : NodM) (h : NodsAt w g N) :
    Calls Tryz.prog 41 #[.pointer (some ⟨g, 0, none⟩)] w (RetInts w (nodsOf N)) := by
  obtain ⟨i0, hi, hz0, hz1, hz2⟩ := info_parts Tryz.infoInt
  rw [← nodesUp_all]
  go_enter Tryz.func41, Tryz.ntmps41
  go_wp2
  go_loopw [3, 4] (fun v i w' => ∃ k : Nat, k ≤ 24 ∧ i = .int .i64 ((k + 1 : Nat) : Int) ∧ OwnInts w' w.heap.size v (nodesUp N k) ∧ Below w.heap.size w w') (fun _ i _ => 25 - (intOf i).toNat)
  case atStart => exact ⟨0, Nat.zero_le _, rfl, World.ownsRow_nil _ _ _ _, Below.refl _ _⟩
  case round =>
    obtain ⟨k, hk, rfl, hO, hb0⟩ := hrel
    by_cases hlt : k < 24
    · have hB := h.keep (hb0.block g (h.lt))
      have hD := nodesUp_succ N k hlt
      have hlen := nodesUp_len N k
      obtain ⟨n, hn⟩ : ∃ n, k + 1 = n := ⟨_, rfl⟩
      have HN := Lib.hid hn
      rw [hn] at hD ⊢
      have c1 := hB.refs n (by omega)
      have i1 : (0 : Int) ≤ (n : Int) := by omega
      have i2 : (n : Int) < 25 := by omega
      have i4 : (n : Int) ≤ 24 := by omega
      have hsz := hb0.size
      by_cases hu : 0 < (N n).refs
      · rw [if_pos hu] at hD
        have HD := Lib.hid hD
        clear hD hn
        go_wp2_with (at_builtin; refine wpList_append_own _ rfl _ _ 61 rfl w.heap.size 3 i0 (.int .i64 0) 1 8 Tryz.underlying61 hi hz0 hz1 hz2 rfl (by decide) _ _ _ rfl (World.ownsRow.alloc hO _) ⟨wr.heap.size, 0, none⟩ 1 1 [.int .i64 (n : Int)] rfl rfl (cell_one_new _ _ _) (by simp [Value.oneCell']) (by unfold maxLen; omega) (by omega) (by simp; omega) ?_; intro v' w3 hown' hg3 hnil3)
        go_wp2
        go_roundw
        case rel => exact ⟨k + 1, hlt, by have := HN.out; subst this; go_num, by rw [HN.out, HD.out]; unfold OwnInts; simpa using hown', (hb0.alloc hsz _).grown hg3 (by simp; omega) (fun j hj => (World.ownsRow.lt hO j hj).1)⟩
        case measure => have := HN.out; simp [intOf]; omega
      · rw [if_neg hu, List.append_nil] at hD
        have HD := Lib.hid hD
        have i3 : decide (0 < (N n).refs) = false := by simpa using hu
        clear hD hn
        go_wp2
        go_roundw
        case rel => exact ⟨k + 1, hlt, by have := HN.out; subst this; go_num, by rw [HN.out, HD.out]; exact hO, hb0⟩
        case measure => have := HN.out; simp [intOf]; omega
    · obtain rfl : k = 24 := by omega
      go_wp2
      go_ret
      exact ⟨_, rfl, hO, hb0⟩

/-- Get, its answer named. -/
theorem refIGet_e (w : World) (g K : Nat) (X : IdxM) (root at_ : Nat) (s : ByteArray) (h : RIdxAt w g X) (hok : X.Ok K) (hr : root ≤ 24) (hl : (X.N root).kid (at_ / 4) ≤ 24) (ha : at_ < 16) (hs : X.get root at_ = s) :
    Calls Tryz.prog 66 #[.pointer (some ⟨g, 0, none⟩), .int .i64 root, .int .i64 at_] w fun e w' => e = .returned (.string s) ∧ Below w.heap.size w w' := by
  subst hs; exact refIGet_any w g K X root at_ h hok hr hl ha

end Go.Proofs.YtlgahdabhnhjgaaGreatDoor

/- asIndex: an index has what its model has. -/
namespace Go.Proofs.YtlgahdabhnhjgaaGreatDoor
open Go.RowKit Go.Maps

theorem idxNumbersS (w : World) (x gp bp bn K : Nat) (X : IdxM) (l : List Int) (n : Nat) (h : IdxAt w x gp bp bn K X) (hl : nodsOf X.N = l) (hn : l.length = n) : Calls Tryz.prog 26 #[.pointer (some ⟨x, 0, none⟩)] w (RetS w l n) := by
  subst hl; exact (idxNumbers_any w x gp bp bn K X h).mono fun _ _ h => retS_of hn h
theorem nodesS (g : Nat) (w : World) (N : NodM) (l : List Int) (n : Nat) (h : NodsAt w g N) (hl : nodsOf N = l) (hn : l.length = n) : Calls Tryz.prog 41 #[.pointer (some ⟨g, 0, none⟩)] w (RetS w l n) := by
  subst hl; exact (refNodes_any g w N h).mono fun _ _ h => retS_of hn h

theorem equal4_self (a b c d : Int) (w : World) : (Op.equalIn 9999 79 (.agg #[.int .i64 a, .int .i64 b, .int .i64 c, .int .i64 d]) (.agg #[.int .i64 a, .int .i64 b, .int .i64 c, .int .i64 d])).run Tryz.prog w = .ok true w := by
  have := equal_ints (P := Tryz.prog) w 9997 79 3 4 Tryz.underlying79 Tryz.underlying3 Tryz.sizeOf3 [a, b, c, d] [a, b, c, d] rfl rfl
  simp only [List.map] at this
  rw [this]
  simp

set_option maxHeartbeats 4000000 in
set_option maxRecDepth 100000 in
theorem asIndex_yes (w : World) (x gp bp bn K gm : Nat) (X : IdxM) (h : IdxAt w x gp bp bn K X) (hm : RIdxAt w gm X) :
    Calls Tryz.prog 45 #[.pointer (some ⟨x, 0, none⟩), .pointer (some ⟨gm, 0, none⟩)] w fun e w' => e = .returned (.bool true) ∧ Below w.heap.size w w' := by
  obtain ⟨L, hL⟩ : ∃ L, numsOf X.P = L := ⟨_, rfl⟩
  obtain ⟨M, hM⟩ : ∃ M, nodsOf X.N = M := ⟨_, rfl⟩
  obtain ⟨n, hn⟩ : ∃ n, L.length = n := ⟨_, rfl⟩
  obtain ⟨m, hmm⟩ : ∃ m, M.length = m := ⟨_, rfl⟩
  have hn40 : n ≤ 40 := by rw [← hn, ← hL]; exact keysOf_le _ _
  have hm24 : m ≤ 24 := by rw [← hmm, ← hM]; exact keysOf_le _ _
  have HL := Lib.hid hL
  have HM := Lib.hid hM
  have HN := Lib.hid hn
  have HMM := Lib.hid hmm
  have HP1 := Lib.hid (fun w' (h' : IdxAt w' x gp bp bn K X) => numbersS gp bp K w' X.P L n h'.pool hL hn)
  have HP2 := Lib.hid (fun w' (h' : RIdxAt w' gm X) => blocksS gm w' X.P L n h'.blks hL hn)
  have HN1 := Lib.hid (fun w' (h' : IdxAt w' x gp bp bn K X) => idxNumbersS w' x gp bp bn K X M m h' hM hmm)
  have HN2 := Lib.hid (fun w' (h' : RIdxAt w' gm X) => nodesS gm w' X.N M m h'.nods hM hmm)
  have c0 := h.cell0
  clear hL hM hn hmm
  go_enter Tryz.func45, Tryz.ntmps45
  go_wp2_with fail
  ((with_reducible refine (HP1.out _ h).mono ?_); rintro e w1 ⟨A1, c1, rfl, hA1, hb1⟩)
  replace h := h.below hb1
  replace hm := hm.below hb1
  clear c0
  go_wp2_with fail
  ((with_reducible refine (HP2.out _ hm).mono ?_); rintro e w2 ⟨A2, c2, rfl, hA2, hb2⟩)
  replace h := h.below hb2
  replace hm := hm.below hb2
  have hA3 := hA1.below hb2
  replace hb2 := belowThen hb1 hb2
  clear hb1 hA1
  go_wp2_with fail
  ((with_reducible refine (sameS A1 A2 c1 c2 n L _ hA3 hA2 HN.out (by omega)).mono ?_); rintro e w3 ⟨rfl, hb3⟩)
  replace h := h.below hb3
  replace hm := hm.below hb3
  replace hb3 := belowThen hb2 hb3
  clear hb2 hA3 hA2
  go_wp2_with fail
  ((with_reducible refine (HN1.out _ h).mono ?_); rintro e w4 ⟨A4, c4, rfl, hA4, hb4⟩)
  replace h := h.below hb4
  replace hm := hm.below hb4
  replace hb4 := belowThen hb3 hb4
  clear hb3
  go_wp2_with fail
  ((with_reducible refine (HN2.out _ hm).mono ?_); rintro e w5 ⟨A5, c5, rfl, hA5, hb5⟩)
  replace h := h.below hb5
  replace hm := hm.below hb5
  have hA6 := hA4.below hb5
  replace hb5 := belowThen hb4 hb5
  clear hb4 hA4
  go_wp2_with fail
  ((with_reducible refine (sameS A4 A5 c4 c5 m M _ hA6 hA5 HMM.out (by omega)).mono ?_); rintro e w6 ⟨rfl, hb6⟩)
  replace h := h.below hb6
  replace hm := hm.below hb6
  replace hb6 := belowThen hb5 hb6
  clear hb5 hA5 hA6
  go_wp2_with fail
  ((with_reducible refine (HP2.out _ hm).mono ?_); rintro e w7 ⟨A7, c7, rfl, hA7, hb7⟩)
  replace h := h.below hb7
  replace hm := hm.below hb7
  replace hb7 := belowThen hb6 hb7
  clear hb6
  go_wp2
  go_loopw [6] (fun i w' => ∃ j : Nat, j ≤ n ∧ i = .int .i64 j ∧ IdxAt w' x gp bp bn K X ∧ RIdxAt w' gm X ∧ IntsAt w' A7 L ∧ Below w.heap.size w w') (fun i _ => n - (intOf i).toNat)
  case atStart => exact ⟨0, Nat.zero_le _, rfl, h, hm, hA7, hb7⟩
  case round =>
    obtain ⟨j, hj, rfl, hX, hR, hA, hb⟩ := hrel
    clear h hm hA7 hb7
    by_cases hjn : j < n
    · have hjL : j < L.length := by rw [HN.out]; exact hjn
      obtain ⟨gn, on, rfl, cj⟩ := hA j hjL
      obtain ⟨v, hv⟩ : ∃ v, L[j] = v := ⟨_, rfl⟩
      have hxm : v ∈ numsOf X.P := by rw [HL.out, ← hv]; exact List.getElem_mem hjL
      have hxs : hasBlk X.P v = true := by rw [← poolMap_isSome]; exact (List.mem_filter.1 hxm).2
      obtain ⟨x1, x2, _⟩ := (hasBlk_iff X.P v).1 hxs
      obtain ⟨y, rfl⟩ := Int.eq_ofNat_of_zero_le (show 0 ≤ v by omega)
      rw [hv] at cj
      have hlook : ∀ z : Value, (poolMap X.P y).getD z = .agg #[.string (X.P y).data, .int .i64 (X.P y).refs] := fun z => by
        unfold poolMap
        rw [if_pos hxs]
        rfl
      have HLK := Lib.hid hlook
      have y1 : (0 : Int) ≤ (y : Int) := by omega
      have y2 : (y : Int) < 41 := by omega
      have j1 : (j : Int) < (n : Int) := by omega
      have hy40 : y ≤ 40 := by omega
      clear hlook hxm hxs hv hjL
      go_wp2_with fail
      refine region_tail 21 (by kernel_rfl) (by kernel_rfl) ?_
      intro w13 hw13
      have hX13 : IdxAt w13 x gp bp bn K X := by rw [hw13]; exact hX.below (Below.refl _ _).drew
      have hR13 : RIdxAt w13 gm X := by rw [hw13]; exact hR.keep rfl
      have hA13 : IntsAt w13 (some ⟨gn, on, none⟩) L := by rw [hw13]; exact hA.below (Below.refl _ _).drew
      have c13 : w13.cell? ⟨gn, on + j, none⟩ = some (.int .i64 y) := by rw [hw13]; exact cj
      have hb13 : Below w.heap.size w w13 := by rw [hw13]; exact hb.drew
      have k0 := hX13.cell0
      have k1 := hX13.pool.cell
      have k2 := hR13.blks.data y hy40
      have k3 := hR13.blks.refs y hy40
      have hlk : (Instr.lookup 95 (.map (some bp)) (.int .i64 y) false).run Tryz.prog w13 = .ok (.agg #[.string (X.P y).data, .int .i64 (X.P y).refs]) w13 := by
        rw [hX13.pool.map.look Tryz.underlying95 (Tryz.zeroBlock _) (by omega), HLK.out]
      clear hw13 hX hR hA cj hb
      simp only [List.take_succ_cons, List.take_zero, List.drop_succ_cons, List.drop_zero]
      repeat still_step
      refine wpStill_nil ?_
      go_wp2
      go_roundw
      case rel => exact ⟨j + 1, hjn, by go_num, hX13, hR13, hA13, hb13⟩
      case measure => simp [intOf]; omega
    · go_wp2_with fail
      ((with_reducible refine (HN2.out _ hR).mono ?_); rintro e w8 ⟨A8, c8, rfl, hA8, hb8⟩)
      replace hX := hX.below hb8
      replace hR := hR.below hb8
      replace hb8 := belowThen hb hb8
      clear hb hA
      go_wp2
      go_loopw [8] (fun i w' => ∃ j : Nat, j ≤ m ∧ i = .int .i64 j ∧ IdxAt w' x gp bp bn K X ∧ RIdxAt w' gm X ∧ IntsAt w' A8 M ∧ Below w.heap.size w w') (fun i _ => m - (intOf i).toNat)
      case atStart => exact ⟨0, Nat.zero_le _, rfl, hX, hR, hA8, hb8⟩
      case round =>
        obtain ⟨i, hi, rfl, hX9, hR9, hA9, hb9⟩ := hrel
        clear hX hR hA8 hb8
        by_cases him : i < m
        · have hjL : i < M.length := by rw [HMM.out]; exact him
          obtain ⟨gn, on, rfl, cj⟩ := hA9 i hjL
          obtain ⟨v, hv⟩ : ∃ v, M[i] = v := ⟨_, rfl⟩
          have hxm : v ∈ nodsOf X.N := by rw [HM.out, ← hv]; exact List.getElem_mem hjL
          have hxs : hasNod X.N v = true := by rw [← nodMap_isSome]; exact (List.mem_filter.1 hxm).2
          obtain ⟨x1, x2, _⟩ := (hasNod_iff X.N v).1 hxs
          obtain ⟨y, rfl⟩ := Int.eq_ofNat_of_zero_le (show 0 ≤ v by omega)
          rw [hv] at cj
          have y1 : (0 : Int) ≤ (y : Int) := by omega
          have y2 : (y : Int) < 25 := by omega
          have j1 : (i : Int) < (m : Int) := by omega
          have hy24 : y ≤ 24 := by omega
          clear hxm hxs hv hjL
          go_wp2_with fail
          refine region_tail 18 (by kernel_rfl) (by kernel_rfl) ?_
          intro w13 hw13
          have hX13 : IdxAt w13 x gp bp bn K X := by rw [hw13]; exact hX9.below (Below.refl _ _).drew
          have hR13 : RIdxAt w13 gm X := by rw [hw13]; exact hR9.keep rfl
          have hA13 : IntsAt w13 (some ⟨gn, on, none⟩) M := by rw [hw13]; exact hA9.below (Below.refl _ _).drew
          have c13 : w13.cell? ⟨gn, on + i, none⟩ = some (.int .i64 y) := by rw [hw13]; exact cj
          have hb13 : Below w.heap.size w w13 := by rw [hw13]; exact hb9.drew
          have k1 := hX13.cell1
          have e0 : w13.cell? ⟨gm, 82 + y * 5, none⟩ = some (.int .i64 (X.N y).k0) := hR13.nods.kid y 0 hy24 (by omega)
          have e1 : w13.cell? ⟨gm, 82 + y * 5 + 1, none⟩ = some (.int .i64 (X.N y).k1) := hR13.nods.kid y 1 hy24 (by omega)
          have e2 : w13.cell? ⟨gm, 82 + y * 5 + 2, none⟩ = some (.int .i64 (X.N y).k2) := hR13.nods.kid y 2 hy24 (by omega)
          have e3 : w13.cell? ⟨gm, 82 + y * 5 + 3, none⟩ = some (.int .i64 (X.N y).k3) := hR13.nods.kid y 3 hy24 (by omega)
          have e4 := hR13.nods.refs y hy24
          have hlk : (Instr.lookup 64 (.map (some bn)) (.int .i64 y) false).run Tryz.prog w13 = .ok (.agg #[.int .i64 (X.N y).k0, .int .i64 (X.N y).k1, .int .i64 (X.N y).k2, .int .i64 (X.N y).k3, .int .i64 (X.N y).refs]) w13 := by
            rw [hX13.map.look Tryz.underlying64 (Tryz.zeroNode _) (by omega), nodMap_get hX13.ok]
            rfl
          have heq := equal4_self (X.N y).k0 (X.N y).k1 (X.N y).k2 (X.N y).k3 w13
          clear hw13 hX9 hR9 hA9 cj hb9
          simp only [List.take_succ_cons, List.take_zero, List.drop_succ_cons, List.drop_zero]
          repeat still_step
          refine wpStill_nil ?_
          go_wp2
          go_roundw
          case rel => exact ⟨i + 1, him, by go_num, hX13, hR13, hA13, hb13⟩
          case measure => simp [intOf]; omega
        · go_wp2
          go_ret
          exact ⟨rfl, hb9⟩
end Go.Proofs.YtlgahdabhnhjgaaGreatDoor
