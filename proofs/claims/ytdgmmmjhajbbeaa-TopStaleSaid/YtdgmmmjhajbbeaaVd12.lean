/- Package vdisk: Drop, the walk. -/
import Derived.Test.YtdgmmmjhajbbeaaVd11
namespace Go.Proofs.Ytdgmmmjhajbbeaa
open Go.RowKit

/-- What Drop meets in memory at a snapshot that is not the first one. -/
theorem drop_open {B g : Nat} {w : World} {D : DiskM} (hD : DiskAt B w g D) {id : Int} {i k : Nat} (hik : i = k + 1) (hp : posIn D.snaps id = some i) :
    ∃ gb c s tv D', D'.snaps.length = D.snaps.length ∧ { D' with snaps := D'.snaps.eraseIdx i } = dropM D id ∧ w.cell? ⟨g, 18, none⟩ = some (.slice (some ⟨gb, 0, none⟩) D.snaps.length c) ∧ (∃ cur, w.heap[gb]? = some (.cells cur 142 (0, 0)) ∧ i * 20 + 20 ≤ cur.size ∧ cut cur (i * 20) 20 = sArr s tv) ∧
      Calls Try.prog 93 #[.pointer (some ⟨gb, k * 20, none⟩), .agg (sArr s tv)] w.drew (DropStep B g D' w.drew) := by
  subst hik
  obtain ⟨hi, _⟩ := posIn_lt hp
  have hget : D.snaps[k]? = some (D.snaps[k]'(by omega)) := List.getElem?_eq_getElem (by omega)
  have hget' : D.snaps[k + 1]? = some D.snaps[k + 1] := List.getElem?_eq_getElem hi
  have e2 : dropM D id = { D with snaps := (D.snaps.set k (merge (D.snaps[k]'(by omega)) D.snaps[k + 1])).eraseIdx (k + 1) } := by unfold dropM; rw [hp]; simp only [dropL, hget, hget']
  obtain ⟨sv, hg, LS, hL, hO, hT⟩ := hD.mem
  have hlen : LS.length = D.snaps.length := by rw [← hL]; simp
  have c18 : w.cell? ⟨g, 18, none⟩ = some sv := cell_of_row _ _ _ _ _ _ hg
  rcases ownsRow_form hO with ⟨A, c, rfl, h0⟩ | ⟨gb, c, rfl, _⟩
  · omega
  · obtain ⟨cur, hcur, _, hcs, hnc, hcm, htake, _⟩ := row_open hO hlen
    have hfit : (k + 1) * 20 + 20 ≤ cur.size := by rw [hcs]; omega
    have hcut : cut cur ((k + 1) * 20) 20 = sArr (LS[k + 1]'(by omega)).1 (LS[k + 1]'(by omega)).2 := by
      have h := sCells_at LS (k + 1) (by omega)
      rw [← htake, List.drop_take, List.take_take, Nat.min_eq_left (by omega)] at h
      unfold cut; rw [h]
    exact ⟨gb, c, (LS[k + 1]'(by omega)).1, (LS[k + 1]'(by omega)).2, _, by simp, e2.symm, c18, ⟨cur, hcur, hfit, hcut⟩, extend_disk (k := k) (w := w.drew) (hD.below (Below.refl _ _).drew) hg hL hO.drew hlen (fun p hp => World.ownsRow.drew (hT p hp)) (by omega) hi _ rfl⟩

set_option maxHeartbeats 2000000 in
set_option maxRecDepth 100000 in
theorem drop_later (B g : Nat) (w : World) (D : DiskM) (id : Int) (i k : Nat) (hik : i = k + 1) (hD : DiskAt B w g D) (hp : posIn D.snaps id = some i) :
    Calls Try.prog 49 #[.pointer (some ⟨g, 0, none⟩), .int .i64 id] w fun e w' => e = .returned (errV 0) ∧ DiskAt B w' g (dropM D id) ∧ Step B dTypes w w' := by
  have hB0 : B ≤ w.heap.size := Nat.le_trans hD.base (Nat.le_of_lt hD.lt)
  have hi := (posIn_lt hp).1
  have h5 := hD.ok.few
  have i0 : (0 : Int) ≤ (k : Int) := by omega
  have i1 : (k : Int) < (D.snaps.length : Int) := by omega
  have i2 : (i : Int) < (D.snaps.length : Int) := by omega
  have i3 : (0 : Int) ≤ (i : Int) := by omega
  have i4 : (0 : Int) < (i : Int) := by omega
  have i7 : IntKind.i64.wrap ((i : Int) - 1) = (k : Int) := by rw [show ((i : Int) - 1) = k by omega]; exact IntWalk.i64_in _ (by omega)
  have i9 : IntKind.i64.wrap ((i : Int) + 1) = (i : Int) + 1 := IntWalk.i64_in _ (by omega)
  have OPEN := Lib.hid (fun w1 (h : DiskAt B w1 g D) => drop_open h hik hp)
  have HFS : ∀ w, DiskAt B w g D → Calls Try.prog 89 #[.pointer (some ⟨g, 0, none⟩), .int .i64 id] w fun e w' => e = .returned (.int .i64 (i : Int)) ∧ Below w.heap.size w w' := fun w h => find_some B g w D id i h hp
  have IK := Lib.hid hik
  clear hp hik
  generalize dropM D id = R at OPEN ⊢
  go_enter Try.func49, Try.ntmps49
  go_wp2_with fail
  ((with_reducible refine (HFS _ hD).mono ?_); rintro e w1 ⟨rfl, hb1⟩)
  have hs1 := Lib.hid (Step.of_below (ts := dTypes) hb1 hB0)
  obtain ⟨gb, c, s, tv, D', hlen, hR, c18, ⟨cur, hcur, hfit, hcut⟩, hext⟩ := OPEN.out w1 (hD.below hb1)
  have EXT := Lib.hid hext
  clear hD HFS OPEN hb1 hext
  have hi' := Lib.hid (show i < D'.snaps.length by omega)
  generalize D.snaps.length = n at *
  have HL := Lib.hid hlen
  have HR := Lib.hid hR
  clear hlen hR hi h5
  have CUR := Lib.hid hcur
  have CUT := Lib.hid hcut
  have FIT := Lib.hid hfit
  clear hcur hcut hfit
  go_wp2
  refine wp_region_any (by kernel_rfl) ?_
  (try (change wpAny _ _ _ _ _ _ _ (World.drew _)))
  refine wpAny_take (i := 0) (v := ?_) rfl (by kernel_rfl) (by kernel_rfl) (by kernel_rfl) (fun _ _ _ h => h) (Or.inl ⟨by rfl, ?_⟩) ?_
  rotate_left
  · intro w; go_simp; (try with_reducible rfl)
  refine wpAny_take (i := 1) (v := ?_) rfl (by kernel_rfl) (by kernel_rfl) (by kernel_rfl) (fun _ _ _ h => h) (Or.inl ⟨by rfl, ?_⟩) ?_
  rotate_left
  · intro w; go_simp; (try with_reducible rfl)
  refine wpAny_take (i := 2) (v := ?_) rfl (by kernel_rfl) (by kernel_rfl) (by kernel_rfl) (fun _ _ _ h => h) (Or.inl ⟨by rfl, ?_⟩) ?_
  rotate_left
  · intro w; go_simp; (try with_reducible rfl)
  refine wpAny_take (i := 4) (v := ?_) rfl (by kernel_rfl) (by kernel_rfl) (by kernel_rfl) (fun _ _ _ h => h) (Or.inl ⟨by rfl, ?_⟩) ?_
  rotate_left
  · intro w; go_simp; (try with_reducible rfl)
  refine wpAny_take (i := 5) (v := ?_) rfl (by kernel_rfl) (by kernel_rfl) (by kernel_rfl) (fun _ _ _ h => h) (Or.inl ⟨by rfl, ?_⟩) ?_
  rotate_left
  · intro w; go_simp; (try with_reducible rfl)
  refine wpAny_take (i := 7) (v := ?_) rfl (by kernel_rfl) (by kernel_rfl) (by kernel_rfl) (fun _ _ _ h => h) (Or.inl ⟨by rfl, ?_⟩) ?_
  rotate_left
  · intro w; go_simp; (try with_reducible rfl)
  refine wpAny_take (i := 8) (v := ?_) rfl (by kernel_rfl) (by kernel_rfl) (by kernel_rfl) (fun _ _ _ h => h) (Or.inl ⟨by rfl, ?_⟩) ?_
  rotate_left
  · intro w; go_simp; (try with_reducible rfl)
  refine wpAny_take (i := 9) (v := ?_) rfl (by kernel_rfl) (by kernel_rfl) (by kernel_rfl) (fun _ _ _ h => h) (Or.inl ⟨by rfl, ?_⟩) ?_
  rotate_left
  · intro w; go_simp; (try with_reducible rfl)
  refine wpAny_take (i := 11) (v := ?_) rfl (by kernel_rfl) (by kernel_rfl) (by kernel_rfl) (fun _ _ _ h => h) (Or.inl ⟨by rfl, ?_⟩) ?_
  rotate_left
  · intro w; go_simp; (try with_reducible rfl)
  refine wpAny_ready (rs := [3, 10]) (by kernel_rfl) (by simp) ?_
  refine AllReady.cons rfl (fun K hK => ?_) ?_
  · go_simp
    refine hK _ _ ?_
    clear hK K
    refine wpAny_take (i := 6) (v := ?_) rfl (by kernel_rfl) (by kernel_rfl) (by kernel_rfl) (fun _ _ _ h => h) (Or.inl ⟨by rfl, ?_⟩) ?_
    rotate_left
    · intro w; go_simp; (try with_reducible rfl)
    refine wpAny_ready (rs := [10]) (by kernel_rfl) (by simp) ?_
    refine AllReady.cons rfl (fun K hK => ?_) ?_
    · go_simp
      refine hK _ _ ?_
      clear hK K
      refine wpAny_take (i := 12) (v := ?_) rfl (by kernel_rfl) (by kernel_rfl) (by kernel_rfl) (fun _ _ _ h => h) (Or.inl ⟨by rfl, ?_⟩) ?_
      rotate_left
      · intro w; go_simp; (try with_reducible rfl)
      refine wpAny_ready (rs := [13]) (by kernel_rfl) (by simp) ?_
      refine AllReady.cons rfl (fun K hK => ?_) ?_
      · refine step_load_at rfl 142 _ rfl gb (i * 20) 20 (by simp [Act.eval, Act.put]) 142 cur (0, 0) _ CUR.out Try.underlying142 rfl (by kernel_rfl) FIT.out (sArr s tv) CUT.out ?_
        go_simp
        refine hK _ _ ?_
        clear hK K
        refine wpAny_ready (rs := [14]) (by kernel_rfl) (by simp) ?_
        refine AllReady.cons rfl (fun K hK => ?_) AllReady.nil
        go_simp
        refine (EXT.out).mono ?_
        rintro e w2 ⟨rfl, hD2, hs2⟩
        refine hK _ _ ?_
        clear hK K
        refine wpAny_done (by kernel_rfl) ?_ _
        obtain ⟨gb2, c2, e18, hdel⟩ := delete_disk hD2 (i := i) hi'.out
        have hs12 := Lib.hid ((hs1.out.drew).trans hs2)
        clear hs1 hs2 hD2 c18 EXT CUR CUT FIT
        rw [HL.out] at e18 hdel
        go_wp2_with fail
        ((with_reducible refine (hdel _ rfl _ rfl _ rfl).mono ?_); rintro e w3 ⟨rfl, f1, f2, f3, f4⟩)
        go_wp2
        go_ret
        rw [HR.out] at f3
        exact ⟨rfl, f3, hs12.out.trans f4⟩
      · exact AllReady.nil
    · exact AllReady.nil
  · skip
    refine AllReady.cons rfl (fun K hK => ?_) ?_
    · go_simp
      refine hK _ _ ?_
      clear hK K
      refine wpAny_take (i := 12) (v := ?_) rfl (by kernel_rfl) (by kernel_rfl) (by kernel_rfl) (fun _ _ _ h => h) (Or.inl ⟨by rfl, ?_⟩) ?_
      rotate_left
      · intro w; go_simp; (try with_reducible rfl)
      refine wpAny_ready (rs := [3, 13]) (by kernel_rfl) (by simp) ?_
      refine AllReady.cons rfl (fun K hK => ?_) ?_
      · go_simp
        refine hK _ _ ?_
        clear hK K
        refine wpAny_take (i := 6) (v := ?_) rfl (by kernel_rfl) (by kernel_rfl) (by kernel_rfl) (fun _ _ _ h => h) (Or.inl ⟨by rfl, ?_⟩) ?_
        rotate_left
        · intro w; go_simp; (try with_reducible rfl)
        refine wpAny_ready (rs := [13]) (by kernel_rfl) (by simp) ?_
        refine AllReady.cons rfl (fun K hK => ?_) ?_
        · refine step_load_at rfl 142 _ rfl gb (i * 20) 20 (by simp [Act.eval, Act.put]) 142 cur (0, 0) _ CUR.out Try.underlying142 rfl (by kernel_rfl) FIT.out (sArr s tv) CUT.out ?_
          go_simp
          refine hK _ _ ?_
          clear hK K
          refine wpAny_ready (rs := [14]) (by kernel_rfl) (by simp) ?_
          refine AllReady.cons rfl (fun K hK => ?_) AllReady.nil
          go_simp
          refine (EXT.out).mono ?_
          rintro e w2 ⟨rfl, hD2, hs2⟩
          refine hK _ _ ?_
          clear hK K
          refine wpAny_done (by kernel_rfl) ?_ _
          obtain ⟨gb2, c2, e18, hdel⟩ := delete_disk hD2 (i := i) hi'.out
          have hs12 := Lib.hid ((hs1.out.drew).trans hs2)
          clear hs1 hs2 hD2 c18 EXT CUR CUT FIT
          rw [HL.out] at e18 hdel
          go_wp2_with fail
          ((with_reducible refine (hdel _ rfl _ rfl _ rfl).mono ?_); rintro e w3 ⟨rfl, f1, f2, f3, f4⟩)
          go_wp2
          go_ret
          rw [HR.out] at f3
          exact ⟨rfl, f3, hs12.out.trans f4⟩
        · exact AllReady.nil
      · skip
        refine AllReady.cons rfl (fun K hK => ?_) ?_
        · refine step_load_at rfl 142 _ rfl gb (i * 20) 20 (by simp [Act.eval, Act.put]) 142 cur (0, 0) _ CUR.out Try.underlying142 rfl (by kernel_rfl) FIT.out (sArr s tv) CUT.out ?_
          go_simp
          refine hK _ _ ?_
          clear hK K
          refine wpAny_ready (rs := [3]) (by kernel_rfl) (by simp) ?_
          refine AllReady.cons rfl (fun K hK => ?_) ?_
          · go_simp
            refine hK _ _ ?_
            clear hK K
            refine wpAny_take (i := 6) (v := ?_) rfl (by kernel_rfl) (by kernel_rfl) (by kernel_rfl) (fun _ _ _ h => h) (Or.inl ⟨by rfl, ?_⟩) ?_
            rotate_left
            · intro w; go_simp; (try with_reducible rfl)
            refine wpAny_ready (rs := [14]) (by kernel_rfl) (by simp) ?_
            refine AllReady.cons rfl (fun K hK => ?_) AllReady.nil
            go_simp
            refine (EXT.out).mono ?_
            rintro e w2 ⟨rfl, hD2, hs2⟩
            refine hK _ _ ?_
            clear hK K
            refine wpAny_done (by kernel_rfl) ?_ _
            obtain ⟨gb2, c2, e18, hdel⟩ := delete_disk hD2 (i := i) hi'.out
            have hs12 := Lib.hid ((hs1.out.drew).trans hs2)
            clear hs1 hs2 hD2 c18 EXT CUR CUT FIT
            rw [HL.out] at e18 hdel
            go_wp2_with fail
            ((with_reducible refine (hdel _ rfl _ rfl _ rfl).mono ?_); rintro e w3 ⟨rfl, f1, f2, f3, f4⟩)
            go_wp2
            go_ret
            rw [HR.out] at f3
            exact ⟨rfl, f3, hs12.out.trans f4⟩
          · exact AllReady.nil
        · exact AllReady.nil
    · exact AllReady.nil

set_option maxHeartbeats 2000000 in
set_option maxRecDepth 100000 in
theorem drop_any (B g : Nat) (w : World) (D : DiskM) (id : Int) (hD : DiskAt B w g D) :
    Calls Try.prog 49 #[.pointer (some ⟨g, 0, none⟩), .int .i64 id] w fun e w' => e = .returned (errV (dropErr D id)) ∧ DiskAt B w' g (dropM D id) ∧ Step B dTypes w w' := by
  have hB0 : B ≤ w.heap.size := Nat.le_trans hD.base (Nat.le_of_lt hD.lt)
  cases hp : posIn D.snaps id with
  | none =>
    have e1 : dropErr D id = 5 := by unfold dropErr; rw [hp]
    have e2 : dropM D id = D := by unfold dropM; rw [hp]
    rw [e1, e2]
    clear e1 e2
    go_enter Try.func49, Try.ntmps49
    go_wp2_with fail
    ((with_reducible refine (find_none B g _ D id hD hp).mono ?_); rintro e w1 ⟨rfl, hb1⟩)
    go_wp2
    go_ret
    exact ⟨rfl, hD.below hb1, Step.of_below hb1 hB0⟩
  | some i =>
    have hi := (posIn_lt hp).1
    have h5 := hD.ok.few
    have e1 : dropErr D id = 0 := by unfold dropErr; rw [hp]
    rw [e1]
    clear e1
    cases i with
    | zero =>
      have e2 : dropM D id = { D with snaps := D.snaps.eraseIdx 0 } := by unfold dropM; rw [hp]; rfl
      rw [e2]
      clear e2
      have HFS : ∀ w, DiskAt B w g D → Calls Try.prog 89 #[.pointer (some ⟨g, 0, none⟩), .int .i64 id] w fun e w' => e = .returned (.int .i64 0) ∧ Below w.heap.size w w' := fun w h => find_some B g w D id 0 h hp
      clear hp
      go_enter Try.func49, Try.ntmps49
      go_wp2_with fail
      ((with_reducible refine (HFS _ hD).mono ?_); rintro e w1 ⟨rfl, hb1⟩)
      have hD1 := hD.below hb1
      have hs1 : Step B dTypes w w1 := Step.of_below hb1 hB0
      clear hD HFS
      obtain ⟨gb, c, c18, hdel⟩ := delete_disk hD1 hi
      go_wp2_with fail
      ((with_reducible refine (hdel _ (by simp) _ (by simp) _ rfl).mono ?_); rintro e w2 ⟨rfl, d1, d2, d3, d4⟩)
      go_wp2
      go_ret
      exact ⟨rfl, d3, hs1.trans d4⟩
    | succ k => exact drop_later B g w D id (k + 1) k rfl hD hp
end Go.Proofs.Ytdgmmmjhajbbeaa
