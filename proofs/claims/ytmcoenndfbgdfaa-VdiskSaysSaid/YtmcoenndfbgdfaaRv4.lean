/- The document's tracked disk: at, Read, SizeOf. -/
import Derived.Test.YtmcoenndfbgdfaaRv3
namespace Go.Proofs.Ytmcoenndfbgdfaa
open Go.RowKit

/-- Where a snapshot is. -/
def rposIn : List RSn → Int → Option Nat
  | [], _ => none
  | s :: r, id => if (s.id : Int) = id then some 0 else (rposIn r id).map (· + 1)
theorem rpos_lt : ∀ {L : List RSn} {id : Int} {i : Nat}, rposIn L id = some i → ∃ h : i < L.length, (L[i].id : Int) = id
  | [], _, _, h => by simp [rposIn] at h
  | s :: r, id, i, h => by
    unfold rposIn at h
    split at h
    · rename_i e
      simp only [Option.some.injEq] at h
      subst h
      exact ⟨by simp, e⟩
    · cases hr : rposIn r id with
      | none => rw [hr] at h; simp at h
      | some j =>
        rw [hr] at h
        simp only [Option.map_some, Option.some.injEq] at h
        subst h
        obtain ⟨h1, h2⟩ := rpos_lt hr
        exact ⟨by simp; omega, by simpa using h2⟩
/-- Not among the first k: then where it is among the others. -/
def NotIn (L : List RSn) (k : Nat) (id : Int) : Prop := rposIn L id = (rposIn (L.drop k) id).map (· + k)
theorem notIn_zero (L : List RSn) (id : Int) : NotIn L 0 id := by unfold NotIn; simp
theorem notIn_step {L : List RSn} {k : Nat} {id : Int} (h : NotIn L k id) (hk : k < L.length) (hne : ¬ (L[k].id : Int) = id) : NotIn L (k + 1) id := by
  unfold NotIn at *
  rw [h, List.drop_eq_getElem_cons hk, rposIn, if_neg hne]
  cases rposIn (L.drop (k + 1)) id with
  | none => rfl
  | some j => simp; omega
theorem notIn_here {L : List RSn} {k : Nat} {id : Int} (h : NotIn L k id) (hk : k < L.length) (he : (L[k].id : Int) = id) : rposIn L id = some k := by
  unfold NotIn at h
  rw [h, List.drop_eq_getElem_cons hk, rposIn, if_pos he]; simp
theorem notIn_end {L : List RSn} {id : Int} (h : NotIn L L.length id) : rposIn L id = none := by
  unfold NotIn at h
  rw [h, List.drop_length]; rfl

set_option maxHeartbeats 1000000 in
set_option maxRecDepth 100000 in
theorem rvat_any (B g : Nat) (w : World) (D : RVm) (id : Int) (hD : RVAt B w g D) :
    Calls Try.prog 56 #[.pointer (some ⟨g, 0, none⟩), .int .i64 id] w fun e w' => e = .returned (.int .i64 (posV (rposIn D.snaps id))) ∧ ∃ n, w' = w.drewN n := by
  obtain ⟨A, c, hg, hO, hp⟩ := rv_form hD
  have h5 := hD.ok.few
  have c35 : w.cell? ⟨g, 35, none⟩ = some (.slice A D.snaps.length c) := cell_of_row _ _ _ _ _ _ hg
  have HC := Lib.hid (fun gb (e : A = some ⟨gb, 0, none⟩) i (h : i < D.snaps.length) => show w.cell? ⟨gb, i * 35, none⟩ = some (.int .i64 D.snaps[i].id) from by
    subst e; exact rs_cell hO rfl i h 0 _ rfl)
  obtain ⟨R, hR⟩ : ∃ R, posV (rposIn D.snaps id) = R := ⟨_, rfl⟩
  rw [hR]
  have HR := Lib.hid hR
  clear hg hO hD hR
  go_enter Try.func56, Try.ntmps56
  go_wp2
  go_loopw [5] (fun i w' => ∃ k n : Nat, k ≤ D.snaps.length ∧ i = .int .i64 k ∧ Hid (NotIn D.snaps k id) ∧ w' = w.drewN n) (fun i _ => D.snaps.length - (intOf i).toNat)
  case atStart => exact ⟨0, 0, Nat.zero_le _, rfl, Lib.hid (notIn_zero _ _), rfl⟩
  case round =>
    obtain ⟨k, n, hk, rfl, HN, rfl⟩ := hrel
    by_cases hlt : k < D.snaps.length
    · obtain ⟨gb, rfl⟩ := hp (by omega)
      have d0 := HC.out gb rfl k hlt
      have i1 : (k : Int) < (D.snaps.length : Int) := by omega
      have i0 : (0 : Int) ≤ (k : Int) := by omega
      have NS := Lib.hid (notIn_step HN.out hlt)
      have NH := Lib.hid (notIn_here HN.out hlt)
      generalize D.snaps[k].id = sid at *
      by_cases he : (sid : Int) = id
      · have hRk := HR.out
        rw [NH.out he] at hRk
        have HRK := Lib.hid hRk
        clear NS NH
        subst he
        go_wp2
        go_ret
        exact ⟨ret_int (by rw [← HRK.out]; rfl), _, rfl⟩
      · have he' : ((sid : Int) == id) = false := by simpa using he
        have NS2 := Lib.hid (NS.out he)
        clear NS NH he
        go_wp2
        refine ⟨⟨k + 1, _, by omega, by go_num, NS2, rfl⟩, by simp [intOf]; omega⟩
    · have hRk := HR.out
      rw [notIn_end (by rw [show D.snaps.length = k by omega]; exact HN.out : NotIn D.snaps D.snaps.length id)] at hRk
      have HRK := Lib.hid hRk
      go_wp2
      go_ret
      exact ⟨ret_int (by rw [← HRK.out]; rfl), _, rfl⟩

theorem rvat_none (B g : Nat) (w : World) (D : RVm) (id : Int) (hD : RVAt B w g D) (h : rposIn D.snaps id = none) :
    Calls Try.prog 56 #[.pointer (some ⟨g, 0, none⟩), .int .i64 id] w fun e w' => e = .returned (.int .i64 (-1)) ∧ ∃ n, w' = w.drewN n :=
  (rvat_any B g w D id hD).mono fun _ _ ⟨he, hb⟩ => ⟨by rw [he, h]; rfl, hb⟩
theorem rvat_some (B g : Nat) (w : World) (D : RVm) (id : Int) (i : Nat) (hD : RVAt B w g D) (h : rposIn D.snaps id = some i) :
    Calls Try.prog 56 #[.pointer (some ⟨g, 0, none⟩), .int .i64 id] w fun e w' => e = .returned (.int .i64 (i : Int)) ∧ ∃ n, w' = w.drewN n :=
  (rvat_any B g w D id hD).mono fun _ _ ⟨he, hb⟩ => ⟨by rw [he, h]; rfl, hb⟩

/-- What Read answers. -/
def RvReadRet (D : RVm) (id k : Int) (v : Value) : Prop :=
  match rposIn D.snaps id with
  | none => v = .tuple #[.string ⟨#[]⟩, .int .i64 0, .int .i64 5]
  | some i => ∀ s, D.snaps[i]? = some s → (¬ (0 ≤ k ∧ k < s.size) → v = .tuple #[.string ⟨#[]⟩, .int .i64 0, .int .i64 1]) ∧ (0 ≤ k ∧ k < s.size → v = .tuple #[.string (s.texts k.toNat), .int .i64 s.size, .int .i64 0])

set_option maxHeartbeats 1000000 in
set_option maxRecDepth 100000 in
theorem rvRead_any (B g : Nat) (w : World) (D : RVm) (id k : Int) (hD : RVAt B w g D) :
    Calls Try.prog 29 #[.pointer (some ⟨g, 0, none⟩), .int .i64 id, .int .i64 k] w fun e w' => (∃ v, e = .returned v ∧ RvReadRet D id k v) ∧ Below w.heap.size w w' := by
  obtain ⟨A, c, hg, hO, hp⟩ := rv_form hD
  cases hpo : rposIn D.snaps id with
  | none =>
    have HF := Lib.hid (show RvReadRet D id k (.tuple #[.string ⟨#[]⟩, .int .i64 0, .int .i64 5]) from by unfold RvReadRet; rw [hpo])
    clear hg hO
    go_enter Try.func29, Try.ntmps29
    go_wp2_with fail
    ((with_reducible refine (rvat_none B g _ D id hD hpo).mono ?_); rintro e w1 ⟨rfl, n1, rfl⟩)
    go_wp2
    go_ret3
    exact ⟨⟨_, rfl, HF.out⟩, below_drewN (Below.refl _ _) _⟩
  | some i =>
    obtain ⟨hi, _⟩ := rpos_lt hpo
    obtain ⟨gb, rfl⟩ := hp (by omega)
    have h5 := hD.ok.few
    have c35 : ∀ n, (w.drewN n).cell? ⟨g, 35, none⟩ = some (.slice (some ⟨gb, 0, none⟩) D.snaps.length c) := fun n => cell_of_row _ _ _ _ _ _ hg
    have d2 : ∀ n, (w.drewN n).cell? ⟨gb, i * 35 + 2, none⟩ = some (.int .i64 D.snaps[i].size) := fun n => rs_cell hO rfl i hi 2 _ rfl
    have hsz := hD.ok.sizes _ (List.getElem_mem hi)
    have i1 : (i : Int) < (D.snaps.length : Int) := by omega
    have i0 : (0 : Int) ≤ (i : Int) := by omega
    by_cases hk : 0 ≤ k ∧ k < D.snaps[i].size
    · obtain ⟨m, rfl⟩ := Int.eq_ofNat_of_zero_le hk.1
      have HF := Lib.hid (show RvReadRet D id m (.tuple #[.string (D.snaps[i].texts m), .int .i64 D.snaps[i].size, .int .i64 0]) from by
        unfold RvReadRet; rw [hpo]; simp only []
        intro s hs
        rw [List.getElem?_eq_getElem hi] at hs
        injection hs with hs
        subst hs
        exact ⟨fun h => absurd hk h, fun _ => by rw [Int.toNat_natCast]⟩)
      have dm : ∀ n, (w.drewN n).cell? ⟨gb, i * 35 + 3 + m, none⟩ = some (.string (D.snaps[i].texts m)) := fun n => by
        rw [Nat.add_assoc]; exact rs_cell hO rfl i hi (3 + m) _ (rsArr_text _ (by omega))
      have j0 : ¬ (m : Int) < 0 := by omega
      have j1 : ¬ (D.snaps[i].size : Int) ≤ (m : Int) := by omega
      have j2 : (m : Int) < 16 := by omega
      have j3 : (0 : Int) ≤ (m : Int) := by omega
      generalize D.snaps[i].size = sz at *
      generalize D.snaps[i].texts m = x at *
      clear hg hO hk
      go_enter Try.func29, Try.ntmps29
      go_wp2_with fail
      ((with_reducible refine (rvat_some B g _ D id i hD hpo).mono ?_); rintro e w1 ⟨rfl, n1, rfl⟩)
      have e35 := c35 n1
      have e2 := d2 n1
      have em := dm n1
      go_wp2_with fail
      go_quiet (fail)
      go_wp2
      go_ret3
      exact ⟨⟨_, rfl, HF.out⟩, below_drewN (below_drewN (Below.refl _ _) _) _⟩
    · have HF := Lib.hid (show RvReadRet D id k (.tuple #[.string ⟨#[]⟩, .int .i64 0, .int .i64 1]) from by
        unfold RvReadRet; rw [hpo]; simp only []
        intro s hs
        rw [List.getElem?_eq_getElem hi] at hs
        injection hs with hs
        subst hs
        exact ⟨fun _ => by first | rfl | trivial, fun h => absurd h hk⟩)
      generalize D.snaps[i].size = sz at *
      by_cases j0 : k < 0
      · clear hg hO hk
        go_enter Try.func29, Try.ntmps29
        go_wp2_with fail
        ((with_reducible refine (rvat_some B g _ D id i hD hpo).mono ?_); rintro e w1 ⟨rfl, n1, rfl⟩)
        have e35 := c35 n1
        have e2 := d2 n1
        go_wp2
        go_ret3
        exact ⟨⟨_, rfl, HF.out⟩, below_drewN (Below.refl _ _) _⟩
      · have j1 : (sz : Int) ≤ k := by omega
        clear hg hO hk
        go_enter Try.func29, Try.ntmps29
        go_wp2_with fail
        ((with_reducible refine (rvat_some B g _ D id i hD hpo).mono ?_); rintro e w1 ⟨rfl, n1, rfl⟩)
        have e35 := c35 n1
        have e2 := d2 n1
        go_wp2
        go_ret3
        exact ⟨⟨_, rfl, HF.out⟩, below_drewN (Below.refl _ _) _⟩

def RvSizeRet (D : RVm) (id : Int) (v : Value) : Prop :=
  match rposIn D.snaps id with
  | none => v = .tuple #[.int .i64 0, .int .i64 5]
  | some i => ∀ s, D.snaps[i]? = some s → v = .tuple #[.int .i64 s.size, .int .i64 0]

set_option maxRecDepth 100000 in
theorem rvSizeOf_any (B g : Nat) (w : World) (D : RVm) (id : Int) (hD : RVAt B w g D) :
    Calls Try.prog 31 #[.pointer (some ⟨g, 0, none⟩), .int .i64 id] w fun e w' => (∃ v, e = .returned v ∧ RvSizeRet D id v) ∧ Below w.heap.size w w' := by
  obtain ⟨A, c, hg, hO, hp⟩ := rv_form hD
  cases hpo : rposIn D.snaps id with
  | none =>
    have HF := Lib.hid (show RvSizeRet D id (.tuple #[.int .i64 0, .int .i64 5]) from by unfold RvSizeRet; rw [hpo])
    clear hg hO
    go_enter Try.func31, Try.ntmps31
    go_wp2_with fail
    ((with_reducible refine (rvat_none B g _ D id hD hpo).mono ?_); rintro e w1 ⟨rfl, n1, rfl⟩)
    go_wp2
    go_ret2
    exact ⟨⟨_, rfl, HF.out⟩, below_drewN (Below.refl _ _) _⟩
  | some i =>
    obtain ⟨hi, _⟩ := rpos_lt hpo
    obtain ⟨gb, rfl⟩ := hp (by omega)
    have h5 := hD.ok.few
    have c35 : ∀ n, (w.drewN n).cell? ⟨g, 35, none⟩ = some (.slice (some ⟨gb, 0, none⟩) D.snaps.length c) := fun n => cell_of_row _ _ _ _ _ _ hg
    have d2 : ∀ n, (w.drewN n).cell? ⟨gb, i * 35 + 2, none⟩ = some (.int .i64 D.snaps[i].size) := fun n => rs_cell hO rfl i hi 2 _ rfl
    have i1 : (i : Int) < (D.snaps.length : Int) := by omega
    have i0 : (0 : Int) ≤ (i : Int) := by omega
    have HF := Lib.hid (show RvSizeRet D id (.tuple #[.int .i64 D.snaps[i].size, .int .i64 0]) from by
      unfold RvSizeRet; rw [hpo]; simp only []
      intro s hs
      rw [List.getElem?_eq_getElem hi] at hs
      injection hs with hs
      subst hs
      rfl)
    generalize D.snaps[i].size = sz at *
    clear hg hO
    go_enter Try.func31, Try.ntmps31
    go_wp2_with fail
    ((with_reducible refine (rvat_some B g _ D id i hD hpo).mono ?_); rintro e w1 ⟨rfl, n1, rfl⟩)
    have e35 := c35 n1
    have e2 := d2 n1
    go_wp2
    go_ret2
    exact ⟨⟨_, rfl, HF.out⟩, below_drewN (Below.refl _ _) _⟩
end Go.Proofs.Ytmcoenndfbgdfaa
