/- counterfoiltop.indexed: a closed fact; roots picked out of a list. -/
import Derived.Test.YtnnnmpfkpckgbaaRooted
namespace Go.Proofs.Ytnnnmpfkpckgbaa
open Go.RowKit Go.Maps

def ixX : IdxM := (setX emptyIdx 0 5 ⟨#[120]⟩).1
theorem ix_id : (setX emptyIdx 0 5 ⟨#[120]⟩).2.1 = 2 := by decide +kernel
theorem ix_err : (setX emptyIdx 0 5 ⟨#[120]⟩).2.2 = 0 := by decide +kernel
theorem ix_set : setX emptyIdx 0 5 ⟨#[120]⟩ = (ixX, 2, 0) := by
  obtain ⟨a, b, c, e⟩ := trip (setX emptyIdx 0 5 ⟨#[120]⟩)
  have h1 := ix_id
  have h2 := ix_err
  unfold ixX
  rw [e] at h1 h2 ⊢
  simp only at h1 h2
  rw [h1, h2]
theorem ix_get5 : ixX.get 2 5 = ⟨#[120]⟩ := by
  have h := (setX_good (X := emptyIdx) (root := 0) (at_ := 5) (data := ⟨#[120]⟩) inv_empty (.inl rfl) (by omega) ix_err).2.2.1 5 (by omega)
  rw [ix_id] at h
  exact h
theorem ix_get4 : ixX.get 2 4 = ByteArray.empty := by
  have h := (setX_good (X := emptyIdx) (root := 0) (at_ := 5) (data := ⟨#[120]⟩) inv_empty (.inl rfl) (by omega) ix_err).2.2.1 4 (by omega)
  rw [ix_id] at h
  exact h

theorem ixSet (w : World) (x gp bp bn : Nat) (h : IdxAt w x gp bp bn 0 emptyIdx) : Calls Try.prog 14 #[.pointer (some ⟨x, 0, none⟩), .int .i64 0, .int .i64 5, .string ⟨#[120]⟩] w (IdxRet w x gp bp bn 11 ixX (.tuple #[.int .i64 2, .nilIface])) :=
  idxSet_e w x gp bp bn 0 emptyIdx 0 5 ⟨#[120]⟩ ixX 2 0 h (by omega) (by omega) (by omega) (by decide) ix_set
theorem ixGet5 (w : World) (x gp bp bn : Nat) (h : IdxAt w x gp bp bn 11 ixX) : Calls Try.prog 11 #[.pointer (some ⟨x, 0, none⟩), .int .i64 2, .int .i64 5] w fun e w' => e = .returned (.string ⟨#[120]⟩) ∧ Below w.heap.size w w' :=
  idxGet_e w x gp bp bn 11 ixX 2 5 _ h (by omega) (by omega) ix_get5
theorem ixGet4 (w : World) (x gp bp bn : Nat) (h : IdxAt w x gp bp bn 11 ixX) : Calls Try.prog 11 #[.pointer (some ⟨x, 0, none⟩), .int .i64 2, .int .i64 4] w fun e w' => e = .returned (.string ByteArray.empty) ∧ Below w.heap.size w w' :=
  idxGet_e w x gp bp bn 11 ixX 2 4 _ h (by omega) (by omega) ix_get4

theorem indexed_any (w : World) : Calls Try.prog 8 #[] w fun e w' => e = .returned (.bool true) ∧ Below w.heap.size w w' := by
  go_enter Try.func8, Try.ntmps8
  go_wp2_with fail
  ((with_reducible refine (idxNew_any _).mono ?_); rintro e w1 ⟨x, gp, bp, bn, rfl, h1, hx, hgp, hbp, hbn, hb1⟩)
  go_wp2_with fail
  ((with_reducible refine (ixSet _ _ _ _ _ h1).mono ?_); rintro e w2 ⟨rfl, h2, t2⟩)
  have hb2 := hb1.trans (t2.below hb1.size (by simp; omega))
  clear t2 h1 hb1
  go_wp2_with fail
  ((with_reducible refine (ixGet5 _ _ _ _ _ h2).mono ?_); rintro e w3 ⟨rfl, hb3⟩)
  have h3 := h2.below hb3
  replace hb3 := belowThen hb2 hb3
  clear h2 hb2
  go_wp2_with fail
  ((with_reducible refine (ixGet4 _ _ _ _ _ h3).mono ?_); rintro e w4 ⟨rfl, hb4⟩)
  go_wp2
  go_ret
  exact ⟨rfl, belowThen hb3 hb4⟩

/-- A root out of a list: by a number. -/
structure Picked (w : World) (v : Value) (RL : List Nat) (p : Int) (root : Nat) : Prop where
  mem : root ∈ RL
  cell : ∃ (gr c m q : Nat), v = .slice (some ⟨gr, 0, none⟩) RL.length c ∧ bits .and .i64 p 1023 = (m : Int) ∧ (m : Int) % (RL.length : Int) = (q : Int) ∧ q < RL.length ∧ w.cell? ⟨gr, q, none⟩ = some (.int .i64 root)
theorem picked {w : World} {base : Nat} {v : Value} {RL : List Nat} (hO : OwnInts w base v (intsOf RL)) (hne : RL ≠ []) (p : Int) : ∃ root, Picked w v RL p root := by
  have hl : 0 < RL.length := List.length_pos_iff.2 hne
  obtain ⟨m, hm⟩ := Int.eq_ofNat_of_zero_le (andBig p).1
  have hq : m % RL.length < RL.length := Nat.mod_lt _ hl
  have h' : w.ownsRow base 3 1 v (intsOf RL).length ((intsOf RL).map (Value.int .i64)) := hO
  rcases hO.2 with ⟨_, h0⟩ | ⟨g, cap, cur, rfl, _⟩
  · rw [intsOf_len] at h0; omega
  · refine ⟨RL[m % RL.length], List.getElem_mem hq, g, cap, m, m % RL.length, by rw [intsOf_len], hm, (Int.natCast_emod m RL.length).symm, hq, ?_⟩
    rw [h'.cellAt _ (by rw [intsOf_len]; omega)]
    simp [intsOf, hq]
theorem Picked.keep {w w' : World} {v : Value} {RL : List Nat} {p : Int} {root : Nat} (h : Picked w v RL p root) (hk : ∀ a u, w.cell? a = some u → w'.cell? a = some u) : Picked w' v RL p root := by
  obtain ⟨gr, c, m, q, h1, h2, h3, h4, h5⟩ := h.cell
  exact ⟨h.mem, gr, c, m, q, h1, h2, h3, h4, hk _ _ h5⟩
end Go.Proofs.Ytnnnmpfkpckgbaa
