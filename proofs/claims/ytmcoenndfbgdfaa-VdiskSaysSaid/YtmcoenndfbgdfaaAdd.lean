/- (*area.marks).add: the blocks of a list of areas are marked. -/
import Derived.Test.YtmcoenndfbgdfaaArea
namespace Go.Proofs.Ytmcoenndfbgdfaa
open Go.RowKit

/-- Marks, and the first k areas' blocks, and the first j of the next. -/
def mk (m : Nat → Bool) (l : List Ar) (k : Nat) : Nat → Bool := fun i => m i || hasB (l.take k) i

theorem mk_zero (m : Nat → Bool) (l : List Ar) : mk m l 0 = m := by funext i; simp [mk, hasB]
theorem mk_all (m : Nat → Bool) (l : List Ar) {k : Nat} (h : l.length ≤ k) : mk m l k = fun i => m i || hasB l i := by funext i; simp [mk, List.take_of_length_le h]

theorem grown_refl (w : World) (row : Option Nat) : w.grownBy w row := ⟨rfl, rfl, rfl, Nat.le_refl _, fun _ _ _ => rfl⟩
theorem grown_trans' {a b c : World} {row : Option Nat} (h : a.grownBy b row) (k : b.grownBy c row) : a.grownBy c row :=
  ⟨k.os.trans h.os, k.tape.trans h.tape, k.output.trans h.output, Nat.le_trans h.size k.size, fun i hi hne => (k.block i (Nat.lt_of_lt_of_le hi h.size) hne).trans (h.block i hi hne)⟩
theorem grown_set (w : World) (g i : Nat) (u : Value) : w.grownBy (w.setCell ⟨g, i, none⟩ u) (some g) :=
  ⟨rfl, rfl, rfl, by simp [World.setCell], fun k _ hne => Below.heap_setCell w _ u k (fun e => hne (by rw [e]))⟩

set_option maxHeartbeats 1000000 in
theorem add_any (g : Nat) (m : Nat → Bool) (A : Option Addr) (cap : Nat) (l : List Ar) (w : World) (hM : MarksAt w g m) (hA : AreasAt w w.heap.size A l) (hne : 0 < l.length → ∀ b off, A = some ⟨b, off, none⟩ → b ≠ g) (hl : l.length ≤ 20) (hv : Bd l) :
    Calls Try.prog 39 #[.pointer (some ⟨g, 0, none⟩), .slice A l.length cap] w fun e w' => e = .returned (.tuple #[]) ∧ MarksAt w' g (fun i => m i || hasB l i) ∧ w.grownBy w' (some g) := by
  go_enter Try.func39, Try.ntmps39
  go_wp2
  go_loopw [10] (fun i w' => ∃ k : Nat, k ≤ l.length ∧ i = .int .i64 k ∧ MarksAt w' g (mk m l k) ∧ w.grownBy w' (some g)) (fun i _ => l.length - (intOf i).toNat)
  case atStart => exact ⟨0, Nat.zero_le _, rfl, by rw [mk_zero]; exact hM, grown_refl _ _⟩
  case round =>
    obtain ⟨k, hk, rfl, hM1, hg⟩ := hrel
    have hsz := hg.size
    by_cases hlt : k < l.length
    · obtain ⟨b, off, e, hB, h1, h2⟩ := (hA.keep (w' := wr) (fun b off e hb => hg.block b hb (fun x => hne (by omega) b off e (by injection x)))) k hlt
      subst e
      obtain ⟨v1, v2, v3⟩ := hv k hlt
      obtain ⟨f, hf⟩ := Int.eq_ofNat_of_zero_le v1
      obtain ⟨n, hn⟩ := Int.eq_ofNat_of_zero_le (Int.le_trans (by decide) v2)
      have HL := Lib.hid (show l[k] = ((f : Int), (n : Int)) from Prod.ext hf hn)
      rw [hf] at h1 v1 v3
      rw [hn] at h2 v2 v3
      clear hf hn
      obtain ⟨wq, rfl⟩ : ∃ x, x = wr := ⟨_, rfl⟩
      have hgq := hM1.lt
      go_wp2
      have hW1 : w.grownBy (wq.alloc (Obj.cells #[Value.int IntKind.i64 (f : Int), Value.int IntKind.i64 (n : Int)] 76)) (some g) := grown_trans' hg (World.grownBy_alloc _ _ _)
      go_loopw [16] (fun i w' => ∃ j : Nat, j ≤ n ∧ i = .int .i64 j ∧ MarksAt w' g (fun x => mk m l k x || inAr ((f : Int), (j : Int)) x) ∧ (wq.alloc (Obj.cells #[Value.int IntKind.i64 (f : Int), Value.int IntKind.i64 (n : Int)] 76)).grownBy w' (some g)) (fun i _ => n - (intOf i).toNat)
      case atStart => exact ⟨0, Nat.zero_le _, rfl, ((hM1.keep (Below.heap_alloc wq _ g hgq)).congr (fun i _ => by simp [inAr]; omega)), grown_refl _ _⟩
      case round =>
        obtain ⟨j, hj, rfl, hM2, hg2⟩ := hrel
        by_cases hjn : j < n
        · have c1 : wr.cell? ⟨wq.heap.size, 0, none⟩ = some (.int .i64 (f : Int)) := hg2.cell (by simp) (by intro e; injection e with e; simp at e; omega)
          obtain ⟨c2, c3⟩ := hM2 (f + j) (by omega)
          go_wp2
          go_roundw
          case rel =>
            refine ⟨j + 1, hjn, by go_num, ?_, grown_trans' hg2 (grown_set _ _ _ _)⟩
            refine (hM2.set (f + j) true).congr (fun i _ => ?_)
            by_cases e : i = f + j
            · subst e; simp [inAr]; right; omega
            · rw [if_neg e]
              congr 1
              rw [Bool.eq_iff_iff, inAr_iff, inAr_iff]; simp; omega
          case measure => simp [intOf]; omega
        · go_wp2
          go_roundw
          case rel =>
            refine ⟨k + 1, hlt, by go_num, ?_, grown_trans' hW1 hg2⟩
            refine hM2.congr (fun i _ => ?_)
            have e : j = n := by omega
            subst e
            unfold mk
            rw [hasB_take_snoc l k hlt, HL.out, Bool.or_assoc]
          case measure => simp [intOf]; omega
    · go_wp2
      go_end0
      refine ⟨rfl, ?_, hg⟩
      rw [← mk_all m l (k := k) (by omega)]; exact hM1
end Go.Proofs.Ytmcoenndfbgdfaa
