/- Package disk: Write (whole), Read, Arm, Down. -/
import Derived.Test.YtllaohobmkcmfaaDk2
namespace Go.Proofs.Ytllaohobmkcmfaa
open Go.RowKit

theorem dkStepE_9 {D : DkM} (h : ¬ dkStepE D = 0) : dkStepE D = 9 := by
  unfold dkStepE at h ⊢
  by_cases hc : D.left = 0 ∨ D.down = true
  · rw [if_pos hc]
  · rw [if_neg hc] at h; exact absurd rfl h

theorem dkWrite_any (B g : Nat) (w : World) (D : DkM) (k : Int) (x : ByteArray) (hD : DkAt B w g D) (hx : x.size ≤ maxLen) (hwr : D.wr.length ≤ 1000000) :
    Calls Try.prog 8 #[.pointer (some ⟨g, 0, none⟩), .int .i64 k, .string x] w fun e w' => e = .returned (errV (dkWriteE D k x)) ∧ DkAt B w' g (dkWrite D k x) ∧ Step B dkTypes w w' := by
  unfold maxLen at hx
  have hD0 := hD
  obtain ⟨hok, gn, gd, wv, hi⟩ := hD0
  have c0 : w.cell? ⟨g, 0, none⟩ = some (.slice (some ⟨gn, 0, none⟩) D.now.length D.now.length) := cell_of_row _ _ _ _ _ _ hi.row
  clear hi
  by_cases hk : 0 ≤ k ∧ k < D.now.length
  · obtain ⟨n, rfl⟩ := Int.eq_ofNat_of_zero_le hk.1
    have hn : n < D.now.length := by omega
    by_cases hd : 80 < x.size
    · have he : dkWriteE D n x = 1 := by unfold dkWriteE; rw [if_pos (.inr hd)]
      have hm : dkWrite D n x = D := by unfold dkWrite; rw [if_pos (.inr hd)]
      rw [he, hm]
      have hd' : (80 : Int) < (x.size : Int) := by omega
      clear he hm hk hok
      go_enter Try.func8, Try.ntmps8
      go_wp2_with fail
      ((with_reducible refine (dkHas_yes g D.now.length _ _ n _ c0 hn).mono ?_); rintro e w1 ⟨rfl, rfl⟩)
      go_wp2
      go_ret
      exact ⟨rfl, hD, Step.refl _ _ _⟩
    · have hcond : ¬ (¬ (0 ≤ (n : Int) ∧ (n : Int) < D.now.length) ∨ 80 < x.size) := fun h => h.elim (fun h => h hk) hd
      have he : dkWriteE D n x = dkStepE D := by unfold dkWriteE; rw [if_neg hcond]
      have hd' : ¬ (80 : Int) < (x.size : Int) := by omega
      by_cases h0 : dkStepE D = 0
      · have hm : dkWrite D n x = dkPut (dkStep D) n (pad80 x) := by unfold dkWrite; rw [if_neg hcond, if_pos h0]; rfl
        rw [he, hm, h0]
        exact dkWrite_yes B g w D n x hD hn (by omega) hwr h0
      · have h9 : dkStepE D = 9 := dkStepE_9 h0
        have hm : dkWrite D n x = dkStep D := by unfold dkWrite; rw [if_neg hcond, if_neg h0]
        rw [he, hm, h9]
        have HS := dkStep_any B g w D hD
        rw [h9, show errV 9 = .iface 61 (.int .i64 9) from rfl] at HS
        rw [show errV 9 = .iface 61 (.int .i64 9) from rfl]
        have HS' := Lib.hid HS
        clear HS he hm h0 h9 hcond hk hok
        go_enter Try.func8, Try.ntmps8
        go_wp2_with fail
        ((with_reducible refine (dkHas_yes g D.now.length _ _ n _ c0 hn).mono ?_); rintro e w1 ⟨rfl, rfl⟩)
        go_wp2_with fail
        ((with_reducible refine HS'.out.mono ?_); rintro e w1 ⟨rfl, hD1, hs1⟩)
        go_wp2
        go_ret
        exact ⟨rfl, hD1, hs1⟩
  · have he : dkWriteE D k x = 1 := by unfold dkWriteE; rw [if_pos (.inl hk)]
    have hm : dkWrite D k x = D := by unfold dkWrite; rw [if_pos (.inl hk)]
    rw [he, hm]
    clear he hm hok
    go_enter Try.func8, Try.ntmps8
    go_wp2_with fail
    ((with_reducible refine (dkHas_no g D.now.length _ _ k _ c0 hk).mono ?_); rintro e w1 ⟨rfl, rfl⟩)
    go_wp2
    go_ret
    exact ⟨rfl, hD, Step.refl _ _ _⟩

theorem dkRead_any (B g : Nat) (w : World) (D : DkM) (k : Int) (hD : DkAt B w g D) :
    Calls Try.prog 12 #[.pointer (some ⟨g, 0, none⟩), .int .i64 k] w fun e w' => e = .returned (.tuple #[.string (dkRead D k), errV (dkReadE D k)]) ∧ w = w' := by
  obtain ⟨hok, gn, gd, wv, hi⟩ := hD
  have c0 : w.cell? ⟨g, 0, none⟩ = some (.slice (some ⟨gn, 0, none⟩) D.now.length D.now.length) := cell_of_row _ _ _ _ _ _ hi.row
  have c4 : w.cell? ⟨g, 4, none⟩ = some (.bool D.down) := cell_of_row _ _ _ _ _ _ hi.row
  cases hdn : D.down with
  | true =>
    have he : dkReadE D k = 9 := by unfold dkReadE; rw [if_pos hdn]
    have hm : dkRead D k = ⟨#[]⟩ := by unfold dkRead; rw [he]; rfl
    rw [he, hm]
    rw [hdn] at c4
    clear he hm hi hdn
    go_enter Try.func12, Try.ntmps12
    go_wp2
    go_ret2
    exact ⟨rfl, rfl⟩
  | false =>
    have hdn' : ¬ D.down = true := by simp [hdn]
    rw [hdn] at c4
    by_cases hk : 0 ≤ k ∧ k < D.now.length
    · have he : dkReadE D k = 0 := by unfold dkReadE; rw [if_neg hdn', if_pos hk]
      obtain ⟨n, rfl⟩ := Int.eq_ofNat_of_zero_le hk.1
      have hn : n < D.now.length := by omega
      have hm : dkRead D n = ⟨D.now[n].toArray⟩ := by unfold dkRead; rw [he, if_pos rfl]; simp [hn]
      rw [he, hm]
      have i1 : (0 : Int) ≤ (n : Int) := by omega
      have i2 : (n : Int) < (D.now.length : Int) := by omega
      have h80 : D.now[n].length = 80 := hok.now _ (List.getElem_mem hn)
      have hcv := run_text_at (P := Try.prog) w 72 9 5 gn (n * 80) 80 D.now[n] Try.underlying72 Try.underlying5 Try.underlying9 (range_of_row hi.now (fun j v hj => by rw [List.getElem?_toArray]; exact secs_cell hok.now n hn j v hj))
      rw [h80] at hcv
      generalize D.now[n] = s at *
      clear he hm hi hdn hdn' hk h80
      go_enter Try.func12, Try.ntmps12
      go_wp2_with fail
      ((with_reducible refine (dkHas_yes g D.now.length _ _ n _ c0 hn).mono ?_); rintro e w1 ⟨rfl, rfl⟩)
      go_wp2
      go_ret2
      exact ⟨rfl, rfl⟩
    · have he : dkReadE D k = 1 := by unfold dkReadE; rw [if_neg hdn', if_neg hk]
      have hm : dkRead D k = ⟨#[]⟩ := by unfold dkRead; rw [he]; rfl
      rw [he, hm]
      clear he hm hi hdn hdn'
      go_enter Try.func12, Try.ntmps12
      go_wp2_with fail
      ((with_reducible refine (dkHas_no g D.now.length _ _ k _ c0 hk).mono ?_); rintro e w1 ⟨rfl, rfl⟩)
      go_wp2
      go_ret2
      exact ⟨rfl, rfl⟩


def dkArm (D : DkM) (n : Int) : DkM := { D with left := n }
theorem dkArm_any (B g : Nat) (w : World) (D : DkM) (n : Int) (hD : DkAt B w g D) (h1 : -9223372036854775808 ≤ n) (h2 : n ≤ 9223372036854775807) :
    Calls Try.prog 20 #[.pointer (some ⟨g, 0, none⟩), .int .i64 n] w fun e w' => e = .returned (.tuple #[]) ∧ DkAt B w' g (dkArm D n) ∧ Step B dkTypes w w' := by
  obtain ⟨hok, gn, gd, wv, hi⟩ := hD
  have c3 : w.cell? ⟨g, 3, none⟩ = some (.int .i64 D.left) := cell_of_row _ _ _ _ _ _ hi.row
  have f3 : w.frozen? ⟨g, 3, none⟩ = false := frozen_of_row _ _ _ _ _ hi.row
  obtain ⟨q1, q2⟩ := hi.put 3 (.int .i64 n) (dkArm D n) wv rfl rfl rfl hi.wr
  have HO : (dkArm D n).Ok := ⟨hok.size, hok.few, hok.some, hok.now, hok.dur, hok.wr, h1, h2⟩
  have HQ := Lib.hid q1
  clear hi q1
  go_enter Try.func20, Try.ntmps20
  go_wp2
  go_end0
  exact ⟨rfl, ⟨HO, gn, gd, wv, HQ.out⟩, q2⟩
end Go.Proofs.Ytllaohobmkcmfaa
