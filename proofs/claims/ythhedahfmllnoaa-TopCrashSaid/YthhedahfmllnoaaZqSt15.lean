/- The document's store: Commit. -/
import Derived.Test.YthhedahfmllnoaaZqRr1
import Derived.Test.YthhedahfmllnoaaZqRr4
namespace Go.Proofs.Ythhedahfmllnoaa
open Go.RowKit

structure RSt where
  rows : List Ch
  used : Nat
  many : Nat
def rstArr (v : Value) (u m : Nat) : Array Value := #[v, .int .i64 u, .int .i64 m]
structure RStIn (B : Nat) (w : World) (gm : Nat) (A : Option Addr) (c : Nat) (M : RSt) : Prop where
  base : B ≤ gm
  row : w.heap[gm]? = some (.cells (rstArr (.slice A M.rows.length c) M.used M.many) 38 (0, 0))
  rows : w.ownsRow B 60 3 (.slice A M.rows.length c) M.rows.length (chCells M.rows)
  small : ∀ x ∈ M.rows, x.key.size ≤ 200 ∧ x.val.size ≤ 200
theorem RStIn.chs {B : Nat} {w : World} {gm : Nat} {A : Option Addr} {c : Nat} {M : RSt} (h : RStIn B w gm A c M) : ChsAt w A M.rows := chs_own h.rows fun x hx => by have := h.small x hx; unfold maxLen; omega
theorem RStIn.none {B : Nat} {w : World} {gm : Nat} {A : Option Addr} {c : Nat} {M : RSt} (h : RStIn B w gm A c M) : A = Option.none → c = 0 := fun e => by
  rcases h.rows.2 with ⟨h1, _⟩ | ⟨b, cap, cur, h1, _⟩
  · simp only [Value.slice.injEq] at h1; exact h1.2.2
  · simp only [Value.slice.injEq] at h1; rw [e] at h1; cases h1.1
theorem RStIn.step {B B' : Nat} {ts : List TypeId} {w w' : World} {gm : Nat} {A : Option Addr} {c : Nat} {M : RSt} (h : RStIn B w gm A c M) (hs : Step B' ts w w') (h1 : 38 ∉ ts) (h2 : 60 ∉ ts) : RStIn B w' gm A c M :=
  ⟨h.base, hs.other _ _ _ _ h.row h1, own_step h.rows hs h2, h.small⟩
theorem RStIn.below {B : Nat} {w w' : World} {gm : Nat} {A : Option Addr} {c : Nat} {M : RSt} (h : RStIn B w gm A c M) (hb : Below w.heap.size w w') : RStIn B w' gm A c M :=
  h.step (ts := []) (Step.of_below hb (Nat.le_refl _)) (by simp) (by simp)
def RStAt (B : Nat) (w : World) (gm : Nat) (M : RSt) : Prop := ∃ A c, RStIn B w gm A c M
def rstTypes : List TypeId := [38]

def rCommit (l : List Ch) (M : RSt) : RSt × Int :=
  if 72 < l.length then (M, 2)
  else if ¬ chsErr l = 0 then (M, chsErr l)
  else if 80 < (apAll M.rows l).length ∨ M.many < l.length + 1 then (M, 8)
  else (⟨apAll M.rows l, (if M.many - M.used < l.length + 1 then 0 else M.used) + l.length + 1, M.many⟩, 0)

theorem rCommit_rest {l : List Ch} {M : RSt} (h1 : ¬ 72 < l.length) (h2 : chsErr l = 0) (h3 : ¬ (80 < (apAll M.rows l).length ∨ M.many < l.length + 1)) : rCommit l M = (⟨apAll M.rows l, (if M.many - M.used < l.length + 1 then 0 else M.used) + l.length + 1, M.many⟩, 0) := by
  unfold rCommit
  rw [if_neg h1, if_neg (by simp [h2]), if_neg h3]
structure RcIn (B : Nat) (w wr : World) (gm : Nat) (M : RSt) : Prop where
  st : RStAt B wr gm M
  below : Below w.heap.size w wr

set_option maxHeartbeats 8000000 in
set_option maxRecDepth 100000 in
theorem rCommit_any (B gm : Nat) (w : World) (M : RSt) (A : Option Addr) (cA : Nat) (l : List Ch) (hM : RStAt B w gm M) (hB : B ≤ w.heap.size) (hl : ChsAt w A l) (hln : l.length ≤ 900) (hr : M.rows.length ≤ 80) (hrs : SortedCh M.rows) (hu : M.used ≤ M.many) (hm : M.many ≤ 1000) (R : RSt × Int) (hR : rCommit l M = R) :
    Calls Try.prog 12 #[.pointer (some ⟨gm, 0, none⟩), .slice A l.length cA] w fun e w' => e = .returned (.int .i64 R.2) ∧ RStAt B w' gm R.1 ∧ Step B rstTypes w w' := by
  have hI0 : RcIn B w w gm M := ⟨hM, Below.refl _ _⟩
  have HRT := Lib.hid (fun w' (E : Int) (h : RcIn B w w' gm M) (hE : (M, E) = R) => show Ending.returned (Value.int .i64 E) = .returned (.int .i64 R.2) ∧ RStAt B w' gm R.1 ∧ Step B rstTypes w w' from by subst hE; exact ⟨rfl, h.st, Step.of_below h.below hB⟩)
  have HR := Lib.hid hR
  by_cases h72 : 72 < l.length
  · have hRR : (M, (2 : Int)) = R := by rw [← hR]; unfold rCommit; rw [if_pos h72]
    have HF := Lib.hid (HRT.out w 2 hI0 hRR)
    have i72 : (72 : Int) < (l.length : Int) := by omega
    clear hRR hR HRT hI0 h72
    go_enter Try.func12, Try.ntmps12
    go_wp2_with fail
    go_ret
    exact HF.out
  have i72 : ¬ (72 : Int) < (l.length : Int) := by omega
  have HI0 := Lib.hid hI0
  have HL := Lib.hid hl
  have HP := Lib.hid (show _ ∧ _ ∧ _ ∧ _ from ⟨hr, hrs, hu, hm⟩)
  have H72 := Lib.hid h72
  clear hR hI0 h72 hl hr hrs hu hm hM
  go_enter Try.func12, Try.ntmps12
  go_wp2_with fail
  go_loopw [5] (fun i wr => ∃ k : Nat, k ≤ l.length ∧ i = .int .i64 k ∧ Hid (chsErr (l.drop k) = chsErr l) ∧ Hid (RcIn B w wr gm M)) (fun i _ => l.length - (intOf i).toNat)
  case atStart => exact ⟨0, Nat.zero_le _, rfl, Lib.hid rfl, HI0⟩
  case round =>
    obtain ⟨k, hk, rfl, hce, hI⟩ := hrel
    clear HI0
    by_cases hlt : k < l.length
    · obtain ⟨b, off, rfl, hblt, d0, d1, d2, s1, s2⟩ := (HL.out.below hI.out.below) k hlt
      have HCK := Lib.hid (fun w' => rfault_any l[k] w' s1 s2)
      have HCE := Lib.hid (show (if chErr l[k] = 0 then chsErr (l.drop (k + 1)) else chErr l[k]) = chsErr l from by rw [← chsErr_drop l k hlt]; exact hce.out)
      have i1 : (k : Int) < (l.length : Int) := by omega
      have i0 : (0 : Int) ≤ (k : Int) := by omega
      clear s1 s2 hce
      generalize l[k] = c at *
      have HUP := Lib.hid (fun w' (hb : Below wr.heap.size wr w') => show Hid (RcIn B w w' gm M) from Lib.hid ⟨by obtain ⟨A, c, h⟩ := hI.out.st; exact ⟨A, c, h.below hb⟩, belowThen hI.out.below hb⟩)
      by_cases hc0 : chErr c = 0
      · have hce := HCE.out
        rw [if_pos hc0] at hce
        have HCE2 := Lib.hid hce
        rw [hc0] at HCK
        clear hce HCE hc0 hblt
        obtain ⟨key, val, gone⟩ := c
        simp only [] at d0 d1 d2 HCK HUP
        go_wp2_with fail
        ((with_reducible refine (HCK.out _).mono ?_); rintro e w7 ⟨rfl, hb7⟩)
        have hI7 := HUP.out _ hb7
        clear HUP hb7 HCK
        go_wp2_with fail
        go_roundw
        case rel => exact ⟨k + 1, by omega, by go_num, HCE2, hI7⟩
        case measure => simp [intOf]; omega
      · have hce := HCE.out
        rw [if_neg hc0] at hce
        have hRR : (M, chErr c) = R := by
          rw [← HR.out]
          unfold rCommit
          rw [if_neg H72.out, if_pos (by rw [← hce]; exact hc0), hce]
        have HRR := Lib.hid hRR
        have hpos : 0 < chErr c := by have := chErr_nonneg c; omega
        clear hce HCE hc0 hblt hRR
        obtain ⟨X, hX⟩ : ∃ X, chErr c = X := ⟨_, rfl⟩
        rw [hX] at HCK HRR hpos
        clear hX
        obtain ⟨key, val, gone⟩ := c
        simp only [] at d0 d1 d2 HCK HUP
        go_wp2_with fail
        ((with_reducible refine (HCK.out _).mono ?_); rintro e w7 ⟨rfl, hb7⟩)
        have hI7 := HUP.out _ hb7
        have HF := Lib.hid (HRT.out w7 X hI7.out HRR.out)
        clear HUP hb7 HCK
        go_wp2_with fail
        go_ret
        exact HF.out
    · obtain rfl : k = l.length := by omega
      have hz0 : chsErr l = 0 := by rw [← hce.out, List.drop_length]; rfl
      have HZ0 := Lib.hid hz0
      clear hz0 hce
      obtain ⟨A0, c0, hIn⟩ := id hI.out.st
      have d6 : wr.cell? ⟨gm, 0, none⟩ = some (.slice A0 M.rows.length c0) := cell_of_row _ _ _ _ _ _ hIn.row
      have HA := Lib.hid (applied_any wr A0 c0 M.rows A cA l hIn.chs hIn.none (HL.out.below hI.out.below) (by have := HP.out; omega) (by omega) HP.out.2.1)
      clear hIn
      obtain ⟨N, hN⟩ : ∃ N, apAll M.rows l = N := ⟨_, rfl⟩
      unfold ApplyRet at HA
      rw [hN] at HA
      have HN := Lib.hid hN
      have hNl : N.length ≤ 1000 := by
        have := apAll_len l M.rows
        rw [hN] at this
        have := HP.out
        omega
      have hBr := Nat.le_trans hB hI.out.below.size
      clear hN hk hlt i72
      go_wp2_with fail
      ((with_reducible refine HA.out.mono ?_); rintro e w2 ⟨A2, c2, rfl, ho2, hb2⟩)
      have hI2 : RcIn B w w2 gm M := ⟨by obtain ⟨A, c, h⟩ := hI.out.st; exact ⟨A, c, h.below hb2⟩, belowThen hI.out.below hb2⟩
      clear d6 HA hI hb2
      by_cases h80 : 80 < N.length
      · have hRR : (M, (8 : Int)) = R := by
          rw [← HR.out]
          unfold rCommit
          rw [if_neg H72.out, if_neg (by rw [HZ0.out]; simp), if_pos (.inl (by rw [HN.out]; exact h80))]
        have i80 : (80 : Int) < (N.length : Int) := by omega
        have HF := Lib.hid (HRT.out w2 8 hI2 hRR)
        clear hI2 hRR ho2
        go_wp2_with fail
        go_ret
        exact HF.out
      have i80 : ¬ (80 : Int) < (N.length : Int) := by omega
      obtain ⟨A02, c02, hIn2⟩ := id hI2.st
      have d0 : w2.cell? ⟨gm, 0, none⟩ = some (.slice A02 M.rows.length c02) := cell_of_row _ _ _ _ _ _ hIn2.row
      have d1 : w2.cell? ⟨gm, 1, none⟩ = some (.int .i64 M.used) := cell_of_row _ _ _ _ _ _ hIn2.row
      have d2 : w2.cell? ⟨gm, 2, none⟩ = some (.int .i64 M.many) := cell_of_row _ _ _ _ _ _ hIn2.row
      have a1 : IntKind.i64.wrap ((l.length : Int) + 1) = (l.length : Int) + 1 := IntWalk.i64_in _ (by omega)
      by_cases hfull : M.many < l.length + 1
      · have hRR : (M, (8 : Int)) = R := by
          rw [← HR.out]
          unfold rCommit
          rw [if_neg H72.out, if_neg (by rw [HZ0.out]; simp), if_pos (.inr hfull)]
        have ifull : (M.many : Int) < (l.length : Int) + 1 := by omega
        have HF := Lib.hid (HRT.out w2 8 hI2 hRR)
        clear hI2 hRR ho2 hIn2
        go_wp2_with fail
        go_ret
        exact HF.out
      have ifull : ¬ (M.many : Int) < (l.length : Int) + 1 := by omega
      have hRR := (rCommit_rest (M := M) H72.out HZ0.out (by rw [HN.out]; omega : ¬ (80 < (apAll M.rows l).length ∨ M.many < l.length + 1))).symm.trans HR.out
      rw [HN.out] at hRR
      have hP := HP.out
      have h12 : (M.used : Int) ≤ (M.many : Int) := by omega
      have h13 : (M.many : Int) ≤ 1000 := by omega
      have HO2 := Lib.hid (own_weak ho2 hBr)
      have HI2 := Lib.hid hI2.below
      have HIN2 := Lib.hid hIn2
      have HSM := Lib.hid (show ∀ x ∈ N, x.key.size ≤ 200 ∧ x.val.size ≤ 200 from fun x hx => by
        rw [← HN.out] at hx
        rcases apAll_mem hx with hx | hx
        · exact hIn2.small x hx
        · have := chErr_sizes (chsErr_small HZ0.out x hx); omega)
      have CF := Lib.hid (fun w' (hb : Below w2.heap.size w2 w') => show w'.cell? ⟨gm, 1, none⟩ = some (.int .i64 M.used) ∧ w'.cell? ⟨gm, 2, none⟩ = some (.int .i64 M.many) from by
        have := (hIn2.below hb).row
        exact ⟨cell_of_row _ _ _ _ _ _ this, cell_of_row _ _ _ _ _ _ this⟩)
      have HFIN := Lib.hid (fun (w6 : World) (u : Nat) (hs6 : Step B rstTypes w2 w6) (hr6 : ∃ x y, w6.heap[gm]? = some (.cells #[x, .int .i64 y, .int .i64 M.many] 38 (0, 0))) (hu : u = (if M.many - M.used < l.length + 1 then 0 else M.used) + l.length + 1) => show Ending.returned (Value.int .i64 0) = .returned (.int .i64 R.2) ∧ RStAt B ((w6.setCell ⟨gm, 1, none⟩ (.int .i64 (u : Int))).setCell ⟨gm, 0, none⟩ (.slice A2 N.length c2)).drew gm R.1 ∧ Step B rstTypes w ((w6.setCell ⟨gm, 1, none⟩ (.int .i64 (u : Int))).setCell ⟨gm, 0, none⟩ (.slice A2 N.length c2)).drew from by
        subst hRR
        subst hu
        obtain ⟨x, y, hr6⟩ := hr6
        have k1 := hs6.set (i := 1) hr6 HIN2.out.base (by simp [rstTypes]) (.int .i64 ((((if M.many - M.used < l.length + 1 then 0 else M.used) + l.length + 1 : Nat)) : Int))
        have r1 := heap_setCell_same w6 gm 1 _ _ (.int .i64 ((((if M.many - M.used < l.length + 1 then 0 else M.used) + l.length + 1 : Nat)) : Int)) hr6
        have k2 := k1.set (i := 0) r1 HIN2.out.base (by simp [rstTypes]) (.slice A2 N.length c2)
        have r2 := heap_setCell_same _ gm 0 _ _ (.slice A2 N.length c2) r1
        exact ⟨rfl, ⟨A2, c2, HIN2.out.base, r2, own_step HO2.out k2.drew (by decide), HSM.out⟩, (Step.of_below HI2.out hB).trans k2.drew⟩)
      clear hI2 ho2 hfull hRR
      have aw : IntKind.i64.wrap ((M.many : Int) - (M.used : Int)) = (M.many : Int) - (M.used : Int) := IntWalk.i64_in _ (by omega)
      have f0 : w2.frozen? ⟨gm, 0, none⟩ = false := frozen_of_row _ _ _ _ _ hIn2.row
      have f1 : w2.frozen? ⟨gm, 1, none⟩ = false := frozen_of_row _ _ _ _ _ hIn2.row
      by_cases hroom : M.many - M.used < l.length + 1
      · have ir : (M.many : Int) - (M.used : Int) < (l.length : Int) + 1 := by omega
        have hr3 := heap_setCell_same w2 gm 1 _ _ (.int .i64 0) hIn2.row
        have hE0 := HFIN.out (w2.setCell ⟨gm, 1, none⟩ (.int .i64 0)) (0 + l.length + 1) ((Step.refl B rstTypes w2).set (i := 1) hIn2.row HIN2.out.base (by simp [rstTypes]) _) ⟨_, _, hr3⟩ (by rw [if_pos hroom])
        rw [show ((0 + l.length + 1 : Nat) : Int) = (l.length : Int) + 1 by omega] at hE0
        have hE := Lib.hid hE0
        have a2 : IntKind.i64.wrap (l.length : Int) = (l.length : Int) := IntWalk.i64_in _ (by omega)
        clear hr3 hIn2 hroom hE0
        go_wp2_with fail
        go_region_held3 (fun w' => w'.cell? ⟨gm, 1, none⟩ = some (.int .i64 M.used) ∧ w'.cell? ⟨gm, 2, none⟩ = some (.int .i64 M.many)) (first | with_reducible exact CF.out _ (by first | with_reducible exact Below.refl _ _ | with_reducible exact Below.drew (Below.refl _ _)) | fail) (fail)
        all_goals
          go_wp2_with fail
          go_ret
          exact hE.out
      · have ir : ¬ (M.many : Int) - (M.used : Int) < (l.length : Int) + 1 := by omega
        have hE0 := HFIN.out w2 (M.used + l.length + 1) (Step.refl B rstTypes w2) ⟨_, _, hIn2.row⟩ (by rw [if_neg hroom])
        rw [show ((M.used + l.length + 1 : Nat) : Int) = (M.used : Int) + (l.length : Int) + 1 by omega] at hE0
        have hE := Lib.hid hE0
        have a2 : IntKind.i64.wrap ((M.used : Int) + (l.length : Int)) = (M.used : Int) + (l.length : Int) := IntWalk.i64_in _ (by omega)
        have a3 : IntKind.i64.wrap ((M.used : Int) + (l.length : Int) + 1) = (M.used : Int) + (l.length : Int) + 1 := IntWalk.i64_in _ (by omega)
        clear hIn2 hroom hE0
        go_wp2_with fail
        go_region_held3 (fun w' => w'.cell? ⟨gm, 1, none⟩ = some (.int .i64 M.used) ∧ w'.cell? ⟨gm, 2, none⟩ = some (.int .i64 M.many)) (first | with_reducible exact CF.out _ (by first | with_reducible exact Below.refl _ _ | with_reducible exact Below.drew (Below.refl _ _)) | fail) (fail)
        all_goals
          go_wp2_with fail
          go_ret
          exact hE.out
end Go.Proofs.Ythhedahfmllnoaa
