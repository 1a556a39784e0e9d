/- Package disk: Flush. -/
import Derived.Test.YthhedahfmllnoaaZqDk2
/- Package disk: Write (whole), Read, Arm, Down. -/
namespace Go.Proofs.Ythhedahfmllnoaa
open Go.RowKit

theorem dkStepE_9 {D : DkM} (h : ¬ dkStepE D = 0) : dkStepE D = 9 := by
  unfold dkStepE at h ⊢
  by_cases hc : D.left = 0 ∨ D.down = true
  · rw [if_pos hc]
  · rw [if_neg hc] at h; exact absurd rfl h

theorem dkWrite_any (B g : Nat) (w : World) (D : DkM) (k : Int) (x : ByteArray) (hD : DkAt B w g D) (hx : x.size ≤ maxLen) (hwr : D.wr.length ≤ 1000000) :
    Calls Try.prog 53 #[.pointer (some ⟨g, 0, none⟩), .int .i64 k, .string x] w fun e w' => e = .returned (errV (dkWriteE D k x)) ∧ DkAt B w' g (dkWrite D k x) ∧ Step B dkTypes w w' := by
  unfold maxLen at hx
  have hD0 := hD
  obtain ⟨hok, gn, gd, wv, hi⟩ := hD0
  have c0 : w.cell? ⟨g, 0, none⟩ = some (.slice (some ⟨gn, 0, none⟩) D.now.length D.now.length) := cell_of_row _ _ _ _ _ _ hi.row
  clear hi
  by_cases hk : 0 ≤ k ∧ k < D.now.length
  · obtain ⟨n, rfl⟩ := Int.eq_ofNat_of_zero_le hk.1
    have hn : n < D.now.length := by omega
    by_cases hd : 80 < x.size
    · have he : dkWriteE D n x = 1 := by unfold dkWriteE; rw [if_pos (.inr hd)]
      have hm : dkWrite D n x = D := by unfold dkWrite; rw [if_pos (.inr hd)]
      rw [he, hm]
      have hd' : (80 : Int) < (x.size : Int) := by omega
      clear he hm hk hok
      go_enter Try.func53, Try.ntmps53
      go_wp2_with fail
      ((with_reducible refine (dkHas_yes g D.now.length _ _ n _ c0 hn).mono ?_); rintro e w1 ⟨rfl, rfl⟩)
      go_wp2
      go_ret
      exact ⟨rfl, hD, Step.refl _ _ _⟩
    · have hcond : ¬ (¬ (0 ≤ (n : Int) ∧ (n : Int) < D.now.length) ∨ 80 < x.size) := fun h => h.elim (fun h => h hk) hd
      have he : dkWriteE D n x = dkStepE D := by unfold dkWriteE; rw [if_neg hcond]
      have hd' : ¬ (80 : Int) < (x.size : Int) := by omega
      by_cases h0 : dkStepE D = 0
      · have hm : dkWrite D n x = dkPut (dkStep D) n (pad80 x) := by unfold dkWrite; rw [if_neg hcond, if_pos h0]; rfl
        rw [he, hm, h0]
        exact dkWrite_yes B g w D n x hD hn (by omega) hwr h0
      · have h9 : dkStepE D = 9 := dkStepE_9 h0
        have hm : dkWrite D n x = dkStep D := by unfold dkWrite; rw [if_neg hcond, if_neg h0]
        rw [he, hm, h9]
        have HS := dkStep_any B g w D hD
        rw [h9, show errV 9 = .iface 64 (.int .i64 9) from rfl] at HS
        rw [show errV 9 = .iface 64 (.int .i64 9) from rfl]
        have HS' := Lib.hid HS
        clear HS he hm h0 h9 hcond hk hok
        go_enter Try.func53, Try.ntmps53
        go_wp2_with fail
        ((with_reducible refine (dkHas_yes g D.now.length _ _ n _ c0 hn).mono ?_); rintro e w1 ⟨rfl, rfl⟩)
        go_wp2_with fail
        ((with_reducible refine HS'.out.mono ?_); rintro e w1 ⟨rfl, hD1, hs1⟩)
        go_wp2
        go_ret
        exact ⟨rfl, hD1, hs1⟩
  · have he : dkWriteE D k x = 1 := by unfold dkWriteE; rw [if_pos (.inl hk)]
    have hm : dkWrite D k x = D := by unfold dkWrite; rw [if_pos (.inl hk)]
    rw [he, hm]
    clear he hm hok
    go_enter Try.func53, Try.ntmps53
    go_wp2_with fail
    ((with_reducible refine (dkHas_no g D.now.length _ _ k _ c0 hk).mono ?_); rintro e w1 ⟨rfl, rfl⟩)
    go_wp2
    go_ret
    exact ⟨rfl, hD, Step.refl _ _ _⟩

theorem dkRead_any (B g : Nat) (w : World) (D : DkM) (k : Int) (hD : DkAt B w g D) :
    Calls Try.prog 40 #[.pointer (some ⟨g, 0, none⟩), .int .i64 k] w fun e w' => e = .returned (.tuple #[.string (dkRead D k), errV (dkReadE D k)]) ∧ w = w' := by
  obtain ⟨hok, gn, gd, wv, hi⟩ := hD
  have c0 : w.cell? ⟨g, 0, none⟩ = some (.slice (some ⟨gn, 0, none⟩) D.now.length D.now.length) := cell_of_row _ _ _ _ _ _ hi.row
  have c4 : w.cell? ⟨g, 4, none⟩ = some (.bool D.down) := cell_of_row _ _ _ _ _ _ hi.row
  cases hdn : D.down with
  | true =>
    have he : dkReadE D k = 9 := by unfold dkReadE; rw [if_pos hdn]
    have hm : dkRead D k = ⟨#[]⟩ := by unfold dkRead; rw [he]; rfl
    rw [he, hm]
    rw [hdn] at c4
    clear he hm hi hdn
    go_enter Try.func40, Try.ntmps40
    go_wp2
    go_ret2
    exact ⟨rfl, rfl⟩
  | false =>
    have hdn' : ¬ D.down = true := by simp [hdn]
    rw [hdn] at c4
    by_cases hk : 0 ≤ k ∧ k < D.now.length
    · have he : dkReadE D k = 0 := by unfold dkReadE; rw [if_neg hdn', if_pos hk]
      obtain ⟨n, rfl⟩ := Int.eq_ofNat_of_zero_le hk.1
      have hn : n < D.now.length := by omega
      have hm : dkRead D n = ⟨D.now[n].toArray⟩ := by unfold dkRead; rw [he, if_pos rfl]; simp [hn]
      rw [he, hm]
      have i1 : (0 : Int) ≤ (n : Int) := by omega
      have i2 : (n : Int) < (D.now.length : Int) := by omega
      have h80 : D.now[n].length = 80 := hok.now _ (List.getElem_mem hn)
      have hcv := run_text_at (P := Try.prog) w 94 9 5 gn (n * 80) 80 D.now[n] Try.underlying94 Try.underlying5 Try.underlying9 (range_of_row hi.now (fun j v hj => by rw [List.getElem?_toArray]; exact secs_cell hok.now n hn j v hj))
      rw [h80] at hcv
      generalize D.now[n] = s at *
      clear he hm hi hdn hdn' hk h80
      go_enter Try.func40, Try.ntmps40
      go_wp2_with fail
      ((with_reducible refine (dkHas_yes g D.now.length _ _ n _ c0 hn).mono ?_); rintro e w1 ⟨rfl, rfl⟩)
      go_wp2
      go_ret2
      exact ⟨rfl, rfl⟩
    · have he : dkReadE D k = 1 := by unfold dkReadE; rw [if_neg hdn', if_neg hk]
      have hm : dkRead D k = ⟨#[]⟩ := by unfold dkRead; rw [he]; rfl
      rw [he, hm]
      clear he hm hi hdn hdn'
      go_enter Try.func40, Try.ntmps40
      go_wp2_with fail
      ((with_reducible refine (dkHas_no g D.now.length _ _ k _ c0 hk).mono ?_); rintro e w1 ⟨rfl, rfl⟩)
      go_wp2
      go_ret2
      exact ⟨rfl, rfl⟩

theorem dkDown_any (B g : Nat) (w : World) (D : DkM) (hD : DkAt B w g D) :
    Calls Try.prog 25 #[.pointer (some ⟨g, 0, none⟩)] w fun e w' => e = .returned (.bool D.down) ∧ w = w' := by
  obtain ⟨hok, gn, gd, wv, hi⟩ := hD
  have c4 : w.cell? ⟨g, 4, none⟩ = some (.bool D.down) := cell_of_row _ _ _ _ _ _ hi.row
  clear hi
  go_enter Try.func25, Try.ntmps25
  go_wp2
  go_ret
  exact ⟨rfl, rfl⟩

def dkArm (D : DkM) (n : Int) : DkM := { D with left := n }
theorem dkArm_any (B g : Nat) (w : World) (D : DkM) (n : Int) (hD : DkAt B w g D) (h1 : -9223372036854775808 ≤ n) (h2 : n ≤ 9223372036854775807) :
    Calls Try.prog 20 #[.pointer (some ⟨g, 0, none⟩), .int .i64 n] w fun e w' => e = .returned (.tuple #[]) ∧ DkAt B w' g (dkArm D n) ∧ Step B dkTypes w w' := by
  obtain ⟨hok, gn, gd, wv, hi⟩ := hD
  have c3 : w.cell? ⟨g, 3, none⟩ = some (.int .i64 D.left) := cell_of_row _ _ _ _ _ _ hi.row
  have f3 : w.frozen? ⟨g, 3, none⟩ = false := frozen_of_row _ _ _ _ _ hi.row
  obtain ⟨q1, q2⟩ := hi.put 3 (.int .i64 n) (dkArm D n) wv rfl rfl rfl hi.wr
  have HO : (dkArm D n).Ok := ⟨hok.size, hok.few, hok.some, hok.now, hok.dur, hok.wr, h1, h2⟩
  have HQ := Lib.hid q1
  clear hi q1
  go_enter Try.func20, Try.ntmps20
  go_wp2
  go_end0
  exact ⟨rfl, ⟨HO, gn, gd, wv, HQ.out⟩, q2⟩
end Go.Proofs.Ythhedahfmllnoaa

/- Package disk: Flush. -/
namespace Go.Proofs.Ythhedahfmllnoaa
open Go.RowKit
attribute [local go_sem ↓] Go.wp_at_zero Go.wp_at_succ

/-- One row of sectors laid over the other. -/
theorem secs_over {a b : List (List UInt8)} (ha : Secs a) (hb : Secs b) (h : a.length = b.length) : (Go.splice (secs a).toArray.toList 0 (secs b)).toArray = (secs b).toArray := by
  have hl : (secs a).length ≤ (secs b).length := by rw [secs_length ha, secs_length hb, h]; exact Nat.le_refl _
  simp only [Go.splice, List.take_zero, List.nil_append, Nat.zero_add]
  rw [List.drop_eq_nil_of_le (by simpa using hl), List.append_nil]

theorem dk_save (B : Nat) (w w1 : World) (g gn gd : Nat) (wv : Value) (D : DkM) (hs1 : Step B dkTypes w w1) (hi : DkIn B w1 g gn gd wv D) :
    DkIn B ((w1.drew.setRow gd (secs D.now).toArray).setCell ⟨g, 2, none⟩ (.slice none 0 0)) g gn gd (.slice none 0 0) (dkSaved D) ∧ Step B dkTypes w ((w1.drew.setRow gd (secs D.now).toArray).setCell ⟨g, 2, none⟩ (.slice none 0 0)) ∧
    (w1.drew.setRow gd (secs D.now).toArray).heap[g]? = some (.cells (dkArr D.now.length gn gd wv D.left D.down) 68 (0, 0)) := by
  have hd : w1.drew.heap[gd]? = some (.cells (secs D.dur).toArray 88 (0, 0)) := hi.dur
  have hss : Step B [88] w1 (w1.drew.setRow gd (secs D.now).toArray) := ((Step.refl B [88] w1).drew).row hd hi.baseD (by simp) _
  have hr := hss.other _ _ _ _ hi.row (by decide)
  have hi2 : DkIn B (w1.drew.setRow gd (secs D.now).toArray) g gn gd wv { D with dur := D.now } :=
    ⟨hi.base, hr, hi.baseN, hi.baseD, hi.ne, by rw [setRow_other _ _ _ _ hi.ne]; exact hi.now, setRow_heap _ _ _ _ _ _ hd, own_step hi.wr hss (by decide)⟩
  obtain ⟨q1, q2⟩ := hi2.put 2 (.slice none 0 0) (dkSaved D) (.slice none 0 0) rfl rfl rfl (World.ownsRow_nil _ _ _ _)
  exact ⟨q1, (hs1.trans (hss.mono (Nat.le_refl _) (by decide))).trans q2, hr⟩

set_option maxHeartbeats 2000000 in
theorem dkFlush_any (B g : Nat) (w : World) (D : DkM) (hD : DkAt B w g D) :
    Calls Try.prog 54 #[.pointer (some ⟨g, 0, none⟩)] w fun e w' => e = .returned (errV (dkStepE D)) ∧ DkAt B w' g (dkFlush D) ∧ Step B dkTypes w w' := by
  have HS := dkStep_any B g w D hD
  by_cases h0 : dkStepE D = 0
  · have hm : dkFlush D = dkSaved (dkStep D) := by unfold dkFlush; rw [if_pos h0]
    rw [h0, hm, show errV 0 = .nilIface from rfl]
    rw [h0, show errV 0 = .nilIface from rfl] at HS
    generalize dkStep D = D1 at *
    have HS' := Lib.hid HS
    clear HS hm h0 hD
    go_enter Try.func54, Try.ntmps54
    go_wp2_with fail
    ((with_reducible refine HS'.out.mono ?_); rintro e w1 ⟨rfl, hD1, hs1⟩)
    obtain ⟨hok1, gn, gd, wv, hi⟩ := hD1
    obtain ⟨q1, q2, q3⟩ := dk_save B w w1 g gn gd wv D1 hs1 hi
    have c0 : w1.cell? ⟨g, 0, none⟩ = some (.slice (some ⟨gn, 0, none⟩) D1.now.length D1.now.length) := cell_of_row _ _ _ _ _ _ hi.row
    have c1 : w1.cell? ⟨g, 1, none⟩ = some (.slice (some ⟨gd, 0, none⟩) D1.now.length D1.now.length) := cell_of_row _ _ _ _ _ _ hi.row
    have k0 : (w1.drew.setRow gd (secs D1.now).toArray).cell? ⟨g, 0, none⟩ = some (.slice (some ⟨gn, 0, none⟩) D1.now.length D1.now.length) := cell_of_row _ _ _ _ _ _ q3
    have k1 : (w1.drew.setRow gd (secs D1.now).toArray).cell? ⟨g, 1, none⟩ = some (.slice (some ⟨gd, 0, none⟩) D1.now.length D1.now.length) := cell_of_row _ _ _ _ _ _ q3
    have k2 : (w1.drew.setRow gd (secs D1.now).toArray).cell? ⟨g, 2, none⟩ = some wv := cell_of_row _ _ _ _ _ _ q3
    have kf : (w1.drew.setRow gd (secs D1.now).toArray).frozen? ⟨g, 2, none⟩ = false := frozen_of_row _ _ _ _ _ q3
    have KEEP := Lib.hid (And.intro k0 k1)
    have HD := Lib.hid hi.dur
    have HSRC := Lib.hid (show ∀ j v, (secs D1.now)[j]? = some v → w1.drew.cell? ((⟨gn, 0, none⟩ : Addr).add j) = some v from fun j v hj => by
      rw [add_lit]; exact (cell_of_row w1 gn _ _ _ _ hi.now).trans (by simpa using hj))
    have HL := Lib.hid (show (secs D1.now).length = Nat.min D1.now.length D1.now.length * 80 by rw [secs_length hok1.now]; simp)
    have HF := Lib.hid (show 0 + (secs D1.now).length ≤ (secs D1.dur).toArray.size by simp [secs_length hok1.now, secs_length hok1.dur, hok1.size])
    have HO := Lib.hid (secs_over hok1.dur hok1.now hok1.size)
    have HOK := dkSaved_ok hok1
    clear HS' hi q3 k0 k1
    go_wp2_with fail
    go_region_held3 (fun w' => w'.cell? ⟨g, 0, none⟩ = some (.slice (some ⟨gn, 0, none⟩) D1.now.length D1.now.length) ∧ w'.cell? ⟨g, 1, none⟩ = some (.slice (some ⟨gd, 0, none⟩) D1.now.length D1.now.length)) (first | exact KEEP.out | go_keep)
      ((refine step_copy_rows rfl _ _ _ _ rfl 88 80 Try.underlying65 Try.infoSector gd 0 D1.now.length D1.now.length ⟨gn, 0, none⟩ D1.now.length D1.now.length rfl rfl (secs D1.dur).toArray 88 HD.out (secs D1.now) HL.out HSRC.out HF.out (secs_one _) _ HO.out ?_))
    go_wp2
    go_ret
    exact ⟨rfl, ⟨HOK, gn, gd, _, q1⟩, q2⟩
  · have h9 := dkStepE_9 h0
    have hm : dkFlush D = dkStep D := by unfold dkFlush; rw [if_neg h0]
    rw [h9, hm, show errV 9 = .iface 64 (.int .i64 9) from rfl]
    rw [h9, show errV 9 = .iface 64 (.int .i64 9) from rfl] at HS
    have HS' := Lib.hid HS
    clear HS hm h0 h9 hD
    go_enter Try.func54, Try.ntmps54
    go_wp2_with fail
    ((with_reducible refine HS'.out.mono ?_); rintro e w1 ⟨rfl, hD1, hs1⟩)
    go_wp2
    go_ret
    exact ⟨rfl, hD1, hs1⟩
end Go.Proofs.Ythhedahfmllnoaa
