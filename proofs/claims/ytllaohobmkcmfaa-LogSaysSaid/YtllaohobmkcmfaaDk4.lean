/- Package disk: Flush. -/
import Derived.Test.YtllaohobmkcmfaaDk3
namespace Go.Proofs.Ytllaohobmkcmfaa
open Go.RowKit
attribute [local go_sem ↓] Go.wp_at_zero Go.wp_at_succ

/-- One row of sectors laid over the other. -/
theorem secs_over {a b : List (List UInt8)} (ha : Secs a) (hb : Secs b) (h : a.length = b.length) : (Go.splice (secs a).toArray.toList 0 (secs b)).toArray = (secs b).toArray := by
  have hl : (secs a).length ≤ (secs b).length := by rw [secs_length ha, secs_length hb, h]; exact Nat.le_refl _
  simp only [Go.splice, List.take_zero, List.nil_append, Nat.zero_add]
  rw [List.drop_eq_nil_of_le (by simpa using hl), List.append_nil]

theorem dk_save (B : Nat) (w w1 : World) (g gn gd : Nat) (wv : Value) (D : DkM) (hs1 : Step B dkTypes w w1) (hi : DkIn B w1 g gn gd wv D) :
    DkIn B ((w1.drew.setRow gd (secs D.now).toArray).setCell ⟨g, 2, none⟩ (.slice none 0 0)) g gn gd (.slice none 0 0) (dkSaved D) ∧ Step B dkTypes w ((w1.drew.setRow gd (secs D.now).toArray).setCell ⟨g, 2, none⟩ (.slice none 0 0)) ∧
    (w1.drew.setRow gd (secs D.now).toArray).heap[g]? = some (.cells (dkArr D.now.length gn gd wv D.left D.down) 65 (0, 0)) := by
  have hd : w1.drew.heap[gd]? = some (.cells (secs D.dur).toArray 69 (0, 0)) := hi.dur
  have hss : Step B [69] w1 (w1.drew.setRow gd (secs D.now).toArray) := ((Step.refl B [69] w1).drew).row hd hi.baseD (by simp) _
  have hr := hss.other _ _ _ _ hi.row (by decide)
  have hi2 : DkIn B (w1.drew.setRow gd (secs D.now).toArray) g gn gd wv { D with dur := D.now } :=
    ⟨hi.base, hr, hi.baseN, hi.baseD, hi.ne, by rw [setRow_other _ _ _ _ hi.ne]; exact hi.now, setRow_heap _ _ _ _ _ _ hd, own_step hi.wr hss (by decide)⟩
  obtain ⟨q1, q2⟩ := hi2.put 2 (.slice none 0 0) (dkSaved D) (.slice none 0 0) rfl rfl rfl (World.ownsRow_nil _ _ _ _)
  exact ⟨q1, (hs1.trans (hss.mono (Nat.le_refl _) (by decide))).trans q2, hr⟩

set_option maxHeartbeats 2000000 in
theorem dkFlush_any (B g : Nat) (w : World) (D : DkM) (hD : DkAt B w g D) :
    Calls Try.prog 39 #[.pointer (some ⟨g, 0, none⟩)] w fun e w' => e = .returned (errV (dkStepE D)) ∧ DkAt B w' g (dkFlush D) ∧ Step B dkTypes w w' := by
  have HS := dkStep_any B g w D hD
  by_cases h0 : dkStepE D = 0
  · have hm : dkFlush D = dkSaved (dkStep D) := by unfold dkFlush; rw [if_pos h0]
    rw [h0, hm, show errV 0 = .nilIface from rfl]
    rw [h0, show errV 0 = .nilIface from rfl] at HS
    generalize dkStep D = D1 at *
    have HS' := Lib.hid HS
    clear HS hm h0 hD
    go_enter Try.func39, Try.ntmps39
    go_wp2_with fail
    ((with_reducible refine HS'.out.mono ?_); rintro e w1 ⟨rfl, hD1, hs1⟩)
    obtain ⟨hok1, gn, gd, wv, hi⟩ := hD1
    obtain ⟨q1, q2, q3⟩ := dk_save B w w1 g gn gd wv D1 hs1 hi
    have c0 : w1.cell? ⟨g, 0, none⟩ = some (.slice (some ⟨gn, 0, none⟩) D1.now.length D1.now.length) := cell_of_row _ _ _ _ _ _ hi.row
    have c1 : w1.cell? ⟨g, 1, none⟩ = some (.slice (some ⟨gd, 0, none⟩) D1.now.length D1.now.length) := cell_of_row _ _ _ _ _ _ hi.row
    have k0 : (w1.drew.setRow gd (secs D1.now).toArray).cell? ⟨g, 0, none⟩ = some (.slice (some ⟨gn, 0, none⟩) D1.now.length D1.now.length) := cell_of_row _ _ _ _ _ _ q3
    have k1 : (w1.drew.setRow gd (secs D1.now).toArray).cell? ⟨g, 1, none⟩ = some (.slice (some ⟨gd, 0, none⟩) D1.now.length D1.now.length) := cell_of_row _ _ _ _ _ _ q3
    have k2 : (w1.drew.setRow gd (secs D1.now).toArray).cell? ⟨g, 2, none⟩ = some wv := cell_of_row _ _ _ _ _ _ q3
    have kf : (w1.drew.setRow gd (secs D1.now).toArray).frozen? ⟨g, 2, none⟩ = false := frozen_of_row _ _ _ _ _ q3
    have KEEP := Lib.hid (And.intro k0 k1)
    have HD := Lib.hid hi.dur
    have HSRC := Lib.hid (show ∀ j v, (secs D1.now)[j]? = some v → w1.drew.cell? ((⟨gn, 0, none⟩ : Addr).add j) = some v from fun j v hj => by
      rw [add_lit]; exact (cell_of_row w1 gn _ _ _ _ hi.now).trans (by simpa using hj))
    have HL := Lib.hid (show (secs D1.now).length = Nat.min D1.now.length D1.now.length * 80 by rw [secs_length hok1.now]; simp)
    have HF := Lib.hid (show 0 + (secs D1.now).length ≤ (secs D1.dur).toArray.size by simp [secs_length hok1.now, secs_length hok1.dur, hok1.size])
    have HO := Lib.hid (secs_over hok1.dur hok1.now hok1.size)
    have HOK := dkSaved_ok hok1
    clear HS' hi q3 k0 k1
    go_wp2_with fail
    go_region_held3 (fun w' => w'.cell? ⟨g, 0, none⟩ = some (.slice (some ⟨gn, 0, none⟩) D1.now.length D1.now.length) ∧ w'.cell? ⟨g, 1, none⟩ = some (.slice (some ⟨gd, 0, none⟩) D1.now.length D1.now.length)) (first | exact KEEP.out | go_keep)
      ((refine step_copy_rows rfl _ _ _ _ rfl 69 80 Try.underlying62 Try.infoSector gd 0 D1.now.length D1.now.length ⟨gn, 0, none⟩ D1.now.length D1.now.length rfl rfl (secs D1.dur).toArray 69 HD.out (secs D1.now) HL.out HSRC.out HF.out (secs_one _) _ HO.out ?_))
    go_wp2
    go_ret
    exact ⟨rfl, ⟨HOK, gn, gd, _, q1⟩, q2⟩
  · have h9 := dkStepE_9 h0
    have hm : dkFlush D = dkStep D := by unfold dkFlush; rw [if_neg h0]
    rw [h9, hm, show errV 9 = .iface 61 (.int .i64 9) from rfl]
    rw [h9, show errV 9 = .iface 61 (.int .i64 9) from rfl] at HS
    have HS' := Lib.hid HS
    clear HS hm h0 h9 hD
    go_enter Try.func39, Try.ntmps39
    go_wp2_with fail
    ((with_reducible refine HS'.out.mono ?_); rintro e w1 ⟨rfl, hD1, hs1⟩)
    go_wp2
    go_ret
    exact ⟨rfl, hD1, hs1⟩
end Go.Proofs.Ytllaohobmkcmfaa
