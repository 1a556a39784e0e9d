/- The store: rows read (read). -/
import Derived.Test.YthhedahfmllnoaaZqSt2
import Derived.Test.YthhedahfmllnoaaZqSt3
import Derived.Test.YthhedahfmllnoaaZqSt4
namespace Go.Proofs.Ythhedahfmllnoaa
open Go.RowKit Go.PlainAid

/-- The first k sectors behind a slot's header, as bytes. -/
def slotBytes (D : DkM) (slot k : Nat) : List UInt8 := (List.range k).flatMap fun (j : Nat) => (dkRead D ((slot : Int) * 61 + ((j : Int) + 1))).data.toList
def slotText (D : DkM) (slot : Nat) : ByteArray := ⟨(slotBytes D slot 60).toArray⟩
def hdRead (D : DkM) (h : Hd) : Int × List Ch := if h.turn = 0 then (4, []) else stParse h.rows (slotText D h.slot) []
theorem slotBytes_succ (D : DkM) (slot k : Nat) : slotBytes D slot (k + 1) = slotBytes D slot k ++ (dkRead D ((slot : Int) * 61 + ((k : Int) + 1))).data.toList := by
  unfold slotBytes
  rw [List.range_succ, List.flatMap_append]
  simp
theorem dkRead_le {D : DkM} (h : D.Ok) (k : Int) : (dkRead D k).size ≤ 80 := by
  by_cases hk : dkReadE D k = 0
  · rw [dkRead_size h hk]; omega
  · unfold dkRead; rw [if_neg hk]; simp
theorem slotBytes_len {D : DkM} (h : D.Ok) (slot : Nat) : ∀ k, (slotBytes D slot k).length ≤ k * 80
  | 0 => by simp [slotBytes]
  | k + 1 => by
    rw [slotBytes_succ, List.length_append]
    have := slotBytes_len h slot k
    have h2 := dkRead_le h ((slot : Int) * 61 + ((k : Int) + 1))
    have e : (dkRead D ((slot : Int) * 61 + ((k : Int) + 1))).data.toList.length = (dkRead D ((slot : Int) * 61 + ((k : Int) + 1))).size := rfl
    omega

theorem hdSector_any (h : Hd) (w : World) (hs : h.slot ≤ 1) : Calls Try.prog 41 #[.agg #[.int .i64 h.slot, .int .i64 h.turn, .int .i64 h.log, .int .i64 h.rows]] w fun e w' => e = .returned (.int .i64 ((h.slot : Int) * 61)) ∧ Below w.heap.size w w' := by
  have b0 := (Below.refl w.heap.size w).alloc (Nat.le_refl _) (.cells #[.int .i64 h.slot, .int .i64 h.turn, .int .i64 h.log, .int .i64 h.rows] 74)
  have i1 : (h.slot : Int) ≤ 1 := by omega
  have HB := Lib.hid b0
  clear b0
  go_enter Try.func41, Try.ntmps41
  go_wp2
  go_ret
  exact ⟨rfl, HB.out⟩

theorem StParRet.up {w w1 w' : World} {R : Int × List Ch} {e : Ending} (h : StParRet w1 R e w') (hb : Below w.heap.size w w1) : StParRet w R e w' := by
  obtain ⟨h1, h2⟩ := h
  refine ⟨h1.imp id fun ⟨h0, A, c, he, ho⟩ => ⟨h0, A, c, he, ?_⟩, belowThen hb h2⟩
  obtain ⟨a, b⟩ := ho
  exact ⟨a, b.imp id fun ⟨g, cap, cur, q1, q2, q3⟩ => ⟨g, cap, cur, q1, Nat.le_trans hb.size q2, q3⟩⟩
theorem StParRet.good {w w' : World} {R : Int × List Ch} {e : Ending} (h : StParRet w R e w') (hz : R.1 = 0) : ∃ A c, e = .returned (.tuple #[.slice A R.2.length c, .nilIface]) ∧ StParRet w R (.returned (.tuple #[.slice A R.2.length c, .nilIface])) w' := by
  have h' := h
  rcases h.1 with ⟨h0, _⟩ | ⟨_, A, c, he, _⟩
  · exact absurd hz h0
  · subst he; exact ⟨A, c, rfl, h'⟩
theorem StParRet.badE {w w' : World} {R : Int × List Ch} {e : Ending} (h : StParRet w R e w') (hz : ¬ R.1 = 0) : e = .returned (.tuple #[.slice none 0 0, errV R.1]) ∧ StParRet w R (.returned (.tuple #[.slice none 0 0, errV R.1])) w' := by
  have h' := h
  rcases h.1 with ⟨_, he⟩ | ⟨h0, _⟩
  · subst he; exact ⟨rfl, h'⟩
  · exact absurd h0 hz
theorem StParRet.form {w w' : World} {R : Int × List Ch} {e : Ending} (h : StParRet w R e w') : (∃ ne, e = .returned (.tuple #[.slice none 0 0, errV ne])) ∨ ∃ A n c, e = .returned (.tuple #[.slice A n c, .nilIface]) := by
  rcases h.1 with ⟨_, h⟩ | ⟨_, A, c, h, _⟩
  · exact .inl ⟨_, h⟩
  · exact .inr ⟨A, _, c, h⟩

set_option maxHeartbeats 1000000 in
set_option maxRecDepth 100000 in
theorem hdRead_any (B g : Nat) (w : World) (D : DkM) (h : Hd) (hD : DkAt B w g D) (hn : 122 ≤ D.now.length) (hdn : D.down = false) (hs : h.slot ≤ 1) (hr : h.rows ≤ 80) (R : Int × List Ch) (hR : hdRead D h = R) :
    Calls Try.prog 28 #[.agg #[.int .i64 h.slot, .int .i64 h.turn, .int .i64 h.log, .int .i64 h.rows], .pointer (some ⟨g, 0, none⟩)] w (StParRet w R) := by
  have two := two_new w (.cells #[.int .i64 h.slot, .int .i64 h.turn, .int .i64 h.log, .int .i64 h.rows] 74) (.cells #[.pointer none, .slice none 0 0] 96)
  have one := (Below.refl w.heap.size w).alloc (Nat.le_refl _) (.cells #[.int .i64 h.slot, .int .i64 h.turn, .int .i64 h.log, .int .i64 h.rows] 74)
  obtain ⟨r1, r2, r3, r4⟩ := two
  have hok := hD.1
  have HD := Lib.hid (fun w' (hb : Below w.heap.size w w') => hD.below hb)
  unfold hdRead at hR
  by_cases h0 : h.turn = 0
  · rw [if_pos h0] at hR
    have z : ((h.turn : Int) == 0) = true := by simp [h0]
    have HF := Lib.hid (show StParRet w R (.returned (.tuple #[.slice none 0 0, .iface 64 (.int .i64 4)])) _ from by subst hR; exact ⟨.inl ⟨by simp, rfl⟩, one⟩)
    clear hR r1 r2 r3 r4 one h0 hD
    go_enter Try.func28, Try.ntmps28
    go_wp2
    go_ret2
    exact HF.out
  · rw [if_neg h0] at hR
    have z : ((h.turn : Int) == 0) = false := by simp; omega
    have H0 := Lib.hid (show _ ∧ _ ∧ _ from ⟨r1, (.inl ⟨Nat.le_refl _, _, r2, World.ownsRow_nil _ _ _ _, by simp [Value.ownBlock]⟩ : BldAt (w.heap.size + 1) (w.heap.size + 1) [] _), (show _ ∧ _ from ⟨r4, Nat.le_of_eq r3.symm⟩)⟩)
    have HR := Lib.hid hR
    clear hR r1 r2 r3 r4 one h0 hD
    go_enter Try.func28, Try.ntmps28
    go_wp2
    go_loopw [7] (fun i wr => ∃ k : Nat, k ≤ 60 ∧ i = .int .i64 ((k : Int) + 1) ∧ wr.heap[w.heap.size]? = some (.cells #[.int .i64 h.slot, .int .i64 h.turn, .int .i64 h.log, .int .i64 h.rows] 74 (0, 0)) ∧ BldAt (w.heap.size + 1) (w.heap.size + 1) (slotBytes D h.slot k) wr ∧ Below w.heap.size w wr ∧ w.heap.size + 1 + 1 ≤ wr.heap.size) (fun i _ => 61 - (intOf i).toNat)
    case atStart => exact ⟨0, Nat.zero_le _, rfl, H0.out.1, H0.out.2.1, H0.out.2.2.1, H0.out.2.2.2⟩
    case round =>
      obtain ⟨k, hk, rfl, hr1, hB, hb, hsw⟩ := hrel
      clear H0
      have d0 : wr.cell? ⟨w.heap.size, 0, none⟩ = some (.int .i64 h.slot) := cell_of_row _ _ _ _ _ _ hr1
      have d1 : wr.cell? ⟨w.heap.size, 1, none⟩ = some (.int .i64 h.turn) := cell_of_row _ _ _ _ _ _ hr1
      have d2 : wr.cell? ⟨w.heap.size, 2, none⟩ = some (.int .i64 h.log) := cell_of_row _ _ _ _ _ _ hr1
      have d3 : wr.cell? ⟨w.heap.size, 3, none⟩ = some (.int .i64 h.rows) := cell_of_row _ _ _ _ _ _ hr1
      by_cases hlt : k < 60
      · have i1 : (k : Int) + 1 < 61 := by omega
        have i2 : (h.slot : Int) ≤ 1 := by omega
        have he : dkReadE D ((h.slot : Int) * 61 + ((k : Int) + 1)) = 0 := by unfold dkReadE; rw [if_neg (by rw [hdn]; simp), if_pos (by omega)]
        have HRD := Lib.hid (fun w' (hb' : Below wr.heap.size wr w') => dkRead_any B g w' D ((h.slot : Int) * 61 + ((k : Int) + 1)) (HD.out _ (belowThen hb hb')))
        rw [he, show errV 0 = .nilIface from rfl] at HRD
        have hT := slotBytes_succ D h.slot k
        have hlen := slotBytes_len hok h.slot k
        have hsz := dkRead_size hok he
        obtain ⟨s, hse⟩ : ∃ s, dkRead D ((h.slot : Int) * 61 + ((k : Int) + 1)) = s := ⟨_, rfl⟩
        rw [hse] at hT hsz HRD
        obtain ⟨T, hTe⟩ : ∃ T, slotBytes D h.slot k = T := ⟨_, rfl⟩
        rw [hTe] at hT hB hlen
        have HT := Lib.hid hT
        have HB := Lib.hid (fun w' (h' : Below wr.heap.size wr w') => show BldAt (w.heap.size + 1) (w.heap.size + 1) T w' ∧ Below w.heap.size w w' ∧ w'.heap[w.heap.size]? = some (.cells #[.int .i64 h.slot, .int .i64 h.turn, .int .i64 h.log, .int .i64 h.rows] 74 (0, 0)) from ⟨bld_below hB h', belowThen hb h', (h'.block _ (Array.getElem?_eq_some_iff.1 hr1).1).trans hr1⟩)
        have HS := Lib.hid (hdSector_any h wr hs)
        clear hT hse hTe hB hb hr1 he
        go_wp2_with fail
        ((with_reducible refine HS.out.mono ?_); rintro e w1 ⟨rfl, hb1⟩)
        have HRD1 := Lib.hid (HRD.out w1 hb1)
        clear HRD HS d0 d1 d2 d3
        go_wp2_with fail
        ((with_reducible refine HRD1.out.mono ?_); rintro e w2 ⟨rfl, rfl⟩)
        obtain ⟨hB1, hw1, hr2⟩ := HB.out _ hb1
        have HWB := Lib.hid (bldWrite (w.heap.size + 1) (w.heap.size + 1) T s w1 hB1 (by omega) (by have := hb1.size; omega))
        have HK := Lib.hid (show _ ∧ _ ∧ _ from ⟨hw1, hr2, Nat.le_trans hsw hb1.size⟩)
        clear HRD1 hB1 hw1 hr2 hb1 HB
        go_wp2_with fail
        ((with_reducible refine HWB.out.mono ?_); rintro e w3 ⟨rfl, hB3, hb3⟩)
        have HB3 := Lib.hid hB3
        have HW3 := Lib.hid (HK.out.1.trans (hb3.mono (Nat.le_succ _)))
        have HR3 := Lib.hid ((hb3.block w.heap.size (Nat.lt_succ_self _)).trans HK.out.2.1)
        have HS3 := Lib.hid (Nat.le_trans HK.out.2.2 hb3.size)
        clear HWB hB3 hb3 HK
        go_wp2
        go_roundw
        case rel => exact ⟨k + 1, by omega, by go_num, HR3.out, by rw [HT.out]; exact HB3.out, HW3.out, HS3.out⟩
        case measure => simp [intOf]; omega
      · obtain rfl : k = 60 := by omega
        have hlen := slotBytes_len hok h.slot 60
        have HSB := Lib.hid (fun w' (h' : Below wr.heap.size wr w') => bldString (w.heap.size + 1) (w.heap.size + 1) _ w' (bld_below hB h') (by have := h'.size; omega))
        have HST := Lib.hid (fun w' => stParse_any (slotText D h.slot) h.rows w' (by show (slotBytes D h.slot 60).toArray.size ≤ 1000000; simp; omega) hr R HR.out)
        rw [show (⟨(slotBytes D h.slot 60).toArray⟩ : ByteArray) = slotText D h.slot from rfl] at HSB
        obtain ⟨T, hTe⟩ : ∃ T, slotText D h.slot = T := ⟨_, rfl⟩
        rw [hTe] at HSB HST
        have hlt3 : w.heap.size < wr.heap.size := (Array.getElem?_eq_some_iff.1 hr1).1
        have KS := Lib.hid (fun w' (h' : Below (w.heap.size + 1) wr w') => show w'.cell? ⟨w.heap.size, 3, none⟩ = some (.int .i64 h.rows) from cell_of_row _ _ _ _ _ _ ((h'.block w.heap.size (Nat.lt_succ_self _)).trans hr1))
        have HB := Lib.hid (fun w' (h' : Below (w.heap.size + 1) wr w') => show Below w.heap.size w w' from hb.trans (h'.mono (Nat.le_succ _)))
        have HSW := Lib.hid hsw
        clear hb hr1 hTe hlen d0 d1 d2 hB
        by_cases hz : R.1 = 0
        · have HST2 := Lib.hid (fun w' => (HST.out w').mono fun e w2 h => h.good hz)
          obtain ⟨nr, hnr⟩ : ∃ n, R.2.length = n := ⟨_, rfl⟩
          rw [hnr] at HST2
          clear HST hnr
          go_wp2_with fail
          go_region_held3 (fun w' => w'.cell? ⟨w.heap.size, 3, none⟩ = some (.int .i64 h.rows)) (first | with_reducible exact d3 | with_reducible exact KS.out _ (by (repeat (first | with_reducible exact Below.refl _ _ | with_reducible refine belowAlloc ?_ _ | with_reducible refine Below.drew ?_ | with_reducible refine Below.trans ?_ hb1 | with_reducible refine Below.trans ?_ (hb2.mono hs1))); (first | done | fail)) | fail)
            (first
              | (go_at_call 44; (with_reducible refine (HSB.out _ (by (repeat (first | with_reducible exact Below.refl _ _ | with_reducible refine Below.drew ?_)); (first | done | fail))).mono ?_); rintro e w1 ⟨rfl, hb1⟩; have hs1 : w.heap.size + 1 ≤ w1.heap.size := Nat.le_trans (Nat.le_of_succ_le HSW.out) (show wr.heap.size ≤ w1.heap.size from hb1.size))
              | (go_at_call 43; (with_reducible refine (HST2.out _).mono ?_); rintro e w2 ⟨A, c, rfl, hret⟩; have hb2 := hret.2)
              | fail)
          all_goals
            have HF := Lib.hid (hret.up (HB.out _ (by (repeat (first | with_reducible exact Below.refl _ _ | with_reducible refine belowAlloc ?_ _ | with_reducible refine Below.drew ?_ | with_reducible refine Below.trans ?_ hb1)); (first | done | fail))))
            clear hret hb1 hb2
            go_wp2
            go_ret2
            exact HF.out
        · have HST3 := Lib.hid (fun w' => (HST.out w').mono fun e w2 h => h.badE hz)
          have hv : errV R.1 = .iface 64 (.int .i64 R.1) := by unfold errV; rw [if_neg hz]
          obtain ⟨ne, hne⟩ : ∃ ne, R.1 = ne := ⟨_, rfl⟩
          rw [hv, hne] at HST3
          clear HST hv hz hne
          go_wp2_with fail
          go_region_held3 (fun w' => w'.cell? ⟨w.heap.size, 3, none⟩ = some (.int .i64 h.rows)) (first | with_reducible exact d3 | with_reducible exact KS.out _ (by (repeat (first | with_reducible exact Below.refl _ _ | with_reducible refine belowAlloc ?_ _ | with_reducible refine Below.drew ?_ | with_reducible refine Below.trans ?_ hb1 | with_reducible refine Below.trans ?_ (hb2.mono hs1))); (first | done | fail)) | fail)
            (first
              | (go_at_call 44; (with_reducible refine (HSB.out _ (by (repeat (first | with_reducible exact Below.refl _ _ | with_reducible refine Below.drew ?_)); (first | done | fail))).mono ?_); rintro e w1 ⟨rfl, hb1⟩; have hs1 : w.heap.size + 1 ≤ w1.heap.size := Nat.le_trans (Nat.le_of_succ_le HSW.out) (show wr.heap.size ≤ w1.heap.size from hb1.size))
              | (go_at_call 43; (with_reducible refine (HST3.out _).mono ?_); rintro e w2 ⟨rfl, hret⟩; have hb2 := hret.2)
              | fail)
          all_goals
            have HF := Lib.hid (hret.up (HB.out _ (by (repeat (first | with_reducible exact Below.refl _ _ | with_reducible refine belowAlloc ?_ _ | with_reducible refine Below.drew ?_ | with_reducible refine Below.trans ?_ hb1)); (first | done | fail))))
            clear hret hb1 hb2
            go_wp2
            go_ret2
            exact HF.out
end Go.Proofs.Ythhedahfmllnoaa
