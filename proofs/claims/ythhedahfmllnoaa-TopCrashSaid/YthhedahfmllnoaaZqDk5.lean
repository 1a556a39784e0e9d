/- Package disk: Restart. -/
import Derived.Test.YthhedahfmllnoaaZqDk4
import Derived.Laws.Bits64b
import Derived.Laws.BitsAllLaws
namespace Go.Proofs.Ythhedahfmllnoaa
open Go.RowKit
attribute [local go_sem ↓] Go.wp_at_zero Go.wp_at_succ

theorem wr_range {w : World} {gb c n : Nat} {B : Nat} {L : List (Nat × List UInt8)} (hO : w.ownsRow B 90 81 (.slice (some ⟨gb, 0, none⟩) n c) L.length (wrCells L)) (hL : ∀ p ∈ L, (wrArr p).length = 81) (j : Nat) (hj : j < L.length) : w.rangeAt gb (j * 81) (wrArr L[j]) := by
  intro i v hv
  rcases hO.2 with ⟨h, _⟩ | ⟨g', cap, cur, h, _, hh, _, _, hsz, htk⟩
  · cases h
  · injection h with h _ _
    injection h with h
    injection h with h _ _
    subst h
    rw [cell_of_row _ _ _ _ _ _ hh]
    have h1 := flat_cell wrArr 81 L hL j hj i v hv
    have h2 : (L.flatMap wrArr) = cur.toList.take (L.length * 81) := htk.symm
    rw [h2, List.getElem?_take] at h1
    split at h1
    · simpa using h1
    · cases h1

theorem wrArr_one (p : Nat × List UInt8) : ∀ v ∈ (wrArr p).toArray.toList, v.oneCell' = true := by
  intro v hv
  simp only [wrArr, List.mem_cons] at hv
  rcases hv with rfl | hv
  · rfl
  · exact bv_one _ v hv
theorem wrArr_splice (p : Nat × List UInt8) (h : (wrArr p).length = 81) : splice (wzArr 0) 0 (wrArr p).toArray = (wrArr p).toArray := by
  simp only [splice, List.take_zero, List.nil_append, Nat.zero_add]
  rw [List.drop_eq_nil_of_le (by rw [List.size_toArray, h]; exact Nat.le_of_eq (wzArr_size 0))]
  simp

def keepM (D : DkM) (keep j : Nat) : DkM := { D with dur := dkKeep keep 0 (D.wr.take j) D.dur }
theorem keepM_ok {D : DkM} (h : D.Ok) (keep j : Nat) : (keepM D keep j).Ok :=
  ⟨by rw [keepM, dkKeep_length]; exact h.size, h.few, h.some, h.now, dkKeep_secs keep _ 0 _ (fun p hp => (h.wr p (List.mem_of_mem_take hp)).2) h.dur, h.wr, h.lo, h.hi⟩
theorem keepM_succ {D : DkM} (keep j : Nat) (hj : j < D.wr.length) : keepM D keep (j + 1) = { keepM D keep j with dur := if kept64 keep j = true then (keepM D keep j).dur.set D.wr[j].1 D.wr[j].2 else (keepM D keep j).dur } := by
  simp only [keepM]
  rw [List.take_succ_eq_append_getElem hj, dkKeep_append]
  simp only [List.length_take, Nat.zero_add, dkKeep]
  rw [Nat.min_eq_left (by omega)]

theorem keep_bit (keep j : Nat) (h : keep < 18446744073709551616) : (bits BinOp.and IntKind.u64 ((keep : Int) / 2 ^ (j % 64)) 1 == 1) = kept64 keep j := by
  have e : (keep : Int) / 2 ^ (j % 64) = ((keep / 2 ^ (j % 64) : Nat) : Int) := by simp
  have hlt : keep / 2 ^ (j % 64) < 18446744073709551616 := Nat.lt_of_le_of_lt (Nat.div_le_self _ _) h
  have b := bits_and_u64_nat (keep / 2 ^ (j % 64)) 1 hlt (by decide)
  rw [e, show (1 : Int) = ((1 : Nat) : Int) from rfl, b, nat_mask1, kept64, Nat.testBit_eq_decide_div_mod_eq]
  by_cases hc : keep / 2 ^ (j % 64) % 2 = 1
  · simp [hc]
  · have : keep / 2 ^ (j % 64) % 2 = 0 := by omega
    simp [this]

theorem dk_keep (B : Nat) (w w2 : World) (g gn gd : Nat) (wv : Value) (D1 : DkM) (k : Nat) (s : List UInt8) (hok : D1.Ok) (hk : k < D1.now.length) (hs : s.length = 80) (hs2 : Step B dkTypes w w2)
    (hi : DkIn B w2 g gn gd wv D1) :
    DkIn B (w2.drew.setCells gd (k * 80) (bv s)) g gn gd wv { D1 with dur := D1.dur.set k s } ∧ Step B dkTypes w (w2.drew.setCells gd (k * 80) (bv s)) := by
  have hk' : k < D1.dur.length := by rw [hok.size]; exact hk
  have hfit : k * 80 + (bv s).length ≤ (secs D1.dur).toArray.size := by rw [List.size_toArray, secs_length hok.dur, bv_length, hs]; omega
  have hdur : w2.drew.heap[gd]? = some (.cells (secs D1.dur).toArray 88 (0, 0)) := hi.dur
  rw [setCells_row Try.prog w2.drew gd (k * 80) (bv s) _ _ hdur hfit (bv_one s)]
  rw [List.toList_toArray, secs_set hok.dur k s hk' hs]
  have ne0 : g ≠ gd := types_ne hi.row hi.dur (by decide)
  have hss : Step B [88] w2 (w2.drew.setRow gd (secs (D1.dur.set k s)).toArray) := ((Step.refl B [88] w2).drew).row hdur hi.baseD (by simp) _
  refine ⟨⟨hi.base, ?_, hi.baseN, hi.baseD, hi.ne, ?_, setRow_heap _ _ _ _ _ _ hdur, own_step hi.wr hss (by decide)⟩, hs2.trans (hss.mono (Nat.le_refl _) (by decide))⟩
  · rw [setRow_other _ _ _ _ ne0]; exact hi.row
  · rw [setRow_other _ _ _ _ hi.ne]; exact hi.now

theorem dk_end (B : Nat) (w w1 : World) (g gn gd : Nat) (wv : Value) (D1 : DkM) (hs1 : Step B dkTypes w w1) (hi : DkIn B w1 g gn gd wv D1) (hN : D1.dur.length = D1.now.length) :
    (w1.drew.setRow gn (secs D1.dur).toArray).heap[g]? = some (.cells (dkArr D1.now.length gn gd wv D1.left D1.down) 68 (0, 0)) ∧
    DkIn B ((((w1.drew.setRow gn (secs D1.dur).toArray).setCell ⟨g, 2, none⟩ (.slice none 0 0)).setCell ⟨g, 3, none⟩ (.int .i64 (-1))).setCell ⟨g, 4, none⟩ (.bool false)) g gn gd (.slice none 0 0) ⟨D1.dur, D1.dur, [], -1, false⟩ ∧
    Step B dkTypes w ((((w1.drew.setRow gn (secs D1.dur).toArray).setCell ⟨g, 2, none⟩ (.slice none 0 0)).setCell ⟨g, 3, none⟩ (.int .i64 (-1))).setCell ⟨g, 4, none⟩ (.bool false)) := by
  have hd : w1.drew.heap[gn]? = some (.cells (secs D1.now).toArray 88 (0, 0)) := hi.now
  have hss : Step B [88] w1 (w1.drew.setRow gn (secs D1.dur).toArray) := ((Step.refl B [88] w1).drew).row hd hi.baseN (by simp) _
  have hr := hss.other _ _ _ _ hi.row (by decide)
  have hi2 : DkIn B (w1.drew.setRow gn (secs D1.dur).toArray) g gn gd wv ⟨D1.dur, D1.dur, D1.wr, D1.left, D1.down⟩ :=
    ⟨hi.base, by rw [show (DkM.mk D1.dur D1.dur D1.wr D1.left D1.down).now.length = D1.now.length from hN]; exact hr, hi.baseN, hi.baseD, hi.ne, setRow_heap _ _ _ _ _ _ hd, by rw [setRow_other _ _ _ _ (Ne.symm hi.ne)]; exact hi.dur, own_step hi.wr hss (by decide)⟩
  obtain ⟨q1, q2⟩ := hi2.put 2 (.slice none 0 0) ⟨D1.dur, D1.dur, [], D1.left, D1.down⟩ (.slice none 0 0) rfl rfl rfl (World.ownsRow_nil _ _ _ _)
  obtain ⟨q3, q4⟩ := q1.put 3 (.int .i64 (-1)) ⟨D1.dur, D1.dur, [], -1, D1.down⟩ (.slice none 0 0) rfl rfl rfl (World.ownsRow_nil _ _ _ _)
  obtain ⟨q5, q6⟩ := q3.put 4 (.bool false) ⟨D1.dur, D1.dur, [], -1, false⟩ (.slice none 0 0) rfl rfl rfl (World.ownsRow_nil _ _ _ _)
  exact ⟨hr, q5, (((hs1.trans (hss.mono (Nat.le_refl _) (by decide))).trans q2).trans q4).trans q6⟩

set_option maxHeartbeats 2000000 in
set_option maxRecDepth 100000 in
theorem dkRestart_any (B g : Nat) (w : World) (D : DkM) (keep : Nat) (hD : DkAt B w g D) (hkeep : keep < 18446744073709551616) (hwr : D.wr.length ≤ 1000000) :
    Calls Try.prog 23 #[.pointer (some ⟨g, 0, none⟩), .int .u64 (keep : Int)] w fun e w' => e = .returned (.tuple #[]) ∧ DkAt B w' g (dkRestart D keep) ∧ Step B dkTypes w w' := by
  obtain ⟨hok, gn, gd, wv, hi⟩ := hD
  obtain ⟨wA, wc, rfl⟩ : ∃ A c, wv = .slice A D.wr.length c := by
    rcases ownsRow_form hi.wr with ⟨A, c, rfl, h0⟩ | ⟨gb, c, rfl, hp⟩
    · exact ⟨A, c, by rw [show D.wr.length = 0 from h0]⟩
    · exact ⟨_, c, rfl⟩
  have c2 : w.cell? ⟨g, 2, none⟩ = some (.slice wA D.wr.length wc) := cell_of_row _ _ _ _ _ _ hi.row
  have HI := Lib.hid hi
  clear hi
  go_enter Try.func23, Try.ntmps23
  go_wp2
  go_loopw [11] (fun i w' => ∃ j : Nat, j ≤ D.wr.length ∧ i = .int .i64 j ∧ DkIn B w' g gn gd (.slice wA D.wr.length wc) (keepM D keep j) ∧ Step B dkTypes w w') (fun i _ => D.wr.length - (intOf i).toNat)
  case atStart => exact ⟨0, Nat.zero_le _, rfl, HI.out, Step.refl _ _ _⟩
  case round =>
    obtain ⟨j, hj, rfl, hi', hs'⟩ := hrel
    clear c2 HI
    by_cases hlt : j < D.wr.length
    · obtain ⟨gb, rfl⟩ : ∃ gb, wA = some ⟨gb, 0, none⟩ := by
        rcases hi'.wr.2 with ⟨h, _⟩ | ⟨g', cap, cur, h, _⟩
        · injection h with _ h _; omega
        · injection h with h _ _; exact ⟨g', h⟩
      have i1 : (0 : Int) ≤ (j : Int) := by omega
      have i2 : (j : Int) < (D.wr.length : Int) := by omega
      have HR := Lib.hid (show wr.rangeAt gb (j * 81) (wrArr D.wr[j]) from wr_range (L := D.wr) hi'.wr (wrs_len hok) j hlt)
      have HL := wrs_len hok _ (List.getElem_mem hlt)
      obtain ⟨hp1, hp2⟩ := hok.wr _ (List.getElem_mem hlt)
      have HM := Lib.hid (keepM_succ (D := D) keep j hlt)
      have hokj := keepM_ok hok keep j
      have hnl : D.now.length = (keepM D keep j).now.length := rfl
      have HI := Lib.hid hi'
      have KB := keep_bit keep j hkeep
      have hltg := (Array.getElem?_eq_some_iff.1 hi'.row).1
      have c1 : wr.cell? ⟨g, 1, none⟩ = some (.slice (some ⟨gd, 0, none⟩) (keepM D keep j).now.length (keepM D keep j).now.length) := cell_of_row _ _ _ _ _ _ hi'.row
      have hgg := hi'.base
      generalize D.wr[j] = p at *
      obtain ⟨a, s⟩ := p
      simp only [] at hp1 hp2
      cases hkb : kept64 keep j with
      | false =>
        rw [hkb] at KB HM
        have HM' := Lib.hid (show keepM D keep (j + 1) = keepM D keep j from HM.out)
        clear hkb HM c1 hi'
        go_wp2_with (first
          | ((with_reducible refine isLoad 15 ?_); refine wpList_load_mid rfl 90 _ rfl gb (j * 81) rfl (wrArr (a, s)) _ HR.out Try.underlying90 rfl (by rw [HL]; exact Try.infoWrite) ?_)
          | ((with_reducible refine isOpAt 5 ?_); refine wpList_alloc rfl 90 rfl _ (allocWrite _) ?_)
          | ((with_reducible refine isStore 90 ?_); refine wpList_store_at rfl 90 _ _ rfl wr.heap.size 0 81 rfl 90 _ (wrArr (a, s)).toArray rfl (heap_alloc_new _ _) Try.infoWrite (by simp [wzArr_size]) (by simpa using HL) (wrArr_one _) _ (wrArr_splice _ HL) ?_; rw [alloc_setRow]))
        refine ⟨⟨j + 1, by omega, by go_num, ?_, hs'.alloc (by omega) _⟩, by simp [intOf]; omega⟩
        rw [HM'.out]
        exact HI.out.step (ts := []) ((Step.refl wr.heap.size [] wr).alloc (Nat.le_refl _) _) (by simp) (by simp) (by simp)
      | true =>
        rw [hkb] at KB HM
        have HM' := Lib.hid (show keepM D keep (j + 1) = { keepM D keep j with dur := (keepM D keep j).dur.set a s } from HM.out)
        clear hkb HM
        have hi4 : DkIn B (wr.alloc (.cells (wrArr (a, s)).toArray 90)) g gn gd (.slice (some ⟨gb, 0, none⟩) D.wr.length wc) (keepM D keep j) := hi'.step (ts := []) ((Step.refl wr.heap.size [] wr).alloc (Nat.le_refl _) _) (by simp) (by simp) (by simp)
        have hs4 : Step B dkTypes w (wr.alloc (.cells (wrArr (a, s)).toArray 90)) := hs'.alloc (by omega) _
        have hrow : (wr.alloc (.cells (wrArr (a, s)).toArray 90)).heap[wr.heap.size]? = some (.cells (wrArr (a, s)).toArray 90 (0, 0)) := heap_alloc_new _ _
        obtain ⟨q1, q2⟩ := dk_keep B w _ g gn gd _ (keepM D keep j) a s hokj hp1 hp2 hs4 hi4
        have ne1 : g ≠ gd := types_ne hi4.row hi4.dur (by decide)
        have ne2 : wr.heap.size ≠ gd := types_ne hrow hi4.dur (by decide)
        have e1 : (wr.alloc (.cells (wrArr (a, s)).toArray 90)).cell? ⟨g, 1, none⟩ = some (.slice (some ⟨gd, 0, none⟩) (keepM D keep j).now.length (keepM D keep j).now.length) := cell_of_row _ _ _ _ _ _ hi4.row
        have e2 : (wr.alloc (.cells (wrArr (a, s)).toArray 90)).cell? ⟨wr.heap.size, 0, none⟩ = some (.int .i64 (a : Int)) := cell_of_row _ _ _ _ _ _ hrow
        have e3 : (wr.alloc (.cells (wrArr (a, s)).toArray 90)).rangeAt wr.heap.size 1 (bv s) := range_of_row hrow (fun i v hi => by simpa [wrArr, Nat.add_comm 1 i] using hi)
        have e4 : (wr.alloc (.cells (wrArr (a, s)).toArray 90)).there gd (a * 80) 80 := there_of_row hi4.dur (by rw [List.size_toArray, secs_length hokj.dur, hokj.size]; omega)
        have hinf : (Try.prog.info? 88).map (·.size) = some (bv s).length := by rw [bv_length, hp2]; exact Try.infoSector
        have hbl : (bv s).length = 80 := by rw [bv_length, hp2]
        have hone := bv_one s
        have hu := Try.underlying88
        have j1 : (0 : Int) ≤ (a : Int) := by omega
        have j2 : (a : Int) < ((keepM D keep j).now.length : Int) := by rw [← hnl]; omega
        have HL' := Lib.hid HL
        have Q1 := Lib.hid q1
        clear hi4 hi' HI hp1 hp2 c1 HL q1
        clear hnl
        generalize (keepM D keep j).now.length = nn at *
        go_wp2_with (first
          | ((with_reducible refine isLoad 15 ?_); refine wpList_load_mid rfl 90 _ rfl gb (j * 81) rfl (wrArr (a, s)) _ HR.out Try.underlying90 rfl (by rw [HL'.out]; exact Try.infoWrite) ?_)
          | ((with_reducible refine isOpAt 5 ?_); refine wpList_alloc rfl 90 rfl _ (allocWrite _) ?_)
          | ((with_reducible refine isStore 90 ?_); refine wpList_store_at rfl 90 _ _ rfl wr.heap.size 0 81 rfl 90 _ (wrArr (a, s)).toArray rfl (heap_alloc_new _ _) Try.infoWrite (by simp [wzArr_size]) (by simpa using HL'.out) (wrArr_one _) _ (wrArr_splice _ HL'.out) ?_; rw [alloc_setRow]))
        have hN : wr.heap.size = wr.heap.size := rfl
        generalize wr.alloc (.cells (wrArr (a, s)).toArray 90) = w4 at *
        generalize wr.heap.size = N at *
        have k1 : (w4.drew.setCells gd (a * 80) (bv s)).cell? ⟨g, 1, none⟩ = some (.slice (some ⟨gd, 0, none⟩) nn nn) := by
          rw [World.cell?_setCells_out gd (bv s) (a * 80) w4.drew ⟨g, 1, none⟩ (fun h _ => absurd h ne1)]; exact e1
        have k2 : (w4.drew.setCells gd (a * 80) (bv s)).cell? ⟨N, 0, none⟩ = some (.int .i64 (a : Int)) := by
          rw [World.cell?_setCells_out gd (bv s) (a * 80) w4.drew ⟨N, 0, none⟩ (fun h _ => absurd h ne2)]; exact e2
        have k3 : (w4.drew.setCells gd (a * 80) (bv s)).rangeAt N 1 (bv s) := World.rangeAt_setCells_apart (w := w4.drew) e3 gd (a * 80) (bv s) (.inl ne2)
        have k4 : (w4.drew.setCells gd (a * 80) (bv s)).there gd (a * 80) 80 := World.there_setCells (w := w4.drew) e4 _ _ _
        have KEEP := Lib.hid (And.intro k1 (And.intro k2 (And.intro k3 k4)))
        clear k1 k2 k3 k4 ne1 ne2 hrow hs4 hN
        go_region_held3 (fun w' => w'.cell? ⟨g, 1, none⟩ = some (.slice (some ⟨gd, 0, none⟩) nn nn) ∧ w'.cell? ⟨N, 0, none⟩ = some (.int .i64 (a : Int)) ∧ w'.rangeAt N 1 (bv s) ∧ w'.there gd (a * 80) 80) (first | exact KEEP.out | go_keep_ranges) (fail)
        go_wp2
        refine ⟨⟨j + 1, by omega, by go_num, ?_, q2⟩, by simp [intOf]; omega⟩
        rw [HM'.out]
        exact Q1.out
    · obtain rfl : j = D.wr.length := by omega
      have hokj := keepM_ok hok keep D.wr.length
      obtain ⟨q3, q1, q2⟩ := dk_end B w wr g gn gd _ (keepM D keep D.wr.length) hs' hi' hokj.size
      have c0 : wr.cell? ⟨g, 0, none⟩ = some (.slice (some ⟨gn, 0, none⟩) D.now.length D.now.length) := cell_of_row _ _ _ _ _ _ hi'.row
      have c1 : wr.cell? ⟨g, 1, none⟩ = some (.slice (some ⟨gd, 0, none⟩) D.now.length D.now.length) := cell_of_row _ _ _ _ _ _ hi'.row
      have k0 : (wr.drew.setRow gn (secs (keepM D keep D.wr.length).dur).toArray).cell? ⟨g, 0, none⟩ = some (.slice (some ⟨gn, 0, none⟩) D.now.length D.now.length) := cell_of_row _ _ _ _ _ _ q3
      have k1 : (wr.drew.setRow gn (secs (keepM D keep D.wr.length).dur).toArray).cell? ⟨g, 1, none⟩ = some (.slice (some ⟨gd, 0, none⟩) D.now.length D.now.length) := cell_of_row _ _ _ _ _ _ q3
      have k2 : (wr.drew.setRow gn (secs (keepM D keep D.wr.length).dur).toArray).cell? ⟨g, 2, none⟩ = some (.slice wA D.wr.length wc) := cell_of_row _ _ _ _ _ _ q3
      have k3 : (wr.drew.setRow gn (secs (keepM D keep D.wr.length).dur).toArray).cell? ⟨g, 3, none⟩ = some (.int .i64 D.left) := cell_of_row _ _ _ _ _ _ q3
      have k4 : (wr.drew.setRow gn (secs (keepM D keep D.wr.length).dur).toArray).cell? ⟨g, 4, none⟩ = some (.bool D.down) := cell_of_row _ _ _ _ _ _ q3
      have f2 : (wr.drew.setRow gn (secs (keepM D keep D.wr.length).dur).toArray).frozen? ⟨g, 2, none⟩ = false := frozen_of_row _ _ _ _ _ q3
      have f3 : (wr.drew.setRow gn (secs (keepM D keep D.wr.length).dur).toArray).frozen? ⟨g, 3, none⟩ = false := frozen_of_row _ _ _ _ _ q3
      have f4 : (wr.drew.setRow gn (secs (keepM D keep D.wr.length).dur).toArray).frozen? ⟨g, 4, none⟩ = false := frozen_of_row _ _ _ _ _ q3
      have KEEP := Lib.hid (And.intro k0 k1)
      have hlen : (keepM D keep D.wr.length).dur.length = D.now.length := hokj.size
      have HD := Lib.hid (show wr.drew.heap[gn]? = some (.cells (secs D.now).toArray 88 (0, 0)) from hi'.now)
      have HSRC := Lib.hid (show ∀ i v, (secs (keepM D keep D.wr.length).dur)[i]? = some v → wr.drew.cell? ((⟨gd, 0, none⟩ : Addr).add i) = some v from fun i v hj => by
        rw [add_lit]; exact (cell_of_row wr gd _ _ _ _ hi'.dur).trans (by simpa using hj))
      have HL := Lib.hid (show (secs (keepM D keep D.wr.length).dur).length = Nat.min D.now.length D.now.length * 80 by rw [secs_length hokj.dur, hlen]; simp)
      have HF := Lib.hid (show 0 + (secs (keepM D keep D.wr.length).dur).length ≤ (secs D.now).toArray.size by simp [secs_length hokj.dur, secs_length hok.now, hlen])
      have HO := Lib.hid (secs_over hok.now hokj.dur hlen.symm)
      have HOK := dkRestart_ok hok keep
      have HEQ := Lib.hid (show dkRestart D keep = ⟨(keepM D keep D.wr.length).dur, (keepM D keep D.wr.length).dur, [], -1, false⟩ by simp [dkRestart, keepM])
      have hone := secs_one (keepM D keep D.wr.length).dur
      have Q1 := Lib.hid q1
      clear hi' q3 k0 k1 hokj q1 hlen
      generalize (keepM D keep D.wr.length).dur = du at *
      go_wp2_with fail
      go_region_held3 (fun w' => w'.cell? ⟨g, 0, none⟩ = some (.slice (some ⟨gn, 0, none⟩) D.now.length D.now.length) ∧ w'.cell? ⟨g, 1, none⟩ = some (.slice (some ⟨gd, 0, none⟩) D.now.length D.now.length)) (first | exact KEEP.out | go_keep)
        ((refine step_copy_rows rfl _ _ _ _ rfl 88 80 Try.underlying65 Try.infoSector gn 0 D.now.length D.now.length ⟨gd, 0, none⟩ D.now.length D.now.length rfl rfl (secs D.now).toArray 88 HD.out (secs du) HL.out HSRC.out HF.out hone _ HO.out ?_))
      go_wp2
      go_end0
      refine ⟨rfl, ⟨HOK, gn, gd, .slice none 0 0, ?_⟩, q2⟩
      rw [HEQ.out]
      exact Q1.out
end Go.Proofs.Ythhedahfmllnoaa
