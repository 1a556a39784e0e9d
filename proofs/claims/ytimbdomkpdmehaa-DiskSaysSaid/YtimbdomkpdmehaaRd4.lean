/- The document's disk: Restart. -/
import Derived.Test.YtimbdomkpdmehaaRd3
namespace Go.Proofs.Ytimbdomkpdmehaa
open Go.RowKit
attribute [local go_sem ↓] Go.wp_at_zero Go.wp_at_succ

theorem tc_cell (L : List (Nat × List UInt8)) (j : Nat) (hj : j < L.length) : (tc L)[j * 2]? = some (.int .i64 (L[j].1 : Int)) ∧ (tc L)[j * 2 + 1]? = some (.string ⟨L[j].2.toArray⟩) :=
  ⟨flat_cell (fun p : Nat × List UInt8 => [Value.int .i64 p.1, .string ⟨p.2.toArray⟩]) 2 L (fun _ _ => rfl) j hj 0 _ rfl, flat_cell (fun p : Nat × List UInt8 => [Value.int .i64 p.1, .string ⟨p.2.toArray⟩]) 2 L (fun _ _ => rfl) j hj 1 _ rfl⟩

theorem turn_cells {w : World} {B gb c : Nat} {L : List (Nat × List UInt8)} (hO : w.ownsRow B 86 2 (.slice (some ⟨gb, 0, none⟩) L.length c) L.length (tc L)) (j : Nat) (hj : j < L.length) :
    w.cell? ⟨gb, j * 2, none⟩ = some (.int .i64 (L[j].1 : Int)) ∧ w.cell? ⟨gb, j * 2 + 1, none⟩ = some (.string ⟨L[j].2.toArray⟩) ∧ ∃ cur, w.heap[gb]? = some (.cells cur 86 (0, 0)) := by
  rcases hO.2 with ⟨h, _⟩ | ⟨g', cap, cur, h, _, hh, _, _, hsz, htk⟩
  · cases h
  · injection h with h _ _
    injection h with h
    injection h with h _ _
    subst h
    have key : ∀ (i : Nat) (v : Value), (tc L)[i]? = some v → w.cell? ⟨gb, i, none⟩ = some v := fun i v hv => by
      rw [cell_of_row _ _ _ _ _ _ hh]
      rw [← htk, List.getElem?_take] at hv
      split at hv
      · simpa using hv
      · cases hv
    exact ⟨key _ _ (tc_cell L j hj).1, key _ _ (tc_cell L j hj).2, cur, hh⟩

/-- A text stored into the row of the kept sectors. -/
theorem rd_keep {B : Nat} {w w1 : World} {g gk c gn cn : Nat} {wv : Value} {D : DkM} {cur : Array Value} {nn : Nat} (hi : RdIn B w1 g (.slice (some ⟨gk, 0, none⟩) D.dur.length c) (.slice (some ⟨gn, 0, none⟩) nn cn) wv D) (hs : Step B rdTypes w w1) (hb : B ≤ gk) (hh : w1.heap[gk]? = some (.cells cur 9 (0, 0))) (k : Nat) (s : List UInt8) :
    RdIn B (w1.setCell ⟨gk, k, none⟩ (.string ⟨s.toArray⟩)) g (.slice (some ⟨gk, 0, none⟩) D.dur.length c) (.slice (some ⟨gn, 0, none⟩) nn cn) wv { D with dur := D.dur.set k s } ∧ Step B rdTypes w (w1.setCell ⟨gk, k, none⟩ (.string ⟨s.toArray⟩)) := by
  have hss : Step B [9] w1 (w1.setCell ⟨gk, k, none⟩ (.string ⟨s.toArray⟩)) := (Step.refl B [9] w1).set hh hb (by simp) _
  have hlen : (D.dur.set k s).length = D.dur.length := by simp
  have hne : gk ≠ gn := by
    rcases hi.ne with h | h
    · simp [Value.ownBlock] at h
    · simpa [Value.ownBlock] using h
  refine ⟨⟨hi.base, hss.other _ _ _ _ hi.row (by decide), ?_, ?_, hi.ne, own_step hi.wr hss (by decide)⟩, hs.trans (hss.mono (Nat.le_refl _) (by decide))⟩
  · obtain ⟨h1, h2⟩ := hi.kept
    refine ⟨by simp [sc], ?_⟩
    rcases h2 with ⟨h2, _⟩ | ⟨g', cap', cur', hv, hb', hh', r1, r2, r3, r4⟩
    · cases h2
    · injection hv with hv1 hv2 hv3
      injection hv1 with hv1
      injection hv1 with hv1 _ _
      subst hv1 hv3
      rw [hh] at hh'
      injection hh' with hh'
      injection hh' with hh' _ _
      subst hh'
      refine .inr ⟨gk, c, cur.setIfInBounds k (.string ⟨s.toArray⟩), by rw [hlen], hb', heap_setCell_same _ _ _ _ _ _ hh, by rw [hlen]; exact r1, r2, by simpa using r3, ?_⟩
      rw [hlen, ← sc_set, ← r4, Array.toList_setIfInBounds, List.take_set]
  · obtain ⟨h1, h2⟩ := hi.now
    refine ⟨h1, ?_⟩
    rcases h2 with h2 | ⟨g', cap', cur', hv, hb', hh', r⟩
    · exact .inl h2
    · refine .inr ⟨g', cap', cur', hv, hb', (heap_setCell_other _ _ _ _ ?_).trans hh', r⟩
      injection hv with hv1 _ _
      injection hv1 with hv1
      injection hv1 with hv1 _ _
      rw [← hv1]
      exact Ne.symm hne

/-- The end of Restart: a copy of the kept sectors. -/
theorem rd_end {B : Nat} {w w1 w4 : World} {g : Nat} {kv nv wv : Value} {D : DkM} {gg cap : Nat} (hi : RdIn B w1 g kv nv wv D) (hs : Step B rdTypes w w1)
    (hg : World.grownBy w1 w4 none) (hO : w4.ownsRow B 9 1 (.slice (some ⟨gg, 0, none⟩) D.dur.length cap) D.dur.length (sc D.dur)) (hgg : gg = w1.heap.size) :
    w4.cell? ⟨g, 1, none⟩ = some nv ∧ w4.frozen? ⟨g, 1, none⟩ = false ∧
    (∀ v, (w4.setCell ⟨g, 1, none⟩ v).cell? ⟨g, 2, none⟩ = some wv) ∧ (∀ v, (w4.setCell ⟨g, 1, none⟩ v).frozen? ⟨g, 2, none⟩ = false) ∧
    (∀ v u, ((w4.setCell ⟨g, 1, none⟩ v).setCell ⟨g, 2, none⟩ u).cell? ⟨g, 4, none⟩ = some (.bool D.down)) ∧ (∀ v u, ((w4.setCell ⟨g, 1, none⟩ v).setCell ⟨g, 2, none⟩ u).frozen? ⟨g, 4, none⟩ = false) ∧
    (∀ v u y, (((w4.setCell ⟨g, 1, none⟩ v).setCell ⟨g, 2, none⟩ u).setCell ⟨g, 4, none⟩ y).cell? ⟨g, 3, none⟩ = some (.int .i64 D.left)) ∧ (∀ v u y, (((w4.setCell ⟨g, 1, none⟩ v).setCell ⟨g, 2, none⟩ u).setCell ⟨g, 4, none⟩ y).frozen? ⟨g, 3, none⟩ = false) ∧
    RdIn B ((((w4.setCell ⟨g, 1, none⟩ (.slice (some ⟨gg, 0, none⟩) D.dur.length cap)).setCell ⟨g, 2, none⟩ (.slice none 0 0)).setCell ⟨g, 4, none⟩ (.bool false)).setCell ⟨g, 3, none⟩ (.int .i64 (-1))) g kv (.slice (some ⟨gg, 0, none⟩) D.dur.length cap) (.slice none 0 0) ⟨D.dur, D.dur, [], -1, false⟩ ∧
    Step B rdTypes w ((((w4.setCell ⟨g, 1, none⟩ (.slice (some ⟨gg, 0, none⟩) D.dur.length cap)).setCell ⟨g, 2, none⟩ (.slice none 0 0)).setCell ⟨g, 4, none⟩ (.bool false)).setCell ⟨g, 3, none⟩ (.int .i64 (-1))) := by
  have hlt := (Array.getElem?_eq_some_iff.1 hi.row).1
  have hB1 : B ≤ w1.heap.size := Nat.le_trans hi.base (Nat.le_of_lt hlt)
  have h14 : Step B [] w1 w4 := Step.grown (Step.refl B [] w1) hg hB1 (fun q hq => by cases hq)
  have hr4 := h14.other _ _ _ _ hi.row (by simp)
  have hs45 : Step B [51] w4 (w4.setCell ⟨g, 1, none⟩ (.slice (some ⟨gg, 0, none⟩) D.dur.length cap)) := (Step.refl B [51] w4).set hr4 hi.base (by simp) _
  have hr5 := fun v => heap_setCell_same w4 g 1 _ _ v hr4
  have hr6 := fun v u => heap_setCell_same _ g 2 _ _ u (hr5 v)
  have hr7 := fun v u y => heap_setCell_same _ g 4 _ _ y (hr6 v u)
  have hi5 : RdIn B (w4.setCell ⟨g, 1, none⟩ (.slice (some ⟨gg, 0, none⟩) D.dur.length cap)) g kv (.slice (some ⟨gg, 0, none⟩) D.dur.length cap) wv { D with now := D.dur } := by
    refine ⟨hi.base, hr5 _, own_step (own_step hi.kept h14 (by simp)) hs45 (by decide), own_step hO hs45 (by decide), .inr ?_, own_step (own_step hi.wr h14 (by simp)) hs45 (by decide)⟩
    intro h
    have : gg < w1.heap.size := own_block_lt hi.kept h
    omega
  obtain ⟨q1, q2⟩ := hi5.put 2 (.slice none 0 0) ⟨D.dur, D.dur, [], D.left, D.down⟩ (.slice none 0 0) rfl rfl rfl (World.ownsRow_nil _ _ _ _)
  obtain ⟨q3, q4⟩ := q1.put 4 (.bool false) ⟨D.dur, D.dur, [], D.left, false⟩ (.slice none 0 0) rfl rfl rfl (World.ownsRow_nil _ _ _ _)
  obtain ⟨q5, q6⟩ := q3.put 3 (.int .i64 (-1)) ⟨D.dur, D.dur, [], -1, false⟩ (.slice none 0 0) rfl rfl rfl (World.ownsRow_nil _ _ _ _)
  exact ⟨cell_of_row _ _ _ _ _ _ hr4, frozen_of_row _ _ _ _ _ hr4, fun v => cell_of_row _ _ _ _ _ _ (hr5 v), fun v => frozen_of_row _ _ _ _ _ (hr5 v), fun v u => cell_of_row _ _ _ _ _ _ (hr6 v u), fun v u => frozen_of_row _ _ _ _ _ (hr6 v u),
    fun v u y => cell_of_row _ _ _ _ _ _ (hr7 v u y), fun v u y => frozen_of_row _ _ _ _ _ (hr7 v u y), q5, ((((hs.trans (h14.mono (Nat.le_refl _) (by simp))).trans (hs45.mono (Nat.le_refl _) (by decide))).trans q2).trans q4).trans q6⟩

set_option maxHeartbeats 2000000 in
set_option maxRecDepth 100000 in
theorem rdRestart_any (B g : Nat) (w : World) (D : DkM) (keep : Nat) (hD : RdAt B w g D) (hkeep : keep < 18446744073709551616) (hwr : D.wr.length ≤ 1000000) :
    Calls Try.prog 20 #[.pointer (some ⟨g, 0, none⟩), .int .u64 (keep : Int)] w fun e w' => e = .returned (.tuple #[]) ∧ RdAt B w' g (dkRestart D keep) ∧ Step B rdTypes w w' := by
  obtain ⟨hok, kv, nv, wv, hi⟩ := hD
  have hsz := hok.size
  have hsome := hok.some
  have hfew := hok.few
  obtain ⟨wA, wc, rfl⟩ : ∃ A c, wv = .slice A D.wr.length c := by
    rcases ownsRow_form hi.wr with ⟨A, c, rfl, h0⟩ | ⟨gb, c, rfl, hp⟩
    · exact ⟨A, c, by rw [show D.wr.length = 0 from h0]⟩
    · exact ⟨_, c, rfl⟩
  obtain ⟨gk, ck, curk, rfl, hBk, _⟩ := own_at hi.kept (by omega)
  obtain ⟨gn, cn, curn, rfl, hBn, _⟩ := own_at hi.now (by omega)
  have HI := Lib.hid hi
  have HSZ := Lib.hid hsz
  clear hi hsz
  go_enter Try.func20, Try.ntmps20
  go_wp2
  go_loopw [4] (fun i w' => ∃ j : Nat, j ≤ D.wr.length ∧ i = .int .i64 j ∧ RdIn B w' g (.slice (some ⟨gk, 0, none⟩) D.dur.length ck) (.slice (some ⟨gn, 0, none⟩) D.now.length cn) (.slice wA D.wr.length wc) (keepM D keep j) ∧ Step B rdTypes w w') (fun i _ => D.wr.length - (intOf i).toNat)
  case atStart => exact ⟨0, Nat.zero_le _, rfl, HI.out, Step.refl _ _ _⟩
  case round =>
    obtain ⟨j, hj, rfl, hi', hs'⟩ := hrel
    clear HI
    have c2 : wr.cell? ⟨g, 2, none⟩ = some (.slice wA D.wr.length wc) := cell_of_row _ _ _ _ _ _ hi'.row
    by_cases hlt : j < D.wr.length
    · obtain ⟨gb, rfl⟩ : ∃ gb, wA = some ⟨gb, 0, none⟩ := by
        rcases hi'.wr.2 with ⟨h, _⟩ | ⟨g', cap, cur, h, _⟩
        · injection h with _ h _; omega
        · injection h with h _ _; exact ⟨g', h⟩
      have i1 : (0 : Int) ≤ (j : Int) := by omega
      have i2 : (j : Int) < (D.wr.length : Int) := by omega
      obtain ⟨t1, t2, curw, hhw⟩ := turn_cells (L := D.wr) hi'.wr j hlt
      obtain ⟨hp1, hp2⟩ := hok.wr _ (List.getElem_mem hlt)
      have hp3 : D.wr[j].1 < D.dur.length := by rw [HSZ.out]; exact hp1
      have HM := Lib.hid (keepM_succ (D := D) keep j hlt)
      have KB := keep_bit keep j hkeep
      have hdl : (keepM D keep j).dur.length = D.dur.length := by rw [keepM, dkKeep_length]
      cases hkb : kept64 keep j with
      | false =>
        rw [hkb] at KB HM
        have HM' := Lib.hid (show keepM D keep (j + 1) = keepM D keep j from HM.out)
        have HI' := Lib.hid hi'
        clear hkb HM hi' hdl t1 t2
        go_wp2
        refine ⟨⟨j + 1, by omega, by go_num, ?_, hs'⟩, by simp [intOf]; omega⟩
        rw [HM'.out]
        exact HI'.out
      | true =>
        rw [hkb] at KB HM
        have HM' := Lib.hid (show keepM D keep (j + 1) = { keepM D keep j with dur := (keepM D keep j).dur.set D.wr[j].1 D.wr[j].2 } from HM.out)
        have hi2 : RdIn B wr.drew g (.slice (some ⟨gk, 0, none⟩) (keepM D keep j).dur.length ck) (.slice (some ⟨gn, 0, none⟩) D.now.length cn) (.slice (some ⟨gb, 0, none⟩) D.wr.length wc) (keepM D keep j) := by
          rw [hdl]; exact hi'.step (ts := []) ((Step.refl wr.heap.size [] wr).drew) (by simp) (by simp) (by simp)
        obtain ⟨g', c', curk', hv', hBk', hhk, _, hszk, _⟩ := own_at hi'.kept (by rw [hdl]; omega)
        injection hv' with hv1 hv2 hv3
        injection hv1 with hv1
        injection hv1 with hv1 hv4 hv5
        subst hv1
        clear hv2 hv3 hv4 hv5
        obtain ⟨q1, q2⟩ := rd_keep hi2 (hs'.drew) hBk hhk D.wr[j].1 D.wr[j].2
        rw [hdl] at q1 hszk
        have c0 : wr.cell? ⟨g, 0, none⟩ = some (.slice (some ⟨gk, 0, none⟩) D.dur.length ck) := cell_of_row _ _ _ _ _ _ hi'.row
        have ck0 : wr.cell? ⟨gk, D.wr[j].1, none⟩ = some (curk'[D.wr[j].1]'(by omega)) := by rw [cell_of_row _ _ _ _ _ _ hhk]; simp
        have fk0 : wr.frozen? ⟨gk, D.wr[j].1, none⟩ = false := frozen_of_row _ _ _ _ _ hhk
        have ne1 : g ≠ gk := types_ne hi'.row hhk (by decide)
        have ne2 : gb ≠ gk := types_ne hhw hhk (by decide)
        have KEEP := Lib.hid (fun v => show (wr.drew.setCell ⟨gk, D.wr[j].1, none⟩ v).cell? ⟨g, 0, none⟩ = some (.slice (some ⟨gk, 0, none⟩) D.dur.length ck) ∧ (wr.drew.setCell ⟨gk, D.wr[j].1, none⟩ v).cell? ⟨g, 2, none⟩ = some (.slice (some ⟨gb, 0, none⟩) D.wr.length wc) ∧ (wr.drew.setCell ⟨gk, D.wr[j].1, none⟩ v).cell? ⟨gb, j * 2, none⟩ = some (.int .i64 (D.wr[j].1 : Int)) ∧ (wr.drew.setCell ⟨gk, D.wr[j].1, none⟩ v).cell? ⟨gb, j * 2 + 1, none⟩ = some (.string ⟨D.wr[j].2.toArray⟩) from by
          refine ⟨?_, ?_, ?_, ?_⟩
          · rw [World.cell?_setCell_other _ _ _ _ (by intro h; injection h with h _ _; exact ne1 h.symm)]; exact c0
          · rw [World.cell?_setCell_other _ _ _ _ (by intro h; injection h with h _ _; exact ne1 h.symm)]; exact c2
          · rw [World.cell?_setCell_other _ _ _ _ (by intro h; injection h with h _ _; exact ne2 h.symm)]; exact t1
          · rw [World.cell?_setCell_other _ _ _ _ (by intro h; injection h with h _ _; exact ne2 h.symm)]; exact t2)
        have Q1 := Lib.hid q1
        generalize (curk'[D.wr[j].1]'(by omega)) = old at *
        generalize D.wr[j] = p at *
        obtain ⟨a, sx⟩ := p
        simp only [] at hp1 hp2 hp3 t1 t2 ck0 fk0 KEEP q2 Q1
        have j1 : (0 : Int) ≤ (a : Int) := by omega
        have j2 : (a : Int) < (D.dur.length : Int) := by omega
        clear hi' hi2 hhk hhw hdl hkb HM q1 hszk hp1 hp2 hp3
        generalize D.dur.length = nd at *
        go_wp2_with fail
        go_region_held3 (fun w' => w'.cell? ⟨g, 0, none⟩ = some (.slice (some ⟨gk, 0, none⟩) nd ck) ∧ w'.cell? ⟨g, 2, none⟩ = some (.slice (some ⟨gb, 0, none⟩) D.wr.length wc) ∧ w'.cell? ⟨gb, j * 2, none⟩ = some (.int .i64 (a : Int)) ∧ w'.cell? ⟨gb, j * 2 + 1, none⟩ = some (.string ⟨sx.toArray⟩)) (first | exact KEEP.out _ | exact ⟨c0, c2, t1, t2⟩) (fail)
        go_wp2
        refine ⟨⟨j + 1, by omega, by go_num, ?_, q2⟩, by simp [intOf]; omega⟩
        rw [HM'.out]
        exact Q1.out
    · obtain rfl : j = D.wr.length := by omega
      have hokj := keepM_ok hok keep D.wr.length
      have hdl : (keepM D keep D.wr.length).dur.length = D.dur.length := by rw [keepM, dkKeep_length]
      have c0 : wr.cell? ⟨g, 0, none⟩ = some (.slice (some ⟨gk, 0, none⟩) D.dur.length ck) := cell_of_row _ _ _ _ _ _ hi'.row
      have HKE := hi'.kept
      rw [hdl] at HKE
      have HSRC := Lib.hid (own_src HKE)
      have HLEN := Lib.hid (show (sc (keepM D keep D.wr.length).dur).length = D.dur.length * 1 by simp [sc, hdl])
      have HONE := Lib.hid (sc_one (keepM D keep D.wr.length).dur)
      have hd1 : 1 ≤ D.dur.length ∧ D.dur.length ≤ 260 := by rw [HSZ.out]; exact ⟨hsome, hfew⟩
      have HB1 : B ≤ wr.heap.size := Nat.le_trans hi'.base (Nat.le_of_lt (Array.getElem?_eq_some_iff.1 hi'.row).1)
      have HB2 := Lib.hid (show (0 + D.dur.length) * 16 ≤ 140737488355328 by omega)
      have FIN := Lib.hid (fun w4 gg cap (h1 : World.grownBy wr w4 none) (h2 : w4.ownsRow B 9 1 (.slice (some ⟨gg, 0, none⟩) D.dur.length cap) D.dur.length (sc (keepM D keep D.wr.length).dur)) (h3 : gg = wr.heap.size) => rd_end hi' hs' h1 (by rw [hdl]; exact h2) h3)
      have HOK := dkRestart_ok hok keep
      have HEQ := Lib.hid (show dkRestart D keep = ⟨(keepM D keep D.wr.length).dur, (keepM D keep D.wr.length).dur, [], -1, false⟩ by simp [dkRestart, keepM])
      rw [hdl] at FIN
      obtain ⟨inf, hin, hz0, hz1, hz2⟩ := info_parts Try.infoStrZ
      have HIN := Lib.hid hin
      have HZ0 := Lib.hid hz0
      have HZ1 := Lib.hid hz1
      have HZ2 := Lib.hid hz2
      obtain ⟨h1, h2⟩ := hd1
      clear hin hz0 hz1 hz2 hi' hokj hdl HKE
      go_wp2_with (at_builtin; (refine wpList_append_lies _ rfl _ _ 48 rfl B 9 inf (.string ByteArray.empty) 1 16 Try.underlying48 HIN.out HZ0.out HZ1.out HZ2.out rfl (by decide) (.slice none 0 0) 0 [] rfl (World.ownsRow_nil _ _ _ _) ⟨gk, 0, none⟩ D.dur.length ck (sc (keepM D keep D.wr.length).dur) rfl HLEN.out HSRC.out HONE.out (by omega) (by unfold maxLen; omega) HB2.out HB1 wr.heap.size rfl ?_); intro gg cap w4 hO4 hg4 hat4 hlt4; rw [Nat.zero_add, List.nil_append] at hO4; rw [Nat.zero_add]; obtain ⟨r1, r2, r3, r4, r5, r6, r7, r8, r9, r10⟩ := FIN.out w4 gg cap hg4 hO4 (hat4.elim (fun h => by simp [Value.ownBlock] at h) id); have R9 := Lib.hid r9; clear r9)
      go_end0
      have R := R9.out
      rw [← HEQ.out] at R
      exact ⟨rfl, ⟨HOK, _, _, _, R⟩, r10⟩
end Go.Proofs.Ytimbdomkpdmehaa
