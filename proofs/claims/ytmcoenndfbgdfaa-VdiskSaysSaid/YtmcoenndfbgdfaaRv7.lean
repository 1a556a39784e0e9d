/- The document's tracked disk: Drop. -/
import Derived.Test.YtmcoenndfbgdfaaRv6b
import Derived.Test.YtmcoenndfbgdfaaApO
namespace Go.Proofs.Ytmcoenndfbgdfaa
open Go.RowKit

def rvDropM (D : RVm) (i : Nat) : RVm := { mrg D i 16 with snaps := (mrg D i 16).snaps.eraseIdx i }
theorem mrg_time (D : RVm) (i k : Nat) : (mrg D i k).time = D.time := by
  unfold mrg
  split
  · split <;> rfl
  · split <;> rfl
  · rfl
theorem mrg_ok {D : RVm} (h : D.Ok) {i k : Nat} : (mrg D i k).Ok := by
  unfold mrg
  split
  · rename_i s t hs ht
    split
    · refine ⟨h.size, h.next, by simpa using h.few, fun x hx => ?_⟩
      rcases List.mem_or_eq_of_mem_set hx with hx | rfl
      · exact h.sizes x hx
      · exact h.sizes t (List.mem_of_getElem? ht)
    · exact h
  · split
    · exact ⟨h.size, h.next, h.few, h.sizes⟩
    · exact h
  · exact h
theorem rs_range {B gb c : Nat} {w : World} {L : List RSn} {lo hi : Nat} (h : w.ownsRow B 73 35 (.slice (some ⟨gb, 0, none⟩) L.length c) L.length (rsCells L)) {w' : World} (hb : Below w.heap.size w w') (hlo : lo ≤ L.length) (hhi : hi ≤ L.length) : ∀ j u, (rsCells ((L.drop lo).take (hi - lo)))[j]? = some u → w'.cell? ((⟨gb, lo * 35, none⟩ : Addr).add j) = some u := fun j u hu => by
  have h' : w'.ownsRow B 73 35 (.slice (some ⟨gb, 0, none⟩) L.length c) L.length (rsCells L) := row_step h (Step.of_below (B := 0) (ts := []) hb (Nat.zero_le _)) (by simp)
  rw [add_lit]
  have hjl := (List.getElem?_eq_some_iff.1 hu).1
  rw [rsCells_length, List.length_take, List.length_drop] at hjl
  have hq : j / 35 < min (hi - lo) (L.length - lo) := by omega
  have hqr : j = j / 35 * 35 + j % 35 := by omega
  have hlq : lo + j / 35 < L.length := by omega
  have e1 : ((L.drop lo).take (hi - lo))[j / 35]'(by rw [List.length_take, List.length_drop]; exact hq) = L[lo + j / 35] := by simp
  have hr : ∃ v, (rsArr L[lo + j / 35])[j % 35]? = some v := ⟨_, Array.getElem?_eq_getElem (by rw [rsArr_size]; omega)⟩
  obtain ⟨v, hv⟩ := hr
  have e2 : (rsCells ((L.drop lo).take (hi - lo)))[j]? = some v := by
    rw [hqr]
    exact rsCells_get _ (j / 35) (by rw [List.length_take, List.length_drop]; exact hq) (j % 35) v (by rw [e1]; exact hv)
  rw [e2] at hu
  injection hu with hu
  subst hu
  have := rs_cell h' rfl (lo + j / 35) hlq (j % 35) v hv
  rw [show (lo + j / 35) * 35 + j % 35 = lo * 35 + j by omega] at this
  exact this
/-- The list of snapshots is laid anew. -/
theorem rvErase_fin {B g gb c i : Nat} {w w6 : World} {M : RVm} {v2 : Value} (hBg : B ≤ g) (hok : M.Ok) (h : MrgAt B w g gb c M) (hi : i < M.snaps.length) (h2 : w6.ownsRow w.heap.size 73 35 v2 (M.snaps.eraseIdx i).length (rsCells (M.snaps.eraseIdx i))) (hb : Below w.heap.size w w6) :
    RVAt B (w6.setCell ⟨g, 35, none⟩ v2) g { M with snaps := M.snaps.eraseIdx i } ∧ Step B rvTypes w (w6.setCell ⟨g, 35, none⟩ v2) := by
  have hg := (Array.getElem?_eq_some_iff.1 h.row).1
  have hr := (hb.block g hg).trans h.row
  have hs : Step B rvTypes w (w6.setCell ⟨g, 35, none⟩ v2) := (Step.of_below hb (by omega)).set hr hBg (by decide) _
  refine ⟨⟨hBg, ⟨hok.size, hok.next, ?_, fun s hs' => hok.sizes s (List.mem_of_mem_eraseIdx hs')⟩, v2, ?_, ?_⟩, hs⟩
  · have := hok.few
    show (M.snaps.eraseIdx i).length ≤ 5
    rw [List.length_eraseIdx]; split <;> omega
  · rw [heap_setCell_same w6 g 35 _ _ v2 hr, rvArr_setSnaps]
    rfl
  · refine ⟨h2.1, ?_⟩
    rcases h2.2 with h' | ⟨gb', cap, cur, hv, hb', hh, r⟩
    · exact .inl h'
    · exact .inr ⟨gb', cap, cur, hv, by omega, (Below.heap_setCell _ _ _ _ (by show gb' ≠ g; omega)).trans hh, r⟩
theorem own_slice {w : World} {B : Nat} {e : TypeId} {size n : Nat} {v : Value} {xs : List Value} (h : w.ownsRow B e size v n xs) : ∃ A c, v = .slice A n c := by
  rcases h.2 with ⟨rfl, h0⟩ | ⟨g, cap, cur, rfl, _⟩
  · exact ⟨none, 0, by rw [h0]⟩
  · exact ⟨_, cap, rfl⟩
theorem mrg_cells {B g gb c : Nat} {w : World} {D : RVm} {i k : Nat} (hi : i + 1 < D.snaps.length) (h : MrgAt B w g gb c (mrg D i k)) (k' : Nat) (hk : k' < 16) : w.cell? ⟨gb, (i + 1) * 35 + 1, none⟩ = some (.int .i64 D.snaps[i + 1].time) ∧ (∃ b, w.cell? ⟨gb, (i + 1) * 35 + 19 + k', none⟩ = some (.bool b)) ∧ w.frozen? ⟨gb, (i + 1) * 35 + 19 + k', none⟩ = false := by
  rw [mrg_inner hi] at h
  refine ⟨?_, ?_, h.own.frozenAt _⟩
  · split at h
    · exact rs_cell h.own rfl (i + 1) (by simpa using hi) 1 _ (by simp [rsArr])
    · exact rs_cell h.own rfl (i + 1) hi 1 _ rfl
  · rw [Nat.add_assoc]
    split at h
    · exact ⟨_, rs_cell h.own rfl (i + 1) (by simpa using hi) (19 + k') _ (rsArr_dirty _ hk)⟩
    · exact ⟨_, rs_cell h.own rfl (i + 1) hi (19 + k') _ (rsArr_dirty _ hk)⟩

set_option maxHeartbeats 4000000 in
set_option maxRecDepth 100000 in
theorem rvDrop_some (B g : Nat) (w : World) (D : RVm) (id : Int) (hD : RVAt B w g D) (i : Nat) (hpo : rposIn D.snaps id = some i) :
    Calls Try.prog 52 #[.pointer (some ⟨g, 0, none⟩), .int .i64 id] w fun e w' => e = .returned (.int .i64 0) ∧ RVAt B w' g (rvDropM D i) ∧ Step B rvTypes w w' := by
  obtain ⟨A, c, hg, hO, hp⟩ := rv_form hD
  obtain ⟨hi, _⟩ := rpos_lt hpo
  obtain ⟨gb, rfl⟩ := hp (by omega)
  have h5 := hD.ok.few
  have c35 : ∀ n, (w.drewN n).cell? ⟨g, 35, none⟩ = some (.slice (some ⟨gb, 0, none⟩) D.snaps.length c) := fun n => cell_of_row _ _ _ _ _ _ hg
  have i1 : (i : Int) < (D.snaps.length : Int) := by omega
  have i0 : (0 : Int) ≤ (i : Int) := by omega
  have d0 : decide ((i : Int) < 0) = false := by simp
  have hBg := hD.base
  have hBw : B ≤ w.heap.size := Nat.le_trans hD.base (Nat.le_of_lt hD.lt)
  obtain ⟨cur, hcur, hBgb, hcs, hnc, hcm, hcut⟩ := rs_open hO rfl
  obtain ⟨f1, f2⟩ := hcut i hi
  have hgbw := (Array.getElem?_eq_some_iff.1 hcur).1
  have hgw := hD.lt
  have HCU := Lib.hid hcur
  have HF2 := Lib.hid f2
  have HM0 := Lib.hid (show MrgAt B w g gb c D from ⟨hg, hO⟩)
  clear hg hO hcs hcut hcur f2
  go_enter Try.func52, Try.ntmps52
  go_wp2_with fail
  ((with_reducible refine (rvat_some B g _ D id i hD hpo).mono ?_); rintro e w1 ⟨rfl, n1, rfl⟩)
  have e35 := c35 n1
  have HB1 := Lib.hid (fun o => show Below w.heap.size w (((w.drewN n1).alloc o).setRow w.heap.size (rsArr D.snaps[i])) from below_setRow ((below_drewN (Below.refl _ _) n1).alloc (Nat.le_refl _) o) (Nat.le_refl _) _)
  have HS1 := Lib.hid (fun (z : Array Value) => show (((w.drewN n1).alloc (.cells z 73)).setRow w.heap.size (rsArr D.snaps[i])).heap[w.heap.size]? = some (.cells (rsArr D.snaps[i]) 73 (0, 0)) from setRow_heap _ _ _ _ _ _ (heap_alloc_new (w.drewN n1) _))
  go_upto_block 0 with (first
    | ((with_reducible refine isLoad 19 ?_); refine wpList_load_at rfl 73 _ rfl gb (i * 35) 35 rfl 73 _ (0, 0) _ HCU.out Try.underlying73 rfl Try.infoRSn f1 _ HF2.out ?_)
    | ((with_reducible refine isStore 73 ?_); refine wpList_store_at rfl 73 _ _ rfl w.heap.size 0 35 rfl 73 _ (rsArr D.snaps[i]) rfl (heap_alloc_new _ _) Try.infoRSn (by simp) rfl (by simp [rsArr, Value.oneCell']) (rsArr D.snaps[i]) rfl ?_))
  obtain ⟨gs, hgs⟩ : ∃ gs, w.heap.size = gs := ⟨_, rfl⟩
  go_cut [] (fun wx => ∃ w3, wx = w3 ∧ MrgAt B w3 g gb c (mrg D i 16) ∧ Step B rvTypes w w3)
  case first =>
    as_aux_lemma =>
    go_wp2
    go_loopw [7] (fun t wr => ∃ k : Nat, k ≤ 16 ∧ t = .int .i64 k ∧ MrgAt B wr g gb c (mrg D i k) ∧ wr.heap[gs]? = some (.cells (rsArr D.snaps[i]) 73 (0, 0)) ∧ Step B rvTypes w wr) (fun t _ => 16 - (intOf t).toNat)
    case atStart =>
      have hb := HB1.out (.cells (rsArr ⟨0, 0, 0, fun _ => ByteArray.empty, fun _ => false⟩) 73)
      exact ⟨0, by omega, rfl, mrg_zero (HM0.out.step (Step.of_below (B := B) (ts := []) hb hBw) (by simp) (by simp)) hi, by rw [← hgs]; exact HS1.out _, (Step.of_below hb hBw)⟩
    case round =>
      obtain ⟨k, hk, rfl, hM, hgx, hst⟩ := hrel
      clear c35 e35 HB1 HS1 HM0 HCU HF2
      by_cases hlt : k < 16
      · have m35 : wr.cell? ⟨g, 35, none⟩ = some (.slice (some ⟨gb, 0, none⟩) D.snaps.length c) := (cell_of_row _ _ _ _ _ _ hM.row).trans (by show some (Value.slice _ (mrg D i k).snaps.length c) = _; rw [mrg_len])
        have m33 : wr.cell? ⟨g, 33, none⟩ = some (.int .i64 D.time) := (cell_of_row _ _ _ _ _ _ hM.row).trans (by show some (Value.int .i64 ((mrg D i k).time : Int)) = _; rw [mrg_time])
        have m17 : wr.cell? ⟨g, 17 + k, none⟩ = some (.bool ((mrg D i k).dirty k)) := (cell_of_row _ _ _ _ _ _ hM.row).trans (rvArr_dirty _ _ hlt)
        have f17 : wr.frozen? ⟨g, 17 + k, none⟩ = false := frozen_of_row _ _ _ _ _ hM.row
        have s1 : wr.cell? ⟨gs, 1, none⟩ = some (.int .i64 D.snaps[i].time) := cell_of_row _ _ _ _ _ _ hgx
        have s19 : wr.cell? ⟨gs, 19 + k, none⟩ = some (.bool (D.snaps[i].dirty k)) := (cell_of_row _ _ _ _ _ _ hgx).trans (rsArr_dirty _ hlt)
        have j1 : (k : Int) < 16 := by omega
        have j0 : (0 : Int) ≤ (k : Int) := by omega
        have j2 : IntKind.i64.wrap ((i : Int) + 1) = (i : Int) + 1 := IntWalk.i64_in _ (by omega)
        have HM := Lib.hid hM
        clear hM
        cases hdk : D.snaps[i].dirty k with
        | false =>
          rw [hdk] at s19
          have HN := Lib.hid (mrg_skip hi HM.out hdk)
          clear hdk
          go_wp2
          go_roundw
          case rel => exact ⟨k + 1, by omega, by go_num, HN.out, hgx, hst⟩
          case measure => simp [intOf]; omega
        | true =>
          rw [hdk] at s19
          by_cases hl : i + 1 = D.snaps.length
          · have l1 : ((i : Int) + 1 == (D.snaps.length : Int)) = true := by simp; omega
            by_cases ht : D.time = D.snaps[i].time
            · have t1 : ((D.time : Int) == (D.snaps[i].time : Int)) = true := by simp [ht]
              have HN := Lib.hid (fun n => mrg_disk (w := wr.drewN n) hBg hi ⟨HM.out.row, HM.out.own⟩ hl ht hlt hdk)
              have HX := Lib.hid (fun n => show ((wr.drewN n).setCell ⟨g, 17 + k, none⟩ (.bool true)).heap[gs]? = some (.cells (rsArr D.snaps[i]) 73 (0, 0)) from (Below.heap_setCell _ _ _ _ (by show gs ≠ g; omega)).trans hgx)
              clear hdk
              generalize D.snaps[i].time = tm at *
              go_wp2_with fail
              go_quiet (fail)
              have m17' : (wr.drewN nq).cell? ⟨g, 17 + k, none⟩ = some (.bool ((mrg D i k).dirty k)) := m17
              have f17' : (wr.drewN nq).frozen? ⟨g, 17 + k, none⟩ = false := f17
              go_wp2
              refine ⟨⟨k + 1, by omega, by go_num, (HN.out nq).1, HX.out nq, (hst.drewN nq).trans (HN.out nq).2⟩, by simp [intOf]; omega⟩
            · have t1 : ((D.time : Int) == (D.snaps[i].time : Int)) = false := by simp; omega
              have HN := Lib.hid (mrg_stay hi HM.out hl ht)
              clear hdk
              generalize D.snaps[i].time = tm at *
              go_wp2_with fail
              go_quiet (fail)
              go_wp2
              refine ⟨⟨k + 1, by omega, by go_num, ⟨HN.out.row, HN.out.own⟩, hgx, hst.drewN nq⟩, by simp [intOf]; omega⟩
          · have hl' : i + 1 < D.snaps.length := by omega
            have l1 : ((i : Int) + 1 == (D.snaps.length : Int)) = false := by simp; omega
            have l2 : (i : Int) + 1 < (D.snaps.length : Int) := by omega
            obtain ⟨q1, ⟨b, q2⟩, q3⟩ := mrg_cells hl' HM.out k hlt
            by_cases ht : D.snaps[i + 1].time = D.snaps[i].time
            · have t1 : ((D.snaps[i + 1].time : Int) == (D.snaps[i].time : Int)) = true := by simp [ht]
              have HN := Lib.hid (fun n => mrg_next (w := wr.drewN n) hl' ⟨HM.out.row, HM.out.own⟩ ht hlt hdk)
              have HX := Lib.hid (fun n => show ((wr.drewN n).setCell ⟨gb, (i + 1) * 35 + (19 + k), none⟩ (.bool true)).heap[gs]? = some (.cells (rsArr D.snaps[i]) 73 (0, 0)) from (Below.heap_setCell _ _ _ _ (by show gs ≠ gb; omega)).trans hgx)
              simp only [← Nat.add_assoc] at HN HX
              clear hdk
              generalize D.snaps[i + 1].time = tn at *
              generalize D.snaps[i].time = tm at *
              go_wp2_with fail
              go_quiet (fail)
              have n35 : (wr.drewN nq).cell? ⟨g, 35, none⟩ = some (.slice (some ⟨gb, 0, none⟩) D.snaps.length c) := m35
              have q2' : (wr.drewN nq).cell? ⟨gb, (i + 1) * 35 + 19 + k, none⟩ = some (.bool b) := q2
              have q3' : (wr.drewN nq).frozen? ⟨gb, (i + 1) * 35 + 19 + k, none⟩ = false := q3
              go_wp2
              refine ⟨⟨k + 1, by omega, by go_num, (HN.out nq).1, HX.out nq, (hst.drewN nq).trans (HN.out nq).2⟩, by simp [intOf]; omega⟩
            · have t1 : ((D.snaps[i + 1].time : Int) == (D.snaps[i].time : Int)) = false := by simp; omega
              have HN := Lib.hid (mrg_stay2 hl' HM.out ht)
              clear hdk
              generalize D.snaps[i + 1].time = tn at *
              generalize D.snaps[i].time = tm at *
              go_wp2_with fail
              go_quiet (fail)
              go_wp2
              refine ⟨⟨k + 1, by omega, by go_num, ⟨HN.out.row, HN.out.own⟩, hgx, hst.drewN nq⟩, by simp [intOf]; omega⟩
      · obtain rfl : k = 16 := by omega
        go_wp2
        go_meet
        exact ⟨_, rfl, hM, hst⟩
  case rest =>
    as_aux_lemma =>
    obtain ⟨w3, ex, hM, hst⟩ := hcut
    rw [ex]
    clear ex c35 e35 HB1 HS1 HM0 HCU HF2
    obtain ⟨M, hMM⟩ : ∃ M, mrg D i 16 = M := ⟨_, rfl⟩
    have hlenM : M.snaps.length = D.snaps.length := by rw [← hMM]; exact mrg_len _ _ _
    have hokM : M.Ok := by rw [← hMM]; exact mrg_ok hD.ok
    rw [hMM] at hM
    have HMM := Lib.hid (show rvDropM D i = { M with snaps := M.snaps.eraseIdx i } from by unfold rvDropM; rw [hMM])
    have HFIN := Lib.hid (fun w6 v2 (n' : Nat) (h2 : w6.ownsRow w3.heap.size 73 35 v2 (M.snaps.eraseIdx i).length (rsCells (M.snaps.eraseIdx i))) (hb : Below w3.heap.size w3 w6) => rvErase_fin hBg hokM hM (by rw [hlenM]; exact hi) h2 hb)
    obtain ⟨cur3, hcur3, _, hcs3, hnc3, hcm3, hcut3⟩ := rs_open hM.own rfl
    have hg3 := (Array.getElem?_eq_some_iff.1 hM.row).1
    have hgb3 := (Array.getElem?_eq_some_iff.1 hcur3).1
    have HC35 := Lib.hid (fun w' (hb : Below w3.heap.size w3 w') => show w'.cell? ⟨g, 35, none⟩ = some (.slice (some ⟨gb, 0, none⟩) D.snaps.length c) ∧ w'.frozen? ⟨g, 35, none⟩ = false from by
      have := (hb.block g hg3).trans hM.row
      rw [hlenM] at this
      exact ⟨cell_of_row _ _ _ _ _ _ this, frozen_of_row _ _ _ _ _ this⟩)
    have HC1 := Lib.hid (fun w' (hb : Below w3.heap.size w3 w') => rs_range (L := M.snaps) (lo := 0) (hi := i) hM.own hb (by omega) (by rw [hlenM]; omega))
    have HC2 := Lib.hid (fun w' (hb : Below w3.heap.size w3 w') => rs_range (L := M.snaps) (lo := i + 1) (hi := D.snaps.length) hM.own hb (by omega) (by rw [hlenM]; omega))
    have B0 := Lib.hid (show Below w3.heap.size w3 w3.drew from (Below.refl _ _).drew)
    have c35d := (HC35.out _ B0.out).1
    obtain ⟨inf, hz, hz0, hz1, hz2⟩ := info_parts Try.infoRSnZ
    have hlt1 : (rsCells ((M.snaps.drop 0).take (i - 0))).length = i * 35 := by rw [rsCells_length, List.length_take, List.length_drop, hlenM]; congr 1; omega
    have hlt2 : (rsCells ((M.snaps.drop (i + 1)).take (D.snaps.length - (i + 1)))).length = (D.snaps.length - (i + 1)) * 35 := by rw [rsCells_length, List.length_take, List.length_drop, hlenM]; congr 1; omega
    have HL1 := Lib.hid hlt1
    have HL2 := Lib.hid hlt2
    have HER := Lib.hid (show rsCells ((M.snaps.drop 0).take (i - 0)) ++ rsCells ((M.snaps.drop (i + 1)).take (D.snaps.length - (i + 1))) = rsCells (M.snaps.eraseIdx i) ∧ (M.snaps.eraseIdx i).length = i + (D.snaps.length - (i + 1)) from by
      refine ⟨?_, ?_⟩
      · rw [← rsCells_append, List.eraseIdx_eq_take_drop_succ, List.drop_zero, Nat.sub_zero, List.take_of_length_le (l := M.snaps.drop (i + 1)) (by simp; omega)]
      · rw [List.length_eraseIdx, if_pos (by rw [hlenM]; exact hi), hlenM]; omega)
    have p1 : (i : Int) ≤ (c : Int) := by rw [hlenM] at hnc3; omega
    have p2 : (i : Int) + 1 ≤ (D.snaps.length : Int) := by omega
    have p3 : (D.snaps.length : Int) ≤ (c : Int) := by rw [hlenM] at hnc3; omega
    have p4 : IntKind.i64.wrap ((i : Int) + 1) = (i : Int) + 1 := IntWalk.i64_in _ (by omega)
    have p5 : (0 : Int) ≤ (i : Int) + 1 := by omega
    have p6 : ((i : Int) + 1).toNat = i + 1 := by omega
    have hc63 : c ≤ maxLen := hcm3
    have hn5 : D.snaps.length ≤ 5 := h5
    clear hcur3 hcs3 hcut3 hlt1 hlt2 hM hokM hnc3
    by_cases hcap : c = i + 1
    · as_aux_lemma =>
      have hcn : D.snaps.length = i + 1 := by omega
      have p7 : (i : Int) ≤ (i : Int) + 1 := by omega
      have q1 : (D.snaps.length : Int) = (i : Int) + 1 := by omega
      subst hcap
      go_wp2_with fail
      refine wp_region_held_drew (S := fun _ => True) (by kernel_rfl) trivial (fun hHeld => ?_)
      refine wpAnyH_take (i := 0) (v := ?_) rfl (by kernel_rfl) (by kernel_rfl) (by kernel_rfl) (fun _ _ _ h => h) (Or.inl ⟨by rfl, ?_⟩) (by assumption) ?_
      rotate_left
      · intro wq hSw; clear hSw; go_simp; (try with_reducible rfl)
      try simp only [Act.put, List.getElem_toArray, List.getElem_cons_zero, List.setIfInBounds_toArray, List.set_cons_zero, List.set_cons_succ]
      refine wpAnyH_take (i := 1) (v := ?_) rfl (by kernel_rfl) (by kernel_rfl) (by kernel_rfl) (fun _ _ _ h => h) (Or.inl ⟨by rfl, ?_⟩) (by assumption) ?_
      rotate_left
      · intro wq hSw; clear hSw; go_simp; (try with_reducible rfl)
      try simp only [Act.put, List.getElem_toArray, List.getElem_cons_zero, List.getElem_cons_succ, List.setIfInBounds_toArray, List.set_cons_zero, List.set_cons_succ]
      refine wpAnyH_take (i := 2) (v := ?_) rfl (by kernel_rfl) (by kernel_rfl) (by kernel_rfl) (fun _ _ _ h => h) (Or.inl ⟨by rfl, ?_⟩) (by assumption) ?_
      rotate_left
      · intro wq hSw; clear hSw; go_simp; (try with_reducible rfl)
      try simp only [Act.put, List.getElem_toArray, List.getElem_cons_zero, List.getElem_cons_succ, List.setIfInBounds_toArray, List.set_cons_zero, List.set_cons_succ]
      refine wpAnyH_take (i := 3) (v := ?_) rfl (by kernel_rfl) (by kernel_rfl) (by kernel_rfl) (fun _ _ _ h => h) (Or.inl ⟨by rfl, ?_⟩) (by assumption) ?_
      rotate_left
      · intro wq hSw; clear hSw; go_simp; (try with_reducible rfl)
      try simp only [Act.put, List.getElem_toArray, List.getElem_cons_zero, List.getElem_cons_succ, List.setIfInBounds_toArray, List.set_cons_zero, List.set_cons_succ]
      refine wpAnyH_take (i := 5) (v := ?_) rfl (by kernel_rfl) (by kernel_rfl) (by kernel_rfl) (fun _ _ _ h => h) (Or.inl ⟨by rfl, ?_⟩) (by assumption) ?_
      rotate_left
      · intro wq hSw; clear hSw; go_simp; (try with_reducible rfl)
      try simp only [Act.put, List.getElem_toArray, List.getElem_cons_zero, List.getElem_cons_succ, List.setIfInBounds_toArray, List.set_cons_zero, List.set_cons_succ]
      refine wpAnyH_take (i := 8) (v := ?_) rfl (by kernel_rfl) (by kernel_rfl) (by kernel_rfl) (fun _ _ _ h => h) (Or.inl ⟨by rfl, ?_⟩) (by assumption) ?_
      rotate_left
      · intro wq hSw; clear hSw; go_simp; (try with_reducible rfl)
      try simp only [Act.put, List.getElem_toArray, List.getElem_cons_zero, List.getElem_cons_succ, List.setIfInBounds_toArray, List.set_cons_zero, List.set_cons_succ]
      refine wpAnyH_take (i := 9) (v := ?_) rfl (by kernel_rfl) (by kernel_rfl) (by kernel_rfl) (fun _ _ _ h => h) (Or.inl ⟨by rfl, ?_⟩) (by assumption) ?_
      rotate_left
      · intro wq hSw; clear hSw; go_simp; (try with_reducible rfl)
      try simp only [Act.put, List.getElem_toArray, List.getElem_cons_zero, List.getElem_cons_succ, List.setIfInBounds_toArray, List.set_cons_zero, List.set_cons_succ]
      refine wpAnyH_take (i := 10) (v := ?_) rfl (by kernel_rfl) (by kernel_rfl) (by kernel_rfl) (fun _ _ _ h => h) (Or.inl ⟨by rfl, ?_⟩) (by assumption) ?_
      rotate_left
      · intro wq hSw; clear hSw; go_simp; (try with_reducible rfl)
      try simp only [Act.put, List.getElem_toArray, List.getElem_cons_zero, List.getElem_cons_succ, List.setIfInBounds_toArray, List.set_cons_zero, List.set_cons_succ]
      refine wpAnyH_take (i := 12) (v := ?_) rfl (by kernel_rfl) (by kernel_rfl) (by kernel_rfl) (fun _ _ _ h => h) (Or.inl ⟨by rfl, ?_⟩) (by assumption) ?_
      rotate_left
      · intro wq hSw; clear hSw; go_simp; (try with_reducible rfl)
      try simp only [Act.put, List.getElem_toArray, List.getElem_cons_zero, List.getElem_cons_succ, List.setIfInBounds_toArray, List.set_cons_zero, List.set_cons_succ]
      refine wpAnyH_take (i := 13) (v := ?_) rfl (by kernel_rfl) (by kernel_rfl) (by kernel_rfl) (fun _ _ _ h => h) (Or.inl ⟨by rfl, ?_⟩) (by assumption) ?_
      rotate_left
      · intro wq hSw; clear hSw; go_simp; (try with_reducible rfl)
      try simp only [Act.put, List.getElem_toArray, List.getElem_cons_zero, List.getElem_cons_succ, List.setIfInBounds_toArray, List.set_cons_zero, List.set_cons_succ]
      refine wpAnyH_ready (rs := [4, 11]) (by kernel_rfl) (by simp) ?_
      refine AllReadyH.cons rfl (fun K' hK' => ?_) ?_
      · go_simp
        refine hK'.out _ _ trivial (fun hHeld => ?_)
        clear hK' K'
        try simp only [Act.put, List.getElem_toArray, List.getElem_cons_zero, List.getElem_cons_succ, List.setIfInBounds_toArray, List.set_cons_zero, List.set_cons_succ]
        refine wpAnyH_take (i := 6) (v := ?_) rfl (by kernel_rfl) (by kernel_rfl) (by kernel_rfl) (fun _ _ _ h => h) (Or.inl ⟨by rfl, ?_⟩) (by assumption) ?_
        rotate_left
        · intro wq hSw; clear hSw; go_simp; (try with_reducible rfl)
        try simp only [Act.put, List.getElem_toArray, List.getElem_cons_zero, List.getElem_cons_succ, List.setIfInBounds_toArray, List.set_cons_zero, List.set_cons_succ]
        refine wpAnyH_ready (rs := [7, 11]) (by kernel_rfl) (by simp) ?_
        refine AllReadyH.cons rfl (fun K' hK' => ?_) ?_
        · (refine step_appendOwn (by rfl) _ _ 58 (by rfl) w3.heap.size 73 inf _ 35 296 Try.underlying58 hz hz0 hz1 hz2 rfl (by decide) (.slice none 0 0) 0 [] rfl (World.ownsRow_nil _ _ _ _) ⟨gb, 0, none⟩ i (i + 1) _ rfl HL1.out (HC1.out _ B0.out) (rsCells_one _) (by unfold maxLen; omega) (by omega) (Nat.le_refl _) ?_; intro v1 w5 hown1 hg1 hnil1; have hb5 : Below w3.heap.size w3 w5 := B0.out.grown hg1 (Nat.le_refl _) (fun k hk => by cases hk); have c35e := (HC35.out _ hb5).1)
          refine hK'.out _ _ trivial (fun hHeld => ?_)
          clear hK' K'
          try simp only [Act.put, List.getElem_toArray, List.getElem_cons_zero, List.getElem_cons_succ, List.setIfInBounds_toArray, List.set_cons_zero, List.set_cons_succ]
          refine wpAnyH_ready (rs := [11]) (by kernel_rfl) (by simp) ?_
          refine AllReadyH.cons rfl (fun K' hK' => ?_) AllReadyH.nil
          go_simp
          refine hK'.out _ _ trivial (fun hHeld => ?_)
          clear hK' K'
          try simp only [Act.put, List.getElem_toArray, List.getElem_cons_zero, List.getElem_cons_succ, List.setIfInBounds_toArray, List.set_cons_zero, List.set_cons_succ]
          refine wpAnyH_take (i := 14) (v := ?_) rfl (by kernel_rfl) (by kernel_rfl) (by kernel_rfl) (fun _ _ _ h => h) (Or.inl ⟨by rfl, ?_⟩) (by assumption) ?_
          rotate_left
          · intro wq hSw; clear hSw; go_simp; (try with_reducible rfl)
          try simp only [Act.put, List.getElem_toArray, List.getElem_cons_zero, List.getElem_cons_succ, List.setIfInBounds_toArray, List.set_cons_zero, List.set_cons_succ]
          refine wpAnyH_ready (rs := [15]) (by kernel_rfl) (by simp) ?_
          refine AllReadyH.cons rfl (fun K' hK' => ?_) AllReadyH.nil
          (refine step_appendOwn (by rfl) _ _ 58 (by rfl) w3.heap.size 73 inf _ 35 296 Try.underlying58 hz hz0 hz1 hz2 rfl (by decide) v1 _ _ rfl hown1 ⟨gb, 0, none⟩ 0 0 [] rfl rfl (by simp) (by simp) (by unfold maxLen; omega) (by omega) hb5.size ?_; intro v2 w6 hown2 hg2 hnil2; obtain ⟨vA2, vc2, rfl⟩ := own_slice hown2; have hb6 : Below w3.heap.size w3 w6 := hb5.grown hg2 hb5.size (fun k hk => (hown1.lt k hk).1); have c35f := (HC35.out _ hb6).1; have f35f := (HC35.out _ hb6).2; have HF6 := Lib.hid (HFIN.out w6 _ 0 (by have e1 := HER.out.1; have e2 := HER.out.2; rw [hcn] at e1 e2; simp only [Nat.sub_self, List.take_zero] at e1; rw [e2, ← e1]; simpa [rsCells] using hown2) hb6); clear hown2 hg2 hnil2)
          refine hK'.out _ _ trivial (fun hHeld => ?_)
          clear hK' K'
          try simp only [Act.put, List.getElem_toArray, List.getElem_cons_zero, List.getElem_cons_succ, List.setIfInBounds_toArray, List.set_cons_zero, List.set_cons_succ]
          refine wpAnyH_take (i := 16) (v := ?_) rfl (by kernel_rfl) (by kernel_rfl) (by kernel_rfl) (fun _ _ _ h => h) (Or.inl ⟨by rfl, ?_⟩) (by assumption) ?_
          rotate_left
          · intro wq hSw; clear hSw; go_simp; (try with_reducible rfl)
          try simp only [Act.put, List.getElem_toArray, List.getElem_cons_zero, List.getElem_cons_succ, List.setIfInBounds_toArray, List.set_cons_zero, List.set_cons_succ]
          refine wpAnyH_take (i := 17) (v := ?_) rfl (by kernel_rfl) (by kernel_rfl) (by kernel_rfl) (fun _ _ _ h => h) (Or.inl ⟨by rfl, ?_⟩) (by assumption) ?_
          rotate_left
          · intro wq hSw; clear hSw; go_simp; (try with_reducible rfl)
          try simp only [Act.put, List.getElem_toArray, List.getElem_cons_zero, List.getElem_cons_succ, List.setIfInBounds_toArray, List.set_cons_zero, List.set_cons_succ]
          refine wpAnyH_ready (rs := [18]) (by kernel_rfl) (by simp) ?_
          refine AllReadyH.cons rfl (fun K' hK' => ?_) AllReadyH.nil
          go_simp
          refine hK'.out _ _ trivial (fun hHeld => ?_)
          clear hK' K'
          try simp only [Act.put, List.getElem_toArray, List.getElem_cons_zero, List.getElem_cons_succ, List.setIfInBounds_toArray, List.set_cons_zero, List.set_cons_succ]
          refine wpAnyH_done (by kernel_rfl) ?_ _
          go_wp2
          go_ret
          refine ⟨rfl, ?_, ?_⟩
          · rw [HMM.out]
            exact (HF6.out).1
          · exact hst.trans (HF6.out).2
        refine AllReadyH.cons rfl (fun K' hK' => ?_) AllReadyH.nil
        go_simp
        refine hK'.out _ _ trivial (fun hHeld => ?_)
        clear hK' K'
        try simp only [Act.put, List.getElem_toArray, List.getElem_cons_zero, List.getElem_cons_succ, List.setIfInBounds_toArray, List.set_cons_zero, List.set_cons_succ]
        refine wpAnyH_take (i := 14) (v := ?_) rfl (by kernel_rfl) (by kernel_rfl) (by kernel_rfl) (fun _ _ _ h => h) (Or.inl ⟨by rfl, ?_⟩) (by assumption) ?_
        rotate_left
        · intro wq hSw; clear hSw; go_simp; (try with_reducible rfl)
        try simp only [Act.put, List.getElem_toArray, List.getElem_cons_zero, List.getElem_cons_succ, List.setIfInBounds_toArray, List.set_cons_zero, List.set_cons_succ]
        refine wpAnyH_ready (rs := [7]) (by kernel_rfl) (by simp) ?_
        refine AllReadyH.cons rfl (fun K' hK' => ?_) AllReadyH.nil
        (refine step_appendOwn (by rfl) _ _ 58 (by rfl) w3.heap.size 73 inf _ 35 296 Try.underlying58 hz hz0 hz1 hz2 rfl (by decide) (.slice none 0 0) 0 [] rfl (World.ownsRow_nil _ _ _ _) ⟨gb, 0, none⟩ i (i + 1) _ rfl HL1.out (HC1.out _ B0.out) (rsCells_one _) (by unfold maxLen; omega) (by omega) (Nat.le_refl _) ?_; intro v1 w5 hown1 hg1 hnil1; have hb5 : Below w3.heap.size w3 w5 := B0.out.grown hg1 (Nat.le_refl _) (fun k hk => by cases hk); have c35e := (HC35.out _ hb5).1)
        refine hK'.out _ _ trivial (fun hHeld => ?_)
        clear hK' K'
        try simp only [Act.put, List.getElem_toArray, List.getElem_cons_zero, List.getElem_cons_succ, List.setIfInBounds_toArray, List.set_cons_zero, List.set_cons_succ]
        refine wpAnyH_ready (rs := [15]) (by kernel_rfl) (by simp) ?_
        refine AllReadyH.cons rfl (fun K' hK' => ?_) AllReadyH.nil
        (refine step_appendOwn (by rfl) _ _ 58 (by rfl) w3.heap.size 73 inf _ 35 296 Try.underlying58 hz hz0 hz1 hz2 rfl (by decide) v1 _ _ rfl hown1 ⟨gb, 0, none⟩ 0 0 [] rfl rfl (by simp) (by simp) (by unfold maxLen; omega) (by omega) hb5.size ?_; intro v2 w6 hown2 hg2 hnil2; obtain ⟨vA2, vc2, rfl⟩ := own_slice hown2; have hb6 : Below w3.heap.size w3 w6 := hb5.grown hg2 hb5.size (fun k hk => (hown1.lt k hk).1); have c35f := (HC35.out _ hb6).1; have f35f := (HC35.out _ hb6).2; have HF6 := Lib.hid (HFIN.out w6 _ 0 (by have e1 := HER.out.1; have e2 := HER.out.2; rw [hcn] at e1 e2; simp only [Nat.sub_self, List.take_zero] at e1; rw [e2, ← e1]; simpa [rsCells] using hown2) hb6); clear hown2 hg2 hnil2)
        refine hK'.out _ _ trivial (fun hHeld => ?_)
        clear hK' K'
        try simp only [Act.put, List.getElem_toArray, List.getElem_cons_zero, List.getElem_cons_succ, List.setIfInBounds_toArray, List.set_cons_zero, List.set_cons_succ]
        refine wpAnyH_take (i := 16) (v := ?_) rfl (by kernel_rfl) (by kernel_rfl) (by kernel_rfl) (fun _ _ _ h => h) (Or.inl ⟨by rfl, ?_⟩) (by assumption) ?_
        rotate_left
        · intro wq hSw; clear hSw; go_simp; (try with_reducible rfl)
        try simp only [Act.put, List.getElem_toArray, List.getElem_cons_zero, List.getElem_cons_succ, List.setIfInBounds_toArray, List.set_cons_zero, List.set_cons_succ]
        refine wpAnyH_take (i := 17) (v := ?_) rfl (by kernel_rfl) (by kernel_rfl) (by kernel_rfl) (fun _ _ _ h => h) (Or.inl ⟨by rfl, ?_⟩) (by assumption) ?_
        rotate_left
        · intro wq hSw; clear hSw; go_simp; (try with_reducible rfl)
        try simp only [Act.put, List.getElem_toArray, List.getElem_cons_zero, List.getElem_cons_succ, List.setIfInBounds_toArray, List.set_cons_zero, List.set_cons_succ]
        refine wpAnyH_ready (rs := [18]) (by kernel_rfl) (by simp) ?_
        refine AllReadyH.cons rfl (fun K' hK' => ?_) AllReadyH.nil
        go_simp
        refine hK'.out _ _ trivial (fun hHeld => ?_)
        clear hK' K'
        try simp only [Act.put, List.getElem_toArray, List.getElem_cons_zero, List.getElem_cons_succ, List.setIfInBounds_toArray, List.set_cons_zero, List.set_cons_succ]
        refine wpAnyH_done (by kernel_rfl) ?_ _
        go_wp2
        go_ret
        refine ⟨rfl, ?_, ?_⟩
        · rw [HMM.out]
          exact (HF6.out).1
        · exact hst.trans (HF6.out).2
      refine AllReadyH.cons rfl (fun K' hK' => ?_) AllReadyH.nil
      go_simp
      refine hK'.out _ _ trivial (fun hHeld => ?_)
      clear hK' K'
      try simp only [Act.put, List.getElem_toArray, List.getElem_cons_zero, List.getElem_cons_succ, List.setIfInBounds_toArray, List.set_cons_zero, List.set_cons_succ]
      refine wpAnyH_take (i := 14) (v := ?_) rfl (by kernel_rfl) (by kernel_rfl) (by kernel_rfl) (fun _ _ _ h => h) (Or.inl ⟨by rfl, ?_⟩) (by assumption) ?_
      rotate_left
      · intro wq hSw; clear hSw; go_simp; (try with_reducible rfl)
      try simp only [Act.put, List.getElem_toArray, List.getElem_cons_zero, List.getElem_cons_succ, List.setIfInBounds_toArray, List.set_cons_zero, List.set_cons_succ]
      refine wpAnyH_ready (rs := [4]) (by kernel_rfl) (by simp) ?_
      refine AllReadyH.cons rfl (fun K' hK' => ?_) AllReadyH.nil
      go_simp
      refine hK'.out _ _ trivial (fun hHeld => ?_)
      clear hK' K'
      try simp only [Act.put, List.getElem_toArray, List.getElem_cons_zero, List.getElem_cons_succ, List.setIfInBounds_toArray, List.set_cons_zero, List.set_cons_succ]
      refine wpAnyH_take (i := 6) (v := ?_) rfl (by kernel_rfl) (by kernel_rfl) (by kernel_rfl) (fun _ _ _ h => h) (Or.inl ⟨by rfl, ?_⟩) (by assumption) ?_
      rotate_left
      · intro wq hSw; clear hSw; go_simp; (try with_reducible rfl)
      try simp only [Act.put, List.getElem_toArray, List.getElem_cons_zero, List.getElem_cons_succ, List.setIfInBounds_toArray, List.set_cons_zero, List.set_cons_succ]
      refine wpAnyH_ready (rs := [7]) (by kernel_rfl) (by simp) ?_
      refine AllReadyH.cons rfl (fun K' hK' => ?_) AllReadyH.nil
      (refine step_appendOwn (by rfl) _ _ 58 (by rfl) w3.heap.size 73 inf _ 35 296 Try.underlying58 hz hz0 hz1 hz2 rfl (by decide) (.slice none 0 0) 0 [] rfl (World.ownsRow_nil _ _ _ _) ⟨gb, 0, none⟩ i (i + 1) _ rfl HL1.out (HC1.out _ B0.out) (rsCells_one _) (by unfold maxLen; omega) (by omega) (Nat.le_refl _) ?_; intro v1 w5 hown1 hg1 hnil1; have hb5 : Below w3.heap.size w3 w5 := B0.out.grown hg1 (Nat.le_refl _) (fun k hk => by cases hk); have c35e := (HC35.out _ hb5).1)
      refine hK'.out _ _ trivial (fun hHeld => ?_)
      clear hK' K'
      try simp only [Act.put, List.getElem_toArray, List.getElem_cons_zero, List.getElem_cons_succ, List.setIfInBounds_toArray, List.set_cons_zero, List.set_cons_succ]
      refine wpAnyH_ready (rs := [15]) (by kernel_rfl) (by simp) ?_
      refine AllReadyH.cons rfl (fun K' hK' => ?_) AllReadyH.nil
      (refine step_appendOwn (by rfl) _ _ 58 (by rfl) w3.heap.size 73 inf _ 35 296 Try.underlying58 hz hz0 hz1 hz2 rfl (by decide) v1 _ _ rfl hown1 ⟨gb, 0, none⟩ 0 0 [] rfl rfl (by simp) (by simp) (by unfold maxLen; omega) (by omega) hb5.size ?_; intro v2 w6 hown2 hg2 hnil2; obtain ⟨vA2, vc2, rfl⟩ := own_slice hown2; have hb6 : Below w3.heap.size w3 w6 := hb5.grown hg2 hb5.size (fun k hk => (hown1.lt k hk).1); have c35f := (HC35.out _ hb6).1; have f35f := (HC35.out _ hb6).2; have HF6 := Lib.hid (HFIN.out w6 _ 0 (by have e1 := HER.out.1; have e2 := HER.out.2; rw [hcn] at e1 e2; simp only [Nat.sub_self, List.take_zero] at e1; rw [e2, ← e1]; simpa [rsCells] using hown2) hb6); clear hown2 hg2 hnil2)
      refine hK'.out _ _ trivial (fun hHeld => ?_)
      clear hK' K'
      try simp only [Act.put, List.getElem_toArray, List.getElem_cons_zero, List.getElem_cons_succ, List.setIfInBounds_toArray, List.set_cons_zero, List.set_cons_succ]
      refine wpAnyH_take (i := 16) (v := ?_) rfl (by kernel_rfl) (by kernel_rfl) (by kernel_rfl) (fun _ _ _ h => h) (Or.inl ⟨by rfl, ?_⟩) (by assumption) ?_
      rotate_left
      · intro wq hSw; clear hSw; go_simp; (try with_reducible rfl)
      try simp only [Act.put, List.getElem_toArray, List.getElem_cons_zero, List.getElem_cons_succ, List.setIfInBounds_toArray, List.set_cons_zero, List.set_cons_succ]
      refine wpAnyH_take (i := 17) (v := ?_) rfl (by kernel_rfl) (by kernel_rfl) (by kernel_rfl) (fun _ _ _ h => h) (Or.inl ⟨by rfl, ?_⟩) (by assumption) ?_
      rotate_left
      · intro wq hSw; clear hSw; go_simp; (try with_reducible rfl)
      try simp only [Act.put, List.getElem_toArray, List.getElem_cons_zero, List.getElem_cons_succ, List.setIfInBounds_toArray, List.set_cons_zero, List.set_cons_succ]
      refine wpAnyH_ready (rs := [18]) (by kernel_rfl) (by simp) ?_
      refine AllReadyH.cons rfl (fun K' hK' => ?_) AllReadyH.nil
      go_simp
      refine hK'.out _ _ trivial (fun hHeld => ?_)
      clear hK' K'
      try simp only [Act.put, List.getElem_toArray, List.getElem_cons_zero, List.getElem_cons_succ, List.setIfInBounds_toArray, List.set_cons_zero, List.set_cons_succ]
      refine wpAnyH_done (by kernel_rfl) ?_ _
      go_wp2
      go_ret
      refine ⟨rfl, ?_, ?_⟩
      · rw [HMM.out]
        exact (HF6.out).1
      · exact hst.trans (HF6.out).2
    · as_aux_lemma =>
      go_wp2_with fail
      refine wp_region_held_drew (S := fun _ => True) (by kernel_rfl) trivial (fun hHeld => ?_)
      refine wpAnyH_take (i := 0) (v := ?_) rfl (by kernel_rfl) (by kernel_rfl) (by kernel_rfl) (fun _ _ _ h => h) (Or.inl ⟨by rfl, ?_⟩) (by assumption) ?_
      rotate_left
      · intro wq hSw; clear hSw; go_simp; (try with_reducible rfl)
      try simp only [Act.put, List.getElem_toArray, List.getElem_cons_zero, List.setIfInBounds_toArray, List.set_cons_zero, List.set_cons_succ]
      refine wpAnyH_take (i := 1) (v := ?_) rfl (by kernel_rfl) (by kernel_rfl) (by kernel_rfl) (fun _ _ _ h => h) (Or.inl ⟨by rfl, ?_⟩) (by assumption) ?_
      rotate_left
      · intro wq hSw; clear hSw; go_simp; (try with_reducible rfl)
      try simp only [Act.put, List.getElem_toArray, List.getElem_cons_zero, List.getElem_cons_succ, List.setIfInBounds_toArray, List.set_cons_zero, List.set_cons_succ]
      refine wpAnyH_take (i := 2) (v := ?_) rfl (by kernel_rfl) (by kernel_rfl) (by kernel_rfl) (fun _ _ _ h => h) (Or.inl ⟨by rfl, ?_⟩) (by assumption) ?_
      rotate_left
      · intro wq hSw; clear hSw; go_simp; (try with_reducible rfl)
      try simp only [Act.put, List.getElem_toArray, List.getElem_cons_zero, List.getElem_cons_succ, List.setIfInBounds_toArray, List.set_cons_zero, List.set_cons_succ]
      refine wpAnyH_take (i := 3) (v := ?_) rfl (by kernel_rfl) (by kernel_rfl) (by kernel_rfl) (fun _ _ _ h => h) (Or.inl ⟨by rfl, ?_⟩) (by assumption) ?_
      rotate_left
      · intro wq hSw; clear hSw; go_simp; (try with_reducible rfl)
      try simp only [Act.put, List.getElem_toArray, List.getElem_cons_zero, List.getElem_cons_succ, List.setIfInBounds_toArray, List.set_cons_zero, List.set_cons_succ]
      refine wpAnyH_take (i := 5) (v := ?_) rfl (by kernel_rfl) (by kernel_rfl) (by kernel_rfl) (fun _ _ _ h => h) (Or.inl ⟨by rfl, ?_⟩) (by assumption) ?_
      rotate_left
      · intro wq hSw; clear hSw; go_simp; (try with_reducible rfl)
      try simp only [Act.put, List.getElem_toArray, List.getElem_cons_zero, List.getElem_cons_succ, List.setIfInBounds_toArray, List.set_cons_zero, List.set_cons_succ]
      refine wpAnyH_take (i := 8) (v := ?_) rfl (by kernel_rfl) (by kernel_rfl) (by kernel_rfl) (fun _ _ _ h => h) (Or.inl ⟨by rfl, ?_⟩) (by assumption) ?_
      rotate_left
      · intro wq hSw; clear hSw; go_simp; (try with_reducible rfl)
      try simp only [Act.put, List.getElem_toArray, List.getElem_cons_zero, List.getElem_cons_succ, List.setIfInBounds_toArray, List.set_cons_zero, List.set_cons_succ]
      refine wpAnyH_take (i := 9) (v := ?_) rfl (by kernel_rfl) (by kernel_rfl) (by kernel_rfl) (fun _ _ _ h => h) (Or.inl ⟨by rfl, ?_⟩) (by assumption) ?_
      rotate_left
      · intro wq hSw; clear hSw; go_simp; (try with_reducible rfl)
      try simp only [Act.put, List.getElem_toArray, List.getElem_cons_zero, List.getElem_cons_succ, List.setIfInBounds_toArray, List.set_cons_zero, List.set_cons_succ]
      refine wpAnyH_take (i := 10) (v := ?_) rfl (by kernel_rfl) (by kernel_rfl) (by kernel_rfl) (fun _ _ _ h => h) (Or.inl ⟨by rfl, ?_⟩) (by assumption) ?_
      rotate_left
      · intro wq hSw; clear hSw; go_simp; (try with_reducible rfl)
      try simp only [Act.put, List.getElem_toArray, List.getElem_cons_zero, List.getElem_cons_succ, List.setIfInBounds_toArray, List.set_cons_zero, List.set_cons_succ]
      refine wpAnyH_take (i := 12) (v := ?_) rfl (by kernel_rfl) (by kernel_rfl) (by kernel_rfl) (fun _ _ _ h => h) (Or.inl ⟨by rfl, ?_⟩) (by assumption) ?_
      rotate_left
      · intro wq hSw; clear hSw; go_simp; (try with_reducible rfl)
      try simp only [Act.put, List.getElem_toArray, List.getElem_cons_zero, List.getElem_cons_succ, List.setIfInBounds_toArray, List.set_cons_zero, List.set_cons_succ]
      refine wpAnyH_take (i := 13) (v := ?_) rfl (by kernel_rfl) (by kernel_rfl) (by kernel_rfl) (fun _ _ _ h => h) (Or.inl ⟨by rfl, ?_⟩) (by assumption) ?_
      rotate_left
      · intro wq hSw; clear hSw; go_simp; (try with_reducible rfl)
      try simp only [Act.put, List.getElem_toArray, List.getElem_cons_zero, List.getElem_cons_succ, List.setIfInBounds_toArray, List.set_cons_zero, List.set_cons_succ]
      refine wpAnyH_ready (rs := [4, 11]) (by kernel_rfl) (by simp) ?_
      refine AllReadyH.cons rfl (fun K' hK' => ?_) ?_
      · go_simp
        refine hK'.out _ _ trivial (fun hHeld => ?_)
        clear hK' K'
        try simp only [Act.put, List.getElem_toArray, List.getElem_cons_zero, List.getElem_cons_succ, List.setIfInBounds_toArray, List.set_cons_zero, List.set_cons_succ]
        refine wpAnyH_take (i := 6) (v := ?_) rfl (by kernel_rfl) (by kernel_rfl) (by kernel_rfl) (fun _ _ _ h => h) (Or.inl ⟨by rfl, ?_⟩) (by assumption) ?_
        rotate_left
        · intro wq hSw; clear hSw; go_simp; (try with_reducible rfl)
        try simp only [Act.put, List.getElem_toArray, List.getElem_cons_zero, List.getElem_cons_succ, List.setIfInBounds_toArray, List.set_cons_zero, List.set_cons_succ]
        refine wpAnyH_ready (rs := [7, 11]) (by kernel_rfl) (by simp) ?_
        refine AllReadyH.cons rfl (fun K' hK' => ?_) ?_
        · (refine step_appendOwn (by rfl) _ _ 58 (by rfl) w3.heap.size 73 inf _ 35 296 Try.underlying58 hz hz0 hz1 hz2 rfl (by decide) (.slice none 0 0) 0 [] rfl (World.ownsRow_nil _ _ _ _) ⟨gb, 0, none⟩ i c _ rfl HL1.out (HC1.out _ B0.out) (rsCells_one _) (by unfold maxLen; omega) (by omega) (Nat.le_refl _) ?_; intro v1 w5 hown1 hg1 hnil1; have hb5 : Below w3.heap.size w3 w5 := B0.out.grown hg1 (Nat.le_refl _) (fun k hk => by cases hk); have c35e := (HC35.out _ hb5).1)
          refine hK'.out _ _ trivial (fun hHeld => ?_)
          clear hK' K'
          try simp only [Act.put, List.getElem_toArray, List.getElem_cons_zero, List.getElem_cons_succ, List.setIfInBounds_toArray, List.set_cons_zero, List.set_cons_succ]
          refine wpAnyH_ready (rs := [11]) (by kernel_rfl) (by simp) ?_
          refine AllReadyH.cons rfl (fun K' hK' => ?_) AllReadyH.nil
          go_simp
          refine hK'.out _ _ trivial (fun hHeld => ?_)
          clear hK' K'
          try simp only [Act.put, List.getElem_toArray, List.getElem_cons_zero, List.getElem_cons_succ, List.setIfInBounds_toArray, List.set_cons_zero, List.set_cons_succ]
          refine wpAnyH_take (i := 14) (v := ?_) rfl (by kernel_rfl) (by kernel_rfl) (by kernel_rfl) (fun _ _ _ h => h) (Or.inl ⟨by rfl, ?_⟩) (by assumption) ?_
          rotate_left
          · intro wq hSw; clear hSw; go_simp; (try with_reducible rfl)
          try simp only [Act.put, List.getElem_toArray, List.getElem_cons_zero, List.getElem_cons_succ, List.setIfInBounds_toArray, List.set_cons_zero, List.set_cons_succ]
          refine wpAnyH_ready (rs := [15]) (by kernel_rfl) (by simp) ?_
          refine AllReadyH.cons rfl (fun K' hK' => ?_) AllReadyH.nil
          (refine step_appendOwn (by rfl) _ _ 58 (by rfl) w3.heap.size 73 inf _ 35 296 Try.underlying58 hz hz0 hz1 hz2 rfl (by decide) v1 _ _ rfl hown1 ⟨gb, (i + 1) * 35, none⟩ (D.snaps.length - (i + 1)) (c - (i + 1)) _ rfl HL2.out (HC2.out _ hb5) (rsCells_one _) (by unfold maxLen; omega) (by omega) hb5.size ?_; intro v2 w6 hown2 hg2 hnil2; obtain ⟨vA2, vc2, rfl⟩ := own_slice hown2; have hb6 : Below w3.heap.size w3 w6 := hb5.grown hg2 hb5.size (fun k hk => (hown1.lt k hk).1); have c35f := (HC35.out _ hb6).1; have f35f := (HC35.out _ hb6).2; have HF6 := Lib.hid (HFIN.out w6 _ 0 (by rw [HER.out.2, ← HER.out.1]; simpa using hown2) hb6); clear hown2 hg2 hnil2)
          refine hK'.out _ _ trivial (fun hHeld => ?_)
          clear hK' K'
          try simp only [Act.put, List.getElem_toArray, List.getElem_cons_zero, List.getElem_cons_succ, List.setIfInBounds_toArray, List.set_cons_zero, List.set_cons_succ]
          refine wpAnyH_take (i := 16) (v := ?_) rfl (by kernel_rfl) (by kernel_rfl) (by kernel_rfl) (fun _ _ _ h => h) (Or.inl ⟨by rfl, ?_⟩) (by assumption) ?_
          rotate_left
          · intro wq hSw; clear hSw; go_simp; (try with_reducible rfl)
          try simp only [Act.put, List.getElem_toArray, List.getElem_cons_zero, List.getElem_cons_succ, List.setIfInBounds_toArray, List.set_cons_zero, List.set_cons_succ]
          refine wpAnyH_take (i := 17) (v := ?_) rfl (by kernel_rfl) (by kernel_rfl) (by kernel_rfl) (fun _ _ _ h => h) (Or.inl ⟨by rfl, ?_⟩) (by assumption) ?_
          rotate_left
          · intro wq hSw; clear hSw; go_simp; (try with_reducible rfl)
          try simp only [Act.put, List.getElem_toArray, List.getElem_cons_zero, List.getElem_cons_succ, List.setIfInBounds_toArray, List.set_cons_zero, List.set_cons_succ]
          refine wpAnyH_ready (rs := [18]) (by kernel_rfl) (by simp) ?_
          refine AllReadyH.cons rfl (fun K' hK' => ?_) AllReadyH.nil
          go_simp
          refine hK'.out _ _ trivial (fun hHeld => ?_)
          clear hK' K'
          try simp only [Act.put, List.getElem_toArray, List.getElem_cons_zero, List.getElem_cons_succ, List.setIfInBounds_toArray, List.set_cons_zero, List.set_cons_succ]
          refine wpAnyH_done (by kernel_rfl) ?_ _
          go_wp2
          go_ret
          refine ⟨rfl, ?_, ?_⟩
          · rw [HMM.out]
            exact (HF6.out).1
          · exact hst.trans (HF6.out).2
        refine AllReadyH.cons rfl (fun K' hK' => ?_) AllReadyH.nil
        go_simp
        refine hK'.out _ _ trivial (fun hHeld => ?_)
        clear hK' K'
        try simp only [Act.put, List.getElem_toArray, List.getElem_cons_zero, List.getElem_cons_succ, List.setIfInBounds_toArray, List.set_cons_zero, List.set_cons_succ]
        refine wpAnyH_take (i := 14) (v := ?_) rfl (by kernel_rfl) (by kernel_rfl) (by kernel_rfl) (fun _ _ _ h => h) (Or.inl ⟨by rfl, ?_⟩) (by assumption) ?_
        rotate_left
        · intro wq hSw; clear hSw; go_simp; (try with_reducible rfl)
        try simp only [Act.put, List.getElem_toArray, List.getElem_cons_zero, List.getElem_cons_succ, List.setIfInBounds_toArray, List.set_cons_zero, List.set_cons_succ]
        refine wpAnyH_ready (rs := [7]) (by kernel_rfl) (by simp) ?_
        refine AllReadyH.cons rfl (fun K' hK' => ?_) AllReadyH.nil
        (refine step_appendOwn (by rfl) _ _ 58 (by rfl) w3.heap.size 73 inf _ 35 296 Try.underlying58 hz hz0 hz1 hz2 rfl (by decide) (.slice none 0 0) 0 [] rfl (World.ownsRow_nil _ _ _ _) ⟨gb, 0, none⟩ i c _ rfl HL1.out (HC1.out _ B0.out) (rsCells_one _) (by unfold maxLen; omega) (by omega) (Nat.le_refl _) ?_; intro v1 w5 hown1 hg1 hnil1; have hb5 : Below w3.heap.size w3 w5 := B0.out.grown hg1 (Nat.le_refl _) (fun k hk => by cases hk); have c35e := (HC35.out _ hb5).1)
        refine hK'.out _ _ trivial (fun hHeld => ?_)
        clear hK' K'
        try simp only [Act.put, List.getElem_toArray, List.getElem_cons_zero, List.getElem_cons_succ, List.setIfInBounds_toArray, List.set_cons_zero, List.set_cons_succ]
        refine wpAnyH_ready (rs := [15]) (by kernel_rfl) (by simp) ?_
        refine AllReadyH.cons rfl (fun K' hK' => ?_) AllReadyH.nil
        (refine step_appendOwn (by rfl) _ _ 58 (by rfl) w3.heap.size 73 inf _ 35 296 Try.underlying58 hz hz0 hz1 hz2 rfl (by decide) v1 _ _ rfl hown1 ⟨gb, (i + 1) * 35, none⟩ (D.snaps.length - (i + 1)) (c - (i + 1)) _ rfl HL2.out (HC2.out _ hb5) (rsCells_one _) (by unfold maxLen; omega) (by omega) hb5.size ?_; intro v2 w6 hown2 hg2 hnil2; obtain ⟨vA2, vc2, rfl⟩ := own_slice hown2; have hb6 : Below w3.heap.size w3 w6 := hb5.grown hg2 hb5.size (fun k hk => (hown1.lt k hk).1); have c35f := (HC35.out _ hb6).1; have f35f := (HC35.out _ hb6).2; have HF6 := Lib.hid (HFIN.out w6 _ 0 (by rw [HER.out.2, ← HER.out.1]; simpa using hown2) hb6); clear hown2 hg2 hnil2)
        refine hK'.out _ _ trivial (fun hHeld => ?_)
        clear hK' K'
        try simp only [Act.put, List.getElem_toArray, List.getElem_cons_zero, List.getElem_cons_succ, List.setIfInBounds_toArray, List.set_cons_zero, List.set_cons_succ]
        refine wpAnyH_take (i := 16) (v := ?_) rfl (by kernel_rfl) (by kernel_rfl) (by kernel_rfl) (fun _ _ _ h => h) (Or.inl ⟨by rfl, ?_⟩) (by assumption) ?_
        rotate_left
        · intro wq hSw; clear hSw; go_simp; (try with_reducible rfl)
        try simp only [Act.put, List.getElem_toArray, List.getElem_cons_zero, List.getElem_cons_succ, List.setIfInBounds_toArray, List.set_cons_zero, List.set_cons_succ]
        refine wpAnyH_take (i := 17) (v := ?_) rfl (by kernel_rfl) (by kernel_rfl) (by kernel_rfl) (fun _ _ _ h => h) (Or.inl ⟨by rfl, ?_⟩) (by assumption) ?_
        rotate_left
        · intro wq hSw; clear hSw; go_simp; (try with_reducible rfl)
        try simp only [Act.put, List.getElem_toArray, List.getElem_cons_zero, List.getElem_cons_succ, List.setIfInBounds_toArray, List.set_cons_zero, List.set_cons_succ]
        refine wpAnyH_ready (rs := [18]) (by kernel_rfl) (by simp) ?_
        refine AllReadyH.cons rfl (fun K' hK' => ?_) AllReadyH.nil
        go_simp
        refine hK'.out _ _ trivial (fun hHeld => ?_)
        clear hK' K'
        try simp only [Act.put, List.getElem_toArray, List.getElem_cons_zero, List.getElem_cons_succ, List.setIfInBounds_toArray, List.set_cons_zero, List.set_cons_succ]
        refine wpAnyH_done (by kernel_rfl) ?_ _
        go_wp2
        go_ret
        refine ⟨rfl, ?_, ?_⟩
        · rw [HMM.out]
          exact (HF6.out).1
        · exact hst.trans (HF6.out).2
      refine AllReadyH.cons rfl (fun K' hK' => ?_) AllReadyH.nil
      go_simp
      refine hK'.out _ _ trivial (fun hHeld => ?_)
      clear hK' K'
      try simp only [Act.put, List.getElem_toArray, List.getElem_cons_zero, List.getElem_cons_succ, List.setIfInBounds_toArray, List.set_cons_zero, List.set_cons_succ]
      refine wpAnyH_take (i := 14) (v := ?_) rfl (by kernel_rfl) (by kernel_rfl) (by kernel_rfl) (fun _ _ _ h => h) (Or.inl ⟨by rfl, ?_⟩) (by assumption) ?_
      rotate_left
      · intro wq hSw; clear hSw; go_simp; (try with_reducible rfl)
      try simp only [Act.put, List.getElem_toArray, List.getElem_cons_zero, List.getElem_cons_succ, List.setIfInBounds_toArray, List.set_cons_zero, List.set_cons_succ]
      refine wpAnyH_ready (rs := [4]) (by kernel_rfl) (by simp) ?_
      refine AllReadyH.cons rfl (fun K' hK' => ?_) AllReadyH.nil
      go_simp
      refine hK'.out _ _ trivial (fun hHeld => ?_)
      clear hK' K'
      try simp only [Act.put, List.getElem_toArray, List.getElem_cons_zero, List.getElem_cons_succ, List.setIfInBounds_toArray, List.set_cons_zero, List.set_cons_succ]
      refine wpAnyH_take (i := 6) (v := ?_) rfl (by kernel_rfl) (by kernel_rfl) (by kernel_rfl) (fun _ _ _ h => h) (Or.inl ⟨by rfl, ?_⟩) (by assumption) ?_
      rotate_left
      · intro wq hSw; clear hSw; go_simp; (try with_reducible rfl)
      try simp only [Act.put, List.getElem_toArray, List.getElem_cons_zero, List.getElem_cons_succ, List.setIfInBounds_toArray, List.set_cons_zero, List.set_cons_succ]
      refine wpAnyH_ready (rs := [7]) (by kernel_rfl) (by simp) ?_
      refine AllReadyH.cons rfl (fun K' hK' => ?_) AllReadyH.nil
      (refine step_appendOwn (by rfl) _ _ 58 (by rfl) w3.heap.size 73 inf _ 35 296 Try.underlying58 hz hz0 hz1 hz2 rfl (by decide) (.slice none 0 0) 0 [] rfl (World.ownsRow_nil _ _ _ _) ⟨gb, 0, none⟩ i c _ rfl HL1.out (HC1.out _ B0.out) (rsCells_one _) (by unfold maxLen; omega) (by omega) (Nat.le_refl _) ?_; intro v1 w5 hown1 hg1 hnil1; have hb5 : Below w3.heap.size w3 w5 := B0.out.grown hg1 (Nat.le_refl _) (fun k hk => by cases hk); have c35e := (HC35.out _ hb5).1)
      refine hK'.out _ _ trivial (fun hHeld => ?_)
      clear hK' K'
      try simp only [Act.put, List.getElem_toArray, List.getElem_cons_zero, List.getElem_cons_succ, List.setIfInBounds_toArray, List.set_cons_zero, List.set_cons_succ]
      refine wpAnyH_ready (rs := [15]) (by kernel_rfl) (by simp) ?_
      refine AllReadyH.cons rfl (fun K' hK' => ?_) AllReadyH.nil
      (refine step_appendOwn (by rfl) _ _ 58 (by rfl) w3.heap.size 73 inf _ 35 296 Try.underlying58 hz hz0 hz1 hz2 rfl (by decide) v1 _ _ rfl hown1 ⟨gb, (i + 1) * 35, none⟩ (D.snaps.length - (i + 1)) (c - (i + 1)) _ rfl HL2.out (HC2.out _ hb5) (rsCells_one _) (by unfold maxLen; omega) (by omega) hb5.size ?_; intro v2 w6 hown2 hg2 hnil2; obtain ⟨vA2, vc2, rfl⟩ := own_slice hown2; have hb6 : Below w3.heap.size w3 w6 := hb5.grown hg2 hb5.size (fun k hk => (hown1.lt k hk).1); have c35f := (HC35.out _ hb6).1; have f35f := (HC35.out _ hb6).2; have HF6 := Lib.hid (HFIN.out w6 _ 0 (by rw [HER.out.2, ← HER.out.1]; simpa using hown2) hb6); clear hown2 hg2 hnil2)
      refine hK'.out _ _ trivial (fun hHeld => ?_)
      clear hK' K'
      try simp only [Act.put, List.getElem_toArray, List.getElem_cons_zero, List.getElem_cons_succ, List.setIfInBounds_toArray, List.set_cons_zero, List.set_cons_succ]
      refine wpAnyH_take (i := 16) (v := ?_) rfl (by kernel_rfl) (by kernel_rfl) (by kernel_rfl) (fun _ _ _ h => h) (Or.inl ⟨by rfl, ?_⟩) (by assumption) ?_
      rotate_left
      · intro wq hSw; clear hSw; go_simp; (try with_reducible rfl)
      try simp only [Act.put, List.getElem_toArray, List.getElem_cons_zero, List.getElem_cons_succ, List.setIfInBounds_toArray, List.set_cons_zero, List.set_cons_succ]
      refine wpAnyH_take (i := 17) (v := ?_) rfl (by kernel_rfl) (by kernel_rfl) (by kernel_rfl) (fun _ _ _ h => h) (Or.inl ⟨by rfl, ?_⟩) (by assumption) ?_
      rotate_left
      · intro wq hSw; clear hSw; go_simp; (try with_reducible rfl)
      try simp only [Act.put, List.getElem_toArray, List.getElem_cons_zero, List.getElem_cons_succ, List.setIfInBounds_toArray, List.set_cons_zero, List.set_cons_succ]
      refine wpAnyH_ready (rs := [18]) (by kernel_rfl) (by simp) ?_
      refine AllReadyH.cons rfl (fun K' hK' => ?_) AllReadyH.nil
      go_simp
      refine hK'.out _ _ trivial (fun hHeld => ?_)
      clear hK' K'
      try simp only [Act.put, List.getElem_toArray, List.getElem_cons_zero, List.getElem_cons_succ, List.setIfInBounds_toArray, List.set_cons_zero, List.set_cons_succ]
      refine wpAnyH_done (by kernel_rfl) ?_ _
      go_wp2
      go_ret
      refine ⟨rfl, ?_, ?_⟩
      · rw [HMM.out]
        exact (HF6.out).1
      · exact hst.trans (HF6.out).2
end Go.Proofs.Ytmcoenndfbgdfaa
