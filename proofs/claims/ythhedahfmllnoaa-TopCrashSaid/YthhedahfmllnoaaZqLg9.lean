/- Package log: put, the walk. -/
import Derived.Test.YthhedahfmllnoaaZqLg8
namespace Go.Proofs.Ythhedahfmllnoaa
open Go.RowKit Go.PlainAid
attribute [local go_sem ↓] Go.wp_at_zero Go.wp_at_succ

theorem tx_take {w : World} {A : Option Addr} {l : List ByteArray} (h : TxAt w A l) {n : Nat} : TxAt w A (l.take n) := fun i hi => by
  have hi' : i < l.length := by simp at hi; omega
  obtain ⟨b, off, cs, e, hh, hc⟩ := h i hi'
  exact ⟨b, off, cs, e, hh, by rw [hc]; simp⟩

theorem TxAt.below {w w' : World} {A : Option Addr} {l : List ByteArray} (h : TxAt w A l) (hb : Below w.heap.size w w') : TxAt w' A l :=
  h.step (B := w.heap.size) (ts := []) (Step.of_below hb (Nat.le_refl _)) (by simp)

theorem own_cap {w : World} {B : Nat} {e : TypeId} {size n c : Nat} {A : Option Addr} {xs : List Value} (h : w.ownsRow B e size (.slice A n c) n xs) (hn : 0 < n) : n ≤ c := by
  rcases h.2 with ⟨_, h0⟩ | ⟨_, _, _, hv, _, _, hc, _⟩
  · omega
  · injection hv with _ _ hv; omega

set_option maxHeartbeats 8000000 in
set_option maxRecDepth 100000 in
theorem put_any (B gl g gs c : Nat) (W w : World) (D : DkM) (L : LgM) (S : List ByteArray) (m : Nat) (cs : Array Value) (hS : S.length = m + 1) (hst : PutSt B W w gl g gs L D (S.headD blankT))
    (hrow : w.heap[gs]? = some (.cells cs 9 (0, 0))) (hcs : ∀ (j : Nat) (u : Value), (txV S)[j]? = some u → cs[j]? = some u) (hc : m + 1 ≤ c) (hcc : cs.size = c) (hgs : W.heap.size ≤ gs) (hBW : B ≤ W.heap.size)
    (hm : m ≤ 200) (hsz : ∀ x ∈ S, x.size ≤ 1000) (hwr : D.wr.length ≤ 50000) (hf : L.frm ≤ 1000) (hfit : L.fin + m + 1 ≤ L.many) (hmany : L.many ≤ 1000) :
    Calls Try.prog 51 #[.pointer (some ⟨gl, 0, none⟩), .slice (some ⟨gs, 0, none⟩) (m + 1) c] w fun e w' => e = .returned (errV (lgPut S L D).2) ∧ DkAt B w' g (lgPut S L D).1 ∧ LgAt B w' gl g L ∧ Step B dkTypes W w' := by
  obtain ⟨R, hR⟩ : ∃ R, lgPut S L D = R := ⟨_, rfl⟩
  rw [hR]
  unfold lgPut at hR
  have HR := Lib.hid hR
  clear hR
  have c4 : w.cell? ⟨gl, 4, none⟩ = some (.int .i64 (L.fin : Int)) := cell_of_row _ _ _ _ _ _ hst.log.2
  have hb1 : Below w.heap.size w (w.alloc (.cells #[.string blankT] 9)) := (Below.refl _ _).alloc (Nat.le_refl _) _
  have hst1 := hst.below hb1
  have HW1 := Lib.hid (lgWrite_any B gl g _ D L L.fin (some ⟨w.heap.size, 0, none⟩) 1 [blankT] hst1.log hst1.disk (tx_oneL blankT) (by simp) (fun x hx => by simp at hx; subst hx; simp [blankT, ByteArray.size]) (by omega) (by omega) (by omega))
  rw [show [blankT].length = 1 from rfl] at HW1
  have hrow1 : (w.alloc (.cells #[.string blankT] 9)).heap[gs]? = some (.cells cs 9 (0, 0)) := (hb1.block gs (Array.getElem?_eq_some_iff.1 hrow).1).trans hrow
  have hwr1 := lgWrite_wr [blankT] (L.frm + L.fin) D
  obtain ⟨w1, hw1⟩ : ∃ w1, w.alloc (.cells #[.string blankT] 9) = w1 := ⟨_, rfl⟩
  rw [hw1] at HW1 hst1 hrow1
  have HA1 := Lib.hid (show w.alloc (.cells #[.string ⟨#[]⟩] 9) = w1 from hw1)
  clear hw1 hb1 hrow hst
  generalize lgWrite [blankT] (L.frm + L.fin) D = P1 at *
  obtain ⟨D1, e1⟩ := P1
  simp only [] at HW1 HR hwr1
  by_cases h1 : e1 = 0
  · subst h1
    have hR := HR.out
    rw [if_pos rfl] at hR
    have HR2 := Lib.hid hR
    rw [show errV 0 = .nilIface from rfl] at HW1
    clear HR hR
    go_enter Try.func51, Try.ntmps51
    go_wp2_with fail
    rw [HA1.out]
    ((with_reducible refine HW1.out.mono ?_); rintro e w2 ⟨rfl, hD2, hs2⟩)
    have hst2 := hst1.write hD2 hs2
    have hrow2 := hs2.other _ _ _ _ hrow1 not_mem_lg.2
    clear HW1 HA1 hst1 hrow1 hD2 hs2 c4
    obtain ⟨inf, hin, hz0, hz1, hz2⟩ := info_parts Try.infoTxtZ
    have HIN := Lib.hid hin
    have HZ0 := Lib.hid hz0
    have HZ1 := Lib.hid hz1
    have HZ2 := Lib.hid hz2
    clear hin hz0 hz1 hz2
    go_upto_region 4 with (fail)
    go_cut [6] (fun s6 wx => ∃ A c' wy, s6 = .slice A (m + 1) c' ∧ m + 1 ≤ c' ∧ wx = wy ∧ TxAt wy A (S.tail ++ [blankT]) ∧ PutSt B W wy gl g gs L D1 (S.headD blankT))
    case first =>
      have hb3 : Below w2.heap.size w2 (w2.alloc (.cells #[.string ⟨#[]⟩] 9)) := (Below.refl _ _).alloc (Nat.le_refl _) _
      have hst3 := hst2.below hb3
      have hgl2 := (Array.getElem?_eq_some_iff.1 hrow2).1
      have hrow3 := (hb3.block gs hgl2).trans hrow2
      have i1 : (1 : Int) ≤ (m : Int) + 1 := by omega
      have i2 : (m : Int) + 1 ≤ (c : Int) := by omega
      by_cases hroom : m + 1 < c
      · obtain ⟨q1, q2, q3⟩ := rest_room (m := m) hS hrow3 hcs (by omega)
        have i3 : ¬ c - 1 = 0 := by omega
        have hpt := hst3.room hBW hgs hrow3 q2 q3 (by simp [World.setCells, World.setCell]) (by simp [World.setCells, World.setCell]) (by simp [World.setCells, World.setCell]) (by simp [World.setCells, World.setCell])
        rw [show 1 + m * 1 = 1 + m by omega] at q1 hpt
        have HQ1 := Lib.hid q1
        have HPT := Lib.hid hpt
        clear hpt
        have HOLD := Lib.hid (show ∀ (j : Nat) (u : Value), (txV S.tail)[j]? = some u → (w2.alloc (.cells #[.string ⟨#[]⟩] 9)).cell? ⟨gs, 1 + j, none⟩ = some u from fun j u hj => by
          rw [cell_of_row _ _ _ _ _ _ hrow3]
          refine hcs (1 + j) u ?_
          simpa [txV, List.getElem?_tail, Nat.add_comm 1 j] using hj)
        have HLEN := Lib.hid (show (txV S.tail).length = m * 1 by simp [txV, hS])
        have HSP := Lib.hid (show ∀ j, j < [Value.string ⟨#[]⟩].length → ((w2.alloc (.cells #[.string ⟨#[]⟩] 9)).cell? ⟨gs, 1 + m * 1 + j, none⟩).isSome = true ∧ (w2.alloc (.cells #[.string ⟨#[]⟩] 9)).frozen? ⟨gs, 1 + m * 1 + j, none⟩ = false from fun j hj => by
          have hj0 : j = 0 := by simpa using hj
          subst hj0
          rw [cell_of_row _ _ _ _ _ _ hrow3]
          exact ⟨by simp; omega, frozen_of_row _ _ _ _ _ hrow3⟩)
        clear q1 q2 q3 hrow3 hcs hrow2 hst2 hb3
        go_wp2_with (at_builtin; (refine wpList_append_arg _ rfl _ _ 109 rfl 9 inf (.string ByteArray.empty) 1 16 Try.underlying109 HIN.out HZ0.out HZ1.out HZ2.out rfl (by decide) gs 1 m (c - 1) (txV S.tail) rfl HLEN.out HOLD.out ⟨w2.heap.size, 0, none⟩ 1 1 [.string ⟨#[]⟩] rfl rfl (cell_one_new _ _ _) (by simp [Value.oneCell']) (fun _ => HSP.out) (by unfold maxLen; omega) (by omega) (fun _ => ?_) (fun h => absurd h (by omega))))
        go_meet
        exact ⟨_, _, _, rfl, by omega, rfl, HQ1.out, HPT.out⟩
      · obtain rfl : c = m + 1 := by omega
        have HOWN := Lib.hid (fun w4 A c' (h : w4.ownsRow (w2.alloc (.cells #[.string ⟨#[]⟩] 9)).heap.size 9 1 (.slice A (m + 1) c') (m + 1) (txV S.tail ++ [.string ⟨#[]⟩])) => show TxAt w4 A (S.tail ++ [blankT]) from tx_own (l := S.tail ++ [blankT]) (by simpa [txV, blankT] using h) (by simp [hS]))
        have HPT := Lib.hid hst3
        have HOLD := Lib.hid (show ∀ (off j : Nat) (u : Value), (off = 1 ∨ m = 0) → (txV S.tail)[j]? = some u → (w2.alloc (.cells #[.string ⟨#[]⟩] 9)).cell? ⟨gs, off + j, none⟩ = some u from fun off j u ho hj => by
          have hjl := (List.getElem?_eq_some_iff.1 hj).1
          simp [txV, hS] at hjl
          rcases ho with rfl | rfl
          · rw [cell_of_row _ _ _ _ _ _ hrow3]
            refine hcs (1 + j) u ?_
            simpa [txV, List.getElem?_tail, Nat.add_comm 1 j] using hj
          · omega)
        have HLEN := Lib.hid (show (txV S.tail).length = m * 1 by simp [txV, hS])
        clear hrow3 hcs hrow2 hst2 hb3 hst3
        by_cases hm0 : m = 0
        · subst hm0
          go_wp2_with (at_builtin; (refine wpList_append_arg _ rfl _ _ 109 rfl 9 inf (.string ByteArray.empty) 1 16 Try.underlying109 HIN.out HZ0.out HZ1.out HZ2.out rfl (by decide) gs 0 0 0 (txV S.tail) rfl HLEN.out (fun j u hj => HOLD.out 0 j u (.inr rfl) hj) ⟨w2.heap.size, 0, none⟩ 1 1 [.string ⟨#[]⟩] rfl rfl (cell_one_new _ _ _) (by simp [Value.oneCell']) (fun h => absurd h (by omega)) (by unfold maxLen; omega) (by omega) (fun h => absurd h (by omega)) (fun _ v4 w4 hO4 hg4 => ?_)); obtain ⟨A4, c4', hv4⟩ := slice_form hO4; subst hv4; have HT4 := Lib.hid (HOWN.out w4 A4 c4' hO4); have HC4 := own_cap hO4 (by omega); have HP4 := Lib.hid (HPT.out.below (Below.grown (Below.refl _ _) hg4 (Nat.le_refl _) (fun q hq => by cases hq))); clear hO4 hg4)
          go_meet
          exact ⟨_, _, _, rfl, HC4, rfl, HT4.out, HP4.out⟩
        · have i3 : ¬ (m + 1) - 1 = 0 := by omega
          go_wp2_with (at_builtin; (refine wpList_append_arg _ rfl _ _ 109 rfl 9 inf (.string ByteArray.empty) 1 16 Try.underlying109 HIN.out HZ0.out HZ1.out HZ2.out rfl (by decide) gs 1 m m (txV S.tail) rfl HLEN.out (fun j u hj => HOLD.out 1 j u (.inl rfl) hj) ⟨w2.heap.size, 0, none⟩ 1 1 [.string ⟨#[]⟩] rfl rfl (cell_one_new _ _ _) (by simp [Value.oneCell']) (fun h => absurd h (by omega)) (by unfold maxLen; omega) (by omega) (fun h => absurd h (by omega)) (fun _ v4 w4 hO4 hg4 => ?_)); obtain ⟨A4, c4', hv4⟩ := slice_form hO4; subst hv4; have HT4 := Lib.hid (HOWN.out w4 A4 c4' hO4); have HC4 := own_cap hO4 (by omega); have HP4 := Lib.hid (HPT.out.below (Below.grown (Below.refl _ _) hg4 (Nat.le_refl _) (fun q hq => by cases hq))); clear hO4 hg4)
          go_meet
          exact ⟨_, _, _, rfl, HC4, rfl, HT4.out, HP4.out⟩
    case rest =>
      obtain ⟨A, c', wy, rfl, hc', ex, hT, hst4⟩ := hcut
      rw [ex]
      clear ex hst2 hrow2 hcs HIN HZ0 HZ1 HZ2 hcc hc
      obtain ⟨q, hq⟩ : ∃ q, min (m + 1) (L.many - L.fin - 1) = q := ⟨_, rfl⟩
      have hqm : q ≤ m + 1 := by omega
      have hql : (restOf S (L.many - L.fin)).length = q := by unfold restOf; simp [hS]; omega
      have hT2 := tx_take hT (n := L.many - L.fin - 1)
      have HRM := Lib.hid (fun w' (h : LgAt B w' gl g L) => room_any B gl g w' L h (by omega) (by omega))
      have HW2 := fun w' (h1 : LgAt B w' gl g L) (h2 : DkAt B w' g D1) (h3 : TxAt w' A (restOf S (L.many - L.fin))) => lgWrite_any B gl g w' D1 L (L.fin + 1) A c' (restOf S (L.many - L.fin)) h1 h2 h3 (by rw [hql]; omega) (fun x hx => by
        unfold restOf at hx
        have := List.mem_of_mem_take hx
        simp only [List.mem_append, List.mem_singleton] at this
        rcases this with h | rfl
        · exact hsz x (List.mem_of_mem_tail h)
        · simp [blankT, ByteArray.size]) (by simp at hwr1; omega) (by omega) (by omega)
      rw [hql, show ((L.fin + 1 : Nat) : Int) = (L.fin : Int) + 1 by omega] at HW2
      have hwr2 := lgWrite_wr (restOf S (L.many - L.fin)) (L.frm + (L.fin + 1)) D1
      rw [hql] at hwr2
      have hT3 : TxAt wy A (restOf S (L.many - L.fin)) := hT2
      generalize lgWrite (restOf S (L.many - L.fin)) (L.frm + (L.fin + 1)) D1 = P2 at *
      obtain ⟨D2, e2⟩ := P2
      simp only [] at HW2 HR2 hwr2
      have c4 : wy.cell? ⟨gl, 4, none⟩ = some (.int .i64 (L.fin : Int)) := cell_of_row _ _ _ _ _ _ hst4.log.2
      have a1 : IntKind.i64.wrap ((L.fin : Int) + 1) = (L.fin : Int) + 1 := IntWalk.i64_in _ (by omega)
      have a2 : IntKind.i64.wrap ((L.many : Int) - (L.fin : Int) - 1) = (L.many : Int) - (L.fin : Int) - 1 := IntWalk.i64_in _ (by omega)
      have TR := Lib.hid hT3
      have ST := Lib.hid hst4
      have QQ := Lib.hid hq
      clear hT hT2 hT3 hql hst4
      go_upto_region 5 with (fail)
      go_cut [7] (fun s7 wx => ∃ wz, s7 = errV e2 ∧ wx = wz ∧ PutSt B W wz gl g gs L D2 (S.headD blankT))
      case first =>
        by_cases hfull : L.many - L.fin - 1 < m + 1
        · have hqe : q = L.many - L.fin - 1 := by omega
          have j1 : (L.many : Int) - (L.fin : Int) - 1 < (m : Int) + 1 := by omega
          have j2 : (0 : Int) ≤ (L.many : Int) - (L.fin : Int) - 1 := by omega
          have j3 : (L.many : Int) - (L.fin : Int) - 1 ≤ (c' : Int) := by omega
          subst hqe
          have HR6 := Lib.hid (fun w6 (h : ∃ n, w6 = wy.drew.drewN n) => show Below wy.heap.size wy w6 from by obtain ⟨n, rfl⟩ := h; exact below_drewN (Below.refl _ _).drew n)
          have HC6 := Lib.hid (fun w6 (h : ∃ n, w6 = wy.drew.drewN n) => show w6.cell? ⟨gl, 4, none⟩ = some (.int .i64 (L.fin : Int)) from by obtain ⟨n, rfl⟩ := h; simpa using c4)
          have HW2' := Lib.hid HW2
          have HX := Lib.hid (fun w6 (h : ∃ n, w6 = wy.drew.drewN n) => HW2'.out w6 (ST.out.below (HR6.out _ h)).log (ST.out.below (HR6.out _ h)).disk (TR.out.below (HR6.out _ h)))
          have FIN := Lib.hid (fun w6 w7 (h : ∃ n, w6 = wy.drew.drewN n) (hD : DkAt B w7 g D2) (hs : Step B dkTypes w6 w7) => (ST.out.below (HR6.out _ h)).write hD hs)
          clear HW2
          go_region_with (first
            | (go_at_call 37; refine (HRM.out _ (ST.out.below (Below.refl _ _).drew).log).mono ?_; rintro e w6 ⟨rfl, hr6⟩; have c6 := HC6.out w6 hr6)
            | (go_at_call 68; refine (HX.out _ hr6).mono ?_; rintro e w7 ⟨rfl, hD7, hs7⟩))
          all_goals
            go_wp2
            go_meet
            exact ⟨w7, rfl, rfl, FIN.out _ _ hr6 hD7 hs7⟩
        · have hqe : q = m + 1 := by omega
          have j1 : ¬ (L.many : Int) - (L.fin : Int) - 1 < (m : Int) + 1 := by omega
          have j3 : (m : Int) + 1 ≤ (c' : Int) := by omega
          subst hqe
          have HR6 := Lib.hid (fun w6 (h : ∃ n, w6 = wy.drew.drewN n) => show Below wy.heap.size wy w6 from by obtain ⟨n, rfl⟩ := h; exact below_drewN (Below.refl _ _).drew n)
          have HC6 := Lib.hid (fun w6 (h : ∃ n, w6 = wy.drew.drewN n) => show w6.cell? ⟨gl, 4, none⟩ = some (.int .i64 (L.fin : Int)) from by obtain ⟨n, rfl⟩ := h; simpa using c4)
          have HW2' := Lib.hid HW2
          have HX := Lib.hid (fun w6 (h : ∃ n, w6 = wy.drew.drewN n) => HW2'.out w6 (ST.out.below (HR6.out _ h)).log (ST.out.below (HR6.out _ h)).disk (TR.out.below (HR6.out _ h)))
          have FIN := Lib.hid (fun w6 w7 (h : ∃ n, w6 = wy.drew.drewN n) (hD : DkAt B w7 g D2) (hs : Step B dkTypes w6 w7) => (ST.out.below (HR6.out _ h)).write hD hs)
          clear HW2
          go_region_with (first
            | (go_at_call 37; refine (HRM.out _ (ST.out.below (Below.refl _ _).drew).log).mono ?_; rintro e w6 ⟨rfl, hr6⟩; have c6 := HC6.out w6 hr6)
            | (go_at_call 68; refine (HX.out _ hr6).mono ?_; rintro e w7 ⟨rfl, hD7, hs7⟩))
          all_goals
            go_wp2
            go_meet
            exact ⟨w7, rfl, rfl, FIN.out _ _ hr6 hD7 hs7⟩
      case rest =>
        obtain ⟨wz, rfl, ex, hst5⟩ := hcut
        rw [ex]
        clear ex TR ST QQ HW2 HRM c4 a1 a2
        by_cases h2 : e2 = 0
        · subst h2
          rw [show errV 0 = .nilIface from rfl]
          have hR := HR2.out
          rw [if_pos rfl] at hR
          obtain ⟨cs5, hrow5, hcell5⟩ := hst5.row
          have c4 : wz.cell? ⟨gl, 4, none⟩ = some (.int .i64 (L.fin : Int)) := cell_of_row _ _ _ _ _ _ hst5.log.2
          have c0 : wz.cell? ⟨gs, 0, none⟩ = some (.string (S.headD blankT)) := (cell_of_row _ _ _ _ _ _ hrow5).trans hcell5
          have hh : (S.headD blankT).size ≤ 1000 := by
            cases S with
            | nil => simp [blankT, ByteArray.size]
            | cons x r => exact hsz x (by simp)
          generalize S.headD blankT = s0 at *
          have hb6 : Below wz.heap.size wz ((wz.alloc (.cells #[.string s0] 9)).drew) := ((Below.refl _ _).alloc (Nat.le_refl _) _).drew
          have hst6 := hst5.below hb6
          have HW3 := Lib.hid (lgWrite_any B gl g _ D2 L L.fin (some ⟨wz.heap.size, 0, none⟩) 1 [s0] hst6.log hst6.disk (show TxAt ((wz.alloc (.cells #[.string s0] 9)).drew) (some ⟨wz.heap.size, 0, none⟩) [s0] from tx_oneL (w := wz) s0) (by simp) (fun x hx => by simp at hx; subst hx; exact hh) (by simp at hwr1; omega) (by omega) (by omega))
          rw [show [s0].length = 1 from rfl] at HW3
          rw [hR] at HW3
          have FIN := Lib.hid (fun w7 (hD : DkAt B w7 g R.1) (hs : Step B dkTypes ((wz.alloc (.cells #[.string s0] 9)).drew) w7) => hst6.write hD hs)
          obtain ⟨w6, hw6⟩ : ∃ w6, (wz.alloc (.cells #[.string s0] 9)).drew = w6 := ⟨_, rfl⟩
          rw [hw6] at HW3 FIN
          have HW6 := Lib.hid hw6
          have c4a : (wz.alloc (.cells #[.string s0] 9)).cell? ⟨gl, 4, none⟩ = some (.int .i64 (L.fin : Int)) := Lib.cell?_alloc_some _ c4
          clear hR hrow5 hcell5 hb6 hst6 hst5 hw6 HR2
          go_wp2_with fail
          go_region_with (go_at_call 68; rw [HW6.out]; refine HW3.out.mono ?_; rintro e w7 ⟨rfl, hD7, hs7⟩)
          all_goals
            go_wp2
            go_ret
            exact ⟨rfl, (FIN.out _ hD7 hs7).disk, (FIN.out _ hD7 hs7).log, (FIN.out _ hD7 hs7).step⟩
        · have hR := HR2.out
          rw [if_neg h2] at hR
          subst hR
          have hne : errV e2 = .iface 64 (.int .i64 e2) := by unfold errV; rw [if_neg h2]
          rw [hne]
          have HNE := Lib.hid hne
          have HF := Lib.hid hst5
          clear HR2 h2 hne hst5
          go_wp2
          go_ret
          exact ⟨by rw [HNE.out]; rfl, HF.out.disk, HF.out.log, HF.out.step⟩
  · have hR := HR.out
    rw [if_neg h1] at hR
    subst hR
    have hne : errV e1 = .iface 64 (.int .i64 e1) := by unfold errV; rw [if_neg h1]
    rw [hne] at HW1
    have HNE := Lib.hid hne
    clear HR h1 hne
    go_enter Try.func51, Try.ntmps51
    go_wp2_with fail
    rw [HA1.out]
    ((with_reducible refine HW1.out.mono ?_); rintro e w2 ⟨rfl, hD2, hs2⟩)
    have hst2 := hst1.write hD2 hs2
    clear HW1 HA1 hst1 hrow1 hD2 hs2 c4
    have HF := Lib.hid hst2
    clear hst2
    go_wp2
    go_ret
    exact ⟨by rw [HNE.out]; rfl, HF.out.disk, HF.out.log, HF.out.step⟩
end Go.Proofs.Ythhedahfmllnoaa
