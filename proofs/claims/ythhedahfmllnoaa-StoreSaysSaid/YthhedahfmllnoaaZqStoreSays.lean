/- StoreSays: the walk. -/
import Derived.Test.YthhedahfmllnoaaZqOpenB
import Derived.Test.YthhedahfmllnoaaZqSaid
import Derived.Test.YthhedahfmllnoaaZqLightB
import Derived.Test.YthhedahfmllnoaaZqRr3
import Derived.Deep.DeepCutAuto
import Derived.Deep.CutBlock
namespace Go.Proofs.Ythhedahfmllnoaa
open Go.RowKit
attribute [local go_sem ↓] Go.wp_at_zero Go.wp_at_succ
attribute [local go_sem] Oper.semAt_some
set_option maxRecDepth 100000

theorem new_head (n slot : Nat) (hn : slot * 61 < n) : nHead (dkNew n).now slot = ⟨slot, 0, 0, 0⟩ := by
  have e : (dkNew n).now.getD (slot * 61) [] = List.replicate 80 0 := by
    rw [List.getD_eq_getElem?_getD]
    simp [dkNew, hn]
  unfold nHead hdParse
  rw [e, if_neg (by decide +kernel)]
theorem new_read {n : Nat} (hn : 122 ≤ n) : (hdRead (dkNew n) (nwH (dkNew n))).1 = 4 := by
  have hl : (dkNew n).now.length = n := by simp [dkNew]
  rw [nwH_now rfl (by omega), hdRead_now rfl (by omega) (nNew_small _).2.2.2]
  unfold nRead
  rw [if_pos]
  unfold nNew
  rw [new_head n 0 (by omega), new_head n 1 (by omega)]
  rfl

structure SsSt (w wr : World) (g gs gm n : Nat) (D : DkM) (S : StM) (M : RSt) : Prop where
  q : StQ w.heap.size wr g gs n D S
  m : RStAt w.heap.size wr gm M
  rows : M.rows = S.rows
  used : M.used = S.log.fin
  many : M.many = n - 122
  kept : Below w.heap.size w wr
theorem SsSt.below {w wr w' : World} {g gs gm n : Nat} {D : DkM} {S : StM} {M : RSt} (h : SsSt w wr g gs gm n D S M) (hb : Below wr.heap.size wr w') : SsSt w w' g gs gm n D S M := by
  obtain ⟨A, c, hm⟩ := h.m
  exact ⟨h.q.below hb, ⟨A, c, hm.below hb⟩, h.rows, h.used, h.many, belowThen h.kept hb⟩

theorem cmErr_nonneg (l : List Ch) (S : StM) (n : Nat) : 0 ≤ cmErr l S n := by
  have h : ∀ l : List Ch, 0 ≤ chsErr l := by
    intro l
    induction l with
    | nil => simp [chsErr]
    | cons c r ih =>
      unfold chsErr
      split
      · exact ih
      · exact chErr_nonneg c
  unfold cmErr
  have := h l
  split
  · omega
  · split
    · exact h l
    · split <;> omega
theorem rCommit_err {l : List Ch} {S : StM} {M : RSt} {n : Nat} (hr : M.rows = S.rows) (hm : M.many = n - 122) : (rCommit l M).2 = cmErr l S n ∧ (¬ cmErr l S n = 0 → (rCommit l M).1 = M) ∧ (cmErr l S n = 0 → (rCommit l M).1 = ⟨apAll S.rows l, (if n - 122 - M.used < l.length + 1 then 0 else M.used) + l.length + 1, n - 122⟩) := by
  unfold rCommit cmErr
  rw [hr, hm]
  split
  · exact ⟨rfl, fun _ => rfl, fun h => by omega⟩
  · split
    · rename_i h1 h2; exact ⟨rfl, fun _ => rfl, fun h => absurd h h2⟩
    · split
      · exact ⟨rfl, fun _ => rfl, fun h => by omega⟩
      · exact ⟨rfl, fun h => absurd rfl h, fun _ => rfl⟩
/-- Between the two commits. -/
structure SsMid (w wr : World) (g gs gm gx n : Nat) (S : StM) (M : RSt) (l : List Ch) (v : Value) : Prop where
  cell : wr.cell? ⟨gx, 8, none⟩ = some v
  st : ∃ D1 S1, StQ w.heap.size wr g gs n D1 S1 ∧ (¬ cmErr l S n = 0 → S1.rows = S.rows ∧ S1.log.fin = S.log.fin) ∧ (cmErr l S n = 0 → S1.rows = apAll S.rows l ∧ S1.log.fin = (if n - 122 - S.log.fin < l.length + 1 then 0 else S.log.fin) + l.length + 1)
  m : RStAt w.heap.size wr gm M
  kept : Below w.heap.size w wr
  row : ∃ cs, wr.heap[gx]? = some (.cells cs 42 (0, 0))
structure SsEnd (w wr : World) (g gs gm gx n : Nat) (v : Value) : Prop where
  cell : wr.cell? ⟨gx, 8, none⟩ = some v
  st : ∃ D1 S1 M1, SsSt w wr g gs gm n D1 S1 M1

theorem SsSt.unused {w wr : World} {g gs gm n : Nat} {D : DkM} {S : StM} {M : RSt} {A : Option Addr} {c : Nat} (hq : StQ w.heap.size wr g gs n D S) (hm : RStIn w.heap.size wr gm A c M) (hr : M.rows = S.rows) (hf : S.log.fin = 0) (hmn : M.many = n - 122) (hk : Below w.heap.size w wr) : SsSt w (wr.setCell ⟨gm, 1, none⟩ (.int .i64 0)) g gs gm n D S ⟨M.rows, 0, M.many⟩ := by
  have hs : Step w.heap.size rstTypes wr (wr.setCell ⟨gm, 1, none⟩ (.int .i64 0)) := (Step.refl _ _ _).set hm.row hm.base (by simp [rstTypes]) _
  exact ⟨hq.step hs (by decide) (by decide), ⟨A, c, hm.base, heap_setCell_same _ gm 1 _ _ _ hm.row, own_step hm.rows hs (by decide), hm.small⟩, hr, hf.symm, hmn, hk.trans hs.below⟩
theorem SsSt.commit {w wa w' : World} {g gs gm gx n : Nat} {D : DkM} {S : StM} {M : RSt} {m : ActM} {lc : List Ch} (h : SsSt w wa g gs gm n D S M) (hrow : wa.heap[gx]? = some (.cells (actArr m) 42 (0, 0))) (hc : ChsAt w m.cA lc) (hlc : lc.length = m.cL) (hln : lc.length ≤ 90) (hb : Below wa.heap.size wa w') :
    Calls Try.prog 11 #[.pointer (some ⟨gs, 0, none⟩), .slice m.cA m.cL m.cC] w' fun e w2 => e = .returned (errV (cmErr lc S n)) ∧ Hid (SsMid w w2 g gs gm gx n S M lc (.slice m.cA m.cL m.cC)) := by
  have h1 := h.below hb
  have hr1 := (hb.block _ (Array.getElem?_eq_some_iff.1 hrow).1).trans hrow
  have hcc := commitC w.heap.size gs g n w' S D m.cA m.cC lc h1.q (fun w2 hs => hc.below (h1.kept.trans hs.below)) (by omega)
  rw [hlc] at hcc
  refine hcc.mono ?_
  rintro e w2 ⟨rfl, hs, D1, S1, k1, k2, k3⟩
  obtain ⟨A, c, hM⟩ := h1.m
  rw [← hlc] at k3
  exact ⟨rfl, Lib.hid ⟨cell_of_row _ _ _ _ _ _ (hs.other _ _ _ _ hr1 (by decide)), ⟨D1, S1, k1, k2, k3⟩, ⟨A, c, hM.step hs (by decide) (by decide)⟩, h1.kept.trans hs.below, ⟨_, hs.other _ _ _ _ hr1 (by decide)⟩⟩⟩
theorem SsMid.commit {w w' : World} {g gs gm gx n : Nat} {D : DkM} {S : StM} {M : RSt} {m : ActM} {lc : List Ch} (h : SsMid w w' g gs gm gx n S M lc (.slice m.cA m.cL m.cC)) (hI : StInv D S) (hn : D.now.length = n) (hr : M.rows = S.rows) (hu : M.used = S.log.fin) (hm : M.many = n - 122) (hc : ChsAt w m.cA lc) (hlc : lc.length = m.cL) (hln : lc.length ≤ 90) (hx : 42 ∉ rstTypes) :
    Calls Try.prog 12 #[.pointer (some ⟨gm, 0, none⟩), .slice m.cA m.cL m.cC] w' fun e w2 => e = .returned (.int .i64 (cmErr lc S n)) ∧ Hid (SsEnd w w2 g gs gm gx n (.slice m.cA m.cL m.cC)) := by
  obtain ⟨f1, f2, f3, f4, f5, f6⟩ := hI.on.fin
  have hml := hI.on.len
  have htop := hI.top
  have hcc := rCommit_any w.heap.size gm w' M m.cA m.cC lc h.m h.kept.size (hc.below h.kept) (by omega) (by rw [hr]; exact hml) (by rw [hr]; exact hI.on.mid.1) (by rw [hu, hm, ← hn, ← f2]; exact f5) (by omega) _ rfl
  rw [hlc] at hcc
  refine hcc.mono ?_
  obtain ⟨e1, e2, e3⟩ := rCommit_err (l := lc) hr hm
  rintro e w2 ⟨rfl, k1, k2⟩
  obtain ⟨cs, hrow⟩ := h.row
  obtain ⟨D1, S1, j1, j2, j3⟩ := h.st
  refine ⟨by rw [e1], Lib.hid ⟨?_, D1, S1, (rCommit lc M).1, j1.step k2 (by decide) (by decide), k1, ?_, ?_, ?_, h.kept.trans k2.below⟩⟩
  · have c1 := h.cell
    have r2 := k2.other _ _ _ _ hrow hx
    rw [cell_of_row _ _ _ _ _ _ hrow] at c1
    rw [cell_of_row _ _ _ _ _ _ r2]
    exact c1
  all_goals
    by_cases h0 : cmErr lc S n = 0
    · obtain ⟨q1, q2⟩ := j3 h0
      have z := e3 h0
      generalize (rCommit lc M).1 = Z at *
      subst z
      first
        | exact q1.symm
        | (show _ = S1.log.fin; rw [q2, hu])
        | rfl
    · obtain ⟨q1, q2⟩ := j2 h0
      have z := e2 h0
      generalize (rCommit lc M).1 = Z at *
      subst z
      first
        | (rw [q1]; exact hr)
        | (rw [q2]; exact hu)
        | exact hm

set_option maxHeartbeats 8000000 in
theorem storeSays_walk (x0 : Int) (A2 : Option Addr) (cA2 : Nat) (l : List ActM) (w : World) (hx1 : -9223372036854775808 ≤ x0) (hx2 : x0 ≤ 9223372036854775807) (hA : ActsAt w w.heap.size A2 l) :
    Calls Try.prog 3 #[.int .i64 x0, .slice A2 l.length cA2] w fun e w' => e = .returned (.bool true) ∧ Below w.heap.size w w' := by
  have hml := hA.1
  unfold maxLen at hml
  have HST := Lib.hid (stores_any w)
  have HLI := Lib.hid (fun w' (hb : Below w.heap.size w w') => lightActs2_any A2 l cA2 30 w' (hA.below hb))
  go_enter Try.func3, Try.ntmps3
  go_wp2_with fail
  ((with_reducible refine HST.out.mono ?_); rintro e w1 ⟨rfl, hb1⟩)
  have HL1 := Lib.hid (HLI.out w1 hb1)
  have HB1 := Lib.hid hb1
  clear HST HLI hb1
  go_wp2_with fail
  ((with_reducible refine HL1.out.mono ?_); rintro e w2 ⟨r, rfl, hr, hb2⟩)
  have HB2 := Lib.hid (belowThen HB1.out hb2)
  clear hb2 HB1 HL1
  cases r with
  | false =>
    go_wp2_with fail
    go_ret
    exact ⟨rfl, HB2.out⟩
  | true =>
  obtain ⟨hl30, hLA⟩ := hr rfl
  have HLA := Lib.hid hLA
  clear hr hLA
  have HN := Lib.hid (dkNew_any w2 x0)
  by_cases hx : ¬ (1 ≤ x0 ∧ x0 ≤ 260)
  · have HS1 := Lib.hid (fun w' => show Calls Try.prog 8 #[.iface 64 (.int .i64 1), .int .i64 1] w' fun e w2 => e = .returned (.bool true) ∧ w' = w2 from said_any 1 1 w' (by omega))
    have HN1 := Lib.hid (HN.out.mono (R' := fun e w' => e = .returned (.tuple #[.pointer none, .iface 64 (.int .i64 1)]) ∧ w2 = w') (fun e w' h => by
      unfold DkNew at h
      rw [if_neg hx] at h
      exact h))
    have hc : x0 < 1 ∨ 260 < x0 := by omega
    clear hx HN
    go_wp2_with fail
    ((with_reducible refine HN1.out.mono ?_); rintro e w3 ⟨rfl, rfl⟩)
    clear HN1
    rcases hc with hc | hc
    · go_wp2_with fail
      ((with_reducible refine (HS1.out _).mono ?_); rintro e w4 ⟨rfl, rfl⟩)
      go_wp2_with fail
      go_ret
      exact ⟨rfl, HB2.out⟩
    · have hc2 : ¬ x0 < 1 := by omega
      have hd2 : decide (x0 < 1) = false := by simpa using hc2
      go_wp2_with fail
      ((with_reducible refine (HS1.out _).mono ?_); rintro e w4 ⟨rfl, rfl⟩)
      go_wp2_with fail
      go_ret
      exact ⟨rfl, HB2.out⟩
  obtain ⟨hxa, hxb⟩ : 1 ≤ x0 ∧ x0 ≤ 260 := by simpa using hx
  obtain ⟨n, rfl⟩ := Int.eq_ofNat_of_zero_le (show 0 ≤ x0 by omega)
  have HN1 := Lib.hid (HN.out.mono (R' := fun e w' => ∃ g, e = .returned (.tuple #[.pointer (some ⟨g, 0, none⟩), .nilIface]) ∧ DkAt w2.heap.size w' g (dkNew n) ∧ Below w2.heap.size w2 w') (fun e w' h => by
    unfold DkNew at h
    rw [if_pos (by simpa using hx)] at h
    exact h))
  have c1 : ¬ (n : Int) < 1 := by omega
  have c2 : ¬ 260 < (n : Int) := by omega
  have d1 : decide ((n : Int) < 1) = false := by simpa using c1
  have hn1 : 1 ≤ n := by omega
  have hn2 : n ≤ 260 := by omega
  have hz : (dkNew n).now.length = n := by simp [dkNew]
  clear hx HN hxa hxb hx1 hx2
  go_wp2_with fail
  ((with_reducible refine HN1.out.mono ?_); rintro e w3 ⟨g, rfl, hD, hb3⟩)
  have hB3 := belowThen HB2.out hb3
  have hD3 : DkAt w.heap.size w3 g (dkNew n) := hD.weak HB2.out.size
  have HS4 := Lib.hid (fun w' => show Calls Try.prog 8 #[.iface 64 (.int .i64 4), .int .i64 4] w' fun e w2 => e = .returned (.bool true) ∧ w' = w2 from said_any 4 4 w' (by omega))
  clear HN1 hD hb3 HB2
  by_cases hfew : n < 196
  · have HS8 := Lib.hid (fun w' => show Calls Try.prog 8 #[.iface 64 (.int .i64 8), .int .i64 8] w' fun e w2 => e = .returned (.bool true) ∧ w' = w2 from said_any 8 8 w' (by omega))
    have HOF := Lib.hid (show Calls Try.prog 9 #[.pointer (some ⟨g, 0, none⟩)] w3 (fun e w' => e = .returned (.tuple #[.pointer none, .iface 64 (.int .i64 4)]) ∧ Below w3.heap.size w3 w') from stOpen_few w.heap.size g w3 (dkNew n) hD3 rfl (by omega))
    have HFF := Lib.hid (fun w' (hb : Below w3.heap.size w3 w') => show Calls Try.prog 10 #[.pointer (some ⟨g, 0, none⟩)] w' (fun e w2 => e = .returned (.iface 64 (.int .i64 8)) ∧ Below w'.heap.size w' w2) from format_few w.heap.size g w' (dkNew n) (hD3.below hb) (by omega))
    have cf : (n : Int) < 196 := by omega
    have HB3 := Lib.hid hB3
    clear hD3 hB3 hz hfew
    go_wp2_with fail
    ((with_reducible refine HOF.out.mono ?_); rintro e w4 ⟨rfl, hb4⟩)
    have HFF4 := Lib.hid (HFF.out w4 hb4)
    have HB4 := Lib.hid (belowThen HB3.out hb4)
    clear hb4 HOF HB3 HFF
    go_wp2_with fail
    ((with_reducible refine (HS4.out _).mono ?_); rintro e w5 ⟨rfl, rfl⟩)
    go_wp2_with fail
    ((with_reducible refine HFF4.out.mono ?_); rintro e w6 ⟨rfl, hb6⟩)
    have HB6 := Lib.hid (belowThen HB4.out hb6)
    clear hb6 HFF4 HB4
    go_wp2_with fail
    ((with_reducible refine (HS8.out _).mono ?_); rintro e w7 ⟨rfl, rfl⟩)
    go_wp2_with fail
    go_ret
    exact ⟨rfl, HB6.out⟩
  have cf : ¬ (n : Int) < 196 := by omega
  have HON := Lib.hid (show Calls Try.prog 9 #[.pointer (some ⟨g, 0, none⟩)] w3 (fun e w' => e = .returned (.tuple #[.pointer none, .iface 64 (.int .i64 4)]) ∧ Below w3.heap.size w3 w') from by
    have := stOpen_none w.heap.size g w3 (dkNew n) hD3 hB3.size rfl (by omega) (by rw [new_read (by omega)]; omega)
    rw [new_read (by omega)] at this
    exact this)
  have HFI := Lib.hid (fun w' (hb : Below w3.heap.size w3 w') => formatI w.heap.size g w' (dkNew n) (hD3.below hb) (Nat.le_trans hB3.size hb.size) (quiet_new n) (by omega) (by omega) (by simp [dkNew]))
  have HB3 := Lib.hid hB3
  clear hD3 hB3
  go_wp2_with fail
  ((with_reducible refine HON.out.mono ?_); rintro e w4 ⟨rfl, hb4⟩)
  have HFI4 := Lib.hid (HFI.out w4 hb4)
  have HB4 := Lib.hid (belowThen HB3.out hb4)
  clear hb4 HON HB3 HFI
  go_wp2_with fail
  ((with_reducible refine (HS4.out _).mono ?_); rintro e w5 ⟨rfl, rfl⟩)
  go_wp2_with fail
  ((with_reducible refine HFI4.out.mono ?_); rintro e w6 ⟨rfl, hs6, D, S, hD6, hI6, hq6, hr6, hf6, hl6⟩)
  have HB6 := Lib.hid (HB4.out.trans hs6.below)
  have HO := Lib.hid (stOpenI w.heap.size g w6 D S hD6 HB6.out.size hI6)
  have HP := Lib.hid (show _ ∧ _ ∧ _ ∧ _ ∧ _ ∧ _ from ⟨hD6, hI6, hq6, hr6, hf6, hl6.trans hz⟩)
  clear hs6 HFI4 HB4 hD6 hI6 hq6 hr6 hf6 hl6 HS4
  go_wp2_with fail
  ((with_reducible refine HO.out.mono ?_); rintro e w7 ⟨gs, rfl, hst, hgs, hb7⟩)
  have a1 : IntKind.i64.wrap ((n : Int) - 122) = (n : Int) - 122 := IntWalk.i64_in _ (by omega)
  have hba := (Below.refl w7.heap.size w7).alloc (Nat.le_refl _) (.cells #[.slice none 0 0, .int .i64 0, .int .i64 ((n : Int) - 122)] 38)
  have HSS := Lib.hid (show SsSt w (w7.alloc (.cells #[.slice none 0 0, .int .i64 0, .int .i64 ((n : Int) - 122)] 38)) g gs w7.heap.size n D S ⟨[], 0, n - 122⟩ from by
    obtain ⟨p1, p2, p3, p4, p5, p6⟩ := HP.out
    have hB7 := belowThen HB6.out hb7
    refine ⟨⟨(p1.below hb7).below hba, hst.below hba, p2, p3, p6⟩, ⟨none, 0, hB7.size, ?_, World.ownsRow_nil _ _ _ _, by simp⟩, p4.symm, p5.symm, rfl, belowThen hB7 hba⟩
    rw [heap_alloc_new]
    unfold rstArr
    rw [show ((n - 122 : Nat) : Int) = (n : Int) - 122 by omega]
    rfl)
  clear hst hgs hb7 hba HO HP HB6
  go_upto_block 0 with (fail)
  generalize w7.alloc (.cells #[.slice none 0 0, .int .i64 0, .int .i64 ((n : Int) - 122)] 38) = w8 at *
  generalize w7.heap.size = gm at *
  go_wp2_with fail
  go_loopw [9, 12] (fun s9 i wr => ∃ (k gs : Nat) (D : DkM) (S : StM) (M : RSt), k ≤ l.length ∧ s9 = .pointer (some ⟨gs, 0, none⟩) ∧ i = .int .i64 k ∧ Hid (SsSt w wr g gs gm n D S M)) (fun _ i _ => l.length - (intOf i).toNat)
  case atStart => exact ⟨0, gs, D, S, _, Nat.zero_le _, rfl, rfl, HSS⟩
  case round =>
    obtain ⟨k, gs, D, S, M, hk, rfl, rfl, HS⟩ := hrel
    clear HSS
    by_cases hlt : k < l.length
    · obtain ⟨ga, off, rfl, hact⟩ := (hA.below HS.out.kept).2 k hlt
      obtain ⟨gaW, offW, eW, hactW⟩ := hA.2 k hlt
      have hc := hact.2.1
      have d0 : wr.cell? ⟨ga, off + k * 9, none⟩ = some (.string l[k].kind) := hc 0 (by omega)
      have d1 : wr.cell? ⟨ga, off + k * 9 + 1, none⟩ = some (.string l[k].s) := hc 1 (by omega)
      have d2 : wr.cell? ⟨ga, off + k * 9 + 2, none⟩ = some (.int .i64 l[k].a) := hc 2 (by omega)
      have d3 : wr.cell? ⟨ga, off + k * 9 + 3, none⟩ = some (.int .i64 l[k].b) := hc 3 (by omega)
      have d4 : wr.cell? ⟨ga, off + k * 9 + 4, none⟩ = some (.int .i64 l[k].c) := hc 4 (by omega)
      have d5 : wr.cell? ⟨ga, off + k * 9 + 5, none⟩ = some (.int .i64 l[k].d) := hc 5 (by omega)
      have d6 : wr.cell? ⟨ga, off + k * 9 + 6, none⟩ = some (.int .u64 l[k].k) := hc 6 (by omega)
      have d7 : wr.cell? ⟨ga, off + k * 9 + 7, none⟩ = some (.slice l[k].pA l[k].pL l[k].pC) := hc 7 (by omega)
      have d8 : wr.cell? ⟨ga, off + k * 9 + 8, none⟩ = some (.slice l[k].cA l[k].cL l[k].cC) := hc 8 (by omega)
      have hcw := hactW.2.2.2.1
      have hc90 := (HLA.out _ (List.getElem_mem hlt)).c
      have i0 : (0 : Int) ≤ (k : Int) := by omega
      have i3 : (k : Int) < (l.length : Int) := by omega
      clear hc hact hactW eW
      generalize l[k] = m at *
      obtain ⟨lc, hlc, hcw⟩ := chs_of_changes hcw (Nat.le_refl _)
      have hba := (Below.refl wr.heap.size wr).alloc (Nat.le_refl _) (.cells (actArr m) 42)
      have hx : (wr.alloc (.cells (actArr m) 42)).heap[wr.heap.size]? = some (.cells (actArr m) 42 (0, 0)) := heap_alloc_new _ _
      obtain ⟨gx, hgx⟩ : ∃ gx, wr.heap.size = gx := ⟨_, rfl⟩
      obtain ⟨wa, hwa⟩ : ∃ wa, wr.alloc (.cells (actArr m) 42) = wa := ⟨_, rfl⟩
      rw [hwa] at hba hx
      rw [hgx] at hx
      have HSa := Lib.hid (HS.out.below hba)
      have HROW := Lib.hid hx
      unfold actArr at hwa
      have HWA := Lib.hid hwa
      have HGX := Lib.hid hgx
      have e0 : wa.cell? ⟨gx, 0, none⟩ = some (.string m.kind) := cell_of_row _ _ _ _ _ _ hx
      have CX := Lib.hid (fun w' (hb : Below wa.heap.size wa w') => show w'.cell? ⟨gx, 8, none⟩ = some (.slice m.cA m.cL m.cC) from cell_of_row _ _ _ _ _ _ ((hb.block _ (Array.getElem?_eq_some_iff.1 hx).1).trans hx))
      have HCW := Lib.hid hcw
      have HLC := Lib.hid hlc
      clear hwa hgx hba HS hx hcw hlc
      go_upto_block 2 with (fail)
      rw [HWA.out, HGX.out]
      clear HWA HGX d0 d1 d2 d3 d4 d5 d6 d7 d8
      go_cut [9] (fun s9 wx => ∃ (gs' : Nat) (D' : DkM) (S' : StM) (M' : RSt) (wy : World), wx = wy ∧ s9 = .pointer (some ⟨gs', 0, none⟩) ∧ Hid (SsSt w wy g gs' gm n D' S' M'))
      case first =>
        cases hk0 : (m.kind.toList == [99, 111, 109, 109, 105, 116]) with
        | true =>
          have HC := Lib.hid (fun w' (hb : Below wa.heap.size wa w') => HSa.out.commit HROW.out HCW.out HLC.out (by rw [HLC.out]; exact hc90) hb)
          have HSM := Lib.hid (fun w' => said_any (cmErr lc S n) (cmErr lc S n) w' (cmErr_nonneg _ _ _))
          rw [decide_eq_true rfl] at HSM
          obtain ⟨E, hE⟩ : ∃ E, cmErr lc S n = E := ⟨_, rfl⟩
          have HRC := Lib.hid (fun w' (hm : Hid (SsMid w w' g gs gm gx n S M lc (.slice m.cA m.cL m.cC))) => hm.out.commit HSa.out.q.inv HSa.out.q.len HSa.out.rows HSa.out.used HSa.out.many HCW.out HLC.out (by rw [HLC.out]; exact hc90) (by decide))
          rw [hE] at HC HSM HRC
          clear hE
          go_wp2_with fail
          go_region_held3 (fun w' => w'.cell? ⟨gx, 8, none⟩ = some (.slice m.cA m.cL m.cC)) (first | with_reducible exact hk12 | with_reducible exact hk13 | with_reducible exact CX.out _ (by first | with_reducible exact Below.refl _ _ | with_reducible exact Below.drew (Below.refl _ _)) | fail)
            (first
              | (go_at_call 11; (with_reducible refine (HC.out _ (by first | with_reducible exact Below.refl _ _ | with_reducible exact Below.drew (Below.refl _ _))).mono ?_); rintro e w12 ⟨rfl, hm12⟩; have hk12 := hm12.out.cell)
              | (go_at_call 12; (with_reducible refine (HRC.out _ hm12).mono ?_); rintro e w13 ⟨rfl, hm13⟩; have hk13 := hm13.out.cell)
              | (go_at_call 8; (with_reducible refine (HSM.out _).mono ?_); rintro e w14 ⟨rfl, rfl⟩)
              | fail)
          all_goals
            go_wp2_with fail
            go_meet
            obtain ⟨D1, S1, M1, h9⟩ := hm13.out.st
            exact ⟨_, D1, S1, M1, _, rfl, rfl, Lib.hid h9⟩
        | false =>
          cases hk1 : (m.kind.toList == [115, 97, 118, 101]) with
          | true =>
            have HC := Lib.hid (checkC w.heap.size gs g n wa S D HSa.out.q)
            go_wp2_with fail
            ((with_reducible refine HC.out.mono ?_); rintro e w12 ⟨rfl, hs12, D1, S1, hq1, hr1, hf1⟩)
            obtain ⟨Am, cm, hM0⟩ := HSa.out.m
            have hM1 := hM0.step hs12 (by decide) (by decide)
            have g1 : w12.cell? ⟨gm, 1, none⟩ = some (.int .i64 (M.used : Int)) := cell_of_row _ _ _ _ _ _ hM1.row
            have z1 : w12.frozen? ⟨gm, 1, none⟩ = false := frozen_of_row _ _ _ _ _ hM1.row
            have HU := Lib.hid (SsSt.unused hq1 hM1 (HSa.out.rows.trans hr1.symm) hf1 HSa.out.many (HSa.out.kept.trans hs12.below))
            clear hM0 hM1 hq1 hr1 hf1 hs12 HC
            go_wp2_with fail
            go_meet
            exact ⟨_, _, _, _, _, rfl, rfl, HU⟩
          | false =>
            have HC := Lib.hid (openC w.heap.size gs g n wa S D HSa.out.q HSa.out.kept.size)
            go_wp2_with fail
            ((with_reducible refine HC.out.mono ?_); rintro e w12 ⟨gs2, rfl, hq1, hb12⟩)
            have HU := Lib.hid (show SsSt w w12 g gs2 gm n D S M from ⟨hq1, (HSa.out.below hb12).m, HSa.out.rows, HSa.out.used, HSa.out.many, (HSa.out.below hb12).kept⟩)
            clear hq1 hb12 HC
            go_wp2_with fail
            go_meet
            exact ⟨_, _, _, _, _, rfl, rfl, HU⟩
      case rest =>
        obtain ⟨gs', D', S', M', wy, rfl, rfl, hS⟩ := hcut
        clear CX HROW HSa e0 HCW HLC
        obtain ⟨Am, cm, hM0⟩ := hS.out.m
        have CM := Lib.hid (fun w' (hb : Below wc.heap.size wc w') => show w'.cell? ⟨gm, 0, none⟩ = some (.slice Am S'.rows.length cm) ∧ w'.cell? ⟨gm, 1, none⟩ = some (.int .i64 (S'.log.fin : Int)) ∧ w'.cell? ⟨gm, 2, none⟩ = some (.int .i64 ((n : Int) - 122)) from by
          have r1 := (hM0.below hb).row
          rw [hS.out.rows, hS.out.used, hS.out.many] at r1
          unfold rstArr at r1
          rw [show ((n - 122 : Nat) : Int) = (n : Int) - 122 by omega] at r1
          exact ⟨cell_of_row _ _ _ _ _ _ r1, cell_of_row _ _ _ _ _ _ r1, cell_of_row _ _ _ _ _ _ r1⟩)
        have HRM := Lib.hid (fun w' (hb : Below wc.heap.size wc w') => roomC w.heap.size gs' g n w' S' D' (hS.out.q.below hb))
        have HRW := Lib.hid (fun w' (hb : Below wc.heap.size wc w') => (stRows_any w.heap.size gs' g w' S' (hS.out.q.below hb).st (Nat.le_trans hS.out.q.inv.on.len (by omega))).mono (R' := fun e w2 => ∃ A4 c4, e = .returned (.slice A4 S'.rows.length c4) ∧ Hid (ChsAt w2 A4 S'.rows) ∧ Below w'.heap.size w' w2) (fun e w2 ⟨A4, c4, he, ho, hb4⟩ => ⟨A4, c4, he, Lib.hid (chs_own ho (fun x hx => by have := fine_small (hS.out.q.inv.on.mid.2.1 x hx); unfold maxLen; omega)), hb4⟩))
        have HSC := Lib.hid (fun w' (hb : Below wc.heap.size wc w') A4 c4 (hc4 : Hid (ChsAt w' A4 S'.rows)) => show Calls Try.prog 15 #[.slice A4 S'.rows.length c4, .slice Am S'.rows.length cm] w' fun e w2 => e = .returned (.bool true) ∧ Below w'.heap.size w' w2 from by
          have h0 := (hM0.below hb).chs
          rw [hS.out.rows] at h0
          have := sameChs_any w' A4 Am c4 cm S'.rows S'.rows hc4.out h0 (Nat.le_trans hS.out.q.inv.on.len (by omega))
          rw [decide_eq_true rfl] at this
          exact this)
        have hfl : (S'.log.fin : Int) ≤ 260 := by
          have q1 := hS.out.q.inv.on.fin
          have q2 := hS.out.q.inv.top
          omega
        have a2 : IntKind.i64.wrap ((n : Int) - 122 - (S'.log.fin : Int)) = (n : Int) - 122 - (S'.log.fin : Int) := IntWalk.i64_in _ (by omega)
        have HEND := Lib.hid (fun w' (hb : Below wc.heap.size wc w') => show Hid (SsSt w w' g gs' gm n D' S' M') from Lib.hid (hS.out.below hb))
        clear hM0 hS
        go_wp2_with fail
        go_region_held3 (fun w' => w'.cell? ⟨gm, 0, none⟩ = some (.slice Am S'.rows.length cm) ∧ w'.cell? ⟨gm, 1, none⟩ = some (.int .i64 (S'.log.fin : Int)) ∧ w'.cell? ⟨gm, 2, none⟩ = some (.int .i64 ((n : Int) - 122))) (first | with_reducible exact CM.out _ (by (repeat (first | with_reducible exact Below.refl _ _ | with_reducible refine Below.drew ?_ | with_reducible refine belowThen ?_ hb24 | with_reducible refine belowThen ?_ hb23 | with_reducible refine belowThen ?_ hb22)); (first | done | fail)) | fail)
          (first
            | (go_at_call 14; (with_reducible refine (HRM.out _ (by (repeat (first | with_reducible exact Below.refl _ _ | with_reducible refine Below.drew ?_ | with_reducible refine belowThen ?_ hb24 | with_reducible refine belowThen ?_ hb23 | with_reducible refine belowThen ?_ hb22)); (first | done | fail))).mono ?_); rintro e w22 ⟨rfl, hb22⟩)
            | (go_at_call 16; (with_reducible refine (HRW.out _ (by (repeat (first | with_reducible exact Below.refl _ _ | with_reducible refine Below.drew ?_ | with_reducible refine belowThen ?_ hb24 | with_reducible refine belowThen ?_ hb23 | with_reducible refine belowThen ?_ hb22)); (first | done | fail))).mono ?_); rintro e w23 ⟨A4, c4, rfl, hc23, hb23⟩)
            | (go_at_call 15; (with_reducible refine (HSC.out _ (by (repeat (first | with_reducible exact Below.refl _ _ | with_reducible refine Below.drew ?_ | with_reducible refine belowThen ?_ hb24 | with_reducible refine belowThen ?_ hb23 | with_reducible refine belowThen ?_ hb22)); (first | done | fail)) _ _ hc23).mono ?_); rintro e w24 ⟨rfl, hb24⟩)
            | fail)
        all_goals
          have hE := HEND.out w24 (belowThen (belowThen (by (repeat (first | with_reducible exact Below.refl _ _ | with_reducible refine Below.drew ?_ | with_reducible refine belowThen ?_ hb22)); (first | done | fail)) hb23) hb24)
          go_wp2_with fail
          exact ⟨⟨k + 1, gs', D', S', M', by omega, rfl, by go_num, hE⟩, by simp [intOf]; omega⟩
    · obtain rfl : k = l.length := by omega
      have HB := Lib.hid HS.out.kept
      go_wp2_with fail
      go_ret
      exact ⟨rfl, HB.out⟩
end Go.Proofs.Ythhedahfmllnoaa
