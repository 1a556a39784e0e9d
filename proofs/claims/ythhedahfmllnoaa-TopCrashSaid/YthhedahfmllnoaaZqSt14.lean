/- The store: Commit. -/
import Derived.Test.YthhedahfmllnoaaZqSt13
namespace Go.Proofs.Ythhedahfmllnoaa
open Go.RowKit

/-- The log's part of a commit. -/
def stAdd (l : List Ch) (R : StM × DkM) : StM × DkM × Int :=
  if (lgAdd l R.1.log R.2).2.2 = 0 then (⟨R.1.head, (lgAdd l R.1.log R.2).1, apAll R.1.rows l⟩, (lgAdd l R.1.log R.2).2.1, 0)
  else (⟨R.1.head, (lgAdd l R.1.log R.2).1, R.1.rows⟩, (lgAdd l R.1.log R.2).2.1, (lgAdd l R.1.log R.2).2.2)
/-- What a commit leaves, and its error. -/
def stCommit (l : List Ch) (S : StM) (D : DkM) : StM × DkM × Int :=
  if 72 < l.length then (S, D, 2)
  else if ¬ chsErr l = 0 then (S, D, chsErr l)
  else if 80 < (apAll S.rows l).length ∨ D.now.length - 122 < l.length + 1 then (S, D, 8)
  else if ¬ S.log.many - S.log.fin < l.length + 1 then stAdd l (S, D)
  else if ¬ (stCheck S D).2.2 = 0 then stCheck S D
  else stAdd l ((stCheck S D).1, (stCheck S D).2.1)

theorem chsErr_small : ∀ {l : List Ch}, chsErr l = 0 → ∀ x ∈ l, chErr x = 0
  | c :: l, h, x, hx => by
    unfold chsErr at h
    by_cases h0 : chErr c = 0
    · rw [if_pos h0] at h
      rcases List.mem_cons.1 hx with rfl | hx
      · exact h0
      · exact chsErr_small h x hx
    · rw [if_neg h0] at h; exact absurd h h0
theorem chErr_sizes {c : Ch} (h : chErr c = 0) : c.key.size ≤ 8 ∧ c.val.size ≤ 48 := by
  unfold chErr at h
  split at h
  · omega
  · split at h
    · omega
    · omega

structure CmIn (B : Nat) (w wr : World) (gs g : Nat) (S : StM) (D : DkM) : Prop where
  st : StAt B wr gs g S
  dk : DkAt B wr g D
  step : Step B stTypes w wr
theorem CmIn.up {B : Nat} {w wr w2 : World} {gs g : Nat} {S : StM} {D : DkM} (h : CmIn B w wr gs g S D) (hb : Below wr.heap.size wr w2) (hB : B ≤ w.heap.size) : CmIn B w w2 gs g S D :=
  ⟨h.st.below hb, h.dk.below hb, h.step.trans (Step.of_below hb (Nat.le_trans hB h.step.size))⟩

theorem stCommit_rest {l : List Ch} {S : StM} {D : DkM} (h1 : ¬ 72 < l.length) (h2 : chsErr l = 0) (h3 : ¬ (80 < (apAll S.rows l).length ∨ D.now.length - 122 < l.length + 1)) : stCommit l S D = (if ¬ S.log.many - S.log.fin < l.length + 1 then stAdd l (S, D) else if ¬ (stCheck S D).2.2 = 0 then stCheck S D else stAdd l ((stCheck S D).1, (stCheck S D).2.1)) := by
  unfold stCommit
  rw [if_neg h1, if_neg (by simp [h2]), if_neg h3]
/-- Before the log's part of a commit. -/
structure CmMid (B : Nat) (w wr : World) (gs g : Nat) (S S1 : StM) (D D1 : DkM) (l : List Ch) (A2 : Option Addr) (c2 : Nat) (M : List Ch) (R : StM × DkM × Int) : Prop where
  cm : CmIn B w wr gs g S1 D1
  own : wr.ownsRow B 60 3 (.slice A2 M.length c2) M.length (chCells M)
  res : stAdd l (S1, D1) = R
  rows : S1.rows = S.rows
  log : S1.log = stLog D.now.length S1.head S1.log.fin
  fin : S1.log.fin ≤ S1.log.many
  half : S1.head.log ≤ 1
  len : D1.now.length = D.now.length
  wr : D1.wr.length ≤ 50000

theorem lgRead_end (first : Nat) : ∀ (r : List ByteArray) (k : Nat) (cs : List Ch) (es : List (List Ch)) (e : Nat), e ≤ k + r.length → (lgRead first r k cs es e).2 ≤ k + r.length
  | [], _, _, _, _, h => by simpa [lgRead] using h
  | s :: r, k, cs, es, e, h => by
    rw [lgRead]
    simp only [List.length_cons] at h ⊢
    split
    · have := lgRead_end first r (k + 1) (cs ++ [parseC (ctBody (first + k) s)]) es e (by omega)
      omega
    · split
      · have := lgRead_end first r (k + 1) [] (es ++ [cs]) (k + 1) (by omega)
        omega
      · exact h
theorem stFin_le (D : DkM) (h : Hd) : stFin D h ≤ D.now.length - 122 := by
  unfold stFin
  have := lgRead_end (1 + h.log) (lgTexts D (stLog D.now.length h 0)) 0 [] [] 0 (by omega)
  have hl : (lgTexts D (stLog D.now.length h 0)).length = D.now.length - 122 := by simp [lgTexts, stLog]
  omega
theorem hdWrite_up {D : DkM} {h : Hd} {rows : List Ch} (hz : (hdWrite D h rows).2 = 0) : (hdWrite D h rows).1.down = false ∧ (hdWrite D h rows).1.dur = (hdWrite D h rows).1.now ∧ (hdWrite D h rows).1.wr = [] := by
  unfold hdWrite at hz ⊢
  exact hdWr2_up hz
set_option maxRecDepth 100000 in
theorem stCheck_mid {B : Nat} {w wz : World} {gs g : Nat} {S : StM} {D : DkM} {l : List Ch} {A2 : Option Addr} {c2 : Nat} {M : List Ch} {R Y : StM × DkM × Int} (hY : stCheck S D = Y) (hz : Y.2.2 = 0) (hlog : S.head.log ≤ 1) (hr : S.rows.length ≤ 80) (hst : Step B stTypes w wz) (h1 : StAt B wz gs g Y.1) (h2 : DkAt B wz g Y.2.1)
    (ho : wz.ownsRow B 60 3 (.slice A2 M.length c2) M.length (chCells M)) (hRR : stAdd l (Y.1, Y.2.1) = R) : CmMid B w wz gs g S Y.1 D Y.2.1 l A2 c2 M R := by
  have hl := hdWrite_len D (stHead S) S.rows
  unfold stCheck at hY
  by_cases h0 : (hdWrite D (stHead S) S.rows).2 = 0
  · rw [if_pos h0] at hY
    have hu := (hdWrite_up h0).2.2
    generalize (hdWrite D (stHead S) S.rows).1 = X at *
    subst hY
    refine ⟨⟨h1, h2, hst⟩, ho, hRR, rfl, rfl, ?_, (hdNext_small hlog hr).2.2.1, hl, ?_⟩
    · show stFin X (stHead S) ≤ D.now.length - 122
      rw [← hl]
      exact stFin_le _ _
    · show X.wr.length ≤ 50000
      rw [hu]; simp
  · rw [if_neg h0] at hY
    subst hY
    exact absurd hz h0

set_option maxHeartbeats 8000000 in
set_option maxRecDepth 100000 in
theorem stCommit_any (B gs g : Nat) (w : World) (S : StM) (D : DkM) (A : Option Addr) (cA : Nat) (l : List Ch) (hS : StAt B w gs g S) (hD : DkAt B w g D) (hl : ∀ w', Step B stTypes w w' → ChsAt w' A l) (hln : l.length ≤ 900)
    (h0 : S.head.slot ≤ 1) (h1 : S.head.turn ≤ 3) (h2 : S.head.log ≤ 1) (hr : S.rows.length ≤ 80) (hrs : SortedCh S.rows) (hlog : S.log = stLog D.now.length S.head S.log.fin) (hf : S.log.fin ≤ S.log.many) (hn : 123 ≤ D.now.length) (hwr : D.wr.length ≤ 50000) (R : StM × DkM × Int) (hR : stCommit l S D = R) :
    Calls Try.prog 11 #[.pointer (some ⟨gs, 0, none⟩), .slice A l.length cA] w fun e w' => e = .returned (errV R.2.2) ∧ StAt B w' gs g R.1 ∧ DkAt B w' g R.2.1 ∧ Step B stTypes w w' := by
  have hfew : D.now.length ≤ 260 := by obtain ⟨ho, _⟩ := hD; exact ho.few
  have hBw : B ≤ w.heap.size := by obtain ⟨gl, A, c, hI⟩ := hS; exact Nat.le_trans hI.base (Nat.le_of_lt (Array.getElem?_eq_some_iff.1 hI.row).1)
  have hI0 : CmIn B w w gs g S D := ⟨hS, hD, Step.refl _ _ _⟩
  have hlm : S.log.many = D.now.length - 122 := by rw [hlog]; rfl
  have HRT := Lib.hid (fun w' (E : Int) (h : CmIn B w w' gs g S D) (hE : (S, D, E) = R) => show Ending.returned (errV E) = .returned (errV R.2.2) ∧ StAt B w' gs g R.1 ∧ DkAt B w' g R.2.1 ∧ Step B stTypes w w' from by subst hE; exact ⟨rfl, h.st, h.dk, h.step⟩)
  have HR := Lib.hid hR
  by_cases h72 : 72 < l.length
  · have hRR : (S, D, (2 : Int)) = R := by rw [← hR]; unfold stCommit; rw [if_pos h72]
    have HF := Lib.hid (HRT.out w 2 hI0 hRR)
    have i72 : (72 : Int) < (l.length : Int) := by omega
    clear hRR hR HRT hI0 h72
    go_enter Try.func11, Try.ntmps11
    go_wp2_with fail
    go_ret
    exact HF.out
  have i72 : ¬ (72 : Int) < (l.length : Int) := by omega
  have HI0 := Lib.hid hI0
  have HL := Lib.hid hl
  have HP := Lib.hid (show _ ∧ _ ∧ _ ∧ _ ∧ _ ∧ _ ∧ _ ∧ _ ∧ _ ∧ _ from ⟨h0, h1, h2, hr, hrs, hlog, hf, hn, hwr, hfew⟩)
  have H72 := Lib.hid h72
  clear hR hI0 h72 hl h0 h1 h2 hr hrs hlog hf hn hwr hS hD hfew hlm
  go_enter Try.func11, Try.ntmps11
  go_wp2_with fail
  go_loopw [17] (fun i wr => ∃ k : Nat, k ≤ l.length ∧ i = .int .i64 k ∧ Hid (chsErr (l.drop k) = chsErr l) ∧ Hid (CmIn B w wr gs g S D)) (fun i _ => l.length - (intOf i).toNat)
  case atStart => exact ⟨0, Nat.zero_le _, rfl, Lib.hid rfl, HI0⟩
  case round =>
    obtain ⟨k, hk, rfl, hce, hI⟩ := hrel
    clear HI0
    by_cases hlt : k < l.length
    · obtain ⟨b, off, rfl, hblt, d0, d1, d2, s1, s2⟩ := (HL.out wr hI.out.step) k hlt
      have HCK := Lib.hid (fun w' => check_any l[k] w' s1 s2)
      have HCE := Lib.hid (show (if chErr l[k] = 0 then chsErr (l.drop (k + 1)) else chErr l[k]) = chsErr l from by rw [← chsErr_drop l k hlt]; exact hce.out)
      have i1 : (k : Int) < (l.length : Int) := by omega
      have i0 : (0 : Int) ≤ (k : Int) := by omega
      clear s1 s2 hce
      generalize l[k] = c at *
      have HUP := Lib.hid (fun w' (hb : Below (wr.alloc (.cells #[.string c.key, .string c.val, .bool c.gone] 60)).heap.size (wr.alloc (.cells #[.string c.key, .string c.val, .bool c.gone] 60)) w') => show Hid (CmIn B w w' gs g S D) from Lib.hid (hI.out.up (belowThen ((Below.refl _ _).alloc (Nat.le_refl _) _) hb) hBw))
      by_cases hc0 : chErr c = 0
      · have hce := HCE.out
        rw [if_pos hc0] at hce
        have HCE2 := Lib.hid hce
        rw [hc0, show errV 0 = .nilIface from rfl] at HCK
        clear hce HCE hc0 hblt
        obtain ⟨key, val, gone⟩ := c
        simp only [] at d0 d1 d2 HCK HUP
        go_wp2_with fail
        ((with_reducible refine (HCK.out _).mono ?_); rintro e w7 ⟨rfl, hb7⟩)
        have hI7 := HUP.out _ hb7
        clear HUP hb7 HCK
        go_wp2_with fail
        go_roundw
        case rel => exact ⟨k + 1, by omega, by go_num, HCE2, hI7⟩
        case measure => simp [intOf]; omega
      · have hce := HCE.out
        rw [if_neg hc0] at hce
        have hRR : (S, D, chErr c) = R := by
          rw [← HR.out]
          unfold stCommit
          rw [if_neg H72.out, if_pos (by rw [← hce]; exact hc0), hce]
        have HRR := Lib.hid hRR
        have hv : errV (chErr c) = .iface 64 (.int .i64 (chErr c)) := by unfold errV; rw [if_neg hc0]
        have HV := Lib.hid hv
        rw [hv] at HCK
        clear hce HCE hc0 hblt hRR hv
        obtain ⟨X, hX⟩ : ∃ X, chErr c = X := ⟨_, rfl⟩
        rw [hX] at HCK HV HRR
        clear hX
        obtain ⟨key, val, gone⟩ := c
        simp only [] at d0 d1 d2 HCK HUP
        go_wp2_with fail
        ((with_reducible refine (HCK.out _).mono ?_); rintro e w7 ⟨rfl, hb7⟩)
        have hI7 := HUP.out _ hb7
        have HF := Lib.hid (HRT.out w7 X hI7.out HRR.out)
        rw [HV.out] at HF
        clear HUP hb7 HCK
        go_wp2_with fail
        go_ret
        exact HF.out
    · obtain rfl : k = l.length := by omega
      have hz0 : chsErr l = 0 := by rw [← hce.out, List.drop_length]; rfl
      have HZ0 := Lib.hid hz0
      clear hz0 hce
      obtain ⟨gl, A0, c0, hIn⟩ := id hI.out.st
      have d6 : wr.cell? ⟨gs, 6, none⟩ = some (.slice A0 S.rows.length c0) := cell_of_row _ _ _ _ _ _ hIn.row
      have HA := Lib.hid (apply_any wr A0 c0 S.rows A cA l hIn.chs hIn.none (HL.out wr hI.out.step) (by have := HP.out; omega) (by omega) HP.out.2.2.2.2.1)
      clear hIn
      obtain ⟨M, hM⟩ : ∃ M, apAll S.rows l = M := ⟨_, rfl⟩
      unfold ApplyRet at HA
      rw [hM] at HA
      have HM := Lib.hid hM
      have hMl : M.length ≤ 1000 := by
        have := apAll_len l S.rows
        rw [hM] at this
        have := HP.out
        omega
      clear hM hk hlt i72
      go_wp2_with fail
      ((with_reducible refine HA.out.mono ?_); rintro e w2 ⟨A2, c2, rfl, ho2, hb2⟩)
      have hI2 := hI.out.up hb2 hBw
      have hBw2 := Nat.le_trans hBw hI.out.step.size
      clear d6 HA hI hb2
      by_cases h80 : 80 < M.length
      · have hRR : (S, D, (8 : Int)) = R := by
          rw [← HR.out]
          unfold stCommit
          rw [if_neg H72.out, if_neg (by rw [HZ0.out]; simp), if_pos (.inl (by rw [HM.out]; exact h80))]
        have i80 : (80 : Int) < (M.length : Int) := by omega
        have HF := Lib.hid (HRT.out w2 8 hI2 hRR)
        clear hI2 hRR ho2
        go_wp2_with fail
        go_ret
        exact HF.out
      have i80 : ¬ (80 : Int) < (M.length : Int) := by omega
      have HSZ := Lib.hid (logSectors_any B g w2 D hI2.dk)
      obtain ⟨gl2, A02, c02, hIn2⟩ := id hI2.st
      have d0 : w2.cell? ⟨gs, 0, none⟩ = some (.pointer (some ⟨g, 0, none⟩)) := cell_of_row _ _ _ _ _ _ hIn2.row
      clear hIn2
      have HI2 := Lib.hid hI2
      have HO2 := Lib.hid ho2
      have a1 : IntKind.i64.wrap ((l.length : Int) + 1) = (l.length : Int) + 1 := IntWalk.i64_in _ (by omega)
      clear hI2 ho2
      go_wp2_with fail
      ((with_reducible refine HSZ.out.mono ?_); rintro e w3 ⟨rfl, hb3⟩)
      have hI3 := HI2.out.up hb3 hBw
      have hO3 := own_below HO2.out hb3
      clear d0 HSZ HI2 HO2 hb3
      by_cases hfull : D.now.length - 122 < l.length + 1
      · have hRR : (S, D, (8 : Int)) = R := by
          rw [← HR.out]
          unfold stCommit
          rw [if_neg H72.out, if_neg (by rw [HZ0.out]; simp), if_pos (.inr hfull)]
        have ifull : (D.now.length : Int) - 122 < (l.length : Int) + 1 := by omega
        have HF := Lib.hid (HRT.out w3 8 hI3 hRR)
        clear hI3 hRR hO3
        go_wp2_with fail
        go_ret
        exact HF.out
      have ifull : ¬ (D.now.length : Int) - 122 < (l.length : Int) + 1 := by have := HP.out; omega
      have hRR := (stCommit_rest (S := S) H72.out HZ0.out (by rw [HM.out]; omega : ¬ (80 < (apAll S.rows l).length ∨ D.now.length - 122 < l.length + 1))).symm.trans HR.out
      have HI3 := Lib.hid hI3
      have HO3 := Lib.hid (own_weak hO3 hBw2)
      have HRR := Lib.hid hRR
      clear hI3 hO3 hRR hfull
      have HRM := Lib.hid (stRoom_any B gs g w3 S HI3.out.st (by have := HP.out; rw [this.2.2.2.2.2.1]; show D.now.length - 122 ≤ _; omega) (by have := HP.out; have h6 := this.2.2.2.2.2.2.1; rw [this.2.2.2.2.2.1] at h6; have h7 : S.log.fin ≤ D.now.length - 122 := h6; omega))
      have hmn : S.log.many = D.now.length - 122 := by have := HP.out; rw [this.2.2.2.2.2.1]; rfl
      have hfm : S.log.fin ≤ S.log.many := HP.out.2.2.2.2.2.2.1
      by_cases hroom : S.log.many - S.log.fin < l.length + 1
      · have ir : (S.log.many : Int) - (S.log.fin : Int) < (l.length : Int) + 1 := by omega
        have hRR := HRR.out
        rw [if_neg (by simpa using hroom)] at hRR
        clear hroom hmn hfm HRR
        go_wp2_with fail
        ((with_reducible refine HRM.out.mono ?_); rintro e w4 ⟨rfl, hb4⟩)
        have hI4 := HI3.out.up hb4 hBw
        have hO4 := own_below HO3.out hb4
        have HCK := Lib.hid (stCheck_any B gs g w4 S D hI4.st hI4.dk HP.out.1 HP.out.2.1 HP.out.2.2.1 HP.out.2.2.2.1 (by have := HP.out; rw [this.2.2.2.2.2.1]; rfl) HP.out.2.2.2.2.2.2.1 HP.out.2.2.2.2.2.2.2.1 (by have := HP.out; omega) _ rfl)
        have HI4 := Lib.hid hI4.step
        have HO4 := Lib.hid hO4
        clear hI4 hO4 hb4 HI3 HO3 HRM
        obtain ⟨Y, hY⟩ : ∃ Y, stCheck S D = Y := ⟨_, rfl⟩
        have HY := Lib.hid hY
        rw [hY] at HCK hRR
        clear hY
        by_cases hz : Y.2.2 = 0
        · rw [if_neg (by simpa using hz)] at hRR
          have HMK := Lib.hid (show ∀ wz, StAt B wz gs g Y.1 → DkAt B wz g Y.2.1 → Step B stTypes w4 wz → Hid (CmMid B w wz gs g S Y.1 D Y.2.1 l A2 c2 M R) from fun wz h1 h2 h3 => Lib.hid (stCheck_mid HY.out hz HP.out.2.2.1 HP.out.2.2.2.1 (HI4.out.trans h3) h1 h2 (own_step HO4.out h3 (by decide)) hRR))
          rw [hz, show errV 0 = .nilIface from rfl] at HCK
          obtain ⟨S1, hS1⟩ : ∃ S1, Y.1 = S1 := ⟨_, rfl⟩
          obtain ⟨D1, hD1⟩ : ∃ D1, Y.2.1 = D1 := ⟨_, rfl⟩
          rw [hS1, hD1] at HMK HCK
          clear hz hRR hS1 hD1 HY
          go_wp2_with fail
          ((with_reducible refine HCK.out.mono ?_); rintro e wz ⟨rfl, hq1, hq2, hq3⟩)
          have HM1 := HMK.out wz hq1 hq2 hq3
          clear hq1 hq2 hq3 HMK HCK HI4 HO4
          have hM1 := HM1.out
          obtain ⟨gl1, A1, c1, hIn⟩ := id hM1.cm.st
          have d5 : wz.cell? ⟨gs, 5, none⟩ = some (.pointer (some ⟨gl1, 0, none⟩)) := cell_of_row _ _ _ _ _ _ hIn.row
          have hP := HP.out
          have HADD := Lib.hid (logAdd_any B gl1 g wz D1 S1.log A cA l hIn.log hM1.cm.dk (HL.out wz hM1.cm.step) (by omega) hM1.wr (by rw [hM1.log]; show 122 ≤ 1000; omega) (by rw [hM1.log]; show D.now.length - 122 ≤ 1000; omega) hM1.fin (by rw [hM1.log]; show 1 + S1.head.log ≤ 10000000; have := hM1.half; omega))
          obtain ⟨X, hX⟩ : ∃ X, lgAdd l S1.log D1 = X := ⟨_, rfl⟩
          have hres := hM1.res
          unfold stAdd at hres
          rw [show (S1, D1).1 = S1 from rfl, show (S1, D1).2 = D1 from rfl, hX, hM1.rows, HM.out] at hres
          unfold AddRet at HADD
          rw [hX] at HADD
          have HMS := Lib.hid (show ∀ x ∈ M, x.key.size ≤ 200 ∧ x.val.size ≤ 200 from fun x hx => by
            rw [← HM.out] at hx
            rcases apAll_mem hx with hx | hx
            · exact hIn.small x (by rw [hM1.rows]; exact hx)
            · have := chErr_sizes (chsErr_small HZ0.out x hx); omega)
          have HIN := Lib.hid hIn
          have HRW := Lib.hid hM1.rows
          clear hIn hX hP hM1
          by_cases hz : X.2.2 = 0
          · rw [if_pos hz] at hres
            rw [hz, show errV 0 = .nilIface from rfl] at HADD
            clear hz
            go_wp2_with fail
            ((with_reducible refine HADD.out.mono ?_); rintro e w6 ⟨rfl, hl6, hd6, hs6⟩)
            have hrow := hs6.other _ _ _ _ HIN.out.row (by decide)
            have e6 : w6.cell? ⟨gs, 6, none⟩ = some (.slice A1 S1.rows.length c1) := cell_of_row _ _ _ _ _ _ hrow
            have g6 : w6.frozen? ⟨gs, 6, none⟩ = false := frozen_of_row _ _ _ _ _ hrow
            have HFIN := Lib.hid (show Ending.returned Value.nilIface = .returned (errV R.2.2) ∧ StAt B (w6.setCell ⟨gs, 6, none⟩ (.slice A2 M.length c2)) gs g R.1 ∧ DkAt B (w6.setCell ⟨gs, 6, none⟩ (.slice A2 M.length c2)) g R.2.1 ∧ Step B stTypes w (w6.setCell ⟨gs, 6, none⟩ (.slice A2 M.length c2)) from by
              subst hres
              have hs7 : Step B [77] w6 (w6.setCell ⟨gs, 6, none⟩ (.slice A2 M.length c2)) := (Step.refl B _ w6).set hrow HIN.out.base (by simp) _
              refine ⟨rfl, ⟨gl1, A2, c2, HIN.out.base, heap_setCell_same _ gs 6 _ _ _ hrow, hl6.step hs7 (by decide), own_step (own_step HM1.out.own hs6 (by decide)) hs7 (by decide), HMS.out⟩, hd6.step hs7 (by decide) (by decide) (by decide), (HM1.out.cm.step.trans (hs6.mono (Nat.le_refl _) (fun t ht => List.mem_cons_of_mem _ ht))).trans (hs7.mono (Nat.le_refl _) (by decide))⟩)
            clear hrow hl6 hd6 hs6 HADD d5 hres
            go_wp2_with fail
            go_ret
            exact HFIN.out
          · rw [if_neg hz] at hres
            have hv : errV X.2.2 = .iface 64 (.int .i64 X.2.2) := by unfold errV; rw [if_neg hz]
            have HV := Lib.hid hv
            rw [hv] at HADD
            clear hz hv
            go_wp2_with fail
            ((with_reducible refine HADD.out.mono ?_); rintro e w6 ⟨rfl, hl6, hd6, hs6⟩)
            have hrow := hs6.other _ _ _ _ HIN.out.row (by decide)
            have HFIN := Lib.hid (show Ending.returned (.iface 64 (.int .i64 X.2.2)) = .returned (errV R.2.2) ∧ StAt B w6 gs g R.1 ∧ DkAt B w6 g R.2.1 ∧ Step B stTypes w w6 from by
              subst hres
              refine ⟨by rw [← HV.out], ⟨gl1, A1, c1, HIN.out.base, by rw [← HRW.out]; exact hrow, hl6, by rw [← HRW.out]; exact own_step HIN.out.rows hs6 (by decide), by rw [← HRW.out]; exact HIN.out.small⟩, hd6, HM1.out.cm.step.trans (hs6.mono (Nat.le_refl _) (fun t ht => List.mem_cons_of_mem _ ht))⟩)
            clear hrow hl6 hd6 hs6 HADD d5 hres
            go_wp2_with fail
            go_ret
            exact HFIN.out
        · rw [if_pos hz] at hRR
          have hv : errV Y.2.2 = .iface 64 (.int .i64 Y.2.2) := by unfold errV; rw [if_neg hz]
          have HV := Lib.hid hv
          rw [hv] at HCK
          clear hz hv HY
          go_wp2_with fail
          ((with_reducible refine HCK.out.mono ?_); rintro e w6 ⟨rfl, hq1, hq2, hq3⟩)
          have HFIN := Lib.hid (show Ending.returned (.iface 64 (.int .i64 Y.2.2)) = .returned (errV R.2.2) ∧ StAt B w6 gs g R.1 ∧ DkAt B w6 g R.2.1 ∧ Step B stTypes w w6 from by
            subst hRR
            exact ⟨by rw [← HV.out], hq1, hq2, HI4.out.trans hq3⟩)
          clear hRR hq1 hq2 hq3 HCK HI4 HO4
          go_wp2_with fail
          go_ret
          exact HFIN.out
      · have ir : ¬ (S.log.many : Int) - (S.log.fin : Int) < (l.length : Int) + 1 := by omega
        have hRR := HRR.out
        rw [if_pos hroom] at hRR
        have HR2 := Lib.hid hRR
        clear hroom hRR hmn hfm HRR
        go_wp2_with fail
        ((with_reducible refine HRM.out.mono ?_); rintro e wz ⟨rfl, hb4⟩)
        have hI4 := HI3.out.up hb4 hBw
        have hO4 := own_below HO3.out hb4
        have hMID : ∃ S1 D1, Hid (CmMid B w wz gs g S S1 D D1 l A2 c2 M R) := ⟨S, D, Lib.hid ⟨hI4, hO4, HR2.out, rfl, by have := HP.out; exact this.2.2.2.2.2.1, HP.out.2.2.2.2.2.2.1, HP.out.2.2.1, rfl, by have := HP.out; omega⟩⟩
        clear hI4 hO4 hb4 HI3 HO3 HRM HR2
        obtain ⟨S1, D1, HM1⟩ := hMID
        have hM1 := HM1.out
        obtain ⟨gl1, A1, c1, hIn⟩ := id hM1.cm.st
        have d5 : wz.cell? ⟨gs, 5, none⟩ = some (.pointer (some ⟨gl1, 0, none⟩)) := cell_of_row _ _ _ _ _ _ hIn.row
        have hP := HP.out
        have HADD := Lib.hid (logAdd_any B gl1 g wz D1 S1.log A cA l hIn.log hM1.cm.dk (HL.out wz hM1.cm.step) (by omega) hM1.wr (by rw [hM1.log]; show 122 ≤ 1000; omega) (by rw [hM1.log]; show D.now.length - 122 ≤ 1000; omega) hM1.fin (by rw [hM1.log]; show 1 + S1.head.log ≤ 10000000; have := hM1.half; omega))
        obtain ⟨X, hX⟩ : ∃ X, lgAdd l S1.log D1 = X := ⟨_, rfl⟩
        have hres := hM1.res
        unfold stAdd at hres
        rw [show (S1, D1).1 = S1 from rfl, show (S1, D1).2 = D1 from rfl, hX, hM1.rows, HM.out] at hres
        unfold AddRet at HADD
        rw [hX] at HADD
        have HMS := Lib.hid (show ∀ x ∈ M, x.key.size ≤ 200 ∧ x.val.size ≤ 200 from fun x hx => by
          rw [← HM.out] at hx
          rcases apAll_mem hx with hx | hx
          · exact hIn.small x (by rw [hM1.rows]; exact hx)
          · have := chErr_sizes (chsErr_small HZ0.out x hx); omega)
        have HIN := Lib.hid hIn
        have HRW := Lib.hid hM1.rows
        clear hIn hX hP hM1
        by_cases hz : X.2.2 = 0
        · rw [if_pos hz] at hres
          rw [hz, show errV 0 = .nilIface from rfl] at HADD
          clear hz
          go_wp2_with fail
          ((with_reducible refine HADD.out.mono ?_); rintro e w6 ⟨rfl, hl6, hd6, hs6⟩)
          have hrow := hs6.other _ _ _ _ HIN.out.row (by decide)
          have e6 : w6.cell? ⟨gs, 6, none⟩ = some (.slice A1 S1.rows.length c1) := cell_of_row _ _ _ _ _ _ hrow
          have g6 : w6.frozen? ⟨gs, 6, none⟩ = false := frozen_of_row _ _ _ _ _ hrow
          have HFIN := Lib.hid (show Ending.returned Value.nilIface = .returned (errV R.2.2) ∧ StAt B (w6.setCell ⟨gs, 6, none⟩ (.slice A2 M.length c2)) gs g R.1 ∧ DkAt B (w6.setCell ⟨gs, 6, none⟩ (.slice A2 M.length c2)) g R.2.1 ∧ Step B stTypes w (w6.setCell ⟨gs, 6, none⟩ (.slice A2 M.length c2)) from by
            subst hres
            have hs7 : Step B [77] w6 (w6.setCell ⟨gs, 6, none⟩ (.slice A2 M.length c2)) := (Step.refl B _ w6).set hrow HIN.out.base (by simp) _
            refine ⟨rfl, ⟨gl1, A2, c2, HIN.out.base, heap_setCell_same _ gs 6 _ _ _ hrow, hl6.step hs7 (by decide), own_step (own_step HM1.out.own hs6 (by decide)) hs7 (by decide), HMS.out⟩, hd6.step hs7 (by decide) (by decide) (by decide), (HM1.out.cm.step.trans (hs6.mono (Nat.le_refl _) (fun t ht => List.mem_cons_of_mem _ ht))).trans (hs7.mono (Nat.le_refl _) (by decide))⟩)
          clear hrow hl6 hd6 hs6 HADD d5 hres
          go_wp2_with fail
          go_ret
          exact HFIN.out
        · rw [if_neg hz] at hres
          have hv : errV X.2.2 = .iface 64 (.int .i64 X.2.2) := by unfold errV; rw [if_neg hz]
          have HV := Lib.hid hv
          rw [hv] at HADD
          clear hz hv
          go_wp2_with fail
          ((with_reducible refine HADD.out.mono ?_); rintro e w6 ⟨rfl, hl6, hd6, hs6⟩)
          have hrow := hs6.other _ _ _ _ HIN.out.row (by decide)
          have HFIN := Lib.hid (show Ending.returned (.iface 64 (.int .i64 X.2.2)) = .returned (errV R.2.2) ∧ StAt B w6 gs g R.1 ∧ DkAt B w6 g R.2.1 ∧ Step B stTypes w w6 from by
            subst hres
            refine ⟨by rw [← HV.out], ⟨gl1, A1, c1, HIN.out.base, by rw [← HRW.out]; exact hrow, hl6, by rw [← HRW.out]; exact own_step HIN.out.rows hs6 (by decide), by rw [← HRW.out]; exact HIN.out.small⟩, hd6, HM1.out.cm.step.trans (hs6.mono (Nat.le_refl _) (fun t ht => List.mem_cons_of_mem _ ht))⟩)
          clear hrow hl6 hd6 hs6 HADD d5 hres
          go_wp2_with fail
          go_ret
          exact HFIN.out
end Go.Proofs.Ythhedahfmllnoaa
