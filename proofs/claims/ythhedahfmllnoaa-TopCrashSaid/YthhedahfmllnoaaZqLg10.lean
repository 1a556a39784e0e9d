/- Package log: Add. -/
import Derived.Test.YthhedahfmllnoaaZqLg9
namespace Go.Proofs.Ythhedahfmllnoaa
open Go.RowKit Go.PlainAid
attribute [local go_sem ↓] Go.wp_at_zero Go.wp_at_succ

/-- The sectors of an entry. -/
def entSecs (L : LgM) (l : List Ch) : List ByteArray := secsOf (L.first + L.fin) l ++ [secB (L.first + L.fin + l.length) 99 ⟨(lit l.length 4).toArray⟩]
theorem entSecs_length (L : LgM) (l : List Ch) : (entSecs L l).length = l.length + 1 := by simp [entSecs, secsOf_length]
theorem secB_size (n : Nat) (k : UInt8) (c : ByteArray) : (secB n k c).size = 7 + c.size := by
  unfold secB
  rw [ByteArray.size_append, ByteArray.size_append, ByteArray.size_append, lit_size, lit_size]
  show 1 + 4 + 2 + c.size = _
  omega
theorem secsOf_size : ∀ (l : List Ch) (n : Nat), chsErr l = 0 → ∀ x ∈ secsOf n l, x.size ≤ 65
  | [], _, _, x, hx => by simp [secsOf] at hx
  | c :: r, n, h, x, hx => by
    rw [chsErr] at h
    by_cases h0 : chErr c = 0
    · rw [if_pos h0] at h
      simp only [secsOf, List.mem_cons] at hx
      rcases hx with rfl | hx
      · rw [secB_size]; have := chBytes_size c h0; omega
      · exact secsOf_size r (n + 1) h x hx
    · rw [if_neg h0] at h; exact absurd h h0
theorem entSecs_size (L : LgM) (l : List Ch) (h : chsErr l = 0) : ∀ x ∈ entSecs L l, x.size ≤ 1000 := by
  intro x hx
  rcases List.mem_append.1 hx with hx | hx
  · have := secsOf_size l _ h x hx; omega
  · simp only [List.mem_singleton] at hx
    subst hx
    rw [secB_size, lit_size]; omega

/-- What Add makes of a log and its disk, and the number of its error. -/
def lgAdd (l : List Ch) (L : LgM) (D : DkM) : LgM × DkM × Int :=
  if 72 < l.length then (L, D, 2)
  else if L.many < L.fin + l.length + 1 then (L, D, 8)
  else if ¬ chsErr l = 0 then (L, D, chsErr l)
  else if ¬ (lgPut (entSecs L l) L D).2 = 0 then (L, (lgPut (entSecs L l) L D).1, (lgPut (entSecs L l) L D).2)
  else ({ L with fin := L.fin + l.length + 1 }, (lgPut (entSecs L l) L D).1, 0)

def lgTypes : List TypeId := 114 :: dkTypes
theorem lg_sub : ∀ t ∈ dkTypes, t ∈ lgTypes := fun _ h => List.mem_cons_of_mem _ h

def AddRet (B gl g : Nat) (w : World) (R : LgM × DkM × Int) (e : Ending) (w' : World) : Prop := e = .returned (errV R.2.2) ∧ LgAt B w' gl g R.1 ∧ DkAt B w' g R.2.1 ∧ Step B lgTypes w w'

set_option maxHeartbeats 8000000 in
set_option maxRecDepth 100000 in
theorem logAdd_any (B gl g : Nat) (w : World) (D : DkM) (L : LgM) (A : Option Addr) (cA : Nat) (l : List Ch) (hL : LgAt B w gl g L) (hD : DkAt B w g D) (hl : ChsAt w A l) (hln : l.length ≤ 1000) (hwr : D.wr.length ≤ 50000) (hf : L.frm ≤ 1000) (hmany : L.many ≤ 1000) (hfin : L.fin ≤ L.many) (hfst : L.first ≤ 10000000) :
    Calls Try.prog 32 #[.pointer (some ⟨gl, 0, none⟩), .slice A l.length cA] w (AddRet B gl g w (lgAdd l L D)) := by
  have hBw : B ≤ w.heap.size := Nat.le_trans hL.1 (Nat.le_of_lt (Array.getElem?_eq_some_iff.1 hL.2).1)
  by_cases h72 : 72 < l.length
  · have e0 : lgAdd l L D = (L, D, 2) := by unfold lgAdd; rw [if_pos h72]
    have i72 : (72 : Int) < (l.length : Int) := by omega
    rw [e0]
    have HF := Lib.hid (show AddRet B gl g w (L, D, 2) (.returned (.iface 64 (.int .i64 2))) w from ⟨rfl, hL, hD, Step.refl _ _ _⟩)
    clear e0 hL hD h72
    go_enter Try.func32, Try.ntmps32
    go_wp2
    go_ret
    exact HF.out
  · have i72 : ¬ (72 : Int) < (l.length : Int) := by omega
    have HRM := Lib.hid (room_any B gl g w L hL (by omega) (by omega))
    have HB2 := Lib.hid (fun w2 (h : ∃ n, w2 = w.drewN n) => show Below w.heap.size w w2 from by obtain ⟨n, rfl⟩ := h; exact below_drewN (Below.refl _ _) n)
    by_cases hfull : L.many < L.fin + l.length + 1
    · have e0 : lgAdd l L D = (L, D, 8) := by unfold lgAdd; rw [if_neg h72, if_pos hfull]
      have j1 : (L.many : Int) - (L.fin : Int) < (l.length : Int) + 1 := by omega
      rw [e0]
      have HF := Lib.hid (fun w2 (h : Below w.heap.size w w2) => show AddRet B gl g w (L, D, 8) (.returned (.iface 64 (.int .i64 8))) w2 from
        ⟨rfl, hL.step (B' := w.heap.size) (ts := []) (Step.of_below h (Nat.le_refl _)) (by simp), hD.below h, Step.of_below h hBw⟩)
      clear e0 hL hD h72
      go_enter Try.func32, Try.ntmps32
      go_wp2_with ((with_reducible refine HRM.out.mono ?_); rintro e w2 ⟨rfl, hr2⟩)
      go_ret
      exact HF.out _ (HB2.out _ hr2)
    · have j1 : ¬ (L.many : Int) - (L.fin : Int) < (l.length : Int) + 1 := by omega
      have LGB := fun w2 (h : Below w.heap.size w w2) => show LgAt B w2 gl g L from hL.step (B' := w.heap.size) (ts := []) (Step.of_below h (Nat.le_refl _)) (by simp)
      have HSE := Lib.hid (fun w2 (h : Below w.heap.size w w2) => sectors_any B gl g w2 L A cA l (LGB w2 h) (hl.below h) hln (by omega) (by omega))
      by_cases hce : chsErr l = 0
      · have HLGB := Lib.hid LGB
        have HDB := Lib.hid (fun w2 (h : Below w.heap.size w w2) => hD.below h)
        have HSZ := Lib.hid (entSecs_size L l hce)
        have HSL := Lib.hid (entSecs_length L l)
        obtain ⟨R, hR⟩ : ∃ R, lgAdd l L D = R := ⟨_, rfl⟩
        have hR2 : R = if ¬ (lgPut (entSecs L l) L D).2 = 0 then (L, (lgPut (entSecs L l) L D).1, (lgPut (entSecs L l) L D).2) else ({ L with fin := L.fin + l.length + 1 }, (lgPut (entSecs L l) L D).1, 0) := by
          rw [← hR]; unfold lgAdd; rw [if_neg h72, if_neg hfull, if_neg (by simp [hce])]
        rw [hR]
        have HR := Lib.hid hR2
        clear hR hR2 LGB h72 hL hD hl
        go_enter Try.func32, Try.ntmps32
        go_wp2_with fail
        ((with_reducible refine HRM.out.mono ?_); rintro e w2 ⟨rfl, hr2⟩)
        have hb2 := HB2.out _ hr2
        clear HRM HB2 hr2
        go_wp2_with fail
        (with_reducible refine (HSE.out w2 hb2).mono ?_)
        rintro e w3 h3
        unfold SecsRet at h3
        rw [if_pos hce] at h3
        obtain ⟨v, rfl, hO, hb3⟩ := h3
        obtain ⟨gs, cap, cur, rfl, hgs, hrow, hnc, hcm, hcs, htk⟩ : ∃ gs cap cur, v = .slice (some ⟨gs, 0, none⟩) (l.length + 1) cap ∧ w2.heap.size ≤ gs ∧ w3.heap[gs]? = some (.cells cur 9 (0, 0)) ∧ l.length + 1 ≤ cap ∧ cap ≤ maxLen ∧ cur.size = cap * 1 ∧ cur.toList.take ((l.length + 1) * 1) = txV (entSecs L l) := by
          rcases hO.2 with ⟨_, h0⟩ | ⟨gs, cap, cur, h1, h2, h3, h4, h5, h6, h7⟩
          · omega
          · exact ⟨gs, cap, cur, h1, h2, h3, h4, h5, h6, h7⟩
        have hb03 := belowThen hb2 hb3
        have hcl : ∀ (j : Nat) (u : Value), (txV (entSecs L l))[j]? = some u → cur[j]? = some u := fun j u hj => by
          have hjl := (List.getElem?_eq_some_iff.1 hj).1
          rw [← htk, List.getElem?_take] at hj
          split at hj
          · simpa using hj
          · cases hj
        have h00 : cur[0]? = some (.string ((entSecs L l).headD blankT)) := hcl 0 _ (by
          have := HSL.out
          cases hE : entSecs L l with
          | nil => rw [hE] at this; simp at this
          | cons a r => simp [txV])
        have hst : PutSt B w2 w3 gl g gs L D ((entSecs L l).headD blankT) := ⟨HLGB.out _ hb03, HDB.out _ hb03, ⟨cur, hrow, h00⟩, Step.of_below hb3 (Nat.le_trans hBw hb2.size)⟩
        have HPU := Lib.hid (put_any B gl g gs cap w2 w3 D L (entSecs L l) l.length cur HSL.out hst hrow hcl hnc (by omega) hgs (Nat.le_trans hBw hb2.size) (by omega) HSZ.out hwr hf (by omega) hmany)
        have HB2 := Lib.hid (show Step B lgTypes w w2 from Step.of_below hb2 hBw)
        generalize lgPut (entSecs L l) L D = P at *
        obtain ⟨D', e'⟩ := P
        simp only [] at HPU HR
        clear hO hrow hcs htk hcl h00 hst HSE HSZ HSL HDB hb3 hb03 HLGB
        by_cases he : e' = 0
        · subst he
          rw [show errV 0 = .nilIface from rfl] at HPU
          have hR := HR.out
          rw [if_neg (by simp)] at hR
          subst hR
          go_wp2_with fail
          ((with_reducible refine HPU.out.mono ?_); rintro e w4 ⟨rfl, hD4, hL4, hs4⟩)
          have c4 : w4.cell? ⟨gl, 4, none⟩ = some (.int .i64 (L.fin : Int)) := cell_of_row _ _ _ _ _ _ hL4.2
          have f4 : w4.frozen? ⟨gl, 4, none⟩ = false := frozen_of_row _ _ _ _ _ hL4.2
          have a1 : IntKind.i64.wrap ((L.fin : Int) + ((l.length : Int) + 1)) = (L.fin : Int) + ((l.length : Int) + 1) := IntWalk.i64_in _ (by omega)
          have HF := Lib.hid (show AddRet B gl g w ({ L with fin := L.fin + l.length + 1 }, D', 0) (.returned .nilIface) (w4.setCell ⟨gl, 4, none⟩ (.int .i64 ((L.fin : Int) + ((l.length : Int) + 1)))) from by
            have hs5 : Step B [114] w4 (w4.setCell ⟨gl, 4, none⟩ (.int .i64 ((L.fin : Int) + ((l.length : Int) + 1)))) := (Step.refl _ _ _).set hL4.2 hL4.1 (by simp) _
            refine ⟨rfl, ⟨hL4.1, ?_⟩, hD4.step hs5 (by decide) (by decide) (by decide), (HB2.out.trans (hs4.mono (Nat.le_refl _) lg_sub)).trans (hs5.mono (Nat.le_refl _) (fun t ht => by simp at ht; subst ht; exact List.mem_cons_self))⟩
            rw [heap_setCell_same w4 gl 4 _ _ _ hL4.2]
            have : (L.fin : Int) + ((l.length : Int) + 1) = ((L.fin + l.length + 1 : Nat) : Int) := by omega
            rw [this]; rfl)
          clear HPU hD4 hL4 hs4 HR
          go_wp2
          go_ret
          exact HF.out
        · have hR := HR.out
          rw [if_pos he] at hR
          subst hR
          have hne : errV e' = .iface 64 (.int .i64 e') := by unfold errV; rw [if_neg he]
          rw [hne] at HPU
          have HNE := Lib.hid hne
          clear HR he hne
          go_wp2_with fail
          ((with_reducible refine HPU.out.mono ?_); rintro e w4 ⟨rfl, hD4, hL4, hs4⟩)
          have HF := Lib.hid (show AddRet B gl g w (L, D', e') (.returned (.iface 64 (.int .i64 e'))) w4 from ⟨by rw [← HNE.out], hL4, hD4, HB2.out.trans (hs4.mono (Nat.le_refl _) lg_sub)⟩)
          clear HPU hD4 hL4 hs4
          go_wp2
          go_ret
          exact HF.out
      · have e0 : lgAdd l L D = (L, D, chsErr l) := by unfold lgAdd; rw [if_neg h72, if_neg hfull, if_pos hce]
        rw [e0]
        have hne : errV (chsErr l) = .iface 64 (.int .i64 (chsErr l)) := by unfold errV; rw [if_neg hce]
        have HF := Lib.hid (fun w2 (h : Below w.heap.size w w2) => show AddRet B gl g w (L, D, chsErr l) (.returned (.iface 64 (.int .i64 (chsErr l)))) w2 from ⟨by rw [← hne], LGB _ h, hD.below h, Step.of_below h hBw⟩)
        have HNE := Lib.hid hne
        clear e0 hL hD h72 LGB hne hl
        go_enter Try.func32, Try.ntmps32
        go_wp2_with fail
        ((with_reducible refine HRM.out.mono ?_); rintro e w2 ⟨rfl, hr2⟩)
        have hb2 := HB2.out _ hr2
        clear HRM HB2 hr2
        go_wp2_with fail
        (with_reducible refine (HSE.out w2 hb2).mono ?_)
        rintro e w3 h3
        unfold SecsRet at h3
        rw [if_neg hce, HNE.out] at h3
        obtain ⟨rfl, hb3⟩ := h3
        have hb03 := belowThen hb2 hb3
        clear HSE hb3
        go_wp2
        go_ret
        exact HF.out _ hb03
end Go.Proofs.Ythhedahfmllnoaa
