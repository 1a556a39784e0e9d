/- The store: Checkpoint. -/
import Derived.Test.YthhedahfmllnoaaZqSt10
namespace Go.Proofs.Ythhedahfmllnoaa
open Go.RowKit
attribute [local go_sem] Oper.semAt_some

/-- The header that a checkpoint writes. -/
def stHead (S : StM) : Hd := hdNext S.head S.rows.length (decide (S.log.fin = 0))
def stFin (D : DkM) (h : Hd) : Nat := (lgRead (1 + h.log) (lgTexts D (stLog D.now.length h 0)) 0 [] [] 0).2
/-- What a checkpoint leaves, and its error. -/
def stCheck (S : StM) (D : DkM) : StM × DkM × Int :=
  if (hdWrite D (stHead S) S.rows).2 = 0 then (⟨stHead S, stLog D.now.length (stHead S) (stFin (hdWrite D (stHead S) S.rows).1 (stHead S)), S.rows⟩, (hdWrite D (stHead S) S.rows).1, 0)
  else (S, (hdWrite D (stHead S) S.rows).1, (hdWrite D (stHead S) S.rows).2)
def stTypes : List TypeId := 77 :: lgTypes

theorem flush_up {D : DkM} (h : dkStepE D = 0) : (dkFlush D).down = false ∧ (dkFlush D).now = D.now ∧ (dkFlush D).dur = D.now ∧ (dkFlush D).wr = [] := by
  have hd : D.down = false := by
    cases hd : D.down with
    | false => rfl
    | true => unfold dkStepE at h; rw [if_pos (.inr hd)] at h; omega
  unfold dkFlush
  rw [if_pos h]
  exact ⟨by simpa [dkSaved] using step_down hd h, by simp [dkSaved, dkStep_now], by simp [dkSaved, dkStep_now], rfl⟩
theorem flush_now (D : DkM) : (dkFlush D).now = D.now := by
  unfold dkFlush
  split
  · simp [dkSaved, dkStep_now]
  · exact dkStep_now D
theorem hdWr2_up {r : DkM × Int} {h : Hd} (hz : (hdWr2 r h).2 = 0) : (hdWr2 r h).1.down = false ∧ (hdWr2 r h).1.dur = (hdWr2 r h).1.now ∧ (hdWr2 r h).1.wr = [] := by
  unfold hdWr2 at hz ⊢
  by_cases h1 : r.2 = 0
  · rw [if_neg (by simpa using h1)] at hz ⊢
    by_cases h2 : dkStepE r.1 = 0
    · rw [if_neg (by simpa using h2)] at hz ⊢
      by_cases h3 : dkWriteE (dkFlush r.1) ((h.slot : Int) * 61) (hdText h) = 0
      · rw [if_neg (by simpa using h3)] at hz ⊢
        obtain ⟨a, b, c, d⟩ := flush_up hz
        exact ⟨a, by rw [b]; exact c, d⟩
      · rw [if_pos h3] at hz; exact absurd hz h3
    · rw [if_pos h2] at hz; exact absurd hz h2
  · rw [if_pos h1] at hz; exact absurd hz h1
theorem hdWr2_len (r : DkM × Int) (h : Hd) : (hdWr2 r h).1.now.length = r.1.now.length := by
  unfold hdWr2
  split
  · rfl
  · split
    · rw [flush_now]
    · split
      · rw [(dkWrite_wr _ _ _).2, flush_now]
      · rw [flush_now, (dkWrite_wr _ _ _).2, flush_now]
theorem hdWrite_len (D : DkM) (h : Hd) (rows : List Ch) : (hdWrite D h rows).1.now.length = D.now.length := by
  unfold hdWrite
  rw [hdWr2_len]
  exact (wrP_wr _ _ _).2

theorem hdNext_small {h : Hd} {r : Nat} {b : Bool} (h0 : h.log ≤ 1) (hr : r ≤ 80) : (hdNext h r b).slot ≤ 1 ∧ (hdNext h r b).turn ≤ 3 ∧ (hdNext h r b).log ≤ 1 ∧ (hdNext h r b).rows ≤ 80 := by
  unfold hdNext
  refine ⟨?_, ?_, ?_, hr⟩
  · show (h.slot + 1) % 2 ≤ 1; omega
  · show h.turn % 3 + 1 ≤ 3; omega
  · show (if b = true then h.log else (h.log + 1) % 2) ≤ 1
    split
    · exact h0
    · omega

section
variable {P : Program}
theorem step_store_at {ops : Array Oper} {o : Oper} {a : Act} {w : World} {K : Act → World → Prop} {Q : Exit → Act → World → Prop} {E : Prop} (hgd : o.guard = none) (ty : TypeId) (x v : Operand) (ho : o.op = .store ty x v)
    (g off n : Nat) (hx : a.eval x = .pointer (some ⟨g, off, none⟩)) (t : TypeId) (cs vs : Array Value) (hv : a.eval v = .agg vs) (hg : w.heap[g]? = some (.cells cs t (0, 0)))
    (hi : (P.info? ty).map (·.size) = some n) (hn : off + n ≤ cs.size) (hvn : vs.size = n) (h1 : ∀ v ∈ vs.toList, v.oneCell' = true) (cs' : Array Value) (hcs : splice cs off vs = cs')
    (hK : K (a.put o.dst undef) (w.setRow g cs')) :
    if Region.wanted o (yielded ops a.tmps) = true then Oper.wp P o a w K Q else E := by
  have hw : Region.wanted o (yielded ops a.tmps) = true := by simp [Region.wanted, hgd]
  rw [if_pos hw]
  subst hcs
  unfold Oper.wp execOp
  simp only [ho, hx, hv, Instr.storeAt, Instr.sureAddr, Sem.run_bind, Sem.run_pure, Result.andThen_ok, run_storeVar_at w g off n t ty cs vs hg hi hn hvn h1]
  exact hK
end
/-- A variable of the region's own, still as it was made. -/
theorem boxed {w wX w' : World} {cs : Array Value} {t : TypeId} (h1 : Below w.heap.size w wX) (h2 : Below (wX.alloc (.cells cs t)).heap.size (wX.alloc (.cells cs t)) w') : w'.heap[wX.heap.size]? = some (.cells cs t (0, 0)) ∧ Below w.heap.size w w' ∧ w.heap.size ≤ wX.heap.size :=
  ⟨(h2.block wX.heap.size (by simp)).trans (heap_alloc_new wX (.cells cs t)), belowThen (belowAlloc9 h1 _) h2, h1.size⟩
theorem box4 {w W : World} {b : Nat} {o0 o1 o2 o3 v0 v1 v2 v3 : Value} {t : TypeId} (hr : W.heap[b]? = some (.cells #[o0, o1, o2, o3] t (0, 0))) (hb : Below w.heap.size w W) (hle : w.heap.size ≤ b) :
    ((((W.setCell ⟨b, 0, none⟩ v0).setCell ⟨b, 1, none⟩ v1).setCell ⟨b, 2, none⟩ v2).setCell ⟨b, 3, none⟩ v3).heap[b]? = some (.cells #[v0, v1, v2, v3] t (0, 0)) ∧ Below w.heap.size w ((((W.setCell ⟨b, 0, none⟩ v0).setCell ⟨b, 1, none⟩ v1).setCell ⟨b, 2, none⟩ v2).setCell ⟨b, 3, none⟩ v3) := by
  have h1 := heap_setCell_same W b 0 _ _ v0 hr
  have h2 := heap_setCell_same _ b 1 _ _ v1 h1
  have h3 := heap_setCell_same _ b 2 _ _ v2 h2
  have h4 := heap_setCell_same _ b 3 _ _ v3 h3
  exact ⟨h4, (((hb.setCell (p := ⟨b, 0, none⟩) hle _).setCell (p := ⟨b, 1, none⟩) hle _).setCell (p := ⟨b, 2, none⟩) hle _).setCell (p := ⟨b, 3, none⟩) hle _⟩

set_option maxHeartbeats 4000000 in
set_option maxRecDepth 100000 in
theorem stCheck_any (B gs g : Nat) (w : World) (S : StM) (D : DkM) (hS : StAt B w gs g S) (hD : DkAt B w g D) (h0 : S.head.slot ≤ 1) (h1 : S.head.turn ≤ 3) (h2 : S.head.log ≤ 1) (hr : S.rows.length ≤ 80) (hm : S.log.many = D.now.length - 122) (hf : S.log.fin ≤ S.log.many) (hn : 123 ≤ D.now.length) (hwr : D.wr.length ≤ 800000) (R : StM × DkM × Int) (hR : stCheck S D = R) :
    Calls Try.prog 13 #[.pointer (some ⟨gs, 0, none⟩)] w fun e w' => e = .returned (errV R.2.2) ∧ StAt B w' gs g R.1 ∧ DkAt B w' g R.2.1 ∧ Step B stTypes w w' := by
  have hfew : D.now.length ≤ 260 := by obtain ⟨ho, _⟩ := hD; exact ho.few
  have hSa := hS
  obtain ⟨gl, A, c, hI⟩ := hS
  have hBw : B ≤ w.heap.size := Nat.le_trans hI.base (Nat.le_of_lt (Array.getElem?_eq_some_iff.1 hI.row).1)
  have CW := Lib.hid (fun w' (hb : Below w.heap.size w w') => show w'.cell? ⟨gs, 0, none⟩ = some (.pointer (some ⟨g, 0, none⟩)) ∧ w'.cell? ⟨gs, 1, none⟩ = some (.int .i64 S.head.slot) ∧ w'.cell? ⟨gs, 2, none⟩ = some (.int .i64 S.head.turn) ∧ w'.cell? ⟨gs, 3, none⟩ = some (.int .i64 S.head.log) ∧ w'.cell? ⟨gs, 4, none⟩ = some (.int .i64 S.head.rows) ∧ w'.cell? ⟨gs, 6, none⟩ = some (.slice A S.rows.length c) from by
    have r1 := (hb.block _ (Array.getElem?_eq_some_iff.1 hI.row).1).trans hI.row
    exact ⟨cell_of_row _ _ _ _ _ _ r1, cell_of_row _ _ _ _ _ _ r1, cell_of_row _ _ _ _ _ _ r1, cell_of_row _ _ _ _ _ _ r1, cell_of_row _ _ _ _ _ _ r1, cell_of_row _ _ _ _ _ _ r1⟩)
  obtain ⟨c0, c1, c2, c3, c4, c6⟩ := CW.out w (Below.refl _ _)
  have HRM := Lib.hid (fun w' (hb : Below w.heap.size w w') => stRoom_any B gs g w' S (hSa.below hb) (by omega) (by omega))
  have HSZ := Lib.hid (fun w' (hb : Below w.heap.size w w') => logSectors_any B g w' D (hD.below hb))
  have HNX := Lib.hid (fun w' (b : Bool) => hdNext_any S.head S.rows.length b w' h0 h1 h2 hr)
  have heq : ((S.log.many : Int) - (S.log.fin : Int) == (D.now.length : Int) - 122) = decide (S.log.fin = 0) := by
    rw [Bool.eq_iff_iff]; simp; omega
  have HEQ := Lib.hid heq
  obtain ⟨H, hH⟩ : ∃ H, stHead S = H := ⟨_, rfl⟩
  clear heq hfew
  have HNX2 := Lib.hid (fun w' => show Calls Try.prog 34 #[.agg #[.int .i64 S.head.slot, .int .i64 S.head.turn, .int .i64 S.head.log, .int .i64 S.head.rows], .int .i64 S.rows.length, .bool ((S.log.many : Int) - (S.log.fin : Int) == (D.now.length : Int) - 122)] w' fun e w2 => e = .returned (.agg #[.int .i64 H.slot, .int .i64 H.turn, .int .i64 H.log, .int .i64 H.rows]) ∧ Below w'.heap.size w' w2 from by
    rw [HEQ.out, ← hH]
    exact hdNext_any S.head S.rows.length _ w' h0 h1 h2 hr)
  have HHS := Lib.hid (show H.slot ≤ 1 ∧ H.turn ≤ 3 ∧ H.log ≤ 1 ∧ H.rows ≤ 80 from by rw [← hH]; exact hdNext_small h2 hr)
  have HH := Lib.hid hH
  clear HNX HEQ hm hH
  go_enter Try.func13, Try.ntmps13
  go_upto_region 1 with (fail)
  go_cut [3] (fun s3 wx => ∃ b wy, s3 = .pointer (some ⟨b, 0, none⟩) ∧ wx = wy ∧ w.heap.size ≤ b ∧ wy.heap[b]? = some (.cells #[.int .i64 H.slot, .int .i64 H.turn, .int .i64 H.log, .int .i64 H.rows] 74 (0, 0)) ∧ Below w.heap.size w wy)
  case first =>
    go_region_held3 (fun w' => w'.cell? ⟨gs, 0, none⟩ = some (.pointer (some ⟨g, 0, none⟩)) ∧ w'.cell? ⟨gs, 1, none⟩ = some (.int .i64 S.head.slot) ∧ w'.cell? ⟨gs, 2, none⟩ = some (.int .i64 S.head.turn) ∧ w'.cell? ⟨gs, 3, none⟩ = some (.int .i64 S.head.log) ∧ w'.cell? ⟨gs, 4, none⟩ = some (.int .i64 S.head.rows) ∧ w'.cell? ⟨gs, 6, none⟩ = some (.slice A S.rows.length c)) (first | with_reducible exact ⟨c0, c1, c2, c3, c4, c6⟩ | with_reducible exact CW.out _ (by (repeat (first | with_reducible exact Below.refl _ _ | with_reducible refine belowAlloc9 ?_ _ | with_reducible refine Below.drew ?_ | with_reducible refine belowThen ?_ hb5 | with_reducible refine belowThen ?_ hb4 | with_reducible refine belowThen ?_ hb3)); (first | done | fail)) | with_reducible exact CW.out _ B4.out.2 | fail)
      (first
        | (go_at_call 14; (with_reducible refine (HRM.out _ (by (repeat (first | with_reducible exact Below.refl _ _ | with_reducible refine belowAlloc9 ?_ _ | with_reducible refine Below.drew ?_ | with_reducible refine belowThen ?_ hb5 | with_reducible refine belowThen ?_ hb4 | with_reducible refine belowThen ?_ hb3)); (first | done | fail))).mono ?_); rintro e w3 ⟨rfl, hb3⟩)
        | (go_at_call 31; (with_reducible refine (HSZ.out _ (by (repeat (first | with_reducible exact Below.refl _ _ | with_reducible refine belowAlloc9 ?_ _ | with_reducible refine Below.drew ?_ | with_reducible refine belowThen ?_ hb5 | with_reducible refine belowThen ?_ hb4 | with_reducible refine belowThen ?_ hb3)); (first | done | fail))).mono ?_); rintro e w4 ⟨rfl, hb4⟩)
        | (go_at_call 34; (with_reducible refine (HNX2.out _).mono ?_); rintro e w5 ⟨rfl, hb5⟩)
        | ((first | have BX := boxed (w := w) (wX := w) (w' := w5) (cs := #[.int .i64 0, .int .i64 0, .int .i64 0, .int .i64 0]) (t := 74) (by (repeat (first | with_reducible exact Below.refl _ _ | with_reducible refine belowAlloc9 ?_ _ | with_reducible refine Below.drew ?_ | with_reducible refine belowThen ?_ hb5 | with_reducible refine belowThen ?_ hb4 | with_reducible refine belowThen ?_ hb3)); (first | done | fail)) (by (repeat (first | with_reducible exact Below.refl _ _ | with_reducible refine belowAlloc9 ?_ _ | with_reducible refine Below.drew ?_ | with_reducible refine belowThen ?_ hb5 | with_reducible refine belowThen ?_ hb4 | with_reducible refine belowThen ?_ hb3)); (first | done | fail)) | have BX := boxed (w := w) (wX := w.drew) (w' := w5) (cs := #[.int .i64 0, .int .i64 0, .int .i64 0, .int .i64 0]) (t := 74) (by (repeat (first | with_reducible exact Below.refl _ _ | with_reducible refine belowAlloc9 ?_ _ | with_reducible refine Below.drew ?_ | with_reducible refine belowThen ?_ hb5 | with_reducible refine belowThen ?_ hb4 | with_reducible refine belowThen ?_ hb3)); (first | done | fail)) (by (repeat (first | with_reducible exact Below.refl _ _ | with_reducible refine belowAlloc9 ?_ _ | with_reducible refine Below.drew ?_ | with_reducible refine belowThen ?_ hb5 | with_reducible refine belowThen ?_ hb4 | with_reducible refine belowThen ?_ hb3)); (first | done | fail)) | have BX := boxed (w := w) (wX := w3) (w' := w5) (cs := #[.int .i64 0, .int .i64 0, .int .i64 0, .int .i64 0]) (t := 74) (by (repeat (first | with_reducible exact Below.refl _ _ | with_reducible refine belowAlloc9 ?_ _ | with_reducible refine Below.drew ?_ | with_reducible refine belowThen ?_ hb5 | with_reducible refine belowThen ?_ hb4 | with_reducible refine belowThen ?_ hb3)); (first | done | fail)) (by (repeat (first | with_reducible exact Below.refl _ _ | with_reducible refine belowAlloc9 ?_ _ | with_reducible refine Below.drew ?_ | with_reducible refine belowThen ?_ hb5 | with_reducible refine belowThen ?_ hb4 | with_reducible refine belowThen ?_ hb3)); (first | done | fail)) | have BX := boxed (w := w) (wX := w4) (w' := w5) (cs := #[.int .i64 0, .int .i64 0, .int .i64 0, .int .i64 0]) (t := 74) (by (repeat (first | with_reducible exact Below.refl _ _ | with_reducible refine belowAlloc9 ?_ _ | with_reducible refine Below.drew ?_ | with_reducible refine belowThen ?_ hb5 | with_reducible refine belowThen ?_ hb4 | with_reducible refine belowThen ?_ hb3)); (first | done | fail)) (by (repeat (first | with_reducible exact Below.refl _ _ | with_reducible refine belowAlloc9 ?_ _ | with_reducible refine Below.drew ?_ | with_reducible refine belowThen ?_ hb5 | with_reducible refine belowThen ?_ hb4 | with_reducible refine belowThen ?_ hb3)); (first | done | fail)) | have BX := boxed (w := w) (wX := w5) (w' := (w5.alloc (.cells #[.int .i64 0, .int .i64 0, .int .i64 0, .int .i64 0] 74))) (cs := #[.int .i64 0, .int .i64 0, .int .i64 0, .int .i64 0]) (t := 74) (by (repeat (first | with_reducible exact Below.refl _ _ | with_reducible refine belowAlloc9 ?_ _ | with_reducible refine Below.drew ?_ | with_reducible refine belowThen ?_ hb5 | with_reducible refine belowThen ?_ hb4 | with_reducible refine belowThen ?_ hb3)); (first | done | fail)) (by (repeat (first | with_reducible exact Below.refl _ _ | with_reducible refine belowAlloc9 ?_ _ | with_reducible refine Below.drew ?_ | with_reducible refine belowThen ?_ hb5 | with_reducible refine belowThen ?_ hb4 | with_reducible refine belowThen ?_ hb3)); (first | done | fail))); have B4 := Lib.hid (box4 (v0 := .int .i64 H.slot) (v1 := .int .i64 H.turn) (v2 := .int .i64 H.log) (v3 := .int .i64 H.rows) BX.1 BX.2.1 BX.2.2); have bc0 := cell_of_row _ _ 0 _ _ _ BX.1; have bc1 := cell_of_row _ _ 1 _ _ _ BX.1; have bc2 := cell_of_row _ _ 2 _ _ _ BX.1; have bc3 := cell_of_row _ _ 3 _ _ _ BX.1; have bf0 := frozen_of_row _ _ 0 _ _ BX.1; have bf1 := frozen_of_row _ _ 1 _ _ BX.1; have bf2 := frozen_of_row _ _ 2 _ _ BX.1; have bf3 := frozen_of_row _ _ 3 _ _ BX.1; have hleB := BX.2.2; clear BX; go_simp)
        | fail)
    all_goals
      go_wp2_with fail
      go_meet
      first
        | exact ⟨_, _, rfl, rfl, hleB, B4.out.1, B4.out.2⟩
        | exact ⟨_, _, rfl, rfl, Below.size (w := w) (w' := w5) (by (repeat (first | with_reducible exact Below.refl _ _ | with_reducible refine belowAlloc9 ?_ _ | with_reducible refine Below.drew ?_ | with_reducible refine belowThen ?_ hb5 | with_reducible refine belowThen ?_ hb4 | with_reducible refine belowThen ?_ hb3)); (first | done | fail)), heap_alloc_new _ _, (by (repeat (first | with_reducible exact Below.refl _ _ | with_reducible refine belowAlloc9 ?_ _ | with_reducible refine Below.drew ?_ | with_reducible refine belowThen ?_ hb5 | with_reducible refine belowThen ?_ hb4 | with_reducible refine belowThen ?_ hb3)); (first | done | fail))⟩
  case rest =>
    obtain ⟨b, wy, rfl, rfl, hle, hrb, hby⟩ := hcut
    clear c0 c1 c2 c3 c4 c6 HRM HSZ HNX2 CW
    obtain ⟨H0, H1, H2, H3⟩ := HHS.out
    have hIy := hI.below hby
    have CY := Lib.hid (fun w' (hb : Below wc.heap.size wc w') => show w'.cell? ⟨gs, 0, none⟩ = some (.pointer (some ⟨g, 0, none⟩)) ∧ w'.cell? ⟨gs, 6, none⟩ = some (.slice A S.rows.length c) ∧ w'.cell? ⟨b, 0, none⟩ = some (.int .i64 H.slot) ∧ w'.cell? ⟨b, 1, none⟩ = some (.int .i64 H.turn) ∧ w'.cell? ⟨b, 2, none⟩ = some (.int .i64 H.log) ∧ w'.cell? ⟨b, 3, none⟩ = some (.int .i64 H.rows) from by
      have x1 := (hIy.below hb).row
      have x2 := (hb.block _ (Array.getElem?_eq_some_iff.1 hrb).1).trans hrb
      exact ⟨cell_of_row _ _ _ _ _ _ x1, cell_of_row _ _ _ _ _ _ x1, cell_of_row _ _ _ _ _ _ x2, cell_of_row _ _ _ _ _ _ x2, cell_of_row _ _ _ _ _ _ x2, cell_of_row _ _ _ _ _ _ x2⟩)
    have HW := Lib.hid (fun w' (hb : Below wc.heap.size wc w') => (hdWrite_any B g w' D H A c S.rows ((hD.below hby).below hb) (Nat.le_trans (Nat.le_trans hBw hby.size) hb.size) (hIy.chs.below hb) hr hI.small H0 H1 H2 H3 (by omega) _ rfl).mono (R' := fun e w2 => e = .returned (errV (hdWrite D H S.rows).2) ∧ DkAt B w2 g (hdWrite D H S.rows).1 ∧ Step B dkTypes wc w2) (fun e w2 ⟨he, hd, hs⟩ => ⟨he, hd, (Step.of_below hb (Nat.le_trans hBw hby.size)).trans hs⟩))
    obtain ⟨X, hX⟩ : ∃ X, hdWrite D H S.rows = X := ⟨_, rfl⟩
    have hXl := hdWrite_len D H S.rows
    have hXu := hdWr2_up (r := wrP ((H.slot : Int) * 61 + 1) D (pcsOf ⟨(stText S.rows).toArray⟩)) (h := H)
    rw [show hdWr2 (wrP ((H.slot : Int) * 61 + 1) D (pcsOf ⟨(stText S.rows).toArray⟩)) H = X from hX] at hXu
    rw [hX] at HW hXl
    unfold stCheck at hR
    rw [HH.out, hX] at hR
    have HST := Lib.hid (fun w2 (hs : Step B dkTypes wc w2) => show StIn B w2 gs g gl A c S ∧ w2.heap[b]? = some (.cells #[.int .i64 H.slot, .int .i64 H.turn, .int .i64 H.log, .int .i64 H.rows] 74 (0, 0)) ∧ Step B stTypes w w2 from ⟨hIy.step hs (by decide) (by decide) (by decide), hs.other _ _ _ _ hrb (by decide), ((Step.of_below hby hBw).trans hs).mono (Nat.le_refl _) (fun t ht => List.mem_cons_of_mem _ (lg_sub t ht))⟩)
    by_cases e0 : X.2 = 0
    · rw [if_pos e0] at hR
      obtain ⟨u1, u2, u3⟩ := hXu e0
      rw [e0, show errV 0 = .nilIface from rfl] at HW
      obtain ⟨D1, hD1⟩ : ∃ D1, X.1 = D1 := ⟨_, rfl⟩
      rw [hD1] at HW hR hXl u1
      clear hXu hX hD1 u2 u3 hIy hrb
      go_wp2_with fail
      go_region_held3 (fun w' => w'.cell? ⟨gs, 0, none⟩ = some (.pointer (some ⟨g, 0, none⟩)) ∧ w'.cell? ⟨gs, 6, none⟩ = some (.slice A S.rows.length c) ∧ w'.cell? ⟨b, 0, none⟩ = some (.int .i64 H.slot) ∧ w'.cell? ⟨b, 1, none⟩ = some (.int .i64 H.turn) ∧ w'.cell? ⟨b, 2, none⟩ = some (.int .i64 H.log) ∧ w'.cell? ⟨b, 3, none⟩ = some (.int .i64 H.rows)) (first | with_reducible exact hk9 | with_reducible exact CY.out _ (by first | with_reducible exact Below.refl _ _ | with_reducible exact Below.drew (Below.refl _ _)) | fail)
        (first
          | (go_at_call 35; (with_reducible refine (HW.out _ (by first | with_reducible exact Below.refl _ _ | with_reducible exact Below.drew (Below.refl _ _))).mono ?_); rintro e w6 ⟨rfl, hd6, hs6⟩; have hk9 := (by
              obtain ⟨x1, x2, _⟩ := HST.out _ hs6
              exact ⟨cell_of_row _ _ _ _ _ _ x1.row, cell_of_row _ _ _ _ _ _ x1.row, cell_of_row _ _ _ _ _ _ x2, cell_of_row _ _ _ _ _ _ x2, cell_of_row _ _ _ _ _ _ x2, cell_of_row _ _ _ _ _ _ x2⟩ : w6.cell? ⟨gs, 0, none⟩ = some (.pointer (some ⟨g, 0, none⟩)) ∧ w6.cell? ⟨gs, 6, none⟩ = some (.slice A S.rows.length c) ∧ w6.cell? ⟨b, 0, none⟩ = some (.int .i64 H.slot) ∧ w6.cell? ⟨b, 1, none⟩ = some (.int .i64 H.turn) ∧ w6.cell? ⟨b, 2, none⟩ = some (.int .i64 H.log) ∧ w6.cell? ⟨b, 3, none⟩ = some (.int .i64 H.rows)))
          | fail)
      all_goals
        obtain ⟨x1, x2, x3⟩ := HST.out _ hs6
        clear hk9 HW HST CY
        have CZ := Lib.hid (fun w' (hb : Below w6.heap.size w6 w') => show w'.cell? ⟨gs, 0, none⟩ = some (.pointer (some ⟨g, 0, none⟩)) ∧ w'.cell? ⟨b, 0, none⟩ = some (.int .i64 H.slot) ∧ w'.cell? ⟨b, 1, none⟩ = some (.int .i64 H.turn) ∧ w'.cell? ⟨b, 2, none⟩ = some (.int .i64 H.log) ∧ w'.cell? ⟨b, 3, none⟩ = some (.int .i64 H.rows) from by
          have y1 := (x1.below hb).row
          have y2 := (hb.block _ (Array.getElem?_eq_some_iff.1 x2).1).trans x2
          exact ⟨cell_of_row _ _ _ _ _ _ y1, cell_of_row _ _ _ _ _ _ y2, cell_of_row _ _ _ _ _ _ y2, cell_of_row _ _ _ _ _ _ y2, cell_of_row _ _ _ _ _ _ y2⟩)
        have HO := Lib.hid (fun w' (hb : Below w6.heap.size w6 w') => (openLog_any B g w' D1 H (hd6.below hb) (Nat.le_trans (Nat.le_trans hBw x3.size) hb.size) u1 (by omega) H2).mono (R' := fun e w7 => ∃ g2 v, e = .returned (.tuple #[.pointer (some ⟨g2, 0, none⟩), v, .nilIface]) ∧ LgAt B w7 g2 g (stLog D.now.length H (stFin D1 H)) ∧ Below w6.heap.size w6 w7) (fun e w7 ⟨g2, v, he, _, hl, hw⟩ => ⟨g2, v, he, by rw [← hXl]; exact hl, belowThen hb hw⟩))
        have HXX := Lib.hid (show _ ∧ _ ∧ _ ∧ _ from ⟨x1, x2, x3, hd6⟩)
        clear x1 x2 x3 hs6 hd6
        go_wp2_with fail
        go_region_held3 (fun w' => w'.cell? ⟨gs, 0, none⟩ = some (.pointer (some ⟨g, 0, none⟩)) ∧ w'.cell? ⟨b, 0, none⟩ = some (.int .i64 H.slot) ∧ w'.cell? ⟨b, 1, none⟩ = some (.int .i64 H.turn) ∧ w'.cell? ⟨b, 2, none⟩ = some (.int .i64 H.log) ∧ w'.cell? ⟨b, 3, none⟩ = some (.int .i64 H.rows)) (first | with_reducible exact CZ.out _ hb7 | with_reducible exact CZ.out _ (by first | with_reducible exact Below.refl _ _ | with_reducible exact Below.drew (Below.refl _ _)) | fail)
          (first
            | (go_at_call 36; (with_reducible refine (HO.out _ (by first | with_reducible exact Below.refl _ _ | with_reducible exact Below.drew (Below.refl _ _))).mono ?_); rintro e w7 ⟨g2, v, rfl, hl7, hb7⟩)
            | fail)
        all_goals
          obtain ⟨x1, x2, x3, hd6⟩ := HXX.out
          have y1 := x1.below hb7
          have y2 := (hb7.block _ (Array.getElem?_eq_some_iff.1 x2).1).trans x2
          have e0' : w7.cell? ⟨b, 0, none⟩ = some (.int .i64 H.slot) := cell_of_row _ _ _ _ _ _ y2
          have e1' : w7.cell? ⟨b, 1, none⟩ = some (.int .i64 H.turn) := cell_of_row _ _ _ _ _ _ y2
          have e2' : w7.cell? ⟨b, 2, none⟩ = some (.int .i64 H.log) := cell_of_row _ _ _ _ _ _ y2
          have e3' : w7.cell? ⟨b, 3, none⟩ = some (.int .i64 H.rows) := cell_of_row _ _ _ _ _ _ y2
          have HROW := Lib.hid y1.row
          have hrow2 := setRow_heap w7 gs _ (stArr g gl H (.slice A S.rows.length c)) _ _ y1.row
          have HFIN := Lib.hid (show StAt B ((w7.setRow gs (stArr g gl H (.slice A S.rows.length c))).setCell ⟨gs, 5, none⟩ (.pointer (some ⟨g2, 0, none⟩))) gs g ⟨H, stLog D.now.length H (stFin D1 H), S.rows⟩ ∧ DkAt B ((w7.setRow gs (stArr g gl H (.slice A S.rows.length c))).setCell ⟨gs, 5, none⟩ (.pointer (some ⟨g2, 0, none⟩))) g D1 ∧ Step B stTypes w ((w7.setRow gs (stArr g gl H (.slice A S.rows.length c))).setCell ⟨gs, 5, none⟩ (.pointer (some ⟨g2, 0, none⟩))) from by
            have hs1 : Step B [77] w7 (w7.setRow gs (stArr g gl H (.slice A S.rows.length c))) := (Step.refl B _ w7).row y1.row x1.base (by simp) _
            have hs2 := hs1.set (i := 5) hrow2 x1.base (by simp) (.pointer (some ⟨g2, 0, none⟩))
            have hr3 := heap_setCell_same _ gs 5 _ _ (.pointer (some ⟨g2, 0, none⟩)) hrow2
            refine ⟨⟨g2, A, c, x1.base, hr3, hl7.step hs2 (by decide), own_step y1.rows hs2 (by decide), x1.small⟩, (hd6.below hb7).step hs2 (by decide) (by decide) (by decide), (x3.trans (Step.of_below hb7 (Nat.le_trans hBw x3.size))).trans (hs2.mono (Nat.le_refl _) (by decide))⟩)
          have f5 : (w7.setRow gs (stArr g gl H (.slice A S.rows.length c))).cell? ⟨gs, 5, none⟩ = some (.pointer (some ⟨gl, 0, none⟩)) := cell_of_row _ _ _ _ _ _ hrow2
          have z5 : (w7.setRow gs (stArr g gl H (.slice A S.rows.length c))).frozen? ⟨gs, 5, none⟩ = false := frozen_of_row _ _ _ _ _ hrow2
          unfold stArr at HFIN f5 z5 HROW
          clear hrow2 y1 y2 x1 x2 x3 hl7 hb7 hd6 HO CZ
          go_wp2_with ((with_reducible refine isStore 74 ?_); refine wpList_store_at rfl 74 _ _ rfl gs 1 4 rfl 77 _ #[.int .i64 H.slot, .int .i64 H.turn, .int .i64 H.log, .int .i64 H.rows] rfl HROW.out Try.infoHdS (by simp) rfl (by simp [Value.oneCell']) #[.pointer (some ⟨g, 0, none⟩), .int .i64 H.slot, .int .i64 H.turn, .int .i64 H.log, .int .i64 H.rows, .pointer (some ⟨gl, 0, none⟩), .slice A S.rows.length c] rfl ?_)
          go_ret
          subst hR
          exact ⟨rfl, HFIN.out⟩
    · rw [if_neg e0] at hR
      have hv : errV X.2 = .iface 64 (.int .i64 X.2) := by unfold errV; rw [if_neg e0]
      have hV := Lib.hid hv
      rw [hv] at HW
      clear hXu hX hIy hrb hv
      go_wp2_with fail
      go_region_held3 (fun w' => w'.cell? ⟨gs, 0, none⟩ = some (.pointer (some ⟨g, 0, none⟩)) ∧ w'.cell? ⟨gs, 6, none⟩ = some (.slice A S.rows.length c) ∧ w'.cell? ⟨b, 0, none⟩ = some (.int .i64 H.slot) ∧ w'.cell? ⟨b, 1, none⟩ = some (.int .i64 H.turn) ∧ w'.cell? ⟨b, 2, none⟩ = some (.int .i64 H.log) ∧ w'.cell? ⟨b, 3, none⟩ = some (.int .i64 H.rows)) (first | with_reducible exact hk9 | with_reducible exact CY.out _ (by first | with_reducible exact Below.refl _ _ | with_reducible exact Below.drew (Below.refl _ _)) | fail)
        (first
          | (go_at_call 35; (with_reducible refine (HW.out _ (by first | with_reducible exact Below.refl _ _ | with_reducible exact Below.drew (Below.refl _ _))).mono ?_); rintro e w6 ⟨rfl, hd6, hs6⟩; have hk9 := (by
              obtain ⟨x1, x2, _⟩ := HST.out _ hs6
              exact ⟨cell_of_row _ _ _ _ _ _ x1.row, cell_of_row _ _ _ _ _ _ x1.row, cell_of_row _ _ _ _ _ _ x2, cell_of_row _ _ _ _ _ _ x2, cell_of_row _ _ _ _ _ _ x2, cell_of_row _ _ _ _ _ _ x2⟩ : w6.cell? ⟨gs, 0, none⟩ = some (.pointer (some ⟨g, 0, none⟩)) ∧ w6.cell? ⟨gs, 6, none⟩ = some (.slice A S.rows.length c) ∧ w6.cell? ⟨b, 0, none⟩ = some (.int .i64 H.slot) ∧ w6.cell? ⟨b, 1, none⟩ = some (.int .i64 H.turn) ∧ w6.cell? ⟨b, 2, none⟩ = some (.int .i64 H.log) ∧ w6.cell? ⟨b, 3, none⟩ = some (.int .i64 H.rows)))
          | fail)
      all_goals
        obtain ⟨x1, x2, x3⟩ := HST.out _ hs6
        clear hk9 HW HST CY
        have HFIN := Lib.hid (show StAt B w6 gs g S ∧ DkAt B w6 g X.1 ∧ Step B stTypes w w6 from ⟨⟨gl, A, c, x1⟩, hd6, x3⟩)
        clear x1 x2 x3 hd6 hs6
        go_wp2_with fail
        go_ret
        subst hR
        exact ⟨by rw [hV.out]; rfl, HFIN.out⟩
end Go.Proofs.Ythhedahfmllnoaa
