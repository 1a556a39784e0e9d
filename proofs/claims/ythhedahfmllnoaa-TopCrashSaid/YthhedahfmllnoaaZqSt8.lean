/- The store: a slot is written (write). -/
import Derived.Test.YthhedahfmllnoaaZqSt5
import Derived.Test.YthhedahfmllnoaaZqSt7
import Derived.Test.YthhedahfmllnoaaZqLg8
namespace Go.Proofs.Ythhedahfmllnoaa
open Go.RowKit Go.Shelf
attribute [local go_sem] Oper.semAt_some

/-- Pieces are written one after the other, up to the first error. -/
def wrP (base : Int) : DkM → List Pc → DkM × Int
  | D, [] => (D, 0)
  | D, x :: r => if dkWriteE D (base + x.1.1) x.1.2 = 0 then wrP base (dkWrite D (base + x.1.1) x.1.2) r else (dkWrite D (base + x.1.1) x.1.2, dkWriteE D (base + x.1.1) x.1.2)
theorem wrP_append (base : Int) : ∀ (a b : List Pc) (D : DkM), wrP base D (a ++ b) = if (wrP base D a).2 = 0 then wrP base (wrP base D a).1 b else wrP base D a
  | [], b, D => by simp [wrP]
  | x :: a, b, D => by
    simp only [List.cons_append, wrP]
    split
    · rw [wrP_append base a b]
    · simp_all
theorem dkWrite_wr (D : DkM) (k : Int) (x : ByteArray) : (dkWrite D k x).wr.length ≤ D.wr.length + 1 ∧ (dkWrite D k x).now.length = D.now.length := by
  unfold dkWrite
  split
  · exact ⟨by omega, rfl⟩
  · split
    · simp [dkPut, dkStep_wr, dkStep_now]
    · rw [dkStep_wr, dkStep_now]; exact ⟨by omega, rfl⟩
theorem wrP_wr (base : Int) : ∀ (a : List Pc) (D : DkM), (wrP base D a).1.wr.length ≤ D.wr.length + a.length ∧ (wrP base D a).1.now.length = D.now.length
  | [], D => by simp [wrP]
  | x :: a, D => by
    simp only [wrP]
    have h := dkWrite_wr D (base + x.1.1) x.1.2
    split
    · have := wrP_wr base a (dkWrite D (base + x.1.1) x.1.2)
      simp only [List.length_cons]; omega
    · simp only [List.length_cons]; omega
/-- What is left behind the pieces: made durable, then the header, made durable. -/
def hdWr2 (r : DkM × Int) (h : Hd) : DkM × Int :=
  if ¬ r.2 = 0 then r
  else if ¬ dkStepE r.1 = 0 then (dkFlush r.1, dkStepE r.1)
  else if ¬ dkWriteE (dkFlush r.1) ((h.slot : Int) * 61) (hdText h) = 0 then (dkWrite (dkFlush r.1) ((h.slot : Int) * 61) (hdText h), dkWriteE (dkFlush r.1) ((h.slot : Int) * 61) (hdText h))
  else (dkFlush (dkWrite (dkFlush r.1) ((h.slot : Int) * 61) (hdText h)), dkStepE (dkWrite (dkFlush r.1) ((h.slot : Int) * 61) (hdText h)))
/-- What writing a slot leaves, and its error. -/
def hdWrite (D : DkM) (h : Hd) (rows : List Ch) : DkM × Int := hdWr2 (wrP ((h.slot : Int) * 61 + 1) D (pcsOf ⟨(stText rows).toArray⟩)) h
theorem pcs_len : ∀ (f k : Nat) (T : ByteArray), (pcs f k T).length ≤ f
  | 0, _, _ => by simp [pcs]
  | f + 1, k, T => by
    unfold pcs
    split
    · simp
    · have := pcs_len f (k + 1) (T.extract (min T.size 80) T.size)
      simp only [List.length_cons]; omega

theorem dkWriteE_nonneg (D : DkM) (k : Int) (x : ByteArray) : 0 ≤ dkWriteE D k x := by
  unfold dkWriteE
  split
  · omega
  · unfold dkStepE; split <;> omega

theorem DkAt.grownRow {B : Nat} {w w' : World} {g : Nat} {D : DkM} {row : Option Nat} (h : DkAt B w g D) (hg : w.grownBy w' row) (hr : ∀ r, row = some r → ∃ o : Obj, w.heap[r]? = some o ∧ o.isCells = false) : DkAt B w' g D := by
  have keep : ∀ (k : Nat) (cs : Array Value) (t : TypeId) (fr : Nat × Nat), w.heap[k]? = some (.cells cs t fr) → w'.heap[k]? = some (.cells cs t fr) := fun k cs t fr e => by
    rw [hg.block k (Array.getElem?_eq_some_iff.1 e).1 (fun x => by
      obtain ⟨o, ho, hc⟩ := hr k x.symm
      rw [e] at ho; injection ho with ho; subst ho; cases hc)]
    exact e
  obtain ⟨ho, gn, gd, wv, hi⟩ := h
  obtain ⟨q1, q2⟩ := hi.wr
  refine ⟨ho, gn, gd, wv, ⟨hi.base, keep _ _ _ _ hi.row, hi.baseN, hi.baseD, hi.ne, keep _ _ _ _ hi.now, keep _ _ _ _ hi.dur, q1, ?_⟩⟩
  rcases q2 with q2 | ⟨b, cap, cur, a1, a2, a3, a4⟩
  · exact .inl q2
  · exact .inr ⟨b, cap, cur, a1, a2, keep _ _ _ _ a3, a4⟩
theorem row_grown {w w' : World} {k : Nat} {cs : Array Value} {t : TypeId} {fr : Nat × Nat} {row : Option Nat} (e : w.heap[k]? = some (.cells cs t fr)) (hg : w.grownBy w' row) (hr : ∀ r, row = some r → ∃ o : Obj, w.heap[r]? = some o ∧ o.isCells = false) : w'.heap[k]? = some (.cells cs t fr) := by
  rw [hg.block k (Array.getElem?_eq_some_iff.1 e).1 (fun x => by
    obtain ⟨o, ho, hc⟩ := hr k x.symm
    rw [e] at ho; injection ho with ho; subst ho; cases hc)]
  exact e
theorem Step.grownRow {B : Nat} {ts : List TypeId} {w A C : World} {row : Option Nat} (h : Step B ts w A) (hB : B ≤ w.heap.size) (hg : A.grownBy C row) (hr : ∀ r, row = some r → w.heap.size ≤ r ∧ ∃ o : Obj, A.heap[r]? = some o ∧ o.isCells = false) : Step B ts w C := by
  have hne : ∀ k, k < w.heap.size → row ≠ some k := fun k hk e => by have := (hr k e).1; omega
  have hA := h.size
  refine ⟨⟨hg.os.trans h.below.os, hg.tape.trans h.below.tape, hg.output.trans h.below.output, Nat.le_trans hA hg.size, fun k hk => (hg.block k (by omega) (fun e => hne k (by omega) e.symm)).trans (h.below.block k hk)⟩, fun k cs t fr e ht => row_grown (h.other k cs t fr e ht) hg (fun r x => (hr r x).2), fun k o e hn => ?_⟩
  have hk := (Array.getElem?_eq_some_iff.1 e).1
  rw [hg.block k (by omega) (fun x => hne k hk x.symm)]
  exact h.rest k o e hn

def notDefer (o : Oper) : Bool := match o.op with | .defer _ => false | _ => true
theorem noDefers_of {ops : Array Oper} (h : ops.all notDefer = true) : ∀ (i : Nat) (o : Oper), ops[i]? = some o → ∀ c, o.op ≠ .defer c := fun i o ho c e => by
  have hi := (Array.getElem?_eq_some_iff.1 ho)
  obtain ⟨hlt, rfl⟩ := hi
  have := (Array.all_eq_true.1 h) i hlt
  unfold notDefer at this
  rw [e] at this
  cases this
theorem wpAnyIn_round {F : Fence} {n : Nat} {P : Program} {md : Region.Mode} {ops : Array Oper} {Q : Exit → Act → World → Prop} (l : Nat) (hd : ∀ (i : Nat) (o : Oper), ops[i]? = some o → ∀ c, o.op ≠ .defer c) :
    ∀ (fuel : Nat) (listed : Array Bool) (a : Act) (w : World), wpAnyIn F n P md ops Q fuel listed a w → wpAnyIn (F.inRound l) n P md ops Q fuel listed a w
  | 0, _, _, _, h => h
  | fuel + 1, listed, a, w, h => ⟨h.1, fun i hi => by
    have h2 := wpOpIn_mono (fun a w => wpAnyIn_round l hd fuel (listed.setIfInBounds i true) a w) (h.2 i hi)
    unfold wpOpIn at h2 ⊢
    cases ho : ops[i]? with
    | none => rw [ho] at h2; exact h2
    | some o =>
      rw [ho] at h2
      simp only at h2 ⊢
      split
      · rename_i hw
        rw [if_pos hw] at h2
        obtain ⟨k1, k2⟩ := h2
        refine ⟨k1, ?_⟩
        rw [Oper.semAt_eq _ _ _ (hd i o ho)] at k2 ⊢
        generalize (execOp a.eval o).run P w = r at k2 ⊢
        cases r with
        | ok x w' => cases x <;> exact k2
        | halt x w' => cases x <;> exact k2
      · rename_i hw
        rw [if_neg hw] at h2
        exact h2⟩
theorem belowAlloc9 {w w' : World} (h : Below w.heap.size w w') (o : Obj) : Below w.heap.size w (w'.alloc o) := h.alloc h.size o
theorem Step.keeps {B : Nat} {ts : List TypeId} {A C : World} (h : Step B ts A C) : KeepsOthers A C := ⟨h.size, fun k o hk ho => h.rest k o hk (fun cs t fr e => by subst e; cases ho)⟩
theorem four_new (w : World) (a b c d : Obj) : ((((w.alloc a).alloc b).alloc c).alloc d).heap[w.heap.size]? = some a ∧ ((((w.alloc a).alloc b).alloc c).alloc d).heap[w.heap.size + 1]? = some b ∧ ((((w.alloc a).alloc b).alloc c).alloc d).heap[w.heap.size + 1 + 1]? = some c ∧ ((((w.alloc a).alloc b).alloc c).alloc d).heap[w.heap.size + 1 + 1 + 1]? = some d ∧ ((((w.alloc a).alloc b).alloc c).alloc d).heap.size = w.heap.size + 1 + 1 + 1 + 1 ∧ Below w.heap.size w ((((w.alloc a).alloc b).alloc c).alloc d) := by
  obtain ⟨h1, h2, h3, h4⟩ := two_new w a b
  obtain ⟨k1, k2, k3, k4⟩ := two_new ((w.alloc a).alloc b) c d
  rw [h3] at k1 k2 k3 k4
  exact ⟨oldRow (oldRow h1 c) d, oldRow (oldRow h2 c) d, k1, k2, k3, h4.trans (k4.mono (by omega))⟩

set_option maxHeartbeats 4000000 in
set_option maxRecDepth 100000 in
theorem hdWrite_any (B g : Nat) (w : World) (D : DkM) (h : Hd) (A : Option Addr) (c : Nat) (rows : List Ch) (hD : DkAt B w g D) (hB : B ≤ w.heap.size) (hC : ChsAt w A rows) (hl : rows.length ≤ 80) (hs : ∀ x ∈ rows, x.key.size ≤ 200 ∧ x.val.size ≤ 200) (h0 : h.slot ≤ 1) (h1 : h.turn ≤ 3) (h2 : h.log ≤ 1) (h3 : h.rows ≤ 80) (hwr : D.wr.length ≤ 900000) (R : DkM × Int) (hR : hdWrite D h rows = R) :
    Calls Try.prog 35 #[.agg #[.int .i64 h.slot, .int .i64 h.turn, .int .i64 h.log, .int .i64 h.rows], .pointer (some ⟨g, 0, none⟩), .slice A rows.length c] w fun e w' => e = .returned (errV R.2) ∧ DkAt B w' g R.1 ∧ Step B dkTypes w w' := by
  have four := four_new w (.cells #[.int .i64 h.slot, .int .i64 h.turn, .int .i64 h.log, .int .i64 h.rows] 74) (.cells #[.pointer (some ⟨g, 0, none⟩)] 25) (.cells #[.nilIface] 27) (.cells #[.slice A rows.length c] 36)
  obtain ⟨q0, q1, q2, q3, q4, q5⟩ := four
  have hb0 := q5
  have hC0 := hC.below hb0
  have hD0 := hD.below hb0
  have hst0 : Step B dkTypes w ((((w.alloc (.cells #[.int .i64 h.slot, .int .i64 h.turn, .int .i64 h.log, .int .i64 h.rows] 74)).alloc (.cells #[.pointer (some ⟨g, 0, none⟩)] 25)).alloc (.cells #[.nilIface] 27)).alloc (.cells #[.slice A rows.length c] 36)) := Step.of_below hb0 hB
  have hbox : ((((w.alloc (.cells #[.int .i64 h.slot, .int .i64 h.turn, .int .i64 h.log, .int .i64 h.rows] 74)).alloc (.cells #[.pointer (some ⟨g, 0, none⟩)] 25)).alloc (.cells #[.nilIface] 27)).alloc (.cells #[.slice A rows.length c] 36)).cell? ⟨w.heap.size + 1 + 1 + 1, 0, none⟩ = some (.slice A rows.length c) := cell_of_row _ _ _ _ _ _ q3
  have hTl : (⟨(stText rows).toArray⟩ : ByteArray).size ≤ 40000 := by
    have := stText_len hs
    show (stText rows).toArray.size ≤ 40000
    simp only [List.size_toArray]
    omega
  obtain ⟨T, hT⟩ : ∃ T : ByteArray, (⟨(stText rows).toArray⟩ : ByteArray) = T := ⟨_, rfl⟩
  have hPL := pcs_len T.size 0 T
  rw [show pcs T.size 0 T = pcsOf T from rfl] at hPL
  rw [hT] at hTl
  refine (callsIn_wide (n := 8)).1 ?_
  refine callsIn_of_wp_marks Try.func35 rfl trivial ?_ rfl
  simp only [Try.ntmps35, List.size_toArray, List.length_cons, List.length_nil, Nat.reduceAdd, Nat.reduceSub, Array.replicate_succ, Array.replicate_zero, List.push_toArray, List.append_toArray, List.nil_append, List.cons_append]
  gi_wp2
  refine ⟨trivial, ?_⟩
  refine (callsIn_wide.2 (pieces_any _ A rows.length c)).mono ?_
  rintro e w4 ⟨rfl, rfl⟩
  gi_wp2
  obtain ⟨W0, hW0⟩ : ∃ W0, ((((w.alloc (.cells #[.int .i64 h.slot, .int .i64 h.turn, .int .i64 h.log, .int .i64 h.rows] 74)).alloc (.cells #[.pointer (some ⟨g, 0, none⟩)] 25)).alloc (.cells #[.nilIface] 27)).alloc (.cells #[.slice A rows.length c] 36)) = W0 := ⟨_, rfl⟩
  rw [hW0] at q0 q1 q2 q3 q4 hb0 hC0 hD0 hst0 hbox ⊢
  clear hW0 q5
  have hge : w.heap.size ≤ W0.heap.size := by omega
  refine wpIn_rangeFunc_ownF rfl (by omega) (gf := 69) (lb := #[.pointer (some ⟨w.heap.size + 1 + 1 + 1, 0, none⟩)]) rfl trivial (enters_of Try.func69 (by kernel_rfl) rfl)
    (pieces_stops 7 (by omega) (w.heap.size + 1 + 1 + 1) W0 A c rows hbox hC0 (by omega) hs T hT) walksK_t walksK_b (Below.refl _ _) (fun _ => rfl)
    (fun pre W => (wrP ((h.slot : Int) * 61 + 1) D pre).2 = 0 ∧ W.heap[w.heap.size]? = some (.cells #[.int .i64 h.slot, .int .i64 h.turn, .int .i64 h.log, .int .i64 h.rows] 74 (0, 0)) ∧ W.heap[w.heap.size + 1]? = some (.cells #[.pointer (some ⟨g, 0, none⟩)] 25 (0, 0)) ∧ W.heap[w.heap.size + 1 + 1]? = some (.cells #[.nilIface] 27 (0, 0)) ∧ DkAt B W g (wrP ((h.slot : Int) * 61 + 1) D pre).1 ∧ Step B dkTypes w W)
    (fun cd pre W => cd = .ret ∧ ¬ (wrP ((h.slot : Int) * 61 + 1) D pre).2 = 0 ∧ W.heap[w.heap.size + 1 + 1]? = some (.cells #[errV (wrP ((h.slot : Int) * 61 + 1) D pre).2] 27 (0, 0)) ∧ DkAt B W g (wrP ((h.slot : Int) * 61 + 1) D pre).1 ∧ Step B dkTypes w W)
    (fun s A C row hs hg hr => ⟨hs.1, row_grown hs.2.1 hg (fun r e => (hr r e).2), row_grown hs.2.2.1 hg (fun r e => (hr r e).2), row_grown hs.2.2.2.1 hg (fun r e => (hr r e).2), hs.2.2.2.2.1.grownRow hg (fun r e => (hr r e).2), hs.2.2.2.2.2.grownRow hB hg (fun r e => ⟨Nat.le_trans hge (hr r e).1, (hr r e).2⟩)⟩)
    (fun cd s A C row hs hg hr => ⟨hs.1, hs.2.1, row_grown hs.2.2.1 hg (fun r e => (hr r e).2), hs.2.2.2.1.grownRow hg (fun r e => (hr r e).2), hs.2.2.2.2.grownRow hB hg (fun r e => ⟨Nat.le_trans hge (hr r e).1, (hr r e).2⟩)⟩)
    ⟨rfl, q0, q1, q2, hD0, hst0⟩
    (fun x => { tmps := #[.agg #[.int .i64 h.slot, .int .i64 h.turn, .int .i64 h.log, .int .i64 h.rows], .pointer (some ⟨g, 0, none⟩), .slice A rows.length c, .pointer (some ⟨w.heap.size, 0, none⟩), .pointer (some ⟨w.heap.size + 1, 0, none⟩), undef, .pointer (some ⟨w.heap.size + 1 + 1, 0, none⟩), .int .i64 x.1.1, .string x.1.2, undef, undef, undef, .slice A rows.length c, .func (.func 69) #[] #[.pointer (some ⟨w.heap.size + 1 + 1 + 1, 0, none⟩)], .int .i64 x.1.1, .string x.1.2, undef, undef, undef, undef, undef, undef, undef, undef, undef, undef, undef, undef, undef, undef, undef, undef, undef, undef, undef, undef, undef, undef, undef, undef, undef, undef, undef], defers := [] }) ?assign ?body ?done ?stop
  case assign =>
    intro l x W K hK
    unfold encP
    gi_wp2
    exact hK
  case body =>
    --< body
    rintro l pre x W ⟨hz, r0, r1, r2, hDp, hst⟩ hlen
    have hwb := wrP_wr ((h.slot : Int) * 61 + 1) pre D
    have hap := wrP_append ((h.slot : Int) * 61 + 1) pre [x] D
    rw [if_pos hz] at hap
    obtain ⟨Dp, hDpe⟩ : ∃ Dp, (wrP ((h.slot : Int) * 61 + 1) D pre).1 = Dp := ⟨_, rfl⟩
    rw [hDpe] at hDp hwb hap
    simp only [wrP] at hap
    obtain ⟨⟨k, sx⟩, hk4, hsx⟩ := x
    simp only at hk4 hsx hap ⊢
    have hwl : Dp.wr.length ≤ 1000000 := by omega
    have hh0 : (h.slot : Int) ≤ 1 := by omega
    have hk5 : (k : Int) ≤ 403000 := by omega
    have aw1 : IntKind.i64.wrap ((h.slot : Int) * 61 + 1) = (h.slot : Int) * 61 + 1 := IntWalk.i64_in _ (by omega)
    have aw2 : IntKind.i64.wrap ((h.slot : Int) * 61 + 1 + (k : Int)) = (h.slot : Int) * 61 + 1 + (k : Int) := IntWalk.i64_in _ (by omega)
    have c0 : W.cell? ⟨w.heap.size, 0, none⟩ = some (.int .i64 h.slot) := cell_of_row _ _ _ _ _ _ r0
    have c1 : W.cell? ⟨w.heap.size, 1, none⟩ = some (.int .i64 h.turn) := cell_of_row _ _ _ _ _ _ r0
    have c2 : W.cell? ⟨w.heap.size, 2, none⟩ = some (.int .i64 h.log) := cell_of_row _ _ _ _ _ _ r0
    have c3 : W.cell? ⟨w.heap.size, 3, none⟩ = some (.int .i64 h.rows) := cell_of_row _ _ _ _ _ _ r0
    have c4 : W.cell? ⟨w.heap.size + 1, 0, none⟩ = some (.pointer (some ⟨g, 0, none⟩)) := cell_of_row _ _ _ _ _ _ r1
    have KC := Lib.hid (fun w' (hb : Below W.heap.size W w') => show w'.cell? ⟨w.heap.size, 0, none⟩ = some (.int .i64 h.slot) ∧ w'.cell? ⟨w.heap.size, 1, none⟩ = some (.int .i64 h.turn) ∧ w'.cell? ⟨w.heap.size, 2, none⟩ = some (.int .i64 h.log) ∧ w'.cell? ⟨w.heap.size, 3, none⟩ = some (.int .i64 h.rows) ∧ w'.cell? ⟨w.heap.size + 1, 0, none⟩ = some (.pointer (some ⟨g, 0, none⟩)) from ⟨(hb.cell (Array.getElem?_eq_some_iff.1 r0).1).trans c0, (hb.cell (Array.getElem?_eq_some_iff.1 r0).1).trans c1, (hb.cell (Array.getElem?_eq_some_iff.1 r0).1).trans c2, (hb.cell (Array.getElem?_eq_some_iff.1 r0).1).trans c3, (hb.cell (Array.getElem?_eq_some_iff.1 r1).1).trans c4⟩)
    have HW := Lib.hid (fun w' (hb : Below W.heap.size W w') => (dkWrite_any B g w' Dp ((h.slot : Int) * 61 + 1 + (k : Int)) sx (hDp.below hb) (by unfold maxLen; omega) hwl).mono (R' := fun e w2 => e = .returned (errV (dkWriteE Dp ((h.slot : Int) * 61 + 1 + (k : Int)) sx)) ∧ DkAt B w2 g (dkWrite Dp ((h.slot : Int) * 61 + 1 + (k : Int)) sx) ∧ Step B dkTypes W w2) (fun e w2 ⟨he, hd, hs⟩ => ⟨he, hd, (Step.of_below hb (Nat.le_trans hB hst.size)).trans hs⟩))
    obtain ⟨E, hE⟩ : ∃ E, dkWriteE Dp ((h.slot : Int) * 61 + 1 + (k : Int)) sx = E := ⟨_, rfl⟩
    obtain ⟨D2, hD2⟩ : ∃ D2, dkWrite Dp ((h.slot : Int) * 61 + 1 + (k : Int)) sx = D2 := ⟨_, rfl⟩
    rw [hE, hD2] at HW hap
    have HS := Lib.hid (fun w' => hdSector_any h w' h0)
    by_cases e0 : E = 0
    · subst e0
      rw [if_pos rfl] at hap
      rw [show errV 0 = .nilIface from rfl] at HW
      have FIN := Lib.hid (fun w2 (hd : DkAt B w2 g D2) (hs : Step B dkTypes W w2) => show KeepsOthers W w2 ∧ KeepsWalks W w2 ∧ ((wrP ((h.slot : Int) * 61 + 1) D (pre ++ [⟨(k, sx), hk4, hsx⟩])).2 = 0 ∧ w2.heap[w.heap.size]? = some (.cells #[.int .i64 h.slot, .int .i64 h.turn, .int .i64 h.log, .int .i64 h.rows] 74 (0, 0)) ∧ w2.heap[w.heap.size + 1]? = some (.cells #[.pointer (some ⟨g, 0, none⟩)] 25 (0, 0)) ∧ w2.heap[w.heap.size + 1 + 1]? = some (.cells #[.nilIface] 27 (0, 0)) ∧ DkAt B w2 g (wrP ((h.slot : Int) * 61 + 1) D (pre ++ [⟨(k, sx), hk4, hsx⟩])).1 ∧ Step B dkTypes w w2) from ⟨hs.keeps, hs.keeps.walks, by rw [hap], hs.other _ _ _ _ r0 (by decide), hs.other _ _ _ _ r1 (by decide), hs.other _ _ _ _ r2 (by decide), by rw [hap]; exact hd, hst.trans hs⟩)
      clear hap hst hDp r0 r1 r2 hwb hE hD2 hlen
      have hmx : Try.prog.follows .mixedOrders = true := by kernel_rfl
      gi_wp2
      -- REG ONE
      refine wpIn_region_any (F := Fence.wide.inRound l) hmx (wpAnyIn_round l (noDefers_of (by kernel_rfl)) _ _ _ _ ?_)
      (try (change wpAnyIn _ _ _ _ _ _ _ _ _ (World.drew _)))
      refine wpAnyIn_take (i := 4) (v := ?_) rfl rfl (by kernel_rfl) (by kernel_rfl) (by kernel_rfl) (fun _ _ _ h => h) ⟨Or.inl ⟨by rfl, ?_⟩, fun _ => rfl⟩ ?_
      rotate_left
      · intro w; go_simp; (try with_reducible rfl)
      refine wpAnyIn_take (i := 6) (v := ?_) rfl rfl (by kernel_rfl) (by kernel_rfl) (by kernel_rfl) (fun _ _ _ h => h) ⟨Or.inl ⟨by rfl, ?_⟩, fun _ => rfl⟩ ?_
      rotate_left
      · intro w; go_simp; (try with_reducible rfl)
      refine wpAnyIn_ready (rs := [0, 1]) (by kernel_rfl) (by simp) ?_
      refine AllReadyIn.cons rfl (fun K hK => ?_) ?_
      · go_simp
        refine hK _ _ ?_
        clear hK K
        refine wpAnyIn_ready (rs := [1]) (by kernel_rfl) (by simp) ?_
        refine AllReadyIn.cons rfl (fun K hK => ?_) AllReadyIn.nil
        go_simp
        refine hK _ _ ?_
        clear hK K
        refine wpAnyIn_ready (rs := [2]) (by kernel_rfl) (by simp) ?_
        refine AllReadyIn.cons rfl (fun K hK => ?_) AllReadyIn.nil
        go_simp
        refine ⟨trivial, ?_⟩
        (with_reducible refine (callsIn_wide.2 (HS.out _)).mono ?_)
        rintro e wS ⟨rfl, hbS⟩
        (try go_simp)
        refine hK _ _ ?_
        clear hK K
        have hbT := Below.trans (b := W.drew) (Below.refl W.heap.size W).drew hbS
        obtain ⟨m0, m1, m2, m3, m4⟩ := KC.out _ hbT
        refine wpAnyIn_take (i := 3) (v := ?_) rfl rfl (by kernel_rfl) (by kernel_rfl) (by kernel_rfl) (fun _ _ _ h => h) ⟨Or.inl ⟨by rfl, ?_⟩, fun _ => rfl⟩ ?_
        rotate_left
        · intro w; go_simp; (try with_reducible rfl)
        refine wpAnyIn_take (i := 5) (v := ?_) rfl rfl (by kernel_rfl) (by kernel_rfl) (by kernel_rfl) (fun _ _ _ h => h) ⟨Or.inl ⟨by rfl, ?_⟩, fun _ => rfl⟩ ?_
        rotate_left
        · intro w; go_simp; (try with_reducible rfl)
        refine wpAnyIn_ready (rs := [7]) (by kernel_rfl) (by simp) ?_
        refine AllReadyIn.cons rfl (fun K hK => ?_) AllReadyIn.nil
        go_simp
        refine ⟨trivial, ?_⟩
        (with_reducible refine (callsIn_wide.2 (HW.out _ hbT)).mono ?_)
        rintro e w2 ⟨rfl, hd2, hs2⟩
        (try go_simp)
        refine hK _ _ ?_
        clear hK K
        refine wpAnyIn_take (i := 8) (v := ?_) rfl rfl (by kernel_rfl) (by kernel_rfl) (by kernel_rfl) (fun _ _ _ h => h) ⟨Or.inl ⟨by rfl, ?_⟩, fun _ => rfl⟩ ?_
        rotate_left
        · intro w; go_simp; (try with_reducible rfl)
        refine wpAnyIn_done (by kernel_rfl) ?_ _
        gi_wp2
        exact FIN.out w2 hd2 hs2
      refine AllReadyIn.cons rfl (fun K hK => ?_) AllReadyIn.nil
      go_simp
      refine hK _ _ ?_
      clear hK K
      refine wpAnyIn_ready (rs := [0, 2]) (by kernel_rfl) (by simp) ?_
      refine AllReadyIn.cons rfl (fun K hK => ?_) ?_
      · go_simp
        refine hK _ _ ?_
        clear hK K
        refine wpAnyIn_ready (rs := [2]) (by kernel_rfl) (by simp) ?_
        refine AllReadyIn.cons rfl (fun K hK => ?_) AllReadyIn.nil
        go_simp
        refine ⟨trivial, ?_⟩
        (with_reducible refine (callsIn_wide.2 (HS.out _)).mono ?_)
        rintro e wS ⟨rfl, hbS⟩
        (try go_simp)
        refine hK _ _ ?_
        clear hK K
        have hbT := Below.trans (b := W.drew) (Below.refl W.heap.size W).drew hbS
        obtain ⟨m0, m1, m2, m3, m4⟩ := KC.out _ hbT
        refine wpAnyIn_take (i := 3) (v := ?_) rfl rfl (by kernel_rfl) (by kernel_rfl) (by kernel_rfl) (fun _ _ _ h => h) ⟨Or.inl ⟨by rfl, ?_⟩, fun _ => rfl⟩ ?_
        rotate_left
        · intro w; go_simp; (try with_reducible rfl)
        refine wpAnyIn_take (i := 5) (v := ?_) rfl rfl (by kernel_rfl) (by kernel_rfl) (by kernel_rfl) (fun _ _ _ h => h) ⟨Or.inl ⟨by rfl, ?_⟩, fun _ => rfl⟩ ?_
        rotate_left
        · intro w; go_simp; (try with_reducible rfl)
        refine wpAnyIn_ready (rs := [7]) (by kernel_rfl) (by simp) ?_
        refine AllReadyIn.cons rfl (fun K hK => ?_) AllReadyIn.nil
        go_simp
        refine ⟨trivial, ?_⟩
        (with_reducible refine (callsIn_wide.2 (HW.out _ hbT)).mono ?_)
        rintro e w2 ⟨rfl, hd2, hs2⟩
        (try go_simp)
        refine hK _ _ ?_
        clear hK K
        refine wpAnyIn_take (i := 8) (v := ?_) rfl rfl (by kernel_rfl) (by kernel_rfl) (by kernel_rfl) (fun _ _ _ h => h) ⟨Or.inl ⟨by rfl, ?_⟩, fun _ => rfl⟩ ?_
        rotate_left
        · intro w; go_simp; (try with_reducible rfl)
        refine wpAnyIn_done (by kernel_rfl) ?_ _
        gi_wp2
        exact FIN.out w2 hd2 hs2
      refine AllReadyIn.cons rfl (fun K hK => ?_) AllReadyIn.nil
      go_simp
      refine ⟨trivial, ?_⟩
      (with_reducible refine (callsIn_wide.2 (HS.out _)).mono ?_)
      rintro e wS ⟨rfl, hbS⟩
      (try go_simp)
      refine hK _ _ ?_
      clear hK K
      have hbT := Below.trans (b := W.drew) (Below.refl W.heap.size W).drew hbS
      obtain ⟨m0, m1, m2, m3, m4⟩ := KC.out _ hbT
      refine wpAnyIn_take (i := 3) (v := ?_) rfl rfl (by kernel_rfl) (by kernel_rfl) (by kernel_rfl) (fun _ _ _ h => h) ⟨Or.inl ⟨by rfl, ?_⟩, fun _ => rfl⟩ ?_
      rotate_left
      · intro w; go_simp; (try with_reducible rfl)
      refine wpAnyIn_take (i := 5) (v := ?_) rfl rfl (by kernel_rfl) (by kernel_rfl) (by kernel_rfl) (fun _ _ _ h => h) ⟨Or.inl ⟨by rfl, ?_⟩, fun _ => rfl⟩ ?_
      rotate_left
      · intro w; go_simp; (try with_reducible rfl)
      refine wpAnyIn_ready (rs := [0]) (by kernel_rfl) (by simp) ?_
      refine AllReadyIn.cons rfl (fun K hK => ?_) AllReadyIn.nil
      go_simp
      refine hK _ _ ?_
      clear hK K
      refine wpAnyIn_ready (rs := [7]) (by kernel_rfl) (by simp) ?_
      refine AllReadyIn.cons rfl (fun K hK => ?_) AllReadyIn.nil
      go_simp
      refine ⟨trivial, ?_⟩
      (with_reducible refine (callsIn_wide.2 (HW.out _ hbT)).mono ?_)
      rintro e w2 ⟨rfl, hd2, hs2⟩
      (try go_simp)
      refine hK _ _ ?_
      clear hK K
      refine wpAnyIn_take (i := 8) (v := ?_) rfl rfl (by kernel_rfl) (by kernel_rfl) (by kernel_rfl) (fun _ _ _ h => h) ⟨Or.inl ⟨by rfl, ?_⟩, fun _ => rfl⟩ ?_
      rotate_left
      · intro w; go_simp; (try with_reducible rfl)
      refine wpAnyIn_done (by kernel_rfl) ?_ _
      gi_wp2
      exact FIN.out w2 hd2 hs2
      -- END ONE
    · rw [if_neg e0] at hap
      have hv : errV E = .iface 64 (.int .i64 E) := by unfold errV; rw [if_neg e0]
      have HR2 := Lib.hid (fun w2 (hs : Step B dkTypes W w2) => show w2.heap[w.heap.size + 1 + 1]? = some (.cells #[.nilIface] 27 (0, 0)) from hs.other _ _ _ _ r2 (by decide))
      have FIN := Lib.hid (fun w2 (hd : DkAt B w2 g D2) (hs : Step B dkTypes W w2) => show KeepsOthers W (w2.setCell ⟨w.heap.size + 1 + 1, 0, none⟩ (.iface 64 (.int .i64 E))) ∧ (¬ (wrP ((h.slot : Int) * 61 + 1) D (pre ++ [⟨(k, sx), hk4, hsx⟩])).2 = 0 ∧ (w2.setCell ⟨w.heap.size + 1 + 1, 0, none⟩ (.iface 64 (.int .i64 E))).heap[w.heap.size + 1 + 1]? = some (.cells #[errV (wrP ((h.slot : Int) * 61 + 1) D (pre ++ [⟨(k, sx), hk4, hsx⟩])).2] 27 (0, 0)) ∧ DkAt B (w2.setCell ⟨w.heap.size + 1 + 1, 0, none⟩ (.iface 64 (.int .i64 E))) g (wrP ((h.slot : Int) * 61 + 1) D (pre ++ [⟨(k, sx), hk4, hsx⟩])).1 ∧ Step B dkTypes w (w2.setCell ⟨w.heap.size + 1 + 1, 0, none⟩ (.iface 64 (.int .i64 E)))) from by
        have rr := hs.other _ _ _ _ r2 (show 27 ∉ dkTypes by decide)
        have hset : Step B [27] w2 (w2.setCell ⟨w.heap.size + 1 + 1, 0, none⟩ (.iface 64 (.int .i64 E))) := (Step.refl B [27] w2).set rr (by omega) (by simp) _
        refine ⟨hs.keeps.trans (KeepsOthers.setCell _ _ _), by rw [hap]; exact e0, ?_, by rw [hap]; exact hd.step hset (by decide) (by decide) (by decide), Step.fresh (hst.trans hs) ((Below.refl _ _).setCell (p := ⟨w.heap.size + 1 + 1, 0, none⟩) (by show w.heap.size ≤ w.heap.size + 1 + 1; omega) _) hB⟩
        rw [hap, hv]
        exact heap_setCell_same w2 (w.heap.size + 1 + 1) 0 _ _ _ rr)
      rw [hv] at HW
      clear hap hst hDp r0 r1 r2 hwb hE hD2 hlen hv
      have hmx : Try.prog.follows .mixedOrders = true := by kernel_rfl
      gi_wp2
      -- REG TWO
      refine wpIn_region_any (F := Fence.wide.inRound l) hmx (wpAnyIn_round l (noDefers_of (by kernel_rfl)) _ _ _ _ ?_)
      (try (change wpAnyIn _ _ _ _ _ _ _ _ _ (World.drew _)))
      refine wpAnyIn_take (i := 4) (v := ?_) rfl rfl (by kernel_rfl) (by kernel_rfl) (by kernel_rfl) (fun _ _ _ h => h) ⟨Or.inl ⟨by rfl, ?_⟩, fun _ => rfl⟩ ?_
      rotate_left
      · intro w; go_simp; (try with_reducible rfl)
      refine wpAnyIn_take (i := 6) (v := ?_) rfl rfl (by kernel_rfl) (by kernel_rfl) (by kernel_rfl) (fun _ _ _ h => h) ⟨Or.inl ⟨by rfl, ?_⟩, fun _ => rfl⟩ ?_
      rotate_left
      · intro w; go_simp; (try with_reducible rfl)
      refine wpAnyIn_ready (rs := [0, 1]) (by kernel_rfl) (by simp) ?_
      refine AllReadyIn.cons rfl (fun K hK => ?_) ?_
      · go_simp
        refine hK _ _ ?_
        clear hK K
        refine wpAnyIn_ready (rs := [1]) (by kernel_rfl) (by simp) ?_
        refine AllReadyIn.cons rfl (fun K hK => ?_) AllReadyIn.nil
        go_simp
        refine hK _ _ ?_
        clear hK K
        refine wpAnyIn_ready (rs := [2]) (by kernel_rfl) (by simp) ?_
        refine AllReadyIn.cons rfl (fun K hK => ?_) AllReadyIn.nil
        go_simp
        refine ⟨trivial, ?_⟩
        (with_reducible refine (callsIn_wide.2 (HS.out _)).mono ?_)
        rintro e wS ⟨rfl, hbS⟩
        (try go_simp)
        refine hK _ _ ?_
        clear hK K
        have hbT := Below.trans (b := W.drew) (Below.refl W.heap.size W).drew hbS
        obtain ⟨m0, m1, m2, m3, m4⟩ := KC.out _ hbT
        refine wpAnyIn_take (i := 3) (v := ?_) rfl rfl (by kernel_rfl) (by kernel_rfl) (by kernel_rfl) (fun _ _ _ h => h) ⟨Or.inl ⟨by rfl, ?_⟩, fun _ => rfl⟩ ?_
        rotate_left
        · intro w; go_simp; (try with_reducible rfl)
        refine wpAnyIn_take (i := 5) (v := ?_) rfl rfl (by kernel_rfl) (by kernel_rfl) (by kernel_rfl) (fun _ _ _ h => h) ⟨Or.inl ⟨by rfl, ?_⟩, fun _ => rfl⟩ ?_
        rotate_left
        · intro w; go_simp; (try with_reducible rfl)
        refine wpAnyIn_ready (rs := [7]) (by kernel_rfl) (by simp) ?_
        refine AllReadyIn.cons rfl (fun K hK => ?_) AllReadyIn.nil
        go_simp
        refine ⟨trivial, ?_⟩
        (with_reducible refine (callsIn_wide.2 (HW.out _ hbT)).mono ?_)
        rintro e w2 ⟨rfl, hd2, hs2⟩
        (try go_simp)
        refine hK _ _ ?_
        clear hK K
        refine wpAnyIn_take (i := 8) (v := ?_) rfl rfl (by kernel_rfl) (by kernel_rfl) (by kernel_rfl) (fun _ _ _ h => h) ⟨Or.inl ⟨by rfl, ?_⟩, fun _ => rfl⟩ ?_
        rotate_left
        · intro w; go_simp; (try with_reducible rfl)
        refine wpAnyIn_done (by kernel_rfl) ?_ _
        have rr2 := HR2.out w2 hs2
        have cc2 : w2.cell? ⟨w.heap.size + 1 + 1, 0, none⟩ = some .nilIface := cell_of_row _ _ _ _ _ _ rr2
        have ff2 : w2.frozen? ⟨w.heap.size + 1 + 1, 0, none⟩ = false := frozen_of_row _ _ _ _ _ rr2
        clear rr2
        gi_wp2
        exact ⟨(FIN.out w2 hd2 hs2).1, rfl, (FIN.out w2 hd2 hs2).2⟩
      refine AllReadyIn.cons rfl (fun K hK => ?_) AllReadyIn.nil
      go_simp
      refine hK _ _ ?_
      clear hK K
      refine wpAnyIn_ready (rs := [0, 2]) (by kernel_rfl) (by simp) ?_
      refine AllReadyIn.cons rfl (fun K hK => ?_) ?_
      · go_simp
        refine hK _ _ ?_
        clear hK K
        refine wpAnyIn_ready (rs := [2]) (by kernel_rfl) (by simp) ?_
        refine AllReadyIn.cons rfl (fun K hK => ?_) AllReadyIn.nil
        go_simp
        refine ⟨trivial, ?_⟩
        (with_reducible refine (callsIn_wide.2 (HS.out _)).mono ?_)
        rintro e wS ⟨rfl, hbS⟩
        (try go_simp)
        refine hK _ _ ?_
        clear hK K
        have hbT := Below.trans (b := W.drew) (Below.refl W.heap.size W).drew hbS
        obtain ⟨m0, m1, m2, m3, m4⟩ := KC.out _ hbT
        refine wpAnyIn_take (i := 3) (v := ?_) rfl rfl (by kernel_rfl) (by kernel_rfl) (by kernel_rfl) (fun _ _ _ h => h) ⟨Or.inl ⟨by rfl, ?_⟩, fun _ => rfl⟩ ?_
        rotate_left
        · intro w; go_simp; (try with_reducible rfl)
        refine wpAnyIn_take (i := 5) (v := ?_) rfl rfl (by kernel_rfl) (by kernel_rfl) (by kernel_rfl) (fun _ _ _ h => h) ⟨Or.inl ⟨by rfl, ?_⟩, fun _ => rfl⟩ ?_
        rotate_left
        · intro w; go_simp; (try with_reducible rfl)
        refine wpAnyIn_ready (rs := [7]) (by kernel_rfl) (by simp) ?_
        refine AllReadyIn.cons rfl (fun K hK => ?_) AllReadyIn.nil
        go_simp
        refine ⟨trivial, ?_⟩
        (with_reducible refine (callsIn_wide.2 (HW.out _ hbT)).mono ?_)
        rintro e w2 ⟨rfl, hd2, hs2⟩
        (try go_simp)
        refine hK _ _ ?_
        clear hK K
        refine wpAnyIn_take (i := 8) (v := ?_) rfl rfl (by kernel_rfl) (by kernel_rfl) (by kernel_rfl) (fun _ _ _ h => h) ⟨Or.inl ⟨by rfl, ?_⟩, fun _ => rfl⟩ ?_
        rotate_left
        · intro w; go_simp; (try with_reducible rfl)
        refine wpAnyIn_done (by kernel_rfl) ?_ _
        have rr2 := HR2.out w2 hs2
        have cc2 : w2.cell? ⟨w.heap.size + 1 + 1, 0, none⟩ = some .nilIface := cell_of_row _ _ _ _ _ _ rr2
        have ff2 : w2.frozen? ⟨w.heap.size + 1 + 1, 0, none⟩ = false := frozen_of_row _ _ _ _ _ rr2
        clear rr2
        gi_wp2
        exact ⟨(FIN.out w2 hd2 hs2).1, rfl, (FIN.out w2 hd2 hs2).2⟩
      refine AllReadyIn.cons rfl (fun K hK => ?_) AllReadyIn.nil
      go_simp
      refine ⟨trivial, ?_⟩
      (with_reducible refine (callsIn_wide.2 (HS.out _)).mono ?_)
      rintro e wS ⟨rfl, hbS⟩
      (try go_simp)
      refine hK _ _ ?_
      clear hK K
      have hbT := Below.trans (b := W.drew) (Below.refl W.heap.size W).drew hbS
      obtain ⟨m0, m1, m2, m3, m4⟩ := KC.out _ hbT
      refine wpAnyIn_take (i := 3) (v := ?_) rfl rfl (by kernel_rfl) (by kernel_rfl) (by kernel_rfl) (fun _ _ _ h => h) ⟨Or.inl ⟨by rfl, ?_⟩, fun _ => rfl⟩ ?_
      rotate_left
      · intro w; go_simp; (try with_reducible rfl)
      refine wpAnyIn_take (i := 5) (v := ?_) rfl rfl (by kernel_rfl) (by kernel_rfl) (by kernel_rfl) (fun _ _ _ h => h) ⟨Or.inl ⟨by rfl, ?_⟩, fun _ => rfl⟩ ?_
      rotate_left
      · intro w; go_simp; (try with_reducible rfl)
      refine wpAnyIn_ready (rs := [0]) (by kernel_rfl) (by simp) ?_
      refine AllReadyIn.cons rfl (fun K hK => ?_) AllReadyIn.nil
      go_simp
      refine hK _ _ ?_
      clear hK K
      refine wpAnyIn_ready (rs := [7]) (by kernel_rfl) (by simp) ?_
      refine AllReadyIn.cons rfl (fun K hK => ?_) AllReadyIn.nil
      go_simp
      refine ⟨trivial, ?_⟩
      (with_reducible refine (callsIn_wide.2 (HW.out _ hbT)).mono ?_)
      rintro e w2 ⟨rfl, hd2, hs2⟩
      (try go_simp)
      refine hK _ _ ?_
      clear hK K
      refine wpAnyIn_take (i := 8) (v := ?_) rfl rfl (by kernel_rfl) (by kernel_rfl) (by kernel_rfl) (fun _ _ _ h => h) ⟨Or.inl ⟨by rfl, ?_⟩, fun _ => rfl⟩ ?_
      rotate_left
      · intro w; go_simp; (try with_reducible rfl)
      refine wpAnyIn_done (by kernel_rfl) ?_ _
      have rr2 := HR2.out w2 hs2
      have cc2 : w2.cell? ⟨w.heap.size + 1 + 1, 0, none⟩ = some .nilIface := cell_of_row _ _ _ _ _ _ rr2
      have ff2 : w2.frozen? ⟨w.heap.size + 1 + 1, 0, none⟩ = false := frozen_of_row _ _ _ _ _ rr2
      clear rr2
      gi_wp2
      exact ⟨(FIN.out w2 hd2 hs2).1, rfl, (FIN.out w2 hd2 hs2).2⟩
      -- END TWO
    --> body
  case done =>
    rintro Dk ys W hDk rfl ⟨hz, r0, r1, r2, hDp, hst⟩ hK
    have c0 : W.cell? ⟨w.heap.size, 0, none⟩ = some (.int .i64 h.slot) := cell_of_row _ _ _ _ _ _ r0
    have c1 : W.cell? ⟨w.heap.size, 1, none⟩ = some (.int .i64 h.turn) := cell_of_row _ _ _ _ _ _ r0
    have c2 : W.cell? ⟨w.heap.size, 2, none⟩ = some (.int .i64 h.log) := cell_of_row _ _ _ _ _ _ r0
    have c3 : W.cell? ⟨w.heap.size, 3, none⟩ = some (.int .i64 h.rows) := cell_of_row _ _ _ _ _ _ r0
    have c4 : W.cell? ⟨w.heap.size + 1, 0, none⟩ = some (.pointer (some ⟨g, 0, none⟩)) := cell_of_row _ _ _ _ _ _ r1
    obtain ⟨Dp, hDpe⟩ : ∃ Dp, (wrP ((h.slot : Int) * 61 + 1) D (pcsOf T)).1 = Dp := ⟨_, rfl⟩
    rw [hDpe] at hDp
    have hRS : hdWr2 (Dp, 0) h = R := by
      rw [← hR]
      unfold hdWrite
      rw [hT]
      congr 1
      rw [← hDpe, ← hz]
    have hwb := wrP_wr ((h.slot : Int) * 61 + 1) (pcsOf T) D
    rw [hDpe] at hwb
    unfold hdWr2 at hRS
    rw [if_neg (by simp)] at hRS
    simp only at hRS
    have HEND := Lib.hid (fun (w5 : World) (E : Int) (D5 : DkM) (hE : (D5, E) = R) (hd : DkAt B w5 g D5) (hs : Step B dkTypes w w5) (hr : w5.heap[w.heap.size + 1 + 1]? = some (.cells #[errV E] 27 (0, 0))) (hk : w5.heap[Dk]? = some (.deferred (some []))) => show (w5.putObj Dk (.deferred none)).cell? ⟨w.heap.size + 1 + 1, 0, none⟩ = some (errV R.2) ∧ errV R.2 = errV R.2 ∧ DkAt B (w5.putObj Dk (.deferred none)) g R.1 ∧ Step B dkTypes w (w5.putObj Dk (.deferred none)) from by
      subst hE
      exact ⟨cell_kept (cell_of_row _ _ _ _ _ _ hr) (grownBy_putObj' _ Dk (.deferred none)) (fun r e => by cases e; exact ⟨_, hk, rfl⟩), rfl, hd.grownRow (grownBy_putObj' _ Dk (.deferred none)) (fun r e => by cases e; exact ⟨_, hk, rfl⟩), hs.grownRow hB (grownBy_putObj' _ Dk (.deferred none)) (fun r e => by cases e; exact ⟨Nat.le_trans hge hDk, _, hk, rfl⟩)⟩)
    have HSET := Lib.hid (fun (w5 : World) (v v' : Value) (D5 : DkM) (hd : DkAt B w5 g D5) (hs : Step B dkTypes W w5) (hr : w5.heap[w.heap.size + 1 + 1]? = some (.cells #[v] 27 (0, 0))) => show DkAt B (w5.setCell ⟨w.heap.size + 1 + 1, 0, none⟩ v') g D5 ∧ (w5.setCell ⟨w.heap.size + 1 + 1, 0, none⟩ v').heap[w.heap.size + 1 + 1]? = some (.cells #[v'] 27 (0, 0)) ∧ KeepsOthers w5 (w5.setCell ⟨w.heap.size + 1 + 1, 0, none⟩ v') ∧ Step B dkTypes w (w5.setCell ⟨w.heap.size + 1 + 1, 0, none⟩ v') from
      ⟨hd.step ((Step.refl B [27] w5).set hr (by omega) (by simp) v') (by decide) (by decide) (by decide), heap_setCell_same w5 (w.heap.size + 1 + 1) 0 _ _ v' hr, KeepsOthers.setCell _ _ _, Step.fresh (hst.trans hs) ((Below.refl _ _).setCell (p := ⟨w.heap.size + 1 + 1, 0, none⟩) (by show w.heap.size ≤ w.heap.size + 1 + 1; omega) _) hB⟩)
    have HF1 := Lib.hid (dkFlush_any B g W Dp hDp)
    have HR := Lib.hid (fun w5 (hs : Step B dkTypes W w5) => show w5.heap[w.heap.size]? = some (.cells #[.int .i64 h.slot, .int .i64 h.turn, .int .i64 h.log, .int .i64 h.rows] 74 (0, 0)) ∧ w5.heap[w.heap.size + 1]? = some (.cells #[.pointer (some ⟨g, 0, none⟩)] 25 (0, 0)) ∧ w5.heap[w.heap.size + 1 + 1]? = some (.cells #[.nilIface] 27 (0, 0)) ∧ w5.heap[Dk]? = some (.deferred (some [])) from ⟨hs.other _ _ _ _ r0 (by decide), hs.other _ _ _ _ r1 (by decide), hs.other _ _ _ _ r2 (by decide), hs.rest _ _ hK (fun cs t fr e => by cases e)⟩)
    have KR := Lib.hid (fun w' (hs : Step B dkTypes W w') => show w'.cell? ⟨w.heap.size, 0, none⟩ = some (.int .i64 h.slot) ∧ w'.cell? ⟨w.heap.size, 1, none⟩ = some (.int .i64 h.turn) ∧ w'.cell? ⟨w.heap.size, 2, none⟩ = some (.int .i64 h.log) ∧ w'.cell? ⟨w.heap.size, 3, none⟩ = some (.int .i64 h.rows) ∧ w'.cell? ⟨w.heap.size + 1, 0, none⟩ = some (.pointer (some ⟨g, 0, none⟩)) from by
      obtain ⟨a0, a1, _⟩ := HR.out w' hs
      exact ⟨cell_of_row _ _ _ _ _ _ a0, cell_of_row _ _ _ _ _ _ a0, cell_of_row _ _ _ _ _ _ a0, cell_of_row _ _ _ _ _ _ a0, cell_of_row _ _ _ _ _ _ a1⟩)
    have hbW := Lib.hid (show W0.heap.size ≤ W.heap.size from by have := (Array.getElem?_eq_some_iff.1 hK).1; omega)
    obtain ⟨E1, hE1⟩ : ∃ E, dkStepE Dp = E := ⟨_, rfl⟩
    rw [hE1] at HF1 hRS
    clear hz r0 r1 r2 hDp hst hK hDpe hR hT hE1
    gi_wp2
    refine ⟨trivial, ?_⟩
    (with_reducible refine (callsIn_wide.2 HF1.out).mono ?_)
    rintro e w2 ⟨rfl, hd2, hs2⟩
    obtain ⟨q0, q1, q2, qk⟩ := HR.out w2 hs2
    clear c0 c1 c2 c3 c4
    by_cases e1 : E1 = 0
    · subst e1
      rw [if_neg (by simp)] at hRS
      rw [show errV 0 = .nilIface from rfl]
      have c0 : w2.cell? ⟨w.heap.size, 0, none⟩ = some (.int .i64 h.slot) := cell_of_row _ _ _ _ _ _ q0
      have c1 : w2.cell? ⟨w.heap.size, 1, none⟩ = some (.int .i64 h.turn) := cell_of_row _ _ _ _ _ _ q0
      have c2 : w2.cell? ⟨w.heap.size, 2, none⟩ = some (.int .i64 h.log) := cell_of_row _ _ _ _ _ _ q0
      have c3 : w2.cell? ⟨w.heap.size, 3, none⟩ = some (.int .i64 h.rows) := cell_of_row _ _ _ _ _ _ q0
      have c4 : w2.cell? ⟨w.heap.size + 1, 0, none⟩ = some (.pointer (some ⟨g, 0, none⟩)) := cell_of_row _ _ _ _ _ _ q1
      have KC := Lib.hid (fun w' (hb : Below w2.heap.size w2 w') => show w'.cell? ⟨w.heap.size, 0, none⟩ = some (.int .i64 h.slot) ∧ w'.cell? ⟨w.heap.size, 1, none⟩ = some (.int .i64 h.turn) ∧ w'.cell? ⟨w.heap.size, 2, none⟩ = some (.int .i64 h.log) ∧ w'.cell? ⟨w.heap.size, 3, none⟩ = some (.int .i64 h.rows) ∧ w'.cell? ⟨w.heap.size + 1, 0, none⟩ = some (.pointer (some ⟨g, 0, none⟩)) from ⟨(hb.cell (Array.getElem?_eq_some_iff.1 q0).1).trans c0, (hb.cell (Array.getElem?_eq_some_iff.1 q0).1).trans c1, (hb.cell (Array.getElem?_eq_some_iff.1 q0).1).trans c2, (hb.cell (Array.getElem?_eq_some_iff.1 q0).1).trans c3, (hb.cell (Array.getElem?_eq_some_iff.1 q1).1).trans c4⟩)
      have HS := Lib.hid (fun w' => hdSector_any h w' h0)
      have HTX := Lib.hid (fun w' => hdText_any h w' h1 h2 h3)
      have htz : (hdText h).size ≤ 80 := by
        unfold hdText
        rw [ByteArray.size_append]
        show 17 + 3 ≤ 80
        omega
      obtain ⟨T2, hT2⟩ : ∃ T2, hdText h = T2 := ⟨_, rfl⟩
      rw [hT2] at HTX htz hRS
      obtain ⟨D1, hD1⟩ : ∃ D1, dkFlush Dp = D1 := ⟨_, rfl⟩
      rw [hD1] at hd2 hRS
      have hwl : D1.wr.length ≤ 1000000 := by
        rw [← hD1]
        unfold dkFlush
        split
        · simp [dkSaved]
        · rw [dkStep_wr]; omega
      have HW := Lib.hid (fun w' (hb : Below w2.heap.size w2 w') => (dkWrite_any B g w' D1 ((h.slot : Int) * 61) T2 (hd2.below hb) (by unfold maxLen; omega) hwl).mono (R' := fun e w5 => e = .returned (errV (dkWriteE D1 ((h.slot : Int) * 61) T2)) ∧ DkAt B w5 g (dkWrite D1 ((h.slot : Int) * 61) T2) ∧ Step B dkTypes W w5) (fun e w5 ⟨he, hd, hs⟩ => ⟨he, hd, (hs2.trans (Step.of_below hb (Nat.le_trans (Nat.le_trans hB (Nat.le_trans hge hbW.out)) hs2.size))).trans hs⟩))
      obtain ⟨E2, hE2⟩ : ∃ E, dkWriteE D1 ((h.slot : Int) * 61) T2 = E := ⟨_, rfl⟩
      obtain ⟨D2, hD2⟩ : ∃ D2, dkWrite D1 ((h.slot : Int) * 61) T2 = D2 := ⟨_, rfl⟩
      rw [hE2, hD2] at HW hRS
      have hh0 : (h.slot : Int) ≤ 1 := by omega
      clear hd2 hs2 q0 q1 q2 qk hE2 hD2 hD1 hT2 htz
      gi_wp2
      by_cases e2 : E2 = 0
      · subst e2
        rw [if_neg (by simp)] at hRS
        rw [show errV 0 = .nilIface from rfl] at HW
        refine wpIn_wide.2 ?_
        go_region_held3 (fun w' => w'.cell? ⟨w.heap.size, 0, none⟩ = some (.int .i64 h.slot) ∧ w'.cell? ⟨w.heap.size, 1, none⟩ = some (.int .i64 h.turn) ∧ w'.cell? ⟨w.heap.size, 2, none⟩ = some (.int .i64 h.log) ∧ w'.cell? ⟨w.heap.size, 3, none⟩ = some (.int .i64 h.rows) ∧ w'.cell? ⟨w.heap.size + 1, 0, none⟩ = some (.pointer (some ⟨g, 0, none⟩))) (first | with_reducible exact ⟨c0, c1, c2, c3, c4⟩ | with_reducible exact hk9 | with_reducible exact KC.out _ (by (repeat (first | with_reducible exact Below.refl _ _ | with_reducible refine belowAlloc9 ?_ _ | with_reducible refine Below.drew ?_ | with_reducible refine belowThen ?_ hb4 | with_reducible refine belowThen ?_ hb3)); (first | done | fail)) | fail)
          (first
            | (go_at_call 41; (with_reducible refine (HS.out _).mono ?_); rintro e w3 ⟨rfl, hb3⟩)
            | (go_at_call 55; (with_reducible refine (HTX.out _).mono ?_); rintro e w4 ⟨rfl, hb4⟩)
            | (go_at_call 53; (with_reducible refine (HW.out _ (by (repeat (first | with_reducible exact Below.refl _ _ | with_reducible refine belowAlloc9 ?_ _ | with_reducible refine Below.drew ?_ | with_reducible refine belowThen ?_ hb4 | with_reducible refine belowThen ?_ hb3)); (first | done | fail))).mono ?_); rintro e w5 ⟨rfl, hd5, hs5⟩; have hk9 := KR.out _ hs5)
            | fail)
        all_goals
          obtain ⟨q0, q1, q2, qk⟩ := HR.out w5 hs5
          have c4' : w5.cell? ⟨w.heap.size + 1, 0, none⟩ = some (.pointer (some ⟨g, 0, none⟩)) := cell_of_row _ _ _ _ _ _ q1
          clear q0 q1 q2 qk
          gi_wp2
          refine ⟨trivial, ?_⟩
          (with_reducible refine (callsIn_wide.2 (dkFlush_any B g w5 D2 hd5)).mono ?_)
          rintro e w6 ⟨rfl, hd6, hs6⟩
          obtain ⟨q0, q1, q2, qk⟩ := HR.out w6 (hs5.trans hs6)
          have cc2 : w6.cell? ⟨w.heap.size + 1 + 1, 0, none⟩ = some .nilIface := cell_of_row _ _ _ _ _ _ q2
          have ff2 : w6.frozen? ⟨w.heap.size + 1 + 1, 0, none⟩ = false := frozen_of_row _ _ _ _ _ q2
          obtain ⟨z1, z2, z3, z4⟩ := HSET.out w6 _ (errV (dkStepE D2)) _ hd6 (hs5.trans hs6) q2
          have hk5 := z3.same Dk _ qk rfl
          obtain ⟨k1, -, k3, k4⟩ := HEND.out _ (dkStepE D2) _ hRS z1 z4 z2 hk5
          clear z1 z2 z3 z4
          have hv : errV (dkStepE D2) = .nilIface ∨ errV (dkStepE D2) = .iface 64 (.int .i64 (dkStepE D2)) := by unfold errV; split <;> simp
          obtain ⟨V, hV⟩ : ∃ V, errV (dkStepE D2) = V := ⟨_, rfl⟩
          rw [hV] at hk5 k1 k3 k4 hv ⊢
          rcases hv with hv | hv
          all_goals
            subst hv
            gi_wp2
            refine ⟨by simp, .inl ⟨_, _, rfl, run_takeDeferred hk5, ?_⟩⟩
            refine ⟨errV R.2, ?_, rfl, k3, k4⟩
            simp [results, Try.f35, go_sem, k1]
      · rw [if_pos e2] at hRS
        have hv : errV E2 = .iface 64 (.int .i64 E2) := by unfold errV; rw [if_neg e2]
        rw [hv] at HW
        refine wpIn_wide.2 ?_
        go_region_held3 (fun w' => w'.cell? ⟨w.heap.size, 0, none⟩ = some (.int .i64 h.slot) ∧ w'.cell? ⟨w.heap.size, 1, none⟩ = some (.int .i64 h.turn) ∧ w'.cell? ⟨w.heap.size, 2, none⟩ = some (.int .i64 h.log) ∧ w'.cell? ⟨w.heap.size, 3, none⟩ = some (.int .i64 h.rows) ∧ w'.cell? ⟨w.heap.size + 1, 0, none⟩ = some (.pointer (some ⟨g, 0, none⟩))) (first | with_reducible exact ⟨c0, c1, c2, c3, c4⟩ | with_reducible exact hk9 | with_reducible exact KC.out _ (by (repeat (first | with_reducible exact Below.refl _ _ | with_reducible refine belowAlloc9 ?_ _ | with_reducible refine Below.drew ?_ | with_reducible refine belowThen ?_ hb4 | with_reducible refine belowThen ?_ hb3)); (first | done | fail)) | fail)
          (first
            | (go_at_call 41; (with_reducible refine (HS.out _).mono ?_); rintro e w3 ⟨rfl, hb3⟩)
            | (go_at_call 55; (with_reducible refine (HTX.out _).mono ?_); rintro e w4 ⟨rfl, hb4⟩)
            | (go_at_call 53; (with_reducible refine (HW.out _ (by (repeat (first | with_reducible exact Below.refl _ _ | with_reducible refine belowAlloc9 ?_ _ | with_reducible refine Below.drew ?_ | with_reducible refine belowThen ?_ hb4 | with_reducible refine belowThen ?_ hb3)); (first | done | fail))).mono ?_); rintro e w5 ⟨rfl, hd5, hs5⟩; have hk9 := KR.out _ hs5)
            | fail)
        all_goals
          obtain ⟨q0, q1, q2, qk⟩ := HR.out w5 hs5
          have cc2 : w5.cell? ⟨w.heap.size + 1 + 1, 0, none⟩ = some .nilIface := cell_of_row _ _ _ _ _ _ q2
          have ff2 : w5.frozen? ⟨w.heap.size + 1 + 1, 0, none⟩ = false := frozen_of_row _ _ _ _ _ q2
          obtain ⟨z1, z2, z3, z4⟩ := HSET.out w5 _ (errV E2) _ hd5 hs5 q2
          have hk5 := z3.same Dk _ qk rfl
          obtain ⟨k1, -, k3, k4⟩ := HEND.out _ E2 _ hRS z1 z4 z2 hk5
          rw [hv] at hk5 k1 k3 k4
          clear z1 z2 z3 z4
          gi_wp2
          refine ⟨by simp, .inl ⟨_, _, rfl, run_takeDeferred hk5, ?_⟩⟩
          refine ⟨errV R.2, ?_, rfl, k3, k4⟩
          simp [results, Try.f35, go_sem, k1]
    · rw [if_pos e1] at hRS
      have hv : errV E1 = .iface 64 (.int .i64 E1) := by unfold errV; rw [if_neg e1]
      have cc2 : w2.cell? ⟨w.heap.size + 1 + 1, 0, none⟩ = some .nilIface := cell_of_row _ _ _ _ _ _ q2
      have ff2 : w2.frozen? ⟨w.heap.size + 1 + 1, 0, none⟩ = false := frozen_of_row _ _ _ _ _ q2
      obtain ⟨z1, z2, z3, z4⟩ := HSET.out w2 _ (errV E1) _ hd2 hs2 q2
      have hk5 := z3.same Dk _ qk rfl
      obtain ⟨k1, -, k3, k4⟩ := HEND.out _ E1 _ hRS z1 z4 z2 hk5
      rw [hv] at hk5 k1 k3 k4 ⊢
      clear z1 z2 z3 z4
      gi_wp2
      refine ⟨by simp, .inl ⟨_, _, rfl, run_takeDeferred hk5, ?_⟩⟩
      refine ⟨errV R.2, ?_, rfl, k3, k4⟩
      simp [results, Try.f35, go_sem, k1]
  case stop =>
    rintro Dk cd pre W hDk hpre ⟨rfl, hz, r2, hDp, hst⟩ hK
    have hRS : wrP ((h.slot : Int) * 61 + 1) D pre = R := by
      rw [← hR]
      unfold hdWrite
      obtain ⟨rest, hrest⟩ := hpre
      rw [hT, ← hrest, wrP_append, if_neg hz]
      unfold hdWr2
      rw [if_pos hz]
    rw [hRS] at hz r2 hDp
    gi_wp2
    refine ⟨by simp, .inl ⟨_, _, rfl, run_takeDeferred hK, ?_⟩⟩
    have hc5 := cell_kept (cell_of_row _ _ _ _ _ _ r2 : W.cell? ⟨w.heap.size + 1 + 1, 0, none⟩ = some (errV R.2)) (grownBy_putObj' _ Dk (.deferred none)) (fun r e => by cases e; exact ⟨_, hK, rfl⟩)
    refine ⟨errV R.2, ?_, ?_⟩
    · simp [results, Try.f35, go_sem, hc5]
    · exact ⟨rfl, hDp.grownRow (grownBy_putObj' _ Dk (.deferred none)) (fun r e => by cases e; exact ⟨_, hK, rfl⟩), hst.grownRow hB (grownBy_putObj' _ Dk (.deferred none)) (fun r e => by cases e; exact ⟨Nat.le_trans hge hDk, _, hK, rfl⟩)⟩
end Go.Proofs.Ythhedahfmllnoaa
