/- The store: headers, plainly; parseHeader. -/
import Derived.Test.YthhedahfmllnoaaZqRow2
namespace Go.Proofs.Ythhedahfmllnoaa
open Go.RowKit Go.PlainAid

/-- A header. -/
structure Hd where
  slot : Nat
  turn : Nat
  log : Nat
  rows : Nat
def titleL : List UInt8 := [99, 111, 117, 110, 116, 101, 114, 102, 111, 105, 108, 32, 115, 116, 111, 114, 101]
def titleB : ByteArray := ⟨#[99, 111, 117, 110, 116, 101, 114, 102, 111, 105, 108, 32, 115, 116, 111, 114, 101]⟩
theorem title_list : titleB.toList = titleL := by decide +kernel
def hdText (h : Hd) : ByteArray := titleB ++ ⟨#[UInt8.ofNat h.turn, UInt8.ofNat h.log, UInt8.ofNat h.rows]⟩
/-- What stands behind the title. -/
def hdRest (s : ByteArray) : ByteArray := s.extract 17 s.size
def hdGood (s : ByteArray) : Bool := ((s.extract 0 17).toList == titleL) && decide (bt (hdRest s) 0 ≤ 3) && decide (bt (hdRest s) 1 < 2) && decide (bt (hdRest s) 2 ≤ 80)
def hdParse (slot : Nat) (s : ByteArray) : Hd := if hdGood s = true then ⟨slot, (bt (hdRest s) 0).toNat, (bt (hdRest s) 1).toNat, (bt (hdRest s) 2).toNat⟩ else ⟨slot, 0, 0, 0⟩
def hdArr (h : Hd) : Array Value := #[.int .i64 h.slot, .int .i64 h.turn, .int .i64 h.log, .int .i64 h.rows]
def hdV (h : Hd) : Value := .agg (hdArr h)

theorem Try.infoHdS : (Try.prog.info? 74).map (·.size) = some 4 := by kernel_rfl
theorem results_cell1 {P : Program} {fn : Func} {p : Tmp} {ty : TypeId} (h : fn.results = #[.cell p ty]) (tmps : Array Value) (w : World) (g : Nat) (t : TypeId) (cs : Array Value) (fr : Nat × Nat) (d : TypeDesc)
    (hp : tmps.getD p undef = .pointer (some ⟨g, 0, none⟩)) (hg : w.heap[g]? = some (.cells cs t fr))
    (hu : P.underlying ty = some d) (hd : (match d with | .struct _ | .array _ _ => true | _ => false) = true) (hi : (P.info? ty).map (·.size) = some cs.size) :
    (results fn tmps).run P w = .ok (.agg cs) w := by
  have hp' : tmps[p]?.getD undef = .pointer (some ⟨g, 0, none⟩) := by simpa using hp
  simp [results, h, hp', asAddr, run_loadVar_row w g t ty cs fr d hg hu hd hi]

set_option maxRecDepth 100000 in
theorem hasPrefix_any (s t : ByteArray) (w : World) (ht : t.size ≤ s.size) :
    Calls Try.prog 73 #[.string s, .string t] w fun e w' => e = .returned (.bool ((s.extract 0 t.size).toList == t.toList)) ∧ Below w.heap.size w w' := by
  have HI : Calls Try.prog 79 #[.string s, .string t] w fun e w' => e = .returned (.bool ((s.extract 0 t.size).toList == t.toList)) ∧ Below w.heap.size w w' := by
    have i1 : (t.size : Int) ≤ (s.size : Int) := by omega
    go_enter Try.func79, Try.ntmps79
    go_wp2
    go_ret
    exact ⟨rfl, Below.refl _ _⟩
  have HI := Lib.hid HI
  go_enter Try.func73, Try.ntmps73
  go_wp2_with fail
  ((with_reducible refine HI.out.mono ?_); rintro e w1 ⟨rfl, hb1⟩)
  go_wp2
  go_ret
  exact ⟨rfl, hb1⟩

set_option maxHeartbeats 1000000 in
set_option maxRecDepth 100000 in
theorem parseHeader_any (slot : Nat) (s : ByteArray) (w : World) (hs : s.size = 80) :
    Calls Try.prog 58 #[.int .i64 slot, .string s] w fun e w' => e = .returned (hdV (hdParse slot s)) ∧ Below w.heap.size w w' := by
  have hz : (s.extract 17 80).size = 63 := by simp; omega
  have HP := Lib.hid (fun w' => hasPrefix_any s titleB w' (by rw [hs]; decide))
  have hr : hdRest s = s.extract 17 80 := by unfold hdRest; rw [hs]
  obtain ⟨r, hrr⟩ : ∃ r, s.extract 17 80 = r := ⟨_, rfl⟩
  rw [hrr] at hz hr
  obtain ⟨n0, h0⟩ : ∃ n : Nat, bt r 0 = (n : Int) := ⟨(bt r 0).toNat, by have := bt_nonneg r 0; omega⟩
  obtain ⟨n1, h1⟩ : ∃ n : Nat, bt r 1 = (n : Int) := ⟨(bt r 1).toNat, by have := bt_nonneg r 1; omega⟩
  obtain ⟨n2, h2⟩ : ∃ n : Nat, bt r 2 = (n : Int) := ⟨(bt r 2).toNat, by have := bt_nonneg r 2; omega⟩
  have g0 : ((r[0]'(by omega)).toNat : Int) = (n0 : Int) := by rw [get_bt r 0 (by omega), h0]
  have g1 : ((r[1]'(by omega)).toNat : Int) = (n1 : Int) := by rw [get_bt r 1 (by omega), h1]
  have g2 : ((r[2]'(by omega)).toNat : Int) = (n2 : Int) := by rw [get_bt r 2 (by omega), h2]
  have hsz : s.size = 80 := hs
  have hps : (hdParse slot s) = if ((s.extract 0 17).toList == titleL && decide ((n0 : Int) ≤ 3) && decide ((n1 : Int) < 2) && decide ((n2 : Int) ≤ 80)) = true then ⟨slot, n0, n1, n2⟩ else ⟨slot, 0, 0, 0⟩ := by
    unfold hdParse hdGood
    rw [hr, h0, h1, h2]
    rfl
  obtain ⟨pr, hpr⟩ : ∃ b, ((s.extract 0 17).toList == titleL) = b := ⟨_, rfl⟩
  rw [hpr] at hps
  obtain ⟨H, hH⟩ : ∃ H, hdParse slot s = H := ⟨_, rfl⟩
  rw [hH] at hps ⊢
  have hpp : ((s.extract 0 titleB.size).toList == titleB.toList) = pr := by rw [← hpr, title_list, show titleB.size = 17 from rfl]
  rw [hpp] at HP
  unfold titleB at HP
  have HPS := Lib.hid hps
  have k0 : (n0 : Int) ≤ 255 := by rw [← h0]; exact bt_le r 0
  have k1 : (n1 : Int) ≤ 255 := by rw [← h1]; exact bt_le r 1
  have k2 : (n2 : Int) ≤ 255 := by rw [← h2]; exact bt_le r 2
  clear hps hr h0 h1 h2 hpr hpp
  go_enter Try.func58, Try.ntmps58
  go_wp2
  go_region
  have two := two_alloc w (.cells #[.int .i64 0, .int .i64 0, .int .i64 0, .int .i64 0] 74) (.cells #[.int .i64 slot, .int .i64 n0, .int .i64 n1, .int .i64 n2] 74)
  obtain ⟨r1, r2, r3, r4⟩ := two
  generalize ((w.alloc (.cells #[.int .i64 0, .int .i64 0, .int .i64 0, .int .i64 0] 74)).alloc (.cells #[.int .i64 slot, .int .i64 n0, .int .i64 n1, .int .i64 n2] 74)).drew = w1 at *
  have HRR := Lib.hid (And.intro r1 r2)
  clear r1 r2
  go_wp2_with fail
  ((with_reducible refine (HP.out _).mono ?_); rintro e w2 ⟨rfl, hb2⟩)
  obtain ⟨r1, r2⟩ := HRR.out
  have q1 := (hb2.block _ (by omega)).trans r1
  have q2 := (hb2.block _ (by omega)).trans r2
  have c0 : w2.cell? ⟨w.heap.size + 1, 0, none⟩ = some (.int .i64 slot) := cell_of_row _ _ _ _ _ _ q2
  have c1 : w2.cell? ⟨w.heap.size + 1, 1, none⟩ = some (.int .i64 n0) := cell_of_row _ _ _ _ _ _ q2
  have c2 : w2.cell? ⟨w.heap.size + 1, 2, none⟩ = some (.int .i64 n1) := cell_of_row _ _ _ _ _ _ q2
  have c3 : w2.cell? ⟨w.heap.size + 1, 3, none⟩ = some (.int .i64 n2) := cell_of_row _ _ _ _ _ _ q2
  have hb3 : Below w.heap.size w w2 := r4.trans (hb2.mono (by omega))
  have Q1 := Lib.hid q1
  have HB := Lib.hid (fun cs => below_setRow hb3 (Nat.le_refl _) (g := w.heap.size) cs)
  clear q1 q2 r1 r2 r4 hb2 hb3 HP HRR g0 g1 g2
  cases pr with
  | false =>
    go_wp2_with ((with_reducible refine isStore 74 ?_); refine wpList_store_at rfl 74 _ _ rfl w.heap.size 0 4 rfl 74 _ #[.int .i64 slot, .int .i64 0, .int .i64 0, .int .i64 0] rfl Q1.out Try.infoHdS (by simp) rfl (by simp [Value.oneCell']) _ (splice4 _ _ _ _ _ _ _ _) ?_)
    refine bodyPost_ret (results_cell1 rfl _ _ w.heap.size 74 #[.int .i64 slot, .int .i64 0, .int .i64 0, .int .i64 0] (0, 0) _ rfl (setRow_heap _ _ _ _ _ _ Q1.out) Try.underlying74 rfl Try.infoHdS) rfl ⟨by rw [HPS.out, if_neg (by simp <;> omega)]; rfl, HB.out _⟩
  | true =>
    by_cases t0 : (n0 : Int) ≤ 3
    · by_cases t1 : (n1 : Int) < 2
      · by_cases t2 : (n2 : Int) ≤ 80
        · go_wp2_with ((with_reducible refine isStore 74 ?_); refine wpList_store_at rfl 74 _ _ rfl w.heap.size 0 4 rfl 74 _ #[.int .i64 slot, .int .i64 n0, .int .i64 n1, .int .i64 n2] rfl Q1.out Try.infoHdS (by simp) rfl (by simp [Value.oneCell']) _ (splice4 _ _ _ _ _ _ _ _) ?_)
          refine bodyPost_ret (results_cell1 rfl _ _ w.heap.size 74 #[.int .i64 slot, .int .i64 n0, .int .i64 n1, .int .i64 n2] (0, 0) _ rfl (setRow_heap _ _ _ _ _ _ Q1.out) Try.underlying74 rfl Try.infoHdS) rfl ⟨by rw [HPS.out, if_pos (by simp; omega)]; rfl, HB.out _⟩
        · go_wp2_with ((with_reducible refine isStore 74 ?_); refine wpList_store_at rfl 74 _ _ rfl w.heap.size 0 4 rfl 74 _ #[.int .i64 slot, .int .i64 0, .int .i64 0, .int .i64 0] rfl Q1.out Try.infoHdS (by simp) rfl (by simp [Value.oneCell']) _ (splice4 _ _ _ _ _ _ _ _) ?_)
          refine bodyPost_ret (results_cell1 rfl _ _ w.heap.size 74 #[.int .i64 slot, .int .i64 0, .int .i64 0, .int .i64 0] (0, 0) _ rfl (setRow_heap _ _ _ _ _ _ Q1.out) Try.underlying74 rfl Try.infoHdS) rfl ⟨by rw [HPS.out, if_neg (by simp <;> omega)]; rfl, HB.out _⟩
      · go_wp2_with ((with_reducible refine isStore 74 ?_); refine wpList_store_at rfl 74 _ _ rfl w.heap.size 0 4 rfl 74 _ #[.int .i64 slot, .int .i64 0, .int .i64 0, .int .i64 0] rfl Q1.out Try.infoHdS (by simp) rfl (by simp [Value.oneCell']) _ (splice4 _ _ _ _ _ _ _ _) ?_)
        refine bodyPost_ret (results_cell1 rfl _ _ w.heap.size 74 #[.int .i64 slot, .int .i64 0, .int .i64 0, .int .i64 0] (0, 0) _ rfl (setRow_heap _ _ _ _ _ _ Q1.out) Try.underlying74 rfl Try.infoHdS) rfl ⟨by rw [HPS.out, if_neg (by simp <;> omega)]; rfl, HB.out _⟩
    · go_wp2_with ((with_reducible refine isStore 74 ?_); refine wpList_store_at rfl 74 _ _ rfl w.heap.size 0 4 rfl 74 _ #[.int .i64 slot, .int .i64 0, .int .i64 0, .int .i64 0] rfl Q1.out Try.infoHdS (by simp) rfl (by simp [Value.oneCell']) _ (splice4 _ _ _ _ _ _ _ _) ?_)
      refine bodyPost_ret (results_cell1 rfl _ _ w.heap.size 74 #[.int .i64 slot, .int .i64 0, .int .i64 0, .int .i64 0] (0, 0) _ rfl (setRow_heap _ _ _ _ _ _ Q1.out) Try.underlying74 rfl Try.infoHdS) rfl ⟨by rw [HPS.out, if_neg (by simp <;> omega)]; rfl, HB.out _⟩
end Go.Proofs.Ythhedahfmllnoaa
