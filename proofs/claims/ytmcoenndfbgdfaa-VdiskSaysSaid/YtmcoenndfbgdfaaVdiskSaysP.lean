/- VdiskSays is true for every input: for every number and all lists of acts the law returns true, and its arguments read as before. No conditions. -/
import Derived.Test.YtmcoenndfbgdfaaRv13
import Derived.Test.YtmcoenndfbgdfaaChange
import Derived.Test.YtmcoenndfbgdfaaRefC
import Derived.Test.YtmcoenndfbgdfaaRv1
import Derived.Deep.AppendLies
import Derived.Test.YtmcoenndfbgdfaaLight
import Derived.Test.YtmcoenndfbgdfaaSame
import Derived.Deep.DeepCutAuto
import Derived.Deep.CutBlock
import Derived.Test.YtmcoenndfbgdfaaActs

/- VdiskSays: one act on both sides; Changed, whatever is asked. -/
namespace Go.Proofs.Ytmcoenndfbgdfaa
open Go.RowKit

theorem rel_new (n : Nat) : VRel (emptyDisk n) (rvNew n) :=
  ⟨rfl, fun _ _ => rfl, rfl, rfl, fun _ h1 => absurd h1 (by simp [emptyDisk]), fun _ h => absurd h (by simp [rvNew]), fun _ h1 => absurd h1 (by simp [emptyDisk])⟩

theorem rel_dropX {D : DiskM} {R : RVm} (h : VRel D R) (id : Int) : dropErr D id = rvDropXE R id ∧ VRel (dropM D id) (rvDropX R id) := by
  have hp := h.pos id
  unfold dropErr rvDropXE dropM rvDropX
  rw [← hp]
  cases hpo : posIn D.snaps id with
  | none => exact ⟨rfl, h⟩
  | some i => exact ⟨rfl, rel_drop h (posIn_lt hpo).1⟩

theorem rel_change {D : DiskM} {R : RVm} (h : VRel D R) (h5 : D.snaps.length ≤ 5) (m : ActM) : chNum D m = rvNum R m ∧ chE D m = rvE R m ∧ VRel (changeM D m) (rvChange R m) := by
  unfold chNum rvNum chE rvE changeM rvChange
  by_cases k0 : (m.kind.toList == [119, 114, 105, 116, 101]) = true
  · simp only [k0, if_true]
    exact ⟨trivial, (rel_write h m.a m.s).1, (rel_write h m.a m.s).2⟩
  · simp only [if_neg k0]
    by_cases k1 : (m.kind.toList == [115, 105, 122, 101]) = true
    · simp only [k1, if_true]
      exact ⟨trivial, (rel_resize h m.a).1, (rel_resize h m.a).2⟩
    · simp only [if_neg k1]
      by_cases k2 : (m.kind.toList == [115, 110, 97, 112]) = true
      · simp only [k2, if_true]
        obtain ⟨e1, e2⟩ := rel_snap h h5
        refine ⟨?_, e1, e2⟩
        unfold snapId rvId
        rw [e1, h.next]
        split
        · omega
        · rfl
      · simp only [if_neg k2]
        by_cases k3 : (m.kind.toList == [117, 110, 115, 110, 97, 112]) = true
        · simp only [k3, if_true]
          exact ⟨trivial, (rel_dropX h m.a).1, (rel_dropX h m.a).2⟩
        · simp only [if_neg k3]
          by_cases k4 : (m.kind.toList == [102, 111, 114, 103, 101, 116]) = true
          · simp only [k4, if_true]
            exact ⟨trivial, trivial, rel_forget h⟩
          · simp only [if_neg k4]
            exact ⟨trivial, trivial, h⟩

theorem rvTime_write (R : RVm) (a : Int) (s : ByteArray) : (rvWrite R a s).time = R.time := by
  unfold rvWrite; split <;> rfl
theorem rvTime_resize (R : RVm) (a : Int) : (rvResize R a).time = R.time := by
  unfold rvResize; split <;> rfl
theorem rvTime_snap (R : RVm) : (rvSnap R).time = R.time := by
  unfold rvSnap; split <;> rfl
theorem rvTime_drop (R : RVm) (a : Int) : (rvDropX R a).time = R.time := by
  unfold rvDropX
  split
  · rfl
  · exact mrg_time _ _ _
theorem rvTime_change (R : RVm) (m : ActM) : (rvChange R m).time ≤ R.time + 1 := by
  unfold rvChange
  split
  · rw [rvTime_write]; omega
  · split
    · rw [rvTime_resize]; omega
    · split
      · rw [rvTime_snap]; omega
      · split
        · rw [rvTime_drop]; omega
        · split
          · exact Nat.le_refl _
          · omega

set_option maxHeartbeats 1000000 in
set_option maxRecDepth 100000 in
theorem rvChanged_none (B g : Nat) (w : World) (D : RVm) (a b : Int) (hD : RVAt B w g D) (h : rposIn D.snaps a = none ∨ rposIn D.snaps b = none) :
    Calls Try.prog 33 #[.pointer (some ⟨g, 0, none⟩), .int .i64 a, .int .i64 b] w (RvChgRet w [] 5) := by
  cases hpa : rposIn D.snaps a with
  | none =>
    cases hpb : rposIn D.snaps b with
    | none =>
      go_enter Try.func33, Try.ntmps33
      go_wp2_with fail
      ((with_reducible refine (rvat_none B g _ D a hD hpa).mono ?_); rintro e w1 ⟨rfl, n1, rfl⟩)
      go_wp2_with fail
      ((with_reducible refine (rvat_none B g _ D b (hD.below (below_drewN (Below.refl _ _) _)) hpb).mono ?_); rintro e w2 ⟨rfl, n2, rfl⟩)
      go_wp2
      go_ret2
      exact ⟨_, rfl, World.ownsRow_nil _ _ _ _, below_drewN (Below.refl _ _) _⟩
    | some k =>
      have dk : decide ((k : Int) < 0) = false := by simp
      go_enter Try.func33, Try.ntmps33
      go_wp2_with fail
      ((with_reducible refine (rvat_none B g _ D a hD hpa).mono ?_); rintro e w1 ⟨rfl, n1, rfl⟩)
      go_wp2_with fail
      ((with_reducible refine (rvat_some B g _ D b k (hD.below (below_drewN (Below.refl _ _) _)) hpb).mono ?_); rintro e w2 ⟨rfl, n2, rfl⟩)
      go_wp2
      go_ret2
      exact ⟨_, rfl, World.ownsRow_nil _ _ _ _, below_drewN (Below.refl _ _) _⟩
  | some i =>
    have hpb : rposIn D.snaps b = none := by
      rcases h with h | h
      · rw [hpa] at h; cases h
      · exact h
    have di : decide ((i : Int) < 0) = false := by simp
    go_enter Try.func33, Try.ntmps33
    go_wp2_with fail
    ((with_reducible refine (rvat_some B g _ D a i hD hpa).mono ?_); rintro e w1 ⟨rfl, n1, rfl⟩)
    go_wp2_with fail
    ((with_reducible refine (rvat_none B g _ D b (hD.below (below_drewN (Below.refl _ _) _)) hpb).mono ?_); rintro e w2 ⟨rfl, n2, rfl⟩)
    go_wp2
    go_ret2
    exact ⟨_, rfl, World.ownsRow_nil _ _ _ _, below_drewN (Below.refl _ _) _⟩

/-- The document's Changed says what the program's says. -/
theorem rvChanged_rel (B g : Nat) (w : World) (D : DiskM) (R : RVm) (a b : Int) (hD : RVAt B w g R) (h : VRel D R) :
    Calls Try.prog 33 #[.pointer (some ⟨g, 0, none⟩), .int .i64 a, .int .i64 b] w (RvChgRet w (chgAr D a b) (chgErr D a b)) := by
  cases hpa : posIn D.snaps a with
  | none =>
    rw [show chgAr D a b = [] by unfold chgAr; rw [hpa], show chgErr D a b = 5 by unfold chgErr; rw [hpa]]
    exact rvChanged_none B g w R a b hD (.inl (by rw [← h.pos]; exact hpa))
  | some i =>
    cases hpb : posIn D.snaps b with
    | none =>
      rw [show chgAr D a b = [] by unfold chgAr; rw [hpa, hpb], show chgErr D a b = 5 by unfold chgErr; rw [hpa, hpb]]
      exact rvChanged_none B g w R a b hD (.inr (by rw [← h.pos]; exact hpb))
    | some k =>
      rw [(rel_chg h hpa hpb).1, (rel_chg h hpa hpb).2]
      exact rvChanged_some B g w R a b hD i k (by rw [← h.pos]; exact hpa) (by rw [← h.pos]; exact hpb)
end Go.Proofs.Ytmcoenndfbgdfaa

/- changed: a disk behind a list of acts. -/
namespace Go.Proofs.Ytmcoenndfbgdfaa
open Go.RowKit

def runM (D : DiskM) (l : List ActM) : DiskM := l.foldl changeM D
theorem runM_snoc (D : DiskM) (l : List ActM) (k : Nat) (h : k < l.length) : runM D (l.take (k + 1)) = changeM (runM D (l.take k)) l[k] := by
  unfold runM; rw [List.take_succ_eq_append_getElem h, List.foldl_append]; rfl

/-- What changed answers: no disk, or the disk behind all acts. -/
def ChangedRet (w : World) (size : Int) (l : List ActM) (e : Ending) (w' : World) : Prop :=
  (e = .returned (.tuple #[.pointer none, .bool false]) ∧ Below w.heap.size w w') ∨
  ((1 ≤ size ∧ size ≤ 16) ∧ l.length ≤ 80 ∧ ∃ g, e = .returned (.tuple #[.pointer (some ⟨g, 0, none⟩), .bool true]) ∧ DiskAt w.heap.size w' g (runM (emptyDisk size.toNat) l) ∧ Below w.heap.size w w')

theorem DiskAt.lower {B B' g : Nat} {w : World} {D : DiskM} (h : DiskAt B w g D) (hB : B' ≤ B) : DiskAt B' w g D := by
  obtain ⟨h1, h2, sv, h3, LS, h4, h5, h6⟩ := h
  refine ⟨by omega, h2, sv, h3, LS, h4, ⟨h5.1, ?_⟩, h6⟩
  rcases h5.2 with h | ⟨g', cap, cur, e, hb, r⟩
  · exact .inl h
  · exact .inr ⟨g', cap, cur, e, by omega, r⟩

set_option maxHeartbeats 2000000 in
set_option maxRecDepth 100000 in
theorem changed_acts (A : Option Addr) (l : List ActM) (c : Nat) (size : Int) (w : World) (hA : ActsAt w w.heap.size A l) :
    Calls Try.prog 36 #[.int .i64 size, .slice A l.length c] w (ChangedRet w size l) := by
  have hm := hA.1
  unfold maxLen at hm
  go_enter Try.func36, Try.ntmps36
  go_wp2_with fail
  ((with_reducible refine (lightActs_any _ _ _ _ _ hA).mono ?_); rintro e w1 ⟨r, rfl, hr, hb1⟩)
  have HR := Lib.hid hr
  clear hr
  cases r
  · go_wp2
    go_ret2
    exact .inl ⟨rfl, hb1⟩
  · have h80 := HR.out rfl
    by_cases hsz : 1 ≤ size ∧ size ≤ 16
    · obtain ⟨n, rfl⟩ := Int.eq_ofNat_of_zero_le (show 0 ≤ size by omega)
      have hn : 1 ≤ n ∧ n ≤ 16 := by omega
      go_wp2_with fail
      ((with_reducible refine (new_yes n _ hn).mono ?_); rintro e w2 ⟨rfl, hD2, hb2⟩)
      have hb12 := belowThen hb1 hb2
      have hB : w.heap.size ≤ w1.heap.size := hb1.size
      clear hb1
      go_wp2
      go_loopw [8] (fun i w' => ∃ k : Nat, k ≤ l.length ∧ i = .int .i64 k ∧ DiskAt w1.heap.size w' w1.heap.size (runM (emptyDisk n) (l.take k)) ∧ Below w.heap.size w w') (fun i _ => l.length - (intOf i).toNat)
      case atStart => exact ⟨0, Nat.zero_le _, rfl, hD2, hb12⟩
      case round =>
        obtain ⟨k, hk, rfl, hD, hb⟩ := hrel
        by_cases hlt : k < l.length
        · obtain ⟨b, off, rfl, hact⟩ := (hA.below hb).2 k hlt
          have hc := hact.2.1
          have d0 : wr.cell? ⟨b, off + k * 9, none⟩ = some (.string l[k].kind) := hc 0 (by omega)
          have d1 : wr.cell? ⟨b, off + k * 9 + 1, none⟩ = some (.string l[k].s) := hc 1 (by omega)
          have d2 : wr.cell? ⟨b, off + k * 9 + 2, none⟩ = some (.int .i64 l[k].a) := hc 2 (by omega)
          have d3 : wr.cell? ⟨b, off + k * 9 + 3, none⟩ = some (.int .i64 l[k].b) := hc 3 (by omega)
          have d4 : wr.cell? ⟨b, off + k * 9 + 4, none⟩ = some (.int .i64 l[k].c) := hc 4 (by omega)
          have d5 : wr.cell? ⟨b, off + k * 9 + 5, none⟩ = some (.int .i64 l[k].d) := hc 5 (by omega)
          have d6 : wr.cell? ⟨b, off + k * 9 + 6, none⟩ = some (.int .u64 l[k].k) := hc 6 (by omega)
          have d7 : wr.cell? ⟨b, off + k * 9 + 7, none⟩ = some (.slice l[k].pA l[k].pL l[k].pC) := hc 7 (by omega)
          have d8 : wr.cell? ⟨b, off + k * 9 + 8, none⟩ = some (.slice l[k].cA l[k].cL l[k].cC) := hc 8 (by omega)
          have hss := hact.2.2.2.2.2.2.1
          have i1 : (k : Int) < (l.length : Int) := by omega
          have HC := Lib.hid (change_any w1.heap.size w1.heap.size wr _ l[k] hD hss)
          have HE := Lib.hid (runM_snoc (emptyDisk n) l k hlt)
          clear hc hact hss
          go_wp2_with fail
          (refine HC.out.mono ?_; rintro e w3 ⟨rfl, hD3, hs3⟩)
          go_wp2
          go_roundw
          case rel => exact ⟨k + 1, hlt, by go_num, by rw [HE.out]; exact hD3, hb.trans (hs3.below.mono hB)⟩
          case measure => simp [intOf]; omega
        · go_wp2
          go_ret2
          have hkl : l.take k = l := List.take_of_length_le (by omega)
          rw [hkl] at hD
          exact .inr ⟨by omega, by omega, _, rfl, hD.lower hB, hb⟩
    · go_wp2_with fail
      ((with_reducible refine (new_no size _ hsz).mono ?_); rintro e w2 ⟨rfl, rfl⟩)
      go_wp2
      go_ret2
      exact .inl ⟨rfl, hb1⟩
end Go.Proofs.Ytmcoenndfbgdfaa

/- The document's answer on areas: Page, AreasFault; and same. -/
namespace Go.Proofs.Ytmcoenndfbgdfaa
open Go.RowKit

set_option maxHeartbeats 2000000 in
set_option maxRecDepth 100000 in
theorem refPage_any (A : Option Addr) (cap : Nat) (l : List Ar) (s many : Int) (w : World) (hA : AreasAt w w.heap.size A l) (hl : l.length ≤ 20) (hv : Bd l) (hm1 : 1 ≤ many) (hm : many ≤ 9223372036854775807) :
    Calls Try.prog 12 #[.slice A l.length cap, .int .i64 s, .int .i64 many] w (AnsPg w (pageAr l s many) (pageNext l s many)) := by
  unfold pageAr pageNext
  obtain ⟨lo, hlo⟩ : ∃ lo, (max s 0).toNat = lo := ⟨_, rfl⟩
  rw [hlo]
  have hlo1 : ∀ k : Nat, s ≤ k ↔ lo ≤ k := fun k => by omega
  have HLO := Lib.hid hlo1
  clear hlo hlo1
  go_enter Try.func12, Try.ntmps12
  go_wp2_with fail
  ((with_reducible refine (marksOf_any _ _ l _ hA hl hv).mono ?_); rintro e w1 ⟨rfl, hw1⟩)
  unfold mAgg
  have hs1 := hw1.size
  go_wp2_with ((with_reducible refine isStore 35 ?_); refine wpList_store_at rfl 35 _ _ rfl w1.heap.size 0 16 rfl 35 _ (mArr _) rfl (heap_alloc_new _ _) Try.infoMarks (by simp) rfl (mArr_one _) _ (mArr_splice (fun _ => false) _) ?_)
  have hX0 := stored_marks w1 (fun i => hasB l i)
  have hW1 : Below w.heap.size w ((w1.alloc zeroMarks).setRow w1.heap.size (mArr (fun i => hasB l i))) := stored_below hw1 hs1 _ _
  have hz : w.heap.size ≤ ((w1.alloc zeroMarks).setRow w1.heap.size (mArr (fun i => hasB l i))).heap.size := hW1.size
  have hY0 : MBlk (((w1.alloc zeroMarks).setRow w1.heap.size (mArr (fun i => hasB l i))).alloc zeroMarks) (w1.heap.size + 1) 35 (fun _ => false) := by
    have := MBlk.new ((w1.alloc zeroMarks).setRow w1.heap.size (mArr (fun i => hasB l i))) 35 (fun _ => false)
    simpa using this
  go_loopw [10, 11] (fun tn t w' => ∃ (k : Nat) (n : Int) (Pg : Nat → Bool), k ≤ 16 ∧ t = .int .i64 k ∧ tn = .int .i64 n ∧ 0 ≤ n ∧ n ≤ many ∧ n ≤ k ∧ PgRel (fun i => hasB l i) lo many (max k lo) (many - n) Pg ∧ MBlk w' w1.heap.size 35 (fun i => hasB l i) ∧ MBlk w' (w1.heap.size + 1) 35 Pg ∧ Below w.heap.size w w') (fun _ t _ => 16 - (intOf t).toNat)
  case atStart => exact ⟨0, 0, _, by omega, rfl, rfl, by omega, by omega, by omega, by rw [show max 0 lo = lo by omega, show many - 0 = many by omega]; exact ⟨rfl, fun i _ => by simp⟩, hX0.keep (Below.heap_alloc _ _ _ (by simp)), hY0, hW1.alloc hz _⟩
  case round =>
    obtain ⟨k, n, Pg, hk, rfl, rfl, hn0, hnm, hnk, hR, hX, hY, hb⟩ := hrel
    clear hX0 hY0 hW1 hz
    have hsz := hb.size
    by_cases hlt : k < 16
    · obtain ⟨c1, c2⟩ := hX.marks k hlt
      obtain ⟨d1, d2⟩ := hY.marks k hlt
      cases hlk : hasB l k with
      | true =>
        simp only [hlk] at c1
        have HL := Lib.hid hlk; clear hlk
        by_cases hsk : s ≤ (k : Int)
        · have hlok := (HLO.out k).1 hsk
          rw [show max k lo = k by omega] at hR
          by_cases hnq : n = many
          · have hq : (n == many) = true := by simpa using hnq
            obtain ⟨n1, n2⟩ := hR.stop hlt HL.out (by omega)
            have N1 := Lib.hid n1
            have N2 := Lib.hid n2
            have hY2 : wr.heap[w1.heap.size + 1]? = some (.cells (mArr Pg) 35 (0, 0)) := hY
            clear n1 n2 hnq
            go_wp2_with ((with_reducible refine isLoad 29 ?_); refine wpList_load_at rfl 35 _ rfl (w1.heap.size + 1) 0 16 rfl 35 _ (0, 0) _ hY2 Try.underlying35 rfl Try.infoMarks (by simp [mArr_size]) _ (mArr_cut _) ?_)
            refine (refAreas_any Pg wr).mono ?_
            rintro e w3 h3
            obtain ⟨X, cx, rfl, hX3, hb3⟩ := h3.open
            go_wp2
            go_ret2
            rw [N1.out, N2.out]
            exact ⟨X, cx, rfl, hX3, hb.trans (hb3.mono hsz)⟩
          · have hq : (n == many) = false := by simpa using hnq
            have HR := Lib.hid (hR.take hlt HL.out (by omega))
            go_wp2
            go_roundw
            case rel => exact ⟨k + 1, n + 1, _, hlt, by go_num, rfl, by omega, by omega, by omega, by rw [show max (k + 1) lo = k + 1 by omega, show many - (n + 1) = many - n - 1 by omega]; exact HR.out, hX.keep (Below.heap_setCell _ _ _ _ (by simp)), hY.set k true, hb.setCell (by simp; omega) _⟩
            case measure => simp [intOf]; omega
        · have hlok : ¬ lo ≤ k := fun h => hsk ((HLO.out k).2 h)
          have hsk' : decide (s ≤ (k : Int)) = false := by simpa using hsk
          go_wp2
          go_roundw
          case rel => exact ⟨k + 1, n, Pg, hlt, by go_num, rfl, hn0, hnm, by omega, by rw [show max (k + 1) lo = max k lo by omega]; exact hR, hX, hY, hb⟩
          case measure => simp [intOf]; omega
      | false =>
        simp only [hlk] at c1
        have HL := Lib.hid hlk; clear hlk
        have hR' : PgRel (fun i => hasB l i) lo many (max (k + 1) lo) (many - n) Pg := by
          by_cases hlok : lo ≤ k
          · rw [show max k lo = k by omega] at hR
            rw [show max (k + 1) lo = k + 1 by omega]
            exact hR.skip hlt HL.out
          · rw [show max (k + 1) lo = max k lo by omega]; exact hR
        go_wp2
        go_roundw
        case rel => exact ⟨k + 1, n, Pg, hlt, by go_num, rfl, hn0, hnm, by omega, hR', hX, hY, hb⟩
        case measure => simp [intOf]; omega
    · obtain ⟨n1, n2⟩ := hR.all (by omega)
      have N1 := Lib.hid n1
      have N2 := Lib.hid n2
      have hY2 : wr.heap[w1.heap.size + 1]? = some (.cells (mArr Pg) 35 (0, 0)) := hY
      clear n1 n2
      go_wp2_with ((with_reducible refine isLoad 36 ?_); refine wpList_load_at rfl 35 _ rfl (w1.heap.size + 1) 0 16 rfl 35 _ (0, 0) _ hY2 Try.underlying35 rfl Try.infoMarks (by simp [mArr_size]) _ (mArr_cut _) ?_)
      refine (refAreas_any Pg wr).mono ?_
      rintro e w3 h3
      obtain ⟨X, cx, rfl, hX3, hb3⟩ := h3.open
      go_wp2
      go_ret2
      rw [N1.out, N2.out]
      exact ⟨X, cx, rfl, hX3, hb.trans (hb3.mono hsz)⟩

theorem assert_errno (n : Int) (w : World) : (Instr.typeAssert (.iface 83 (.int .i64 n)) 26 83 true).run Try.prog w = .ok (.tuple #[.int .i64 n, .bool true]) w := by kernel_rfl

set_option maxRecDepth 100000 in
theorem same_any (n f : Int) (w : World) (hn : 0 ≤ n) :
    Calls Try.prog 8 #[errV n, .int .i64 f] w fun e w' => e = .returned (.bool (decide (n = f))) ∧ w = w' := by
  by_cases h0 : n = 0
  · subst h0
    show Calls _ _ #[.nilIface, _] _ _
    go_enter Try.func8, Try.ntmps8
    go_wp2
    go_ret
    refine ⟨ret_bool ?_, rfl⟩
    rw [Bool.eq_iff_iff]; simp; omega
  · have e : errV n = .iface 83 (.int .i64 n) := by simp [errV, h0]
    rw [e]
    have hta := assert_errno n w
    by_cases hf : 0 < f
    · go_enter Try.func8, Try.ntmps8
      go_wp2
      go_ret
      refine ⟨ret_bool ?_, rfl⟩
      rw [Bool.eq_iff_iff]; simp
    · have hf' : decide (0 < f) = false := by simpa using hf
      go_enter Try.func8, Try.ntmps8
      go_wp2
      go_ret
      refine ⟨ret_bool ?_, rfl⟩
      symm; simp; omega
end Go.Proofs.Ytmcoenndfbgdfaa

/- number, tracked. -/
namespace Go.Proofs.Ytmcoenndfbgdfaa
open Go.RowKit

set_option maxRecDepth 100000 in
theorem number_any (n : Int) (w : World) (hn : 0 ≤ n ∧ n ≤ 100) : Calls Try.prog 37 #[errV n] w fun e w' => e = .returned (.int .i64 n) ∧ w = w' := by
  by_cases h0 : n = 0
  · subst h0
    show Calls _ _ #[.nilIface] _ _
    go_enter Try.func37, Try.ntmps37
    go_wp2
    go_ret
    exact ⟨rfl, rfl⟩
  · have e : errV n = .iface 83 (.int .i64 n) := by simp [errV, h0]
    rw [e]
    have hta := assert_errno n w
    have i1 : IntKind.i64.wrap n = n := IntWalk.i64_in _ (by omega)
    go_enter Try.func37, Try.ntmps37
    go_wp2
    go_ret
    exact ⟨rfl, rfl⟩

def trD1 : DiskM := snapM (emptyDisk 4)
def trD2 : DiskM := writeM trD1 2 ⟨#[120]⟩
def trD3 : DiskM := snapM trD2

theorem tr_new (w : World) : Calls Try.prog 23 #[.int .i64 4] w fun e w' => e = .returned (.tuple #[.pointer (some ⟨w.heap.size, 0, none⟩), .nilIface]) ∧ DiskAt w.heap.size w' w.heap.size (emptyDisk 4) ∧ Below w.heap.size w w' := new_yes 4 w (by decide)
theorem tr_snap1 (B g : Nat) (w : World) (hD : DiskAt B w g (emptyDisk 4)) : Calls Try.prog 42 #[.pointer (some ⟨g, 0, none⟩)] w fun e w' => e = .returned (.tuple #[.int .i64 1, .nilIface]) ∧ DiskAt B w' g trD1 ∧ Step B dTypes w w' := snap_any B g w _ hD
theorem tr_write (B g : Nat) (w : World) (hD : DiskAt B w g trD1) : Calls Try.prog 43 #[.pointer (some ⟨g, 0, none⟩), .int .i64 2, .string ⟨#[120]⟩] w fun e w' => e = .returned .nilIface ∧ DiskAt B w' g trD2 ∧ Step B dTypes w w' := write_any B g w _ 2 ⟨#[120]⟩ hD (by decide)
theorem tr_snap2 (B g : Nat) (w : World) (hD : DiskAt B w g trD2) : Calls Try.prog 42 #[.pointer (some ⟨g, 0, none⟩)] w fun e w' => e = .returned (.tuple #[.int .i64 2, .nilIface]) ∧ DiskAt B w' g trD3 ∧ Step B dTypes w w' := snap_any B g w _ hD
theorem tr_err : chgErr trD3 1 2 = 0 := by decide +kernel
theorem tr_ar : chgAr trD3 1 2 = [(2, 1)] := by decide +kernel
theorem tr_changed (B g : Nat) (w : World) (hD : DiskAt B w g trD3) : Calls Try.prog 32 #[.pointer (some ⟨g, 0, none⟩), .int .i64 1, .int .i64 2] w fun e w' => ∃ A c, e = .returned (.tuple #[.slice A 1 c, .nilIface]) ∧ AreasAt w' w'.heap.size A [(2, 1)] ∧ Below w.heap.size w w' := by
  have h := changed_any B g w trD3 1 2 hD
  rw [tr_err, tr_ar] at h
  exact h

theorem same_lit (A : Option Addr) (c : Nat) (w : World) (hA : AreasAt w w.heap.size A [(2, 1)]) :
    Calls Try.prog 13 #[.slice A 1 c, .slice (some ⟨w.heap.size, 0, none⟩) 1 1] (w.alloc (.cells #[.int .i64 2, .int .i64 1] 76)) fun e w' => e = .returned (.bool true) ∧ Below w.heap.size w w' := by
  have hb : Below w.heap.size w (w.alloc (.cells #[.int .i64 2, .int .i64 1] 76)) := (Below.refl _ _).alloc (Nat.le_refl _) _
  exact (sameAreas_yes A _ c 1 [(2, 1)] [(2, 1)] _ (hA.up hb) ((areasAt_one w 2 1).mono (by simp)) (by simp) rfl).mono fun _ _ ⟨h, k⟩ => ⟨h, belowThen hb k⟩

set_option maxRecDepth 100000 in
theorem tracked_any (w : World) : Calls Try.prog 35 #[] w fun e w' => e = .returned (.bool true) ∧ Below w.heap.size w w' := by
  go_enter Try.func35, Try.ntmps35
  go_wp2_with fail
  ((with_reducible refine (tr_new _).mono ?_); rintro e w1 ⟨rfl, hD1, hb1⟩)
  go_wp2_with fail
  ((with_reducible refine (tr_snap1 _ _ _ hD1).mono ?_); rintro e w2 ⟨rfl, hD2, hs2⟩)
  replace hb1 := hb1.trans hs2.below
  clear hD1 hs2
  go_wp2_with fail
  ((with_reducible refine (tr_write _ _ _ hD2).mono ?_); rintro e w3 ⟨rfl, hD3, hs3⟩)
  replace hb1 := hb1.trans hs3.below
  clear hD2 hs3
  go_wp2_with fail
  ((with_reducible refine (tr_snap2 _ _ _ hD3).mono ?_); rintro e w4 ⟨rfl, hD4, hs4⟩)
  replace hb1 := hb1.trans hs4.below
  clear hD3 hs4
  go_wp2_with fail
  ((with_reducible refine (tr_changed _ _ _ hD4).mono ?_); rintro e w5 ⟨A, c, rfl, hA, hb5⟩)
  replace hb1 := belowThen hb1 hb5
  clear hD4 hb5
  go_wp2_with fail
  ((with_reducible refine (same_lit A c _ hA).mono ?_); rintro e w6 ⟨rfl, hb6⟩)
  go_wp2
  go_ret
  exact ⟨rfl, belowThen hb1 hb6⟩
end Go.Proofs.Ytmcoenndfbgdfaa

/- VdiskSays: the closed fact; Snaps. -/
namespace Go.Proofs.Ytmcoenndfbgdfaa
open Go.RowKit

theorem saidV_nil (w : World) : Calls Try.prog 8 #[.nilIface, .int .i64 0] w fun e w' => e = .returned (.bool true) ∧ w = w' :=
  (same_any 0 0 w (by omega)).mono fun _ _ ⟨he, hw⟩ => ⟨by rw [he]; simp, hw⟩

set_option maxRecDepth 100000 in
theorem disks_any (w : World) : Calls Try.prog 21 #[] w fun e w' => e = .returned (.bool true) ∧ Below w.heap.size w w' := by
  go_enter Try.func21, Try.ntmps21
  go_wp2_with fail
  ((with_reducible refine (tr_new _).mono ?_); rintro e w1 ⟨rfl, hD1, hb1⟩)
  go_wp2_with fail
  ((with_reducible refine (tr_snap1 _ _ _ hD1).mono ?_); rintro e w2 ⟨rfl, hD2, hs2⟩)
  replace hb1 := hb1.trans hs2.below
  clear hD1 hs2
  go_wp2_with fail
  ((with_reducible refine (tr_write _ _ _ hD2).mono ?_); rintro e w3 ⟨rfl, hD3, hs3⟩)
  replace hb1 := hb1.trans hs3.below
  clear hD2 hs3
  go_wp2_with fail
  ((with_reducible refine (tr_snap2 _ _ _ hD3).mono ?_); rintro e w4 ⟨rfl, hD4, hs4⟩)
  replace hb1 := hb1.trans hs4.below
  clear hD3 hs4
  go_wp2_with fail
  ((with_reducible refine (tr_changed _ _ _ hD4).mono ?_); rintro e w5 ⟨A, c, rfl, hA, hb5⟩)
  replace hb1 := belowThen hb1 hb5
  clear hD4 hb5
  go_wp2_with fail
  ((with_reducible refine (saidV_nil _).mono ?_); rintro e w6 ⟨rfl, rfl⟩)
  go_wp2_with fail
  ((with_reducible refine (saidV_nil _).mono ?_); rintro e w6 ⟨rfl, rfl⟩)
  go_wp2_with fail
  ((with_reducible refine (saidV_nil _).mono ?_); rintro e w6 ⟨rfl, rfl⟩)
  go_wp2_with fail
  ((with_reducible refine (saidV_nil _).mono ?_); rintro e w6 ⟨rfl, rfl⟩)
  go_wp2_with fail
  ((with_reducible refine (same_lit A c _ hA).mono ?_); rintro e w6 ⟨rfl, hb6⟩)
  go_wp2
  go_ret
  exact ⟨rfl, belowThen hb1 hb6⟩

theorem Try.infoIntZ : (Try.prog.info? 3).map (fun i => (i.zero, i.size, i.bytes)) = some (some (.int .i64 0), 1, 8) := by kernel_rfl
def idV (L : List SnapM) : List Value := L.map fun s => .int .i64 (s.id : Int)
def SnapsRet (w : World) (D : DiskM) (e : Ending) (w' : World) : Prop := ∃ v, e = .returned v ∧ w'.ownsRow w.heap.size 3 1 v D.snaps.length (idV D.snaps) ∧ Below w.heap.size w w'

set_option maxHeartbeats 2000000 in
set_option maxRecDepth 100000 in
theorem snaps_any (B g : Nat) (w : World) (D : DiskM) (hD : DiskAt B w g D) :
    Calls Try.prog 34 #[.pointer (some ⟨g, 0, none⟩)] w (SnapsRet w D) := by
  obtain ⟨sv, hg, LS, hL, hO, hT⟩ := hD.mem
  have hlen : LS.length = D.snaps.length := by rw [← hL]; simp
  have h5 := hD.ok.few
  have c18 : w.cell? ⟨g, 18, none⟩ = some sv := cell_of_row _ _ _ _ _ _ hg
  obtain ⟨sA, c, rfl, hgbp⟩ : ∃ A c, sv = .slice A D.snaps.length c ∧ (0 < D.snaps.length → ∃ gb, A = some ⟨gb, 0, none⟩) := by
    rcases ownsRow_form hO with ⟨A, c, rfl, h0⟩ | ⟨gb, c, rfl, hp⟩
    · exact ⟨A, c, by rw [h0], fun hp => by omega⟩
    · exact ⟨_, c, rfl, fun _ => ⟨gb, rfl⟩⟩
  obtain ⟨inf, hi, hz0, hz1, hz2⟩ := info_parts Try.infoIntZ
  have HO := Lib.hid hO
  have HLE := Lib.hid hlen
  have HL := Lib.hid hL
  have HT := Lib.hid hT
  clear hg hO hT hL hlen
  go_enter Try.func34, Try.ntmps34
  go_wp2_with fail
  go_loopw [3, 11] (fun v t wr => ∃ k : Nat, k ≤ D.snaps.length ∧ t = .int .i64 k ∧ wr.ownsRow w.heap.size 3 1 v k (idV (D.snaps.take k)) ∧ Below w.heap.size w wr) (fun _ t _ => D.snaps.length - (intOf t).toNat)
  case atStart => exact ⟨0, Nat.zero_le _, rfl, World.ownsRow_nil _ _ _ _, Below.refl _ _⟩
  case round =>
    obtain ⟨k, hk, rfl, hR, hb⟩ := hrel
    obtain ⟨vA, vc, rfl⟩ : ∃ A c, u3 = .slice A k c := by
      rcases hR.2 with ⟨rfl, h0⟩ | ⟨g', cap, cur, rfl, _⟩
      · exact ⟨none, 0, by rw [h0]⟩
      · exact ⟨_, cap, rfl⟩
    have HR := Lib.hid hR
    clear hR
    by_cases hlt : k < D.snaps.length
    · obtain ⟨gb, rfl⟩ := hgbp (by omega)
      obtain ⟨cur, hcur, _, _, _, _, _, hcut⟩ := row_open HO.out HLE.out
      have hkl : k < LS.length := by have := HLE.out; omega
      obtain ⟨f1, f2⟩ := hcut k hkl
      have hcw : wr.heap[gb]? = some (.cells cur 105 (0, 0)) := (hb.block gb (Array.getElem?_eq_some_iff.1 hcur).1).trans hcur
      have eid : LS[k].1.id = D.snaps[k].id := by rw [ls_get HL.out k hkl hlt]
      have HSN := Lib.hid (show idV (D.snaps.take (k + 1)) = idV (D.snaps.take k) ++ [.int .i64 (LS[k].1.id : Int)] by
        rw [List.take_succ_eq_append_getElem hlt, eid]; exact List.map_append)
      have i1 : (k : Int) < (D.snaps.length : Int) := by omega
      have i0 : (0 : Int) ≤ (k : Int) := by omega
      have hbs := hb.size
      have HCW := Lib.hid hcw
      have HF2 := Lib.hid f2
      have HBL := Lib.hid hb
      clear hcut hcur hcw f2 eid
      obtain ⟨p, hp⟩ : ∃ p, LS[k] = p := ⟨_, rfl⟩
      have hTk := HT.out p (by rw [← hp]; exact List.getElem_mem _)
      rw [hp] at HF2 HSN
      clear hp
      obtain ⟨tA, tc, tv1, _, _⟩ := hTk.at_
      have HT1 := Lib.hid tv1
      clear tv1 hTk
      have ci : ∀ z : Array Value, ((wr.alloc (.cells z 105)).setRow wr.heap.size (sArr p.1 p.2)).cell? ⟨wr.heap.size, 0, none⟩ = some (.int .i64 (p.1.id : Int)) := fun z => cell_setRow_same _ _ _ _ _ _ _ (heap_alloc_new _ _)
      have HBS := Lib.hid (fun z : Array Value => (below_setRow ((Below.refl wr.heap.size wr).alloc (Nat.le_refl _) (.cells z 105)) (Nat.le_refl _) (sArr p.1 p.2) : Below wr.heap.size wr _))
      have HRB := Lib.hid (fun w' (hb' : Below wr.heap.size wr w') => row_step HR.out (Step.of_below (B := 0) (ts := []) hb' (Nat.zero_le _)) (by simp))
      go_wp2_with (first
        | ((with_reducible refine isLoad 14 ?_); refine wpList_load_at rfl 105 _ rfl gb (k * 20) 20 rfl 105 _ (0, 0) _ HCW.out Try.underlying105 rfl Try.infoSnap f1 _ HF2.out ?_)
        | ((with_reducible refine isStore 105 ?_); refine wpList_store_at rfl 105 _ _ rfl wr.heap.size 0 20 rfl 105 _ (sArr p.1 p.2) rfl (heap_alloc_new _ _) Try.infoSnap (by simp) rfl (by rw [HT1.out]; simp [sArr, Value.oneCell']) (sArr p.1 p.2) rfl ?_)
        | (at_builtin; (refine wpList_append_lies _ rfl _ _ 70 rfl w.heap.size 3 inf (.int .i64 0) 1 8 Try.underlying70 hi hz0 hz1 hz2 rfl (by decide) (.slice vA k vc) k (idV (D.snaps.take k)) rfl (World.ownsRow.alloc (HRB.out _ (HBS.out _)) _) ⟨wr.heap.size + 1, 0, none⟩ 1 1 [.int .i64 (p.1.id : Int)] rfl rfl (World.news_of_block (cs := #[.int .i64 (p.1.id : Int)]) (t := 3) (fr := (0, 0)) (by rw [← (show ((wr.alloc (.cells (sArr ⟨0, ⟨0, fun _ => ByteArray.empty⟩, [], false⟩ (.slice none 0 0)) 105)).setRow wr.heap.size (sArr p.1 p.2)).heap.size = wr.heap.size + 1 by simp)]; exact heap_alloc_new _ _)) (by simp [Value.oneCell']) (by omega) (by unfold maxLen; omega) (by omega) (by simp; omega) (wr.heap.size + 2) (by simp) ?_); intro gg cap w9 hO9 hg9 hat9 hlt9; have HO9 := Lib.hid hO9; have HB9 := Lib.hid (show Below w.heap.size w w9 from Below.grown ((belowThen HBL.out (HBS.out _)).alloc (by simp; omega) _) hg9 (by simp; omega) (fun q hq => (HR.out.lt q hq).1)); clear hO9 hg9 hat9))
      refine ⟨⟨k + 1, by omega, by go_num, by rw [HSN.out]; exact HO9.out, HB9.out⟩, by simp [intOf]; omega⟩
    · obtain rfl : k = D.snaps.length := by omega
      have h9 := HR.out
      rw [List.take_of_length_le (Nat.le_refl _)] at h9
      have H9 := Lib.hid h9
      go_wp2
      go_ret
      exact ⟨_, rfl, H9.out, hb⟩
end Go.Proofs.Ytmcoenndfbgdfaa

/- VdiskSays: both disks, step by step. -/
namespace Go.Proofs.Ytmcoenndfbgdfaa
open Go.RowKit

/-- Both disks, behind k acts. -/
def BothV (w w' : World) (g gm k : Nat) : Prop := ∃ (D : DiskM) (R : RVm) (B B' : Nat), DiskAt B w' g D ∧ RVAt B' w' gm R ∧ w.heap.size ≤ B ∧ w.heap.size ≤ B' ∧ VRel D R ∧ R.time ≤ k ∧ Below w.heap.size w w'
theorem BothV.below {w w1 w2 : World} {g gm k : Nat} (h : BothV w w1 g gm k) (hb : Below w1.heap.size w1 w2) : BothV w w2 g gm k := by
  obtain ⟨D, R, B, B', hD, hR, h1, h2, h3, h4, h5⟩ := h
  exact ⟨D, R, B, B', hD.below hb, hR.below hb, h1, h2, h3, h4, belowThen h5 hb⟩
theorem BothV.under {w w1 : World} {g gm k : Nat} (h : BothV w w1 g gm k) : Below w.heap.size w w1 := by
  obtain ⟨_, _, _, _, _, _, _, _, _, _, h5⟩ := h
  exact h5

theorem writeErr_nonneg (D : DiskM) (k : Int) (x : ByteArray) : 0 ≤ writeErr D k x := by unfold writeErr; split <;> (try split) <;> omega
theorem resizeErr_nonneg (n : Int) : 0 ≤ resizeErr n := by unfold resizeErr; split <;> omega
theorem snapErr_nonneg (D : DiskM) : 0 ≤ snapErr D := by unfold snapErr; split <;> omega
theorem dropErr_nonneg (D : DiskM) (n : Int) : 0 ≤ dropErr D n := by unfold dropErr; split <;> omega
theorem readErr_nonneg (D : DiskM) (a b : Int) : 0 ≤ readErr D a b := by unfold readErr; split <;> (try split) <;> (try split) <;> omega
theorem sizeErr_nonneg (D : DiskM) (a : Int) : 0 ≤ sizeErr D a := by unfold sizeErr; split <;> omega
theorem chgErr_nonneg (D : DiskM) (a b : Int) : 0 ≤ chgErr D a b := by unfold chgErr; split <;> (try split) <;> omega
theorem chgAr_len (D : DiskM) (a b : Int) : (chgAr D a b).length ≤ 16 := by
  unfold chgAr
  split
  · split
    · simp
    · exact (foldT_ok _).2
  · simp
theorem chE_nonneg (D : DiskM) (m : ActM) : 0 ≤ chE D m := by
  unfold chE
  split
  · exact writeErr_nonneg _ _ _
  · split
    · exact resizeErr_nonneg _
    · split
      · exact snapErr_nonneg _
      · split
        · exact dropErr_nonneg _ _
        · omega

theorem bv_changed {w wr : World} {g gm k : Nat} (h : BothV w wr g gm k) (hk : k ≤ 1000000) (m : ActM) (hs : m.s.size ≤ maxLen) : ∃ x f : Int, 0 ≤ f ∧
    Calls Try.prog 25 #[.pointer (some ⟨g, 0, none⟩), .agg (actArr m)] wr fun e w1 => e = .returned (.tuple #[.int .i64 x, errV f]) ∧ Step w.heap.size dTypes wr w1 ∧
      Calls Try.prog 26 #[.pointer (some ⟨gm, 0, none⟩), .agg (actArr m)] w1 fun e w2 => e = .returned (.tuple #[.int .i64 x, .int .i64 f]) ∧ Step w.heap.size rvTypes w1 w2 ∧ BothV w w2 g gm (k + 1) := by
  obtain ⟨D, R, B, B', hD, hR, hB, hB', hrel, ht, hb⟩ := h
  obtain ⟨e1, e2, hrel'⟩ := rel_change hrel hD.ok.few m
  refine ⟨chNum D m, chE D m, chE_nonneg D m, (lawChanged_any B g wr D m hD hs).mono ?_⟩
  rintro e w1 ⟨rfl, hD1, hs1⟩
  refine ⟨rfl, hs1.mono hB (fun _ h => h), ?_⟩
  have hR1 := hR.step hs1 (by decide) (by decide)
  have hc := lawChangedRef_any B' gm w1 R m hR1 hs (by omega)
  rw [← e1, ← e2] at hc
  refine hc.mono ?_
  rintro e w2 ⟨rfl, hR2, hs2⟩
  have htm := rvTime_change R m
  exact ⟨rfl, hs2.mono hB' (fun _ h => h), _, _, _, _, hD1.other hs2 (by decide) (by decide) (by decide), hR2, hB, hB', hrel', by omega, (hb.trans (hs1.below.mono hB)).trans (hs2.below.mono hB')⟩

theorem bv_size {w wr : World} {g gm k : Nat} (h : BothV w wr g gm k) : ∃ z : Nat, wr.cell? ⟨gm, 0, none⟩ = some (.int .i64 z) ∧
    ∀ w1, Below wr.heap.size wr w1 → Calls Try.prog 27 #[.pointer (some ⟨g, 0, none⟩)] w1 fun e w' => e = .returned (.int .i64 z) ∧ w1 = w' := by
  obtain ⟨D, R, B, B', hD, hR, hB, hB', hrel, ht, hb⟩ := h
  refine ⟨D.now.size, ?_, fun w1 h1 => size_any B w1 g D (hD.below h1)⟩
  obtain ⟨sv, hg, _⟩ := hR.mem
  rw [hrel.size]
  exact cell_of_row _ _ _ _ _ _ hg

theorem bv_read {w wr : World} {g gm k : Nat} (h : BothV w wr g gm k) (a b : Int) : ∃ (s : ByteArray) (z f : Int), 0 ≤ f ∧
    (Calls Try.prog 28 #[.pointer (some ⟨g, 0, none⟩), .int .i64 a, .int .i64 b] wr fun e w1 => e = .returned (.tuple #[.string s, .int .i64 z, errV f]) ∧ Below wr.heap.size wr w1) ∧
    ∀ w1, Below wr.heap.size wr w1 → Calls Try.prog 29 #[.pointer (some ⟨gm, 0, none⟩), .int .i64 a, .int .i64 b] w1 fun e w2 => e = .returned (.tuple #[.string s, .int .i64 z, .int .i64 f]) ∧ Below w1.heap.size w1 w2 := by
  obtain ⟨D, R, B, B', hD, hR, hB, hB', hrel, ht, hb⟩ := h
  refine ⟨readText D a b, readSize D a b, readErr D a b, readErr_nonneg D a b, read_any B g wr D a b hD, fun w1 h1 => (rvRead_any B' gm w1 R a b (hR.below h1)).mono ?_⟩
  rintro e w2 ⟨⟨v, rfl, hv⟩, hb2⟩
  exact ⟨by rw [rel_read hrel (fun s hs => (hD.ok.sizes s hs).2) hv], hb2⟩

theorem bv_sizeOf {w wr : World} {g gm k : Nat} (h : BothV w wr g gm k) (a : Int) : ∃ (z f : Int), 0 ≤ f ∧
    (Calls Try.prog 30 #[.pointer (some ⟨g, 0, none⟩), .int .i64 a] wr fun e w1 => e = .returned (.tuple #[.int .i64 z, errV f]) ∧ Below wr.heap.size wr w1) ∧
    ∀ w1, Below wr.heap.size wr w1 → Calls Try.prog 31 #[.pointer (some ⟨gm, 0, none⟩), .int .i64 a] w1 fun e w2 => e = .returned (.tuple #[.int .i64 z, .int .i64 f]) ∧ Below w1.heap.size w1 w2 := by
  obtain ⟨D, R, B, B', hD, hR, hB, hB', hrel, ht, hb⟩ := h
  refine ⟨sizeVal D a, sizeErr D a, sizeErr_nonneg D a, sizeOf_any B g wr D a hD, fun w1 h1 => (rvSizeOf_any B' gm w1 R a (hR.below h1)).mono ?_⟩
  rintro e w2 ⟨⟨v, rfl, hv⟩, hb2⟩
  exact ⟨by rw [rel_sizeOf hrel hv], hb2⟩

theorem bv_chg {w wr : World} {g gm k : Nat} (h : BothV w wr g gm k) (a b : Int) : ∃ (L : List Ar) (f : Int), 0 ≤ f ∧ L.length ≤ 16 ∧
    (Calls Try.prog 32 #[.pointer (some ⟨g, 0, none⟩), .int .i64 a, .int .i64 b] wr (AnsChg wr L f)) ∧
    ∀ w1, Below wr.heap.size wr w1 → Calls Try.prog 33 #[.pointer (some ⟨gm, 0, none⟩), .int .i64 a, .int .i64 b] w1 (RvChgRet w1 L f) := by
  obtain ⟨D, R, B, B', hD, hR, hB, hB', hrel, ht, hb⟩ := h
  exact ⟨chgAr D a b, chgErr D a b, chgErr_nonneg D a b, chgAr_len D a b, changed_any B g wr D a b hD, fun w1 h1 => rvChanged_rel B' gm w1 D R a b (hR.below h1) hrel⟩

/-- The snapshots' numbers, on both sides. -/
theorem bv_snaps {w wr : World} {g gm k : Nat} (h : BothV w wr g gm k) : ∃ (ids : List Int) (q : Option Addr) (c : Nat), ids.length ≤ 5 ∧
    wr.cell? ⟨gm, 35, none⟩ = some (.slice q ids.length c) ∧ (∀ j (hj : j < ids.length), ∃ gb, q = some ⟨gb, 0, none⟩ ∧ gb < wr.heap.size ∧ wr.cell? ⟨gb, j * 35, none⟩ = some (.int .i64 ids[j])) ∧
    ∀ w1, Below wr.heap.size wr w1 → Calls Try.prog 34 #[.pointer (some ⟨g, 0, none⟩)] w1 fun e w2 => ∃ A' c', e = .returned (.slice A' ids.length c') ∧ (∀ j (hj : j < ids.length), ∃ b, A' = some ⟨b, 0, none⟩ ∧ b < w2.heap.size ∧ w2.cell? ⟨b, j, none⟩ = some (.int .i64 ids[j])) ∧ Below w1.heap.size w1 w2 := by
  obtain ⟨D, R, B, B', hD, hR, hB, hB', hrel, ht, hb⟩ := h
  obtain ⟨A, c, hg, hO, hp⟩ := rv_form hR
  have hlen := hrel.len
  refine ⟨D.snaps.map (fun s => (s.id : Int)), A, c, by simp [hD.ok.few], ?_, fun j hj => ?_, fun w1 h1 => ?_⟩
  · rw [List.length_map, hlen]; exact cell_of_row _ _ _ _ _ _ hg
  · have hjD : j < D.snaps.length := by simpa using hj
    have hjR : j < R.snaps.length := by omega
    obtain ⟨gb, rfl⟩ := hp (by omega)
    obtain ⟨cur, hcur, _⟩ := rs_open hO rfl
    refine ⟨gb, rfl, (Array.getElem?_eq_some_iff.1 hcur).1, ?_⟩
    have e : D.snaps[j].id = R.snaps[j].id := by
      have := congrArg (fun l => l[j]?) hrel.ids
      simpa [List.getElem?_eq_getElem hjD, List.getElem?_eq_getElem hjR] using this
    rw [List.getElem_map, e]
    exact rs_cell hO rfl j hjR 0 _ rfl
  · refine (snaps_any B g w1 D (hD.below h1)).mono ?_
    rintro e w2 ⟨v, rfl, hv, hb2⟩
    rcases hv.2 with ⟨rfl, h0⟩ | ⟨g', cap, cur, rfl, hb', hg', hn', hm', hs', ht'⟩
    · exact ⟨none, 0, by rw [List.length_map, h0], fun j hj => absurd hj (by rw [List.length_map]; omega), hb2⟩
    · refine ⟨_, cap, by rw [List.length_map], fun j hj => ⟨g', rfl, (Array.getElem?_eq_some_iff.1 hg').1, ?_⟩, hb2⟩
      have hjD : j < D.snaps.length := by simpa using hj
      rw [hv.cellAt j (by omega)]
      simp [idV, List.getElem?_eq_getElem hjD]
end Go.Proofs.Ytmcoenndfbgdfaa

/- VdiskSays: the walk. -/
namespace Go.Proofs.Ytmcoenndfbgdfaa
open Go.RowKit

set_option maxHeartbeats 8000000 in
set_option maxRecDepth 100000 in
theorem vdiskSays_walk (A : Option Addr) (cA : Nat) (l : List ActM) (n : Int) (hn1 : -9223372036854775808 ≤ n) (hn2 : n ≤ 9223372036854775807) (w : World) (hA : ActsAt w w.heap.size A l) :
    Calls Try.prog 4 #[.int .i64 n, .slice A l.length cA] w fun e w' => e = .returned (.bool true) ∧ Below w.heap.size w w' := by
  have hml := hA.1
  unfold maxLen at hml
  go_enter Try.func4, Try.ntmps4
  go_wp2_with fail
  ((with_reducible refine (disks_any _).mono ?_); rintro e w1 ⟨rfl, hb1⟩)
  have hA1 := hA.below hb1
  go_wp2_with fail
  ((with_reducible refine (lightActs_any _ _ _ _ _ hA1).mono ?_); rintro e w2 ⟨r, rfl, hr, hb2⟩)
  replace hb2 := belowThen hb1 hb2
  clear hA1 hb1
  cases r
  · go_wp2
    go_ret
    exact ⟨rfl, hb2⟩
  have hl80 := hr rfl
  clear hr
  by_cases hn : 1 ≤ n ∧ n ≤ 16
  · obtain ⟨nn, rfl⟩ := Int.eq_ofNat_of_zero_le (show 0 ≤ n by omega)
    have hnn : 1 ≤ nn ∧ nn ≤ 16 := by omega
    have hn' := Lib.hid hn
    clear hn
    go_wp2_with fail
    ((with_reducible refine (new_yes nn _ hnn).mono ?_); rintro e w3 ⟨rfl, hD, hb3⟩)
    go_wp2_with fail
    ((with_reducible refine (rvNew_any _ _ hn1 hn2).mono ?_); rintro e w4 hnew)
    unfold RvNew at hnew
    rw [if_pos hn'.out] at hnew
    obtain ⟨gm, rfl, hM, hb4⟩ := hnew
    rw [Int.toNat_natCast] at hM
    obtain ⟨g, hg⟩ : ∃ g, w2.heap.size = g := ⟨_, rfl⟩
    have hbo : BothV w w4 g gm 0 := by
      rw [hg] at hD
      exact ⟨_, _, _, _, hD.below hb4, hM, by rw [← hg]; exact hb2.size, Nat.le_trans hb2.size hb3.size, rel_new nn, Nat.zero_le _, belowThen (belowThen hb2 hb3) hb4⟩
    rw [hg]
    clear hg hD hM hb3 hb4 hb2 hn' hn1 hn2
    go_wp2
    go_loopw [10] (fun i w' => ∃ (k : Nat), k ≤ l.length ∧ i = .int .i64 k ∧ BothV w w' g gm k) (fun i _ => l.length - (intOf i).toNat)
    case atStart => exact ⟨0, Nat.zero_le _, rfl, hbo⟩
    case round =>
      obtain ⟨k, hk, rfl, hB⟩ := hrel
      clear hbo
      by_cases hlt : k < l.length
      · obtain ⟨ga, off, rfl, hact⟩ := (hA.below hB.under).2 k hlt
        have hc := hact.2.1
        have d0 : wr.cell? ⟨ga, off + k * 9, none⟩ = some (.string l[k].kind) := hc 0 (by omega)
        have d1 : wr.cell? ⟨ga, off + k * 9 + 1, none⟩ = some (.string l[k].s) := hc 1 (by omega)
        have d2 : wr.cell? ⟨ga, off + k * 9 + 2, none⟩ = some (.int .i64 l[k].a) := hc 2 (by omega)
        have d3 : wr.cell? ⟨ga, off + k * 9 + 3, none⟩ = some (.int .i64 l[k].b) := hc 3 (by omega)
        have d4 : wr.cell? ⟨ga, off + k * 9 + 4, none⟩ = some (.int .i64 l[k].c) := hc 4 (by omega)
        have d5 : wr.cell? ⟨ga, off + k * 9 + 5, none⟩ = some (.int .i64 l[k].d) := hc 5 (by omega)
        have d6 : wr.cell? ⟨ga, off + k * 9 + 6, none⟩ = some (.int .u64 l[k].k) := hc 6 (by omega)
        have d7 : wr.cell? ⟨ga, off + k * 9 + 7, none⟩ = some (.slice l[k].pA l[k].pL l[k].pC) := hc 7 (by omega)
        have d8 : wr.cell? ⟨ga, off + k * 9 + 8, none⟩ = some (.slice l[k].cA l[k].cL l[k].cC) := hc 8 (by omega)
        have hss := hact.2.2.2.2.2.2.1
        have i1 : (k : Int) < (l.length : Int) := by omega
        clear hc hact
        generalize l[k] = m at d0 d1 d2 d3 d4 d5 d6 d7 d8 hss
        have hBa := hB.below ((Below.refl wr.heap.size wr).alloc (Nat.le_refl _) (.cells (actArr m) 51))
        have hx := heap_alloc_new wr (.cells (actArr m) 51)
        obtain ⟨gx, hgx⟩ : ∃ gx, wr.heap.size = gx := ⟨_, rfl⟩
        obtain ⟨wa, hwa⟩ : ∃ wa, wr.alloc (.cells (actArr m) 51) = wa := ⟨_, rfl⟩
        rw [hwa] at hBa hx
        rw [hgx] at hx
        unfold actArr at hwa
        have HWA := Lib.hid hwa
        have HGX := Lib.hid hgx
        clear hwa hgx hB
        obtain ⟨x, f, hf0, hcall⟩ := bv_changed hBa (by omega) m hss
        have HC := Lib.hid hcall
        clear hcall
        have e0 : ∀ w1, Step w.heap.size dTypes wa w1 → w1.heap[gx]? = some (.cells (actArr m) 51 (0, 0)) := fun w1 h => h.other _ _ _ _ hx (by decide)
        have E0 := Lib.hid e0
        have E1 := Lib.hid (fun w1 (h : Step w.heap.size dTypes wa w1) w2 (h2 : Step w.heap.size rvTypes w1 w2) => show w2.heap[gx]? = some (.cells (actArr m) 51 (0, 0)) from h2.other _ _ _ _ (e0 w1 h) (by decide))
        clear e0 hx hBa
        go_wp2_with fail
        rw [HWA.out, HGX.out]
        clear HWA HGX d0 d1 d2 d3 d4 d5 d6 d7 d8
        (refine HC.out.mono ?_; rintro e w5 ⟨rfl, hs5, hcall⟩)
        have HC5 := Lib.hid hcall
        have hx5 := E0.out w5 hs5
        have E2 := Lib.hid (E1.out w5 hs5)
        have a0 : w5.cell? ⟨gx, 0, none⟩ = some (.string m.kind) := cell_of_row _ _ _ _ _ _ hx5
        have a1 : w5.cell? ⟨gx, 1, none⟩ = some (.string m.s) := cell_of_row _ _ _ _ _ _ hx5
        have a2 : w5.cell? ⟨gx, 2, none⟩ = some (.int .i64 m.a) := cell_of_row _ _ _ _ _ _ hx5
        have a3 : w5.cell? ⟨gx, 3, none⟩ = some (.int .i64 m.b) := cell_of_row _ _ _ _ _ _ hx5
        have a4 : w5.cell? ⟨gx, 4, none⟩ = some (.int .i64 m.c) := cell_of_row _ _ _ _ _ _ hx5
        have a5 : w5.cell? ⟨gx, 5, none⟩ = some (.int .i64 m.d) := cell_of_row _ _ _ _ _ _ hx5
        have a6 : w5.cell? ⟨gx, 6, none⟩ = some (.int .u64 m.k) := cell_of_row _ _ _ _ _ _ hx5
        have a7 : w5.cell? ⟨gx, 7, none⟩ = some (.slice m.pA m.pL m.pC) := cell_of_row _ _ _ _ _ _ hx5
        have a8 : w5.cell? ⟨gx, 8, none⟩ = some (.slice m.cA m.cL m.cC) := cell_of_row _ _ _ _ _ _ hx5
        clear HC E0 E1 hcall hs5 hx5
        go_wp2_with fail
        (refine HC5.out.mono ?_; rintro e w6 ⟨rfl, hs6, hB6⟩)
        have hx6 := E2.out w6 hs6
        have b2 : w6.cell? ⟨gx, 2, none⟩ = some (.int .i64 m.a) := cell_of_row _ _ _ _ _ _ hx6
        have b3 : w6.cell? ⟨gx, 3, none⟩ = some (.int .i64 m.b) := cell_of_row _ _ _ _ _ _ hx6
        clear HC5 E2 hs6 a0 a1 a2 a3 a4 a5 a6 a7 a8
        have hgx6 := (Array.getElem?_eq_some_iff.1 hx6).1
        have HB2 := Lib.hid (fun w' (h : Below w6.heap.size w6 w') => show w'.cell? ⟨gx, 2, none⟩ = some (.int .i64 m.a) ∧ w'.cell? ⟨gx, 3, none⟩ = some (.int .i64 m.b) from ⟨(h.cell (p := ⟨gx, 2, none⟩) hgx6).trans b2, (h.cell (p := ⟨gx, 3, none⟩) hgx6).trans b3⟩)
        obtain ⟨z, cz, hcz⟩ := bv_size hB6
        have HSZ := Lib.hid (hcz w6.drew (below_drewN (Below.refl _ _) 1))
        have HSM := Lib.hid (fun w' => same_any f f w' hf0)
        clear hcz b2 b3 hx6 hgx6
        have bx : (x != x) = false := by simp
        have bz : ((z : Int) != (z : Int)) = false := by simp
        have bf : decide (f = f) = true := by simp
        go_wp2_with fail
        go_region_held3 (fun w' => w'.cell? ⟨gm, 0, none⟩ = some (.int .i64 z)) (first | exact cz)
          (first
            | (go_at_call 8; refine (HSM.out _).mono ?_; rintro e w7 ⟨rfl, rfl⟩)
            | (go_at_call 27; refine HSZ.out.mono ?_; rintro e w7 ⟨rfl, rfl⟩))
        have hb7 : Below w6.heap.size w6 w6.drew := below_drewN (Below.refl _ _) 1
        have hB7 := hB6.below hb7
        obtain ⟨c2, c3⟩ := HB2.out _ hb7
        obtain ⟨s, q, f2, hf2, hr1, hr2⟩ := bv_read hB7 m.a m.b
        have HR1 := Lib.hid hr1
        have HR2 := Lib.hid hr2
        clear hr1 hr2 hB6 HSZ cz bz HSM bx bf
        go_wp2_with fail
        (refine HR1.out.mono ?_; rintro e w8 ⟨rfl, hb8⟩)
        have HC8 := Lib.hid (HR2.out _ hb8)
        have hB8 := hB7.below hb8
        replace hb8 := belowThen hb7 hb8
        clear c2 c3 HR1 HR2 hB7 hb7
        obtain ⟨c2, c3⟩ := HB2.out _ hb8
        go_wp2_with fail
        (refine HC8.out.mono ?_; rintro e w9 ⟨rfl, hb9⟩)
        clear HC8 c2 c3
        have hB9 := hB8.below hb9
        replace hb9 := belowThen hb8 hb9
        clear hB8 hb8
        have HSM := Lib.hid (fun w' => same_any f2 f2 w' hf2)
        have bq : (q != q) = false := by simp
        have bf : decide (f2 = f2) = true := by simp
        have b7 := HB2.out _ hb9
        obtain ⟨c2, c3⟩ := b7
        obtain ⟨q3, f3, hf3, hr1, hr2⟩ := bv_sizeOf hB9 m.a
        have HR1 := Lib.hid hr1
        have HR2 := Lib.hid hr2
        have HSM3 := Lib.hid (fun w' => same_any f3 f3 w' hf3)
        clear hr1 hr2
        go_wp2_with fail
        (refine (HSM.out _).mono ?_; rintro e w10 ⟨rfl, rfl⟩)
        go_wp2_with fail
        (refine HR1.out.mono ?_; rintro e w10 ⟨rfl, hb10⟩)
        have HC10 := Lib.hid (HR2.out _ hb10)
        have hB10 := hB9.below hb10
        replace hb10 := belowThen hb9 hb10
        clear c2 c3 HR1 HR2 hB9 hb9 bq bf HSM
        obtain ⟨c2, c3⟩ := HB2.out _ hb10
        go_wp2_with fail
        (refine HC10.out.mono ?_; rintro e w11 ⟨rfl, hb11⟩)
        clear HC10 c2 c3
        have hB11 := hB10.below hb11
        replace hb11 := belowThen hb10 hb11
        clear hB10 hb10
        have bq : (q3 != q3) = false := by simp
        have bf : decide (f3 = f3) = true := by simp
        obtain ⟨c2, c3⟩ := HB2.out _ hb11
        obtain ⟨L, f4, hf4, hL, hr1, hr2⟩ := bv_chg hB11 m.a m.b
        have HR1 := Lib.hid hr1
        have HR2 := Lib.hid hr2
        have HSM4 := Lib.hid (fun w' => same_any f4 f4 w' hf4)
        clear hr1 hr2
        go_wp2_with fail
        (refine (HSM3.out _).mono ?_; rintro e w12 ⟨rfl, rfl⟩)
        go_wp2_with fail
        (refine HR1.out.mono ?_; rintro e w12 ⟨P, cP, rfl, hP, hb12⟩)
        have HC12 := Lib.hid (HR2.out _ hb12)
        have hB12 := hB11.below hb12
        replace hb12 := belowThen hb11 hb12
        clear c2 c3 HR1 HR2 hB11 hb11 bq bf HSM3
        obtain ⟨c2, c3⟩ := HB2.out _ hb12
        go_wp2_with fail
        (refine HC12.out.mono ?_; rintro e w13 ⟨vq, rfl, hQ, hb13⟩)
        clear HC12 c2 c3 HB2 hb12
        have hB13 := hB12.below hb13
        replace hP := (hP.below hb13).mono hb13.size
        clear hB12 hb13
        obtain ⟨Q, cQ, rfl, hQ', _⟩ := hQ.at_
        have hsa := sameAreas_any P Q cP cQ L L w13.drew hP hQ' (by omega)
        rw [show decide (L = L) = true from decide_eq_true rfl] at hsa
        obtain ⟨ids, qa, qc, hi5, c35, hgb, hsn⟩ := bv_snaps hB13
        have HSA := Lib.hid hsa
        have HSN := Lib.hid hsn
        have HB13 := Lib.hid hB13
        have HGB := Lib.hid hgb
        have hd13 : Below w13.heap.size w13 w13.drew := below_drewN (Below.refl _ _) 1
        have hgl := World.block_lt_of_cell? w13 ⟨gm, 35, none⟩ c35
        have HS1 := Lib.hid (fun w' (h : Below w13.drew.heap.size w13.drew w') => show w'.cell? ⟨gm, 35, none⟩ = some (.slice qa ids.length qc) from ((belowThen hd13 h).cell (p := ⟨gm, 35, none⟩) hgl).trans c35)
        have HD13 := Lib.hid hd13
        clear hQ hQ' hP hsa hsn hB13 hgb hd13 hgl
        have bf : decide (f4 = f4) = true := by simp
        have bn : ((ids.length : Int) != (ids.length : Int)) = false := by simp
        go_wp2_with fail
        go_region_held3 (fun w' => w'.cell? ⟨gm, 35, none⟩ = some (.slice qa ids.length qc)) (first | exact c35 | exact HS1.out _ hb14 | exact HS1.out _ (belowThen hb14 hb15))
          (first
            | (go_at_call 13; refine HSA.out.mono ?_; rintro e w14 ⟨rfl, hb14⟩)
            | (go_at_call 8; refine (HSM4.out _).mono ?_; rintro e w16 ⟨rfl, rfl⟩)
            | (go_at_call 34; refine (HSN.out _ (belowThen HD13.out hb14)).mono ?_; rintro e w15 ⟨AS, cS, rfl, hO15, hb15⟩))
        have hb15' := belowThen (belowThen HD13.out hb14) hb15
        have HSN2 := Lib.hid (HSN.out _ hb15')
        clear HSN HSA HSM4 hb14 hb15 hO15
        go_wp2_with fail
        (refine HSN2.out.mono ?_; rintro e w17 ⟨AI, cI, rfl, hI, hb17⟩)
        have hb17' := belowThen hb15' hb17
        have HB17 := Lib.hid (HB13.out.below hb17')
        have HL17 := Lib.hid (fun n j (hj : j < ids.length) => show ∃ b gb, AI = some ⟨b, 0, none⟩ ∧ qa = some ⟨gb, 0, none⟩ ∧ (w17.drewN n).cell? ⟨b, j, none⟩ = some (.int .i64 ids[j]) ∧ (w17.drewN n).cell? ⟨gb, j * 35, none⟩ = some (.int .i64 ids[j]) from by
          obtain ⟨b, e1, _, e2⟩ := hI j hj
          obtain ⟨gb, e3, e4, e5⟩ := HGB.out j hj
          exact ⟨b, gb, e1, e3, e2, (hb17'.cell (p := ⟨gb, j * 35, none⟩) e4).trans e5⟩)
        have HC17 := Lib.hid (fun n => show (w17.drewN n).cell? ⟨gm, 35, none⟩ = some (.slice qa ids.length qc) from (hb17'.cell (p := ⟨gm, 35, none⟩) (World.block_lt_of_cell? w13 ⟨gm, 35, none⟩ c35)).trans c35)
        clear HSN2 HS1 HD13 HGB HB13 c35 hI hb17 hb17' hb15' bf bn
        go_wp2
        go_loopw [23] (fun t wr => ∃ j n : Nat, j ≤ ids.length ∧ t = .int .i64 (j : Int) ∧ wr = w17.drewN n) (fun t _ => ids.length - (intOf t).toNat)
        case atStart => exact ⟨0, 0, Nat.zero_le _, rfl, rfl⟩
        case round =>
          obtain ⟨j, n, hj, rfl, rfl⟩ := hrel
          by_cases hjl : j < ids.length
          · obtain ⟨b, gb, rfl, rfl, q1, q2⟩ := HL17.out n j hjl
            have q3' := HC17.out n
            have j1 : (j : Int) < (ids.length : Int) := by omega
            have j0 : (0 : Int) ≤ (j : Int) := by omega
            have jb : (ids[j] != ids[j]) = false := by simp
            generalize ids[j] = id at q1 q2 jb
            go_wp2_with fail
            go_region_held3 (fun w' => w'.cell? ⟨b, j, none⟩ = some (.int .i64 id) ∧ w'.cell? ⟨gm, 35, none⟩ = some (.slice (some ⟨gb, 0, none⟩) ids.length qc) ∧ w'.cell? ⟨gb, j * 35, none⟩ = some (.int .i64 id)) (first | exact ⟨q1, q3', q2⟩) (fail)
            go_wp2
            go_roundw
            case rel => exact ⟨j + 1, _, hjl, by go_num, rfl⟩
            case measure => simp [intOf]; omega
          · have j1 : ¬ (j : Int) < (ids.length : Int) := by omega
            go_wp2
            go_roundw
            case rel => exact ⟨k + 1, hlt, by go_num, HB17.out.below (below_drewN (Below.refl _ _) _)⟩
            case measure => simp [intOf]; omega
      · go_wp2
        go_ret
        exact ⟨rfl, hB.under⟩
  · go_wp2_with fail
    ((with_reducible refine (new_no n _ hn).mono ?_); rintro e w3 ⟨rfl, rfl⟩)
    go_wp2_with fail
    ((with_reducible refine (rvNew_any _ _ hn1 hn2).mono ?_); rintro e w4 hnew)
    unfold RvNew at hnew
    rw [if_neg hn] at hnew
    obtain ⟨rfl, rfl⟩ := hnew
    have hs := same_any 1 1 w2 (by decide)
    rw [show errV 1 = .iface 83 (.int .i64 1) from rfl, show decide ((1 : Int) = 1) = true from rfl] at hs
    go_wp2_with fail
    ((with_reducible refine hs.mono ?_); rintro e w4 ⟨rfl, rfl⟩)
    go_wp2
    go_ret
    exact ⟨rfl, hb2⟩
end Go.Proofs.Ytmcoenndfbgdfaa

/- VdiskSays is true for every input: for every number and all lists of acts the law returns true, and its arguments read as before. No conditions. -/
namespace Go.Proofs.Ytmcoenndfbgdfaa
open Go.ChangeShapes Go.WideShapes Go.ChangeAt Go.RowKit Go.Deep Go.ChangeMaps
set_option linter.unusedVariables false

set_option maxRecDepth 100000 in
theorem vdiskSays_lifted (os : Os) (started : os.Started) (H : Type) (enc : TypeId × Value → H) :
    ReturnsInHanded {} Try.checked os 4 .any (Rows.vdiskSaysSpec.pre6 enc Try.prog Try.f4 Rows.vdiskSaysRow.domain false) (Rows.vdiskSaysSpec.post enc Try.prog Try.f4 false true false false) := by
  refine returnsInHanded_of_change (C := Try.checked) Try.own started (by kernel_rfl) Try.func4
    (ChangeSpec.witness6 (enc := enc) (C := Try.checked) false ⟨#[], #[.int .i64 0, .slice none 0 0], []⟩ 8 (by kernel_rfl) (by kernel_rfl) (by kernel_rfl) (by kernel_rfl)) ?_
  intro W base args ds gs before hval0 hW hcnd _
  have hval : ∀ (j : Nat) t v, Try.f4.params[j]? = some t → args[j]? = some v → Value.okWide Try.prog W .any base t v := hval0
  have hW' := hW
  obtain ⟨p, q, hA0, hV, rfl, hfz, hnd⟩ := hW
  have hA : DataW.TrodAll enc Try.prog W 0 (fun _ => true) true Try.f4.params.toList args.toList ds p := hA0
  rw [Try.params4] at hA hval
  obtain ⟨v0, vs0, d0, ds0, p0, q0, hargs, rfl, rfl, h0, r0⟩ := trodAll_cons hA
  obtain ⟨v1, vs1, d1, ds1, p1, q1, rfl, rfl, rfl, h1, r1⟩ := trodAll_cons r0
  obtain ⟨rfl, rfl, rfl⟩ := trodAll_nil r1
  obtain rfl : args = #[v0, v1] := by cases args; simp_all
  obtain ⟨rfl, rfl⟩ := trodVars_none hV
  obtain ⟨a1, len1, cap1, rfl⟩ := okWide_slice Try.underlying39 (hval 1 39 v1 rfl rfl)
  have lt1 : ∀ x ∈ p1, x.block < W.heap.size := by obtain ⟨m, hm⟩ := h1; exact DataW.trod_lt m _ _ _ hm
  obtain ⟨x0, rfl, rfl, rfl, wx0⟩ := open_int Try.underlying3 (hval 0 3 v0 rfl rfl) h0
  obtain ⟨l1, e1, g1, wf1⟩ := open_acts h1
  subst e1
  clear hA0 hval0
  refine (vdiskSays_walk a1 cap1 l1 x0 (wf_i64 wx0).1 (wf_i64 wx0).2 W g1).mono fun e W' ⟨he, bel⟩ => ?_
  subst he
  exact ⟨_, rfl, _, _, _, [], _, [], hW', trodAll_mk1 (shut_bool Try.underlying4 _), (trodAll_cons_mk (shut_int Try.underlying3 wx0) (trodAll_cons_mk (Below.trod Try.laidOut (by kernel_rfl) (of_decide_eq_true (by kernel_rfl)) h1 bel lt1) trodAll_mk0)), rfl, bel.frame _, fun h => by cases h⟩

theorem vdiskSays_holds : Rows.VdiskSaysSaid :=
  OpenClaim.holds_of_wide 4 Try.f4 rfl rfl rfl rfl rfl rfl rfl ⟨rfl, rfl, rfl, rfl, rfl⟩ rfl rfl rfl rfl rfl (by kernel_rfl) Try.func4 (by kernel_rfl)
    (of_decide_eq_true (by kernel_rfl)) (by unfold Func.isWrapper; first | (rw [if_pos (by decide +kernel)]; kernel_rfl) | (rw [if_neg (by decide +kernel)]; exact ⟨rfl, rfl⟩))
    (fun os started H enc _ => vdiskSays_lifted os started H enc)
#print axioms vdiskSays_holds
end Go.Proofs.Ytmcoenndfbgdfaa
