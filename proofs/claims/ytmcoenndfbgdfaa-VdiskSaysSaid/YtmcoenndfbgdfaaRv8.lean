/- The document's tracked disk: Changed. -/
import Derived.Test.YtmcoenndfbgdfaaRv6
import Derived.Test.YtmcoenndfbgdfaaRefC
import Derived.Deep.DeepCutAuto
import Derived.Deep.CutBlock
namespace Go.Proofs.Ytmcoenndfbgdfaa
open Go.RowKit

def dirtyAt (D : RVm) (n : Nat) : Nat → Bool := match D.snaps[n]? with
  | some s => s.dirty
  | none => fun _ => false
/-- Marks of m snapshots behind i. -/
def unionM (D : RVm) (i : Nat) : Nat → Nat → Bool
  | 0 => fun _ => false
  | m + 1 => fun j => unionM D i m j || dirtyAt D (i + 1 + m) j

def rvChgE (D : RVm) (lo hi : Nat) : Int := match D.snaps[lo]?, D.snaps[hi]? with
  | some s, some t => if s.time = t.time then 0 else 7
  | _, _ => 5
def rvChgL (D : RVm) (lo hi : Nat) : List Ar := if rvChgE D lo hi = 0 then areasOf (unionM D lo (hi - lo)) else []
def RvChgRet (w : World) (L : List Ar) (f : Int) (e : Ending) (w' : World) : Prop := ∃ v, e = .returned (.tuple #[v, .int .i64 f]) ∧ OwnAr w' w.heap.size v L ∧ Below w.heap.size w w'

set_option maxHeartbeats 4000000 in
set_option maxRecDepth 100000 in
theorem rvChanged_some (B g : Nat) (w : World) (D : RVm) (a b : Int) (hD : RVAt B w g D) (i k : Nat) (hpa : rposIn D.snaps a = some i) (hpb : rposIn D.snaps b = some k) :
    Calls Try.prog 33 #[.pointer (some ⟨g, 0, none⟩), .int .i64 a, .int .i64 b] w (RvChgRet w (rvChgL D (min i k) (max i k)) (rvChgE D (min i k) (max i k))) := by
  obtain ⟨A, c, hg, hO, hp⟩ := rv_form hD
  obtain ⟨hi, _⟩ := rpos_lt hpa
  obtain ⟨hk, _⟩ := rpos_lt hpb
  obtain ⟨gb, rfl⟩ := hp (by omega)
  have h5 := hD.ok.few
  have c35 : ∀ n, (w.drewN n).cell? ⟨g, 35, none⟩ = some (.slice (some ⟨gb, 0, none⟩) D.snaps.length c) := fun n => cell_of_row _ _ _ _ _ _ hg
  have cT : ∀ n q (hq : q < D.snaps.length), (w.drewN n).cell? ⟨gb, q * 35 + 1, none⟩ = some (.int .i64 D.snaps[q].time) := fun n q hq => rs_cell hO rfl q hq 1 _ rfl
  have i0 : (0 : Int) ≤ (i : Int) := by omega
  have k0 : (0 : Int) ≤ (k : Int) := by omega
  have i1 : (i : Int) < (D.snaps.length : Int) := by omega
  have k1 : (k : Int) < (D.snaps.length : Int) := by omega
  have di : decide ((i : Int) < 0) = false := by simp
  have dk : decide ((k : Int) < 0) = false := by simp
  have hgw := hD.lt
  obtain ⟨cur, hcur, _, _, _, _, _⟩ := rs_open hO rfl
  have hgbw := (Array.getElem?_eq_some_iff.1 hcur).1
  have HCD := Lib.hid (fun w' (hb : Below w.heap.size w w') q (hq : q < D.snaps.length) j (hj : j < 16) => show w'.cell? ⟨gb, q * 35 + 19 + j, none⟩ = some (.bool (dirtyAt D q j)) from by
    rw [hb.cell (p := ⟨gb, q * 35 + 19 + j, none⟩) hgbw, Nat.add_assoc, rs_cell hO rfl q hq (19 + j) _ (rsArr_dirty _ hj)]
    unfold dirtyAt; rw [List.getElem?_eq_getElem hq])
  have HC35 := Lib.hid (fun w' (hb : Below w.heap.size w w') => show w'.cell? ⟨g, 35, none⟩ = some (.slice (some ⟨gb, 0, none⟩) D.snaps.length c) from (hb.cell (p := ⟨g, 35, none⟩) hgw).trans (cell_of_row _ _ _ _ _ _ hg))
  clear hg hO hcur
  by_cases hsw : k < i
  · have m1 : min i k = k := by omega
    have m2 : max i k = i := by omega
    rw [m1, m2]
    have s1 : (k : Int) < (i : Int) := by omega
    have s2 : decide ((k : Int) < (i : Int)) = true := decide_eq_true s1
    have s3 : decide (k < i) = true := decide_eq_true hsw
    obtain ⟨n0, hn0⟩ : ∃ n0, i - k = n0 := ⟨_, rfl⟩
    have hle : k ≤ i := by omega
    go_enter Try.func33, Try.ntmps33
    go_wp2_with fail
    ((with_reducible refine (rvat_some B g _ D a i hD hpa).mono ?_); rintro e w1 ⟨rfl, n1, rfl⟩)
    go_wp2_with fail
    ((with_reducible refine (rvat_some B g _ D b k (hD.below (below_drewN (Below.refl _ _) _)) hpb).mono ?_); rintro e w2 ⟨rfl, n2, rfl⟩)
    go_wp2_with fail
    have e35 := c35 (n1 + n2)
    have eL := cT (n1 + n2) k hk
    have eH := cT (n1 + n2) i hi
    by_cases ht : D.snaps[k].time = D.snaps[i].time
    · as_aux_lemma =>
      have t1 : ((D.snaps[i].time : Int) != (D.snaps[k].time : Int)) = false := by simp [ht]
      have t2 : ((D.snaps[k].time : Int) != (D.snaps[i].time : Int)) = false := by simp [ht]
      have hE : rvChgE D k i = 0 := by unfold rvChgE; rw [List.getElem?_eq_getElem hk, List.getElem?_eq_getElem hi]; simp [ht]
      have hL : rvChgL D k i = areasOf (unionM D k n0) := by unfold rvChgL; rw [if_pos hE, hn0]
      have HE := Lib.hid hE
      have HL := Lib.hid hL
      have HN0 := Lib.hid hn0
      clear hE hL ht
      go_quiet (fail)
      have a1 : IntKind.i64.wrap ((k : Int) + 1) = (k : Int) + 1 := IntWalk.i64_in _ (by omega)
      have HB0 := Lib.hid (fun n o => show Below w.heap.size w ((w.drewN n).alloc o) from (below_drewN (Below.refl _ _) _).alloc (Nat.le_refl _) o)
      have HM0 := Lib.hid (MBlk.new ((w.drewN (n1 + n2)).drewN nq) 35 (fun _ => false))
      clear c35 cT e35 eL eH
      go_upto_block 0 with (fail)
      go_cut [] (fun wx => ∃ w3, wx = w3 ∧ MBlk w3 w.heap.size 35 (unionM D k n0) ∧ Below w.heap.size w w3)
      case first =>
        as_aux_lemma =>
        go_wp2
        go_loopw [11] (fun t wr => ∃ m : Nat, m ≤ n0 ∧ t = .int .i64 ((k : Int) + 1 + (m : Int)) ∧ MBlk wr w.heap.size 35 (unionM D k m) ∧ Below w.heap.size w wr) (fun t _ => (i : Nat) + 1 - (intOf t).toNat)
        case atStart => exact ⟨0, Nat.zero_le _, by go_num, HM0.out, HB0.out _ _⟩
        case round =>
          obtain ⟨m, hm, rfl, hMB, hb⟩ := hrel
          clear HM0 HB0
          by_cases hlt : m < n0
          · have hnq : k + 1 + m < D.snaps.length := by have := HN0.out; omega
            have g1 : (k : Int) + 1 + (m : Int) ≤ (i : Int) := by have := HN0.out; omega
            have g2 : (k : Int) + 1 + (m : Int) < (D.snaps.length : Int) := by omega
            have g3 : (0 : Int) ≤ (k : Int) + 1 + (m : Int) := by omega
            have g4 : ((k : Int) + 1 + (m : Int)).toNat = k + 1 + m := by omega
            have g5 : IntKind.i64.wrap ((k : Int) + 1 + (m : Int) + 1) = (k : Int) + 1 + (m : Int) + 1 := IntWalk.i64_in _ (by omega)
            go_wp2
            go_loopw [12] (fun t wq => ∃ j : Nat, j ≤ 16 ∧ t = .int .i64 j ∧ MBlk wq w.heap.size 35 (fun q => unionM D k m q || (decide (q < j) && dirtyAt D (k + 1 + m) q)) ∧ Below w.heap.size w wq) (fun t _ => 16 - (intOf t).toNat)
            case atStart => exact ⟨0, by omega, rfl, hMB.congr (fun q _ => by simp), hb⟩
            case round =>
              obtain ⟨j, hj, rfl, hMQ, hbq⟩ := hrel
              clear hMB hb
              by_cases hjl : j < 16
              · obtain ⟨c1, c2⟩ := hMQ.marks j hjl
                have d1 := HCD.out wr hbq (k + 1 + m) hnq j hjl
                have n35 := HC35.out wr hbq
                have e0 : (unionM D k m j || (decide (j < j) && dirtyAt D (k + 1 + m) j)) = unionM D k m j := by simp
                simp only [e0] at c1
                clear e0
                have HMN := Lib.hid (fun (v : Bool) (hv : v = (unionM D k m j || dirtyAt D (k + 1 + m) j)) => show MBlk (wr.setCell ⟨w.heap.size, j, none⟩ (.bool v)) w.heap.size 35 (fun q => unionM D k m q || (decide (q < j + 1) && dirtyAt D (k + 1 + m) q)) from (hMQ.set j v).congr (fun q _ => by
                  by_cases e : q = j
                  · subst e; simp [hv]
                  · have : decide (q < j + 1) = decide (q < j) := by rw [decide_eq_decide]; omega
                    simp [e, this]))
                have HBN := Lib.hid (fun (v : Bool) => show Below w.heap.size w (wr.setCell ⟨w.heap.size, j, none⟩ (.bool v)) from hbq.setCell (Nat.le_refl _) _)
                have j1 : (j : Int) < 16 := by omega
                have j0 : (0 : Int) ≤ (j : Int) := by omega
                clear hMQ hbq
                generalize dirtyAt D (k + 1 + m) j = dj at *
                cases hu : unionM D k m j with
                | true =>
                  rw [hu] at c1
                  have HMT := Lib.hid (HMN.out true (by rw [hu]; rfl))
                  clear hu HMN
                  go_wp2
                  go_roundw
                  case rel => exact ⟨j + 1, by omega, by go_num, HMT.out, HBN.out _⟩
                  case measure => simp [intOf]; omega
                | false =>
                  rw [hu] at c1
                  have HMT := Lib.hid (HMN.out dj (by rw [hu]; rfl))
                  clear hu HMN
                  go_wp2
                  go_roundw
                  case rel => exact ⟨j + 1, by omega, by go_num, HMT.out, HBN.out _⟩
                  case measure => simp [intOf]; omega
              · obtain rfl : j = 16 := by omega
                have HMQ := Lib.hid (show MBlk wr w.heap.size 35 (unionM D k (m + 1)) from hMQ.congr (fun q hq => by
                  show _ = (unionM D k m q || dirtyAt D (k + 1 + m) q)
                  have : decide (q < 16) = true := by simpa using hq
                  rw [this, Bool.true_and]))
                clear hMQ
                go_wp2
                go_roundw
                case rel => exact ⟨m + 1, by omega, by go_num, HMQ.out, hbq⟩
                case measure => simp [intOf]; omega
          · obtain rfl : m = n0 := by omega
            have g1 : ¬ (k : Int) + 1 + (m : Int) ≤ (i : Int) := by have := HN0.out; omega
            go_wp2
            go_meet
            exact ⟨_, rfl, hMB, hb⟩
      case rest =>
        as_aux_lemma =>
        obtain ⟨w3, ex, hMB, hb⟩ := hcut
        rw [ex]
        clear ex HM0 HB0 HCD HC35
        have hX2 : w3.heap[w.heap.size]? = some (.cells (mArr (unionM D k n0)) 35 (0, 0)) := hMB
        have HX2 := Lib.hid hX2
        clear hX2 hMB
        go_wp2_with ((with_reducible refine isLoad 75 ?_); refine wpList_load_at rfl 35 _ rfl w.heap.size 0 16 rfl 35 _ (0, 0) _ HX2.out Try.underlying35 rfl Try.infoMarks (by simp [mArr_size]) _ (mArr_cut _) ?_)
        refine (refAreas_any (unionM D k n0) w3).mono ?_
        rintro e w4 ⟨v, rfl, hO4, hb4⟩
        have HO4 := Lib.hid (OwnAr.base hO4 hb.size)
        have HB4 := Lib.hid (belowThen hb hb4)
        clear hO4 hb4 HX2
        go_wp2
        go_ret2
        rw [HE.out, HL.out]
        exact ⟨v, rfl, HO4.out, HB4.out⟩
    · as_aux_lemma =>
      have t1 : ((D.snaps[i].time : Int) != (D.snaps[k].time : Int)) = true := by simp; omega
      have t2 : ((D.snaps[k].time : Int) != (D.snaps[i].time : Int)) = true := by simp; omega
      have hE : rvChgE D k i = 7 := by unfold rvChgE; rw [List.getElem?_eq_getElem hk, List.getElem?_eq_getElem hi]; simp [ht]
      have hL : rvChgL D k i = [] := by unfold rvChgL; rw [hE]; rfl
      have HE := Lib.hid hE
      have HL := Lib.hid hL
      clear hE hL ht
      go_quiet (fail)
      go_wp2
      go_ret2
      rw [HE.out, HL.out]
      exact ⟨.slice none 0 0, rfl, World.ownsRow_nil _ _ _ _, below_drewN (below_drewN (Below.refl _ _) _) _⟩
  · have m1 : min i k = i := by omega
    have m2 : max i k = k := by omega
    rw [m1, m2]
    have s1 : ¬ (k : Int) < (i : Int) := by omega
    have s2 : decide ((k : Int) < (i : Int)) = false := decide_eq_false s1
    have s3 : decide (k < i) = false := decide_eq_false hsw
    obtain ⟨n0, hn0⟩ : ∃ n0, k - i = n0 := ⟨_, rfl⟩
    have hle : i ≤ k := by omega
    go_enter Try.func33, Try.ntmps33
    go_wp2_with fail
    ((with_reducible refine (rvat_some B g _ D a i hD hpa).mono ?_); rintro e w1 ⟨rfl, n1, rfl⟩)
    go_wp2_with fail
    ((with_reducible refine (rvat_some B g _ D b k (hD.below (below_drewN (Below.refl _ _) _)) hpb).mono ?_); rintro e w2 ⟨rfl, n2, rfl⟩)
    go_wp2_with fail
    have e35 := c35 (n1 + n2)
    have eL := cT (n1 + n2) i hi
    have eH := cT (n1 + n2) k hk
    by_cases ht : D.snaps[i].time = D.snaps[k].time
    · as_aux_lemma =>
      have t1 : ((D.snaps[k].time : Int) != (D.snaps[i].time : Int)) = false := by simp [ht]
      have t2 : ((D.snaps[i].time : Int) != (D.snaps[k].time : Int)) = false := by simp [ht]
      have hE : rvChgE D i k = 0 := by unfold rvChgE; rw [List.getElem?_eq_getElem hi, List.getElem?_eq_getElem hk]; simp [ht]
      have hL : rvChgL D i k = areasOf (unionM D i n0) := by unfold rvChgL; rw [if_pos hE, hn0]
      have HE := Lib.hid hE
      have HL := Lib.hid hL
      have HN0 := Lib.hid hn0
      clear hE hL ht
      go_quiet (fail)
      have a1 : IntKind.i64.wrap ((i : Int) + 1) = (i : Int) + 1 := IntWalk.i64_in _ (by omega)
      have HB0 := Lib.hid (fun n o => show Below w.heap.size w ((w.drewN n).alloc o) from (below_drewN (Below.refl _ _) _).alloc (Nat.le_refl _) o)
      have HM0 := Lib.hid (MBlk.new ((w.drewN (n1 + n2)).drewN nq) 35 (fun _ => false))
      clear c35 cT e35 eL eH
      go_upto_block 0 with (fail)
      go_cut [] (fun wx => ∃ w3, wx = w3 ∧ MBlk w3 w.heap.size 35 (unionM D i n0) ∧ Below w.heap.size w w3)
      case first =>
        as_aux_lemma =>
        go_wp2
        go_loopw [11] (fun t wr => ∃ m : Nat, m ≤ n0 ∧ t = .int .i64 ((i : Int) + 1 + (m : Int)) ∧ MBlk wr w.heap.size 35 (unionM D i m) ∧ Below w.heap.size w wr) (fun t _ => (k : Nat) + 1 - (intOf t).toNat)
        case atStart => exact ⟨0, Nat.zero_le _, by go_num, HM0.out, HB0.out _ _⟩
        case round =>
          obtain ⟨m, hm, rfl, hMB, hb⟩ := hrel
          clear HM0 HB0
          by_cases hlt : m < n0
          · have hnq : i + 1 + m < D.snaps.length := by have := HN0.out; omega
            have g1 : (i : Int) + 1 + (m : Int) ≤ (k : Int) := by have := HN0.out; omega
            have g2 : (i : Int) + 1 + (m : Int) < (D.snaps.length : Int) := by omega
            have g3 : (0 : Int) ≤ (i : Int) + 1 + (m : Int) := by omega
            have g4 : ((i : Int) + 1 + (m : Int)).toNat = i + 1 + m := by omega
            have g5 : IntKind.i64.wrap ((i : Int) + 1 + (m : Int) + 1) = (i : Int) + 1 + (m : Int) + 1 := IntWalk.i64_in _ (by omega)
            go_wp2
            go_loopw [12] (fun t wq => ∃ j : Nat, j ≤ 16 ∧ t = .int .i64 j ∧ MBlk wq w.heap.size 35 (fun q => unionM D i m q || (decide (q < j) && dirtyAt D (i + 1 + m) q)) ∧ Below w.heap.size w wq) (fun t _ => 16 - (intOf t).toNat)
            case atStart => exact ⟨0, by omega, rfl, hMB.congr (fun q _ => by simp), hb⟩
            case round =>
              obtain ⟨j, hj, rfl, hMQ, hbq⟩ := hrel
              clear hMB hb
              by_cases hjl : j < 16
              · obtain ⟨c1, c2⟩ := hMQ.marks j hjl
                have d1 := HCD.out wr hbq (i + 1 + m) hnq j hjl
                have n35 := HC35.out wr hbq
                have e0 : (unionM D i m j || (decide (j < j) && dirtyAt D (i + 1 + m) j)) = unionM D i m j := by simp
                simp only [e0] at c1
                clear e0
                have HMN := Lib.hid (fun (v : Bool) (hv : v = (unionM D i m j || dirtyAt D (i + 1 + m) j)) => show MBlk (wr.setCell ⟨w.heap.size, j, none⟩ (.bool v)) w.heap.size 35 (fun q => unionM D i m q || (decide (q < j + 1) && dirtyAt D (i + 1 + m) q)) from (hMQ.set j v).congr (fun q _ => by
                  by_cases e : q = j
                  · subst e; simp [hv]
                  · have : decide (q < j + 1) = decide (q < j) := by rw [decide_eq_decide]; omega
                    simp [e, this]))
                have HBN := Lib.hid (fun (v : Bool) => show Below w.heap.size w (wr.setCell ⟨w.heap.size, j, none⟩ (.bool v)) from hbq.setCell (Nat.le_refl _) _)
                have j1 : (j : Int) < 16 := by omega
                have j0 : (0 : Int) ≤ (j : Int) := by omega
                clear hMQ hbq
                generalize dirtyAt D (i + 1 + m) j = dj at *
                cases hu : unionM D i m j with
                | true =>
                  rw [hu] at c1
                  have HMT := Lib.hid (HMN.out true (by rw [hu]; rfl))
                  clear hu HMN
                  go_wp2
                  go_roundw
                  case rel => exact ⟨j + 1, by omega, by go_num, HMT.out, HBN.out _⟩
                  case measure => simp [intOf]; omega
                | false =>
                  rw [hu] at c1
                  have HMT := Lib.hid (HMN.out dj (by rw [hu]; rfl))
                  clear hu HMN
                  go_wp2
                  go_roundw
                  case rel => exact ⟨j + 1, by omega, by go_num, HMT.out, HBN.out _⟩
                  case measure => simp [intOf]; omega
              · obtain rfl : j = 16 := by omega
                have HMQ := Lib.hid (show MBlk wr w.heap.size 35 (unionM D i (m + 1)) from hMQ.congr (fun q hq => by
                  show _ = (unionM D i m q || dirtyAt D (i + 1 + m) q)
                  have : decide (q < 16) = true := by simpa using hq
                  rw [this, Bool.true_and]))
                clear hMQ
                go_wp2
                go_roundw
                case rel => exact ⟨m + 1, by omega, by go_num, HMQ.out, hbq⟩
                case measure => simp [intOf]; omega
          · obtain rfl : m = n0 := by omega
            have g1 : ¬ (i : Int) + 1 + (m : Int) ≤ (k : Int) := by have := HN0.out; omega
            go_wp2
            go_meet
            exact ⟨_, rfl, hMB, hb⟩
      case rest =>
        as_aux_lemma =>
        obtain ⟨w3, ex, hMB, hb⟩ := hcut
        rw [ex]
        clear ex HM0 HB0 HCD HC35
        have hX2 : w3.heap[w.heap.size]? = some (.cells (mArr (unionM D i n0)) 35 (0, 0)) := hMB
        have HX2 := Lib.hid hX2
        clear hX2 hMB
        go_wp2_with ((with_reducible refine isLoad 75 ?_); refine wpList_load_at rfl 35 _ rfl w.heap.size 0 16 rfl 35 _ (0, 0) _ HX2.out Try.underlying35 rfl Try.infoMarks (by simp [mArr_size]) _ (mArr_cut _) ?_)
        refine (refAreas_any (unionM D i n0) w3).mono ?_
        rintro e w4 ⟨v, rfl, hO4, hb4⟩
        have HO4 := Lib.hid (OwnAr.base hO4 hb.size)
        have HB4 := Lib.hid (belowThen hb hb4)
        clear hO4 hb4 HX2
        go_wp2
        go_ret2
        rw [HE.out, HL.out]
        exact ⟨v, rfl, HO4.out, HB4.out⟩
    · as_aux_lemma =>
      have t1 : ((D.snaps[k].time : Int) != (D.snaps[i].time : Int)) = true := by simp; omega
      have t2 : ((D.snaps[i].time : Int) != (D.snaps[k].time : Int)) = true := by simp; omega
      have hE : rvChgE D i k = 7 := by unfold rvChgE; rw [List.getElem?_eq_getElem hi, List.getElem?_eq_getElem hk]; simp [ht]
      have hL : rvChgL D i k = [] := by unfold rvChgL; rw [hE]; rfl
      have HE := Lib.hid hE
      have HL := Lib.hid hL
      clear hE hL ht
      go_quiet (fail)
      go_wp2
      go_ret2
      rw [HE.out, HL.out]
      exact ⟨.slice none 0 0, rfl, World.ownsRow_nil _ _ _ _, below_drewN (below_drewN (Below.refl _ _) _) _⟩
end Go.Proofs.Ytmcoenndfbgdfaa
