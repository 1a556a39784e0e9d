/- The walk of TopPool. -/
import Derived.Test.YtmgnikkbakpbdaaPool
import Derived.Test.YtmgnikkbakpbdaaLight
import Derived.Test.YtmgnikkbakpbdaaNumber
namespace Go.Proofs.Ytmgnikkbakpbdaa
open Go.RowKit Go.Maps

theorem andSeven (x : Int) : 0 ≤ bits .and .i64 x 7 ∧ bits .and .i64 x 7 ≤ 7 := by
  have h : (BitVec.ofInt 64 x &&& BitVec.ofInt 64 7).toNat ≤ 7 := by
    rw [BitVec.toNat_and]
    exact Nat.and_le_right
  have e : bits .and .i64 x 7 = IntKind.i64.wrap ((BitVec.ofInt 64 x &&& BitVec.ofInt 64 7).toNat : Int) := rfl
  rw [e, IntWalk.i64_in _ (by omega)]
  omega

/-- A pool that has one block with so many references at a free number. -/
def withRefs (p : PoolM) (m : Nat) (data : ByteArray) (r : Nat) : PoolM := setBlk p m (if r = 0 then noBlk else ⟨data, r⟩)

theorem withRefs_at (p : PoolM) (m : Nat) (data : ByteArray) (r : Nat) : withRefs p m data (r + 1) m = ⟨data, r + 1⟩ := by simp [withRefs, setBlk]
theorem withRefs_has (p : PoolM) (m : Nat) (data : ByteArray) (r : Nat) (h1 : 1 ≤ m) (h2 : m ≤ 40) : hasBlk (withRefs p m data (r + 1)) m = true :=
  (hasBlk_iff _ _).2 ⟨by omega, by omega, by rw [Int.toNat_natCast, withRefs_at]; simp⟩
theorem setBlk_set (p : PoolM) (m : Nat) (a b : Blk) : setBlk (setBlk p m a) m b = setBlk p m b := by
  funext i; unfold setBlk; split <;> rfl
theorem withRefs_add (p : PoolM) (m : Nat) (data : ByteArray) (r : Nat) (h1 : 1 ≤ m) (h2 : m ≤ 40) : addRef (withRefs p m data (r + 1)) m = withRefs p m data (r + 2) := by
  unfold addRef
  rw [if_pos (withRefs_has p m data r h1 h2), Int.toNat_natCast, withRefs_at]
  unfold withRefs
  rw [setBlk_set]
  simp
theorem withRefs_sub (p : PoolM) (m : Nat) (data : ByteArray) (r : Nat) (h1 : 1 ≤ m) (h2 : m ≤ 40) : subRef (withRefs p m data (r + 1)) m = withRefs p m data r := by
  unfold subRef
  rw [if_pos (withRefs_has p m data r h1 h2), Int.toNat_natCast, withRefs_at]
  unfold withRefs
  rw [setBlk_set]
  by_cases h : r = 0
  · subst h; simp
  · simp [h]
theorem withRefs_zero {K : Nat} {p : PoolM} (h : p.Ok K) {m : Nat} (hm : usedBlk p m = false) (data : ByteArray) : withRefs p m data 0 = p := by
  funext i
  unfold withRefs setBlk
  by_cases e : i = m
  · subst e
    simp [usedBlk] at hm
    simp [h.gone i hm]
  · simp [e]
theorem withRefs_one (p : PoolM) (data : ByteArray) (h : putErr p data = 0) : putP p data = withRefs p (putId p data) data 1 := by
  unfold putP; rw [if_pos h]; rfl

theorem ref_step (g b K : Nat) (w : World) (p : PoolM) (m r : Nat) (data : ByteArray) (h : PoolAt w g b K (withRefs p m data (r + 1))) (h1 : 1 ≤ m) (h2 : m ≤ 40) (hK : K ≤ 1000000000) :
    Calls Try.prog 12 #[.pointer (some ⟨g, 0, none⟩), .int .i64 m] w fun e w' => e = .returned .nilIface ∧ PoolAt w' g b (K + 1) (withRefs p m data (r + 2)) ∧ Turn [b] w w' := by
  have := poolRef_any g b K w _ m h (by omega) hK
  rw [withRefs_add p m data r h1 h2, show refErr (withRefs p m data (r + 1)) m = 0 by unfold refErr; rw [withRefs_has p m data r h1 h2]; rfl] at this
  exact this
theorem unref_step (g b K : Nat) (w : World) (p : PoolM) (m r : Nat) (data : ByteArray) (h : PoolAt w g b K (withRefs p m data (r + 1))) (h1 : 1 ≤ m) (h2 : m ≤ 40) (hK : K ≤ 1000000000) :
    Calls Try.prog 14 #[.pointer (some ⟨g, 0, none⟩), .int .i64 m] w fun e w' => e = .returned .nilIface ∧ PoolAt w' g b K (withRefs p m data r) ∧ Turn [b] w w' := by
  have := poolUnref_any g b K w _ m h (by omega) hK
  rw [withRefs_sub p m data r h1 h2, show refErr (withRefs p m data (r + 1)) m = 0 by unfold refErr; rw [withRefs_has p m data r h1 h2]; rfl] at this
  exact this
theorem unref_first (g b K : Nat) (w : World) (h : PoolAt w g b K (withRefs emptyPool 1 ⟨#[120]⟩ 1)) (hK : K ≤ 1000000000) :
    Calls Try.prog 14 #[.pointer (some ⟨g, 0, none⟩), .int .i64 1] w fun e w' => e = .returned .nilIface ∧ PoolAt w' g b K (withRefs emptyPool 1 ⟨#[120]⟩ 0) ∧ Turn [b] w w' :=
  unref_step g b K w emptyPool 1 0 _ h (by omega) (by omega) hK
theorem get_step (g b K : Nat) (w : World) (p : PoolM) (m r : Nat) (data : ByteArray) (h : PoolAt w g b K (withRefs p m data (r + 1))) (h1 : 1 ≤ m) (h2 : m ≤ 40) :
    Calls Try.prog 16 #[.pointer (some ⟨g, 0, none⟩), .int .i64 m] w fun e w' => e = .returned (.tuple #[.string data, .nilIface]) ∧ Below w.heap.size w w' := by
  have := poolGet_any g b K w _ m h (by omega)
  rw [show getText (withRefs p m data (r + 1)) m = data by unfold getText; rw [withRefs_has p m data r h1 h2]; simp [withRefs_at], show refErr (withRefs p m data (r + 1)) m = 0 by unfold refErr; rw [withRefs_has p m data r h1 h2]; rfl] at this
  exact this
theorem has_no (p : PoolM) {m : Nat} (hm : usedBlk p m = false) : hasBlk p m = false := by
  simp [usedBlk] at hm; simp [hasBlk, hm]
theorem get_none (g b K : Nat) (w : World) (p : PoolM) (m : Nat) (h : PoolAt w g b K p) (hm : usedBlk p m = false) (h2 : m ≤ 40) :
    Calls Try.prog 16 #[.pointer (some ⟨g, 0, none⟩), .int .i64 m] w fun e w' => e = .returned (.tuple #[.string ByteArray.empty, errV 5]) ∧ Below w.heap.size w w' := by
  have := poolGet_any g b K w _ m h (by omega)
  rw [show getText p m = ByteArray.empty by unfold getText; rw [has_no p hm]; rfl, show refErr p m = 5 by unfold refErr; rw [has_no p hm]; rfl] at this
  exact this
theorem ref_none (g b K : Nat) (w : World) (p : PoolM) (m : Nat) (h : PoolAt w g b K p) (hm : usedBlk p m = false) (h2 : m ≤ 40) (hK : K ≤ 1000000000) :
    Calls Try.prog 12 #[.pointer (some ⟨g, 0, none⟩), .int .i64 m] w fun e w' => e = .returned (errV 5) ∧ PoolAt w' g b (K + 1) p ∧ Turn [b] w w' := by
  have := poolRef_any g b K w p m h (by omega) hK
  rw [show addRef p m = p by unfold addRef; rw [has_no p hm]; rfl, show refErr p m = 5 by unfold refErr; rw [has_no p hm]; rfl] at this
  exact this

theorem first_free : firstFree 40 (usedBlk emptyPool) = some 1 := by decide
theorem put_first (g b K : Nat) (w : World) (h : PoolAt w g b K emptyPool) :
    Calls Try.prog 9 #[.pointer (some ⟨g, 0, none⟩), .string ⟨#[120]⟩] w fun e w' => e = .returned (.tuple #[.int .i64 1, .nilIface]) ∧ PoolAt w' g b (K + 1) (withRefs emptyPool 1 ⟨#[120]⟩ 1) ∧ Turn [b] w w' := by
  have he : putErr emptyPool ⟨#[120]⟩ = 0 := by unfold putErr; rw [first_free]; rfl
  have hi : putId emptyPool ⟨#[120]⟩ = 1 := by unfold putId; rw [he, first_free]; rfl
  have := poolPut_any g b K w emptyPool ⟨#[120]⟩ h (by decide)
  rw [withRefs_one _ _ he, hi, he] at this
  exact this
theorem nums_empty : numsOf emptyPool = [] := by decide
/-- Numbers, as a slice that lies in new memory. -/
def RetSl (w : World) (l : List Int) (e : Ending) (w' : World) : Prop := ∃ A c, e = .returned (.slice A l.length c) ∧ IntsAt w' A l ∧ (∀ x off, A = some ⟨x, off, none⟩ → w.heap.size ≤ x) ∧ Below w.heap.size w w'
theorem numbers_sl (g b K : Nat) (w : World) (p : PoolM) (h : PoolAt w g b K p) : Calls Try.prog 19 #[.pointer (some ⟨g, 0, none⟩)] w (RetSl w (numsOf p)) := by
  refine (poolNumbers_any g b K w p h).mono ?_
  rintro e w' ⟨v, rfl, hO, hb⟩
  obtain ⟨A, c, rfl, hA, hx⟩ := hO.at_
  exact ⟨A, c, rfl, hA, fun x off e => (hx x off e).1, hb⟩
theorem numbers_none (g b K : Nat) (w : World) (h : PoolAt w g b K (withRefs emptyPool 1 ⟨#[120]⟩ 0)) :
    Calls Try.prog 19 #[.pointer (some ⟨g, 0, none⟩)] w fun e w' => ∃ A c, e = .returned (.slice A 0 c) ∧ Below w.heap.size w w' := by
  have := numbers_sl g b K w _ h
  rw [withRefs_zero emptyPool_ok rfl, nums_empty] at this
  refine this.mono ?_
  rintro e w' ⟨A, c, rfl, _, _, hb⟩
  exact ⟨A, c, rfl, hb⟩
theorem same_true (A A' : Option Addr) (c c' n : Nat) (l : List Int) (w : World) (hA : IntsAt w A l) (hA' : IntsAt w A' l) (hl : l.length = n) (hn : n ≤ 1000) :
    Calls Try.prog 18 #[.slice A n c, .slice A' n c'] w fun e w' => e = .returned (.bool true) ∧ Below w.heap.size w w' := by
  subst hl
  have := sameNumbers_any A A' c c' l l w hA hA' hn
  simpa using this

theorem putId_zero (p : PoolM) (data : ByteArray) (h : putErr p data ≠ 0) : putId p data = 0 := by unfold putId; rw [if_neg h]
theorem putP_same (p : PoolM) (data : ByteArray) (h : putErr p data ≠ 0) : putP p data = p := by unfold putP; rw [if_neg h]
theorem put_e (g b K : Nat) (w : World) (p : PoolM) (data : ByteArray) (n : Nat) (ne : Int) (q : PoolM) (h : PoolAt w g b K p) (hdata : data.size ≤ 9223372036854775807) (hn : putId p data = n) (hne : putErr p data = ne) (hq : putP p data = q) :
    Calls Try.prog 9 #[.pointer (some ⟨g, 0, none⟩), .string data] w fun e w' => e = .returned (.tuple #[.int .i64 n, errV ne]) ∧ PoolAt w' g b (K + 1) q ∧ Turn [b] w w' := by
  subst hn hne hq; exact poolPut_any g b K w p data h hdata

set_option maxHeartbeats 4000000 in
set_option maxRecDepth 100000 in
theorem topPool_walk (A : Option Addr) (cA : Nat) (l : List ActM) (data : ByteArray) (many : Int) (w : World) (hA : ActsAt w w.heap.size A l) (hdata : data.size ≤ 9223372036854775807) :
    Calls Try.prog 5 #[.slice A l.length cA, .string data, .int .i64 many] w fun e w' => e = .returned (.bool true) ∧ Below w.heap.size w w' := by
  have hm := hA.1
  unfold maxLen at hm
  obtain ⟨k7, hk7, h70, h77⟩ : ∃ b, bits .and .i64 many 7 = b ∧ 0 ≤ b ∧ b ≤ 7 := ⟨_, rfl, (andSeven many).1, (andSeven many).2⟩
  obtain ⟨kk, rfl⟩ := Int.eq_ofNat_of_zero_le h70
  have HK7 := Lib.hid hk7
  clear hk7
  go_enter Try.func5, Try.ntmps5
  go_wp2_with fail
  ((with_reducible refine (poolNew_any _).mono ?_); rintro e w1 ⟨rfl, h1, hb1⟩)
  go_wp2_with fail
  ((with_reducible refine (put_first _ _ _ _ h1).mono ?_); rintro e w2 ⟨rfl, h2, ht2⟩)
  have hB1 := hb1.size
  have hz : w.heap.size + 1 < w1.heap.size := h1.lt
  have hb2 : Below w.heap.size w w2 := hb1.trans (ht2.below hB1 (by simp))
  clear ht2 h1
  go_wp2_with fail
  ((with_reducible refine (unref_first _ _ _ _ h2 (by omega)).mono ?_); rintro e w3 ⟨rfl, h3, ht3⟩)
  have hb3 : Below w.heap.size w w3 := hb2.trans (ht3.below hb2.size (by simp))
  clear ht3 h2 hb2
  go_wp2_with fail
  ((with_reducible refine (numbers_none _ _ _ _ h3).mono ?_); rintro e w4 ⟨A4, c4, rfl, hb4⟩)
  replace h3 := h3.below hb4
  replace hb4 := belowThen hb3 hb4
  clear hb3
  rw [withRefs_zero emptyPool_ok rfl] at h3
  go_wp2_with fail
  ((with_reducible refine (lightActs_any _ _ _ _ _ (hA.below hb4)).mono ?_); rintro e w5 ⟨r, rfl, hr, hb5⟩)
  replace h3 := h3.below hb5
  replace hb4 := belowThen hb4 hb5
  clear hb5
  cases r
  · go_wp2
    go_ret
    exact ⟨rfl, hb4⟩
  have hl60 : l.length ≤ 60 := by have := hr rfl; omega
  clear hr
  by_cases hd20 : 20 < (data.size : Int)
  · go_wp2
    go_ret
    exact ⟨rfl, hb4⟩
  have hd21 : decide (20 < (data.size : Int)) = false := by simpa using hd20
  go_wp2
  go_loopw [10] (fun i w' => ∃ (k : Nat) (p : PoolM), k ≤ l.length ∧ i = .int .i64 k ∧ PoolAt w' (w.heap.size + 1) w.heap.size (1 + k) p ∧ Below w.heap.size w w') (fun i _ => l.length - (intOf i).toNat)
  case atStart => exact ⟨0, emptyPool, Nat.zero_le _, rfl, h3, hb4⟩
  case round =>
    obtain ⟨k, p, hk, rfl, hP, hb⟩ := hrel
    clear h3 hb4
    by_cases hlt : k < l.length
    · obtain ⟨b, off, rfl, hact⟩ := (hA.below hb).2 k hlt
      have g1 := hact.cells.2.1
      have hss := hact.2.2.2.2.2.2.1
      unfold maxLen at hss
      have i1 : (k : Int) < (l.length : Int) := by omega
      clear hact
      go_wp2_with fail
      ((with_reducible refine (poolPut_any _ _ _ _ p l[k].s hP (by omega)).mono ?_); rintro e w6 ⟨rfl, h6, ht6⟩)
      go_wp2
      go_roundw
      case rel => exact ⟨k + 1, _, hlt, by go_num, h6, hb.trans (ht6.below hb.size (by simp))⟩
      case measure => simp [intOf]; omega
    · go_wp2_with fail
      ((with_reducible refine (numbers_sl _ _ _ _ _ hP).mono ?_); rintro e w6 ⟨N, cN, rfl, hN, hNx, hb6⟩)
      have hP6 := hP.below hb6
      have hszw := hb.size
      replace hb6 := belowThen hb hb6
      have hNx' : ∀ x off, N = some ⟨x, off, none⟩ → x ∉ [w.heap.size] := fun x off e hx => by
        have h1 := hNx x off e
        have h2 := hP.ltb
        simp at hx
        omega
      have HNX := Lib.hid hNx'
      have hnl : (numsOf p).length ≤ 40 := keysOf_le _ _
      obtain ⟨nl, hnle⟩ : ∃ nl, (numsOf p).length = nl := ⟨_, rfl⟩
      have HNL := Lib.hid hnle
      rw [hnle]
      rw [hnle] at hnl
      clear hb hP hNx hNx' hnle
      obtain ⟨ne, hne⟩ : ∃ ne, putErr p data = ne := ⟨_, rfl⟩
      obtain ⟨nv, hnv⟩ : ∃ nv, putId p data = nv := ⟨_, rfl⟩
      obtain ⟨q, hq⟩ : ∃ q, putP p data = q := ⟨_, rfl⟩
      have HNE := Lib.hid hne
      have HNV := Lib.hid hnv
      have HQ := Lib.hid hq
      go_wp2_with fail
      ((with_reducible refine (put_e _ _ _ _ p data nv ne q hP6 hdata hnv hne hq).mono ?_); rintro e w7 ⟨rfl, h7, ht7⟩)
      have hb7 := hb6.trans (ht7.below hb6.size (by simp))
      have hN7 := hN.turn ht7 HNX.out
      clear ht7 hne hnv hq hb6 hN
      by_cases he0 : ne = 0
      rotate_left
      · have hv : errV ne = .iface 76 (.int .i64 ne) := by simp [errV, he0]
        have hqp : q = p := by rw [← HQ.out]; exact putP_same p data (by rw [HNE.out]; exact he0)
        have hn0 : nv = 0 := by rw [← HNV.out]; exact putId_zero p data (by rw [HNE.out]; exact he0)
        subst hqp hn0
        rw [hv]
        clear hv he0
        go_wp2_with fail
        ((with_reducible refine (numbers_sl _ _ _ _ _ h7).mono ?_); rintro e w8 ⟨M, cM, rfl, hM, _, hb8⟩)
        have hN8 := hN7.below hb8
        replace hb7 := belowThen hb7 hb8
        rw [HNL.out]
        clear hb8 hN7
        go_wp2_with fail
        ((with_reducible refine (same_true M N cM cN nl (numsOf q) _ hM hN8 HNL.out (by omega)).mono ?_); rintro e w9 ⟨rfl, hb9⟩)
        go_wp2
        go_ret
        exact ⟨rfl, belowThen hb7 hb9⟩
      · subst he0
        obtain ⟨m, hm0, hm1, hm2, hm3, hm4, _, _⟩ := putId_of HNE.out
        have hnm : nv = m := by rw [← HNV.out]; exact hm1
        have hqp : q = withRefs p m data (0 + 1) := by rw [← HQ.out, withRefs_one p data HNE.out, hm1]
        subst hqp hnm
        have hok := hP6.ok
        have HOK := Lib.hid hok
        have HM4 := Lib.hid hm4
        clear HNE HNV HQ hm0 hm1 hm4 hok
        have hv0 : errV 0 = .nilIface := rfl
        rw [hv0]
        have hk7 := HK7.out
        go_wp2
        clear hk7
        go_loopw [13] (fun i w' => ∃ (j : Nat), j ≤ kk ∧ i = .int .i64 j ∧ PoolAt w' (w.heap.size + 1) w.heap.size (200 + j) (withRefs p nv data (j + 1)) ∧ IntsAt w' N (numsOf p) ∧ Below w.heap.size w w') (fun i _ => kk - (intOf i).toNat)
        case atStart => exact ⟨0, Nat.zero_le _, rfl, h7.mono (by omega), hN7, hb7⟩
        case round =>
          obtain ⟨j, hj, rfl, hP8, hN8, hb8⟩ := hrel
          clear h7 hN7 hb7
          by_cases hjl : j < kk
          · have i2 : (j : Int) < (kk : Int) := by omega
            go_wp2_with fail
            ((with_reducible refine (ref_step _ _ _ _ p nv j data hP8 hm2 hm3 (by omega)).mono ?_); rintro e w9 ⟨rfl, h9, ht9⟩)
            go_wp2
            go_roundw
            case rel => exact ⟨j + 1, by omega, by go_num, h9, hN8.turn ht9 HNX.out, hb8.trans (ht9.below hb8.size (by simp))⟩
            case measure => simp [intOf]; omega
          · obtain rfl : j = kk := by omega
            go_wp2
            go_loopw [14] (fun i w' => ∃ (t : Nat), t ≤ j + 1 ∧ i = .int .i64 t ∧ PoolAt w' (w.heap.size + 1) w.heap.size 400 (withRefs p nv data (j + 1 - t)) ∧ IntsAt w' N (numsOf p) ∧ Below w.heap.size w w') (fun i _ => j + 1 - (intOf i).toNat)
            case atStart => exact ⟨0, Nat.zero_le _, rfl, hP8.mono (by omega), hN8, hb8⟩
            case round =>
              obtain ⟨t, ht, rfl, hP9, hN9, hb9⟩ := hrel
              clear hP8 hN8 hb8
              by_cases htl : t < j + 1
              · have i3 : (t : Int) ≤ (j : Int) := by omega
                obtain ⟨u, hu⟩ : ∃ u, j + 1 - t = u + 1 := ⟨j - t, by omega⟩
                have hu2 : j + 1 - (t + 1) = u := by omega
                rw [hu] at hP9
                have HU := Lib.hid hu2
                clear hu hu2
                have hss : (data.toList != data.toList) = false := by simp
                go_wp2_with fail
                ((with_reducible refine (get_step _ _ _ _ p nv u data hP9 hm2 hm3).mono ?_); rintro e w10 ⟨rfl, hb10⟩)
                have hP10 := hP9.below hb10
                have hN10 := hN9.below hb10
                replace hb10 := belowThen hb9 hb10
                clear hP9 hN9 hb9
                go_wp2_with fail
                ((with_reducible refine (unref_step _ _ _ _ p nv u data hP10 hm2 hm3 (by omega)).mono ?_); rintro e w11 ⟨rfl, h11, ht11⟩)
                go_wp2
                go_roundw
                case rel => exact ⟨t + 1, by omega, by go_num, by rw [HU.out]; exact h11, hN10.turn ht11 HNX.out, hb10.trans (ht11.below hb10.size (by simp))⟩
                case measure => simp [intOf]; omega
              · obtain rfl : t = j + 1 := by omega
                rw [Nat.sub_self, withRefs_zero HOK.out HM4.out] at hP9
                go_wp2_with fail
                ((with_reducible refine (get_none _ _ _ _ p nv hP9 HM4.out hm3).mono ?_); rintro e w10 ⟨rfl, hb10⟩)
                have hP10 := hP9.below hb10
                have hN10 := hN9.below hb10
                replace hb10 := belowThen hb9 hb10
                clear hP9 hN9 hb9
                go_wp2_with fail
                ((with_reducible refine (num_any 5 _ (by omega)).mono ?_); rintro e w11 ⟨rfl, rfl⟩)
                go_wp2_with fail
                ((with_reducible refine (ref_none _ _ _ _ p nv hP10 HM4.out hm3 (by omega)).mono ?_); rintro e w11 ⟨rfl, h11, ht11⟩)
                have hN11 := hN10.turn ht11 HNX.out
                have hb11 := hb10.trans (ht11.below hb10.size (by simp))
                clear ht11 hN10 hb10 hP10
                go_wp2_with fail
                ((with_reducible refine (num_any 5 _ (by omega)).mono ?_); rintro e w12 ⟨rfl, rfl⟩)
                go_wp2_with fail
                ((with_reducible refine (numbers_sl _ _ _ _ _ h11).mono ?_); rintro e w12 ⟨M, cM, rfl, hM, _, hb12⟩)
                have hN12 := hN11.below hb12
                replace hb12 := belowThen hb11 hb12
                rw [HNL.out]
                clear hN11 hb11
                go_wp2_with fail
                ((with_reducible refine (same_true M N cM cN nl (numsOf p) _ hM hN12 HNL.out (by omega)).mono ?_); rintro e w13 ⟨rfl, hb13⟩)
                go_wp2
                go_ret
                exact ⟨rfl, belowThen hb12 hb13⟩
end Go.Proofs.Ytmgnikkbakpbdaa
