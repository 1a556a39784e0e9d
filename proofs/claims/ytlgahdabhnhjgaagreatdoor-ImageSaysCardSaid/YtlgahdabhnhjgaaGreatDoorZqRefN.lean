/- The reference's index: node, of a leaf and of a root. -/
import Derived.Test.YtlgahdabhnhjgaaGreatDoorZqRefU
import Derived.Test.YtlgahdabhnhjgaaGreatDoorZqIdx2
import Derived.Deep.DeepCutAuto
import Derived.Deep.CutBlock
namespace Go.Proofs.YtlgahdabhnhjgaaGreatDoor
open Go.RowKit Go.Maps

theorem refB_zero (X : IdxM) : X.refB 0 = X := by unfold IdxM.refB addRef; rw [if_neg (by simp [hasBlk])]
theorem refN_zero (X : IdxM) : X.refN 0 = X := by unfold IdxM.refN incN; rw [if_neg (by simp [hasNod])]
theorem refB_okX {K : Nat} {X : IdxM} (h : X.Ok K) (k : Nat) : (X.refB k).Ok (K + 1) := ⟨addRef_ok h.P k, h.N.mono (by omega)⟩
theorem refN_okX {K : Nat} {X : IdxM} (h : X.Ok K) (k : Nat) : (X.refN k).Ok (K + 1) := by
  unfold IdxM.refN incN
  split
  · rename_i hh
    obtain ⟨n1, n2, _⟩ := (hasNod_iff _ _).1 hh
    have := h.N.refs k
    exact ⟨h.P.mono (by omega), setNod_ok h.N (by omega) (by omega) (by omega) (by simp; omega) (fun e => by simp at e) (h.N.kids k)⟩
  · exact h.mono (by omega)
theorem refB_has {X : IdxM} {x : Nat} (h : hasBlk X.P x = true) (y : Nat) : hasBlk (X.refB y).P x = true := by
  obtain ⟨h1, h2, h3⟩ := (hasBlk_iff _ _).1 h
  refine (hasBlk_iff _ _).2 ⟨h1, h2, ?_⟩
  unfold IdxM.refB addRef
  rw [Int.toNat_natCast] at h3 ⊢
  split
  · by_cases e : x = y
    · subst e; simp [setBlk]
    · simp [setBlk, e, h3]
  · exact h3
theorem refN_has {X : IdxM} {x : Nat} (h : hasNod X.N x = true) (y : Nat) : hasNod (X.refN y).N x = true := by
  obtain ⟨h1, h2, h3⟩ := (hasNod_iff _ _).1 h
  refine (hasNod_iff _ _).2 ⟨h1, h2, ?_⟩
  unfold IdxM.refN incN
  rw [Int.toNat_natCast] at h3 ⊢
  split
  · by_cases e : x = y
    · subst e; simp [setNod]
    · simp [setNod, e, h3]
  · exact h3
theorem eachB_has {X : IdxM} {x : Nat} (h : hasBlk X.P x = true) (n : Nod) : ∀ k, hasBlk (eachUp IdxM.refB X n k).P x = true
  | 0 => h
  | k + 1 => by rw [eachUp_succ]; exact refB_has (eachB_has h n k) _
theorem eachN_has {X : IdxM} {x : Nat} (h : hasNod X.N x = true) (n : Nod) : ∀ k, hasNod (eachUp IdxM.refN X n k).N x = true
  | 0 => h
  | k + 1 => by rw [eachUp_succ]; exact refN_has (eachN_has h n k) _
theorem setNod_has {N : NodM} {x m : Nat} (h : hasNod N x = true) (nd : Nod) (hn : nd.refs ≠ 0) : hasNod (setNod N m nd) x = true := by
  obtain ⟨h1, h2, h3⟩ := (hasNod_iff _ _).1 h
  refine (hasNod_iff _ _).2 ⟨h1, h2, ?_⟩
  rw [Int.toNat_natCast] at h3 ⊢
  by_cases e : x = m
  · subst e; simpa [setNod] using hn
  · simpa [setNod, e] using h3
theorem notZero4 {a b c d : Nat} (h : isZero4 a b c d = false) : a ≠ 0 ∨ (a = 0 ∧ b ≠ 0) ∨ (a = 0 ∧ b = 0 ∧ c ≠ 0) ∨ (a = 0 ∧ b = 0 ∧ c = 0 ∧ d ≠ 0) := by
  rw [Bool.eq_false_iff] at h
  have : ¬ (a = 0 ∧ b = 0 ∧ c = 0 ∧ d = 0) := fun e => h ((isZero4_iff a b c d).2 e)
  omega

set_option maxHeartbeats 4000000 in
set_option maxRecDepth 100000 in
theorem refNodeL (w : World) (g K : Nat) (X : IdxM) (a b c d : Nat) (h : RIdxAt w g X) (hok : X.Ok K) (hK : K ≤ 1000000) (hk : a ≤ 40 ∧ b ≤ 40 ∧ c ≤ 40 ∧ d ≤ 40) (hp : ∀ i, i < 4 → sel4 a b c d i = 0 ∨ hasBlk X.P ((sel4 a b c d i : Nat) : Int) = true) :
    Calls Tryz.prog 122 #[.pointer (some ⟨g, 0, none⟩), .agg #[.int .i64 a, .int .i64 b, .int .i64 c, .int .i64 d], .bool true] w
      (RIdxRet w g (createX IdxM.refB false X a b c d) (.tuple #[.int .i64 (createId X a b c d), .int .i64 (createErr X a b c d)])) := by
  have hlt := h.lt
  have b0 := (Below.refl w.heap.size w).alloc (Nat.le_refl _) (.cells #[.int .i64 a, .int .i64 b, .int .i64 c, .int .i64 d] 79)
  have h1 := h.below b0
  have t1 := Turn.of_below (bs := [g]) b0
  have s0 : (w.alloc (.cells #[.int .i64 a, .int .i64 b, .int .i64 c, .int .i64 d] 79)).heap[w.heap.size]? = some (.cells #[.int .i64 a, .int .i64 b, .int .i64 c, .int .i64 d] 79) := heap_alloc_new w _
  obtain ⟨gk, hgk⟩ : ∃ gk, w.heap.size = gk := ⟨_, rfl⟩
  generalize hw1 : w.alloc (.cells #[.int .i64 a, .int .i64 b, .int .i64 c, .int .i64 d] 79) = w1 at b0 h1 t1 s0
  rw [hgk] at s0
  have hgne : gk ≠ g := by omega
  have k0 : w1.cell? ⟨gk, 0, none⟩ = some (.int .i64 a) := cell_of_row _ _ _ _ _ _ s0
  have k1 : w1.cell? ⟨gk, 1, none⟩ = some (.int .i64 b) := cell_of_row _ _ _ _ _ _ s0
  have k2 : w1.cell? ⟨gk, 2, none⟩ = some (.int .i64 c) := cell_of_row _ _ _ _ _ _ s0
  have k3 : w1.cell? ⟨gk, 3, none⟩ = some (.int .i64 d) := cell_of_row _ _ _ _ _ _ s0
  clear b0 s0
  cases hz : isZero4 a b c d with
  | true =>
    obtain ⟨rfl, rfl, rfl, rfl⟩ := (isZero4_iff a b c d).1 hz
    rw [show createX IdxM.refB false X 0 0 0 0 = X by unfold createX; rw [hz]; rfl, show createId X 0 0 0 0 = 0 by unfold createId; rw [hz]; rfl, show createErr X 0 0 0 0 = 0 by unfold createErr; rw [hz]; rfl]
    clear hz hp
    go_enter Tryz.func122, Tryz.ntmps122
    go_wp2
    go_ret2
    subst hw1
    exact ⟨rfl, h1, t1⟩
  | false =>
    have HZ := Lib.hid (notZero4 hz)
    have HP := Lib.hid hp
    cases hff : firstFree 24 (usedNod X.N) with
    | none =>
      rw [show createX IdxM.refB false X a b c d = X by unfold createX; rw [hz, hff]; rfl, show createId X a b c d = 0 by unfold createId; rw [hz, hff]; rfl, show createErr X a b c d = 8 by unfold createErr; rw [hz, hff]; rfl]
      have HU := Lib.hid (firstFree_none hff)
      clear hz hff hp
      go_enter Tryz.func122, Tryz.ntmps122
      go_upto_region 1 with fail
      go_cut [27] (fun s wx => s = .bool false ∧ wx = w1)
      case first =>
        rcases HZ.out with ea | ⟨ea, eb⟩ | ⟨ea, eb, ec⟩ | ⟨ea, eb, ec, ed⟩
        · have z0 : ((a : Int) == 0) = false := by simpa using ea
          clear ea hw1 hgk
          go_wp2_with fail
          go_meet
          exact ⟨rfl, rfl⟩
        · have z0 : ((a : Int) == 0) = true := by simpa using ea
          have z1 : ((b : Int) == 0) = false := by simpa using eb
          clear ea eb hw1 hgk
          go_wp2_with fail
          go_meet
          exact ⟨rfl, rfl⟩
        · have z0 : ((a : Int) == 0) = true := by simpa using ea
          have z1 : ((b : Int) == 0) = true := by simpa using eb
          have z2 : ((c : Int) == 0) = false := by simpa using ec
          clear ea eb ec hw1 hgk
          go_wp2_with fail
          go_meet
          exact ⟨rfl, rfl⟩
        · have z0 : ((a : Int) == 0) = true := by simpa using ea
          have z1 : ((b : Int) == 0) = true := by simpa using eb
          have z2 : ((c : Int) == 0) = true := by simpa using ec
          have z3 : ((d : Int) == 0) = false := by simpa using ed
          clear ea eb ec ed hw1 hgk
          go_wp2_with fail
          go_meet
          exact ⟨rfl, rfl⟩
      case rest =>
        obtain ⟨rfl, e⟩ := hcut
        rw [e]
        clear e
        clear hw1 hgk k0 k1 k2 k3
        go_wp2
        go_loopw [8] (fun i wr => ∃ k : Nat, 1 ≤ k ∧ k ≤ 25 ∧ i = .int .i64 k ∧ wr = w1) (fun i _ => 25 - (intOf i).toNat)
        case atStart => exact ⟨1, Nat.le_refl _, by omega, rfl, rfl⟩
        case round =>
          obtain ⟨k, hk1, hk2, rfl, rfl⟩ := hrel
          by_cases hlt2 : k ≤ 24
          · have c1 := h1.nods.refs k hlt2
            have hu : 0 < (X.N k).refs := by have := HU.out k hk1 hlt2; simp [usedNod] at this; omega
            have i1 : (0 : Int) ≤ (k : Int) := by omega
            have i2 : (k : Int) < 25 := by omega
            have i4 : (k : Int) ≤ 24 := by omega
            go_wp2
            go_roundw
            case rel => exact ⟨k + 1, by omega, by omega, by go_num, trivial⟩
            case measure => simp [intOf]; omega
          · obtain rfl : k = 25 := by omega
            go_wp2
            go_ret2
            exact ⟨rfl, h1, t1⟩
    | some m =>
      obtain ⟨nd, hnd⟩ : ∃ nd : Nod, ⟨a, b, c, d, 1, false⟩ = nd := ⟨_, rfl⟩
      rw [show createX IdxM.refB false X a b c d = eachUp IdxM.refB { X with N := setNod X.N m nd } nd 4 by unfold createX; rw [hz, hff, ← hnd]; rfl, show createId X a b c d = m by unfold createId; rw [hz, hff]; rfl, show createErr X a b c d = 0 by unfold createErr; rw [hz, hff]; rfl]
      obtain ⟨m1, m2, m3, m4⟩ := firstFree_some hff
      have HU := Lib.hid m4
      have H0 := Lib.hid m3
      have HND := Lib.hid hnd
      have hX0 : ({ X with N := setNod X.N m nd } : IdxM).Ok (K + 1) := ⟨hok.P.mono (by omega), by rw [← hnd]; exact setNod_ok hok.N (by omega) m1 m2 (by simp) (by simp) hk⟩
      have HX0 := Lib.hid hX0
      clear hz hff hp m3 m4 hnd hX0 hok
      go_enter Tryz.func122, Tryz.ntmps122
      go_upto_region 1 with fail
      go_cut [27] (fun s wx => s = .bool false ∧ wx = w1)
      case first =>
        rcases HZ.out with ea | ⟨ea, eb⟩ | ⟨ea, eb, ec⟩ | ⟨ea, eb, ec, ed⟩
        · have z0 : ((a : Int) == 0) = false := by simpa using ea
          clear ea hw1 hgk
          go_wp2_with fail
          go_meet
          exact ⟨rfl, rfl⟩
        · have z0 : ((a : Int) == 0) = true := by simpa using ea
          have z1 : ((b : Int) == 0) = false := by simpa using eb
          clear ea eb hw1 hgk
          go_wp2_with fail
          go_meet
          exact ⟨rfl, rfl⟩
        · have z0 : ((a : Int) == 0) = true := by simpa using ea
          have z1 : ((b : Int) == 0) = true := by simpa using eb
          have z2 : ((c : Int) == 0) = false := by simpa using ec
          clear ea eb ec hw1 hgk
          go_wp2_with fail
          go_meet
          exact ⟨rfl, rfl⟩
        · have z0 : ((a : Int) == 0) = true := by simpa using ea
          have z1 : ((b : Int) == 0) = true := by simpa using eb
          have z2 : ((c : Int) == 0) = true := by simpa using ec
          have z3 : ((d : Int) == 0) = false := by simpa using ed
          clear ea eb ec ed hw1 hgk
          go_wp2_with fail
          go_meet
          exact ⟨rfl, rfl⟩
      case rest =>
        obtain ⟨rfl, e⟩ := hcut
        rw [e]
        clear e
        clear hw1 hgk
        go_wp2
        go_loopw [8] (fun i wr => ∃ k : Nat, 1 ≤ k ∧ k ≤ m ∧ i = .int .i64 k ∧ wr = w1) (fun i _ => 25 - (intOf i).toNat)
        case atStart => exact ⟨1, Nat.le_refl _, m1, rfl, rfl⟩
        case round =>
          obtain ⟨k, hk1, hk2, rfl, rfl⟩ := hrel
          have hk24 : k ≤ 24 := by omega
          have c1 := h1.nods.refs k hk24
          have i1 : (0 : Int) ≤ (k : Int) := by omega
          have i2 : (k : Int) < 25 := by omega
          have i4 : (k : Int) ≤ 24 := by omega
          by_cases hlt2 : k < m
          · have hu : 0 < (X.N k).refs := by have := HU.out k hk1 hlt2; simp [usedNod] at this; omega
            go_wp2
            go_roundw
            case rel => exact ⟨k + 1, by omega, by omega, by go_num, trivial⟩
            case measure => simp [intOf]; omega
          · obtain rfl : m = k := by omega
            have hu : decide (0 < (X.N m).refs) = false := by have := H0.out; simp [usedNod] at this; simp; omega
            go_wp2
            refine region_tail 7 (by kernel_rfl) (by kernel_rfl) ?_
            intro w4 hw4
            have h4 : RIdxAt w4 g X := by rw [hw4]; exact h1.keep rfl
            have t4 : Turn [g] w w4 := t1.of_drew hw4
            have l0 : w4.cell? ⟨gk, 0, none⟩ = some (.int .i64 a) := by rw [hw4]; exact k0
            have l1 : w4.cell? ⟨gk, 1, none⟩ = some (.int .i64 b) := by rw [hw4]; exact k1
            have l2 : w4.cell? ⟨gk, 2, none⟩ = some (.int .i64 c) := by rw [hw4]; exact k2
            have l3 : w4.cell? ⟨gk, 3, none⟩ = some (.int .i64 d) := by rw [hw4]; exact k3
            have y0 : w4.cell? ⟨g, 82 + m * 5, none⟩ = _ := h4.nods.kid m 0 hk24 (by omega)
            have y1 := h4.nods.kid m 1 hk24 (by omega)
            have y2 := h4.nods.kid m 2 hk24 (by omega)
            have y3 := h4.nods.kid m 3 hk24 (by omega)
            have y4 := h4.nods.refs m hk24
            have z0 := h4.blks.free (82 + m * 5)
            have z1 := h4.blks.free (82 + m * 5 + 1)
            have z2 := h4.blks.free (82 + m * 5 + 2)
            have z3 := h4.blks.free (82 + m * 5 + 3)
            have z4 := h4.blks.free (82 + m * 5 + 4)
            have h5 : RIdxAt (nodStored w4 g (82 + m * 5) a b c d 1) g { X with N := setNod X.N m nd } := by
              refine ⟨blks_nodStored h4.blks (by omega) a b c d 1, ?_⟩
              rw [← HND.out]
              exact (h4.nods.set hk24 a b c d 1).topped false
            have t5 := turn_nodStored t4 (82 + m * 5) a b c d 1
            have e5 : ∀ i, i < 4 → (nodStored w4 g (82 + m * 5) a b c d 1).cell? ⟨gk, i, none⟩ = some (.int .i64 (nd.kid i)) := fun i hi => by
              refine (turn_nodStored (Turn.refl [g] w4) (82 + m * 5) a b c d 1).cellKept ?_ (by simpa using hgne)
              rw [← HND.out]
              match i, hi with
              | 0, _ => exact l0
              | 1, _ => exact l1
              | 2, _ => exact l2
              | 3, _ => exact l3
            obtain ⟨w5, hw5⟩ : ∃ w5, ((((w4.setCell ⟨g, 82 + m * 5, none⟩ (.int .i64 a)).setCell ⟨g, 82 + m * 5 + 1, none⟩ (.int .i64 b)).setCell ⟨g, 82 + m * 5 + 2, none⟩ (.int .i64 c)).setCell ⟨g, 82 + m * 5 + 3, none⟩ (.int .i64 d)).setCell ⟨g, 82 + m * 5 + 4, none⟩ (.int .i64 1) = w5 := ⟨_, rfl⟩
            have hw5' : nodStored w4 g (82 + m * 5) a b c d 1 = w5 := hw5
            rw [hw5'] at h5 t5 e5
            have H5 := Lib.hid h5
            have E5 := Lib.hid e5
            clear hw4 hw5' h5 e5 h4 t4 h1 t1 k0 k1 k2 k3 c1
            simp only [List.take_succ_cons, List.take_zero, List.drop_succ_cons, List.drop_zero]
            repeat still_step
            refine wpStill_nil ?_
            go_wp2
            clear hw5 y0 y1 y2 y3 y4 z0 z1 z2 z3 z4 l0 l1 l2 l3 hu
            go_loopw [9] (fun i w' => ∃ j : Nat, j ≤ 4 ∧ i = .int .i64 j ∧ RIdxAt w' g (eachUp IdxM.refB { X with N := setNod X.N m nd } nd j) ∧ (eachUp IdxM.refB { X with N := setNod X.N m nd } nd j).Ok (K + 1 + j) ∧ (∀ i, i < 4 → w'.cell? ⟨gk, i, none⟩ = some (.int .i64 (nd.kid i))) ∧ Turn [g] w w') (fun i _ => 4 - (intOf i).toNat)
            case atStart => exact ⟨0, by omega, rfl, H5.out, HX0.out, E5.out, t5⟩
            case round =>
              obtain ⟨j, hj, rfl, hY, hYok, hE, hT⟩ := hrel
              clear t5 H5 E5
              by_cases hj4 : j < 4
              · have hS := eachUp_succ IdxM.refB { X with N := setNod X.N m nd } nd j
                have ck := hE j hj4
                obtain ⟨kd, hkd⟩ : ∃ kd, nd.kid j = kd := ⟨_, rfl⟩
                have hpk : kd = 0 ∨ hasBlk X.P kd = true := by
                  have := HP.out j hj4
                  rw [← hkd, ← HND.out]
                  exact this
                have hpk2 : kd ≠ 0 → hasBlk (eachUp IdxM.refB { X with N := setNod X.N m nd } nd j).P kd = true := fun hn => by
                  rcases hpk with e | e
                  · exact absurd e hn
                  · exact eachB_has (X := { X with N := setNod X.N m nd }) e nd j
                obtain ⟨Y, hYe⟩ : ∃ Y, eachUp IdxM.refB { X with N := setNod X.N m nd } nd j = Y := ⟨_, rfl⟩
                rw [hkd] at ck hS
                rw [hYe] at hY hYok hS hpk2
                have HS := Lib.hid hS
                have HE := Lib.hid hE
                have j1 : (j : Int) < 4 := by omega
                have j2 : (0 : Int) ≤ (j : Int) := by omega
                clear hS hkd hYe hE hpk
                by_cases hk0 : kd = 0
                · subst hk0
                  have q1 : decide ((0 : Int) < ((0 : Nat) : Int)) = false := by decide
                  clear hpk2
                  go_wp2
                  go_roundw
                  case rel => exact ⟨j + 1, by omega, by go_num, by rw [HS.out, refB_zero]; exact hY, by rw [HS.out, refB_zero]; exact hYok.mono (by omega), HE.out, hT⟩
                  case measure => simp [intOf]; omega
                · have q1 : 0 < kd := by omega
                  have HHAS := Lib.hid (hpk2 hk0)
                  obtain ⟨v1, v2, _⟩ := (hasBlk_iff _ _).1 HHAS.out
                  have hkd40 : kd ≤ 41 - 1 := by omega
                  have v3 : (0 : Int) ≤ (kd : Int) := by omega
                  have v4 : (kd : Int) < 41 := by omega
                  have hrk := hYok.P.refs kd
                  obtain ⟨r, hr⟩ : ∃ r, (Y.P kd).refs + 1 = r := ⟨_, rfl⟩
                  have i7 : IntKind.i64.wrap (((Y.P kd).refs : Int) + 1) = (r : Int) := by rw [IntWalk.i64_in _ (by omega)]; omega
                  have HR := Lib.hid hr
                  clear hr hpk2 hk0
                  go_wp2
                  refine region_tail 14 (by kernel_rfl) (by kernel_rfl) ?_
                  intro w7 hw7
                  have h7 : RIdxAt w7 g Y := by rw [hw7]; exact hY.keep rfl
                  have t7 : Turn [g] wr w7 := (Turn.refl _ _).of_drew hw7
                  have ck7 : w7.cell? ⟨gk, j, none⟩ = some (.int .i64 kd) := by rw [hw7]; exact ck
                  have c7 := h7.blks.refs kd hkd40
                  have f7 := h7.blks.free (kd * 2 + 1)
                  have hop : Y.refB kd = { Y with P := setBlk Y.P kd ⟨(Y.P kd).data, r⟩ } := by
                    unfold IdxM.refB addRef
                    rw [if_pos HHAS.out, Int.toNat_natCast, HR.out]
                  have h8 : RIdxAt (w7.setCell ⟨g, kd * 2 + 1, none⟩ (.int .i64 r)) g (Y.refB kd) := by
                    rw [hop]
                    exact ⟨h7.blks.setRefs hkd40 r, h7.nods.setBefore (by omega) _⟩
                  have t8 := t7.cell (p := ⟨g, kd * 2 + 1, none⟩) (by simp) (.int .i64 r)
                  have e8 : ∀ i, i < 4 → (w7.setCell ⟨g, kd * 2 + 1, none⟩ (.int .i64 r)).cell? ⟨gk, i, none⟩ = some (.int .i64 (nd.kid i)) := fun i hi => t8.cellKept (HE.out i hi) (by simpa using hgne)
                  have H8 := Lib.hid h8
                  have E8 := Lib.hid e8
                  clear hw7 ck hop h8 e8
                  simp only [List.take_succ_cons, List.take_zero, List.drop_succ_cons, List.drop_zero]
                  repeat still_step
                  refine wpStill_nil ?_
                  generalize hw8 : w7.setCell ⟨g, kd * 2 + 1, none⟩ (.int .i64 r) = w8 at H8 E8 t8
                  go_wp2
                  go_roundw
                  case rel => exact ⟨j + 1, by omega, by go_num, by rw [HS.out]; exact H8.out, by rw [HS.out]; exact refB_okX hYok _, E8.out, hT.trans t8⟩
                  case measure => simp [intOf]; omega
              · obtain rfl : j = 4 := by omega
                go_wp2
                go_ret2
                exact ⟨rfl, hY, hT⟩

set_option maxHeartbeats 4000000 in
set_option maxRecDepth 100000 in
theorem refNodeR (w : World) (g K : Nat) (X : IdxM) (a b c d : Nat) (h : RIdxAt w g X) (hok : X.Ok K) (hK : K ≤ 1000000) (hk : a ≤ 40 ∧ b ≤ 40 ∧ c ≤ 40 ∧ d ≤ 40) (hp : ∀ i, i < 4 → sel4 a b c d i = 0 ∨ hasNod X.N ((sel4 a b c d i : Nat) : Int) = true) :
    Calls Tryz.prog 122 #[.pointer (some ⟨g, 0, none⟩), .agg #[.int .i64 a, .int .i64 b, .int .i64 c, .int .i64 d], .bool false] w
      (RIdxRet w g (createX IdxM.refN true X a b c d) (.tuple #[.int .i64 (createId X a b c d), .int .i64 (createErr X a b c d)])) := by
  have hlt := h.lt
  have b0 := (Below.refl w.heap.size w).alloc (Nat.le_refl _) (.cells #[.int .i64 a, .int .i64 b, .int .i64 c, .int .i64 d] 79)
  have h1 := h.below b0
  have t1 := Turn.of_below (bs := [g]) b0
  have s0 : (w.alloc (.cells #[.int .i64 a, .int .i64 b, .int .i64 c, .int .i64 d] 79)).heap[w.heap.size]? = some (.cells #[.int .i64 a, .int .i64 b, .int .i64 c, .int .i64 d] 79) := heap_alloc_new w _
  obtain ⟨gk, hgk⟩ : ∃ gk, w.heap.size = gk := ⟨_, rfl⟩
  generalize hw1 : w.alloc (.cells #[.int .i64 a, .int .i64 b, .int .i64 c, .int .i64 d] 79) = w1 at b0 h1 t1 s0
  rw [hgk] at s0
  have hgne : gk ≠ g := by omega
  have k0 : w1.cell? ⟨gk, 0, none⟩ = some (.int .i64 a) := cell_of_row _ _ _ _ _ _ s0
  have k1 : w1.cell? ⟨gk, 1, none⟩ = some (.int .i64 b) := cell_of_row _ _ _ _ _ _ s0
  have k2 : w1.cell? ⟨gk, 2, none⟩ = some (.int .i64 c) := cell_of_row _ _ _ _ _ _ s0
  have k3 : w1.cell? ⟨gk, 3, none⟩ = some (.int .i64 d) := cell_of_row _ _ _ _ _ _ s0
  clear b0 s0
  cases hz : isZero4 a b c d with
  | true =>
    obtain ⟨rfl, rfl, rfl, rfl⟩ := (isZero4_iff a b c d).1 hz
    rw [show createX IdxM.refN true X 0 0 0 0 = X by unfold createX; rw [hz]; rfl, show createId X 0 0 0 0 = 0 by unfold createId; rw [hz]; rfl, show createErr X 0 0 0 0 = 0 by unfold createErr; rw [hz]; rfl]
    clear hz hp
    go_enter Tryz.func122, Tryz.ntmps122
    go_wp2
    go_ret2
    subst hw1
    exact ⟨rfl, h1, t1⟩
  | false =>
    have HZ := Lib.hid (notZero4 hz)
    have HP := Lib.hid hp
    cases hff : firstFree 24 (usedNod X.N) with
    | none =>
      rw [show createX IdxM.refN true X a b c d = X by unfold createX; rw [hz, hff]; rfl, show createId X a b c d = 0 by unfold createId; rw [hz, hff]; rfl, show createErr X a b c d = 8 by unfold createErr; rw [hz, hff]; rfl]
      have HU := Lib.hid (firstFree_none hff)
      clear hz hff hp
      go_enter Tryz.func122, Tryz.ntmps122
      go_upto_region 1 with fail
      go_cut [27] (fun s wx => s = .bool false ∧ wx = w1)
      case first =>
        rcases HZ.out with ea | ⟨ea, eb⟩ | ⟨ea, eb, ec⟩ | ⟨ea, eb, ec, ed⟩
        · have z0 : ((a : Int) == 0) = false := by simpa using ea
          clear ea hw1 hgk
          go_wp2_with fail
          go_meet
          exact ⟨rfl, rfl⟩
        · have z0 : ((a : Int) == 0) = true := by simpa using ea
          have z1 : ((b : Int) == 0) = false := by simpa using eb
          clear ea eb hw1 hgk
          go_wp2_with fail
          go_meet
          exact ⟨rfl, rfl⟩
        · have z0 : ((a : Int) == 0) = true := by simpa using ea
          have z1 : ((b : Int) == 0) = true := by simpa using eb
          have z2 : ((c : Int) == 0) = false := by simpa using ec
          clear ea eb ec hw1 hgk
          go_wp2_with fail
          go_meet
          exact ⟨rfl, rfl⟩
        · have z0 : ((a : Int) == 0) = true := by simpa using ea
          have z1 : ((b : Int) == 0) = true := by simpa using eb
          have z2 : ((c : Int) == 0) = true := by simpa using ec
          have z3 : ((d : Int) == 0) = false := by simpa using ed
          clear ea eb ec ed hw1 hgk
          go_wp2_with fail
          go_meet
          exact ⟨rfl, rfl⟩
      case rest =>
        obtain ⟨rfl, e⟩ := hcut
        rw [e]
        clear e
        clear hw1 hgk k0 k1 k2 k3
        go_wp2
        go_loopw [8] (fun i wr => ∃ k : Nat, 1 ≤ k ∧ k ≤ 25 ∧ i = .int .i64 k ∧ wr = w1) (fun i _ => 25 - (intOf i).toNat)
        case atStart => exact ⟨1, Nat.le_refl _, by omega, rfl, rfl⟩
        case round =>
          obtain ⟨k, hk1, hk2, rfl, rfl⟩ := hrel
          by_cases hlt2 : k ≤ 24
          · have c1 := h1.nods.refs k hlt2
            have hu : 0 < (X.N k).refs := by have := HU.out k hk1 hlt2; simp [usedNod] at this; omega
            have i1 : (0 : Int) ≤ (k : Int) := by omega
            have i2 : (k : Int) < 25 := by omega
            have i4 : (k : Int) ≤ 24 := by omega
            go_wp2
            go_roundw
            case rel => exact ⟨k + 1, by omega, by omega, by go_num, trivial⟩
            case measure => simp [intOf]; omega
          · obtain rfl : k = 25 := by omega
            go_wp2
            go_ret2
            exact ⟨rfl, h1, t1⟩
    | some m =>
      obtain ⟨nd, hnd⟩ : ∃ nd : Nod, ⟨a, b, c, d, 1, true⟩ = nd := ⟨_, rfl⟩
      rw [show createX IdxM.refN true X a b c d = eachUp IdxM.refN { X with N := setNod X.N m nd } nd 4 by unfold createX; rw [hz, hff, ← hnd]; rfl, show createId X a b c d = m by unfold createId; rw [hz, hff]; rfl, show createErr X a b c d = 0 by unfold createErr; rw [hz, hff]; rfl]
      obtain ⟨m1, m2, m3, m4⟩ := firstFree_some hff
      have HU := Lib.hid m4
      have H0 := Lib.hid m3
      have HND := Lib.hid hnd
      have hX0 : ({ X with N := setNod X.N m nd } : IdxM).Ok (K + 1) := ⟨hok.P.mono (by omega), by rw [← hnd]; exact setNod_ok hok.N (by omega) m1 m2 (by simp) (by simp) hk⟩
      have HX0 := Lib.hid hX0
      clear hz hff hp m3 m4 hnd hX0 hok
      go_enter Tryz.func122, Tryz.ntmps122
      go_upto_region 1 with fail
      go_cut [27] (fun s wx => s = .bool false ∧ wx = w1)
      case first =>
        rcases HZ.out with ea | ⟨ea, eb⟩ | ⟨ea, eb, ec⟩ | ⟨ea, eb, ec, ed⟩
        · have z0 : ((a : Int) == 0) = false := by simpa using ea
          clear ea hw1 hgk
          go_wp2_with fail
          go_meet
          exact ⟨rfl, rfl⟩
        · have z0 : ((a : Int) == 0) = true := by simpa using ea
          have z1 : ((b : Int) == 0) = false := by simpa using eb
          clear ea eb hw1 hgk
          go_wp2_with fail
          go_meet
          exact ⟨rfl, rfl⟩
        · have z0 : ((a : Int) == 0) = true := by simpa using ea
          have z1 : ((b : Int) == 0) = true := by simpa using eb
          have z2 : ((c : Int) == 0) = false := by simpa using ec
          clear ea eb ec hw1 hgk
          go_wp2_with fail
          go_meet
          exact ⟨rfl, rfl⟩
        · have z0 : ((a : Int) == 0) = true := by simpa using ea
          have z1 : ((b : Int) == 0) = true := by simpa using eb
          have z2 : ((c : Int) == 0) = true := by simpa using ec
          have z3 : ((d : Int) == 0) = false := by simpa using ed
          clear ea eb ec ed hw1 hgk
          go_wp2_with fail
          go_meet
          exact ⟨rfl, rfl⟩
      case rest =>
        obtain ⟨rfl, e⟩ := hcut
        rw [e]
        clear e
        clear hw1 hgk
        go_wp2
        go_loopw [8] (fun i wr => ∃ k : Nat, 1 ≤ k ∧ k ≤ m ∧ i = .int .i64 k ∧ wr = w1) (fun i _ => 25 - (intOf i).toNat)
        case atStart => exact ⟨1, Nat.le_refl _, m1, rfl, rfl⟩
        case round =>
          obtain ⟨k, hk1, hk2, rfl, rfl⟩ := hrel
          have hk24 : k ≤ 24 := by omega
          have c1 := h1.nods.refs k hk24
          have i1 : (0 : Int) ≤ (k : Int) := by omega
          have i2 : (k : Int) < 25 := by omega
          have i4 : (k : Int) ≤ 24 := by omega
          by_cases hlt2 : k < m
          · have hu : 0 < (X.N k).refs := by have := HU.out k hk1 hlt2; simp [usedNod] at this; omega
            go_wp2
            go_roundw
            case rel => exact ⟨k + 1, by omega, by omega, by go_num, trivial⟩
            case measure => simp [intOf]; omega
          · obtain rfl : m = k := by omega
            have hu : decide (0 < (X.N m).refs) = false := by have := H0.out; simp [usedNod] at this; simp; omega
            go_wp2
            refine region_tail 7 (by kernel_rfl) (by kernel_rfl) ?_
            intro w4 hw4
            have h4 : RIdxAt w4 g X := by rw [hw4]; exact h1.keep rfl
            have t4 : Turn [g] w w4 := t1.of_drew hw4
            have l0 : w4.cell? ⟨gk, 0, none⟩ = some (.int .i64 a) := by rw [hw4]; exact k0
            have l1 : w4.cell? ⟨gk, 1, none⟩ = some (.int .i64 b) := by rw [hw4]; exact k1
            have l2 : w4.cell? ⟨gk, 2, none⟩ = some (.int .i64 c) := by rw [hw4]; exact k2
            have l3 : w4.cell? ⟨gk, 3, none⟩ = some (.int .i64 d) := by rw [hw4]; exact k3
            have y0 : w4.cell? ⟨g, 82 + m * 5, none⟩ = _ := h4.nods.kid m 0 hk24 (by omega)
            have y1 := h4.nods.kid m 1 hk24 (by omega)
            have y2 := h4.nods.kid m 2 hk24 (by omega)
            have y3 := h4.nods.kid m 3 hk24 (by omega)
            have y4 := h4.nods.refs m hk24
            have z0 := h4.blks.free (82 + m * 5)
            have z1 := h4.blks.free (82 + m * 5 + 1)
            have z2 := h4.blks.free (82 + m * 5 + 2)
            have z3 := h4.blks.free (82 + m * 5 + 3)
            have z4 := h4.blks.free (82 + m * 5 + 4)
            have h5 : RIdxAt (nodStored w4 g (82 + m * 5) a b c d 1) g { X with N := setNod X.N m nd } := by
              refine ⟨blks_nodStored h4.blks (by omega) a b c d 1, ?_⟩
              rw [← HND.out]
              exact (h4.nods.set hk24 a b c d 1).topped true
            have t5 := turn_nodStored t4 (82 + m * 5) a b c d 1
            have e5 : ∀ i, i < 4 → (nodStored w4 g (82 + m * 5) a b c d 1).cell? ⟨gk, i, none⟩ = some (.int .i64 (nd.kid i)) := fun i hi => by
              refine (turn_nodStored (Turn.refl [g] w4) (82 + m * 5) a b c d 1).cellKept ?_ (by simpa using hgne)
              rw [← HND.out]
              match i, hi with
              | 0, _ => exact l0
              | 1, _ => exact l1
              | 2, _ => exact l2
              | 3, _ => exact l3
            obtain ⟨w5, hw5⟩ : ∃ w5, ((((w4.setCell ⟨g, 82 + m * 5, none⟩ (.int .i64 a)).setCell ⟨g, 82 + m * 5 + 1, none⟩ (.int .i64 b)).setCell ⟨g, 82 + m * 5 + 2, none⟩ (.int .i64 c)).setCell ⟨g, 82 + m * 5 + 3, none⟩ (.int .i64 d)).setCell ⟨g, 82 + m * 5 + 4, none⟩ (.int .i64 1) = w5 := ⟨_, rfl⟩
            have hw5' : nodStored w4 g (82 + m * 5) a b c d 1 = w5 := hw5
            rw [hw5'] at h5 t5 e5
            have H5 := Lib.hid h5
            have E5 := Lib.hid e5
            clear hw4 hw5' h5 e5 h4 t4 h1 t1 k0 k1 k2 k3 c1
            simp only [List.take_succ_cons, List.take_zero, List.drop_succ_cons, List.drop_zero]
            repeat still_step
            refine wpStill_nil ?_
            go_wp2
            clear hw5 y0 y1 y2 y3 y4 z0 z1 z2 z3 z4 l0 l1 l2 l3 hu
            go_loopw [9] (fun i w' => ∃ j : Nat, j ≤ 4 ∧ i = .int .i64 j ∧ RIdxAt w' g (eachUp IdxM.refN { X with N := setNod X.N m nd } nd j) ∧ (eachUp IdxM.refN { X with N := setNod X.N m nd } nd j).Ok (K + 1 + j) ∧ (∀ i, i < 4 → w'.cell? ⟨gk, i, none⟩ = some (.int .i64 (nd.kid i))) ∧ Turn [g] w w') (fun i _ => 4 - (intOf i).toNat)
            case atStart => exact ⟨0, by omega, rfl, H5.out, HX0.out, E5.out, t5⟩
            case round =>
              obtain ⟨j, hj, rfl, hY, hYok, hE, hT⟩ := hrel
              clear t5 H5 E5
              by_cases hj4 : j < 4
              · have hS := eachUp_succ IdxM.refN { X with N := setNod X.N m nd } nd j
                have ck := hE j hj4
                obtain ⟨kd, hkd⟩ : ∃ kd, nd.kid j = kd := ⟨_, rfl⟩
                have hpk : kd = 0 ∨ hasNod X.N kd = true := by
                  have := HP.out j hj4
                  rw [← hkd, ← HND.out]
                  exact this
                have hpk2 : kd ≠ 0 → hasNod (eachUp IdxM.refN { X with N := setNod X.N m nd } nd j).N kd = true := fun hn => by
                  rcases hpk with e | e
                  · exact absurd e hn
                  · exact eachN_has (X := { X with N := setNod X.N m nd }) (setNod_has e nd (by rw [← HND.out]; simp)) nd j
                obtain ⟨Y, hYe⟩ : ∃ Y, eachUp IdxM.refN { X with N := setNod X.N m nd } nd j = Y := ⟨_, rfl⟩
                rw [hkd] at ck hS
                rw [hYe] at hY hYok hS hpk2
                have HS := Lib.hid hS
                have HE := Lib.hid hE
                have j1 : (j : Int) < 4 := by omega
                have j2 : (0 : Int) ≤ (j : Int) := by omega
                clear hS hkd hYe hE hpk
                by_cases hk0 : kd = 0
                · subst hk0
                  have q1 : decide ((0 : Int) < ((0 : Nat) : Int)) = false := by decide
                  clear hpk2
                  go_wp2
                  go_roundw
                  case rel => exact ⟨j + 1, by omega, by go_num, by rw [HS.out, refN_zero]; exact hY, by rw [HS.out, refN_zero]; exact hYok.mono (by omega), HE.out, hT⟩
                  case measure => simp [intOf]; omega
                · have q1 : 0 < kd := by omega
                  have HHAS := Lib.hid (hpk2 hk0)
                  obtain ⟨v1, v2, _⟩ := (hasNod_iff _ _).1 HHAS.out
                  have hkd40 : kd ≤ 25 - 1 := by omega
                  have v3 : (0 : Int) ≤ (kd : Int) := by omega
                  have v4 : (kd : Int) < 25 := by omega
                  have hrk := hYok.N.refs kd
                  obtain ⟨r, hr⟩ : ∃ r, (Y.N kd).refs + 1 = r := ⟨_, rfl⟩
                  have i7 : IntKind.i64.wrap (((Y.N kd).refs : Int) + 1) = (r : Int) := by rw [IntWalk.i64_in _ (by omega)]; omega
                  have HR := Lib.hid hr
                  clear hr hpk2 hk0
                  go_wp2
                  refine region_tail 14 (by kernel_rfl) (by kernel_rfl) ?_
                  intro w7 hw7
                  have h7 : RIdxAt w7 g Y := by rw [hw7]; exact hY.keep rfl
                  have t7 : Turn [g] wr w7 := (Turn.refl _ _).of_drew hw7
                  have ck7 : w7.cell? ⟨gk, j, none⟩ = some (.int .i64 kd) := by rw [hw7]; exact ck
                  have c7 := h7.nods.refs kd hkd40
                  have f7 := h7.blks.free (82 + kd * 5 + 4)
                  have hop : Y.refN kd = { Y with N := setNod Y.N kd { Y.N kd with refs := r } } := by
                    unfold IdxM.refN incN
                    rw [if_pos HHAS.out, HR.out]
                  have h8 : RIdxAt (w7.setCell ⟨g, 82 + kd * 5 + 4, none⟩ (.int .i64 r)) g (Y.refN kd) := by
                    rw [hop]
                    exact ⟨h7.blks.setPast (by omega) _, h7.nods.setRefs hkd40 r⟩
                  have t8 := t7.cell (p := ⟨g, 82 + kd * 5 + 4, none⟩) (by simp) (.int .i64 r)
                  have e8 : ∀ i, i < 4 → (w7.setCell ⟨g, 82 + kd * 5 + 4, none⟩ (.int .i64 r)).cell? ⟨gk, i, none⟩ = some (.int .i64 (nd.kid i)) := fun i hi => t8.cellKept (HE.out i hi) (by simpa using hgne)
                  have H8 := Lib.hid h8
                  have E8 := Lib.hid e8
                  clear hw7 ck hop h8 e8
                  simp only [List.take_succ_cons, List.take_zero, List.drop_succ_cons, List.drop_zero]
                  repeat still_step
                  refine wpStill_nil ?_
                  generalize hw8 : w7.setCell ⟨g, 82 + kd * 5 + 4, none⟩ (.int .i64 r) = w8 at H8 E8 t8
                  go_wp2
                  go_roundw
                  case rel => exact ⟨j + 1, by omega, by go_num, by rw [HS.out]; exact H8.out, by rw [HS.out]; exact refN_okX hYok _, E8.out, hT.trans t8⟩
                  case measure => simp [intOf]; omega
              · obtain rfl : j = 4 := by omega
                go_wp2
                go_ret2
                exact ⟨rfl, hY, hT⟩
end Go.Proofs.YtlgahdabhnhjgaaGreatDoor
