/- The reference's index: unref, of a leaf and of a root; Free. -/
import Derived.Test.YtlgahdabhnhjgaaGreatDoorZqRefI
import Derived.Test.YtlgahdabhnhjgaaGreatDoorZqIdx4
namespace Go.Proofs.YtlgahdabhnhjgaaGreatDoor
open Go.RowKit Go.Maps

/-- Something done to the first kids of a node. -/
def eachUp (op : IdxM → Nat → IdxM) (X : IdxM) (n : Nod) (i : Nat) : IdxM := (List.range i).foldl (fun Y j => op Y (n.kid j)) X
theorem eachUp_succ (op : IdxM → Nat → IdxM) (X : IdxM) (n : Nod) (i : Nat) : eachUp op X n (i + 1) = op (eachUp op X n i) (n.kid i) := by
  unfold eachUp
  rw [List.range_succ, List.foldl_append]
  rfl
theorem eachUp_four (op : IdxM → Nat → IdxM) (X : IdxM) (n : Nod) : each4 op X n.k0 n.k1 n.k2 n.k3 = eachUp op X n 4 := rfl
theorem unrefB_zero (X : IdxM) : X.unrefB 0 = X := by unfold IdxM.unrefB subRef; rw [if_neg (by simp [hasBlk])]
theorem releaseX_zero (op : IdxM → Nat → IdxM) (X : IdxM) : releaseX op X 0 = X := by unfold releaseX; rw [if_neg (by simp [hasNod])]
theorem relLeaf_zero (X : IdxM) : X.relLeaf 0 = X := releaseX_zero _ _
theorem unrefB_okX {K : Nat} {X : IdxM} (h : X.Ok K) (k : Nat) : (X.unrefB k).Ok K := ⟨subRef_ok h.P k, h.N⟩
theorem relLeaf_okX {K : Nat} {X : IdxM} (h : X.Ok K) (k : Nat) : (X.relLeaf k).Ok K := by
  unfold IdxM.relLeaf releaseX
  split
  · rename_i hh
    obtain ⟨n1, n2, n3⟩ := (hasNod_iff _ _).1 hh
    split
    · have hA : ({ X with N := setNod X.N k noNod } : IdxM).Ok K := ⟨h.P, setNod_ok h.N (Nat.le_refl _) (by omega) (by omega) (by simp [noNod]) (fun _ => rfl) (by simp [noNod])⟩
      exact unrefB_okX (unrefB_okX (unrefB_okX (unrefB_okX hA _) _) _) _
    · rename_i hr
      have := h.N.refs k
      rw [Int.toNat_natCast] at n3
      exact ⟨h.P, setNod_ok h.N (Nat.le_refl _) (by omega) (by omega) (by simp; omega) (fun e => by simp at e; omega) (h.N.kids k)⟩
  · exact h
theorem buildNode (w : World) : (Instr.build 81 #[]).run Tryz.prog w = .ok (.agg #[.int .i64 0, .int .i64 0, .int .i64 0, .int .i64 0, .int .i64 0]) w := by kernel_rfl

set_option maxHeartbeats 2000000 in
set_option maxRecDepth 100000 in
theorem refUnrefL (w : World) (g K : Nat) (X : IdxM) (id : Nat) (h : RIdxAt w g X) (hok : X.Ok K) (hK : K ≤ 1000000000) (hid : id = 0 ∨ hasNod X.N id = true) :
    Calls Tryz.prog 94 #[.pointer (some ⟨g, 0, none⟩), .int .i64 id, .bool true] w (RIdxRet w g (releaseX IdxM.unrefB X id) (.tuple #[])) := by
  have hlt := h.lt
  by_cases h0 : id = 0
  · subst h0
    rw [releaseX_zero]
    clear hid
    show Calls _ _ #[_, .int .i64 0, _] _ _
    go_enter Tryz.func94, Tryz.ntmps94
    go_wp2
    go_end0
    exact ⟨rfl, h, Turn.refl _ _⟩
  obtain hh | hh := hid
  · exact absurd hh h0
  obtain ⟨n1, n2, n3⟩ := (hasNod_iff _ _).1 hh
  rw [Int.toNat_natCast] at n3
  have hid24 : id ≤ 24 := by omega
  have hid1 : 1 ≤ id := by omega
  have hrK := hok.N.refs id
  have c1 := h.nods.refs id hid24
  have i0 : ((id : Int) == 0) = false := by simpa using h0
  have i2 : (0 : Int) ≤ (id : Int) := by omega
  have i3 : (id : Int) < 25 := by omega
  obtain ⟨r, hr⟩ : ∃ r, (X.N id).refs = r + 1 := ⟨(X.N id).refs - 1, by omega⟩
  have i4 : IntKind.i64.wrap (((X.N id).refs : Int) - 1) = (r : Int) := by rw [IntWalk.i64_in _ (by omega)]; omega
  have hbn := buildNode
  have HR := Lib.hid hr
  have HHH := Lib.hid hh
  clear hr hh n1 n2 n3 h0
  go_enter Tryz.func94, Tryz.ntmps94
  go_wp2
  refine region_tail 12 (by kernel_rfl) (by kernel_rfl) ?_
  intro w2 hw2
  have h2 : RIdxAt w2 g X := by rw [hw2]; exact h.keep rfl
  have t2 : Turn [g] w w2 := (Turn.refl _ _).of_drew hw2
  have c2 := h2.nods.refs id hid24
  have f2 := h2.blks.free (82 + id * 5 + 4)
  have h3 : RIdxAt (w2.setCell ⟨g, 82 + id * 5 + 4, none⟩ (.int .i64 r)) g { X with N := setNod X.N id { X.N id with refs := r } } := ⟨h2.blks.setPast (by omega) _, h2.nods.setRefs hid24 _⟩
  have t3 := t2.cell (p := ⟨g, 82 + id * 5 + 4, none⟩) (by simp) (.int .i64 r)
  have HW2 := Lib.hid hw2
  clear hw2 c1
  simp only [List.take_succ_cons, List.take_zero, List.drop_succ_cons, List.drop_zero]
  repeat still_step
  refine wpStill_nil ?_
  generalize hw3 : w2.setCell ⟨g, 82 + id * 5 + 4, none⟩ (.int .i64 r) = w3 at h3 t3
  have d4 : w3.cell? ⟨g, 82 + id * 5 + 4, none⟩ = some (.int .i64 r) := by have := h3.nods.refs id hid24; simp only [setNod_at] at this; exact this
  have hlt3 := h3.lt
  by_cases hr0 : r = 0
  rotate_left
  · have i5 : 0 < r := by omega
    have HX : releaseX IdxM.unrefB X id = { X with N := setNod X.N id { X.N id with refs := r } } := by
      unfold releaseX
      have e := HR.out
      rw [if_pos HHH.out, if_neg (by omega), show (X.N id).refs - 1 = r by omega]
    have HXX := Lib.hid HX
    clear HX hr0
    go_wp2
    go_end0
    exact ⟨rfl, by rw [HXX.out]; exact h3, t3⟩
  · have i5 : decide (0 < r) = false := by simp; omega
    have HX : releaseX IdxM.unrefB X id = eachUp IdxM.unrefB { X with N := setNod X.N id noNod } (X.N id) 4 := by
      unfold releaseX
      have e := HR.out
      rw [if_pos HHH.out, if_pos (by omega)]
      rfl
    have HXX := Lib.hid HX
    have HKIDS := Lib.hid (trivial)
    
    have d0 : w3.cell? ⟨g, 82 + id * 5, none⟩ = some (.int .i64 ((X.N id).kid 0)) := by have := h3.nods.kid id 0 hid24 (by omega); simp only [setNod_at] at this; exact this
    have d1 : w3.cell? ⟨g, 82 + id * 5 + 1, none⟩ = some (.int .i64 ((X.N id).kid 1)) := by have := h3.nods.kid id 1 hid24 (by omega); simp only [setNod_at] at this; exact this
    have d2 : w3.cell? ⟨g, 82 + id * 5 + 2, none⟩ = some (.int .i64 ((X.N id).kid 2)) := by have := h3.nods.kid id 2 hid24 (by omega); simp only [setNod_at] at this; exact this
    have d3 : w3.cell? ⟨g, 82 + id * 5 + 3, none⟩ = some (.int .i64 ((X.N id).kid 3)) := by have := h3.nods.kid id 3 hid24 (by omega); simp only [setNod_at] at this; exact this
    have hkN : ∃ nd, X.N id = nd := ⟨_, rfl⟩
    obtain ⟨nd, hnd⟩ := hkN
    have hkid40 : ∀ i, nd.kid i ≤ 40 := fun i => by rw [← hnd]; exact hok.N.kid id i
    have HKID := Lib.hid hkid40
    have hX0 : ({ X with N := setNod X.N id noNod } : IdxM).Ok K := ⟨hok.P, setNod_ok hok.N (Nat.le_refl _) (by omega) (by omega) (by simp [noNod]) (fun _ => rfl) (by simp [noNod])⟩
    have fr3 := h3.blks.free
    have f0 := fr3 (82 + id * 5)
    have f1 := fr3 (82 + id * 5 + 1)
    have f2' := fr3 (82 + id * 5 + 2)
    have f3 := fr3 (82 + id * 5 + 3)
    have f4 := fr3 (82 + id * 5 + 4)
    rw [hnd] at d0 d1 d2 d3 HXX
    
    have h4 := h3.below ((Below.refl w3.heap.size w3).alloc (Nat.le_refl _) (.cells #[.int .i64 (nd.kid 0), .int .i64 (nd.kid 1), .int .i64 (nd.kid 2), .int .i64 (nd.kid 3)] 79))
    have t4 := t3.alloc (.cells #[.int .i64 (nd.kid 0), .int .i64 (nd.kid 1), .int .i64 (nd.kid 2), .int .i64 (nd.kid 3)] 79)
    have e0 : ∀ i, i < 4 → (w3.alloc (.cells #[.int .i64 (nd.kid 0), .int .i64 (nd.kid 1), .int .i64 (nd.kid 2), .int .i64 (nd.kid 3)] 79)).cell? ⟨w3.heap.size, i, none⟩ = some (.int .i64 (nd.kid i)) := fun i hi => by
      rw [World.cell?_alloc_at _ _ _ _ rfl]
      match i, hi with
      | 0, _ => rfl
      | 1, _ => rfl
      | 2, _ => rfl
      | 3, _ => rfl
    obtain ⟨w4, hw4⟩ : ∃ w4, w3.alloc (.cells #[.int .i64 (nd.kid 0), .int .i64 (nd.kid 1), .int .i64 (nd.kid 2), .int .i64 (nd.kid 3)] 79) = w4 := ⟨_, rfl⟩
    obtain ⟨gk, hgk⟩ : ∃ gk, w3.heap.size = gk := ⟨_, rfl⟩
    rw [hw4] at h4 t4 e0
    rw [hgk] at e0
    have hgne : gk ≠ g := by rw [← hgk]; omega
    have h5 : RIdxAt (nodStored w4 g (82 + id * 5) 0 0 0 0 0) g { X with N := setNod X.N id noNod } := by
      refine ⟨blks_nodStored h4.blks (by omega) 0 0 0 0 0, ?_⟩
      have := (h4.nods.set hid24 0 0 0 0 0).topped false
      simp only [setNod_twice] at this
      exact this
    have t5 := turn_nodStored t4 (82 + id * 5) 0 0 0 0 0
    have e5 : ∀ i, i < 4 → (nodStored w4 g (82 + id * 5) 0 0 0 0 0).cell? ⟨gk, i, none⟩ = some (.int .i64 (nd.kid i)) := fun i hi => (turn_nodStored (Turn.refl [g] w4) (82 + id * 5) 0 0 0 0 0).cellKept (e0 i hi) (by simpa using hgne)
    obtain ⟨w5, hw5⟩ : ∃ w5, ((((w4.setCell ⟨g, 82 + id * 5, none⟩ (.int .i64 0)).setCell ⟨g, 82 + id * 5 + 1, none⟩ (.int .i64 0)).setCell ⟨g, 82 + id * 5 + 2, none⟩ (.int .i64 0)).setCell ⟨g, 82 + id * 5 + 3, none⟩ (.int .i64 0)).setCell ⟨g, 82 + id * 5 + 4, none⟩ (.int .i64 0) = w5 := ⟨_, rfl⟩
    have hw5' : nodStored w4 g (82 + id * 5) 0 0 0 0 0 = w5 := hw5
    rw [hw5'] at h5 t5 e5
    have H5 := Lib.hid h5
    have E5 := Lib.hid e5
    have HW5 := Lib.hid hw5
    have HX0 := Lib.hid hX0
    have HW4 := Lib.hid hw4
    have HGK := Lib.hid hgk
    have y0 : w4.cell? ⟨g, 82 + id * 5, none⟩ = _ := h4.nods.kid id 0 hid24 (by omega)
    have y1 := h4.nods.kid id 1 hid24 (by omega)
    have y2 := h4.nods.kid id 2 hid24 (by omega)
    have y3 := h4.nods.kid id 3 hid24 (by omega)
    have y4 := h4.nods.refs id hid24
    have z0 := h4.blks.free (82 + id * 5)
    have z1 := h4.blks.free (82 + id * 5 + 1)
    have z2 := h4.blks.free (82 + id * 5 + 2)
    have z3 := h4.blks.free (82 + id * 5 + 3)
    have z4 := h4.blks.free (82 + id * 5 + 4)
    clear hw5' h4 t4 e0 h5 e5 hkid40 fr3 hX0 hnd HX h3 t3 h2 t2 h hok hr0
    generalize hXX : ({ X with N := setNod X.N id noNod } : IdxM) = X0 at H5 HX0 HXX
    clear hXX
    go_wp2
    clear hw4 hw5 hgk y0 y1 y2 y3 y4 z0 z1 z2 z3 z4 d0 d1 d2 d3 d4 f0 f1 f2 f2' f3 f4 c2 i5
    go_loopw [7] (fun i w' => ∃ k : Nat, k ≤ 4 ∧ i = .int .i64 k ∧ RIdxAt w' g (eachUp IdxM.unrefB X0 nd k) ∧ (eachUp IdxM.unrefB X0 nd k).Ok K ∧ (∀ i, i < 4 → w'.cell? ⟨gk, i, none⟩ = some (.int .i64 (nd.kid i))) ∧ Turn [g] w w') (fun i _ => 4 - (intOf i).toNat)
    case atStart => exact ⟨0, by omega, rfl, H5.out, HX0.out, E5.out, t5⟩
    case round =>
      obtain ⟨k, hk, rfl, hY, hYok, hE, hT⟩ := hrel
      clear t5 H5 E5 HX0
      by_cases hlt : k < 4
      · have hS := eachUp_succ IdxM.unrefB X0 nd k
        have ck := hE k hlt
        have hkd40 := HKID.out k
        obtain ⟨kd, hkd⟩ : ∃ kd, nd.kid k = kd := ⟨_, rfl⟩
        obtain ⟨Y, hYe⟩ : ∃ Y, eachUp IdxM.unrefB X0 nd k = Y := ⟨_, rfl⟩
        rw [hkd] at ck hS hkd40
        rw [hYe] at hY hYok hS
        have HS := Lib.hid hS
        have HKD := Lib.hid hkd
        have HYE := Lib.hid hYe
        have HE := Lib.hid hE
        have j1 : (k : Int) < 4 := by omega
        have j2 : (0 : Int) ≤ (k : Int) := by omega
        have j3 : k < 4 := hlt
        clear hS hkd hYe hE
        by_cases hk0 : kd = 0
        · subst hk0
          have q1 : (((0 : Nat) : Int) == 0) = true := rfl
          go_wp2
          go_roundw
          case rel => exact ⟨k + 1, by omega, by go_num, by rw [HS.out, unrefB_zero]; exact hY, by rw [HS.out, unrefB_zero]; exact hYok, HE.out, hT⟩
          case measure => simp [intOf]; omega
        · have q1 : ((kd : Int) == 0) = false := by simpa using hk0
          have HC := Lib.hid (refSubP g wr Y.P kd (refErr Y.P kd) (subRef Y.P kd) hY.blks (fun n => Nat.le_trans (hYok.P.refs n) (by omega)) rfl rfl)
          generalize refErr Y.P kd = ne at HC
          go_wp2_with fail
          (refine HC.out.mono ?_; rintro e w7 ⟨rfl, h7, t7, p7⟩)
          have h8 : RIdxAt w7 g (Y.unrefB kd) := ⟨h7, hY.nods.past p7⟩
          go_wp2
          go_roundw
          case rel => exact ⟨k + 1, by omega, by go_num, by rw [HS.out]; exact h8, by rw [HS.out]; exact unrefB_okX hYok _, fun i hi => t7.cellKept (HE.out i hi) (by simpa using hgne), hT.trans t7⟩
          case measure => simp [intOf]; omega
      · obtain rfl : k = 4 := by omega
        go_wp2
        go_end0
        exact ⟨rfl, by rw [HXX.out]; exact hY, hT⟩

set_option maxHeartbeats 2000000 in
set_option maxRecDepth 100000 in
theorem refUnrefR (w : World) (g K : Nat) (X : IdxM) (id : Nat) (h : RIdxAt w g X) (hok : X.Ok K) (hK : K ≤ 1000000000) (hid : id = 0 ∨ hasNod X.N id = true) (hkids : (X.N id).refs = 1 → ∀ i, i < 4 → (X.N id).kid i = 0 ∨ hasNod (eachUp IdxM.relLeaf { X with N := setNod X.N id noNod } (X.N id) i).N ((X.N id).kid i) = true) :
    Calls Tryz.prog 94 #[.pointer (some ⟨g, 0, none⟩), .int .i64 id, .bool false] w (RIdxRet w g (releaseX IdxM.relLeaf X id) (.tuple #[])) := by
  have hlt := h.lt
  by_cases h0 : id = 0
  · subst h0
    rw [releaseX_zero]
    clear hid
    show Calls _ _ #[_, .int .i64 0, _] _ _
    go_enter Tryz.func94, Tryz.ntmps94
    go_wp2
    go_end0
    exact ⟨rfl, h, Turn.refl _ _⟩
  obtain hh | hh := hid
  · exact absurd hh h0
  obtain ⟨n1, n2, n3⟩ := (hasNod_iff _ _).1 hh
  rw [Int.toNat_natCast] at n3
  have hid24 : id ≤ 24 := by omega
  have hid1 : 1 ≤ id := by omega
  have hrK := hok.N.refs id
  have c1 := h.nods.refs id hid24
  have i0 : ((id : Int) == 0) = false := by simpa using h0
  have i2 : (0 : Int) ≤ (id : Int) := by omega
  have i3 : (id : Int) < 25 := by omega
  obtain ⟨r, hr⟩ : ∃ r, (X.N id).refs = r + 1 := ⟨(X.N id).refs - 1, by omega⟩
  have i4 : IntKind.i64.wrap (((X.N id).refs : Int) - 1) = (r : Int) := by rw [IntWalk.i64_in _ (by omega)]; omega
  have hbn := buildNode
  have HR := Lib.hid hr
  have HHH := Lib.hid hh
  clear hr hh n1 n2 n3 h0
  go_enter Tryz.func94, Tryz.ntmps94
  go_wp2
  refine region_tail 12 (by kernel_rfl) (by kernel_rfl) ?_
  intro w2 hw2
  have h2 : RIdxAt w2 g X := by rw [hw2]; exact h.keep rfl
  have t2 : Turn [g] w w2 := (Turn.refl _ _).of_drew hw2
  have c2 := h2.nods.refs id hid24
  have f2 := h2.blks.free (82 + id * 5 + 4)
  have h3 : RIdxAt (w2.setCell ⟨g, 82 + id * 5 + 4, none⟩ (.int .i64 r)) g { X with N := setNod X.N id { X.N id with refs := r } } := ⟨h2.blks.setPast (by omega) _, h2.nods.setRefs hid24 _⟩
  have t3 := t2.cell (p := ⟨g, 82 + id * 5 + 4, none⟩) (by simp) (.int .i64 r)
  have HW2 := Lib.hid hw2
  clear hw2 c1
  simp only [List.take_succ_cons, List.take_zero, List.drop_succ_cons, List.drop_zero]
  repeat still_step
  refine wpStill_nil ?_
  generalize hw3 : w2.setCell ⟨g, 82 + id * 5 + 4, none⟩ (.int .i64 r) = w3 at h3 t3
  have d4 : w3.cell? ⟨g, 82 + id * 5 + 4, none⟩ = some (.int .i64 r) := by have := h3.nods.refs id hid24; simp only [setNod_at] at this; exact this
  have hlt3 := h3.lt
  by_cases hr0 : r = 0
  rotate_left
  · have i5 : 0 < r := by omega
    have HX : releaseX IdxM.relLeaf X id = { X with N := setNod X.N id { X.N id with refs := r } } := by
      unfold releaseX
      have e := HR.out
      rw [if_pos HHH.out, if_neg (by omega), show (X.N id).refs - 1 = r by omega]
    have HXX := Lib.hid HX
    clear HX hr0
    go_wp2
    go_end0
    exact ⟨rfl, by rw [HXX.out]; exact h3, t3⟩
  · have i5 : decide (0 < r) = false := by simp; omega
    have HX : releaseX IdxM.relLeaf X id = eachUp IdxM.relLeaf { X with N := setNod X.N id noNod } (X.N id) 4 := by
      unfold releaseX
      have e := HR.out
      rw [if_pos HHH.out, if_pos (by omega)]
      rfl
    have HXX := Lib.hid HX
    have HKIDS := Lib.hid (hkids (by have := HR.out; omega))
    clear hkids
    have d0 : w3.cell? ⟨g, 82 + id * 5, none⟩ = some (.int .i64 ((X.N id).kid 0)) := by have := h3.nods.kid id 0 hid24 (by omega); simp only [setNod_at] at this; exact this
    have d1 : w3.cell? ⟨g, 82 + id * 5 + 1, none⟩ = some (.int .i64 ((X.N id).kid 1)) := by have := h3.nods.kid id 1 hid24 (by omega); simp only [setNod_at] at this; exact this
    have d2 : w3.cell? ⟨g, 82 + id * 5 + 2, none⟩ = some (.int .i64 ((X.N id).kid 2)) := by have := h3.nods.kid id 2 hid24 (by omega); simp only [setNod_at] at this; exact this
    have d3 : w3.cell? ⟨g, 82 + id * 5 + 3, none⟩ = some (.int .i64 ((X.N id).kid 3)) := by have := h3.nods.kid id 3 hid24 (by omega); simp only [setNod_at] at this; exact this
    have hkN : ∃ nd, X.N id = nd := ⟨_, rfl⟩
    obtain ⟨nd, hnd⟩ := hkN
    have hkid40 : ∀ i, nd.kid i ≤ 40 := fun i => by rw [← hnd]; exact hok.N.kid id i
    have HKID := Lib.hid hkid40
    have hX0 : ({ X with N := setNod X.N id noNod } : IdxM).Ok K := ⟨hok.P, setNod_ok hok.N (Nat.le_refl _) (by omega) (by omega) (by simp [noNod]) (fun _ => rfl) (by simp [noNod])⟩
    have fr3 := h3.blks.free
    have f0 := fr3 (82 + id * 5)
    have f1 := fr3 (82 + id * 5 + 1)
    have f2' := fr3 (82 + id * 5 + 2)
    have f3 := fr3 (82 + id * 5 + 3)
    have f4 := fr3 (82 + id * 5 + 4)
    rw [hnd] at d0 d1 d2 d3 HXX
    rw [hnd] at HKIDS
    have h4 := h3.below ((Below.refl w3.heap.size w3).alloc (Nat.le_refl _) (.cells #[.int .i64 (nd.kid 0), .int .i64 (nd.kid 1), .int .i64 (nd.kid 2), .int .i64 (nd.kid 3)] 79))
    have t4 := t3.alloc (.cells #[.int .i64 (nd.kid 0), .int .i64 (nd.kid 1), .int .i64 (nd.kid 2), .int .i64 (nd.kid 3)] 79)
    have e0 : ∀ i, i < 4 → (w3.alloc (.cells #[.int .i64 (nd.kid 0), .int .i64 (nd.kid 1), .int .i64 (nd.kid 2), .int .i64 (nd.kid 3)] 79)).cell? ⟨w3.heap.size, i, none⟩ = some (.int .i64 (nd.kid i)) := fun i hi => by
      rw [World.cell?_alloc_at _ _ _ _ rfl]
      match i, hi with
      | 0, _ => rfl
      | 1, _ => rfl
      | 2, _ => rfl
      | 3, _ => rfl
    obtain ⟨w4, hw4⟩ : ∃ w4, w3.alloc (.cells #[.int .i64 (nd.kid 0), .int .i64 (nd.kid 1), .int .i64 (nd.kid 2), .int .i64 (nd.kid 3)] 79) = w4 := ⟨_, rfl⟩
    obtain ⟨gk, hgk⟩ : ∃ gk, w3.heap.size = gk := ⟨_, rfl⟩
    rw [hw4] at h4 t4 e0
    rw [hgk] at e0
    have hgne : gk ≠ g := by rw [← hgk]; omega
    have h5 : RIdxAt (nodStored w4 g (82 + id * 5) 0 0 0 0 0) g { X with N := setNod X.N id noNod } := by
      refine ⟨blks_nodStored h4.blks (by omega) 0 0 0 0 0, ?_⟩
      have := (h4.nods.set hid24 0 0 0 0 0).topped false
      simp only [setNod_twice] at this
      exact this
    have t5 := turn_nodStored t4 (82 + id * 5) 0 0 0 0 0
    have e5 : ∀ i, i < 4 → (nodStored w4 g (82 + id * 5) 0 0 0 0 0).cell? ⟨gk, i, none⟩ = some (.int .i64 (nd.kid i)) := fun i hi => (turn_nodStored (Turn.refl [g] w4) (82 + id * 5) 0 0 0 0 0).cellKept (e0 i hi) (by simpa using hgne)
    obtain ⟨w5, hw5⟩ : ∃ w5, ((((w4.setCell ⟨g, 82 + id * 5, none⟩ (.int .i64 0)).setCell ⟨g, 82 + id * 5 + 1, none⟩ (.int .i64 0)).setCell ⟨g, 82 + id * 5 + 2, none⟩ (.int .i64 0)).setCell ⟨g, 82 + id * 5 + 3, none⟩ (.int .i64 0)).setCell ⟨g, 82 + id * 5 + 4, none⟩ (.int .i64 0) = w5 := ⟨_, rfl⟩
    have hw5' : nodStored w4 g (82 + id * 5) 0 0 0 0 0 = w5 := hw5
    rw [hw5'] at h5 t5 e5
    have H5 := Lib.hid h5
    have E5 := Lib.hid e5
    have HW5 := Lib.hid hw5
    have HX0 := Lib.hid hX0
    have HW4 := Lib.hid hw4
    have HGK := Lib.hid hgk
    have y0 : w4.cell? ⟨g, 82 + id * 5, none⟩ = _ := h4.nods.kid id 0 hid24 (by omega)
    have y1 := h4.nods.kid id 1 hid24 (by omega)
    have y2 := h4.nods.kid id 2 hid24 (by omega)
    have y3 := h4.nods.kid id 3 hid24 (by omega)
    have y4 := h4.nods.refs id hid24
    have z0 := h4.blks.free (82 + id * 5)
    have z1 := h4.blks.free (82 + id * 5 + 1)
    have z2 := h4.blks.free (82 + id * 5 + 2)
    have z3 := h4.blks.free (82 + id * 5 + 3)
    have z4 := h4.blks.free (82 + id * 5 + 4)
    clear hw5' h4 t4 e0 h5 e5 hkid40 fr3 hX0 hnd HX h3 t3 h2 t2 h hok hr0
    generalize hXX : ({ X with N := setNod X.N id noNod } : IdxM) = X0 at H5 HX0 HXX HKIDS
    clear hXX
    go_wp2
    clear hw4 hw5 hgk y0 y1 y2 y3 y4 z0 z1 z2 z3 z4 d0 d1 d2 d3 d4 f0 f1 f2 f2' f3 f4 c2 i5
    go_loopw [7] (fun i w' => ∃ k : Nat, k ≤ 4 ∧ i = .int .i64 k ∧ RIdxAt w' g (eachUp IdxM.relLeaf X0 nd k) ∧ (eachUp IdxM.relLeaf X0 nd k).Ok K ∧ (∀ i, i < 4 → w'.cell? ⟨gk, i, none⟩ = some (.int .i64 (nd.kid i))) ∧ Turn [g] w w') (fun i _ => 4 - (intOf i).toNat)
    case atStart => exact ⟨0, by omega, rfl, H5.out, HX0.out, E5.out, t5⟩
    case round =>
      obtain ⟨k, hk, rfl, hY, hYok, hE, hT⟩ := hrel
      clear t5 H5 E5 HX0
      by_cases hlt : k < 4
      · have hS := eachUp_succ IdxM.relLeaf X0 nd k
        have ck := hE k hlt
        have hkd40 := HKID.out k
        obtain ⟨kd, hkd⟩ : ∃ kd, nd.kid k = kd := ⟨_, rfl⟩
        obtain ⟨Y, hYe⟩ : ∃ Y, eachUp IdxM.relLeaf X0 nd k = Y := ⟨_, rfl⟩
        rw [hkd] at ck hS hkd40
        rw [hYe] at hY hYok hS
        have HS := Lib.hid hS
        have HKD := Lib.hid hkd
        have HYE := Lib.hid hYe
        have HE := Lib.hid hE
        have j1 : (k : Int) < 4 := by omega
        have j2 : (0 : Int) ≤ (k : Int) := by omega
        have j3 : k < 4 := hlt
        clear hS hkd hYe hE
        by_cases hk0 : kd = 0
        · subst hk0
          have q1 : (((0 : Nat) : Int) == 0) = true := rfl
          go_wp2
          go_roundw
          case rel => exact ⟨k + 1, by omega, by go_num, by rw [HS.out, relLeaf_zero]; exact hY, by rw [HS.out, relLeaf_zero]; exact hYok, HE.out, hT⟩
          case measure => simp [intOf]; omega
        · have q1 : ((kd : Int) == 0) = false := by simpa using hk0
          have HC := Lib.hid (refUnrefL wr g K Y kd hY hYok hK (.inr (by rcases HKIDS.out k hlt with e | e; exact absurd (HKD.out.symm.trans e) hk0; rw [HYE.out, HKD.out] at e; exact e)))
          go_wp2_with fail
          (refine HC.out.mono ?_; rintro e w7 ⟨rfl, h8, t7⟩)
          go_wp2
          go_roundw
          case rel => exact ⟨k + 1, by omega, by go_num, by rw [HS.out]; exact h8, by rw [HS.out]; exact relLeaf_okX hYok _, fun i hi => t7.cellKept (HE.out i hi) (by simpa using hgne), hT.trans t7⟩
          case measure => simp [intOf]; omega
      · obtain rfl : k = 4 := by omega
        go_wp2
        go_end0
        exact ⟨rfl, by rw [HXX.out]; exact hY, hT⟩

theorem refFree_any (w : World) (g K : Nat) (X : IdxM) (id : Nat) (h : RIdxAt w g X) (hok : X.Ok K) (hK : K ≤ 1000000000) (hid : id = 0 ∨ hasNod X.N id = true) (hkids : (X.N id).refs = 1 → ∀ i, i < 4 → (X.N id).kid i = 0 ∨ hasNod (eachUp IdxM.relLeaf { X with N := setNod X.N id noNod } (X.N id) i).N ((X.N id).kid i) = true) :
    Calls Tryz.prog 68 #[.pointer (some ⟨g, 0, none⟩), .int .i64 id] w (RIdxRet w g (X.free id) (.tuple #[])) := by
  have HC := Lib.hid (refUnrefR w g K X id h hok hK hid hkids)
  clear hkids
  go_enter Tryz.func68, Tryz.ntmps68
  go_wp2_with fail
  (refine HC.out.mono ?_; rintro e w7 ⟨rfl, h8, t7⟩)
  go_wp2
  go_end0
  exact ⟨rfl, h8, t7⟩
end Go.Proofs.YtlgahdabhnhjgaaGreatDoor
