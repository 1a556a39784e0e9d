/- The reference's index: the walk of Set, over the contracts of its parts. -/
import Derived.Test.YtlgahdabhnhjgaaGreatDoorZqRefN
import Derived.Test.YtlgahdabhnhjgaaGreatDoorZqIdxG
import Derived.Test.YtlgahdabhnhjgaaGreatDoorZqIdx5
/- What the reference's Free and Set ask for is there. -/
namespace Go.Proofs.YtlgahdabhnhjgaaGreatDoor
open Go.RowKit Go.Maps

theorem held_has {Y : IdxM} {HR HL HB : List Nat} {k : Nat} (g : Inv Y HR (opt k HL) HB) : k = 0 ∨ hasNod Y.N k = true := by
  by_cases e : k = 0
  · exact .inl e
  · refine .inr ?_
    rw [g.hasN]
    have := (g.hl k (by unfold opt; rw [if_neg e]; simp)).1
    simpa using this
theorem free_kids {X : IdxM} {HR : List Nat} {l : Nat} (h : Inv X (l :: HR) [] []) (h1 : (X.N l).refs = 1) : ∀ i, i < 4 → (X.N l).kid i = 0 ∨ hasNod (eachUp IdxM.relLeaf { X with N := setNod X.N l noNod } (X.N l) i).N ((X.N l).kid i) = true := by
  have g0 := h.noRoot h1
  have g1 := Inv.relLeaf _ g0
  have g2 := Inv.relLeaf _ g1
  have g3 := Inv.relLeaf _ g2
  intro i hi
  match i, hi with
  | 0, _ => exact held_has g0
  | 1, _ => exact held_has g1
  | 2, _ => exact held_has g2
  | 3, _ => exact held_has g3
end Go.Proofs.YtlgahdabhnhjgaaGreatDoor

/- The reference's index: the walk of Set, over the contracts of its parts. -/
namespace Go.Proofs.YtlgahdabhnhjgaaGreatDoor
open Go.RowKit Go.Maps

/-- A number stored into an array of four that is new. -/
theorem put4 {w w' : World} {g : Nat} {bs : List Nat} {a b c d v j : Nat} {w0 : World} (hg : w.heap[g]? = some (.cells #[.int .i64 a, .int .i64 b, .int .i64 c, .int .i64 d] 79 (0, 0))) (ht : Turn bs w0 w) (hj : j < 4) (hn : w0.heap.size ≤ g) (hw : w.setCell ⟨g, j, none⟩ (.int .i64 v) = w') :
    w'.heap[g]? = some (.cells #[.int .i64 (rep a 0 j v), .int .i64 (rep b 1 j v), .int .i64 (rep c 2 j v), .int .i64 (rep d 3 j v)] 79 (0, 0)) ∧ Turn bs w0 w' ∧ ∀ k, k ≠ g → w'.heap[k]? = w.heap[k]? := by
  subst hw
  have ho : ∀ k, k ≠ g → (w.setCell ⟨g, j, none⟩ (.int .i64 v)).heap[k]? = w.heap[k]? := fun k hk => Below.heap_setCell _ _ _ _ hk
  have hs := heap_setCell_same w g j _ _ (.int .i64 v) hg
  rw [set4 a b c d v j hj] at hs
  exact ⟨hs, ht.setCell (p := ⟨g, j, none⟩) hn _, ho⟩

/-- What Set leaves, by the answers of its parts. -/
def RSetRet (w : World) (g : Nat) (eL eR : Int) (out : Nat) (X5 : IdxM) (e : Ending) (w' : World) : Prop :=
  (eL ≠ 0 → e = .returned (.tuple #[.int .i64 0, .int .i64 eL])) ∧ (eL = 0 → eR ≠ 0 → e = .returned (.tuple #[.int .i64 0, .int .i64 eR])) ∧ (eL = 0 → eR = 0 → e = .returned (.tuple #[.int .i64 out, .int .i64 0]) ∧ RIdxAt w' g X5) ∧ Turn [g] w w'

set_option maxHeartbeats 4000000 in
set_option maxRecDepth 100000 in
theorem refSet_walk (w : World) (g : Nat) (X : IdxM) (root at_ : Nat) (data : ByteArray) (Xb : IdxM) (b L lid out : Nat) (eL eR : Int) (X2 X3 X4 X5 : IdxM)
    (h : RIdxAt w g X) (hdata : data.size ≤ 9223372036854775807) (hr : root ≤ 24) (ha : at_ < 16)
    (hput : data.size = 0 ∧ Xb = X ∧ b = 0 ∨ data.size ≠ 0 ∧ putErr X.P data = 0 ∧ putId X.P data = b ∧ Xb = { X with P := putP X.P data })
    (hL : (Xb.N root).kid (at_ / 4) = L) (hL24 : L ≤ 24)
    (HN1 : Hid (∀ w', RIdxAt w' g Xb → Calls Tryz.prog 122 #[.pointer (some ⟨g, 0, none⟩), .agg #[.int .i64 (rep (Xb.N L).k0 0 (at_ % 4) b : Nat), .int .i64 (rep (Xb.N L).k1 1 (at_ % 4) b : Nat), .int .i64 (rep (Xb.N L).k2 2 (at_ % 4) b : Nat), .int .i64 (rep (Xb.N L).k3 3 (at_ % 4) b : Nat)], .bool true] w' (RIdxRet w' g X2 (.tuple #[.int .i64 lid, .int .i64 eL]))))
    (HRB : Hid (eL = 0 → ∀ w', RIdxAt w' g X2 → Calls Tryz.prog 123 #[.pointer (some ⟨g, 0, none⟩), .int .i64 b, .int .i64 (-1)] w' fun e w'' => ∃ ne : Int, e = .returned (.int .i64 ne) ∧ RIdxAt w'' g X3 ∧ Turn [g] w' w''))
    (HB0 : Hid (b = 0 → X3 = X2))
    (HN2 : Hid (eL = 0 → ∀ w', RIdxAt w' g X3 → Calls Tryz.prog 122 #[.pointer (some ⟨g, 0, none⟩), .agg #[.int .i64 (rep (Xb.N root).k0 0 (at_ / 4) lid : Nat), .int .i64 (rep (Xb.N root).k1 1 (at_ / 4) lid : Nat), .int .i64 (rep (Xb.N root).k2 2 (at_ / 4) lid : Nat), .int .i64 (rep (Xb.N root).k3 3 (at_ / 4) lid : Nat)], .bool false] w' (RIdxRet w' g X4 (.tuple #[.int .i64 out, .int .i64 eR]))))
    (HU : Hid (eL = 0 → eR = 0 → ∀ w', RIdxAt w' g X4 → Calls Tryz.prog 94 #[.pointer (some ⟨g, 0, none⟩), .int .i64 lid, .bool true] w' (RIdxRet w' g X5 (.tuple #[]))))
    (heL : 0 ≤ eL) (heR : 0 ≤ eR) :
    Calls Tryz.prog 93 #[.pointer (some ⟨g, 0, none⟩), .int .i64 root, .int .i64 at_, .string data] w (RSetRet w g eL eR out X5) := by
  obtain ⟨q, hq⟩ : ∃ q, at_ / 4 = q := ⟨_, rfl⟩
  obtain ⟨r, hr4⟩ : ∃ r, at_ % 4 = r := ⟨_, rfl⟩
  have hq4 : q < 4 := by omega
  have hr5 : r < 4 := by omega
  rw [hq] at hL HN2
  rw [hr4] at HN1
  have d2 : (at_ : Int).tmod 4 = (r : Int) := by rw [Int.tmod_eq_emod_of_nonneg (by omega)]; omega
  have d3 : (at_ : Int).tdiv 4 = (q : Int) := by rw [Int.tdiv_eq_ediv_of_nonneg (by omega)]; omega
  have d4 : (at_ : Int) / 4 = (q : Int) := by omega
  have d5 : (at_ : Int) % 4 = (r : Int) := by omega
  have D2 := Lib.hid d2
  have D3 := Lib.hid d3
  have D4 := Lib.hid d4
  have D5 := Lib.hid d5
  have HPUT := Lib.hid hput
  have HL := Lib.hid hL
  clear d2 d3 d4 d5 hq hr4 hput hL
  obtain ⟨bb, hbb⟩ : ∃ bb, data.toList.isEmpty = bb := ⟨_, rfl⟩
  have HBB := Lib.hid hbb
  go_enter Tryz.func93, Tryz.ntmps93
  go_upto_if 19 with fail
  clear hbb
  go_cut [10] (fun s wy => s = .int .i64 (b : Int) ∧ ∃ wx, wy = wx ∧ RIdxAt wx g Xb ∧ Turn [g] w wx)
  case first =>
    rcases HPUT.out with ⟨e0, e1, e2⟩ | ⟨e0, e1, e2, e3⟩
    · obtain rfl : data = ByteArray.empty := by
        apply ByteArray.ext
        exact Array.eq_empty_of_size_eq_zero e0
      obtain rfl : bb = true := HBB.out.symm.trans (by rw [ByteArray.toList_eq]; rfl)
      subst e1 e2
      go_wp2_with fail
      go_meet
      exact ⟨rfl, _, rfl, h, Turn.refl _ _⟩
    · obtain rfl : bb = false := HBB.out.symm.trans (notEmpty e0)
      have HC := Lib.hid ((refPut_any g w X.P data h.blks hdata))
      rw [e1, e2] at HC
      clear e0 e1 e2
      go_wp2_with fail
      (refine HC.out.mono ?_; rintro e w2 ⟨rfl, h2, t2, p2⟩)
      go_wp2_with fail
      go_meet
      exact ⟨rfl, _, rfl, by rw [e3]; exact ⟨h2, h.nods.past p2⟩, t2⟩
  case rest =>
    obtain ⟨rfl, wx, ex, hX, tX⟩ := hcut
    rw [ex]
    clear ex
    clear h HPUT HBB
    have hxlt := hX.lt
    have d3 := D3.out
    have d4 := D4.out
    have i1 : (0 : Int) ≤ (root : Int) := by omega
    have i2 : (root : Int) < 25 := by omega
    have i3 : (0 : Int) ≤ (q : Int) := by omega
    have i4 : (q : Int) < 4 := by omega
    have i5 : (0 : Int) ≤ (L : Int) := by omega
    have i6 : (L : Int) < 25 := by omega
    have c0 : wx.cell? ⟨g, 82 + root * 5, none⟩ = some (.int .i64 (Xb.N root).k0) := hX.nods.kid root 0 hr (by omega)
    have c1 : wx.cell? ⟨g, 82 + root * 5 + 1, none⟩ = some (.int .i64 (Xb.N root).k1) := hX.nods.kid root 1 hr (by omega)
    have c2 : wx.cell? ⟨g, 82 + root * 5 + 2, none⟩ = some (.int .i64 (Xb.N root).k2) := hX.nods.kid root 2 hr (by omega)
    have c3 : wx.cell? ⟨g, 82 + root * 5 + 3, none⟩ = some (.int .i64 (Xb.N root).k3) := hX.nods.kid root 3 hr (by omega)
    have b2 := (Below.refl wx.heap.size wx).alloc (Nat.le_refl _) (.cells #[.int .i64 (Xb.N root).k0, .int .i64 (Xb.N root).k1, .int .i64 (Xb.N root).k2, .int .i64 (Xb.N root).k3] 79)
    have h2 := hX.below b2
    have t2 := tX.trans (Turn.of_below (bs := [g]) b2)
    have s2 : (wx.alloc (.cells #[.int .i64 (Xb.N root).k0, .int .i64 (Xb.N root).k1, .int .i64 (Xb.N root).k2, .int .i64 (Xb.N root).k3] 79)).heap[wx.heap.size]? = some (.cells #[.int .i64 (Xb.N root).k0, .int .i64 (Xb.N root).k1, .int .i64 (Xb.N root).k2, .int .i64 (Xb.N root).k3] 79 (0, 0)) := heap_alloc_new wx _
    obtain ⟨gk, hgk⟩ : ∃ gk, wx.heap.size = gk := ⟨_, rfl⟩
    obtain ⟨w2, hw2⟩ : ∃ w2, wx.alloc (.cells #[.int .i64 (Xb.N root).k0, .int .i64 (Xb.N root).k1, .int .i64 (Xb.N root).k2, .int .i64 (Xb.N root).k3] 79) = w2 := ⟨_, rfl⟩
    rw [hw2] at h2 t2 s2
    rw [hgk] at s2
    have hgne : gk ≠ g := by omega
    have hgw : w.heap.size ≤ gk := by have := tX.size; omega
    clear b2 tX hX hxlt
    go_upto_region 8 with fail
    clear hw2 hgk c0 c1 c2 c3
    have hg2 := h2.lt
    have hk2 : gk < w2.heap.size := (Array.getElem?_eq_some_iff.1 s2).1
    have cR : w2.cell? ⟨gk, q, none⟩ = some (.int .i64 (L : Nat)) := by
      have := (cell4 gk _ _ _ _ q hq4 w2 s2).1
      rw [this, ← HL.out]
      rfl
    have c0 : w2.cell? ⟨g, 82 + L * 5, none⟩ = some (.int .i64 (Xb.N L).k0) := h2.nods.kid L 0 hL24 (by omega)
    have c1 : w2.cell? ⟨g, 82 + L * 5 + 1, none⟩ = some (.int .i64 (Xb.N L).k1) := h2.nods.kid L 1 hL24 (by omega)
    have c2 : w2.cell? ⟨g, 82 + L * 5 + 2, none⟩ = some (.int .i64 (Xb.N L).k2) := h2.nods.kid L 2 hL24 (by omega)
    have c3 : w2.cell? ⟨g, 82 + L * 5 + 3, none⟩ = some (.int .i64 (Xb.N L).k3) := h2.nods.kid L 3 hL24 (by omega)
    have b4 : Below w2.heap.size w2 (w2.alloc (.cells #[.int .i64 (Xb.N L).k0, .int .i64 (Xb.N L).k1, .int .i64 (Xb.N L).k2, .int .i64 (Xb.N L).k3] 79)).drew := ((Below.refl _ _).alloc (Nat.le_refl _) _).drew
    have h4 := h2.below b4
    have t4 := t2.trans (Turn.of_below (bs := [g]) b4)
    have s4 := (b4.block gk hk2).trans s2
    have s4' : (w2.alloc (.cells #[.int .i64 (Xb.N L).k0, .int .i64 (Xb.N L).k1, .int .i64 (Xb.N L).k2, .int .i64 (Xb.N L).k3] 79)).drew.heap[w2.heap.size]? = some (.cells #[.int .i64 (Xb.N L).k0, .int .i64 (Xb.N L).k1, .int .i64 (Xb.N L).k2, .int .i64 (Xb.N L).k3] 79 (0, 0)) := heap_alloc_new w2 _
    have hws : w.heap.size ≤ w2.heap.size := t2.size
    have HWS := Lib.hid hws
    clear hws
    clear t2 h2
    go_region
    all_goals
      clear cR c0 c1 c2 c3 d3 d4 i1 i2 i3 i4 i5 i6
      generalize hw4 : (w2.alloc (.cells #[.int .i64 (Xb.N L).k0, .int .i64 (Xb.N L).k1, .int .i64 (Xb.N L).k2, .int .i64 (Xb.N L).k3] 79)).drew = w4 at b4 h4 t4 s4 s4' ⊢
      clear hw4 b4 s2
      have hbk : gk ≠ w2.heap.size := by omega
      have hbg : w2.heap.size ≠ g := by omega
      obtain ⟨gb, hgb⟩ : ∃ gb, w2.heap.size = gb := ⟨_, rfl⟩
      have hws := HWS.out
      rw [hgb] at s4' hbk hbg hws ⊢
      clear hgb HWS hk2 hg2
      obtain ⟨x1, x2⟩ := cell4 gb _ _ _ _ r hr5 w4 s4'
      obtain ⟨w5, hw5⟩ : ∃ w5, w4.setCell ⟨gb, r, none⟩ (.int .i64 b) = w5 := ⟨_, rfl⟩
      obtain ⟨s5', t5, o5⟩ := put4 (v := b) s4' t4 hr5 hws hw5
      have h5 := h4.keep (o5 g (Ne.symm hbg))
      have s5 := (o5 gk hbk).trans s4
      obtain ⟨r0, r1, r2, r3⟩ := load4 _ _ _ _ _ _ s5'
      have d2 := D2.out
      have d5 := D5.out
      have j1 : (0 : Int) ≤ (r : Int) := by omega
      have j2 : (r : Int) < 4 := by omega
      clear s4 s4' t4 h4 o5
      go_wp2_with fail
      clear hw5 x1 x2 r0 r1 r2 r3 d2 d5 j1 j2 s5'
      ((with_reducible refine (HN1.out _ h5).mono ?_); rintro e w6 ⟨rfl, h6, t6⟩)
      have s6 := (t6.block gk (Array.getElem?_eq_some_iff.1 s5).1 (by simpa using hgne)).trans s5
      replace t6 := t5.trans t6
      clear t5 h5 s5 HN1
      by_cases e0 : eL = 0
      rotate_left
      · have p0 : 0 < eL := by omega
        go_wp2_with fail
        go_ret2
        exact ⟨fun _ => rfl, fun e => absurd e e0, fun e => absurd e e0, t6⟩
      · have HRB' := Lib.hid (HRB.out e0)
        have HN2' := Lib.hid (HN2.out e0)
        have HU' := Lib.hid (HU.out e0)
        clear HRB HN2 HU
        subst e0
        go_upto_if 61 with fail
        go_cut [] (fun wy => ∃ w7, wy = w7 ∧ RIdxAt w7 g X3 ∧ w7.heap[gk]? = some (.cells #[.int .i64 (Xb.N root).k0, .int .i64 (Xb.N root).k1, .int .i64 (Xb.N root).k2, .int .i64 (Xb.N root).k3] 79 (0, 0)) ∧ Turn [g] w w7)
        case first =>
          by_cases b0 : b = 0
          · subst b0
            have h6' : RIdxAt w6 g X3 := by rw [HB0.out rfl]; exact h6
            clear HB0 h6
            go_wp2_with fail
            go_meet
            exact ⟨_, rfl, h6', s6, t6⟩
          · have p0 : 0 < b := by omega
            go_wp2_with fail
            (refine (HRB'.out _ h6).mono ?_; rintro e w7 ⟨ne, rfl, h7, t7⟩)
            go_wp2_with fail
            go_meet
            exact ⟨_, rfl, h7, (t7.block gk (Array.getElem?_eq_some_iff.1 s6).1 (by simpa using hgne)).trans s6, t6.trans t7⟩
        case rest =>
          obtain ⟨w7, ex, h7, s7, t7⟩ := hcut
          rw [ex]
          clear ex h6 s6 t6
          obtain ⟨x1, x2⟩ := cell4 gk _ _ _ _ q hq4 w7 s7
          obtain ⟨w8, hw8⟩ : ∃ w8, w7.setCell ⟨gk, q, none⟩ (.int .i64 lid) = w8 := ⟨_, rfl⟩
          obtain ⟨s8, t8, o8⟩ := put4 (v := lid) s7 t7 hq4 hgw hw8
          have h8 := h7.keep (o8 g (Ne.symm hgne))
          obtain ⟨r0, r1, r2, r3⟩ := load4 _ _ _ _ _ _ s8
          have d3 := D3.out
          have d4 := D4.out
          have j1 : (0 : Int) ≤ (q : Int) := by omega
          have j2 : (q : Int) < 4 := by omega
          clear s7 t7 h7 o8
          go_wp2_with fail
          clear hw8 x1 x2 r0 r1 r2 r3 d3 d4 j1 j2 s8
          ((with_reducible refine (HN2'.out _ h8).mono ?_); rintro e w9 ⟨rfl, h9, t9⟩)
          replace t9 := t8.trans t9
          clear t8 h8 HN2'
          by_cases e1 : eR = 0
          rotate_left
          · have p0 : 0 < eR := by omega
            go_wp2_with fail
            go_ret2
            exact ⟨fun e => absurd rfl e, fun _ _ => rfl, fun _ e => absurd e e1, t9⟩
          · have HU2 := Lib.hid (HU'.out e1)
            clear HU'
            subst e1
            go_wp2_with fail
            ((with_reducible refine (HU2.out _ h9).mono ?_); rintro e w10 ⟨rfl, h10, t10⟩)
            go_wp2_with fail
            go_ret2
            exact ⟨fun e => absurd rfl e, fun _ e => absurd rfl e, fun _ _ => ⟨rfl, h10⟩, t9.trans t10⟩

set_option maxRecDepth 100000 in
/-- The block can't be put. -/
theorem refSet_full (w : World) (g : Nat) (X : IdxM) (root at_ : Nat) (data : ByteArray) (ne : Int) (h : RIdxAt w g X) (hdata : data.size ≤ 9223372036854775807) (hd : data.size ≠ 0) (hne : putErr X.P data = ne) (h0 : ne ≠ 0) :
    Calls Tryz.prog 93 #[.pointer (some ⟨g, 0, none⟩), .int .i64 root, .int .i64 at_, .string data] w fun e w' => e = .returned (.tuple #[.int .i64 0, .int .i64 ne]) ∧ Turn [g] w w' := by
  have hne0 := notEmpty hd
  have p0 : 0 < ne := by have := putErr_nonneg X.P data; omega
  have HC := Lib.hid (refPutS g w X.P data (putId X.P data) ne (putP X.P data) h.blks hdata rfl hne rfl)
  generalize putId X.P data = nv at HC
  clear hd hne h0
  go_enter Tryz.func93, Tryz.ntmps93
  go_wp2_with fail
  (refine HC.out.mono ?_; rintro e w2 ⟨rfl, h2, t2⟩)
  go_wp2_with fail
  go_ret2
  exact ⟨rfl, t2⟩

theorem create_okL {K : Nat} {X : IdxM} (h : X.Ok K) {a b c d : Nat} (hk : a ≤ 40 ∧ b ≤ 40 ∧ c ≤ 40 ∧ d ≤ 40) : (createX IdxM.refB false X a b c d).Ok (K + 5) := by
  unfold createX
  split
  · exact h.mono (by omega)
  · split
    · exact h.mono (by omega)
    · rename_i m hff
      obtain ⟨m1, m2, _, _⟩ := firstFree_some hff
      have hA : ({ X with N := setNod X.N m ⟨a, b, c, d, 1, false⟩ } : IdxM).Ok (K + 1) := ⟨h.P.mono (by omega), setNod_ok h.N (by omega) m1 m2 (by simp) (by simp) hk⟩
      exact refB_okX (refB_okX (refB_okX (refB_okX hA _) _) _) _
theorem create_okR {K : Nat} {X : IdxM} (h : X.Ok K) {a b c d : Nat} (hk : a ≤ 40 ∧ b ≤ 40 ∧ c ≤ 40 ∧ d ≤ 40) : (createX IdxM.refN true X a b c d).Ok (K + 5) := by
  unfold createX
  split
  · exact h.mono (by omega)
  · split
    · exact h.mono (by omega)
    · rename_i m hff
      obtain ⟨m1, m2, _, _⟩ := firstFree_some hff
      have hA : ({ X with N := setNod X.N m ⟨a, b, c, d, 1, true⟩ } : IdxM).Ok (K + 1) := ⟨h.P.mono (by omega), setNod_ok h.N (by omega) m1 m2 (by simp) (by simp) hk⟩
      exact refN_okX (refN_okX (refN_okX (refN_okX hA _) _) _) _
end Go.Proofs.YtlgahdabhnhjgaaGreatDoor
