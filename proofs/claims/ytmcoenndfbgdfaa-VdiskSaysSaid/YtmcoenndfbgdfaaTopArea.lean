/- TopArea: for all lists of areas, Union is commutative, associative and idempotent, and Union and Cut have the blocks that they should have. The walk of the law. -/
import Derived.Test.YtmcoenndfbgdfaaUnion
import Derived.Test.YtmcoenndfbgdfaaSame
import Derived.Test.YtmcoenndfbgdfaaCheck
namespace Go.Proofs.Ytmcoenndfbgdfaa
open Go.RowKit

theorem check_ok (A : Option Addr) (cap : Nat) (l : List Ar) (w : World) (hA : AreasAt w w.heap.size A l) (hl : l.length ≤ 20) (hw : Wf l) (hv : ValidFrom 0 l) :
    Calls Try.prog 9 #[.slice A l.length cap] w fun e w' => e = .returned .nilIface ∧ Below w.heap.size w w' :=
  (check_any A cap l w hA hl hw).mono fun e w' ⟨he, hb⟩ => ⟨by rw [he, chk_none.2 hv]; rfl, hb⟩

def RetErr (w : World) (e : Ending) (w' : World) : Prop := ∃ n : Int, n ≠ 0 ∧ e = .returned (.iface 83 (.int .i64 n)) ∧ Below w.heap.size w w'

theorem check_bad (A : Option Addr) (cap : Nat) (l : List Ar) (w : World) (hA : AreasAt w w.heap.size A l) (hl : l.length ≤ 20) (hw : Wf l) (hv : ¬ ValidFrom 0 l) :
    Calls Try.prog 9 #[.slice A l.length cap] w (RetErr w) :=
  (check_any A cap l w hA hl hw).mono fun e w' ⟨he, hb⟩ => ⟨chk none l, fun h => hv (chk_none.1 h), by rw [he, errV, if_neg (fun h => hv (chk_none.1 h))], hb⟩

theorem ValidFrom.wf {l : List Ar} (h : ValidFrom 0 l) : Wf l := fun k hk => by
  obtain ⟨h1, h2, h3⟩ := h.bd (by omega) k hk
  exact ⟨by omega, by omega, by omega, by omega⟩

theorem uni_valid (l r : List Ar) : ValidFrom 0 (uni l r) := areasOf_valid _
theorem uni_len (l r : List Ar) : (uni l r).length ≤ 20 := by have := areasOf_len (fun i => hasB l i || hasB r i); unfold uni; omega
theorem cut_valid (l : List Ar) (s : Int) : ValidFrom 0 (cutTo l s) := areasOf_valid _
theorem cut_len (l : List Ar) (s : Int) : (cutTo l s).length ≤ 20 := by have := areasOf_len (fun i => hasB l i && decide ((i : Int) < s)); unfold cutTo; omega

theorem has_uni {l r : List Ar} (hl : ValidFrom 0 l) (hr : ValidFrom 0 r) (i : Int) : hasB (uni l r) i = (hasB l i || hasB r i) := by
  unfold uni; rw [areasOf_has]
  by_cases c : 0 ≤ i ∧ i < 16
  · obtain ⟨n, rfl⟩ := Int.eq_ofNat_of_zero_le c.1
    have : n < 16 := by omega
    simp [c.2]
  · by_cases d : i < 0
    · rw [hasB_low hl d, hasB_low hr d]; simp; omega
    · rw [hasB_high (i := i) hl (by omega), hasB_high (i := i) hr (by omega), show decide (i < 16) = false by simp; omega]; simp

theorem has_cut {l : List Ar} (hl : ValidFrom 0 l) (s i : Int) : hasB (cutTo l s) i = (hasB l i && decide (i < s)) := by
  unfold cutTo; rw [areasOf_has]
  by_cases c : 0 ≤ i ∧ i < 16
  · obtain ⟨n, rfl⟩ := Int.eq_ofNat_of_zero_le c.1
    simp [c.2]
  · by_cases d : i < 0
    · rw [hasB_low hl d]; simp; omega
    · rw [hasB_high (i := i) hl (by omega), show decide (i < 16) = false by simp; omega]; simp

theorem uni_comm (l r : List Ar) : uni l r = uni r l := areasOf_congr (fun i _ => by rw [Bool.or_comm])
theorem uni_assoc {a b c : List Ar} (ha : ValidFrom 0 a) (hb : ValidFrom 0 b) (hc : ValidFrom 0 c) : uni (uni a b) c = uni a (uni b c) :=
  areasOf_congr (fun i _ => by rw [has_uni ha hb, has_uni hb hc, Bool.or_assoc])
theorem uni_self {a : List Ar} (ha : ValidFrom 0 a) : uni a a = a := by
  have : uni a a = areasOf (marksOf a) := areasOf_congr (fun i _ => by simp [marksOf])
  rw [this, areasOf_marksOf ha]

theorem areasAt_one (w : World) (x y : Int) : AreasAt (w.alloc (.cells #[.int .i64 x, .int .i64 y] 76)) (w.heap.size + 1) (some ⟨w.heap.size, 0, none⟩) [(x, y)] := by
  intro i hi
  have : i = 0 := by simp at hi; omega
  subst this
  exact ⟨w.heap.size, 0, rfl, by omega, by simp, by simp⟩

theorem AreasAt.up {w w' : World} {A : Option Addr} {l : List Ar} (h : AreasAt w w.heap.size A l) (hb : Below w.heap.size w w') : AreasAt w' w'.heap.size A l := (h.below hb).mono hb.size
theorem bd_one {x y : Int} (h1 : 0 ≤ x) (h2 : 1 ≤ y) (h3 : x + y ≤ 16) : Bd [(x, y)] := fun k hk => by
  have : k = 0 := by simp at hk; omega
  subst this
  exact ⟨h1, h2, h3⟩

theorem one_uni : uni [(0, 1)] [(1, 1)] = [(0, 2)] := by decide +kernel

/-- A call that answers areas: in some slice of memory that is there then. -/
def AnsAr (w : World) (l : List Ar) (e : Ending) (w' : World) : Prop := ∃ A c, e = .returned (.slice A l.length c) ∧ AreasAt w' w'.heap.size A l ∧ Below w.heap.size w w'

theorem union_ans (A A' : Option Addr) (cap cap' : Nat) (l l' : List Ar) (w : World) (hA : AreasAt w w.heap.size A l) (hA' : AreasAt w w.heap.size A' l') (hl : l.length ≤ 20) (hl' : l'.length ≤ 20) (hv : ValidFrom 0 l) (hv' : ValidFrom 0 l') :
    Calls Try.prog 14 #[.slice A l.length cap, .slice A' l'.length cap'] w (AnsAr w (uni l l')) :=
  (union_any A A' cap cap' l l' w hA hA' hl hl' (hv.bd (by omega)) (hv'.bd (by omega))).mono fun _ _ h => h.open

theorem sameAreas_yes (A A' : Option Addr) (cap cap' : Nat) (l l' : List Ar) (w : World) (hA : AreasAt w w.heap.size A l) (hA' : AreasAt w w.heap.size A' l') (hl : l.length ≤ 20) (he : l = l') :
    Calls Try.prog 13 #[.slice A l.length cap, .slice A' l'.length cap'] w fun e w' => e = .returned (.bool true) ∧ Below w.heap.size w w' :=
  (sameAreas_any A A' cap cap' l l' w hA hA' hl).mono fun _ _ ⟨h, hb⟩ => ⟨by rw [h]; simp [he], hb⟩

theorem has_is (A : Option Addr) (cap : Nat) (l : List Ar) (x : Int) (v : Bool) (w : World) (hA : AreasAt w w.heap.size A l) (hl : l.length ≤ 20) (hv : ValidFrom 0 l) (hx : x ≤ 9223372036854775807) (h : hasB l x = v) :
    Calls Try.prog 19 #[.slice A l.length cap, .int .i64 x] w fun e w' => e = .returned (.bool v) ∧ Below w.heap.size w w' :=
  (has_any A cap l x w hA hl (hv.bd (by omega)) hx).mono fun _ _ ⟨he, hb⟩ => ⟨by rw [he, h], hb⟩

theorem cut_ans (A : Option Addr) (cap : Nat) (l : List Ar) (s : Int) (w : World) (hA : AreasAt w w.heap.size A l) (hl : l.length ≤ 20) (hv : ValidFrom 0 l) :
    Calls Try.prog 16 #[.slice A l.length cap, .int .i64 s] w (AnsAr w (cutTo l s)) :=
  (cut_any A cap l s w hA hl (hv.bd (by omega))).mono fun _ _ h => h.open

theorem union_closed (x y z t : Int) (w : World) (h1 : 0 ≤ x) (h2 : 1 ≤ y) (h3 : x + y ≤ 16) (h4 : 0 ≤ z) (h5 : 1 ≤ t) (h6 : z + t ≤ 16) :
    Calls Try.prog 14 #[.slice (some ⟨w.heap.size, 0, none⟩) 1 1, .slice (some ⟨w.heap.size + 1, 0, none⟩) 1 1] ((w.alloc (.cells #[.int .i64 x, .int .i64 y] 76)).alloc (.cells #[.int .i64 z, .int .i64 t] 76))
      (AnsAr w (uni [(x, y)] [(z, t)])) := by
  have hP : AreasAt ((w.alloc (.cells #[.int .i64 x, .int .i64 y] 76)).alloc (.cells #[.int .i64 z, .int .i64 t] 76)) ((w.alloc (.cells #[.int .i64 x, .int .i64 y] 76)).alloc (.cells #[.int .i64 z, .int .i64 t] 76)).heap.size (some ⟨w.heap.size, 0, none⟩) [(x, y)] :=
    ((areasAt_one w x y).below (Below.alloc (Below.refl _ _) (by simp) _)).mono (by simp)
  have hQ : AreasAt ((w.alloc (.cells #[.int .i64 x, .int .i64 y] 76)).alloc (.cells #[.int .i64 z, .int .i64 t] 76)) ((w.alloc (.cells #[.int .i64 x, .int .i64 y] 76)).alloc (.cells #[.int .i64 z, .int .i64 t] 76)).heap.size (some ⟨w.heap.size + 1, 0, none⟩) [(z, t)] := by
    have := areasAt_one (w.alloc (.cells #[.int .i64 x, .int .i64 y] 76)) z t
    simpa using this
  have := union_any (some ⟨w.heap.size, 0, none⟩) (some ⟨w.heap.size + 1, 0, none⟩) 1 1 [(x, y)] [(z, t)] _ hP hQ (by simp) (by simp) (bd_one h1 h2 h3) (bd_one h4 h5 h6)
  refine this.mono fun e w' h => ?_
  obtain ⟨A, c, he, hA, hb⟩ := h.open
  exact ⟨A, c, he, hA, (((Below.refl _ _).alloc (Nat.le_refl _) _).alloc (by simp) _).trans (hb.mono (by simp; omega))⟩

set_option maxHeartbeats 2000000 in
set_option maxRecDepth 100000 in
theorem topArea_walk (A B C : Option Addr) (ca cb cc : Nat) (a b c : List Ar) (x s : Int) (w : World) (hA : AreasAt w w.heap.size A a) (hB : AreasAt w w.heap.size B b) (hC : AreasAt w w.heap.size C c)
    (wa : Wf a) (wb : Wf b) (wc : Wf c) (hx : x ≤ 9223372036854775807) :
    Calls Try.prog 5 #[.slice A a.length ca, .slice B b.length cb, .slice C c.length cc, .int .i64 x, .int .i64 s] w fun e w' => e = .returned (.bool true) ∧ Below w.heap.size w w' := by
  go_enter Try.func5, Try.ntmps5
  go_wp2_with fail
  ((with_reducible refine (union_closed 0 1 1 1 w (by decide) (by decide) (by decide) (by decide) (by decide) (by decide)).mono ?_); rintro e w1 h1)
  rw [one_uni] at h1
  obtain ⟨O, co, rfl, hO, hb1⟩ := h1
  obtain ⟨o1, o2, rfl, _, ho1, ho2⟩ := hO 0 (by decide)
  have HO := Lib.hid hO
  clear hO
  by_cases ha : a.length ≤ 20
  rotate_left
  · go_wp2_with fail
    go_ret; exact ⟨rfl, hb1⟩
  by_cases hb : b.length ≤ 20
  rotate_left
  · go_wp2_with fail
    go_ret; exact ⟨rfl, hb1⟩
  by_cases hc : c.length ≤ 20
  rotate_left
  · go_wp2_with fail
    go_ret; exact ⟨rfl, hb1⟩
  go_wp2_with fail
  have hA1 := hA.up hb1
  have hB1 := hB.up hb1
  have hC1 := hC.up hb1
  by_cases va : ValidFrom 0 a
  rotate_left
  · ((with_reducible refine (check_bad _ _ a _ hA1 ha wa va).mono ?_); rintro e w2 ⟨n, hn, rfl, hb2⟩)
    go_wp2_with fail
    go_ret; exact ⟨rfl, belowThen hb1 hb2⟩
  ((with_reducible refine (check_ok _ _ a _ hA1 ha wa va).mono ?_); rintro e w2 ⟨rfl, hb2⟩)
  replace hb2 := belowThen hb1 hb2
  clear hA1 hB1 hC1 hb1 ho1 ho2 HO
  have hB2 := hB.up hb2
  have hC2 := hC.up hb2
  go_wp2_with fail
  by_cases vb : ValidFrom 0 b
  rotate_left
  · ((with_reducible refine (check_bad _ _ b _ hB2 hb wb vb).mono ?_); rintro e w3 ⟨n, hn, rfl, hb3⟩)
    go_wp2_with fail
    go_ret; exact ⟨rfl, belowThen hb2 hb3⟩
  ((with_reducible refine (check_ok _ _ b _ hB2 hb wb vb).mono ?_); rintro e w3 ⟨rfl, hb3⟩)
  replace hb3 := belowThen hb2 hb3
  clear hB2 hC2 hb2
  have hC3 := hC.up hb3
  go_wp2_with fail
  by_cases vc : ValidFrom 0 c
  rotate_left
  · ((with_reducible refine (check_bad _ _ c _ hC3 hc wc vc).mono ?_); rintro e w4 ⟨n, hn, rfl, hb4⟩)
    go_wp2_with fail
    go_ret; exact ⟨rfl, belowThen hb3 hb4⟩
  ((with_reducible refine (check_ok _ _ c _ hC3 hc wc vc).mono ?_); rintro e w4 ⟨rfl, hb4⟩)
  replace hb4 := belowThen hb3 hb4
  clear hC3 hb3
  go_wp2_with fail
  ((with_reducible refine (union_ans _ _ _ _ a b _ (hA.up hb4) (hB.up hb4) ha hb va vb).mono ?_); rintro e w5 ⟨X, cx, rfl, hX, hb5⟩)
  replace hb5 := belowThen hb4 hb5
  clear hb4
  go_wp2_with fail
  ((with_reducible refine (check_ok _ _ (uni a b) _ hX (uni_len a b) (uni_valid a b).wf (uni_valid a b)).mono ?_); rintro e w6 ⟨rfl, hb6⟩)
  replace hX := hX.up hb6
  replace hb6 := belowThen hb5 hb6
  clear hb5
  go_wp2_with fail
  ((with_reducible refine (union_ans _ _ _ _ b a _ (hB.up hb6) (hA.up hb6) hb ha vb va).mono ?_); rintro e w7 ⟨Y, cy, rfl, hY, hb7⟩)
  replace hX := hX.up hb7
  replace hb7 := belowThen hb6 hb7
  clear hb6
  go_wp2_with fail
  ((with_reducible refine (sameAreas_yes _ _ _ _ (uni a b) (uni b a) _ hX hY (uni_len a b) (uni_comm a b)).mono ?_); rintro e w8 ⟨rfl, hb8⟩)
  replace hX := hX.up hb8
  replace hb8 := belowThen hb7 hb8
  clear hb7 hY
  go_wp2_with fail
  ((with_reducible refine (union_ans _ _ _ _ (uni a b) c _ hX (hC.up hb8) (uni_len a b) hc (uni_valid a b) vc).mono ?_); rintro e w9 ⟨Z, cz, rfl, hZ, hb9⟩)
  replace hX := hX.up hb9
  replace hb9 := belowThen hb8 hb9
  clear hb8
  go_wp2_with fail
  ((with_reducible refine (union_ans _ _ _ _ b c _ (hB.up hb9) (hC.up hb9) hb hc vb vc).mono ?_); rintro e v1 ⟨Y, cy, rfl, hY, hc1⟩)
  replace hX := hX.up hc1
  replace hZ := hZ.up hc1
  replace hc1 := belowThen hb9 hc1
  clear hb9
  go_wp2_with fail
  ((with_reducible refine (union_ans _ _ _ _ a (uni b c) _ (hA.up hc1) hY ha (uni_len b c) va (uni_valid b c)).mono ?_); rintro e v2 ⟨V, cv, rfl, hV, hc2⟩)
  replace hX := hX.up hc2
  replace hZ := hZ.up hc2
  replace hc2 := belowThen hc1 hc2
  clear hc1 hY
  go_wp2_with fail
  ((with_reducible refine (sameAreas_yes _ _ _ _ (uni (uni a b) c) (uni a (uni b c)) _ hZ hV (uni_len _ c) (uni_assoc va vb vc)).mono ?_); rintro e v3 ⟨rfl, hc3⟩)
  replace hX := hX.up hc3
  replace hc3 := belowThen hc2 hc3
  clear hc2 hZ hV
  go_wp2_with fail
  ((with_reducible refine (union_ans _ _ _ _ a a _ (hA.up hc3) (hA.up hc3) ha ha va va).mono ?_); rintro e v4 ⟨V, cv, rfl, hV, hc4⟩)
  replace hX := hX.up hc4
  replace hc4 := belowThen hc3 hc4
  clear hc3
  go_wp2_with fail
  ((with_reducible refine (sameAreas_yes _ _ _ _ (uni a a) a _ hV (hA.up hc4) (uni_len a a) (uni_self va)).mono ?_); rintro e v5 ⟨rfl, hc5⟩)
  replace hX := hX.up hc5
  replace hc5 := belowThen hc4 hc5
  clear hc4 hV
  go_wp2_with fail
  ((with_reducible refine (cut_ans _ _ a s _ (hA.up hc5) ha va).mono ?_); rintro e v6 ⟨Y, cy, rfl, hY, hc6⟩)
  replace hX := hX.up hc6
  replace hc6 := belowThen hc5 hc6
  clear hc5
  go_wp2_with fail
  ((with_reducible refine (check_ok _ _ (cutTo a s) _ hY (cut_len a s) (cut_valid a s).wf (cut_valid a s)).mono ?_); rintro e v7 ⟨rfl, hc7⟩)
  replace hX := hX.up hc7
  replace hY := hY.up hc7
  replace hc7 := belowThen hc6 hc7
  clear hc6
  go_wp2_with fail
  have HU := Lib.hid (has_uni va vb x)
  have HY := Lib.hid (has_cut va s x)
  cases hp : hasB a x
  · cases hq : hasB b x
    · ((with_reducible refine (has_is _ _ (uni a b) x false _ hX (uni_len a b) (uni_valid a b) hx (by simp [HU.out, hp, hq])).mono ?_); rintro e v8 ⟨rfl, hc8⟩)
      replace hY := hY.up hc8
      replace hc8 := belowThen hc7 hc8
      go_wp2_with fail
      ((with_reducible refine (has_is _ _ a x false _ (hA.up hc8) ha va hx hp).mono ?_); rintro e v9 ⟨rfl, hc9⟩)
      replace hY := hY.up hc9
      replace hc9 := belowThen hc8 hc9
      go_wp2_with fail
      ((with_reducible refine (has_is _ _ b x false _ (hB.up hc9) hb vb hx hq).mono ?_); rintro e u1 ⟨rfl, hd1⟩)
      replace hY := hY.up hd1
      replace hd1 := belowThen hc9 hd1
      go_wp2_with fail
      ((with_reducible refine (has_is _ _ (cutTo a s) x false _ hY (cut_len a s) (cut_valid a s) hx (by simp [HY.out, hp])).mono ?_); rintro e u2 ⟨rfl, hd2⟩)
      replace hd2 := belowThen hd1 hd2
      go_wp2_with fail
      ((with_reducible refine (has_is _ _ a x false _ (hA.up hd2) ha va hx hp).mono ?_); rintro e u3 ⟨rfl, hd3⟩)
      go_wp2
      go_ret
      exact ⟨rfl, belowThen hd2 hd3⟩
    · ((with_reducible refine (has_is _ _ (uni a b) x true _ hX (uni_len a b) (uni_valid a b) hx (by simp [HU.out, hp, hq])).mono ?_); rintro e v8 ⟨rfl, hc8⟩)
      replace hY := hY.up hc8
      replace hc8 := belowThen hc7 hc8
      go_wp2_with fail
      ((with_reducible refine (has_is _ _ a x false _ (hA.up hc8) ha va hx hp).mono ?_); rintro e v9 ⟨rfl, hc9⟩)
      replace hY := hY.up hc9
      replace hc9 := belowThen hc8 hc9
      go_wp2_with fail
      ((with_reducible refine (has_is _ _ b x true _ (hB.up hc9) hb vb hx hq).mono ?_); rintro e u1 ⟨rfl, hd1⟩)
      replace hY := hY.up hd1
      replace hd1 := belowThen hc9 hd1
      go_wp2_with fail
      ((with_reducible refine (has_is _ _ (cutTo a s) x false _ hY (cut_len a s) (cut_valid a s) hx (by simp [HY.out, hp])).mono ?_); rintro e u2 ⟨rfl, hd2⟩)
      replace hd2 := belowThen hd1 hd2
      go_wp2_with fail
      ((with_reducible refine (has_is _ _ a x false _ (hA.up hd2) ha va hx hp).mono ?_); rintro e u3 ⟨rfl, hd3⟩)
      go_wp2
      go_ret
      exact ⟨rfl, belowThen hd2 hd3⟩
  · ((with_reducible refine (has_is _ _ (uni a b) x true _ hX (uni_len a b) (uni_valid a b) hx (by simp [HU.out, hp])).mono ?_); rintro e v8 ⟨rfl, hc8⟩)
    replace hY := hY.up hc8
    replace hc8 := belowThen hc7 hc8
    go_wp2_with fail
    ((with_reducible refine (has_is _ _ a x true _ (hA.up hc8) ha va hx hp).mono ?_); rintro e v9 ⟨rfl, hc9⟩)
    replace hY := hY.up hc9
    replace hc9 := belowThen hc8 hc9
    go_wp2_with fail
    by_cases hs : x < s
    · ((with_reducible refine (has_is _ _ (cutTo a s) x true _ hY (cut_len a s) (cut_valid a s) hx (by simp [HY.out, hp, hs])).mono ?_); rintro e u2 ⟨rfl, hd2⟩)
      replace hd2 := belowThen hc9 hd2
      go_wp2_with fail
      ((with_reducible refine (has_is _ _ a x true _ (hA.up hd2) ha va hx hp).mono ?_); rintro e u3 ⟨rfl, hd3⟩)
      go_wp2
      go_ret
      exact ⟨rfl, belowThen hd2 hd3⟩
    · have hs' : decide (x < s) = false := by simpa using hs
      ((with_reducible refine (has_is _ _ (cutTo a s) x false _ hY (cut_len a s) (cut_valid a s) hx (by simp [HY.out, hp]; omega)).mono ?_); rintro e u2 ⟨rfl, hd2⟩)
      replace hd2 := belowThen hc9 hd2
      go_wp2_with fail
      ((with_reducible refine (has_is _ _ a x true _ (hA.up hd2) ha va hx hp).mono ?_); rintro e u3 ⟨rfl, hd3⟩)
      go_wp2
      go_ret
      exact ⟨rfl, belowThen hd2 hd3⟩
end Go.Proofs.Ytmcoenndfbgdfaa
