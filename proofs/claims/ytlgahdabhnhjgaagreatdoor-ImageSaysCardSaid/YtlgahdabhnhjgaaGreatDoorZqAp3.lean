/- The function literal of image.arePoints. -/
import Derived.Test.YtlgahdabhnhjgaaGreatDoorZqAc1
import Derived.Test.YtlgahdabhnhjgaaGreatDoorZqLight
import Derived.Test.YtlgahdabhnhjgaaGreatDoorZqGv
import Derived.Test.YtlgahdabhnhjgaaGreatDoorZqImM
import Derived.Test.YtlgahdabhnhjgaaGreatDoorZqGrow
/- What a vault as rows may describe it has at a place: pool.Get, index.Get, index.Diff. -/
namespace Go.Proofs.YtlgahdabhnhjgaaGreatDoor
open Go.RowKit Go.Maps

theorem gpool_get (w : World) (v x gp bp bn B : Nat) (lv : Value) (G : GV) (h : GVAt w v x gp bp bn B lv G) (hBd : G.Bd) (id : Int) (hid : -9223372036854775808 ≤ id ∧ id ≤ 9223372036854775807) :
    Calls Tryz.prog 90 #[.pointer (some ⟨gp, 0, none⟩), .int .i64 id] w fun e w' => (∃ ev, e = .returned (.tuple #[.string (getGt G.P id), ev])) ∧ Below w.heap.size w w' := by
  have c0 := h.g0
  have hM := h.P
  cases hh : G.P id with
  | some b =>
    have q1 : (((fun m => (G.P m).map gbV) id).getD (.agg #[.string ByteArray.empty, .int .i64 0])) = .agg #[.string b.data, .int .i64 b.refs] := by simp [hh, gbV]
    have q2 : ((fun m => (G.P m).map gbV) id).isSome = true := by simp [hh]
    rw [show getGt G.P id = b.data by unfold getGt; rw [hh]]
    have hb := hBd.p id b hh
    have Q1 := Lib.hid q1
    have Q2 := Lib.hid q2
    clear q1 q2 hh
    go_enter Tryz.func90, Tryz.ntmps90
    go_wp2_with (first
      | (at_lookup; refine wpList_lookOkG rfl _ _ 95 rfl 77 Tryz.underlying95 _ (Tryz.zeroBlock _) bp G.pk _ rfl hM id rfl hid _ true Q1.out Q2.out ?_)
      | go_in)
    go_ret2
    exact ⟨⟨_, rfl⟩, (Below.refl _ _).alloc (Nat.le_refl _) _⟩
  | none =>
    have q1 : (((fun m => (G.P m).map gbV) id).getD (.agg #[.string ByteArray.empty, .int .i64 0])) = .agg #[.string ByteArray.empty, .int .i64 0] := by simp [hh]
    have q2 : ((fun m => (G.P m).map gbV) id).isSome = false := by simp [hh]
    rw [show getGt G.P id = ByteArray.empty by unfold getGt; rw [hh]]
    have Q1 := Lib.hid q1
    have Q2 := Lib.hid q2
    clear q1 q2 hh
    go_enter Tryz.func90, Tryz.ntmps90
    go_wp2_with (first
      | (at_lookup; refine wpList_lookOkG rfl _ _ 95 rfl 77 Tryz.underlying95 _ (Tryz.zeroBlock _) bp G.pk _ rfl hM id rfl hid _ false Q1.out Q2.out ?_)
      | go_in)
    go_ret2
    exact ⟨⟨_, rfl⟩, (Below.refl _ _).alloc (Nat.le_refl _) _⟩

theorem gKid (k0 k1 k2 k3 : Int) (i : Nat) (hi : i < 4) (j : Int) (hj : j = i) (w : World) : (Instr.index 79 (.agg #[.int .i64 k0, .int .i64 k1, .int .i64 k2, .int .i64 k3]) (.int .i64 j)).run Tryz.prog w = .ok (.int .i64 (sel4 k0 k1 k2 k3 i)) w := by
  subst hj
  rw [idx4 _ _ _ _ i (by omega) (by omega) w, Int.toNat_natCast]
theorem kid_bd {G : GV} (h : G.Bd) (x : Int) (i : Nat) : -999 ≤ (G.node x).kid i ∧ (G.node x).kid i ≤ 999 := by
  have := h.node x
  unfold GN.kid sel4
  split <;> omega

set_option maxHeartbeats 1000000 in
set_option maxRecDepth 100000 in
theorem gidx_get (w : World) (v x gp bp bn B : Nat) (lv : Value) (G : GV) (h : GVAt w v x gp bp bn B lv G) (hBd : G.Bd) (root : Int) (at_ : Nat) (hr : -1000000 ≤ root ∧ root ≤ 1000000) (ha : at_ < 16) (s : ByteArray) (hs : G.get root at_ = s) :
    Calls Tryz.prog 59 #[.pointer (some ⟨x, 0, none⟩), .int .i64 root, .int .i64 at_] w fun e w' => e = .returned (.string s) ∧ Below w.heap.size w w' := by
  have c0 := h.x0
  have c1 := h.x1
  have hM := h.N
  have hlt := h.lt
  obtain ⟨k0, k1, k2, k3, rf, hn1⟩ : ∃ k0 k1 k2 k3 rf, G.node root = ⟨k0, k1, k2, k3, rf⟩ := ⟨_, _, _, _, _, rfl⟩
  have Q1 := Lib.hid (show (((fun m => (G.N m).map gnV) root).getD (.agg #[.int .i64 0, .int .i64 0, .int .i64 0, .int .i64 0, .int .i64 0])) = .agg #[.int .i64 k0, .int .i64 k1, .int .i64 k2, .int .i64 k3, .int .i64 rf] by rw [node_get, hn1]; rfl)
  have hl1 := kid_bd hBd root (at_ / 4)
  obtain ⟨L, hL⟩ : ∃ L, (G.node root).kid (at_ / 4) = L := ⟨_, rfl⟩
  rw [hL] at hl1
  obtain ⟨m0, m1, m2, m3, mf, hn2⟩ : ∃ m0 m1 m2 m3 mf, G.node L = ⟨m0, m1, m2, m3, mf⟩ := ⟨_, _, _, _, _, rfl⟩
  have hl2 := kid_bd hBd L (at_ % 4)
  obtain ⟨Bk, hBk⟩ : ∃ Bk, (G.node L).kid (at_ % 4) = Bk := ⟨_, rfl⟩
  rw [hBk] at hl2
  have f5 := field5
  have e1 := gKid k0 k1 k2 k3 (at_ / 4) (by omega) ((at_ : Int) / 4) (by omega)
  have e2 := gKid m0 m1 m2 m3 (at_ % 4) (by omega) ((at_ : Int).tmod 4) (by rw [Int.tmod_eq_emod_of_nonneg (by omega)]; omega)
  rw [show sel4 k0 k1 k2 k3 (at_ / 4) = L by rw [← hL, hn1]; rfl] at e1
  rw [show sel4 m0 m1 m2 m3 (at_ % 4) = Bk by rw [← hBk, hn2]; rfl] at e2
  have HG := Lib.hid (show getGt G.P Bk = s by rw [← hs]; unfold GV.get; rw [hL, hBk])
  have hlk : (Instr.lookup 64 (.map (some bn)) (.int .i64 L) false).run Tryz.prog w.drew = .ok (.agg #[.int .i64 m0, .int .i64 m1, .int .i64 m2, .int .i64 m3, .int .i64 mf]) w.drew := by
    rw [MapG.look (w := w.drew) (hM.keep rfl) Tryz.underlying64 (Tryz.zeroNode _) (by omega), node_get, hn2]
    rfl
  have HGET := Lib.hid (fun w' (hb : Below w.heap.size w w') => gpool_get w' v x gp bp bn B lv G (h.below hb) hBd Bk (by omega))
  have i1 : (0 : Int) ≤ (at_ : Int) := by omega
  have i2 : (at_ : Int) < 16 := by omega
  clear hn1 hn2 hL hBk h hBd hs
  go_enter Tryz.func59, Tryz.ntmps59
  go_wp2_with fail
  ((with_reducible refine (isPos_yes _ _ (by omega) (by omega)).mono ?_); rintro e w1 ⟨rfl, rfl⟩)
  go_wp2_with (first
    | (at_lookup; refine wpList_lookG rfl _ _ 64 rfl 81 Tryz.underlying64 _ (Tryz.zeroNode _) bn G.nk _ rfl hM root rfl (by omega) _ Q1.out ?_)
    | go_in)
  go_region_with (go_at_call 90; refine (HGET.out _ (by first | exact Below.refl _ _ | exact (Below.refl _ _).drew | exact below_drewN (Below.refl _ _) _)).mono ?_; rintro e w2 ⟨⟨ev, rfl⟩, hb2⟩)
  all_goals
    clear e1 e2 f5 hlk
    go_wp2
    go_ret
    exact ⟨by rw [← HG.out]; rfl, Below.trans (b := w.drew) (Below.refl _ _).drew hb2⟩
end Go.Proofs.YtlgahdabhnhjgaaGreatDoor

/- The document's rows: are two lists the same? -/
namespace Go.Proofs.YtlgahdabhnhjgaaGreatDoor
open Go.RowKit

instance : DecidableEq Ch := fun a b => decidable_of_iff (a.key = b.key ∧ a.val = b.val ∧ a.gone = b.gone) ⟨fun h => by obtain ⟨a1, a2, a3⟩ := a; obtain ⟨b1, b2, b3⟩ := b; simp only [] at h; rw [h.1, h.2.1, h.2.2], fun h => by rw [h]; exact ⟨rfl, rfl, rfl⟩⟩

theorem takes_eq {l r : List Ch} {k : Nat} (hk : k < l.length) (hk' : k < r.length) (h : l.take k = r.take k) (e : l[k] = r[k]) : l.take (k + 1) = r.take (k + 1) := by
  rw [List.take_succ_eq_append_getElem hk, List.take_succ_eq_append_getElem hk', h, e]
theorem takes_ne {l r : List Ch} {k : Nat} (hk : k < l.length) (hk' : k < r.length) (h : ¬ l[k] = r[k]) : decide (l = r) = false := by
  simp only [decide_eq_false_iff_not]; intro e; subst e; exact h rfl
theorem text_yes {a b : ByteArray} (h : a = b) : (a.toList == b.toList) = true := by rw [h]; simp
theorem text_no {a b : ByteArray} (h : ¬ a = b) : (a.toList == b.toList) = false := by
  rw [eq_cmp]; exact decide_eq_false (fun e => h (cmp_zero e))

set_option maxHeartbeats 4000000 in
set_option maxRecDepth 100000 in
theorem sameChs_any (w : World) (A B : Option Addr) (cA cB : Nat) (l r : List Ch) (h1 : ChsAt w A l) (h2 : ChsAt w B r) (hn : l.length ≤ 100000) :
    Calls Tryz.prog 16 #[.slice A l.length cA, .slice B r.length cB] w fun e w' => e = .returned (.bool (decide (l = r))) ∧ Below w.heap.size w w' := by
  by_cases hlen : l.length = r.length
  · have hd : ((l.length : Int) != (r.length : Int)) = false := by simp [hlen]
    have HL := Lib.hid hlen; clear hlen
    go_enter Tryz.func16, Tryz.ntmps16
    go_wp2
    go_loopw [5] (fun i w' => ∃ k : Nat, k ≤ l.length ∧ i = .int .i64 k ∧ Hid (l.take k = r.take k) ∧ Below w.heap.size w w') (fun i _ => l.length - (intOf i).toNat)
    case atStart => exact ⟨0, Nat.zero_le _, rfl, rfl, Below.refl _ _⟩
    case round =>
      obtain ⟨k, hk, rfl, HE, hb⟩ := hrel
      by_cases hlt : k < l.length
      · have hlt' : k < r.length := by have := HL.out; omega
        obtain ⟨b, off, rfl, hB, c0, c1, c2, s1, s2⟩ := (h1.below hb) k hlt
        obtain ⟨b', off', rfl, hB', c0', c1', c2', s1', s2'⟩ := (h2.below hb) k hlt'
        have EQ := Lib.hid (fun (h : l[k] = r[k]) => takes_eq hlt hlt' HE.out h)
        have NE := Lib.hid (fun (h : ¬ l[k] = r[k]) => takes_ne hlt hlt' h)
        have i1 : (k : Int) < (l.length : Int) := by omega
        generalize l[k] = x at *
        generalize r[k] = y at *
        obtain ⟨x1, x2, x3⟩ := x
        obtain ⟨y1, y2, y3⟩ := y
        simp only [] at c0 c1 c2 c0' c1' c2'
        clear s1 s2 s1' s2' hB hB'
        by_cases e1 : x1 = y1
        · subst e1
          have t1 : (x1.toList == x1.toList) = true := text_yes rfl
          by_cases e2 : x2 = y2
          · subst e2
            have t2 : (x2.toList == x2.toList) = true := text_yes rfl
            by_cases e3 : x3 = y3
            · subst e3
              have t3 : (x3 == x3) = true := by simp
              have EQ2 := Lib.hid (EQ.out rfl)
              clear EQ NE
              go_wp2
              go_quiet (fail)
              go_wp2
              go_roundw
              case rel => exact ⟨k + 1, hlt, by go_num, EQ2.out, below_drewN hb _⟩
              case measure => simp [intOf]; omega
            · have t3 : (x3 == y3) = false := by simp [e3]
              have NE2 := Lib.hid (NE.out (by simp [e3]))
              clear EQ NE e3
              go_wp2
              go_quiet (fail)
              go_wp2
              go_ret
              exact ⟨ret_bool NE2.out.symm, below_drewN hb _⟩
          · have t2 : (x2.toList == y2.toList) = false := text_no e2
            have NE2 := Lib.hid (NE.out (by simp [e2]))
            clear EQ NE e2
            go_wp2
            go_quiet (fail)
            go_wp2
            go_ret
            exact ⟨ret_bool NE2.out.symm, below_drewN hb _⟩
        · have t1 : (x1.toList == y1.toList) = false := text_no e1
          have NE2 := Lib.hid (NE.out (by simp [e1]))
          clear EQ NE e1
          go_wp2
          go_quiet (fail)
          go_wp2
          go_ret
          exact ⟨ret_bool NE2.out.symm, below_drewN hb _⟩
      · go_wp2
        go_ret
        have h1 : l.take k = l := List.take_of_length_le (by omega)
        have h2 : r.take k = r := List.take_of_length_le (by have := HL.out; omega)
        exact ⟨ret_bool (by rw [← h1, ← h2, HE.out]; simp), hb⟩
  · have hd : ((l.length : Int) != (r.length : Int)) = true := by simp; omega
    have HR := Lib.hid (show decide (l = r) = false by simp only [decide_eq_false_iff_not]; intro e; exact hlen (by rw [e]))
    clear hlen h1 h2
    go_enter Tryz.func16, Tryz.ntmps16
    go_wp2
    go_ret
    exact ⟨ret_bool HR.out.symm, Below.refl _ _⟩
end Go.Proofs.YtlgahdabhnhjgaaGreatDoor

/- index.Diff, of a vault as rows may describe it. -/
namespace Go.Proofs.YtlgahdabhnhjgaaGreatDoor
open Go.RowKit Go.Maps

def gdiffer (G : GV) (a b : Int) (i : Nat) : Bool := !((G.get a i).toList == (G.get b i).toList)
def gdiff (G : GV) (a b : Int) (n : Nat) : List Int := ((List.range n).filter (gdiffer G a b)).map fun i => ((i : Nat) : Int)
theorem gdiff_succ (G : GV) (a b : Int) (n : Nat) : gdiff G a b (n + 1) = if gdiffer G a b n = true then gdiff G a b n ++ [(n : Int)] else gdiff G a b n := by
  unfold gdiff
  rw [List.range_succ, List.filter_append]
  cases h : gdiffer G a b n <;> simp [h]
theorem gdiff_len (G : GV) (a b : Int) (n : Nat) : (gdiff G a b n).length ≤ n := by
  unfold gdiff
  have := List.length_filter_le (gdiffer G a b) (List.range n)
  simpa using this
theorem mem_gdiff (G : GV) (a b : Int) (x : Int) : x ∈ gdiff G a b 16 ↔ ∃ i : Nat, i < 16 ∧ x = (i : Int) ∧ ¬ G.get a i = G.get b i := by
  unfold gdiff
  rw [List.mem_map]
  constructor
  · rintro ⟨i, hi, rfl⟩
    obtain ⟨h1, h2⟩ := List.mem_filter.1 hi
    refine ⟨i, List.mem_range.1 h1, rfl, fun e => ?_⟩
    unfold gdiffer at h2
    rw [e] at h2
    simp at h2
  · rintro ⟨i, hi, rfl, hne⟩
    refine ⟨i, List.mem_filter.2 ⟨List.mem_range.2 hi, ?_⟩, rfl⟩
    unfold gdiffer
    rw [text_no hne]; rfl

set_option maxHeartbeats 1000000 in
set_option maxRecDepth 100000 in
theorem gidx_diff (w : World) (v x gp bp bn B : Nat) (lv : Value) (G : GV) (h : GVAt w v x gp bp bn B lv G) (hBd : G.Bd) (a b : Int) (ha : -1000000 ≤ a ∧ a ≤ 1000000) (hb : -1000000 ≤ b ∧ b ≤ 1000000) :
    Calls Tryz.prog 135 #[.pointer (some ⟨x, 0, none⟩), .int .i64 a, .int .i64 b] w (RetInts w (gdiff G a b 16)) := by
  obtain ⟨i0, hi, hz0, hz1, hz2⟩ := info_parts Tryz.infoInt
  go_enter Tryz.func135, Tryz.ntmps135
  go_wp2
  go_loopw [7, 9] (fun vv i w' => ∃ k : Nat, k ≤ 16 ∧ i = .int .i64 k ∧ OwnInts w' w.heap.size vv (gdiff G a b k) ∧ Below w.heap.size w w') (fun _ i _ => 16 - (intOf i).toNat)
  case atStart => exact ⟨0, Nat.zero_le _, rfl, World.ownsRow_nil _ _ _ _, Below.refl _ _⟩
  case round =>
    obtain ⟨k, hk, rfl, hO, hb0⟩ := hrel
    by_cases hlt : k < 16
    · obtain ⟨s, hs⟩ : ∃ s, G.get a k = s := ⟨_, rfl⟩
      obtain ⟨t, ht⟩ : ∃ t, G.get b k = t := ⟨_, rfl⟩
      have hdf : gdiffer G a b k = !(s.toList == t.toList) := by unfold gdiffer; rw [hs, ht]
      have HG1 := Lib.hid (fun w' (h' : GVAt w' v x gp bp bn B lv G) => gidx_get w' v x gp bp bn B lv G h' hBd a k ha hlt s hs)
      have HG2 := Lib.hid (fun w' (h' : GVAt w' v x gp bp bn B lv G) => gidx_get w' v x gp bp bn B lv G h' hBd b k hb hlt t ht)
      have hD := gdiff_succ G a b k
      have hlen := gdiff_len G a b k
      have h1 := h.below hb0
      have i1 : (k : Int) < 16 := by omega
      clear hs ht
      go_wp2_with fail
      ((with_reducible refine (HG1.out _ h1).mono ?_); rintro e w1 ⟨rfl, hb1⟩)
      have h2 := h1.below hb1
      have hO1 := hO.below hb1
      replace hb1 := belowThen hb0 hb1
      clear h1 hO hb0 HG1
      go_wp2_with fail
      ((with_reducible refine (HG2.out _ h2).mono ?_); rintro e w2 ⟨rfl, hb2⟩)
      have hO2 := hO1.below hb2
      replace hb2 := belowThen hb1 hb2
      have hsz := hb2.size
      clear h2 hO1 hb1 HG2
      cases hst : (s.toList == t.toList) with
      | true =>
        rw [hst] at hdf
        rw [hdf] at hD
        have HD := Lib.hid hD
        clear hD hdf
        go_wp2
        go_roundw
        case rel => exact ⟨k + 1, hlt, by go_num, by rw [HD.out]; exact hO2, hb2⟩
        case measure => simp [intOf]; omega
      | false =>
        rw [hst] at hdf
        rw [hdf] at hD
        have HD := Lib.hid hD
        clear hD hdf
        go_wp2_with (at_builtin; refine wpList_append_own _ rfl _ _ 61 rfl w.heap.size 3 i0 (.int .i64 0) 1 8 Tryz.underlying61 hi hz0 hz1 hz2 rfl (by decide) _ _ _ rfl (World.ownsRow.alloc hO2 _) ⟨w2.heap.size, 0, none⟩ 1 1 [.int .i64 (k : Int)] rfl rfl (cell_one_new _ _ _) (by simp [Value.oneCell']) (by unfold maxLen; omega) (by omega) (by simp; omega) ?_; intro v' w3 hown' hg3 hnil3)
        go_wp2
        go_roundw
        case rel => exact ⟨k + 1, hlt, by go_num, by rw [HD.out]; simp only [Bool.not_false, if_true]; unfold OwnInts; simpa using hown', (hb2.alloc hsz _).grown hg3 (by simp; omega) (fun j hj => (World.ownsRow.lt hO2 j hj).1)⟩
        case measure => simp [intOf]; omega
    · obtain rfl : k = 16 := by omega
      go_wp2
      go_ret
      exact ⟨_, rfl, hO, hb0⟩
end Go.Proofs.YtlgahdabhnhjgaaGreatDoor

/- slices.IndexFunc and ContainsFunc at []int, with image's two function literals. -/
namespace Go.Proofs.YtlgahdabhnhjgaaGreatDoor
open Go.RowKit Go.Maps

theorem litWithin_any (w : World) (q : Nat) (n m : Int) (h : w.cell? ⟨q, 0, none⟩ = some (.int .i64 m)) :
    Calls Tryz.prog 114 #[.int .i64 n, .pointer (some ⟨q, 0, none⟩)] w fun e w' => e = .returned (.bool (!decide (1 ≤ n ∧ n ≤ m))) ∧ Below w.heap.size w w' := by
  have HW := Lib.hid (fun w' (hb : Below w.heap.size w w') => within_any w' n m)
  generalize decide (1 ≤ n ∧ n ≤ m) = r at HW ⊢
  go_enter Tryz.func114, Tryz.ntmps114
  go_wp2_with fail
  ((with_reducible refine (HW.out _ (Below.refl _ _)).mono ?_); rintro e w2 ⟨rfl, hb2⟩)
  go_wp2
  go_ret
  exact ⟨by cases r <;> rfl, hb2⟩
theorem litLonger_any (w : World) (q : Nat) (n m : Int) (h : w.cell? ⟨q, 2, none⟩ = some (.int .i64 m)) :
    Calls Tryz.prog 136 #[.int .i64 n, .pointer (some ⟨q, 0, none⟩)] w fun e w' => e = .returned (.bool (decide (m ≤ n))) ∧ Below w.heap.size w w' := by
  go_enter Tryz.func136, Tryz.ntmps136
  go_wp2
  go_ret
  exact ⟨by first | rfl | simp, Below.refl _ _⟩
def IdxR (L : List Int) (p : Int → Bool) (j : Int) : Prop := -1 ≤ j ∧ j ≤ L.length ∧ decide (0 ≤ j) = L.any p
theorem any_hit {L : List Int} {p : Int → Bool} {k : Nat} (hk : k < L.length) (h : p L[k] = true) : IdxR L p (k : Int) :=
  ⟨by omega, by omega, by rw [List.any_eq_true.2 ⟨_, List.getElem_mem hk, h⟩]; simp⟩
theorem any_miss {L : List Int} {p : Int → Bool} (h : ∀ j, (hj : j < L.length) → p L[j] = false) : IdxR L p (-1) :=
  ⟨by omega, by omega, by
    have : L.any p = false := by
      rw [List.any_eq_false]
      intro x hx
      obtain ⟨j, hj, rfl⟩ := List.getElem_of_mem hx
      simp [h j hj]
    rw [this]; rfl⟩

set_option maxHeartbeats 1000000 in
set_option maxRecDepth 100000 in
theorem indexW_any (w : World) (A : Option Addr) (cap : Nat) (L : List Int) (q : Nat) (m : Int) (hI : IntsAt w A L) (hl : L.length ≤ 1000) (h : w.cell? ⟨q, 0, none⟩ = some (.int .i64 m)) :
    Calls Tryz.prog 137 #[.slice A L.length cap, .func (.func 114) #[] #[.pointer (some ⟨q, 0, none⟩)]] w fun e w' => (∃ j, e = .returned (.int .i64 j) ∧ IdxR L (fun n => !decide (1 ≤ n ∧ n ≤ m)) j) ∧ Below w.heap.size w w' := by
  have hq := World.block_lt_of_cell? w _ h
  simp only at hq
  obtain ⟨p, hp⟩ : ∃ p : Int → Bool, (fun n => !decide (1 ≤ n ∧ n ≤ m)) = p := ⟨_, rfl⟩
  rw [hp]
  have HQ := Lib.hid (fun w' (hb : Below w.heap.size w w') n => by
    have hh := litWithin_any w' q n m ((hb.cell (p := ⟨q, 0, none⟩) hq).trans h)
    rw [show (!decide (1 ≤ n ∧ n ≤ m)) = p n from congrFun hp n] at hh
    exact hh)
  have HI := Lib.hid hI
  clear hp h hI hq
  go_enter Tryz.func137, Tryz.ntmps137
  go_wp2_with fail
  go_loopw [8] (fun i w' => ∃ k : Nat, k ≤ L.length ∧ i = .int .i64 k ∧ Hid (∀ j, (hj : j < L.length) → j < k → p L[j] = false) ∧ Below w.heap.size w w') (fun i _ => L.length - (intOf i).toNat)
  case atStart => exact ⟨0, Nat.zero_le _, rfl, fun j _ hj => by omega, Below.refl _ _⟩
  case round =>
    obtain ⟨k, hk, rfl, HF, hb⟩ := hrel
    have hsz := hb.size
    by_cases hlt : k < L.length
    · obtain ⟨g, off, rfl, d0'⟩ := HI.out k hlt
      have hg0 := World.block_lt_of_cell? w _ d0'
      have d0 := (hb.cell (p := _) hg0).trans d0'
      have i1 : (k : Int) < (L.length : Int) := by omega
      have HY := Lib.hid (show L[k] = L[k] from rfl)
      obtain ⟨y, hy⟩ : ∃ y, L[k] = y := ⟨_, rfl⟩
      rw [hy] at d0
      have HQ1 := Lib.hid (HQ.out wr hb y)
      clear d0' hg0
      cases hpy : p y with
      | true =>
        have HR := Lib.hid (any_hit (p := p) hlt (by rw [hy]; exact hpy))
        rw [hpy] at HQ1
        clear hy hpy
        go_wp2_with fail
        ((with_reducible refine HQ1.out.mono ?_); rintro e w1 ⟨rfl, hb1⟩)
        go_wp2
        go_ret
        exact ⟨⟨_, rfl, HR.out⟩, belowThen hb hb1⟩
      | false =>
        have HR := Lib.hid (show p L[k] = false by rw [hy]; exact hpy)
        rw [hpy] at HQ1
        clear hy hpy
        go_wp2_with fail
        ((with_reducible refine HQ1.out.mono ?_); rintro e w1 ⟨rfl, hb1⟩)
        go_wp2
        go_roundw
        case rel => exact ⟨k + 1, hlt, by go_num, fun j hj hjk => by
          by_cases e : j = k
          · subst e; exact HR.out
          · exact HF.out j hj (by omega), belowThen hb hb1⟩
        case measure => simp [intOf]; omega
    · obtain rfl : k = L.length := by omega
      have HR := Lib.hid (any_miss (L := L) (p := p) fun j hj => HF.out j hj hj)
      go_wp2
      go_ret
      exact ⟨⟨_, rfl, HR.out⟩, hb⟩
set_option maxRecDepth 100000 in
theorem containsW_any (w : World) (A : Option Addr) (cap : Nat) (L : List Int) (q : Nat) (m : Int) (hI : IntsAt w A L) (hl : L.length ≤ 1000) (h : w.cell? ⟨q, 0, none⟩ = some (.int .i64 m)) :
    Calls Tryz.prog 113 #[.slice A L.length cap, .func (.func 114) #[] #[.pointer (some ⟨q, 0, none⟩)]] w fun e w' => e = .returned (.bool (L.any fun n => !decide (1 ≤ n ∧ n ≤ m))) ∧ Below w.heap.size w w' := by
  have HQ := Lib.hid (indexW_any w A cap L q m hI hl h)
  obtain ⟨p, hp⟩ : ∃ p : Int → Bool, (fun n => !decide (1 ≤ n ∧ n ≤ m)) = p := ⟨_, rfl⟩
  rw [hp] at HQ ⊢
  obtain ⟨r, hr⟩ : ∃ r, L.any p = r := ⟨_, rfl⟩
  unfold IdxR at HQ
  rw [hr] at HQ ⊢
  clear hI h hp hr
  go_enter Tryz.func113, Tryz.ntmps113
  go_wp2_with fail
  ((with_reducible refine HQ.out.mono ?_); rintro e w2 ⟨⟨j, rfl, hj1, hj2, hj3⟩, hb2⟩)
  have HJ := Lib.hid hj3
  clear HQ hj3
  by_cases h0 : 0 ≤ j
  · have d1 : decide (0 ≤ j) = true := by simpa using h0
    have e1 := HJ.out
    rw [d1] at e1
    subst e1
    go_wp2
    go_ret
    exact ⟨by first | rfl | simp [h0], hb2⟩
  · have d1 : decide (0 ≤ j) = false := by simpa using h0
    have e1 := HJ.out
    rw [d1] at e1
    subst e1
    go_wp2
    go_ret
    exact ⟨by first | rfl | simp [h0], hb2⟩

set_option maxHeartbeats 1000000 in
set_option maxRecDepth 100000 in
theorem indexL_any (w : World) (A : Option Addr) (cap : Nat) (L : List Int) (q : Nat) (m : Int) (hI : IntsAt w A L) (hl : L.length ≤ 1000) (h : w.cell? ⟨q, 2, none⟩ = some (.int .i64 m)) :
    Calls Tryz.prog 137 #[.slice A L.length cap, .func (.func 136) #[] #[.pointer (some ⟨q, 0, none⟩)]] w fun e w' => (∃ j, e = .returned (.int .i64 j) ∧ IdxR L (fun n => decide (m ≤ n)) j) ∧ Below w.heap.size w w' := by
  have hq := World.block_lt_of_cell? w _ h
  simp only at hq
  obtain ⟨p, hp⟩ : ∃ p : Int → Bool, (fun n => decide (m ≤ n)) = p := ⟨_, rfl⟩
  rw [hp]
  have HQ := Lib.hid (fun w' (hb : Below w.heap.size w w') n => by
    have hh := litLonger_any w' q n m ((hb.cell (p := ⟨q, 2, none⟩) hq).trans h)
    rw [show (decide (m ≤ n)) = p n from congrFun hp n] at hh
    exact hh)
  have HI := Lib.hid hI
  clear hp h hI hq
  go_enter Tryz.func137, Tryz.ntmps137
  go_wp2_with fail
  go_loopw [8] (fun i w' => ∃ k : Nat, k ≤ L.length ∧ i = .int .i64 k ∧ Hid (∀ j, (hj : j < L.length) → j < k → p L[j] = false) ∧ Below w.heap.size w w') (fun i _ => L.length - (intOf i).toNat)
  case atStart => exact ⟨0, Nat.zero_le _, rfl, fun j _ hj => by omega, Below.refl _ _⟩
  case round =>
    obtain ⟨k, hk, rfl, HF, hb⟩ := hrel
    have hsz := hb.size
    by_cases hlt : k < L.length
    · obtain ⟨g, off, rfl, d0'⟩ := HI.out k hlt
      have hg0 := World.block_lt_of_cell? w _ d0'
      have d0 := (hb.cell (p := _) hg0).trans d0'
      have i1 : (k : Int) < (L.length : Int) := by omega
      have HY := Lib.hid (show L[k] = L[k] from rfl)
      obtain ⟨y, hy⟩ : ∃ y, L[k] = y := ⟨_, rfl⟩
      rw [hy] at d0
      have HQ1 := Lib.hid (HQ.out wr hb y)
      clear d0' hg0
      cases hpy : p y with
      | true =>
        have HR := Lib.hid (any_hit (p := p) hlt (by rw [hy]; exact hpy))
        rw [hpy] at HQ1
        clear hy hpy
        go_wp2_with fail
        ((with_reducible refine HQ1.out.mono ?_); rintro e w1 ⟨rfl, hb1⟩)
        go_wp2
        go_ret
        exact ⟨⟨_, rfl, HR.out⟩, belowThen hb hb1⟩
      | false =>
        have HR := Lib.hid (show p L[k] = false by rw [hy]; exact hpy)
        rw [hpy] at HQ1
        clear hy hpy
        go_wp2_with fail
        ((with_reducible refine HQ1.out.mono ?_); rintro e w1 ⟨rfl, hb1⟩)
        go_wp2
        go_roundw
        case rel => exact ⟨k + 1, hlt, by go_num, fun j hj hjk => by
          by_cases e : j = k
          · subst e; exact HR.out
          · exact HF.out j hj (by omega), belowThen hb hb1⟩
        case measure => simp [intOf]; omega
    · obtain rfl : k = L.length := by omega
      have HR := Lib.hid (any_miss (L := L) (p := p) fun j hj => HF.out j hj hj)
      go_wp2
      go_ret
      exact ⟨⟨_, rfl, HR.out⟩, hb⟩
set_option maxRecDepth 100000 in
theorem containsL_any (w : World) (A : Option Addr) (cap : Nat) (L : List Int) (q : Nat) (m : Int) (hI : IntsAt w A L) (hl : L.length ≤ 1000) (h : w.cell? ⟨q, 2, none⟩ = some (.int .i64 m)) :
    Calls Tryz.prog 113 #[.slice A L.length cap, .func (.func 136) #[] #[.pointer (some ⟨q, 0, none⟩)]] w fun e w' => e = .returned (.bool (L.any fun n => decide (m ≤ n))) ∧ Below w.heap.size w w' := by
  have HQ := Lib.hid (indexL_any w A cap L q m hI hl h)
  obtain ⟨p, hp⟩ : ∃ p : Int → Bool, (fun n => decide (m ≤ n)) = p := ⟨_, rfl⟩
  rw [hp] at HQ ⊢
  obtain ⟨r, hr⟩ : ∃ r, L.any p = r := ⟨_, rfl⟩
  unfold IdxR at HQ
  rw [hr] at HQ ⊢
  clear hI h hp hr
  go_enter Tryz.func113, Tryz.ntmps113
  go_wp2_with fail
  ((with_reducible refine HQ.out.mono ?_); rintro e w2 ⟨⟨j, rfl, hj1, hj2, hj3⟩, hb2⟩)
  have HJ := Lib.hid hj3
  clear HQ hj3
  by_cases h0 : 0 ≤ j
  · have d1 : decide (0 ≤ j) = true := by simpa using h0
    have e1 := HJ.out
    rw [d1] at e1
    subst e1
    go_wp2
    go_ret
    exact ⟨by first | rfl | simp [h0], hb2⟩
  · have d1 : decide (0 ≤ j) = false := by simpa using h0
    have e1 := HJ.out
    rw [d1] at e1
    subst e1
    go_wp2
    go_ret
    exact ⟨by first | rfl | simp [h0], hb2⟩

end Go.Proofs.YtlgahdabhnhjgaaGreatDoor

/- image.allWithin, image.isLonger. -/
namespace Go.Proofs.YtlgahdabhnhjgaaGreatDoor
open Go.RowKit Go.Maps

set_option maxRecDepth 100000 in
theorem allWithin_any (w : World) (base : Nat) (v : Value) (L : List Int) (m : Int) (h : OwnInts w base v L) (hl : L.length ≤ 1000) :
    Calls Tryz.prog 80 #[v, .int .i64 m] w fun e w' => RetB (∀ x ∈ L, 1 ≤ x ∧ x ≤ m) e ∧ Below w.heap.size w w' := by
  obtain ⟨A, c, rfl, hI, _⟩ := h.at_
  have hb1 := (Below.refl w.heap.size w).alloc (Nat.le_refl _) (.cells #[.int .i64 m] 3)
  have hI1 : IntsAt (w.alloc (.cells #[.int .i64 m] 3)) A L := fun i hi => by
    obtain ⟨g, off, e, hc⟩ := hI i hi
    exact ⟨g, off, e, Lib.cell?_alloc_some _ hc⟩
  have hc1 : (w.alloc (.cells #[.int .i64 m] 3)).cell? ⟨w.heap.size, 0, none⟩ = some (.int .i64 m) := cell_of_row _ _ _ _ _ _ (heap_alloc_new _ _)
  have hq := containsW_any _ A c L w.heap.size m hI1 hl hc1
  obtain ⟨r, hr⟩ : ∃ r, (L.any fun n => !decide (1 ≤ n ∧ n ≤ m)) = r := ⟨_, rfl⟩
  rw [hr] at hq
  have HQ := Lib.hid hq
  have HP := Lib.hid (show (!r) = true ↔ ∀ x ∈ L, 1 ≤ x ∧ x ≤ m by
    rw [← hr]; simp)
  clear hq hr hI hI1 hc1 h
  obtain ⟨P, hP⟩ : ∃ P : Prop, (∀ x ∈ L, 1 ≤ x ∧ x ≤ m) = P := ⟨_, rfl⟩
  rw [hP] at HP ⊢
  clear hP
  go_enter Tryz.func80, Tryz.ntmps80
  go_wp2_with fail
  ((with_reducible refine HQ.out.mono ?_); rintro e w2 ⟨rfl, hb2⟩)
  go_wp2
  go_ret
  exact ⟨⟨!r, rfl, HP.out⟩, belowThen hb1 hb2⟩

set_option maxRecDepth 100000 in
theorem isLonger_any (w : World) (v x gp bp bn B : Nat) (lv : Value) (G : GV) (h : GVAt w v x gp bp bn B lv G) (hBd : G.Bd) (p : GP) (hp : -1000000 ≤ p.root ∧ p.root ≤ 1000000) :
    Calls Tryz.prog 105 #[.pointer (some ⟨v, 0, none⟩), .agg #[.int .i64 p.id, .int .i64 p.disk, .int .i64 p.size, .int .i64 p.root]] w fun e w' => RetB (∃ i : Nat, i < 16 ∧ p.size ≤ i ∧ ¬ G.get p.root i = G.get 0 i) e ∧ Below w.heap.size w w' := by
  have hb1 := (Below.refl w.heap.size w).alloc (Nat.le_refl _) (.cells #[.int .i64 p.id, .int .i64 p.disk, .int .i64 p.size, .int .i64 p.root] 60)
  have c0 := (h.below hb1).c0
  have hs1 : (w.alloc (.cells #[.int .i64 p.id, .int .i64 p.disk, .int .i64 p.size, .int .i64 p.root] 60)).heap.size = w.heap.size + 1 := by simp
  have e1 := heap_alloc_new w (.cells #[.int .i64 p.id, .int .i64 p.disk, .int .i64 p.size, .int .i64 p.root] 60)
  have HL := Lib.hid (gdiff_len G 0 p.root 16)
  have HP := Lib.hid (show ((gdiff G 0 p.root 16).any fun n => decide (p.size ≤ n)) = true ↔ ∃ i : Nat, i < 16 ∧ p.size ≤ i ∧ ¬ G.get p.root i = G.get 0 i by
    rw [List.any_eq_true]
    constructor
    · rintro ⟨n, hn, hd⟩
      obtain ⟨i, hi, rfl, hne⟩ := (mem_gdiff _ _ _ _).1 hn
      exact ⟨i, hi, by simpa using hd, fun e => hne e.symm⟩
    · rintro ⟨i, hi, hd, hne⟩
      exact ⟨i, (mem_gdiff _ _ _ _).2 ⟨i, hi, rfl, fun e => hne e.symm⟩, by simpa using hd⟩)
  have hd0 := fun w' (hw : GVAt w' v x gp bp bn B lv G) => gidx_diff w' v x gp bp bn B lv G hw hBd 0 p.root (by omega) hp
  obtain ⟨P, hP⟩ : ∃ P : Prop, (∃ i : Nat, i < 16 ∧ p.size ≤ i ∧ ¬ G.get p.root i = G.get 0 i) = P := ⟨_, rfl⟩
  obtain ⟨D, hD⟩ : ∃ D, gdiff G 0 p.root 16 = D := ⟨_, rfl⟩
  rw [hP] at HP ⊢
  rw [hD] at HP HL hd0
  obtain ⟨r, hr⟩ : ∃ r, (D.any fun n => decide (p.size ≤ n)) = r := ⟨_, rfl⟩
  rw [hr] at HP
  generalize hW : w.alloc (.cells #[.int .i64 p.id, .int .i64 p.disk, .int .i64 p.size, .int .i64 p.root] 60) = W at *
  have hr1 := e1
  have HKS := Lib.hid (fun w' (hb : Below W.heap.size W w') => show w'.cell? ⟨v, 0, none⟩ = some (.pointer (some ⟨x, 0, none⟩)) ∧ w'.cell? ⟨w.heap.size, 3, none⟩ = some (.int .i64 p.root) from
    ⟨((h.below hb1).below hb).c0, cell_of_row _ _ _ _ _ _ ((hb.block _ (by rw [hs1]; omega)).trans e1)⟩)
  have HD := Lib.hid (fun w' (hb : Below W.heap.size W w') => (hd0 w' ((h.below hb1).below hb)).mono fun e w'' he => show ∃ A c, e = .returned (.slice A D.length c) ∧ IntsAt w'' A D ∧ Below w'.heap.size w' w'' from by
    obtain ⟨u, rfl, hO, hb2⟩ := he
    obtain ⟨A, c, rfl, hI, _⟩ := hO.at_
    exact ⟨A, c, rfl, hI, hb2⟩)
  have HQ := Lib.hid (fun w' A c (hI : IntsAt w' A D) (hb : Below W.heap.size W w') => by
    have hq := containsL_any w' A c D w.heap.size p.size hI (by have := HL.out; omega) (cell_of_row _ _ _ _ _ _ ((hb.block _ (by rw [hs1]; omega)).trans e1))
    rw [hr] at hq
    exact hq)
  have hS0 := HKS.out W (Below.refl _ _)
  clear hd0 hP hD hr h c0 e1 hr1
  go_enter Tryz.func105, Tryz.ntmps105
  go_wp2_with fail
  go_region_held3 (fun w' => w'.cell? ⟨v, 0, none⟩ = some (.pointer (some ⟨x, 0, none⟩)) ∧ w'.cell? ⟨w.heap.size, 3, none⟩ = some (.int .i64 p.root)) (first | with_reducible exact hS0 | with_reducible exact HKS.out _ (by (repeat (first | with_reducible exact Below.refl _ _ | with_reducible refine Below.drew ?_ | with_reducible refine belowThen ?_ hb8 | with_reducible refine belowThen ?_ hb7)); (first | done | fail)))
    (first
      | (go_at_call 135; with_reducible refine (HD.out _ (by (repeat (first | with_reducible exact Below.refl _ _ | with_reducible refine Below.drew ?_ | with_reducible refine belowThen ?_ hb8 | with_reducible refine belowThen ?_ hb7)); (first | done | fail))).mono ?_; rintro e w7 ⟨A7, c7, rfl, hI7, hb7⟩)
      | (go_at_call 113; with_reducible refine (HQ.out _ A7 c7 (by first | with_reducible exact hI7 | exact hI7) (by (repeat (first | with_reducible exact Below.refl _ _ | with_reducible refine Below.drew ?_ | with_reducible refine belowThen ?_ hb8 | with_reducible refine belowThen ?_ hb7)); (first | done | fail))).mono ?_; rintro e w8 ⟨rfl, hb8⟩)
      | fail)
  all_goals
    go_wp2
    go_ret
    exact ⟨⟨r, rfl, HP.out⟩, belowThen hb1 (by (repeat (first | with_reducible exact Below.refl _ _ | with_reducible refine Below.drew ?_ | with_reducible refine belowThen ?_ hb8 | with_reducible refine belowThen ?_ hb7)); (first | done | fail))⟩
end Go.Proofs.YtlgahdabhnhjgaaGreatDoor

/- The function literal of image.arePoints. -/
namespace Go.Proofs.YtlgahdabhnhjgaaGreatDoor
open Go.RowKit Go.Maps

theorem RetB.yes {P : Prop} (h : P) {e : Ending} (he : RetB P e) : e = .returned (.bool true) := by
  obtain ⟨r, rfl, hr⟩ := he
  rw [hr.2 h]
theorem RetB.no {P : Prop} (h : ¬ P) {e : Ending} (he : RetB P e) : e = .returned (.bool false) := by
  obtain ⟨r, rfl, hr⟩ := he
  cases r with
  | false => rfl
  | true => exact absurd (hr.1 rfl) h

set_option maxHeartbeats 2000000 in
set_option maxRecDepth 100000 in
theorem ptLit_any (w : World) (v x gp bp bn B : Nat) (lv : Value) (G : GV) (h : GVAt w v x gp bp bn B lv G) (hBd : G.Bd) (hnx : 1 ≤ G.next ∧ G.next ≤ 1000) (q : Nat) (hq : w.cell? ⟨q, 0, none⟩ = some (.pointer (some ⟨v, 0, none⟩))) (p : GP) (hp : (-999 ≤ p.id ∧ p.id ≤ 999) ∧ (-999 ≤ p.disk ∧ p.disk ≤ 999) ∧ (-999 ≤ p.size ∧ p.size ≤ 999) ∧ (-999 ≤ p.root ∧ p.root ≤ 999)) :
    Calls Tryz.prog 104 #[.agg #[.int .i64 p.id, .int .i64 p.disk, .int .i64 p.size, .int .i64 p.root], .pointer (some ⟨q, 0, none⟩)] w fun e w' => RetB (¬ PtOk G p) e ∧ Below w.heap.size w w' := by
  have hq0 := World.block_lt_of_cell? w _ hq
  simp only at hq0
  have hb1 := (Below.refl w.heap.size w).alloc (Nat.le_refl _) (.cells #[.int .i64 p.id, .int .i64 p.disk, .int .i64 p.size, .int .i64 p.root] 60)
  have e1 := heap_alloc_new w (.cells #[.int .i64 p.id, .int .i64 p.disk, .int .i64 p.size, .int .i64 p.root] 60)
  have hs1 : (w.alloc (.cells #[.int .i64 p.id, .int .i64 p.disk, .int .i64 p.size, .int .i64 p.root] 60)).heap.size = w.heap.size + 1 := by simp
  obtain ⟨W, hW⟩ : ∃ W, w.alloc (.cells #[.int .i64 p.id, .int .i64 p.disk, .int .i64 p.size, .int .i64 p.root] 60) = W := ⟨_, rfl⟩
  rw [hW] at hb1 e1 hs1
  have hrow := fun (o : Gr W) => (o.ok.block w.heap.size (by rw [hs1]; omega)).trans e1
  have f0 := fun (o : Gr W) => cell_of_row o.val w.heap.size 0 _ _ _ (hrow o)
  have f1 := fun (o : Gr W) => cell_of_row o.val w.heap.size 1 _ _ _ (hrow o)
  have f2 := fun (o : Gr W) => cell_of_row o.val w.heap.size 2 _ _ _ (hrow o)
  have f3 := fun (o : Gr W) => cell_of_row o.val w.heap.size 3 _ _ _ (hrow o)
  have f4 := fun (o : Gr W) => show o.val.cell? ⟨q, 0, none⟩ = some (.pointer (some ⟨v, 0, none⟩)) from ((belowThen hb1 o.ok).cell (p := ⟨q, 0, none⟩) hq0).trans hq
  have f5 := fun (o : Gr W) => (h.below (belowThen hb1 o.ok)).c2
  have hwr : IntKind.i64.wrap (G.next - 1) = G.next - 1 := IntWalk.i64_in _ (by omega)
  have hwi := fun (o : Gr W) => within_any o.val p.id (G.next - 1)
  have hws := fun (o : Gr W) => within_any o.val p.size 16
  have hlo := fun (o : Gr W) => isLonger_any o.val v x gp bp bn B lv G (h.below (belowThen hb1 o.ok)) hBd p (by omega)
  have HP := Lib.hid (show (¬ PtOk G p) ↔ ¬ ((1 ≤ p.id ∧ p.id ≤ G.next - 1) ∧ 1 ≤ p.disk ∧ (1 ≤ p.size ∧ p.size ≤ 16) ∧ ¬ ∃ i : Nat, i < 16 ∧ p.size ≤ i ∧ ¬ G.get p.root i = G.get 0 i) by
    rw [not_congr]
    constructor
    · intro k
      exact ⟨k.id, k.disk, k.size, fun ⟨i, hi, h1, h2⟩ => h2 (k.short i hi h1)⟩
    · rintro ⟨h1, h2, h3, h4⟩
      exact ⟨h1, h2, h3, fun i hi hs => Classical.byContradiction fun hne => h4 ⟨i, hi, hs, hne⟩⟩)
  clear hrow e1 hs1 h hq hq0
  by_cases hA : 1 ≤ p.id ∧ p.id ≤ G.next - 1
  · have d1 : decide (1 ≤ p.id ∧ p.id ≤ G.next - 1) = true := by simpa using hA
    rw [d1] at hwi
    clear d1
    by_cases hB : p.disk < 1
    · have d2 : decide (p.disk < 1) = true := by simpa using hB
      have HX := Lib.hid (show ¬ PtOk G p by rw [HP.out]; intro k; omega)
      clear hws hlo HP hA hB
      have HI := Lib.hid hwi
      clear hwi
      go_enter Tryz.func104, Tryz.ntmps104
      go_wp2_with fail
      refine wp_region_grow (by kernel_rfl) (by kernel_rfl) ?_
      repeat (go_big_quiet_step (first | with_reducible exact Calls.grow _ (HI.out _)))
      refine wpQuiet_nil ?_
      intro wy hw'
      have HB2 := Lib.hid (show Below w.heap.size w wy from by obtain ⟨o9, h9⟩ := hw'; rw [h9]; exact belowThen hb1 o9.ok)
      clear hw' f0 f1 f2 f3 f4 f5
      go_wp2
      go_ret
      exact ⟨⟨true, rfl, by simpa using HX.out⟩, HB2.out⟩
    · have d2 : decide (p.disk < 1) = false := by simpa using hB
      by_cases hC : 1 ≤ p.size ∧ p.size ≤ 16
      · have d3 : decide (1 ≤ p.size ∧ p.size ≤ 16) = true := by simpa using hC
        rw [d3] at hws
        clear d3
        by_cases hD : ∃ i : Nat, i < 16 ∧ p.size ≤ i ∧ ¬ G.get p.root i = G.get 0 i
        · have HL := Lib.hid (fun (o : Gr W) => (hlo o).mono fun e w' he => show e = .returned (.bool true) ∧ Below o.val.heap.size o.val w' from ⟨he.1.yes hD, he.2⟩)
          have HX := Lib.hid (show ¬ PtOk G p by rw [HP.out]; exact fun k => k.2.2.2 hD)
          clear hlo HP hA hB hC hD
          have HI := Lib.hid hwi
          have HS := Lib.hid hws
          clear hwi hws
          go_enter Tryz.func104, Tryz.ntmps104
          go_wp2_with fail
          refine wp_region_grow (by kernel_rfl) (by kernel_rfl) ?_
          repeat (go_big_quiet_step (first | with_reducible exact Calls.grow _ (HI.out _) | with_reducible exact Calls.grow _ (HS.out _) | with_reducible exact Calls.grow _ (HL.out _)))
          refine wpQuiet_nil ?_
          intro wy hw'
          have HB2 := Lib.hid (show Below w.heap.size w wy from by obtain ⟨o9, h9⟩ := hw'; rw [h9]; exact belowThen hb1 o9.ok)
          clear hw' f0 f1 f2 f3 f4 f5
          go_wp2
          go_ret
          exact ⟨⟨true, rfl, by simpa using HX.out⟩, HB2.out⟩
        · have HL := Lib.hid (fun (o : Gr W) => (hlo o).mono fun e w' he => show e = .returned (.bool false) ∧ Below o.val.heap.size o.val w' from ⟨he.1.no hD, he.2⟩)
          have HX := Lib.hid (show ¬ ¬ PtOk G p by rw [HP.out]; exact fun k => k ⟨hA, by omega, hC, hD⟩)
          clear hlo HP hA hB hC hD
          have HI := Lib.hid hwi
          have HS := Lib.hid hws
          clear hwi hws
          go_enter Tryz.func104, Tryz.ntmps104
          go_wp2_with fail
          refine wp_region_grow (by kernel_rfl) (by kernel_rfl) ?_
          repeat (go_big_quiet_step (first | with_reducible exact Calls.grow _ (HI.out _) | with_reducible exact Calls.grow _ (HS.out _) | with_reducible exact Calls.grow _ (HL.out _)))
          refine wpQuiet_nil ?_
          intro wy hw'
          have HB2 := Lib.hid (show Below w.heap.size w wy from by obtain ⟨o9, h9⟩ := hw'; rw [h9]; exact belowThen hb1 o9.ok)
          clear hw' f0 f1 f2 f3 f4 f5
          go_wp2
          go_ret
          exact ⟨⟨false, rfl, by simpa using HX.out⟩, HB2.out⟩
      · have d3 : decide (1 ≤ p.size ∧ p.size ≤ 16) = false := by simpa using hC
        rw [d3] at hws
        clear d3
        have HX := Lib.hid (show ¬ PtOk G p by rw [HP.out]; exact fun k => hC k.2.2.1)
        clear hlo HP hA hB hC
        have HI := Lib.hid hwi
        have HS := Lib.hid hws
        clear hwi hws
        go_enter Tryz.func104, Tryz.ntmps104
        go_wp2_with fail
        refine wp_region_grow (by kernel_rfl) (by kernel_rfl) ?_
        repeat (go_big_quiet_step (first | with_reducible exact Calls.grow _ (HI.out _) | with_reducible exact Calls.grow _ (HS.out _)))
        refine wpQuiet_nil ?_
        intro wy hw'
        have HB2 := Lib.hid (show Below w.heap.size w wy from by obtain ⟨o9, h9⟩ := hw'; rw [h9]; exact belowThen hb1 o9.ok)
        clear hw' f0 f1 f2 f3 f4 f5
        go_wp2
        go_ret
        exact ⟨⟨true, rfl, by simpa using HX.out⟩, HB2.out⟩
  · have d1 : decide (1 ≤ p.id ∧ p.id ≤ G.next - 1) = false := by simpa using hA
    rw [d1] at hwi
    clear d1
    have HX := Lib.hid (show ¬ PtOk G p by rw [HP.out]; exact fun k => hA k.1)
    clear hws hlo HP hA
    have HI := Lib.hid hwi
    clear hwi
    go_enter Tryz.func104, Tryz.ntmps104
    go_wp2_with fail
    refine wp_region_grow (by kernel_rfl) (by kernel_rfl) ?_
    repeat (go_big_quiet_step (first | with_reducible exact Calls.grow _ (HI.out _)))
    refine wpQuiet_nil ?_
    intro wy hw'
    have HB2 := Lib.hid (show Below w.heap.size w wy from by obtain ⟨o9, h9⟩ := hw'; rw [h9]; exact belowThen hb1 o9.ok)
    clear hw' f0 f1 f2 f3 f4 f5
    go_wp2
    go_ret
    exact ⟨⟨true, rfl, by simpa using HX.out⟩, HB2.out⟩
end Go.Proofs.YtlgahdabhnhjgaaGreatDoor
