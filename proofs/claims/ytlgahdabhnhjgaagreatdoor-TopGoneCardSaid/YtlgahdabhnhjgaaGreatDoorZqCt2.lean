/- image.kids: how often some nodes refer to each number. -/
import Derived.Test.YtlgahdabhnhjgaaGreatDoorZqGv
/- image.count, image.kids: counts in memory. -/
namespace Go.Proofs.YtlgahdabhnhjgaaGreatDoor
open Go.RowKit Go.Maps

def cntV (c : Int → Nat) : Int → Option Value := fun m => if c m = 0 then none else some (.int .i64 (c m : Int))
/-- Block b is a map of counts, none more than K, of at most K keys. -/
def CntAt (w : World) (b K : Nat) (c : Int → Nat) : Prop := ∃ ks, MapG w b ks (cntV c) ∧ ks.length ≤ K ∧ ∀ m, c m ≤ K
def cAdd (c : Int → Nat) (l : List Int) : Int → Nat := fun m => c m + if m = 0 then 0 else l.count m
theorem CntAt.lt {w : World} {b K : Nat} {c : Int → Nat} (h : CntAt w b K c) : b < w.heap.size := by
  obtain ⟨ks, h, _⟩ := h
  exact h.lt
theorem CntAt.ismap {w : World} {b K : Nat} {c : Int → Nat} (h : CntAt w b K c) : ∃ es c, w.heap[b]? = some (.map es c) := by
  obtain ⟨ks, h, _⟩ := h
  exact h.ismap
theorem CntAt.mono {w : World} {b K K' : Nat} {c : Int → Nat} (h : CntAt w b K c) (hk : K ≤ K') : CntAt w b K' c := by
  obtain ⟨ks, h1, h2, h3⟩ := h
  exact ⟨ks, h1, by omega, fun m => Nat.le_trans (h3 m) hk⟩
theorem CntAt.below {w w' : World} {b K : Nat} {c : Int → Nat} (h : CntAt w b K c) (hb : Below w.heap.size w w') : CntAt w' b K c := by
  obtain ⟨ks, h1, h2⟩ := h
  exact ⟨ks, h1.below hb, h2⟩
theorem CntAt.turn {w w' : World} {b K : Nat} {c : Int → Nat} {bs : List Nat} (h : CntAt w b K c) (ht : Turn bs w w') (hb : b ∉ bs) : CntAt w' b K c := by
  obtain ⟨ks, h1, h2⟩ := h
  exact ⟨ks, h1.turn ht hb, h2⟩
theorem CntAt.congr {w : World} {b K : Nat} {c d : Int → Nat} (h : CntAt w b K c) (e : ∀ m, c m = d m) : CntAt w b K d := by
  have : c = d := funext e
  rw [← this]; exact h
theorem cntV_get (c : Int → Nat) (x : Int) : (cntV c x).getD (.int .i64 0) = .int .i64 (c x : Int) := by
  unfold cntV
  split
  · rename_i h; rw [h]; rfl
  · rfl
theorem cntV_put (c : Int → Nat) (x : Int) (n : Nat) (hn : n ≠ 0) : putAt (cntV c) x (.int .i64 (n : Int)) = cntV (fun m => if m = x then n else c m) := by
  funext m
  unfold putAt cntV
  by_cases h : m = x
  · simp [h, hn]
  · simp [h]
theorem CntAt.made (w : World) : CntAt (w.alloc (.map #[] 0)) w.heap.size 0 (fun _ => 0) := ⟨[], by
  have := MapG.made w
  exact this, by simp, fun _ => Nat.le_refl _⟩
theorem Tryz.zeroInt (w : World) : (zeroValue 3).run Tryz.prog w = .ok (.int .i64 0) w := by kernel_rfl
theorem cAdd_take {c : Int → Nat} {l : List Int} {k : Nat} (hk : k < l.length) (m : Int) : cAdd c (l.take (k + 1)) m = if m ≠ 0 ∧ m = l[k] then cAdd c (l.take k) m + 1 else cAdd c (l.take k) m := by
  unfold cAdd
  rw [← List.take_append_getElem hk, List.count_append]
  by_cases h0 : m = 0
  · simp [h0]
  · by_cases h : m = l[k]
    · subst h; simp [h0]; omega
    · have : [l[k]].count m = 0 := by rw [List.count_eq_zero]; simpa using h
      rw [this]; simp [h0, h]

set_option maxHeartbeats 1000000 in
set_option maxRecDepth 100000 in
theorem count_any (w : World) (b K : Nat) (c : Int → Nat) (A : Option Addr) (cap : Nat) (l : List Int) (hM : CntAt w b K c) (hI : IntsAt w A l) (hl : l.length ≤ 1000) (hK : K ≤ 100000) (hx : ∀ x ∈ l, -1000000 ≤ x ∧ x ≤ 1000000) :
    Calls Tryz.prog 106 #[.map (some b), .slice A l.length cap] w fun e w' => e = .returned (.tuple #[]) ∧ CntAt w' b (K + l.length) (cAdd c l) ∧ Turn [b] w w' := by
  have hmap := Lib.hid hM.ismap
  have HI := Lib.hid hI
  have HX := Lib.hid hx
  go_enter Tryz.func106, Tryz.ntmps106
  go_wp2
  go_loopw [8] (fun i w' => ∃ k : Nat, k ≤ l.length ∧ i = .int .i64 k ∧ CntAt w' b (K + k) (cAdd c (l.take k)) ∧ Turn [b] w w') (fun i _ => l.length - (intOf i).toNat)
  case atStart => exact ⟨0, Nat.zero_le _, rfl, hM.congr fun m => by unfold cAdd; simp, Turn.refl _ _⟩
  case round =>
    obtain ⟨k, hk, rfl, hC, ht⟩ := hrel
    by_cases hlt : k < l.length
    · obtain ⟨g, off, rfl, d0'⟩ := HI.out k hlt
      have d0 := mapKept ht (by simpa using hmap.out) d0'
      have hxx := HX.out _ (List.getElem_mem hlt)
      have HT := Lib.hid (fun m => cAdd_take (c := c) hlt m)
      have i1 : (k : Int) < (l.length : Int) := by omega
      obtain ⟨y, hy⟩ : ∃ y, l[k] = y := ⟨_, rfl⟩
      rw [hy] at d0 hxx HT
      clear hM hI hx d0' hy
      by_cases h0 : y = 0
      · subst h0
        have HC := Lib.hid hC
        have HTT := Lib.hid ht
        clear hC ht
        go_wp2
        go_roundw
        case rel =>
          refine ⟨k + 1, hlt, by go_num, (HC.out.mono (by omega)).congr fun m => ?_, HTT.out⟩
          rw [HT.out m, if_neg (fun x => x.1 x.2)]
        case measure => simp [intOf]; omega
      · have hne : (y != 0) = true := by simpa using h0
        obtain ⟨ks, hG, hks, hcb⟩ := hC
        have hcy := hcb y
        have hwr : IntKind.i64.wrap ((cAdd c (l.take k) y : Int) + 1) = (cAdd c (l.take k) y : Int) + 1 := IntWalk.i64_in _ (by omega)
        have Q := Lib.hid (cntV_get (cAdd c (l.take k)) y)
        have HTT := Lib.hid ht
        have HCB := Lib.hid hcb
        clear ht hcb
        go_wp2_with (first
          | (at_lookup; refine wpList_lookG rfl _ _ 152 rfl 3 Tryz.underlying152 _ (Tryz.zeroInt _) b ks _ rfl hG y rfl (by omega) _ Q.out ?_)
          | (at_mapUpdate; refine wpList_putMapG rfl _ _ _ 152 rfl 3 Tryz.underlying152 b ks _ rfl hG (by omega) y rfl (by omega) (.int .i64 ((cAdd c (l.take k) y + 1 : Nat) : Int)) rfl ?_; intro w4 hM4 ht4)
          | fail)
        rw [cntV_put _ _ _ (by omega)] at hM4
        have HM4 := Lib.hid hM4
        have HT4 := Lib.hid (HTT.out.turned ht4 (by simp))
        clear hM4 ht4
        go_wp2
        go_roundw
        case rel =>
          refine ⟨k + 1, hlt, by go_num, ⟨_, ?_, Nat.le_trans (putKey_len ks y) (by omega), fun m => ?_⟩, HT4.out⟩
          · have e : (fun m => if m = y then cAdd c (l.take k) y + 1 else cAdd c (l.take k) m) = cAdd c (l.take (k + 1)) := by
              funext m
              rw [HT.out m]
              by_cases hm : m = y
              · subst hm; simp [h0]
              · simp [hm]
            rw [← e]
            exact HM4.out
          · rw [HT.out m]
            have := HCB.out m
            split <;> omega
        case measure => simp [intOf]; omega
    · obtain rfl : k = l.length := by omega
      rw [List.take_length] at hC
      go_wp2
      go_end0
      exact ⟨rfl, hC, ht⟩
end Go.Proofs.YtlgahdabhnhjgaaGreatDoor

/- image.kids: how often some nodes refer to each number. -/
namespace Go.Proofs.YtlgahdabhnhjgaaGreatDoor
open Go.RowKit Go.Maps

theorem Turn.toGrown {b : Nat} {w w' : World} (h : Turn [b] w w') : w.grownBy w' (some b) := ⟨h.os, h.tape, h.output, h.size, fun k hk hne => h.block k hk (by simpa using fun e => hne (by rw [e]))⟩
theorem node_get (G : GV) (x : Int) : (((fun m => (G.N m).map gnV) x).getD (.agg #[.int .i64 0, .int .i64 0, .int .i64 0, .int .i64 0, .int .i64 0])) = gnV (G.node x) := by
  unfold GV.node
  cases h : G.N x <;> simp [h, gn0, gnV]
theorem kidsC_snoc (N : Int → Option GN) (ss : List Int) (x : Int) (m : Int) : kidsC N (ss ++ [x]) m = cAdd (kidsC N ss) (((N x).getD gn0).kids) m := by
  unfold kidsC cAdd
  by_cases h : m = 0
  · simp [h]
  · simp only [h, if_false, List.flatMap_append, List.count_append, List.flatMap_cons, List.flatMap_nil, List.append_nil]
theorem kidsC_perm {N : Int → Option GN} {s t : List Int} (h : s.Perm t) (m : Int) : kidsC N s m = kidsC N t m := by
  unfold kidsC
  split
  · rfl
  · exact (h.flatMap_right _).count_eq _

/-- All numbers of a vault are small. -/
structure GV.Bd (G : GV) : Prop where
  n : ∀ m g, G.N m = some g → (-999 ≤ g.k0 ∧ g.k0 ≤ 999) ∧ (-999 ≤ g.k1 ∧ g.k1 ≤ 999) ∧ (-999 ≤ g.k2 ∧ g.k2 ≤ 999) ∧ (-999 ≤ g.k3 ∧ g.k3 ≤ 999) ∧ (-999 ≤ g.refs ∧ g.refs ≤ 999)
  p : ∀ m b, G.P m = some b → (-999 ≤ b.refs ∧ b.refs ≤ 999) ∧ b.data.size ≤ 1000
  l : ∀ q ∈ G.L, (-999 ≤ q.id ∧ q.id ≤ 999) ∧ (-999 ≤ q.disk ∧ q.disk ≤ 999) ∧ (-999 ≤ q.size ∧ q.size ≤ 999) ∧ (-999 ≤ q.root ∧ q.root ≤ 999)
  next : -9223372036854775808 ≤ G.next ∧ G.next ≤ 9223372036854775807
theorem GV.Bd.node {G : GV} (h : G.Bd) (x : Int) : (-999 ≤ (G.node x).k0 ∧ (G.node x).k0 ≤ 999) ∧ (-999 ≤ (G.node x).k1 ∧ (G.node x).k1 ≤ 999) ∧ (-999 ≤ (G.node x).k2 ∧ (G.node x).k2 ≤ 999) ∧ (-999 ≤ (G.node x).k3 ∧ (G.node x).k3 ≤ 999) ∧ (-999 ≤ (G.node x).refs ∧ (G.node x).refs ≤ 999) := by
  unfold GV.node
  cases hg : G.N x with
  | none => simp [gn0]
  | some g => exact h.n x g hg

set_option maxHeartbeats 2000000 in
set_option maxRecDepth 100000 in
theorem kids_any (w : World) (v x gp bp bn B : Nat) (lv : Value) (G : GV) (h : GVAt w v x gp bp bn B lv G) (hBd : G.Bd) (b : Nat) (S : List Int) (c : Int → Nat) (hS : MapG w b S (cntV c)) (hSl : S.length ≤ 1000) (hcr : ∀ m, c m ≠ 0 → -1000000 ≤ m ∧ m ≤ 1000000) :
    Calls Tryz.prog 107 #[.pointer (some ⟨v, 0, none⟩), .map (some b)] w fun e w' => ∃ b', e = .returned (.map (some b')) ∧ w.heap.size ≤ b' ∧ CntAt w' b' (S.length * 4) (kidsC G.N S) ∧ Below w.heap.size w w' := by
  have hbl := hS.lt
  have b1 := (Below.refl w.heap.size w).alloc (Nat.le_refl _) (.map #[] 0)
  obtain ⟨D, hD, h1, _, h3, h4⟩ := hS.below b1
  have hsize := MapG.size_eq hD h1 h3 h4
  have HP := Lib.hid (show ∀ ss : List Int, ss.Nodup → (∀ x, x ∈ ss ↔ Maps.has D (.int .i64 x) = true) → ss.Perm S from fun ss hn hm => (List.perm_ext_iff_of_nodup hn h4).2 fun x => by rw [hm x, h1 x, h3 x])
  have HSZ := Lib.hid hsize
  have hn0 : Maps.size D ≤ 1000 := by omega
  have HC0 := Lib.hid (CntAt.made w)
  have HB1 := Lib.hid b1
  have HH := Lib.hid (fun w' (hb : Below w.heap.size w w') => h.below hb)
  have HBD := Lib.hid (fun y => hBd.node y)
  have HKR := Lib.hid (fun (m : Int) (hm : Maps.has D (.int .i64 m) = true) => hcr m (by rw [h1 m] at hm; unfold cntV at hm; split at hm; cases hm; assumption))
  clear h1 h3 h4 hsize h hBd hS b1
  have hmm := @run_makeMap Tryz.prog
  go_enter Tryz.func107, Tryz.ntmps107
  go_wp2_with (first
    | (at_range; refine wpList_range_own _ rfl _ 152 rfl 3 3 intKeyed Tryz.underlying152 _ b (Maps.size D) _ rfl hD ?_; intro w0 hrg0 hg0 hs0)
    | go_in)
  go_frame
  clear hmm
  have hbn : b ≠ w.heap.size := by omega
  have HIT := Lib.hid (show (w.alloc (Obj.map #[] 0)).heap.size = w.heap.size + 1 from Array.size_push ..)
  rw [HIT.out] at hrg0
  simp only [HIT.out]
  go_loopw [6] (fun _ wr => ∃ (left : Lit → Bool) (cnt : Nat) (ss : List Int), wr.ranges Tryz.prog 3 anyElem b (w.heap.size + 1) (Maps.size D) D left cnt ∧ ss.length + cnt ≤ Maps.size D ∧ CntAt wr w.heap.size (ss.length * 4) (kidsC G.N ss) ∧ Met D left ss ∧ Below w.heap.size w wr)
    (fun _ wr => wr.rangeLeft b (w.heap.size + 1))
  case atStart =>
    refine ⟨_, _, [], hrg0, by simp, ?_, Met.start D, HB1.out.grown hg0 HB1.out.size (fun j hj => by cases hj)⟩
    refine ((HC0.out.turn (bs := []) ⟨hg0.os, hg0.tape, hg0.output, hg0.size, fun k hk _ => hg0.block k hk (by simp)⟩ (by simp)).mono (by omega)).congr fun m => ?_
    unfold kidsC
    split <;> simp
  case round =>
    obtain ⟨left, cnt, ss, hrg, hcs, hcnt, hC, hnx⟩ := hrel
    go_wp2_with (first
      | (at_next; refine wpList_next_ranges _ rfl _ rfl 3 intKeyed anyElem (Value.int .i64) (fun u : Value => u) (fun key kl hk => by obtain ⟨x, hx, _⟩ := Maps.keyOf_int_inv Tryz.underlying3 hk; exact ⟨x, hx⟩) (fun v y _ => ⟨v, rfl⟩) b (w.heap.size + 1) (Maps.size D) _ _ _ rfl hrg ?_ ?_)
      | go_in)
    · intro hc0 hl0
      have hp := HP.out ss hC.1 (fun x => by rw [hC.2 x, hl0]; simp)
      have HL := Lib.hid hp.length_eq
      have HK := Lib.hid (fun m => kidsC_perm (N := G.N) hp m)
      have HCC := Lib.hid hcnt
      have HX := Lib.hid hnx
      clear hl0 hp hcnt hnx hC
      go_wp2
      go_ret
      exact ⟨_, rfl, Nat.le_refl _, by rw [← HL.out]; exact HCC.out.congr HK.out, HX.out⟩
    · intro x' c' kl yd yp w2 cnt2 hkey hlk hv hat hrg2 hlt hg2 hs2 hen
      obtain ⟨y, ex, rfl, hyb⟩ := Maps.keyOf_int_inv Tryz.underlying3 hkey
      obtain rfl : x' = y := by injection ex
      have hC2 := hC.step hlk hat
      have hb2 := hnx.grown hg2 hnx.size (fun j hj => by cases hj; omega)
      have hcnt2 : CntAt w2 w.heap.size (ss.length * 4) (kidsC G.N ss) := hcnt.turn (bs := [(w.heap.size + 1)]) ⟨hg2.os, hg2.tape, hg2.output, hg2.size, fun k hk hn => hg2.block k hk (by simpa using fun e => hn (by simp [e]))⟩ (by simp)
      have h2 := HH.out w2 hb2
      have c0 := h2.c0
      have x1 := h2.x1
      have hN := h2.N
      obtain ⟨k0, k1, k2, k3, rf, hnode⟩ : ∃ k0 k1 k2 k3 rf, G.node x' = ⟨k0, k1, k2, k3, rf⟩ := ⟨_, _, _, _, _, rfl⟩
      have q1 : (((fun m => (G.N m).map gnV) x').getD (.agg #[.int .i64 0, .int .i64 0, .int .i64 0, .int .i64 0, .int .i64 0])) = .agg #[.int .i64 k0, .int .i64 k1, .int .i64 k2, .int .i64 k3, .int .i64 rf] := by rw [node_get, hnode]; rfl
      have hbd := HBD.out x'
      rw [hnode] at hbd
      simp only at hbd
      obtain ⟨d0, d1, d2, d3, _⟩ := hbd
      have Q1 := Lib.hid q1
      have HND := Lib.hid hnode
      have b3 := (Below.refl w2.heap.size w2).alloc (Nat.le_refl _) (.cells #[.int .i64 k0, .int .i64 k1, .int .i64 k2, .int .i64 k3, .int .i64 rf] 81)
      have e3 := heap_alloc_new w2 (.cells #[.int .i64 k0, .int .i64 k1, .int .i64 k2, .int .i64 k3, .int .i64 rf] 81)
      have hI : IntsAt (w2.alloc (.cells #[.int .i64 k0, .int .i64 k1, .int .i64 k2, .int .i64 k3, .int .i64 rf] 81)) (some ⟨w2.heap.size, 0, none⟩) [k0, k1, k2, k3] := fun i hi => by
        have hi4 : i = 0 ∨ i = 1 ∨ i = 2 ∨ i = 3 := by simp at hi; omega
        rcases hi4 with rfl | rfl | rfl | rfl
        all_goals exact ⟨w2.heap.size, 0, rfl, cell_of_row _ _ _ _ _ _ e3⟩
      have hct := (count_any _ w.heap.size (ss.length * 4) (kidsC G.N ss) (some ⟨w2.heap.size, 0, none⟩) 4 [k0, k1, k2, k3] (hcnt2.below b3) hI (by simp) (by omega) (fun z hz => by simp at hz; omega))
      rw [show [k0, k1, k2, k3].length = 4 from rfl] at hct
      have HCT := Lib.hid hct
      have hrg3 := hrg2.alloc (.cells #[.int .i64 k0, .int .i64 k1, .int .i64 k2, .int .i64 k3, .int .i64 rf] 81)
      have HB3 := Lib.hid (belowThen hb2 b3)
      have hz : -9223372036854775808 ≤ x' ∧ x' ≤ 9223372036854775807 := by have := HKR.out x' (has_true_of_atKey hat); omega
      clear hct hs2 hat hC q1 hnode h2 hcnt b3 e3 hI hcnt2 hb2
      go_wp2_with (first
        | (at_lookup; refine wpList_lookG rfl _ _ 64 rfl 81 Tryz.underlying64 _ (Tryz.zeroNode _) bn G.nk _ rfl hN x' rfl hz _ Q1.out ?_)
        | fail)
      ((with_reducible refine HCT.out.mono ?_); rintro e w4 ⟨rfl, hc4, ht4⟩)
      have hrg4 := hrg3.kept ht4.toGrown (by simpa using hbn) (by simp)
      have hb4 := HB3.out.grown ht4.toGrown HB3.out.size (fun j hj => by cases hj; exact Nat.le_refl _)
      have HC4 := Lib.hid hc4
      have HB4 := Lib.hid hb4
      have HM2 := Lib.hid hC2
      clear hc4 hb4 ht4 HCT hC2
      go_wp2
      go_roundw
      case rel =>
        refine ⟨_, cnt2, ss ++ [x'], hrg4, by simp; omega, (HC4.out.mono (by simp; omega)).congr fun m => ?_, HM2.out, HB4.out⟩
        rw [kidsC_snoc]
        have e : ((G.N x').getD gn0).kids = [k0, k1, k2, k3] := by
          have := HND.out
          unfold GV.node at this
          rw [this]; rfl
        rw [e]
      case measure => rw [hrg4.left_eq, hrg.left_eq]; exact hlt
end Go.Proofs.YtlgahdabhnhjgaaGreatDoor
