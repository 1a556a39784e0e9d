/- What areCounted asks of a node and of a block. -/
import Derived.Test.YtlgahdabhnhjgaaGreatDoorZqGv
import Derived.Test.YtlgahdabhnhjgaaGreatDoorZqApO
import Derived.Test.YtlgahdabhnhjgaaGreatDoorZqRd4
import Derived.Lib.AtoiAllCases
import Derived.Test.YtlgahdabhnhjgaaGreatDoorZqEq4
/- image.count, image.kids: counts in memory. -/
namespace Go.Proofs.YtlgahdabhnhjgaaGreatDoor
open Go.RowKit Go.Maps

def cntV (c : Int → Nat) : Int → Option Value := fun m => if c m = 0 then none else some (.int .i64 (c m : Int))
/-- Block b is a map of counts, none more than K, of at most K keys. -/
def CntAt (w : World) (b K : Nat) (c : Int → Nat) : Prop := ∃ ks, MapG w b ks (cntV c) ∧ ks.length ≤ K ∧ ∀ m, c m ≤ K
def cAdd (c : Int → Nat) (l : List Int) : Int → Nat := fun m => c m + if m = 0 then 0 else l.count m
theorem CntAt.lt {w : World} {b K : Nat} {c : Int → Nat} (h : CntAt w b K c) : b < w.heap.size := by
  obtain ⟨ks, h, _⟩ := h
  exact h.lt
theorem CntAt.ismap {w : World} {b K : Nat} {c : Int → Nat} (h : CntAt w b K c) : ∃ es c, w.heap[b]? = some (.map es c) := by
  obtain ⟨ks, h, _⟩ := h
  exact h.ismap
theorem CntAt.mono {w : World} {b K K' : Nat} {c : Int → Nat} (h : CntAt w b K c) (hk : K ≤ K') : CntAt w b K' c := by
  obtain ⟨ks, h1, h2, h3⟩ := h
  exact ⟨ks, h1, by omega, fun m => Nat.le_trans (h3 m) hk⟩
theorem CntAt.below {w w' : World} {b K : Nat} {c : Int → Nat} (h : CntAt w b K c) (hb : Below w.heap.size w w') : CntAt w' b K c := by
  obtain ⟨ks, h1, h2⟩ := h
  exact ⟨ks, h1.below hb, h2⟩
theorem CntAt.turn {w w' : World} {b K : Nat} {c : Int → Nat} {bs : List Nat} (h : CntAt w b K c) (ht : Turn bs w w') (hb : b ∉ bs) : CntAt w' b K c := by
  obtain ⟨ks, h1, h2⟩ := h
  exact ⟨ks, h1.turn ht hb, h2⟩
theorem CntAt.congr {w : World} {b K : Nat} {c d : Int → Nat} (h : CntAt w b K c) (e : ∀ m, c m = d m) : CntAt w b K d := by
  have : c = d := funext e
  rw [← this]; exact h
theorem cntV_get (c : Int → Nat) (x : Int) : (cntV c x).getD (.int .i64 0) = .int .i64 (c x : Int) := by
  unfold cntV
  split
  · rename_i h; rw [h]; rfl
  · rfl
theorem cntV_put (c : Int → Nat) (x : Int) (n : Nat) (hn : n ≠ 0) : putAt (cntV c) x (.int .i64 (n : Int)) = cntV (fun m => if m = x then n else c m) := by
  funext m
  unfold putAt cntV
  by_cases h : m = x
  · simp [h, hn]
  · simp [h]
theorem CntAt.made (w : World) : CntAt (w.alloc (.map #[] 0)) w.heap.size 0 (fun _ => 0) := ⟨[], by
  have := MapG.made w
  exact this, by simp, fun _ => Nat.le_refl _⟩
theorem Tryz.zeroInt (w : World) : (zeroValue 3).run Tryz.prog w = .ok (.int .i64 0) w := by kernel_rfl
theorem cAdd_take {c : Int → Nat} {l : List Int} {k : Nat} (hk : k < l.length) (m : Int) : cAdd c (l.take (k + 1)) m = if m ≠ 0 ∧ m = l[k] then cAdd c (l.take k) m + 1 else cAdd c (l.take k) m := by
  unfold cAdd
  rw [← List.take_append_getElem hk, List.count_append]
  by_cases h0 : m = 0
  · simp [h0]
  · by_cases h : m = l[k]
    · subst h; simp [h0]; omega
    · have : [l[k]].count m = 0 := by rw [List.count_eq_zero]; simpa using h
      rw [this]; simp [h0, h]

set_option maxHeartbeats 1000000 in
set_option maxRecDepth 100000 in
theorem count_any (w : World) (b K : Nat) (c : Int → Nat) (A : Option Addr) (cap : Nat) (l : List Int) (hM : CntAt w b K c) (hI : IntsAt w A l) (hl : l.length ≤ 1000) (hK : K ≤ 100000) (hx : ∀ x ∈ l, -1000000 ≤ x ∧ x ≤ 1000000) :
    Calls Tryz.prog 106 #[.map (some b), .slice A l.length cap] w fun e w' => e = .returned (.tuple #[]) ∧ CntAt w' b (K + l.length) (cAdd c l) ∧ Turn [b] w w' := by
  have hmap := Lib.hid hM.ismap
  have HI := Lib.hid hI
  have HX := Lib.hid hx
  go_enter Tryz.func106, Tryz.ntmps106
  go_wp2
  go_loopw [8] (fun i w' => ∃ k : Nat, k ≤ l.length ∧ i = .int .i64 k ∧ CntAt w' b (K + k) (cAdd c (l.take k)) ∧ Turn [b] w w') (fun i _ => l.length - (intOf i).toNat)
  case atStart => exact ⟨0, Nat.zero_le _, rfl, hM.congr fun m => by unfold cAdd; simp, Turn.refl _ _⟩
  case round =>
    obtain ⟨k, hk, rfl, hC, ht⟩ := hrel
    by_cases hlt : k < l.length
    · obtain ⟨g, off, rfl, d0'⟩ := HI.out k hlt
      have d0 := mapKept ht (by simpa using hmap.out) d0'
      have hxx := HX.out _ (List.getElem_mem hlt)
      have HT := Lib.hid (fun m => cAdd_take (c := c) hlt m)
      have i1 : (k : Int) < (l.length : Int) := by omega
      obtain ⟨y, hy⟩ : ∃ y, l[k] = y := ⟨_, rfl⟩
      rw [hy] at d0 hxx HT
      clear hM hI hx d0' hy
      by_cases h0 : y = 0
      · subst h0
        have HC := Lib.hid hC
        have HTT := Lib.hid ht
        clear hC ht
        go_wp2
        go_roundw
        case rel =>
          refine ⟨k + 1, hlt, by go_num, (HC.out.mono (by omega)).congr fun m => ?_, HTT.out⟩
          rw [HT.out m, if_neg (fun x => x.1 x.2)]
        case measure => simp [intOf]; omega
      · have hne : (y != 0) = true := by simpa using h0
        obtain ⟨ks, hG, hks, hcb⟩ := hC
        have hcy := hcb y
        have hwr : IntKind.i64.wrap ((cAdd c (l.take k) y : Int) + 1) = (cAdd c (l.take k) y : Int) + 1 := IntWalk.i64_in _ (by omega)
        have Q := Lib.hid (cntV_get (cAdd c (l.take k)) y)
        have HTT := Lib.hid ht
        have HCB := Lib.hid hcb
        clear ht hcb
        go_wp2_with (first
          | (at_lookup; refine wpList_lookG rfl _ _ 152 rfl 3 Tryz.underlying152 _ (Tryz.zeroInt _) b ks _ rfl hG y rfl (by omega) _ Q.out ?_)
          | (at_mapUpdate; refine wpList_putMapG rfl _ _ _ 152 rfl 3 Tryz.underlying152 b ks _ rfl hG (by omega) y rfl (by omega) (.int .i64 ((cAdd c (l.take k) y + 1 : Nat) : Int)) rfl ?_; intro w4 hM4 ht4)
          | fail)
        rw [cntV_put _ _ _ (by omega)] at hM4
        have HM4 := Lib.hid hM4
        have HT4 := Lib.hid (HTT.out.turned ht4 (by simp))
        clear hM4 ht4
        go_wp2
        go_roundw
        case rel =>
          refine ⟨k + 1, hlt, by go_num, ⟨_, ?_, Nat.le_trans (putKey_len ks y) (by omega), fun m => ?_⟩, HT4.out⟩
          · have e : (fun m => if m = y then cAdd c (l.take k) y + 1 else cAdd c (l.take k) m) = cAdd c (l.take (k + 1)) := by
              funext m
              rw [HT.out m]
              by_cases hm : m = y
              · subst hm; simp [h0]
              · simp [hm]
            rw [← e]
            exact HM4.out
          · rw [HT.out m]
            have := HCB.out m
            split <;> omega
        case measure => simp [intOf]; omega
    · obtain rfl : k = l.length := by omega
      rw [List.take_length] at hC
      go_wp2
      go_end0
      exact ⟨rfl, hC, ht⟩
end Go.Proofs.YtlgahdabhnhjgaaGreatDoor

/- image.kids: how often some nodes refer to each number. -/
namespace Go.Proofs.YtlgahdabhnhjgaaGreatDoor
open Go.RowKit Go.Maps

theorem Turn.toGrown {b : Nat} {w w' : World} (h : Turn [b] w w') : w.grownBy w' (some b) := ⟨h.os, h.tape, h.output, h.size, fun k hk hne => h.block k hk (by simpa using fun e => hne (by rw [e]))⟩
theorem node_get (G : GV) (x : Int) : (((fun m => (G.N m).map gnV) x).getD (.agg #[.int .i64 0, .int .i64 0, .int .i64 0, .int .i64 0, .int .i64 0])) = gnV (G.node x) := by
  unfold GV.node
  cases h : G.N x <;> simp [h, gn0, gnV]
theorem kidsC_snoc (N : Int → Option GN) (ss : List Int) (x : Int) (m : Int) : kidsC N (ss ++ [x]) m = cAdd (kidsC N ss) (((N x).getD gn0).kids) m := by
  unfold kidsC cAdd
  by_cases h : m = 0
  · simp [h]
  · simp only [h, if_false, List.flatMap_append, List.count_append, List.flatMap_cons, List.flatMap_nil, List.append_nil]
theorem kidsC_perm {N : Int → Option GN} {s t : List Int} (h : s.Perm t) (m : Int) : kidsC N s m = kidsC N t m := by
  unfold kidsC
  split
  · rfl
  · exact (h.flatMap_right _).count_eq _

/-- All numbers of a vault are small. -/
structure GV.Bd (G : GV) : Prop where
  n : ∀ m g, G.N m = some g → (-999 ≤ g.k0 ∧ g.k0 ≤ 999) ∧ (-999 ≤ g.k1 ∧ g.k1 ≤ 999) ∧ (-999 ≤ g.k2 ∧ g.k2 ≤ 999) ∧ (-999 ≤ g.k3 ∧ g.k3 ≤ 999) ∧ (-999 ≤ g.refs ∧ g.refs ≤ 999)
  p : ∀ m b, G.P m = some b → (-999 ≤ b.refs ∧ b.refs ≤ 999) ∧ b.data.size ≤ 1000
  l : ∀ q ∈ G.L, (-999 ≤ q.id ∧ q.id ≤ 999) ∧ (-999 ≤ q.disk ∧ q.disk ≤ 999) ∧ (-999 ≤ q.size ∧ q.size ≤ 999) ∧ (-999 ≤ q.root ∧ q.root ≤ 999)
  next : -9223372036854775808 ≤ G.next ∧ G.next ≤ 9223372036854775807
theorem GV.Bd.node {G : GV} (h : G.Bd) (x : Int) : (-999 ≤ (G.node x).k0 ∧ (G.node x).k0 ≤ 999) ∧ (-999 ≤ (G.node x).k1 ∧ (G.node x).k1 ≤ 999) ∧ (-999 ≤ (G.node x).k2 ∧ (G.node x).k2 ≤ 999) ∧ (-999 ≤ (G.node x).k3 ∧ (G.node x).k3 ≤ 999) ∧ (-999 ≤ (G.node x).refs ∧ (G.node x).refs ≤ 999) := by
  unfold GV.node
  cases hg : G.N x with
  | none => simp [gn0]
  | some g => exact h.n x g hg

set_option maxHeartbeats 2000000 in
set_option maxRecDepth 100000 in
theorem kids_any (w : World) (v x gp bp bn B : Nat) (lv : Value) (G : GV) (h : GVAt w v x gp bp bn B lv G) (hBd : G.Bd) (b : Nat) (S : List Int) (c : Int → Nat) (hS : MapG w b S (cntV c)) (hSl : S.length ≤ 1000) (hcr : ∀ m, c m ≠ 0 → -1000000 ≤ m ∧ m ≤ 1000000) :
    Calls Tryz.prog 107 #[.pointer (some ⟨v, 0, none⟩), .map (some b)] w fun e w' => ∃ b', e = .returned (.map (some b')) ∧ w.heap.size ≤ b' ∧ CntAt w' b' (S.length * 4) (kidsC G.N S) ∧ Below w.heap.size w w' := by
  have hbl := hS.lt
  have b1 := (Below.refl w.heap.size w).alloc (Nat.le_refl _) (.map #[] 0)
  obtain ⟨D, hD, h1, _, h3, h4⟩ := hS.below b1
  have hsize := MapG.size_eq hD h1 h3 h4
  have HP := Lib.hid (show ∀ ss : List Int, ss.Nodup → (∀ x, x ∈ ss ↔ Maps.has D (.int .i64 x) = true) → ss.Perm S from fun ss hn hm => (List.perm_ext_iff_of_nodup hn h4).2 fun x => by rw [hm x, h1 x, h3 x])
  have HSZ := Lib.hid hsize
  have hn0 : Maps.size D ≤ 1000 := by omega
  have HC0 := Lib.hid (CntAt.made w)
  have HB1 := Lib.hid b1
  have HH := Lib.hid (fun w' (hb : Below w.heap.size w w') => h.below hb)
  have HBD := Lib.hid (fun y => hBd.node y)
  have HKR := Lib.hid (fun (m : Int) (hm : Maps.has D (.int .i64 m) = true) => hcr m (by rw [h1 m] at hm; unfold cntV at hm; split at hm; cases hm; assumption))
  clear h1 h3 h4 hsize h hBd hS b1
  have hmm := @run_makeMap Tryz.prog
  go_enter Tryz.func107, Tryz.ntmps107
  go_wp2_with (first
    | (at_range; refine wpList_range_own _ rfl _ 152 rfl 3 3 intKeyed Tryz.underlying152 _ b (Maps.size D) _ rfl hD ?_; intro w0 hrg0 hg0 hs0)
    | go_in)
  go_frame
  clear hmm
  have hbn : b ≠ w.heap.size := by omega
  have HIT := Lib.hid (show (w.alloc (Obj.map #[] 0)).heap.size = w.heap.size + 1 from Array.size_push ..)
  rw [HIT.out] at hrg0
  simp only [HIT.out]
  go_loopw [6] (fun _ wr => ∃ (left : Lit → Bool) (cnt : Nat) (ss : List Int), wr.ranges Tryz.prog 3 anyElem b (w.heap.size + 1) (Maps.size D) D left cnt ∧ ss.length + cnt ≤ Maps.size D ∧ CntAt wr w.heap.size (ss.length * 4) (kidsC G.N ss) ∧ Met D left ss ∧ Below w.heap.size w wr)
    (fun _ wr => wr.rangeLeft b (w.heap.size + 1))
  case atStart =>
    refine ⟨_, _, [], hrg0, by simp, ?_, Met.start D, HB1.out.grown hg0 HB1.out.size (fun j hj => by cases hj)⟩
    refine ((HC0.out.turn (bs := []) ⟨hg0.os, hg0.tape, hg0.output, hg0.size, fun k hk _ => hg0.block k hk (by simp)⟩ (by simp)).mono (by omega)).congr fun m => ?_
    unfold kidsC
    split <;> simp
  case round =>
    obtain ⟨left, cnt, ss, hrg, hcs, hcnt, hC, hnx⟩ := hrel
    go_wp2_with (first
      | (at_next; refine wpList_next_ranges _ rfl _ rfl 3 intKeyed anyElem (Value.int .i64) (fun u : Value => u) (fun key kl hk => by obtain ⟨x, hx, _⟩ := Maps.keyOf_int_inv Tryz.underlying3 hk; exact ⟨x, hx⟩) (fun v y _ => ⟨v, rfl⟩) b (w.heap.size + 1) (Maps.size D) _ _ _ rfl hrg ?_ ?_)
      | go_in)
    · intro hc0 hl0
      have hp := HP.out ss hC.1 (fun x => by rw [hC.2 x, hl0]; simp)
      have HL := Lib.hid hp.length_eq
      have HK := Lib.hid (fun m => kidsC_perm (N := G.N) hp m)
      have HCC := Lib.hid hcnt
      have HX := Lib.hid hnx
      clear hl0 hp hcnt hnx hC
      go_wp2
      go_ret
      exact ⟨_, rfl, Nat.le_refl _, by rw [← HL.out]; exact HCC.out.congr HK.out, HX.out⟩
    · intro x' c' kl yd yp w2 cnt2 hkey hlk hv hat hrg2 hlt hg2 hs2 hen
      obtain ⟨y, ex, rfl, hyb⟩ := Maps.keyOf_int_inv Tryz.underlying3 hkey
      obtain rfl : x' = y := by injection ex
      have hC2 := hC.step hlk hat
      have hb2 := hnx.grown hg2 hnx.size (fun j hj => by cases hj; omega)
      have hcnt2 : CntAt w2 w.heap.size (ss.length * 4) (kidsC G.N ss) := hcnt.turn (bs := [(w.heap.size + 1)]) ⟨hg2.os, hg2.tape, hg2.output, hg2.size, fun k hk hn => hg2.block k hk (by simpa using fun e => hn (by simp [e]))⟩ (by simp)
      have h2 := HH.out w2 hb2
      have c0 := h2.c0
      have x1 := h2.x1
      have hN := h2.N
      obtain ⟨k0, k1, k2, k3, rf, hnode⟩ : ∃ k0 k1 k2 k3 rf, G.node x' = ⟨k0, k1, k2, k3, rf⟩ := ⟨_, _, _, _, _, rfl⟩
      have q1 : (((fun m => (G.N m).map gnV) x').getD (.agg #[.int .i64 0, .int .i64 0, .int .i64 0, .int .i64 0, .int .i64 0])) = .agg #[.int .i64 k0, .int .i64 k1, .int .i64 k2, .int .i64 k3, .int .i64 rf] := by rw [node_get, hnode]; rfl
      have hbd := HBD.out x'
      rw [hnode] at hbd
      simp only at hbd
      obtain ⟨d0, d1, d2, d3, _⟩ := hbd
      have Q1 := Lib.hid q1
      have HND := Lib.hid hnode
      have b3 := (Below.refl w2.heap.size w2).alloc (Nat.le_refl _) (.cells #[.int .i64 k0, .int .i64 k1, .int .i64 k2, .int .i64 k3, .int .i64 rf] 81)
      have e3 := heap_alloc_new w2 (.cells #[.int .i64 k0, .int .i64 k1, .int .i64 k2, .int .i64 k3, .int .i64 rf] 81)
      have hI : IntsAt (w2.alloc (.cells #[.int .i64 k0, .int .i64 k1, .int .i64 k2, .int .i64 k3, .int .i64 rf] 81)) (some ⟨w2.heap.size, 0, none⟩) [k0, k1, k2, k3] := fun i hi => by
        have hi4 : i = 0 ∨ i = 1 ∨ i = 2 ∨ i = 3 := by simp at hi; omega
        rcases hi4 with rfl | rfl | rfl | rfl
        all_goals exact ⟨w2.heap.size, 0, rfl, cell_of_row _ _ _ _ _ _ e3⟩
      have hct := (count_any _ w.heap.size (ss.length * 4) (kidsC G.N ss) (some ⟨w2.heap.size, 0, none⟩) 4 [k0, k1, k2, k3] (hcnt2.below b3) hI (by simp) (by omega) (fun z hz => by simp at hz; omega))
      rw [show [k0, k1, k2, k3].length = 4 from rfl] at hct
      have HCT := Lib.hid hct
      have hrg3 := hrg2.alloc (.cells #[.int .i64 k0, .int .i64 k1, .int .i64 k2, .int .i64 k3, .int .i64 rf] 81)
      have HB3 := Lib.hid (belowThen hb2 b3)
      have hz : -9223372036854775808 ≤ x' ∧ x' ≤ 9223372036854775807 := by have := HKR.out x' (has_true_of_atKey hat); omega
      clear hct hs2 hat hC q1 hnode h2 hcnt b3 e3 hI hcnt2 hb2
      go_wp2_with (first
        | (at_lookup; refine wpList_lookG rfl _ _ 64 rfl 81 Tryz.underlying64 _ (Tryz.zeroNode _) bn G.nk _ rfl hN x' rfl hz _ Q1.out ?_)
        | fail)
      ((with_reducible refine HCT.out.mono ?_); rintro e w4 ⟨rfl, hc4, ht4⟩)
      have hrg4 := hrg3.kept ht4.toGrown (by simpa using hbn) (by simp)
      have hb4 := HB3.out.grown ht4.toGrown HB3.out.size (fun j hj => by cases hj; exact Nat.le_refl _)
      have HC4 := Lib.hid hc4
      have HB4 := Lib.hid hb4
      have HM2 := Lib.hid hC2
      clear hc4 hb4 ht4 HCT hC2
      go_wp2
      go_roundw
      case rel =>
        refine ⟨_, cnt2, ss ++ [x'], hrg4, by simp; omega, (HC4.out.mono (by simp; omega)).congr fun m => ?_, HM2.out, HB4.out⟩
        rw [kidsC_snoc]
        have e : ((G.N x').getD gn0).kids = [k0, k1, k2, k3] := by
          have := HND.out
          unfold GV.node at this
          rw [this]; rfl
        rw [e]
      case measure => rw [hrg4.left_eq, hrg.left_eq]; exact hlt
end Go.Proofs.YtlgahdabhnhjgaaGreatDoor

/- image.read, of any row; the bounds that reading keeps. -/
namespace Go.Proofs.YtlgahdabhnhjgaaGreatDoor
open Go.RowKit Go.Maps

theorem atoiL_bound (l : List UInt8) : -9223372036854775808 ≤ atoiL l ∧ atoiL l ≤ 9223372036854775807 := by
  unfold atoiL
  cases h : Lib.atoiAll l with
  | ok v => exact Lib.atoiAll_bounds h
  | range => simp only [Lib.atoiSat]; split <;> omega
  | _ => simp
structure GV.RdB (G : GV) : Prop where
  bd : G.Bd
  pk : ∀ m ∈ G.pk, -999 ≤ m ∧ m ≤ 999
  nk : ∀ m ∈ G.nk, -999 ≤ m ∧ m ≤ 999
theorem rdB_G0 : G0.RdB := ⟨⟨fun m g h => by simp [G0] at h, fun m g h => by simp [G0] at h, fun q h => by simp [G0] at h, by simp [G0]⟩, fun m h => by simp [G0] at h, fun m h => by simp [G0] at h⟩
theorem putF_some {α : Type} {f : Int → Option α} {k m : Int} {v u : α} (h : putF f k v m = some u) : u = v ∨ f m = some u := by
  unfold putF at h
  split at h
  · exact .inl (Option.some.inj h).symm
  · exact .inr h
theorem readM_rdB {G : GV} (h : G.RdB) (r : Ch) (hs : r.val.size ≤ 1000) : (readM G r).RdB := by
  unfold readM
  split
  · refine ⟨⟨h.bd.n, fun m b hb => ?_, h.bd.l, h.bd.next⟩, fun m hm => ?_, h.nk⟩
    · rcases putF_some hb with rfl | hb
      · refine ⟨num_bound _, ?_⟩
        show (r.val.data.toList.drop 3).toArray.size ≤ 1000
        have : r.val.data.size ≤ 1000 := hs
        simp; omega
      · exact h.bd.p m b hb
    · rcases (mem_putKey _ _ _).1 hm with rfl | hm
      · exact num_bound _
      · exact h.pk m hm
  · split
    · refine ⟨⟨fun m b hb => ?_, h.bd.p, h.bd.l, h.bd.next⟩, h.pk, fun m hm => ?_⟩
      · rcases putF_some hb with rfl | hb
        · exact ⟨num_bound _, num_bound _, num_bound _, num_bound _, num_bound _⟩
        · exact h.bd.n m b hb
      · rcases (mem_putKey _ _ _).1 hm with rfl | hm
        · exact num_bound _
        · exact h.nk m hm
    · split
      · refine ⟨⟨h.bd.n, h.bd.p, fun q hq => ?_, h.bd.next⟩, h.pk, h.nk⟩
        rcases List.mem_append.1 hq with hq | hq
        · exact h.bd.l q hq
        · rw [List.mem_singleton] at hq
          subst hq
          exact ⟨num_bound _, num_bound _, num_bound _, num_bound _⟩
      · split
        · exact ⟨⟨h.bd.n, h.bd.p, h.bd.l, atoiL_bound _⟩, h.pk, h.nk⟩
        · exact h
theorem readM_len (G : GV) (r : Ch) : (readM G r).pk.length ≤ G.pk.length + 1 ∧ (readM G r).nk.length ≤ G.nk.length + 1 ∧ (readM G r).L.length ≤ G.L.length + 1 := by
  unfold readM
  have h1 := fun m => putKey_len G.pk m
  have h2 := fun m => putKey_len G.nk m
  split
  · exact ⟨h1 _, by simp, by simp⟩
  · split
    · exact ⟨by simp, h2 _, by simp⟩
    · split
      · exact ⟨by simp, by simp, by simp⟩
      · split
        · exact ⟨by simp, by simp, by simp⟩
        · exact ⟨by omega, by omega, by omega⟩
theorem foldl_read (l : List Ch) (hs : ∀ r ∈ l, r.val.size ≤ 1000) : ∀ G : GV, G.RdB → (l.foldl readM G).RdB ∧ (l.foldl readM G).pk.length ≤ G.pk.length + l.length ∧ (l.foldl readM G).nk.length ≤ G.nk.length + l.length ∧ (l.foldl readM G).L.length ≤ G.L.length + l.length := by
  induction l with
  | nil => intro G h; exact ⟨h, by simp, by simp, by simp⟩
  | cons r l ih =>
    intro G h
    obtain ⟨a, b, c, d⟩ := ih (fun x hx => hs x (by simp [hx])) (readM G r) (readM_rdB h r (hs r (by simp)))
    obtain ⟨p, q, s⟩ := readM_len G r
    simp only [List.foldl_cons, List.length_cons]
    exact ⟨a, by omega, by omega, by omega⟩
theorem readAll_b (l : List Ch) (hs : ∀ r ∈ l, r.val.size ≤ 1000) : (readAll l).RdB ∧ (readAll l).pk.length ≤ l.length ∧ (readAll l).nk.length ≤ l.length ∧ (readAll l).L.length ≤ l.length := by
  obtain ⟨a, b, c, d⟩ := foldl_read l hs G0 rdB_G0
  simp only [G0, List.length_nil, Nat.zero_add] at b c d
  exact ⟨a, b, c, d⟩

theorem read_all (w : World) (v x gp bp bn B : Nat) (lv : Value) (G : GV) (r : Ch) (h : GVAt w v x gp bp bn B lv G) (hE : Errs w) (hB : B ≤ w.heap.size) (hsz : r.val.size ≤ 1000) (hp : G.pk.length ≤ 1000) (hn : G.nk.length ≤ 1000) (hl : G.L.length ≤ 1000) :
    Calls Tryz.prog 42 #[.pointer (some ⟨v, 0, none⟩), .agg #[.string r.key, .string r.val, .bool r.gone]] w (RdRet w v x gp bp bn B (readM G r)) := by
  by_cases h1 : r.key.data.toList.take 1 = [98]
  · exact read_b w v x gp bp bn B lv G r h hE hB hp h1
  · by_cases h2 : r.key.data.toList.take 1 = [110]
    · exact read_n w v x gp bp bn B lv G r h hE hB hsz hn h2
    · by_cases h3 : r.key.data.toList.take 1 = [112]
      · exact read_p w v x gp bp bn B lv G r h hE hB hsz hl h3
      · by_cases h4 : r.key.data.toList.take 1 = [120]
        · exact read_x w v x gp bp bn B lv G r h hE hB hsz h4
        · exact read_o w v x gp bp bn B lv G r h hE hB ⟨h1, h2, h3, h4⟩
end Go.Proofs.YtlgahdabhnhjgaaGreatDoor

/- What areCounted asks of a node and of a block. -/
namespace Go.Proofs.YtlgahdabhnhjgaaGreatDoor
open Go.RowKit Go.Maps

theorem equal4 (a b c d : Int) (r : Bool) (hr : ([a, b, c, d] == [0, 0, 0, 0]) = r) (w : World) : (Op.equalIn 10000 79 (.agg #[.int .i64 a, .int .i64 b, .int .i64 c, .int .i64 d]) (.agg #[.int .i64 0, .int .i64 0, .int .i64 0, .int .i64 0])).run Tryz.prog w = .ok r w := by
  subst hr
  have := equal_ints (P := Tryz.prog) w 9998 79 3 4 Tryz.underlying79 Tryz.underlying3 Tryz.sizeOf3 [a, b, c, d] [0, 0, 0, 0] rfl rfl
  simp only [List.map] at this
  rw [this]
theorem list4 (a b c d : Int) : ([a, b, c, d] == [0, 0, 0, 0]) = decide (a = 0 ∧ b = 0 ∧ c = 0 ∧ d = 0) := by
  rw [Bool.eq_iff_iff]; simp

set_option maxRecDepth 100000 in
theorem cl1_any (w : World) (k0 k1 k2 k3 rf n : Int) :
    Calls Tryz.prog 110 #[.agg #[.int .i64 k0, .int .i64 k1, .int .i64 k2, .int .i64 k3, .int .i64 rf], .int .i64 n] w fun e w' => (∃ r, e = .returned (.bool r) ∧ (r = true ↔ rf = n ∧ ¬ (k0 = 0 ∧ k1 = 0 ∧ k2 = 0 ∧ k3 = 0))) ∧ Below w.heap.size w w' := by
  obtain ⟨P, hP⟩ : ∃ P : Prop, (rf = n ∧ ¬ (k0 = 0 ∧ k1 = 0 ∧ k2 = 0 ∧ k3 = 0)) = P := ⟨_, rfl⟩
  rw [hP]
  have b1 := (Below.refl w.heap.size w).alloc (Nat.le_refl _) (.cells #[.int .i64 k0, .int .i64 k1, .int .i64 k2, .int .i64 k3, .int .i64 rf] 81)
  by_cases h : rf = n
  · by_cases h0 : k0 = 0 ∧ k1 = 0 ∧ k2 = 0 ∧ k3 = 0
    · have hr : (rf == n) = true := by simpa using h
      have hq := fun w => equal4 k0 k1 k2 k3 true (by rw [list4]; simpa using h0) w
      have HP := Lib.hid (show ¬ P by rw [← hP]; exact fun x => x.2 h0)
      clear h h0 hP
      go_enter Tryz.func110, Tryz.ntmps110
      go_wp2
      go_ret
      exact ⟨⟨false, rfl, by simpa using HP.out⟩, b1⟩
    · have hr : (rf == n) = true := by simpa using h
      have hq := fun w => equal4 k0 k1 k2 k3 false (by rw [list4]; simpa using h0) w
      have HP := Lib.hid (show P by rw [← hP]; exact ⟨h, h0⟩)
      clear h h0 hP
      go_enter Tryz.func110, Tryz.ntmps110
      go_wp2
      go_ret
      exact ⟨⟨true, rfl, by simpa using HP.out⟩, b1⟩
  · have hr : (rf == n) = false := by simpa using h
    have HP := Lib.hid (show ¬ P by rw [← hP]; exact fun x => h x.1)
    clear h hP
    go_enter Tryz.func110, Tryz.ntmps110
    go_wp2
    go_ret
    exact ⟨⟨false, rfl, by simpa using HP.out⟩, b1⟩

theorem within_any (w : World) (n m : Int) :
    Calls Tryz.prog 77 #[.int .i64 n, .int .i64 m] w fun e w' => e = .returned (.bool (decide (1 ≤ n ∧ n ≤ m))) ∧ Below w.heap.size w w' := by
  obtain ⟨r, hr⟩ : ∃ r, decide (1 ≤ n ∧ n ≤ m) = r := ⟨_, rfl⟩
  rw [hr]
  have HR := Lib.hid hr
  clear hr
  by_cases h1 : 1 ≤ n
  · by_cases h2 : n ≤ m
    · have d1 : decide (1 ≤ n) = true := by simpa using h1
      have d2 : decide (n ≤ m) = true := by simpa using h2
      have HX := Lib.hid (show r = true by rw [← HR.out]; simp [h1, h2])
      clear h1 h2
      go_enter Tryz.func77, Tryz.ntmps77
      go_wp2
      go_ret
      exact ⟨by rw [HX.out]; rfl, Below.refl _ _⟩
    · have d1 : decide (1 ≤ n) = true := by simpa using h1
      have d2 : decide (n ≤ m) = false := by simpa using h2
      have HX := Lib.hid (show r = false by rw [← HR.out]; simp [h2])
      clear h1 h2
      go_enter Tryz.func77, Tryz.ntmps77
      go_wp2
      go_ret
      exact ⟨by rw [HX.out]; rfl, Below.refl _ _⟩
  · have d1 : decide (1 ≤ n) = false := by simpa using h1
    have HX := Lib.hid (show r = false by rw [← HR.out]; simp [h1])
    clear h1
    go_enter Tryz.func77, Tryz.ntmps77
    go_wp2
    go_ret
    exact ⟨by rw [HX.out]; rfl, Below.refl _ _⟩

set_option maxRecDepth 100000 in
theorem cl2_any (w : World) (s : ByteArray) (rf n : Int) :
    Calls Tryz.prog 112 #[.agg #[.string s, .int .i64 rf], .int .i64 n] w fun e w' => (∃ r, e = .returned (.bool r) ∧ (r = true ↔ rf = n ∧ 1 ≤ s.size ∧ s.size ≤ 6)) ∧ Below w.heap.size w w' := by
  obtain ⟨P, hP⟩ : ∃ P : Prop, (rf = n ∧ 1 ≤ s.size ∧ s.size ≤ 6) = P := ⟨_, rfl⟩
  rw [hP]
  have b1 := (Below.refl w.heap.size w).alloc (Nat.le_refl _) (.cells #[.string s, .int .i64 rf] 77)
  by_cases h : rf = n
  · have hr : (rf == n) = true := by simpa using h
    have HP := Lib.hid (show P ↔ (1 ≤ (s.size : Int) ∧ (s.size : Int) ≤ 6) by rw [← hP]; constructor; (intro x; omega); (intro x; exact ⟨h, by omega, by omega⟩))
    have HW := Lib.hid (fun w' (hb : Below w.heap.size w w') => within_any w' (s.size : Int) 6)
    clear h hP
    go_enter Tryz.func112, Tryz.ntmps112
    go_wp2_with fail
    ((with_reducible refine (HW.out _ b1).mono ?_); rintro e w2 ⟨rfl, hb2⟩)
    have hb := belowThen b1 hb2
    clear HW hb2 b1
    go_wp2
    go_ret
    exact ⟨⟨_, rfl, by rw [HP.out]; simp⟩, hb⟩
  · have hr : (rf == n) = false := by simpa using h
    have HP := Lib.hid (show ¬ P by rw [← hP]; exact fun x => h x.1)
    clear h hP
    go_enter Tryz.func112, Tryz.ntmps112
    go_wp2
    go_ret
    exact ⟨⟨false, rfl, by simpa using HP.out⟩, b1⟩
end Go.Proofs.YtlgahdabhnhjgaaGreatDoor
