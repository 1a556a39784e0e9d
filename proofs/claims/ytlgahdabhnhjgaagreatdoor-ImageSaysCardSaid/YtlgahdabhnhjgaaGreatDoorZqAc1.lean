/- image.areCounted. -/
import Derived.Test.YtlgahdabhnhjgaaGreatDoorZqGrow
import Derived.Test.YtlgahdabhnhjgaaGreatDoorZqLight
namespace Go.Proofs.YtlgahdabhnhjgaaGreatDoor
open Go.RowKit Go.Maps

def Tryz.cloneI_ren : Go.Shelf.Ren := ⟨fun | 5 => 108 | 7 => 88 | n => n, fun | 23 => 152 | 25 => 3 | 3 => 3 | 4 => 4 | 20 => 20 | n => n, fun | n => n⟩
theorem Tryz.cloneI : Go.Proofs.SlLaysW.n5 Tryz.prog Tryz.cloneI_ren := {
  mixed := by kernel_rfl
  f5 := ⟨Tryz.f108.name, by decide, Tryz.func108.trans (congrArg some (by kernel_rfl))⟩
  f7 := Tryz.func88.trans (congrArg some (by kernel_rfl))
  t4 := Tryz.underlying4
  a4 := Tryz.isAgg4
  z4 := Tryz.sizeOf4
  v4 := Tryz.zeroValue4
  t20 := Tryz.underlying20
  a20 := Tryz.isAgg20
  z20 := Tryz.sizeOf20
  v20 := Tryz.zeroValue20
  t23 := Tryz.underlying152
  a23 := Tryz.isAgg152
  z23 := Tryz.sizeOf152
  v23 := Tryz.zeroValue152 }
theorem cloneI_any (b : Nat) (ks : List Int) (f : Int → Option Value) (w : World) (h : MapG w b ks f) :
    Calls Tryz.prog 108 #[.map (some b)] w fun e w' => e = .returned (.map (some w.heap.size)) ∧ MapG w' w.heap.size ks f ∧ Below w.heap.size w w' := by
  obtain ⟨D, hD, r⟩ := h
  refine (AnyW.maps_Clone_owns Tryz.cloneI 3 anyElem b _ D w hD).mono ?_
  rintro e w' ⟨rfl, h1, _, hb⟩
  exact ⟨rfl, ⟨D, h1, r⟩, hb⟩

/-- It answers whether P. -/
def RetB (P : Prop) (e : Ending) : Prop := ∃ r, e = .returned (.bool r) ∧ (r = true ↔ P)

/-- What the counts must be, the keys of the roots and of the leaves being given. -/
def CntP (G : GV) (rk lk : List Int) : Prop := (∀ r ∈ rk, r ∉ lk) ∧ EqN G.nk G.N (fun n => rootsC G.L n + kidsC G.N rk n) ∧ EqB G.pk G.P (kidsC G.N lk)
theorem cntG_of {G : GV} {rk lk : List Int} (h1 : rk.Nodup) (h2 : lk.Nodup) (hr : ∀ r, r ∈ rk ↔ rootsC G.L r ≠ 0) (hl : ∀ k, k ∈ lk ↔ kidsC G.N rk k ≠ 0) : CntP G rk lk ↔ ∃ rk lk, CntG G rk lk := by
  constructor
  · rintro ⟨a, b, c⟩
    refine ⟨rk, lk, h1, h2, hr, hl, a, fun n => ?_, b.2, c.1, c.2⟩
    rw [b.1 n, hr n, hl n]
    show rootsC G.L n + kidsC G.N rk n ≠ 0 ↔ _
    omega
  · rintro ⟨rk', lk', h⟩
    have pr : rk'.Perm rk := (List.perm_ext_iff_of_nodup h.rn h1).2 fun r => by rw [h.r, hr]
    have pk : ∀ m, kidsC G.N rk' m = kidsC G.N rk m := kidsC_perm pr
    have pl : lk'.Perm lk := (List.perm_ext_iff_of_nodup h.ln h2).2 fun k => by rw [h.l, hl, pk]
    have pb : ∀ m, kidsC G.N lk' m = kidsC G.N lk m := kidsC_perm pl
    refine ⟨fun r x y => h.no r (pr.mem_iff.2 x) (pl.mem_iff.2 y), ⟨fun n => ?_, fun n g hg => ?_⟩, ⟨fun b => ?_, fun n b hb => ?_⟩⟩
    · rw [h.nk, h.r, h.l, pk]
      show _ ↔ rootsC G.L n + kidsC G.N rk n ≠ 0
      omega
    · have := h.nv n g hg
      rw [pk] at this
      exact this
    · rw [h.pk, pb]
    · have := h.pv n b hb
      rw [pb] at this
      exact this

theorem rootsC_take {L : List GP} {k : Nat} (hk : k < L.length) (m : Int) : rootsC (L.take (k + 1)) m = cAdd (rootsC (L.take k)) [L[k].root] m := by
  unfold rootsC cAdd
  rw [← List.take_append_getElem hk, List.map_append, List.count_append]
  by_cases h0 : m = 0 <;> simp [h0]

theorem GVAt.pt {w : World} {v x gp bp bn B : Nat} {lv : Value} {G : GV} (h : GVAt w v x gp bp bn B lv G) {k : Nat} (hk : k < G.L.length) : ∃ g c, lv = .slice (some ⟨g, 0, none⟩) G.L.length c ∧ w.cell? ⟨g, k * 4, none⟩ = some (.int .i64 G.L[k].id) ∧ w.cell? ⟨g, k * 4 + 1, none⟩ = some (.int .i64 G.L[k].disk) ∧ w.cell? ⟨g, k * 4 + 2, none⟩ = some (.int .i64 G.L[k].size) ∧ w.cell? ⟨g, k * 4 + 3, none⟩ = some (.int .i64 G.L[k].root) := by
  have hp := h.pts
  have key : ∀ i, i < 4 → (gvCells G.L)[k * 4 + i]? = [Value.int .i64 G.L[k].id, .int .i64 G.L[k].disk, .int .i64 G.L[k].size, .int .i64 G.L[k].root][i]? := fun i hi => by
    have e : gvCells G.L = gvCells (G.L.take k) ++ (gvCells [G.L[k]] ++ gvCells (G.L.drop (k + 1))) := by
      conv => lhs; rw [← List.take_append_drop k G.L, gvCells_append]
      congr 1
      rw [List.drop_eq_getElem_cons hk]
      rfl
    have hl : (gvCells (G.L.take k)).length = k * 4 := by rw [gvCells_length]; simp; omega
    rw [e, List.getElem?_append_right (by omega), hl, List.getElem?_append_left (by rw [gvCells_length]; simp; omega), show k * 4 + i - k * 4 = i by omega]
    rfl
  rcases hp.2 with ⟨_, h0⟩ | ⟨g, cap, cur, hv, _, hg, _, _, _, ht⟩
  · omega
  · have hc : ∀ i, i < 4 → w.cell? ⟨g, k * 4 + i, none⟩ = [Value.int .i64 G.L[k].id, .int .i64 G.L[k].disk, .int .i64 G.L[k].size, .int .i64 G.L[k].root][i]? := fun i hi => by
      rw [cell_of_row _ _ _ _ _ _ hg, ← key i hi, ← ht, List.getElem?_take, if_pos (by omega)]
      simp
    exact ⟨g, cap, hv, hc 0 (by omega), hc 1 (by omega), hc 2 (by omega), hc 3 (by omega)⟩

theorem heap_new1 {w : World} {o o' : Obj} : ((w.alloc o').alloc o).heap[w.heap.size + 1]? = some o := by
  have := heap_alloc_new (w.alloc o') o
  rwa [show (w.alloc o').heap.size = w.heap.size + 1 from Array.size_push ..] at this

set_option maxHeartbeats 4000000 in
set_option maxRecDepth 100000 in
theorem areCounted_any (w : World) (v x gp bp bn B : Nat) (lv : Value) (G : GV) (h : GVAt w v x gp bp bn B lv G) (hBd : G.Bd) (hL : G.L.length ≤ 100) (hnk : G.nk.length ≤ 100) (hpk : G.pk.length ≤ 100) (hnr : ∀ m ∈ G.nk, -1000000 ≤ m ∧ m ≤ 1000000) (hpr : ∀ m ∈ G.pk, -1000000 ≤ m ∧ m ≤ 1000000) :
    Calls Tryz.prog 79 #[.pointer (some ⟨v, 0, none⟩)] w fun e w' => RetB (∃ rk lk, CntG G rk lk) e ∧ Below w.heap.size w w' := by
  obtain ⟨A3, k3, rfl⟩ := slice_form h.pts
  obtain ⟨n3, hn3⟩ : ∃ n, G.L.length = n := ⟨_, rfl⟩
  rw [hn3] at h hL
  have HN3 := Lib.hid hn3
  have b1 := (Below.refl w.heap.size w).alloc (Nat.le_refl _) (.map #[] 0)
  have HC0 := Lib.hid (CntAt.made w)
  have HH := Lib.hid (fun w' (hb : Below w.heap.size w w') => h.below hb)
  have HBL := Lib.hid hBd.l
  have c1 := (h.below b1).c1
  have c0 := (h.below b1).c0
  have hmm := @run_makeMap Tryz.prog
  clear hn3
  go_enter Tryz.func79, Tryz.ntmps79
  go_wp2
  generalize hW : w.alloc (.map #[] 0) = W at *
  clear hmm
  go_loopw [16] (fun i w' => ∃ k : Nat, k ≤ n3 ∧ i = .int .i64 k ∧ CntAt w' w.heap.size k (rootsC (G.L.take k)) ∧ Turn [w.heap.size] W w') (fun i _ => n3 - (intOf i).toNat)
  case atStart => exact ⟨0, Nat.zero_le _, rfl, HC0.out.congr fun m => by unfold rootsC; split <;> simp, Turn.refl _ _⟩
  case round =>
    obtain ⟨k, hk, rfl, hC, ht⟩ := hrel
    have hbw := ht.below (B := w.heap.size) b1.size (by simp)
    have hb0 := b1.trans hbw
    by_cases hlt : k < n3
    · have hkl : k < G.L.length := by have := HN3.out; omega
      obtain ⟨g, c, hlv, p0, p1, p2, p3⟩ := (HH.out wr hb0).pt hkl
      have HT := Lib.hid (rootsC_take hkl)
      have hbd := HBL.out _ (List.getElem_mem hkl)
      obtain ⟨p, hp⟩ : ∃ p, G.L[k] = p := ⟨_, rfl⟩
      rw [hp] at p0 p1 p2 p3 HT hbd
      simp only [Value.slice.injEq] at hlv
      obtain ⟨hlv1, hlv2, hlv3⟩ := hlv
      subst hlv1
      have i1 : (k : Int) < (n3 : Int) := by omega
      have b3 := ((Below.refl wr.heap.size wr).alloc (Nat.le_refl _) (.cells #[.int .i64 p.id, .int .i64 p.disk, .int .i64 p.size, .int .i64 p.root] 60)).alloc (by simp) (.cells #[.int .i64 p.root] 3)
      have hI : IntsAt ((wr.alloc (.cells #[.int .i64 p.id, .int .i64 p.disk, .int .i64 p.size, .int .i64 p.root] 60)).alloc (.cells #[.int .i64 p.root] 3)) (some ⟨wr.heap.size + 1, 0, none⟩) [p.root] := fun i hi => by
        obtain rfl : i = 0 := by simp at hi; omega
        exact ⟨_, 0, rfl, cell_of_row _ _ _ _ _ _ heap_new1⟩
      have hct := count_any _ w.heap.size k _ (some ⟨wr.heap.size + 1, 0, none⟩) 1 [p.root] (hC.below b3) hI (by simp) (by omega) (fun z hz => by simp at hz; omega)
      rw [show [p.root].length = 1 from rfl] at hct
      have HCT := Lib.hid hct
      have HTT := Lib.hid (ht.trans (Turn.of_below (bs := [w.heap.size]) b3))
      clear hct hI b3 hp hlv2 hlv3 hC ht hbw hb0 c0 c1
      go_wp2_with fail
      ((with_reducible refine HCT.out.mono ?_); rintro e w4 ⟨rfl, hc4, ht4⟩)
      have HC4 := Lib.hid hc4
      have HT4 := Lib.hid (HTT.out.trans ht4)
      clear hc4 ht4 HCT
      go_wp2
      go_roundw
      case rel => exact ⟨k + 1, hlt, by go_num, HC4.out.congr fun m => (HT.out m).symm, HT4.out⟩
      case measure => simp [intOf]; omega
    · obtain rfl : k = n3 := by omega
      rw [List.take_of_length_le (by have := HN3.out; omega)] at hC
      obtain ⟨rk, hrk, hrl, hrb⟩ := hC
      have hrn : rk.Nodup := by obtain ⟨_, _, _, _, _, h4⟩ := hrk; exact h4
      have hrm : ∀ r, r ∈ rk ↔ rootsC G.L r ≠ 0 := fun r => by
        obtain ⟨_, _, _, _, h3, _⟩ := hrk
        rw [← h3 r]
        unfold cntV
        split
        · rename_i e; simp [e]
        · rename_i e; simp [e]
      have hkm : ∀ m, rootsC G.L m ≠ 0 → -1000000 ≤ m ∧ m ≤ 1000000 := fun m hm => by
        unfold rootsC at hm
        split at hm
        · exact absurd rfl hm
        · obtain ⟨q, hq, rfl⟩ := List.mem_map.1 (List.count_pos_iff.1 (Nat.pos_of_ne_zero hm))
          have := HBL.out q hq
          omega
      have HKD := Lib.hid (kids_any wr v x gp bp bn B _ G (HH.out wr hb0) hBd w.heap.size rk (rootsC G.L) hrk (by omega) hkm)
      have HRK := Lib.hid hrk
      have HB0 := Lib.hid hb0
      have HRB := Lib.hid hrb
      have HRM := Lib.hid hrm
      have HKM := Lib.hid hkm
      have HRN := Lib.hid hrn
      clear hrk hbw hb0 hrb hrm hkm hrn ht c0 c1
      go_wp2_with fail
      ((with_reducible refine HKD.out.mono ?_); rintro e w4 ⟨b', rfl, hb', hc4, hb4⟩)
      obtain ⟨lk, hlk, hll, hlb⟩ := hc4
      have HCL := Lib.hid (cloneI_any b' lk _ w4 hlk)
      have hlm : ∀ n, n ∈ lk ↔ kidsC G.N rk n ≠ 0 := fun n => by
        obtain ⟨_, _, _, _, h3, _⟩ := hlk
        rw [← h3 n]
        unfold cntV
        split
        · rename_i e; simp [e]
        · rename_i e; simp [e]
      have hln : lk.Nodup := by obtain ⟨_, _, _, _, _, h4⟩ := hlk; exact h4
      have HLM := Lib.hid hlm
      have HLN := Lib.hid hln
      have HLK := Lib.hid hlk
      clear hlm hln
      have HB4 := Lib.hid (belowThen HB0.out hb4)
      have HRK4 := Lib.hid (HRK.out.below hb4)
      clear hlk hb4 HKD HRK
      go_wp2_with fail
      ((with_reducible refine HCL.out.mono ?_); rintro e w5 ⟨rfl, hc5, hb5⟩)
      have hmm5 := HRK4.out.below hb5
      obtain ⟨D, hD, h1, h2, h3, h4⟩ := hmm5
      have hsize := MapG.size_eq hD h1 h3 h4
      have HC5 := Lib.hid hc5
      have HB5 := Lib.hid hb5
      have hn0 : Maps.size D ≤ 100 := by omega
      have hs5 : w4.heap.size ≤ w5.heap.size := hb5.size
      clear HCL hc5 hb5
      go_wp2_with (first
        | (at_range; refine wpList_range_own _ rfl _ 152 rfl 3 3 intKeyed Tryz.underlying152 _ w.heap.size (Maps.size D) _ rfl hD ?_; intro w0 hrg0 hg0 hs0)
        | go_in)
      go_frame
      obtain ⟨cK, hcK⟩ : ∃ cK, kidsC G.N rk = cK := ⟨_, rfl⟩
      rw [hcK] at HLK HC5 hlb
      have HCK := Lib.hid hcK
      have HP := Lib.hid (show ∀ ss : List Int, ss.Nodup → (∀ x, x ∈ ss ↔ Maps.has D (.int .i64 x) = true) → ss.Perm rk from fun ss hn hm => (List.perm_ext_iff_of_nodup hn h4).2 fun x => by rw [hm x, h1 x, h3 x])
      have HV := Lib.hid (fun (m : Int) (u : Value) (hh : Maps.has D (.int .i64 m) = true) (hat : ∀ zd, D.atKey (.int .i64 m) zd = .held u) => show m ∈ rk ∧ u = .int .i64 (rootsC G.L m : Int) from by
        rw [h1 m] at hh
        obtain ⟨u', hu'⟩ := Option.isSome_iff_exists.1 hh
        have e := h2 m u' .nil hu'
        rw [hat] at e
        injection e with e
        refine ⟨(h3 m).1 hh, ?_⟩
        rw [e]
        unfold cntV at hu'
        split at hu'
        · cases hu'
        · exact (Option.some.inj hu').symm)
      have HLB := Lib.hid hlb
      clear h1 h2 h3 h4 hsize hcK hlb
      go_loopw [8] (fun _ wr => ∃ (left : Lit → Bool) (cnt : Nat) (ss : List Int), wr.ranges Tryz.prog 3 anyElem w.heap.size w5.heap.size (Maps.size D) D left cnt ∧ ss.length + cnt ≤ Maps.size D ∧ Met D left ss ∧ (∃ ks, MapG wr w4.heap.size ks (cntV (fun m => cK m + if m ∈ ss then rootsC G.L m else 0)) ∧ ks.length ≤ lk.length + ss.length) ∧ (∀ r ∈ ss, cK r = 0) ∧ Below w4.heap.size w4 wr)
        (fun _ wr => wr.rangeLeft w.heap.size w5.heap.size)
      case atStart =>
        refine ⟨_, _, [], hrg0, by simp, Met.start D, ⟨lk, ?_, by simp⟩, by simp, HB5.out.grown hg0 hs5 (fun j hj => by cases hj)⟩
        have e : (fun m => cK m + if m ∈ ([] : List Int) then rootsC G.L m else 0) = cK := by funext m; simp
        rw [e]
        exact HC5.out.keep (hg0.block _ HC5.out.lt (by simp))
      case round =>
        obtain ⟨left, cnt, ss, hrg, hcs, hM, ⟨ks, hG, hks⟩, hall, hnx⟩ := hrel
        go_wp2_with (first
          | (at_next; refine wpList_next_ranges _ rfl _ rfl 3 intKeyed anyElem (Value.int .i64) (fun u : Value => u) (fun key kl hk => by obtain ⟨x, hx, _⟩ := Maps.keyOf_int_inv Tryz.underlying3 hk; exact ⟨x, hx⟩) (fun v y _ => ⟨v, rfl⟩) w.heap.size w5.heap.size (Maps.size D) _ _ _ rfl hrg ?_ ?_)
          | go_in)
        · intro hc0 hl0
          have hp := HP.out ss hM.1 (fun x => by rw [hM.2 x, hl0]; simp)
          have hcN : (fun m => cK m + if m ∈ ss then rootsC G.L m else 0) = fun n => rootsC G.L n + kidsC G.N rk n := by
            funext m
            rw [HCK.out]
            by_cases hm : m ∈ ss
            · simp [hm]; omega
            · have : rootsC G.L m = 0 := by
                by_cases h0 : rootsC G.L m = 0
                · exact h0
                · exact absurd (hp.mem_iff.2 ((HRM.out m).2 h0)) hm
              simp [hm, this]
          rw [hcN] at hG
          have hsl := hp.length_eq
          have hno : ∀ r ∈ rk, r ∉ lk := fun r hr hl => (HLM.out r).1 hl (by rw [HCK.out]; exact hall r (hp.mem_iff.2 hr))
          have HBW := Lib.hid (belowThen HB4.out hnx)
          have hnx0 := hnx
          have hcA : CntAt wr w4.heap.size 1000 (fun n => rootsC G.L n + kidsC G.N rk n) := ⟨ks, hG, by omega, fun m => by have h1 := HRB.out m; have h2 := HLB.out m; rw [HCK.out]; show _ + _ ≤ _; omega⟩
          have HKS := Lib.hid (fun w' (hb : Below wr.heap.size wr w') => show w'.cell? ⟨v, 0, none⟩ = some (.pointer (some ⟨x, 0, none⟩)) ∧ w'.cell? ⟨x, 0, none⟩ = some (.pointer (some ⟨gp, 0, none⟩)) ∧ w'.cell? ⟨x, 1, none⟩ = some (.map (some bn)) ∧ w'.cell? ⟨gp, 0, none⟩ = some (.map (some bp)) from by
            have hh := HH.out w' (belowThen HBW.out hb)
            exact ⟨hh.c0, hh.x0, hh.x1, hh.g0⟩)
          have hS0 := HKS.out wr (Below.refl _ _)
          have hEN := fun w' (hb : Below wr.heap.size wr w') => equalN_any w' bn w4.heap.size 1000 G.nk G.N (fun n => rootsC G.L n + kidsC G.N rk n) (HH.out w' (belowThen HBW.out hb)).N (hcA.below hb) (by omega) hnr
          have hCP := cntG_of HRN.out HLN.out HRM.out HLM.out
          clear hl0 hM hall hcN hp hnx
          by_cases hN : EqN G.nk G.N (fun n => rootsC G.L n + kidsC G.N rk n)
          · have HEN := Lib.hid (fun w' (hb : Below wr.heap.size wr w') => (hEN w' hb).mono fun e w'' he => show e = .returned (.bool true) ∧ Below w'.heap.size w' w'' from by
              obtain ⟨⟨r, rfl, hr⟩, hb⟩ := he
              exact ⟨by rw [hr.2 hN], hb⟩)
            have hlr : ∀ m, cK m ≠ 0 → -1000000 ≤ m ∧ m ≤ 1000000 := fun m hm => by
              rw [← HCK.out] at hm
              unfold kidsC at hm
              split at hm
              · exact absurd rfl hm
              · obtain ⟨y, _, hy⟩ := List.mem_flatMap.1 (List.count_pos_iff.1 (Nat.pos_of_ne_zero hm))
                have hbd := hBd.node y
                unfold GV.node at hbd
                simp only [GN.kids, List.mem_cons, List.not_mem_nil, or_false] at hy
                omega
            have HKD := Lib.hid (fun w' (hb : Below wr.heap.size wr w') => (kids_any w' v x gp bp bn B _ G (HH.out w' (belowThen HBW.out hb)) hBd b' lk cK (HLK.out.below (belowThen hnx0 hb)) (by omega) hlr).mono fun e w'' he => show ∃ b8, e = .returned (.map (some b8)) ∧ CntAt w'' b8 (lk.length * 4) (kidsC G.N lk) ∧ Below w'.heap.size w' w'' from by
              obtain ⟨b8, rfl, _, hc, hb⟩ := he
              exact ⟨b8, rfl, hc, hb⟩)
            have hEB := fun w' b8 (hc : CntAt w' b8 (lk.length * 4) (kidsC G.N lk)) (hb : Below wr.heap.size wr w') => equalB_any w' bp b8 (lk.length * 4) G.pk G.P (kidsC G.N lk) (HH.out w' (belowThen HBW.out hb)).P hc (by omega) hpr
            by_cases hB' : EqB G.pk G.P (kidsC G.N lk)
            · have HEB := Lib.hid (fun w' b8 (hc : CntAt w' b8 (lk.length * 4) (kidsC G.N lk)) (hb : Below wr.heap.size wr w') => (hEB w' b8 hc hb).mono fun e w'' he => show e = .returned (.bool true) ∧ Below w'.heap.size w' w'' from by
                obtain ⟨⟨r, rfl, hr⟩, hb⟩ := he
                exact ⟨by rw [hr.2 hB'], hb⟩)
              have HYES := Lib.hid (hCP.1 ⟨hno, hN, hB'⟩)
              clear hN hB' hEN hEB hno hCP hcA hlr hG
              go_wp2_with fail
              go_region_held3 (fun w' => w'.cell? ⟨v, 0, none⟩ = some (.pointer (some ⟨x, 0, none⟩)) ∧ w'.cell? ⟨x, 0, none⟩ = some (.pointer (some ⟨gp, 0, none⟩)) ∧ w'.cell? ⟨x, 1, none⟩ = some (.map (some bn)) ∧ w'.cell? ⟨gp, 0, none⟩ = some (.map (some bp))) (first | with_reducible exact hS0 | with_reducible exact HKS.out _ (by (repeat (first | with_reducible exact Below.refl _ _ | with_reducible refine Below.drew ?_ | with_reducible refine belowThen ?_ hb9 | with_reducible refine belowThen ?_ hb8 | with_reducible refine belowThen ?_ hb7)); (first | done | fail)))
                (first
                  | (go_at_call 109; with_reducible refine (HEN.out _ (by (repeat (first | with_reducible exact Below.refl _ _ | with_reducible refine Below.drew ?_ | with_reducible refine belowThen ?_ hb9 | with_reducible refine belowThen ?_ hb8 | with_reducible refine belowThen ?_ hb7)); (first | done | fail))).mono ?_; rintro e w7 ⟨rfl, hb7⟩)
                  | (go_at_call 107; with_reducible refine (HKD.out _ (by (repeat (first | with_reducible exact Below.refl _ _ | with_reducible refine Below.drew ?_ | with_reducible refine belowThen ?_ hb9 | with_reducible refine belowThen ?_ hb8 | with_reducible refine belowThen ?_ hb7)); (first | done | fail))).mono ?_; rintro e w8 ⟨b8, rfl, hc8, hb8⟩)
                  | (go_at_call 111; with_reducible refine (HEB.out _ b8 hc8 (by (repeat (first | with_reducible exact Below.refl _ _ | with_reducible refine Below.drew ?_ | with_reducible refine belowThen ?_ hb9 | with_reducible refine belowThen ?_ hb8 | with_reducible refine belowThen ?_ hb7)); (first | done | fail))).mono ?_; rintro e w9 ⟨rfl, hb9⟩)
                  | fail)
              all_goals
                go_wp2
                go_ret
                exact ⟨⟨true, rfl, by simpa using HYES.out⟩, belowThen HBW.out (by (repeat (first | with_reducible exact Below.refl _ _ | with_reducible refine Below.drew ?_ | with_reducible refine belowThen ?_ hb9 | with_reducible refine belowThen ?_ hb8 | with_reducible refine belowThen ?_ hb7)); (first | done | fail))⟩
            · have HEB := Lib.hid (fun w' b8 (hc : CntAt w' b8 (lk.length * 4) (kidsC G.N lk)) (hb : Below wr.heap.size wr w') => (hEB w' b8 hc hb).mono fun e w'' he => show e = .returned (.bool false) ∧ Below w'.heap.size w' w'' from by
                obtain ⟨⟨r, rfl, hr⟩, hb⟩ := he
                refine ⟨?_, hb⟩
                cases r with
                | false => rfl
                | true => exact absurd (hr.1 rfl) hB')
              have HNO := Lib.hid (show ¬ ∃ rk lk, CntG G rk lk from fun y => hB' (hCP.2 y).2.2)
              clear hN hB' hEN hEB hno hCP hcA hlr hG
              go_wp2_with fail
              go_region_held3 (fun w' => w'.cell? ⟨v, 0, none⟩ = some (.pointer (some ⟨x, 0, none⟩)) ∧ w'.cell? ⟨x, 0, none⟩ = some (.pointer (some ⟨gp, 0, none⟩)) ∧ w'.cell? ⟨x, 1, none⟩ = some (.map (some bn)) ∧ w'.cell? ⟨gp, 0, none⟩ = some (.map (some bp))) (first | with_reducible exact hS0 | with_reducible exact HKS.out _ (by (repeat (first | with_reducible exact Below.refl _ _ | with_reducible refine Below.drew ?_ | with_reducible refine belowThen ?_ hb9 | with_reducible refine belowThen ?_ hb8 | with_reducible refine belowThen ?_ hb7)); (first | done | fail)))
                (first
                  | (go_at_call 109; with_reducible refine (HEN.out _ (by (repeat (first | with_reducible exact Below.refl _ _ | with_reducible refine Below.drew ?_ | with_reducible refine belowThen ?_ hb9 | with_reducible refine belowThen ?_ hb8 | with_reducible refine belowThen ?_ hb7)); (first | done | fail))).mono ?_; rintro e w7 ⟨rfl, hb7⟩)
                  | (go_at_call 107; with_reducible refine (HKD.out _ (by (repeat (first | with_reducible exact Below.refl _ _ | with_reducible refine Below.drew ?_ | with_reducible refine belowThen ?_ hb9 | with_reducible refine belowThen ?_ hb8 | with_reducible refine belowThen ?_ hb7)); (first | done | fail))).mono ?_; rintro e w8 ⟨b8, rfl, hc8, hb8⟩)
                  | (go_at_call 111; with_reducible refine (HEB.out _ b8 hc8 (by (repeat (first | with_reducible exact Below.refl _ _ | with_reducible refine Below.drew ?_ | with_reducible refine belowThen ?_ hb9 | with_reducible refine belowThen ?_ hb8 | with_reducible refine belowThen ?_ hb7)); (first | done | fail))).mono ?_; rintro e w9 ⟨rfl, hb9⟩)
                  | fail)
              all_goals
                go_wp2
                go_ret
                exact ⟨⟨false, rfl, by simpa using HNO.out⟩, belowThen HBW.out (by (repeat (first | with_reducible exact Below.refl _ _ | with_reducible refine Below.drew ?_ | with_reducible refine belowThen ?_ hb9 | with_reducible refine belowThen ?_ hb8 | with_reducible refine belowThen ?_ hb7)); (first | done | fail))⟩
          · have HEN := Lib.hid (fun w' (hb : Below wr.heap.size wr w') => (hEN w' hb).mono fun e w'' he => show e = .returned (.bool false) ∧ Below w'.heap.size w' w'' from by
              obtain ⟨⟨r, rfl, hr⟩, hb⟩ := he
              refine ⟨?_, hb⟩
              cases r with
              | false => rfl
              | true => exact absurd (hr.1 rfl) hN)
            have HNO := Lib.hid (show ¬ ∃ rk lk, CntG G rk lk from fun y => hN (hCP.2 y).2.1)
            have H4 := Lib.hid (fun (o : Gr wr) => HEN.out o.val o.ok)
            have f0 := fun (o : Gr wr) => (HKS.out o.val o.ok).1
            have f1 := fun (o : Gr wr) => (HKS.out o.val o.ok).2.1
            have f2 := fun (o : Gr wr) => (HKS.out o.val o.ok).2.2.1
            have f3 := fun (o : Gr wr) => (HKS.out o.val o.ok).2.2.2
            clear hN hEN hno hCP hcA hG HKS hS0
            go_wp2_with fail
            refine wp_region_grow (by kernel_rfl) (by kernel_rfl) ?_
            repeat (go_big_quiet_step (with_reducible exact Calls.grow _ (H4.out _)))
            refine wpQuiet_nil ?_
            intro wy hw'
            have HB2 := Lib.hid (show Below w.heap.size w wy from by obtain ⟨o9, h9⟩ := hw'; rw [h9]; exact belowThen HBW.out o9.ok)
            clear hw' f0 f1 f2 f3 H4
            go_wp2
            go_ret
            exact ⟨⟨false, rfl, by simpa using HNO.out⟩, HB2.out⟩
        · intro x' c' kl yd yp w2 cnt2 hkey hlk' hv hat hrg2 hlt2 hg2 hs2 hen
          obtain ⟨y, ex, rfl, hyb⟩ := Maps.keyOf_int_inv Tryz.underlying3 hkey
          obtain rfl : x' = y := by injection ex
          have hyd : yd = .held c' := by
            simp only [anyElem, Option.some.injEq, Prod.mk.injEq] at hv
            exact hv.1.symm
          subst hyd
          have hM2 := hM.step hlk' hat
          obtain ⟨hx, rfl⟩ := HV.out x' c' (has_true_of_atKey hat) hat
          have hnin : x' ∉ ss := fun hh => by
            have := ((hM.2 x').1 hh).2
            rw [hlk'] at this; cases this
          have hr0 := (HRM.out x').1 hx
          have hxb := HKM.out x' hr0
          have hrb := HRB.out x'
          have hb2 := hnx.grown hg2 hnx.size (fun j hj => by cases hj; exact hs5)
          have hne45 : w4.heap.size ≠ w5.heap.size := by have := HC5.out.lt; omega
          have hG2 : MapG w2 w4.heap.size ks (cntV (fun m => cK m + if m ∈ ss then rootsC G.L m else 0)) := hG.keep (hg2.block _ hG.lt (by simpa using hne45))
          have hL2 := HLK.out.below hb2
          have Q1 := Lib.hid (cntV_get cK x')
          have HM2 := Lib.hid hM2
          have HALL := Lib.hid hall
          have HB2 := Lib.hid hb2
          have hcx := HLB.out x'
          clear hs2 hat hM hM2 hb2 hv hall
          by_cases hcz : cK x' = 0
          · have Q1 := Lib.hid (show (cntV cK x').getD (.int .i64 0) = .int .i64 0 by rw [cntV_get, hcz]; rfl)
            have HCZ := Lib.hid hcz
            clear hcz
            go_wp2_with (first
              | (at_lookup; refine wpList_lookG rfl _ _ 152 rfl 3 Tryz.underlying152 _ (Tryz.zeroInt _) b' lk _ rfl hL2 x' rfl (by omega) _ Q1.out ?_)
              | (at_mapUpdate; refine wpList_putMapG rfl _ _ _ 152 rfl 3 Tryz.underlying152 w4.heap.size ks _ rfl hG2 (by omega) x' rfl (by omega) (.int .i64 ((rootsC G.L x' : Nat) : Int)) rfl ?_; intro w7 hM7 ht7)
              | fail)
            rw [cntV_put _ _ _ hr0] at hM7
            have hrg7 := hrg2.kept ht7.grown (by have := HRK4.out.lt; simp; omega) (by simpa using fun e => hne45 e.symm)
            have HB7 := Lib.hid (HB2.out.grown ht7.grown HB2.out.size (fun j hj => by cases hj; exact Nat.le_refl _))
            have HM7 := Lib.hid hM7
            clear hM7 ht7
            go_wp2
            go_roundw
            case rel =>
              refine ⟨_, _, _, _, _, _, _, _, _, _, _, _, _, _, _, ?_, rfl⟩
              refine ⟨_, cnt2, ss ++ [x'], hrg7, by simp; omega, HM2.out, ⟨_, ?_, Nat.le_trans (putKey_len ks x') (by simp; omega)⟩, fun r hr => ?_, HB7.out⟩
              · have e : (fun m => if m = x' then rootsC G.L x' else cK m + if m ∈ ss then rootsC G.L m else 0) = (fun m => cK m + if m ∈ ss ++ [x'] then rootsC G.L m else 0) := by
                  funext m
                  by_cases hm : m = x'
                  · subst hm; simp [HCZ.out]
                  · simp [hm]
                rw [← e]
                exact HM7.out
              · rcases List.mem_append.1 hr with hr | hr
                · exact HALL.out r hr
                · rw [List.mem_singleton] at hr; subst hr; exact HCZ.out
            case measure => rw [hrg7.left_eq, hrg.left_eq]; exact hlt2
          · obtain ⟨t, ht⟩ : ∃ t : Int, (cK x' : Int) = t := ⟨_, rfl⟩
            have ht0 : 0 < t := by omega
            have htm : t ≤ 100000 := by omega
            have Q1 := Lib.hid (show (cntV cK x').getD (.int .i64 0) = .int .i64 t by rw [cntV_get, ht])
            have HNO := Lib.hid (show ¬ ∃ rk lk, CntG G rk lk from fun x => by
              have hcp := (cntG_of HRN.out HLN.out HRM.out HLM.out).2 x
              exact hcp.1 x' hx ((HLM.out x').2 (by rw [HCK.out]; exact hcz)))
            have HBB := Lib.hid (belowThen HB4.out HB2.out)
            clear hcz hcx ht
            go_wp2_with (first
              | (at_lookup; refine wpList_lookG rfl _ _ 152 rfl 3 Tryz.underlying152 _ (Tryz.zeroInt _) b' lk _ rfl hL2 x' rfl (by omega) _ Q1.out ?_)
              | fail)
            go_ret
            exact ⟨⟨false, rfl, by simpa using HNO.out⟩, HBB.out⟩
end Go.Proofs.YtlgahdabhnhjgaaGreatDoor
