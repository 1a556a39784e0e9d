/- image.Parse. -/
import Derived.Test.YtlgahdabhnhjgaaGreatDoorZqImR
import Derived.Test.YtlgahdabhnhjgaaGreatDoorZqRng
import Derived.Test.YtlgahdabhnhjgaaGreatDoorZqImT
/- image.Rows, its answer as changes that a call is handed. -/
namespace Go.Proofs.YtlgahdabhnhjgaaGreatDoor
open Go.RowKit Go.Maps

theorem ba_size (l : List UInt8) : (ba l).size = l.length := rfl
theorem keysOf_nat {N : Nat} {f : Int → Option Value} {y : Int} (hm : y ∈ keysOf N f) : y.toNat ≤ N := by
  unfold keysOf at hm
  rw [List.mem_filter, List.mem_map] at hm
  obtain ⟨⟨i, hi, e⟩, _⟩ := hm
  have := List.mem_range.1 hi
  omega
theorem tx_small (ns : List Nat) (h : ∀ n ∈ ns, n ≤ 99999) (hl : ns.length ≤ 4) : (tx ns).length ≤ 32 := by
  have := (tx_len ns h).1
  omega
theorem rowsM_100 {V : VauM} (hV : V.Ok0) (hD : Small V.X.P) : ∀ x ∈ rowsM V, x.key.size ≤ 100 ∧ x.val.size ≤ 100 := by
  have hok := hV.okX
  intro x hx
  unfold rowsM at hx
  rw [List.mem_append, List.mem_append, List.mem_append] at hx
  rcases hx with ((hx | hx) | hx) | hx
  · unfold rowsBs at hx
    rw [List.mem_map] at hx
    obtain ⟨y, hy, rfl⟩ := hx
    have h1 := keysOf_nat hy
    have h2 := tx_small [y.toNat] (by simp; omega) (by simp)
    have h3 := hok.P.refs y.toNat
    have h4 := tx_small [(V.X.P y.toNat).refs] (by simp; omega) (by simp)
    have h5 := hD y.toNat
    have h6 : (V.X.P y.toNat).data.data.toList.length = (V.X.P y.toNat).data.size := rfl
    unfold rowB
    simp only [ba_size, List.length_cons, List.length_append]
    omega
  · unfold rowsNs at hx
    rw [List.mem_map] at hx
    obtain ⟨y, hy, rfl⟩ := hx
    have h1 := keysOf_nat hy
    have h2 := tx_small [y.toNat] (by simp; omega) (by simp)
    have h3 := hok.N.refs y.toNat
    have h4 := tx_small [(V.X.N y.toNat).refs] (by simp; omega) (by simp)
    have h5 := hok.N.kids y.toNat
    have h6 := tx_small [(V.X.N y.toNat).k0, (V.X.N y.toNat).k1, (V.X.N y.toNat).k2, (V.X.N y.toNat).k3] (by simp; omega) (by simp)
    unfold rowN
    simp only [ba_size, List.length_cons, List.length_append]
    omega
  · rw [List.mem_map] at hx
    obtain ⟨p, hp, rfl⟩ := hx
    have h1 := hV.pts p hp
    have h0 := hV.next
    have h2 := tx_small [p.id] (by simp; omega) (by simp)
    have h4 := tx_small [p.disk, p.size, p.root] (by simp; omega) (by simp)
    unfold rowP
    simp only [ba_size, List.length_cons]
    omega
  · simp only [List.mem_singleton] at hx
    subst hx
    have h0 := hV.next
    have h2 := tx_small [V.next] (by simp; omega) (by simp)
    unfold rowX
    simp only [ba_size, List.length_cons, List.length_nil]
    omega
theorem rowsM_small {V : VauM} (hV : V.Ok0) (hD : Small V.X.P) : (∀ x ∈ rowsM V, x.key.size ≤ maxLen ∧ x.val.size ≤ maxLen) ∧ (rowsM V).length ≤ 80 := by
  refine ⟨fun x hx => ?_, ?_⟩
  · have key := rowsM_100 hV hD x hx
    have : 100 ≤ maxLen := by decide
    omega
  · unfold rowsM rowsBs rowsNs
    have h1 := keysOf_le 40 (poolMap V.X.P)
    have h2 := keysOf_le 24 (nodMap V.X.N)
    have h3 := hV.len
    unfold numsOf nodsOf
    simp only [List.length_append, List.length_map, List.length_cons, List.length_nil]
    omega

/-- rows_any, its answer as changes. -/
theorem rows_chs (w : World) (u x gp bp bn B : Nat) (lv : Value) (V : VauM) (h : VauAt w u x gp bp bn B lv V) (hV : V.Ok0) (hD : Small V.X.P) (htab : Tab w) (l : List Ch) (hl : rowsM V = l) :
    Calls Tryz.prog 17 #[.pointer (some ⟨u, 0, none⟩)] w fun e w' => ∃ C c, e = .returned (.slice C l.length c) ∧ l.length ≤ c ∧ ChsAt w' C l ∧ Below w.heap.size w w' := by
  subst hl
  refine (rows_any w u x gp bp bn B lv V h hV hD htab).mono ?_
  rintro e w' ⟨C, c, rfl, hO, hb⟩
  refine ⟨C, c, rfl, ?_, chs_own hO (rowsM_small hV hD).1, hb⟩
  rcases hO.2 with ⟨h1, h2⟩ | ⟨b, cap, cur, h1, _, _, hnc, _⟩
  · injection h1 with _ _ h1; omega
  · injection h1 with _ _ h1; omega

end Go.Proofs.YtlgahdabhnhjgaaGreatDoor

/- image.Parse. -/
namespace Go.Proofs.YtlgahdabhnhjgaaGreatDoor
open Go.RowKit Go.Maps

def IncK (l : List Ch) (k : Nat) : Prop := ∀ j, (hj : j + 1 < l.length) → j + 1 < k → cmpB l[j].key l[j + 1].key < 0
/-- Rows that may be read. -/
def Good (l : List Ch) : Prop := IncK l l.length ∧ ConsG (readAll l) ∧ rowsM (toV (readAll l)) = l
def ParR (w : World) (l : List Ch) (e : Ending) (w' : World) : Prop := ((Good l ∧ ∃ v x gp bp bn lv, e = .returned (.tuple #[.pointer (some ⟨v, 0, none⟩), .nilIface]) ∧ VauAt w' v x gp bp bn w.heap.size lv (toV (readAll l)) ∧ From w.heap.size v x gp bp bn) ∨ (¬ Good l ∧ e = .returned (.tuple #[.pointer none, .iface 93 (.int .i64 4)]))) ∧ Below w.heap.size w w'

set_option maxHeartbeats 4000000 in
set_option maxRecDepth 100000 in
theorem parse_any (w : World) (A : Option Addr) (c : Nat) (l : List Ch) (hA : ChsAt w A l) (hn : l.length ≤ 100) (hs : ∀ r ∈ l, r.val.size ≤ 1000) (hE : Errs w) (hT : Tab w) :
    Calls Tryz.prog 19 #[.slice A l.length c] w (ParR w l) := by
  have hgn : Good l → IncK l l.length ∧ ConsG (readAll l) ∧ rowsM (toV (readAll l)) = l := fun h => h
  have HGN := Lib.hid hgn
  have HGY := Lib.hid (show IncK l l.length → ConsG (readAll l) → rowsM (toV (readAll l)) = l → Good l from fun a b d => ⟨a, b, d⟩)
  clear hgn
  obtain ⟨n, hn0⟩ : ∃ n, l.length = n := ⟨_, rfl⟩
  rw [hn0] at hn ⊢
  have HN := Lib.hid hn0
  have HAT := Lib.hid (fun w' (hb : Below w.heap.size w w') => hA.below hb)
  have HS := Lib.hid hs
  have HE := Lib.hid (fun w' (hb : Below w.heap.size w w') => hE.below hb)
  have HT := Lib.hid (fun w' (hb : Below w.heap.size w w') => hT.below hb)
  have HRB := Lib.hid (fun k => readAll_b (l.take k) (fun r hr => hs r (List.mem_of_mem_take hr)))
  clear hn0 hA hs hE hT
  go_enter Tryz.func19, Tryz.ntmps19
  go_wp2_with fail
  ((with_reducible refine (vauNew_any _).mono ?_); rintro e w1 ⟨v, x, gp, bp, bn, rfl, h0, hf, hb0⟩)
  have HG0 := Lib.hid (vau_g0 h0 hf)
  have HF := Lib.hid hf
  have HB0 := Lib.hid hb0
  clear h0 hf hb0
  go_wp2_with fail
  go_loopw [10] (fun i w' => ∃ k : Nat, k ≤ n ∧ i = .int .i64 k ∧ Hid (IncK l k) ∧ (∃ lv, GVAt w' v x gp bp bn w.heap.size lv (readAll (l.take k))) ∧ Below w.heap.size w w') (fun i _ => n - (intOf i).toNat)
  case atStart => exact ⟨0, Nat.zero_le _, rfl, fun j _ hj => by omega, ⟨_, HG0.out⟩, HB0.out⟩
  case round =>
    obtain ⟨k, hk, rfl, HI, ⟨lv, hG⟩, hb⟩ := hrel
    have hsz := hb.size
    by_cases hlt : k < n
    · have hkl : k < l.length := by have := HN.out; omega
      obtain ⟨g, off, rfl, hg, c0, c1, c2, s1, s2⟩ := (HAT.out wr hb) k hkl
      have i1 : (k : Int) < (n : Int) := by omega
      have HTK := Lib.hid (show readAll (l.take (k + 1)) = readM (readAll (l.take k)) l[k] by rw [← readAll_snoc, List.take_append_getElem hkl])
      have HX := Lib.hid (HS.out _ (List.getElem_mem hkl))
      have HIS := Lib.hid (show ∀ (h : 0 < k), cmpB (l[k - 1]'(by omega)).key l[k].key < 0 → IncK l (k + 1) from fun h0 hc j hj hjk => by
        by_cases e : j + 1 = k
        · subst e; exact hc
        · exact HI.out j hj (by omega))
      have HIN := Lib.hid (show ∀ (h : 0 < k), ¬ cmpB (l[k - 1]'(by omega)).key l[k].key < 0 → ¬ Good l from fun h0 hc hg => hc (by
        have hh := (HGN.out hg).1 (k - 1) (by omega) (by omega)
        have e : k - 1 + 1 = k := by omega
        simp only [e] at hh
        exact hh))
      have HPV := Lib.hid (show 0 < k → ∃ y, (l[k - 1]'(by omega)) = y ∧ wr.cell? ⟨g, off + (k - 1) * 3, none⟩ = some (.string y.key) from fun h0 => by
        obtain ⟨g', off', e', _, c0', _⟩ := (HAT.out wr hb) (k - 1) (by omega)
        simp only [Option.some.injEq, Addr.mk.injEq, and_true] at e'
        obtain ⟨rfl, rfl⟩ := e'
        exact ⟨_, rfl, c0'⟩)
      obtain ⟨r, hr⟩ : ∃ r, l[k] = r := ⟨_, rfl⟩
      rw [hr] at c0 c1 c2 s1 s2 HTK HX HIS HIN
      obtain ⟨G, hGG⟩ : ∃ G, readAll (l.take k) = G := ⟨_, rfl⟩
      have hB := HRB.out k
      rw [hGG] at hG HTK hB
      have hl1 : (l.take k).length ≤ 100 := by simp; omega
      have HR := Lib.hid (fun w' (hb' : Below wr.heap.size wr w') => read_all w' v x gp bp bn w.heap.size lv G r (hG.below hb') (HE.out w' (belowThen hb hb')) (Nat.le_trans hb.size hb'.size) HX.out (by omega) (by omega) (by omega))
      have b1 := (Below.refl wr.heap.size wr).alloc (Nat.le_refl _) (.cells #[.string r.key, .string r.val, .bool r.gone] 49)
      have HB := Lib.hid hb
      clear hr hGG hG hB hl1 s1 s2
      by_cases h0 : k = 0
      · have HIZ := Lib.hid (show IncK l (k + 1) from fun j hj hjk => by omega)
        have dk : decide (0 < k) = false := by simp; omega
        clear HIS HIN HPV hb h0
        go_wp2_with fail
        refine wp_region_grow (by kernel_rfl) (by kernel_rfl) ?_
        repeat (go_big_quiet_step (fail))
        refine wpQuiet_nil ?_
        intro wy hw'
        have hby : Below wr.heap.size wr wy := by obtain ⟨o9, h9⟩ := hw'; rw [h9]; exact belowThen b1 o9.ok
        have hrow : wy.heap[wr.heap.size]? = some (.cells #[.string r.key, .string r.val, .bool r.gone] 49 (0, 0)) := by obtain ⟨o9, h9⟩ := hw'; rw [h9]; exact (o9.ok.block wr.heap.size (by simp)).trans (heap_alloc_new _ _)
        have y0 := cell_of_row wy wr.heap.size 0 _ _ _ hrow
        have y1 := cell_of_row wy wr.heap.size 1 _ _ _ hrow
        have y2 := cell_of_row wy wr.heap.size 2 _ _ _ hrow
        have HBY := Lib.hid hby
        clear hw' hrow hby b1
        go_wp2_with fail
        ((with_reducible refine (HR.out _ HBY.out).mono ?_); rintro e w2 ⟨rfl, ⟨lv2, hG2⟩, hb2⟩)
        have HG2 := Lib.hid hG2
        have HB2 := Lib.hid hb2
        clear hG2 hb2 HR
        go_wp2
        go_roundw
        case rel => exact ⟨k + 1, hlt, by go_num, HIZ.out, ⟨lv2, by rw [HTK.out]; exact HG2.out⟩, (belowThen HB.out HBY.out).trans HB2.out⟩
        case measure => simp [intOf]; omega
      · have dk : decide (0 < k) = true := by simp; omega
        have kp : 1 ≤ k := by omega
        obtain ⟨y, hy, cy⟩ := HPV.out (by omega)
        have ek : ((k : Int) - 1).toNat = k - 1 := by omega
        by_cases hc : cmpB y.key r.key < 0
        · have HIZ := Lib.hid (HIS.out (by omega) (by rw [hy]; exact hc))
          have dl : Op.bytesLess y.key.toList r.key.toList = true := by rw [blCmp]; simpa using hc
          have hgr : g < wr.heap.size := hg
          clear HIS HIN HPV hb h0 hc hy
          have e1 := heap_alloc_new wr (.cells #[.string r.key, .string r.val, .bool r.gone] 49)
          obtain ⟨W, hW⟩ : ∃ W, wr.alloc (.cells #[.string r.key, .string r.val, .bool r.gone] 49) = W := ⟨_, rfl⟩
          have hsW : W.heap.size = wr.heap.size + 1 := by rw [← hW]; simp
          rw [hW] at e1 b1
          have f0 := fun (o : Gr W) => cell_of_row o.val wr.heap.size 0 _ _ _ ((o.ok.block wr.heap.size (by rw [hsW]; omega)).trans e1)
          have f1 := fun (o : Gr W) => show o.val.cell? ⟨g, off + (k - 1) * 3, none⟩ = some (.string y.key) from ((belowThen b1 o.ok).cell (p := ⟨g, off + (k - 1) * 3, none⟩) hgr).trans cy
          have i0 : (0 : Int) ≤ (k : Int) - 1 := by omega
          have i2 : (k : Int) - 1 < (n : Int) := by omega
          have hwp : IntKind.i64.wrap ((k : Int) - 1) = (k : Int) - 1 := IntWalk.i64_in _ (by omega)
          have HW1 := Lib.hid (show wr.heap.size < W.heap.size ∧ W.heap[wr.heap.size]? = _ from ⟨by rw [hsW]; omega, e1⟩)
          clear e1 hsW
          go_wp2_with fail
          refine wp_region_grow (by kernel_rfl) (by kernel_rfl) ?_
          repeat (go_big_quiet_step (fail))
          refine wpQuiet_nil ?_
          intro wy hw'
          have hby : Below wr.heap.size wr wy := by obtain ⟨o9, h9⟩ := hw'; rw [h9]; exact belowThen b1 o9.ok
          have hrow : wy.heap[wr.heap.size]? = some (.cells #[.string r.key, .string r.val, .bool r.gone] 49 (0, 0)) := by obtain ⟨o9, h9⟩ := hw'; rw [h9]; exact (o9.ok.block wr.heap.size HW1.out.1).trans HW1.out.2
          have y0 := cell_of_row wy wr.heap.size 0 _ _ _ hrow
          have y1 := cell_of_row wy wr.heap.size 1 _ _ _ hrow
          have y2 := cell_of_row wy wr.heap.size 2 _ _ _ hrow
          have HBY := Lib.hid hby
          clear hw' hrow hby b1 f0 f1
          go_wp2_with fail
          ((with_reducible refine (HR.out _ HBY.out).mono ?_); rintro e w2 ⟨rfl, ⟨lv2, hG2⟩, hb2⟩)
          have HG2 := Lib.hid hG2
          have HB2 := Lib.hid hb2
          clear hG2 hb2 HR
          go_wp2
          go_roundw
          case rel => exact ⟨k + 1, hlt, by go_num, HIZ.out, ⟨lv2, by rw [HTK.out]; exact HG2.out⟩, (belowThen HB.out HBY.out).trans HB2.out⟩
          case measure => simp [intOf]; omega
        · have HNG := Lib.hid (HIN.out (by omega) (by rw [hy]; exact hc))
          have dl : Op.bytesLess y.key.toList r.key.toList = false := by rw [blCmp]; simpa using hc
          have hgr : g < wr.heap.size := hg
          clear HIS HIN HPV hb h0 hc hy HR
          have e1 := heap_alloc_new wr (.cells #[.string r.key, .string r.val, .bool r.gone] 49)
          obtain ⟨W, hW⟩ : ∃ W, wr.alloc (.cells #[.string r.key, .string r.val, .bool r.gone] 49) = W := ⟨_, rfl⟩
          have hsW : W.heap.size = wr.heap.size + 1 := by rw [← hW]; simp
          rw [hW] at e1 b1
          have f0 := fun (o : Gr W) => cell_of_row o.val wr.heap.size 0 _ _ _ ((o.ok.block wr.heap.size (by rw [hsW]; omega)).trans e1)
          have f1 := fun (o : Gr W) => show o.val.cell? ⟨g, off + (k - 1) * 3, none⟩ = some (.string y.key) from ((belowThen b1 o.ok).cell (p := ⟨g, off + (k - 1) * 3, none⟩) hgr).trans cy
          have i0 : (0 : Int) ≤ (k : Int) - 1 := by omega
          have i2 : (k : Int) - 1 < (n : Int) := by omega
          have hwp : IntKind.i64.wrap ((k : Int) - 1) = (k : Int) - 1 := IntWalk.i64_in _ (by omega)
          have HW1 := Lib.hid (show wr.heap.size < W.heap.size ∧ W.heap[wr.heap.size]? = _ from ⟨by rw [hsW]; omega, e1⟩)
          clear e1 hsW
          go_wp2_with fail
          refine wp_region_grow (by kernel_rfl) (by kernel_rfl) ?_
          repeat (go_big_quiet_step (fail))
          refine wpQuiet_nil ?_
          intro wy hw'
          have hby : Below wr.heap.size wr wy := by obtain ⟨o9, h9⟩ := hw'; rw [h9]; exact belowThen b1 o9.ok
          have HBY := Lib.hid hby
          clear hw' hby b1 f0 f1
          go_wp2
          go_ret2
          exact ⟨.inr ⟨HNG.out, rfl⟩, belowThen HB.out HBY.out⟩
    · obtain rfl : k = n := by omega
      have hN := HN.out
      rw [List.take_of_length_le (by omega)] at hG
      have hB := HRB.out k
      rw [List.take_of_length_le (by omega)] at hB
      obtain ⟨hB1, hp1, hn1, hl1⟩ := hB
      have hRd := readAll_rd l
      have hI : IncK l l.length := by rw [hN]; exact HI.out
      have hC := isConsistent_any wr v x gp bp bn w.heap.size lv _ hG hB1.bd (by omega) (by omega) (by omega) (fun m hm => by have := hB1.nk m hm; omega) (fun m hm => by have := hB1.pk m hm; omega)
      have HB := Lib.hid hb
      by_cases hcs : ConsG (readAll l)
      · have hV := gv_vau hG hRd.wf hcs
        have hok := toV_ok0 hRd.wf hcs
        have hsm := toV_small hcs
        have HC := Lib.hid (hC.mono fun e w' he => show e = .returned (.bool true) ∧ Below wr.heap.size wr w' from ⟨he.1.yes hcs, he.2⟩)
        have hrw := fun w' (hb' : Below wr.heap.size wr w') rl hrl => rows_chs w' v x gp bp bn w.heap.size lv _ (hV.below hb') hok hsm (HT.out w' (belowThen hb hb')) rl hrl
        have HV := Lib.hid hV
        have HCS := Lib.hid hcs
        have HI2 := Lib.hid hI
        have hlr := (rowsM_small hok hsm).2
        obtain ⟨rl, hrl⟩ : ∃ rl, rowsM (toV (readAll l)) = rl := ⟨_, rfl⟩
        rw [hrl] at hlr
        have HRW := Lib.hid (fun w' hb' => hrw w' hb' rl hrl)
        have HRL := Lib.hid hrl
        clear hrw
        clear hrl hcs hC hG hRd hI hB1 hp1 hn1 hl1 hb HG0 hV hok hsm
        go_wp2_with fail
        ((with_reducible refine HC.out.mono ?_); rintro e w2 ⟨rfl, hb2⟩)
        clear HC
        go_wp2_with fail
        ((with_reducible refine (HRW.out _ hb2).mono ?_); rintro e w3 ⟨C3, c3, rfl, _, hO3, hb3⟩)
        have hb23 := belowThen hb2 hb3
        have hEQ := equalChs_any w3 C3 A c3 c rl l hO3 (HAT.out w3 (belowThen HB.out hb23)) (by omega)
        rw [hN] at hEQ
        have HEQ := Lib.hid hEQ
        clear hEQ hO3 hb3 HRW hb2
        go_wp2_with fail
        ((with_reducible refine HEQ.out.mono ?_); rintro e w4 ⟨rfl, hb4⟩)
        have HB4 := Lib.hid (belowThen hb23 hb4)
        clear hb23 hb4 HEQ
        by_cases heq : rl = l
        · have de : decide (rl = l) = true := by simpa using heq
          have HGD := Lib.hid (HGY.out HI2.out HCS.out (HRL.out.trans heq))
          rw [de]
          clear heq de
          go_wp2
          go_ret2
          exact ⟨.inl ⟨HGD.out, v, x, gp, bp, bn, lv, rfl, HV.out.below HB4.out, HF.out⟩, belowThen HB.out HB4.out⟩
        · have de : decide (rl = l) = false := by simpa using heq
          have HNG := Lib.hid (show ¬ Good l from fun h => heq (HRL.out.symm.trans (HGN.out h).2.2))
          rw [de]
          clear heq de
          go_wp2
          go_ret2
          exact ⟨.inr ⟨HNG.out, rfl⟩, belowThen HB.out HB4.out⟩
      · have HC := Lib.hid (hC.mono fun e w' he => show e = .returned (.bool false) ∧ Below wr.heap.size wr w' from ⟨he.1.no hcs, he.2⟩)
        have HNG := Lib.hid (show ¬ Good l from fun h => hcs (HGN.out h).2.1)
        clear hcs hC hG hRd hI hB1 hp1 hn1 hl1 hb HG0
        go_wp2_with fail
        ((with_reducible refine HC.out.mono ?_); rintro e w2 ⟨rfl, hb2⟩)
        go_wp2
        go_ret2
        exact ⟨.inr ⟨HNG.out, rfl⟩, belowThen HB.out hb2⟩
end Go.Proofs.YtlgahdabhnhjgaaGreatDoor
