/- Regions that draw their order, whose operations read and whose callees only make new memory: one walk in the order of the text. -/
import Derived.Test.YtlgahdabhnhjgaaGreatDoorZqEq1
import Derived.Test.YtlgahdabhnhjgaaGreatDoorZqNums
import Derived.Deep.QuietTactic
import Derived.BigQuiet
/- maps.EqualFunc of nodes and of blocks against counts. -/
namespace Go.Proofs.YtlgahdabhnhjgaaGreatDoor
open Go.RowKit Go.Maps

theorem sub_full : ∀ (a b : List Int), a.Nodup → (∀ x ∈ a, x ∈ b) → b.length ≤ a.length → ∀ x ∈ b, x ∈ a
  | [], b, _, _, hl, x, hx => by
    have : b = [] := List.length_eq_zero_iff.1 (by simpa using hl)
    rw [this] at hx; exact hx
  | y :: a, b, hn, hs, hl, x, hx => by
    obtain ⟨hy, hn'⟩ := List.nodup_cons.1 hn
    by_cases e : x = y
    · simp [e]
    · have hyb := hs y (by simp)
      have h1 := sub_full a (b.erase y) hn' (fun z hz => (List.mem_erase_of_ne (fun e => hy (by rw [← e]; exact hz))).2 (hs z (by simp [hz]))) (by rw [List.length_erase_of_mem hyb]; simp at hl; omega)
      exact List.mem_cons_of_mem _ (h1 x ((List.mem_erase_of_ne e).2 hx))

/-- The nodes agree with counts. -/
def EqN (nk : List Int) (N : Int → Option GN) (c : Int → Nat) : Prop := (∀ n, n ∈ nk ↔ c n ≠ 0) ∧ ∀ n g, N n = some g → g.refs = (c n : Int) ∧ ¬ (g.k0 = 0 ∧ g.k1 = 0 ∧ g.k2 = 0 ∧ g.k3 = 0)

set_option maxHeartbeats 2000000 in
set_option maxRecDepth 100000 in
theorem equalN_any (w : World) (bn b2 K : Nat) (nk : List Int) (N : Int → Option GN) (c : Int → Nat) (hM : MapG w bn nk (fun m => (N m).map gnV)) (hC : CntAt w b2 K c) (hl : nk.length ≤ 1000) (hkr : ∀ m ∈ nk, -1000000 ≤ m ∧ m ≤ 1000000) :
    Calls Tryz.prog 109 #[.map (some bn), .map (some b2), .func (.func 110) #[] #[]] w fun e w' => (∃ r, e = .returned (.bool r) ∧ (r = true ↔ EqN nk N c)) ∧ Below w.heap.size w w' := by
  obtain ⟨ks, hG, hks, hcb⟩ := hC
  have hbl := hM.lt
  obtain ⟨a, ha⟩ : ∃ a, nk.length = a := ⟨_, rfl⟩
  obtain ⟨z, hz⟩ : ∃ z, ks.length = z := ⟨_, rfl⟩
  have HA := Lib.hid ha
  have HZ := Lib.hid hz
  have hGG := hG
  obtain ⟨_, _, _, _, hk3, hk4⟩ := hG
  have hkm : ∀ n, n ∈ ks ↔ c n ≠ 0 := fun n => by
    rw [← hk3 n]
    unfold cntV
    split
    · rename_i e; simp [e]
    · rename_i e; simp [e]
  obtain ⟨D, hD, h1, h2, h3, h4⟩ := hM
  have hsize := MapG.size_eq hD h1 h3 h4
  by_cases hlen : ¬ a = z
  · have hne : ((a : Int) != (z : Int)) = true := by simp; omega
    have HE := Lib.hid (show ¬ EqN nk N c from fun x => hlen (by
      rw [← HA.out, ← HZ.out]
      exact ((List.perm_ext_iff_of_nodup h4 hk4).2 fun n => by rw [x.1 n, hkm n]).length_eq))
    have hM' : MapG w bn nk (fun m => (N m).map gnV) := ⟨D, hD, h1, h2, h3, h4⟩
    clear hlen hkm hsize h1 h2 h3 h4 hD hk3 hk4
    go_enter Tryz.func109, Tryz.ntmps109
    go_wp2_with (first
      | (at_len; refine wpList_lenMapG rfl _ 64 rfl 81 Tryz.underlying64 bn nk _ rfl hM' a HA.out ?_)
      | (at_len; refine wpList_lenMapG rfl _ 152 rfl 3 Tryz.underlying152 b2 ks _ rfl hGG z HZ.out ?_)
      | fail)
    go_ret
    first | exact ⟨⟨false, rfl, by simpa using HE.out⟩, Below.refl _ _⟩ | exact ⟨.inl ⟨rfl, HE.out⟩, Below.refl _ _⟩
  replace hlen : a = z := Classical.not_not.1 hlen
  have hne : ((a : Int) != (z : Int)) = false := by simp; omega
  have hM' : MapG w bn nk (fun m => (N m).map gnV) := ⟨D, hD, h1, h2, h3, h4⟩
  have HP := Lib.hid (show ∀ ss : List Int, ss.Nodup → (∀ x, x ∈ ss ↔ Maps.has D (.int .i64 x) = true) → ss.Perm nk from fun ss hn hm => (List.perm_ext_iff_of_nodup hn h4).2 fun x => by rw [hm x, h1 x, h3 x])
  have HV := Lib.hid (fun (m : Int) (u : Value) (hh : Maps.has D (.int .i64 m) = true) (hat : ∀ zd, D.atKey (.int .i64 m) zd = .held u) => show m ∈ nk ∧ ∃ g, N m = some g ∧ u = gnV g from by
    rw [h1 m] at hh
    obtain ⟨g', hg'⟩ := Option.isSome_iff_exists.1 hh
    have e := h2 m g' .nil hg'
    rw [hat] at e
    injection e with e
    cases hN : N m with
    | none => simp [hN] at hg'
    | some g =>
      simp only [hN, Option.map_some, Option.some.injEq] at hg'
      exact ⟨(h3 m).1 hh, g, rfl, by rw [e, ← hg']⟩)
  have HF := Lib.hid (show (∀ y ∈ nk, c y ≠ 0 ∧ ∀ g, N y = some g → g.refs = (c y : Int) ∧ ¬ (g.k0 = 0 ∧ g.k1 = 0 ∧ g.k2 = 0 ∧ g.k3 = 0)) → EqN nk N c from fun hall => by
    have hsub : ∀ x ∈ nk, x ∈ ks := fun x hx => (hkm x).2 (hall x hx).1
    have hfull := sub_full nk ks h4 hsub (by rw [HA.out, HZ.out]; omega)
    refine ⟨fun n => ⟨fun hn => (hall n hn).1, fun hn => hfull n ((hkm n).2 hn)⟩, fun n g hg => (hall n ?_).2 g hg⟩
    exact (h3 n).1 (by simp [hg]))
  have HB := Lib.hid (show ∀ y ∈ nk, EqN nk N c → c y ≠ 0 ∧ ∀ g, N y = some g → g.refs = (c y : Int) ∧ ¬ (g.k0 = 0 ∧ g.k1 = 0 ∧ g.k2 = 0 ∧ g.k3 = 0) from fun y hy x => ⟨(x.1 y).1 hy, fun g hg => x.2 y g hg⟩)
  have HKR := Lib.hid hkr
  have hn0 : Maps.size D ≤ 1000 := by omega
  have HGB := Lib.hid (fun w' (hb : Below w.heap.size w w') => hGG.below hb)
  obtain ⟨PP, hPP⟩ : ∃ PP : Prop, EqN nk N c = PP := ⟨_, rfl⟩
  rw [hPP] at HF HB ⊢
  clear hlen hkm hsize h1 h2 h3 h4 hk3 hk4 ha hz hkr hPP
  go_enter Tryz.func109, Tryz.ntmps109
  go_wp2_with (first
    | (at_len; refine wpList_lenMapG rfl _ 64 rfl 81 Tryz.underlying64 bn nk _ rfl hM' a HA.out ?_)
    | (at_len; refine wpList_lenMapG rfl _ 152 rfl 3 Tryz.underlying152 b2 ks _ rfl hGG z HZ.out ?_)
    | (at_range; refine wpList_range_own _ rfl _ 64 rfl 3 81 intKeyed Tryz.underlying64 _ bn (Maps.size D) _ rfl hD ?_; intro w0 hrg0 hg0 hs0)
    | go_in)
  go_frame
  clear hM'
  go_loopw [7] (fun _ wr => ∃ (left : Lit → Bool) (cnt : Nat) (ss : List Int), wr.ranges Tryz.prog 3 anyElem bn w.heap.size (Maps.size D) D left cnt ∧ ss.length + cnt ≤ Maps.size D ∧ Met D left ss ∧ (∀ y ∈ ss, c y ≠ 0 ∧ ∀ g, N y = some g → g.refs = (c y : Int) ∧ ¬ (g.k0 = 0 ∧ g.k1 = 0 ∧ g.k2 = 0 ∧ g.k3 = 0)) ∧ Below w.heap.size w wr)
    (fun _ wr => wr.rangeLeft bn w.heap.size)
  case atStart =>
    exact ⟨_, _, [], hrg0, by simp, Met.start D, by simp, (Below.refl _ _).grown hg0 (Nat.le_refl _) (fun j hj => by cases hj)⟩
  case round =>
    obtain ⟨left, cnt, ss, hrg, hcs, hC, hall, hnx⟩ := hrel
    go_wp2_with (first
      | (at_next; refine wpList_next_ranges _ rfl _ rfl 3 intKeyed anyElem (Value.int .i64) (fun u : Value => u) (fun key kl hk => by obtain ⟨x, hx, _⟩ := Maps.keyOf_int_inv Tryz.underlying3 hk; exact ⟨x, hx⟩) (fun v y _ => ⟨v, rfl⟩) bn w.heap.size (Maps.size D) _ _ _ rfl hrg ?_ ?_)
      | go_in)
    · intro hc0 hl0
      have hp := HP.out ss hC.1 (fun x => by rw [hC.2 x, hl0]; simp)
      have HYES := Lib.hid (HF.out fun y hy => hall y (hp.mem_iff.2 hy))
      have HX := Lib.hid hnx
      clear hl0 hp hnx hC hall
      go_wp2
      go_ret
      first | exact ⟨⟨true, rfl, by simpa using HYES.out⟩, HX.out⟩ | exact ⟨.inr ⟨rfl, HYES.out⟩, HX.out⟩
    · intro x' c' kl yd yp w2 cnt2 hkey hlk hv hat hrg2 hlt hg2 hs2 hen
      obtain ⟨y, ex, rfl, hyb⟩ := Maps.keyOf_int_inv Tryz.underlying3 hkey
      obtain rfl : x' = y := by injection ex
      have hyd : yd = .held c' := by
        simp only [anyElem, Option.some.injEq, Prod.mk.injEq] at hv
        exact hv.1.symm
      subst hyd
      have hC2 := hC.step hlk hat
      obtain ⟨hx, g, hg, rfl⟩ := HV.out x' c' (has_true_of_atKey hat) hat
      obtain ⟨k0, k1, k2, k3, rf⟩ := g
      have hxr := HKR.out x' hx
      have hb2 := hnx.grown hg2 hnx.size (fun j hj => by cases hj; omega)
      have hG2 := HGB.out w2 hb2
      have Q1 := Lib.hid (cntV_get c x')
      have b3 := (Below.refl w2.heap.size w2).alloc (Nat.le_refl _) (.cells #[.int .i64 k0, .int .i64 k1, .int .i64 k2, .int .i64 k3, .int .i64 rf] 81)
      have hG3 := hG2.below b3
      have hrg3 := hrg2.alloc (.cells #[.int .i64 k0, .int .i64 k1, .int .i64 k2, .int .i64 k3, .int .i64 rf] 81)
      have HB3 := Lib.hid (belowThen hb2 b3)
      have HBX := Lib.hid (HB.out x' hx)
      have HGX := Lib.hid hg
      have hbd := hcb x'
      clear hs2 hat hC hg hb2 hv
      unfold gnV at hen ⊢
      by_cases hc0 : c x' = 0
      · have Q2 := Lib.hid (show (cntV c x').isSome = false by unfold cntV; rw [if_pos hc0]; rfl)
        have HNO := Lib.hid (show ¬ PP from fun p => (HBX.out p).1 hc0)
        clear hc0 hC2 hall b3
        go_wp2_with (first
          | (at_lookup; refine wpList_lookOkG rfl _ _ 152 rfl 3 Tryz.underlying152 _ (Tryz.zeroInt _) b2 ks _ rfl hG3 x' rfl (by omega) _ false Q1.out Q2.out ?_)
          | go_in)
        go_ret
        first | exact ⟨⟨false, rfl, by simpa using HNO.out⟩, HB3.out⟩ | exact ⟨.inl ⟨rfl, HNO.out⟩, HB3.out⟩
      · have Q2 := Lib.hid (show (cntV c x').isSome = true by unfold cntV; rw [if_neg hc0]; rfl)
        have HC0 := Lib.hid hc0
        have HCL := Lib.hid (cl1_any (w2.alloc (.cells #[.int .i64 k0, .int .i64 k1, .int .i64 k2, .int .i64 k3, .int .i64 rf] 81)) k0 k1 k2 k3 rf (c x' : Int))
        clear hc0 b3
        go_wp2_with (first
          | (at_lookup; refine wpList_lookOkG rfl _ _ 152 rfl 3 Tryz.underlying152 _ (Tryz.zeroInt _) b2 ks _ rfl hG3 x' rfl (by omega) _ true Q1.out Q2.out ?_)
          | fail)
        ((with_reducible refine HCL.out.mono ?_); rintro e w4 ⟨⟨r, rfl, hr⟩, hb4⟩)
        have hrg4 := hrg3.kept (row := none) ⟨hb4.os, hb4.tape, hb4.output, hb4.size, fun k hk _ => hb4.block k hk⟩ (by simp) (by simp)
        have HB4 := Lib.hid (belowThen HB3.out hb4)
        have HR := Lib.hid hr
        have HALL := Lib.hid hall
        have HM2 := Lib.hid hC2
        clear hb4 hr HCL hall hC2
        cases r with
        | true =>
          have hok := HR.out.1 rfl
          go_wp2
          go_roundw
          case rel =>
            refine ⟨_, cnt2, ss ++ [x'], hrg4, by simp; omega, HM2.out, fun y hy => ?_, HB4.out⟩
            rcases List.mem_append.1 hy with hy | hy
            · exact HALL.out y hy
            · rw [List.mem_singleton] at hy
              subst hy
              refine ⟨HC0.out, fun g hg => ?_⟩
              rw [HGX.out] at hg
              cases hg
              exact hok
          case measure => rw [hrg4.left_eq, hrg.left_eq]; exact hlt
        | false =>
          have HNO := Lib.hid (show ¬ PP from fun p => by have := HR.out.2 ((HBX.out p).2 _ HGX.out); cases this)
          go_wp2
          go_ret
          first | exact ⟨⟨false, rfl, by simpa using HNO.out⟩, HB4.out⟩ | exact ⟨.inl ⟨rfl, HNO.out⟩, HB4.out⟩

/-- The blocks agree with counts. -/
def EqB (nk : List Int) (N : Int → Option GB) (c : Int → Nat) : Prop := (∀ n, n ∈ nk ↔ c n ≠ 0) ∧ ∀ n g, N n = some g → g.refs = (c n : Int) ∧ 1 ≤ g.data.size ∧ g.data.size ≤ 6

set_option maxHeartbeats 2000000 in
set_option maxRecDepth 100000 in
theorem equalB_any (w : World) (bn b2 K : Nat) (nk : List Int) (N : Int → Option GB) (c : Int → Nat) (hM : MapG w bn nk (fun m => (N m).map gbV)) (hC : CntAt w b2 K c) (hl : nk.length ≤ 1000) (hkr : ∀ m ∈ nk, -1000000 ≤ m ∧ m ≤ 1000000) :
    Calls Tryz.prog 111 #[.map (some bn), .map (some b2), .func (.func 112) #[] #[]] w fun e w' => (∃ r, e = .returned (.bool r) ∧ (r = true ↔ EqB nk N c)) ∧ Below w.heap.size w w' := by
  obtain ⟨ks, hG, hks, hcb⟩ := hC
  have hbl := hM.lt
  obtain ⟨a, ha⟩ : ∃ a, nk.length = a := ⟨_, rfl⟩
  obtain ⟨z, hz⟩ : ∃ z, ks.length = z := ⟨_, rfl⟩
  have HA := Lib.hid ha
  have HZ := Lib.hid hz
  have hGG := hG
  obtain ⟨_, _, _, _, hk3, hk4⟩ := hG
  have hkm : ∀ n, n ∈ ks ↔ c n ≠ 0 := fun n => by
    rw [← hk3 n]
    unfold cntV
    split
    · rename_i e; simp [e]
    · rename_i e; simp [e]
  obtain ⟨D, hD, h1, h2, h3, h4⟩ := hM
  have hsize := MapG.size_eq hD h1 h3 h4
  by_cases hlen : ¬ a = z
  · have hne : ((a : Int) != (z : Int)) = true := by simp; omega
    have HE := Lib.hid (show ¬ EqB nk N c from fun x => hlen (by
      rw [← HA.out, ← HZ.out]
      exact ((List.perm_ext_iff_of_nodup h4 hk4).2 fun n => by rw [x.1 n, hkm n]).length_eq))
    have hM' : MapG w bn nk (fun m => (N m).map gbV) := ⟨D, hD, h1, h2, h3, h4⟩
    clear hlen hkm hsize h1 h2 h3 h4 hD hk3 hk4
    go_enter Tryz.func111, Tryz.ntmps111
    go_wp2_with (first
      | (at_len; refine wpList_lenMapG rfl _ 95 rfl 77 Tryz.underlying95 bn nk _ rfl hM' a HA.out ?_)
      | (at_len; refine wpList_lenMapG rfl _ 152 rfl 3 Tryz.underlying152 b2 ks _ rfl hGG z HZ.out ?_)
      | fail)
    go_ret
    first | exact ⟨⟨false, rfl, by simpa using HE.out⟩, Below.refl _ _⟩ | exact ⟨.inl ⟨rfl, HE.out⟩, Below.refl _ _⟩
  replace hlen : a = z := Classical.not_not.1 hlen
  have hne : ((a : Int) != (z : Int)) = false := by simp; omega
  have hM' : MapG w bn nk (fun m => (N m).map gbV) := ⟨D, hD, h1, h2, h3, h4⟩
  have HP := Lib.hid (show ∀ ss : List Int, ss.Nodup → (∀ x, x ∈ ss ↔ Maps.has D (.int .i64 x) = true) → ss.Perm nk from fun ss hn hm => (List.perm_ext_iff_of_nodup hn h4).2 fun x => by rw [hm x, h1 x, h3 x])
  have HV := Lib.hid (fun (m : Int) (u : Value) (hh : Maps.has D (.int .i64 m) = true) (hat : ∀ zd, D.atKey (.int .i64 m) zd = .held u) => show m ∈ nk ∧ ∃ g, N m = some g ∧ u = gbV g from by
    rw [h1 m] at hh
    obtain ⟨g', hg'⟩ := Option.isSome_iff_exists.1 hh
    have e := h2 m g' .nil hg'
    rw [hat] at e
    injection e with e
    cases hN : N m with
    | none => simp [hN] at hg'
    | some g =>
      simp only [hN, Option.map_some, Option.some.injEq] at hg'
      exact ⟨(h3 m).1 hh, g, rfl, by rw [e, ← hg']⟩)
  have HF := Lib.hid (show (∀ y ∈ nk, c y ≠ 0 ∧ ∀ g, N y = some g → g.refs = (c y : Int) ∧ 1 ≤ g.data.size ∧ g.data.size ≤ 6) → EqB nk N c from fun hall => by
    have hsub : ∀ x ∈ nk, x ∈ ks := fun x hx => (hkm x).2 (hall x hx).1
    have hfull := sub_full nk ks h4 hsub (by rw [HA.out, HZ.out]; omega)
    refine ⟨fun n => ⟨fun hn => (hall n hn).1, fun hn => hfull n ((hkm n).2 hn)⟩, fun n g hg => (hall n ?_).2 g hg⟩
    exact (h3 n).1 (by simp [hg]))
  have HB := Lib.hid (show ∀ y ∈ nk, EqB nk N c → c y ≠ 0 ∧ ∀ g, N y = some g → g.refs = (c y : Int) ∧ 1 ≤ g.data.size ∧ g.data.size ≤ 6 from fun y hy x => ⟨(x.1 y).1 hy, fun g hg => x.2 y g hg⟩)
  have HKR := Lib.hid hkr
  have hn0 : Maps.size D ≤ 1000 := by omega
  have HGB := Lib.hid (fun w' (hb : Below w.heap.size w w') => hGG.below hb)
  obtain ⟨PP, hPP⟩ : ∃ PP : Prop, EqB nk N c = PP := ⟨_, rfl⟩
  rw [hPP] at HF HB ⊢
  clear hlen hkm hsize h1 h2 h3 h4 hk3 hk4 ha hz hkr hPP
  go_enter Tryz.func111, Tryz.ntmps111
  go_wp2_with (first
    | (at_len; refine wpList_lenMapG rfl _ 95 rfl 77 Tryz.underlying95 bn nk _ rfl hM' a HA.out ?_)
    | (at_len; refine wpList_lenMapG rfl _ 152 rfl 3 Tryz.underlying152 b2 ks _ rfl hGG z HZ.out ?_)
    | (at_range; refine wpList_range_own _ rfl _ 95 rfl 3 77 intKeyed Tryz.underlying95 _ bn (Maps.size D) _ rfl hD ?_; intro w0 hrg0 hg0 hs0)
    | go_in)
  go_frame
  clear hM'
  go_loopw [7] (fun _ wr => ∃ (left : Lit → Bool) (cnt : Nat) (ss : List Int), wr.ranges Tryz.prog 3 anyElem bn w.heap.size (Maps.size D) D left cnt ∧ ss.length + cnt ≤ Maps.size D ∧ Met D left ss ∧ (∀ y ∈ ss, c y ≠ 0 ∧ ∀ g, N y = some g → g.refs = (c y : Int) ∧ 1 ≤ g.data.size ∧ g.data.size ≤ 6) ∧ Below w.heap.size w wr)
    (fun _ wr => wr.rangeLeft bn w.heap.size)
  case atStart =>
    exact ⟨_, _, [], hrg0, by simp, Met.start D, by simp, (Below.refl _ _).grown hg0 (Nat.le_refl _) (fun j hj => by cases hj)⟩
  case round =>
    obtain ⟨left, cnt, ss, hrg, hcs, hC, hall, hnx⟩ := hrel
    go_wp2_with (first
      | (at_next; refine wpList_next_ranges _ rfl _ rfl 3 intKeyed anyElem (Value.int .i64) (fun u : Value => u) (fun key kl hk => by obtain ⟨x, hx, _⟩ := Maps.keyOf_int_inv Tryz.underlying3 hk; exact ⟨x, hx⟩) (fun v y _ => ⟨v, rfl⟩) bn w.heap.size (Maps.size D) _ _ _ rfl hrg ?_ ?_)
      | go_in)
    · intro hc0 hl0
      have hp := HP.out ss hC.1 (fun x => by rw [hC.2 x, hl0]; simp)
      have HYES := Lib.hid (HF.out fun y hy => hall y (hp.mem_iff.2 hy))
      have HX := Lib.hid hnx
      clear hl0 hp hnx hC hall
      go_wp2
      go_ret
      first | exact ⟨⟨true, rfl, by simpa using HYES.out⟩, HX.out⟩ | exact ⟨.inr ⟨rfl, HYES.out⟩, HX.out⟩
    · intro x' c' kl yd yp w2 cnt2 hkey hlk hv hat hrg2 hlt hg2 hs2 hen
      obtain ⟨y, ex, rfl, hyb⟩ := Maps.keyOf_int_inv Tryz.underlying3 hkey
      obtain rfl : x' = y := by injection ex
      have hyd : yd = .held c' := by
        simp only [anyElem, Option.some.injEq, Prod.mk.injEq] at hv
        exact hv.1.symm
      subst hyd
      have hC2 := hC.step hlk hat
      obtain ⟨hx, g, hg, rfl⟩ := HV.out x' c' (has_true_of_atKey hat) hat
      obtain ⟨s, rf⟩ := g
      have hxr := HKR.out x' hx
      have hb2 := hnx.grown hg2 hnx.size (fun j hj => by cases hj; omega)
      have hG2 := HGB.out w2 hb2
      have Q1 := Lib.hid (cntV_get c x')
      have b3 := (Below.refl w2.heap.size w2).alloc (Nat.le_refl _) (.cells #[.string s, .int .i64 rf] 77)
      have hG3 := hG2.below b3
      have hrg3 := hrg2.alloc (.cells #[.string s, .int .i64 rf] 77)
      have HB3 := Lib.hid (belowThen hb2 b3)
      have HBX := Lib.hid (HB.out x' hx)
      have HGX := Lib.hid hg
      have hbd := hcb x'
      clear hs2 hat hC hg hb2 hv
      unfold gbV at hen ⊢
      by_cases hc0 : c x' = 0
      · have Q2 := Lib.hid (show (cntV c x').isSome = false by unfold cntV; rw [if_pos hc0]; rfl)
        have HNO := Lib.hid (show ¬ PP from fun p => (HBX.out p).1 hc0)
        clear hc0 hC2 hall b3
        go_wp2_with (first
          | (at_lookup; refine wpList_lookOkG rfl _ _ 152 rfl 3 Tryz.underlying152 _ (Tryz.zeroInt _) b2 ks _ rfl hG3 x' rfl (by omega) _ false Q1.out Q2.out ?_)
          | go_in)
        go_ret
        first | exact ⟨⟨false, rfl, by simpa using HNO.out⟩, HB3.out⟩ | exact ⟨.inl ⟨rfl, HNO.out⟩, HB3.out⟩
      · have Q2 := Lib.hid (show (cntV c x').isSome = true by unfold cntV; rw [if_neg hc0]; rfl)
        have HC0 := Lib.hid hc0
        have HCL := Lib.hid (cl2_any (w2.alloc (.cells #[.string s, .int .i64 rf] 77)) s rf (c x' : Int))
        clear hc0 b3
        go_wp2_with (first
          | (at_lookup; refine wpList_lookOkG rfl _ _ 152 rfl 3 Tryz.underlying152 _ (Tryz.zeroInt _) b2 ks _ rfl hG3 x' rfl (by omega) _ true Q1.out Q2.out ?_)
          | fail)
        ((with_reducible refine HCL.out.mono ?_); rintro e w4 ⟨⟨r, rfl, hr⟩, hb4⟩)
        have hrg4 := hrg3.kept (row := none) ⟨hb4.os, hb4.tape, hb4.output, hb4.size, fun k hk _ => hb4.block k hk⟩ (by simp) (by simp)
        have HB4 := Lib.hid (belowThen HB3.out hb4)
        have HR := Lib.hid hr
        have HALL := Lib.hid hall
        have HM2 := Lib.hid hC2
        clear hb4 hr HCL hall hC2
        cases r with
        | true =>
          have hok := HR.out.1 rfl
          go_wp2
          go_roundw
          case rel =>
            refine ⟨_, cnt2, ss ++ [x'], hrg4, by simp; omega, HM2.out, fun y hy => ?_, HB4.out⟩
            rcases List.mem_append.1 hy with hy | hy
            · exact HALL.out y hy
            · rw [List.mem_singleton] at hy
              subst hy
              refine ⟨HC0.out, fun g hg => ?_⟩
              rw [HGX.out] at hg
              cases hg
              exact hok
          case measure => rw [hrg4.left_eq, hrg.left_eq]; exact hlt
        | false =>
          have HNO := Lib.hid (show ¬ PP from fun p => by have := HR.out.2 ((HBX.out p).2 _ HGX.out); cases this)
          go_wp2
          go_ret
          first | exact ⟨⟨false, rfl, by simpa using HNO.out⟩, HB4.out⟩ | exact ⟨.inl ⟨rfl, HNO.out⟩, HB4.out⟩
end Go.Proofs.YtlgahdabhnhjgaaGreatDoor

/- Regions that draw their order, whose operations read and whose callees only make new memory: one walk in the order of the text. -/
namespace Go.Proofs.YtlgahdabhnhjgaaGreatDoor
open Go.RowKit

/-- A world that has all that was, and perhaps more. -/
structure Gr (w : World) where
  val : World
  ok : Below w.heap.size w val

instance (w : World) : Nonempty (Gr w) := ⟨⟨w, Below.refl _ _⟩⟩

theorem wp_region_grow {P : Program} {id : Nat} {Q : Exit → Act → World → Prop} {a : Act} {w : World} {l : List Oper} (hm : P.follows .mixedOrders = true) (hB : Region.lexB .any l.toArray = true)
    (h : wpQuiet P l.toArray (fun w' => ∃ o : Gr w, w' = o.val) (fun a' => ∀ w', (∃ o : Gr w, w' = o.val) → Q .normal a' w') l a) : (Code.region id l.toArray true).wp P Q a w :=
  wp_region_quiet (C := fun w' => ∃ o : Gr w, w' = o.val) hm hB ⟨⟨_, (Below.refl _ _).drew⟩, rfl⟩ (by simpa using h)

/-- A callee's contract, met in such a world. -/
theorem Calls.grow {P : Program} {f : FuncId} {args : Array Value} {w : World} {v : Value} (o : Gr w) (h : Calls P f args o.val fun e w' => e = .returned v ∧ Below o.val.heap.size o.val w') : Calls P f args o.val fun e w' => e = .returned v ∧ ∃ o' : Gr w, w' = o'.val :=
  h.mono fun _ _ ⟨he, hb⟩ => ⟨he, ⟨_, belowThen o.ok hb⟩, rfl⟩
end Go.Proofs.YtlgahdabhnhjgaaGreatDoor
