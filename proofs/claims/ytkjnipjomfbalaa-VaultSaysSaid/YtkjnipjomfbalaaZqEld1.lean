/- Package vault: Eldest. -/
import Derived.Test.YtkjnipjomfbalaaZqKeptM
import Derived.Test.YtkjnipjomfbalaaZqRVau5
import Derived.Test.YtkjnipjomfbalaaZqAsIdx
import Derived.Test.YtkjnipjomfbalaaZqRCopy
import Derived.Test.YtkjnipjomfbalaaZqRVau1
import Derived.Test.YtkjnipjomfbalaaZqVau4
import Derived.Test.YtkjnipjomfbalaaZqVau1
import Derived.Test.YtkjnipjomfbalaaZqRVau4
import Derived.Test.YtkjnipjomfbalaaZqPoolS
/- counterfoillaw.keptRef: an act on the reference's vault. -/
namespace Go.Proofs.Ytkjnipjomfbalaa
open Go.RowKit Go.Maps

/-- The reference's vault lies somewhere. -/
def RVauIn (w : World) (u : Nat) (V : VauM) : Prop := ∃ g B lv, RVauAt w u g B lv V
theorem RVauIn.below {w w' : World} {u : Nat} {V : VauM} (h : RVauIn w u V) (hb : Below w.heap.size w w') : RVauIn w' u V := by
  obtain ⟨g, B, lv, h⟩ := h
  exact ⟨g, B, lv, h.below hb⟩
theorem rbs_from {B v g : Nat} {lv : Value} {w : World} {n : Nat} {xs : List Value} (h : B ≤ v ∧ B ≤ g) (ho : w.ownsRow B 47 4 lv n xs) : ∀ b ∈ rbs v g lv, B ≤ b := by
  intro b hb
  simp only [rbs, List.mem_cons, Option.mem_toList] at hb
  rcases hb with rfl | rfl | hb
  · exact h.1
  · exact h.2
  · exact (World.ownsRow.lt ho b hb).1
theorem rret_below {w1 w2 w3 : World} {v g B : Nat} {lv : Value} {V V' : VauM} {ne : Int} {u : Value} {e : Ending} (h : RVauAt w2 v g B lv V) (hf : B ≤ v ∧ B ≤ g) (hB : B ≤ w1.heap.size) (hb : Below B w1 w2) (hr : RVauRet w2 v g B lv V' ne u e w3) : Below B w1 w3 :=
  hb.trans (hr.2.2.below (Nat.le_trans hB hb.size) (rbs_from hf h.pts))

set_option maxHeartbeats 4000000 in
set_option maxRecDepth 100000 in
theorem keptRef_any (w : World) (v g B : Nat) (lv : Value) (V V' : VauM) (m : ActM) (ps : List (Int × ByteArray)) (h : RVauAt w v g B lv V) (hB : B ≤ w.heap.size) (hV : V.Ok) (hps : PutList w m.pA ps) (hpg : ∀ a, 0 < ps.length → m.pA = some a → a.block ≠ g) (hpl : ps.length = m.pL) (ne : Int) (n : Nat) (he : keptE V m ps = ne) (hn : keptN V m ps = n) (hV' : keptV V m ps = V') :
    Calls Try.prog 11 #[.pointer (some ⟨v, 0, none⟩), .agg (actArr m)] w fun e w' => e = .returned (.tuple #[.int .i64 n, .int .i64 ne]) ∧ (ne = 0 → RVauIn w' v V') ∧ Turn (rbs v g lv) w w' := by
  have hb0 : Below w.heap.size w (w.alloc (.cells (actArr m) 33)) := (Below.refl _ _).alloc (Nat.le_refl _) _
  have e0 : (w.alloc (.cells (actArr m) 33)).cell? ⟨w.heap.size, 0, none⟩ = some (.string m.kind) := cell_of_row _ _ _ _ _ _ (heap_alloc_new _ _)
  have e2 : (w.alloc (.cells (actArr m) 33)).cell? ⟨w.heap.size, 2, none⟩ = some (.int .i64 m.a) := cell_of_row _ _ _ _ _ _ (heap_alloc_new _ _)
  have e3 : (w.alloc (.cells (actArr m) 33)).cell? ⟨w.heap.size, 3, none⟩ = some (.int .i64 m.b) := cell_of_row _ _ _ _ _ _ (heap_alloc_new _ _)
  have e4 : (w.alloc (.cells (actArr m) 33)).cell? ⟨w.heap.size, 4, none⟩ = some (.int .i64 m.c) := cell_of_row _ _ _ _ _ _ (heap_alloc_new _ _)
  have e7 : (w.alloc (.cells (actArr m) 33)).cell? ⟨w.heap.size, 7, none⟩ = some (.slice m.pA m.pL m.pC) := cell_of_row _ _ _ _ _ _ (heap_alloc_new _ _)
  generalize hw1 : w.alloc (.cells (actArr m) 33) = w1 at hb0 e0 e2 e3 e4 e7
  have H2 := Lib.hid (h.below hb0)
  have HPS := Lib.hid (hps.below hb0)
  have HB0 := Lib.hid (Turn.of_below (bs := rbs v g lv) hb0)
  obtain ⟨gz, hgz⟩ : ∃ gz, w.heap.size = gz := ⟨_, rfl⟩
  rw [hgz] at e0 e2 e3 e4 e7
  have hs1 : w.heap.size ≤ w1.heap.size := hb0.size
  have hB1 : B ≤ w1.heap.size := Nat.le_trans hB hs1
  clear hps h hb0
  cases hk0 : (m.kind.toList == [105, 110, 103, 101, 115, 116]) with
  | true =>
    have hk0' : kIngest m = true := hk0
    have he' : ingestErr V m.a m.b m.c ps = ne := by rw [← he]; unfold keptE; rw [if_pos hk0']
    have hn' : (if ne = 0 then V.next else 0) = n := by rw [← hn]; unfold keptN; rw [if_pos hk0', he']
    have hv' : ingestV V m.a m.b m.c ps = V' := by rw [← hV']; unfold keptV; rw [if_pos hk0']
    have hi := ringest_any w1 v g B lv V V' m.a m.b m.c m.pA m.pC ps H2.out hV hB1 HPS.out hpg ne n he' hn' hv'
    rw [hpl] at hi
    have HI := Lib.hid hi
    clear hi he hn hV' he' hn' hv' hk0'
    go_enter Try.func11, Try.ntmps11
    go_wp2_with fail
    ((with_reducible refine HI.out.mono ?_); rintro e w3 hret)
    obtain ⟨rfl, hv3, t3⟩ := hret
    clear HI e0 e2 e3 e4 e7
    go_wp2
    go_ret2
    exact ⟨rfl, fun h0 => by obtain ⟨lv3, h3⟩ := hv3 h0; exact ⟨g, _, lv3, h3⟩, HB0.out.trans t3⟩
  | false =>
  cases hk1 : (m.kind.toList == [97, 103, 97, 105, 110]) with
  | true =>
    have hk0' : ¬ kIngest m = true := by unfold kIngest; simp [hk0]
    have hk1' : kAgain m = true := hk1
    have he' : againErr V m.a = ne := by rw [← he]; unfold keptE; rw [if_neg hk0', if_pos hk1']
    have hn' : (if ne = 0 then V.next else 0) = n := by rw [← hn]; unfold keptN; rw [if_neg hk0', if_pos hk1', he']
    have hv' : againV V m.a = V' := by rw [← hV']; unfold keptV; rw [if_neg hk0', if_pos hk1']
    have HI := Lib.hid (ragain_any w1 v g B lv V V' m.a H2.out hV hB1 ne n he' hn' hv')
    clear he hn hV' he' hn' hv' hk0' hk1'
    go_enter Try.func11, Try.ntmps11
    go_wp2_with fail
    ((with_reducible refine HI.out.mono ?_); rintro e w3 hret)
    obtain ⟨rfl, hv3, t3⟩ := hret
    clear HI e0 e2 e3 e4 e7
    go_wp2
    go_ret2
    exact ⟨rfl, fun h0 => by obtain ⟨lv3, h3⟩ := hv3 h0; exact ⟨g, _, lv3, h3⟩, HB0.out.trans t3⟩
  | false =>
  cases hk2 : (m.kind.toList == [100, 114, 111, 112]) with
  | true =>
    have hk0' : ¬ kIngest m = true := by unfold kIngest; simp [hk0]
    have hk1' : ¬ kAgain m = true := by unfold kAgain; simp [hk1]
    have hk2' : kDrop m = true := hk2
    have he' : dropErr V m.a = ne := by rw [← he]; unfold keptE; rw [if_neg hk0', if_neg hk1', if_pos hk2']
    have hn' : n = 0 := by rw [← hn]; unfold keptN; rw [if_neg hk0', if_neg hk1']
    have hv' : dropV V m.a = V' := by rw [← hV']; unfold keptV; rw [if_neg hk0', if_neg hk1', if_pos hk2']
    subst hn'
    have HI := Lib.hid (rdrop_any w1 v g B lv V V' m.a H2.out hV hB1 ne he' hv')
    clear he hn hV' he' hv' hk0' hk1' hk2'
    go_enter Try.func11, Try.ntmps11
    go_wp2_with fail
    ((with_reducible refine HI.out.mono ?_); rintro e w3 hret)
    obtain ⟨rfl, hv3, t3⟩ := hret
    clear HI e0 e2 e3 e4 e7
    go_wp2
    go_ret2
    exact ⟨rfl, fun h0 => by obtain ⟨lv3, h3⟩ := hv3 h0; exact ⟨g, _, lv3, h3⟩, HB0.out.trans t3⟩
  | false =>
    have hk0' : ¬ kIngest m = true := by unfold kIngest; simp [hk0]
    have hk1' : ¬ kAgain m = true := by unfold kAgain; simp [hk1]
    have hk2' : ¬ kDrop m = true := by unfold kDrop; simp [hk2]
    have he' : ne = 0 := by rw [← he]; unfold keptE; rw [if_neg hk0', if_neg hk1', if_neg hk2']
    have hn' : n = 0 := by rw [← hn]; unfold keptN; rw [if_neg hk0', if_neg hk1']
    have hv' : V = V' := by rw [← hV']; unfold keptV; rw [if_neg hk0', if_neg hk1', if_neg hk2']
    subst he' hn' hv'
    clear he hn hV' hk0' hk1' hk2'
    go_enter Try.func11, Try.ntmps11
    go_wp2
    go_ret2
    exact ⟨rfl, fun _ => ⟨g, _, lv, H2.out⟩, HB0.out⟩
end Go.Proofs.Ytkjnipjomfbalaa

/- counterfoillaw.asVault, of the same vault. -/
namespace Go.Proofs.Ytkjnipjomfbalaa
open Go.RowKit Go.Maps

set_option maxHeartbeats 2000000 in
set_option maxRecDepth 100000 in
theorem asVault_yes (w : World) (v x gp bp bn B m gm B' : Nat) (lv lm : Value) (V : VauM) (h : VauAt w v x gp bp bn B lv V) (hm : RVauAt w m gm B' lm V) (hV : V.Ok) :
    Calls Try.prog 13 #[.pointer (some ⟨v, 0, none⟩), .pointer (some ⟨m, 0, none⟩)] w fun e w' => e = .returned (.bool true) ∧ Below w.heap.size w w' := by
  have c0 := h.cell0
  have c1 := h.cell1
  have c2 := h.cell2
  have r0 := hm.cell0
  have r1 := hm.cell1
  have r2 := hm.cell2
  obtain ⟨t, ht⟩ : ∃ t, V.next = t := ⟨_, rfl⟩
  rw [ht] at c2 r2
  have bt : ((t : Int) != (t : Int)) = false := by simp
  have KEEP := Lib.hid (fun w' (hb : Below w.heap.size w w') => show w'.cell? ⟨v, 0, none⟩ = some (.pointer (some ⟨x, 0, none⟩)) ∧ w'.cell? ⟨v, 1, none⟩ = some lv ∧ w'.cell? ⟨v, 2, none⟩ = some (.int .i64 t) ∧ w'.cell? ⟨m, 0, none⟩ = some (.pointer (some ⟨gm, 0, none⟩)) ∧ w'.cell? ⟨m, 1, none⟩ = some lm ∧ w'.cell? ⟨m, 2, none⟩ = some (.int .i64 t) from ⟨belowKept hb c0, belowKept hb c1, belowKept hb c2, belowKept hb r0, belowKept hb r1, belowKept hb r2⟩)
  have HAI := Lib.hid (fun w' (hb : Below w.heap.size w w') => asIndex_yes w' x gp bp bn 1000 gm V.X (h.idx.below hb) (hm.idx.below hb))
  have HSP := Lib.hid (fun w' (hb : Below w.heap.size w w') => samePts_any w' B B' lv lm V.L (h.below hb).pts (hm.below hb).pts hV.len)
  clear h hm ht
  go_enter Try.func13, Try.ntmps13
  go_wp2_with fail
  go_region_held3 (fun w' => w'.cell? ⟨v, 0, none⟩ = some (.pointer (some ⟨x, 0, none⟩)) ∧ w'.cell? ⟨v, 2, none⟩ = some (.int .i64 t) ∧ w'.cell? ⟨m, 0, none⟩ = some (.pointer (some ⟨gm, 0, none⟩)) ∧ w'.cell? ⟨m, 2, none⟩ = some (.int .i64 t)) (first | exact ⟨c0, c2, r0, r2⟩ | exact ⟨(KEEP.out _ (Below.trans (b := w.drew) (Below.refl _ _).drew hb1)).1, (KEEP.out _ (Below.trans (b := w.drew) (Below.refl _ _).drew hb1)).2.2.1, (KEEP.out _ (Below.trans (b := w.drew) (Below.refl _ _).drew hb1)).2.2.2.1, (KEEP.out _ (Below.trans (b := w.drew) (Below.refl _ _).drew hb1)).2.2.2.2.2⟩)
    (first | (go_at_call 31; refine (HAI.out _ (Below.refl _ _).drew).mono ?_; rintro e w1 ⟨rfl, hb1⟩))
  all_goals
    have hb1' := Below.trans (b := w.drew) (Below.refl w.heap.size w).drew hb1
    obtain ⟨k0, k1, k2, k3, k4, k5⟩ := KEEP.out _ hb1'
    have HS1 := Lib.hid (HSP.out w1.drew (hb1'.drew))
    have HB1 := Lib.hid hb1'
    clear c0 c1 c2 r0 r1 r2 HAI KEEP HSP k0 k2 k3 k5 hb1
    go_wp2_with fail
    go_region_held3 (fun w' => w'.cell? ⟨v, 1, none⟩ = some lv ∧ w'.cell? ⟨m, 1, none⟩ = some lm) (first | exact ⟨k1, k4⟩ | exact ⟨belowKept (w := w1.drew) hb2 k1, belowKept (w := w1.drew) hb2 k4⟩)
      (first | (go_at_call 32; refine HS1.out.mono ?_; rintro e w2 ⟨rfl, hb2⟩))
    all_goals
      clear k1 k4 HS1
      go_wp2
      go_ret
      exact ⟨rfl, belowThen HB1.out (Below.trans (b := w1.drew) (Below.refl w1.heap.size w1).drew hb2)⟩
end Go.Proofs.Ytkjnipjomfbalaa

/- Package vault: Eldest. -/
namespace Go.Proofs.Ytkjnipjomfbalaa
open Go.RowKit Go.Maps

set_option maxHeartbeats 1000000 in
set_option maxRecDepth 100000 in
theorem eldest_any (w : World) (v x gp bp bn B : Nat) (lv : Value) (V : VauM) (disk keep : Int) (h : VauAt w v x gp bp bn B lv V) (hV : V.Ok) (hkp : keep ≤ 9223372036854775807) (l : List Int) (n : Nat) (hl : eldestL V.L disk keep = l) (hn : l.length = n) :
    Calls Try.prog 19 #[.pointer (some ⟨v, 0, none⟩), .int .i64 disk, .int .i64 keep] w (RetS w l n) := by
  obtain ⟨i0, hi, hz0, hz1, hz2⟩ := info_parts Try.infoInt
  have hl6 := hV.len
  have c1 := h.cell1
  obtain ⟨N, hN⟩ : ∃ N, V.L.length = N := ⟨_, rfl⟩
  obtain ⟨A, c, hlv⟩ := ownsRow_slice h.pts
  rw [hN] at hlv
  rw [hlv] at c1
  have hN6 : N ≤ 6 := by omega
  have HH := Lib.hid h
  have HL := Lib.hid hl
  have HLN := Lib.hid hn
  clear hl hn h
  go_enter Try.func19, Try.ntmps19
  go_wp2
  go_loopw [7, 15] (fun u i w' => ∃ k : Nat, k ≤ N ∧ i = .int .i64 k ∧ OwnInts w' w.heap.size u (eldUp V.L disk k) ∧ Below w.heap.size w w') (fun _ i _ => N - (intOf i).toNat)
  case atStart => exact ⟨0, Nat.zero_le _, rfl, World.ownsRow_nil _ _ _ _, Below.refl _ _⟩
  case round =>
    obtain ⟨k, hk, rfl, hO, hb0⟩ := hrel
    by_cases hlt : k < N
    · have hlt' : k < V.L.length := by omega
      obtain ⟨b, c', e1, q1, q2, q3⟩ := (HH.out.below hb0).pt hlt'
      rw [hlv, hN] at e1
      injection e1 with e1 _ e1c
      subst e1 e1c
      have d0 : wr.cell? ⟨b, k * 4, none⟩ = some (.int .i64 V.L[k].id) := q3 0 (by omega)
      have d1 : wr.cell? ⟨b, k * 4 + 1, none⟩ = some (.int .i64 V.L[k].disk) := q3 1 (by omega)
      have d2 : wr.cell? ⟨b, k * 4 + 2, none⟩ = some (.int .i64 V.L[k].size) := q3 2 (by omega)
      have d3 : wr.cell? ⟨b, k * 4 + 3, none⟩ = some (.int .i64 V.L[k].root) := q3 3 (by omega)
      have hD := eldUp_succ V.L disk k hlt'
      have hlen := eldUp_len V.L disk k
      have hsz := hb0.size
      rw [hN] at q1
      generalize V.L[k] = p at *
      have b3 := (Below.refl wr.heap.size wr).alloc (Nat.le_refl _) (.cells #[.int .i64 p.id, .int .i64 p.disk, .int .i64 p.size, .int .i64 p.root] 47)
      have e3 := heap_alloc_new wr (.cells #[.int .i64 p.id, .int .i64 p.disk, .int .i64 p.size, .int .i64 p.root] 47)
      have g0 : (wr.alloc (.cells #[.int .i64 p.id, .int .i64 p.disk, .int .i64 p.size, .int .i64 p.root] 47)).cell? ⟨wr.heap.size, 0, none⟩ = some (.int .i64 p.id) := cell_of_row _ _ _ _ _ _ e3
      have g1 : (wr.alloc (.cells #[.int .i64 p.id, .int .i64 p.disk, .int .i64 p.size, .int .i64 p.root] 47)).cell? ⟨wr.heap.size, 1, none⟩ = some (.int .i64 p.disk) := cell_of_row _ _ _ _ _ _ e3
      have hO3 := hO.below b3
      have hb3 := belowThen hb0 b3
      have hsz3 := hb3.size
      clear q3 hO e3
      by_cases hd : (p.disk : Int) = disk
      · have hd' : ((p.disk : Int) == disk) = true := by simpa using hd
        rw [if_pos hd] at hD
        have HD := Lib.hid hD
        have hnew := cell_one_new (wr.alloc (.cells #[.int .i64 p.id, .int .i64 p.disk, .int .i64 p.size, .int .i64 p.root] 47)) (.int .i64 (p.id : Int)) 3
        rw [show (wr.alloc (.cells #[.int .i64 p.id, .int .i64 p.disk, .int .i64 p.size, .int .i64 p.root] 47)).heap.size = wr.heap.size + 1 by simp] at hnew
        have HNEW := Lib.hid hnew
        clear hD hd hnew
        go_wp2_with (at_builtin; refine wpList_append_own _ rfl _ _ 51 rfl w.heap.size 3 i0 (.int .i64 0) 1 8 Try.underlying51 hi hz0 hz1 hz2 rfl (by decide) _ _ _ rfl (World.ownsRow.alloc hO3 _) ⟨wr.heap.size + 1, 0, none⟩ 1 1 [.int .i64 (p.id : Int)] rfl rfl (HNEW.out) (by simp [Value.oneCell']) (by unfold maxLen; omega) (by omega) (by simp; omega) ?_; intro v' w3 hown' hg3 hnil3)
        go_wp2
        go_roundw
        case rel => exact ⟨k + 1, hlt, by go_num, by rw [HD.out]; unfold OwnInts; simpa using hown', (hb3.alloc hsz3 _).grown hg3 (by simp; omega) (fun j hj => (World.ownsRow.lt hO3 j hj).1)⟩
        case measure => simp [intOf]; omega
      · have hd' : ((p.disk : Int) == disk) = false := by simpa using hd
        rw [if_neg hd] at hD
        have HD := Lib.hid hD
        clear hD hd
        go_wp2
        go_roundw
        case rel => exact ⟨k + 1, hlt, by go_num, by rw [HD.out]; exact hO3, hb3⟩
        case measure => simp [intOf]; omega
    · obtain rfl : k = N := by omega
      rw [← hN] at hO
      obtain ⟨A', c', hu, hI, _⟩ := hO.at_
      have hcap : (eldUp V.L disk V.L.length).length ≤ c' := by
        have h2 := hO.2
        rw [hu] at h2
        rcases h2 with ⟨h1, h0⟩ | ⟨g, cap, cur, h1, _, _, h3, _⟩
        · omega
        · injection h1 with _ _ h1; omega
      have hlen := eldUp_len V.L disk V.L.length
      have HE := eldestL_len V.L disk keep
      obtain ⟨e, he⟩ : ∃ e, (eldUp V.L disk V.L.length).length = e := ⟨_, rfl⟩
      rw [he] at hlen hu hcap HE
      rw [HL.out, HLN.out] at HE
      subst hu
      have hI2 : IntsAt wr A' l := by
        have := hI.take ((eldUp V.L disk V.L.length).length - keep.toNat)
        rw [← HL.out]; exact this
      have HI := Lib.hid hI2
      have j1 : max (0 : Int) (IntKind.i64.wrap ((e : Int) - max 0 keep)) = (n : Int) := by
        rw [IntWalk.i64_in _ (by omega)]
        omega
      have J4 := Lib.hid (show (max (0 : Int) ((e : Int) - max 0 keep)).toNat = n by omega)
      have j2 : (0 : Int) ≤ (n : Int) := by omega
      have j3 : (n : Int) ≤ (c' : Int) := by omega
      clear hI hI2 hO he HE
      go_wp2
      go_ret
      exact ⟨A', c', by rw [← J4.out]; rfl, HI.out, hb0⟩
end Go.Proofs.Ytkjnipjomfbalaa
