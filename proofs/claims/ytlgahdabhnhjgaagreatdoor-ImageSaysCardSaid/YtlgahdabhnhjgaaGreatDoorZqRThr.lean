/- The document's numbers as texts: Decimal, three. -/
import Derived.Test.YtlgahdabhnhjgaaGreatDoorZqKept
import Derived.Test.YtlgahdabhnhjgaaGreatDoorZqRVau5
import Derived.Test.YtlgahdabhnhjgaaGreatDoorZqAsIdx
import Derived.Test.YtlgahdabhnhjgaaGreatDoorZqRVau4
import Derived.Test.YtlgahdabhnhjgaaGreatDoorZqRVau1
import Derived.Test.YtlgahdabhnhjgaaGreatDoorZqVau4
import Derived.Test.YtlgahdabhnhjgaaGreatDoorZqRng
import Derived.Test.YtlgahdabhnhjgaaGreatDoorZqImM
import Derived.Deep.AppendLies
import Derived.Test.YtlgahdabhnhjgaaGreatDoorZqNums
import Derived.Lib.ItoaNum
/- counterfoillaw.keptRef: an act on the reference's vault. -/
namespace Go.Proofs.YtlgahdabhnhjgaaGreatDoor
open Go.RowKit Go.Maps

/-- The reference's vault lies somewhere. -/
def RVauIn (w : World) (u : Nat) (V : VauM) : Prop := ∃ g B lv, RVauAt w u g B lv V
theorem RVauIn.below {w w' : World} {u : Nat} {V : VauM} (h : RVauIn w u V) (hb : Below w.heap.size w w') : RVauIn w' u V := by
  obtain ⟨g, B, lv, h⟩ := h
  exact ⟨g, B, lv, h.below hb⟩
theorem rbs_from {B v g : Nat} {lv : Value} {w : World} {n : Nat} {xs : List Value} (h : B ≤ v ∧ B ≤ g) (ho : w.ownsRow B 60 4 lv n xs) : ∀ b ∈ rbs v g lv, B ≤ b := by
  intro b hb
  simp only [rbs, List.mem_cons, Option.mem_toList] at hb
  rcases hb with rfl | rfl | hb
  · exact h.1
  · exact h.2
  · exact (World.ownsRow.lt ho b hb).1
theorem rret_below {w1 w2 w3 : World} {v g B : Nat} {lv : Value} {V V' : VauM} {ne : Int} {u : Value} {e : Ending} (h : RVauAt w2 v g B lv V) (hf : B ≤ v ∧ B ≤ g) (hB : B ≤ w1.heap.size) (hb : Below B w1 w2) (hr : RVauRet w2 v g B lv V' ne u e w3) : Below B w1 w3 :=
  hb.trans (hr.2.2.below (Nat.le_trans hB hb.size) (rbs_from hf h.pts))

set_option maxHeartbeats 4000000 in
set_option maxRecDepth 100000 in
theorem keptRef_any (w : World) (v g B : Nat) (lv : Value) (V V' : VauM) (m : ActM) (ps : List (Int × ByteArray)) (h : RVauAt w v g B lv V) (hB : B ≤ w.heap.size) (hV : V.Ok) (hps : PutList w m.pA ps) (hpg : ∀ a, 0 < ps.length → m.pA = some a → a.block ≠ g) (hpl : ps.length = m.pL) (ne : Int) (n : Nat) (he : keptE V m ps = ne) (hn : keptN V m ps = n) (hV' : keptV V m ps = V') :
    Calls Tryz.prog 14 #[.pointer (some ⟨v, 0, none⟩), .agg (actArr m)] w fun e w' => e = .returned (.tuple #[.int .i64 n, .int .i64 ne]) ∧ (ne = 0 → RVauIn w' v V') ∧ Turn (rbs v g lv) w w' := by
  have hb0 : Below w.heap.size w (w.alloc (.cells (actArr m) 38)) := (Below.refl _ _).alloc (Nat.le_refl _) _
  have e0 : (w.alloc (.cells (actArr m) 38)).cell? ⟨w.heap.size, 0, none⟩ = some (.string m.kind) := cell_of_row _ _ _ _ _ _ (heap_alloc_new _ _)
  have e2 : (w.alloc (.cells (actArr m) 38)).cell? ⟨w.heap.size, 2, none⟩ = some (.int .i64 m.a) := cell_of_row _ _ _ _ _ _ (heap_alloc_new _ _)
  have e3 : (w.alloc (.cells (actArr m) 38)).cell? ⟨w.heap.size, 3, none⟩ = some (.int .i64 m.b) := cell_of_row _ _ _ _ _ _ (heap_alloc_new _ _)
  have e4 : (w.alloc (.cells (actArr m) 38)).cell? ⟨w.heap.size, 4, none⟩ = some (.int .i64 m.c) := cell_of_row _ _ _ _ _ _ (heap_alloc_new _ _)
  have e7 : (w.alloc (.cells (actArr m) 38)).cell? ⟨w.heap.size, 7, none⟩ = some (.slice m.pA m.pL m.pC) := cell_of_row _ _ _ _ _ _ (heap_alloc_new _ _)
  generalize hw1 : w.alloc (.cells (actArr m) 38) = w1 at hb0 e0 e2 e3 e4 e7
  have H2 := Lib.hid (h.below hb0)
  have HPS := Lib.hid (hps.below hb0)
  have HB0 := Lib.hid (Turn.of_below (bs := rbs v g lv) hb0)
  obtain ⟨gz, hgz⟩ : ∃ gz, w.heap.size = gz := ⟨_, rfl⟩
  rw [hgz] at e0 e2 e3 e4 e7
  have hs1 : w.heap.size ≤ w1.heap.size := hb0.size
  have hB1 : B ≤ w1.heap.size := Nat.le_trans hB hs1
  clear hps h hb0
  cases hk0 : (m.kind.toList == [105, 110, 103, 101, 115, 116]) with
  | true =>
    have hk0' : kIngest m = true := hk0
    have he' : ingestErr V m.a m.b m.c ps = ne := by rw [← he]; unfold keptE; rw [if_pos hk0']
    have hn' : (if ne = 0 then V.next else 0) = n := by rw [← hn]; unfold keptN; rw [if_pos hk0', he']
    have hv' : ingestV V m.a m.b m.c ps = V' := by rw [← hV']; unfold keptV; rw [if_pos hk0']
    have hi := ringest_any w1 v g B lv V V' m.a m.b m.c m.pA m.pC ps H2.out hV hB1 HPS.out hpg ne n he' hn' hv'
    rw [hpl] at hi
    have HI := Lib.hid hi
    clear hi he hn hV' he' hn' hv' hk0'
    go_enter Tryz.func14, Tryz.ntmps14
    go_wp2_with fail
    ((with_reducible refine HI.out.mono ?_); rintro e w3 hret)
    obtain ⟨rfl, hv3, t3⟩ := hret
    clear HI e0 e2 e3 e4 e7
    go_wp2
    go_ret2
    exact ⟨rfl, fun h0 => by obtain ⟨lv3, h3⟩ := hv3 h0; exact ⟨g, _, lv3, h3⟩, HB0.out.trans t3⟩
  | false =>
  cases hk1 : (m.kind.toList == [97, 103, 97, 105, 110]) with
  | true =>
    have hk0' : ¬ kIngest m = true := by unfold kIngest; simp [hk0]
    have hk1' : kAgain m = true := hk1
    have he' : againErr V m.a = ne := by rw [← he]; unfold keptE; rw [if_neg hk0', if_pos hk1']
    have hn' : (if ne = 0 then V.next else 0) = n := by rw [← hn]; unfold keptN; rw [if_neg hk0', if_pos hk1', he']
    have hv' : againV V m.a = V' := by rw [← hV']; unfold keptV; rw [if_neg hk0', if_pos hk1']
    have HI := Lib.hid (ragain_any w1 v g B lv V V' m.a H2.out hV hB1 ne n he' hn' hv')
    clear he hn hV' he' hn' hv' hk0' hk1'
    go_enter Tryz.func14, Tryz.ntmps14
    go_wp2_with fail
    ((with_reducible refine HI.out.mono ?_); rintro e w3 hret)
    obtain ⟨rfl, hv3, t3⟩ := hret
    clear HI e0 e2 e3 e4 e7
    go_wp2
    go_ret2
    exact ⟨rfl, fun h0 => by obtain ⟨lv3, h3⟩ := hv3 h0; exact ⟨g, _, lv3, h3⟩, HB0.out.trans t3⟩
  | false =>
  cases hk2 : (m.kind.toList == [100, 114, 111, 112]) with
  | true =>
    have hk0' : ¬ kIngest m = true := by unfold kIngest; simp [hk0]
    have hk1' : ¬ kAgain m = true := by unfold kAgain; simp [hk1]
    have hk2' : kDrop m = true := hk2
    have he' : dropErr V m.a = ne := by rw [← he]; unfold keptE; rw [if_neg hk0', if_neg hk1', if_pos hk2']
    have hn' : n = 0 := by rw [← hn]; unfold keptN; rw [if_neg hk0', if_neg hk1']
    have hv' : dropV V m.a = V' := by rw [← hV']; unfold keptV; rw [if_neg hk0', if_neg hk1', if_pos hk2']
    subst hn'
    have HI := Lib.hid (rdrop_any w1 v g B lv V V' m.a H2.out hV hB1 ne he' hv')
    clear he hn hV' he' hv' hk0' hk1' hk2'
    go_enter Tryz.func14, Tryz.ntmps14
    go_wp2_with fail
    ((with_reducible refine HI.out.mono ?_); rintro e w3 hret)
    obtain ⟨rfl, hv3, t3⟩ := hret
    clear HI e0 e2 e3 e4 e7
    go_wp2
    go_ret2
    exact ⟨rfl, fun h0 => by obtain ⟨lv3, h3⟩ := hv3 h0; exact ⟨g, _, lv3, h3⟩, HB0.out.trans t3⟩
  | false =>
    have hk0' : ¬ kIngest m = true := by unfold kIngest; simp [hk0]
    have hk1' : ¬ kAgain m = true := by unfold kAgain; simp [hk1]
    have hk2' : ¬ kDrop m = true := by unfold kDrop; simp [hk2]
    have he' : ne = 0 := by rw [← he]; unfold keptE; rw [if_neg hk0', if_neg hk1', if_neg hk2']
    have hn' : n = 0 := by rw [← hn]; unfold keptN; rw [if_neg hk0', if_neg hk1']
    have hv' : V = V' := by rw [← hV']; unfold keptV; rw [if_neg hk0', if_neg hk1', if_neg hk2']
    subst he' hn' hv'
    clear he hn hV' hk0' hk1' hk2'
    go_enter Tryz.func14, Tryz.ntmps14
    go_wp2
    go_ret2
    exact ⟨rfl, fun _ => ⟨g, _, lv, H2.out⟩, HB0.out⟩
end Go.Proofs.YtlgahdabhnhjgaaGreatDoor

/- counterfoillaw.asVault, of the same vault. -/
namespace Go.Proofs.YtlgahdabhnhjgaaGreatDoor
open Go.RowKit Go.Maps

set_option maxHeartbeats 2000000 in
set_option maxRecDepth 100000 in
theorem asVault_yes (w : World) (v x gp bp bn B m gm B' : Nat) (lv lm : Value) (V : VauM) (h : VauAt w v x gp bp bn B lv V) (hm : RVauAt w m gm B' lm V) (hV : V.Ok) :
    Calls Tryz.prog 20 #[.pointer (some ⟨v, 0, none⟩), .pointer (some ⟨m, 0, none⟩)] w fun e w' => e = .returned (.bool true) ∧ Below w.heap.size w w' := by
  have c0 := h.cell0
  have c1 := h.cell1
  have c2 := h.cell2
  have r0 := hm.cell0
  have r1 := hm.cell1
  have r2 := hm.cell2
  obtain ⟨t, ht⟩ : ∃ t, V.next = t := ⟨_, rfl⟩
  rw [ht] at c2 r2
  have bt : ((t : Int) != (t : Int)) = false := by simp
  have KEEP := Lib.hid (fun w' (hb : Below w.heap.size w w') => show w'.cell? ⟨v, 0, none⟩ = some (.pointer (some ⟨x, 0, none⟩)) ∧ w'.cell? ⟨v, 1, none⟩ = some lv ∧ w'.cell? ⟨v, 2, none⟩ = some (.int .i64 t) ∧ w'.cell? ⟨m, 0, none⟩ = some (.pointer (some ⟨gm, 0, none⟩)) ∧ w'.cell? ⟨m, 1, none⟩ = some lm ∧ w'.cell? ⟨m, 2, none⟩ = some (.int .i64 t) from ⟨belowKept hb c0, belowKept hb c1, belowKept hb c2, belowKept hb r0, belowKept hb r1, belowKept hb r2⟩)
  have HAI := Lib.hid (fun w' (hb : Below w.heap.size w w') => asIndex_yes w' x gp bp bn 1000 gm V.X (h.idx.below hb) (hm.idx.below hb))
  have HSP := Lib.hid (fun w' (hb : Below w.heap.size w w') => samePts_any w' B B' lv lm V.L (h.below hb).pts (hm.below hb).pts hV.len)
  clear h hm ht
  go_enter Tryz.func20, Tryz.ntmps20
  go_wp2_with fail
  go_region_held3 (fun w' => w'.cell? ⟨v, 0, none⟩ = some (.pointer (some ⟨x, 0, none⟩)) ∧ w'.cell? ⟨v, 2, none⟩ = some (.int .i64 t) ∧ w'.cell? ⟨m, 0, none⟩ = some (.pointer (some ⟨gm, 0, none⟩)) ∧ w'.cell? ⟨m, 2, none⟩ = some (.int .i64 t)) (first | exact ⟨c0, c2, r0, r2⟩ | exact ⟨(KEEP.out _ (Below.trans (b := w.drew) (Below.refl _ _).drew hb1)).1, (KEEP.out _ (Below.trans (b := w.drew) (Below.refl _ _).drew hb1)).2.2.1, (KEEP.out _ (Below.trans (b := w.drew) (Below.refl _ _).drew hb1)).2.2.2.1, (KEEP.out _ (Below.trans (b := w.drew) (Below.refl _ _).drew hb1)).2.2.2.2.2⟩)
    (first | (go_at_call 45; refine (HAI.out _ (Below.refl _ _).drew).mono ?_; rintro e w1 ⟨rfl, hb1⟩))
  all_goals
    have hb1' := Below.trans (b := w.drew) (Below.refl w.heap.size w).drew hb1
    obtain ⟨k0, k1, k2, k3, k4, k5⟩ := KEEP.out _ hb1'
    have HS1 := Lib.hid (HSP.out w1.drew (hb1'.drew))
    have HB1 := Lib.hid hb1'
    clear c0 c1 c2 r0 r1 r2 HAI KEEP HSP k0 k2 k3 k5 hb1
    go_wp2_with fail
    go_region_held3 (fun w' => w'.cell? ⟨v, 1, none⟩ = some lv ∧ w'.cell? ⟨m, 1, none⟩ = some lm) (first | exact ⟨k1, k4⟩ | exact ⟨belowKept (w := w1.drew) hb2 k1, belowKept (w := w1.drew) hb2 k4⟩)
      (first | (go_at_call 46; refine HS1.out.mono ?_; rintro e w2 ⟨rfl, hb2⟩))
    all_goals
      clear k1 k4 HS1
      go_wp2
      go_ret
      exact ⟨rfl, belowThen HB1.out (Below.trans (b := w1.drew) (Below.refl w1.heap.size w1).drew hb2)⟩
end Go.Proofs.YtlgahdabhnhjgaaGreatDoor

/- Both vaults side by side: one of them while the other turns; are they the same? -/
namespace Go.Proofs.YtlgahdabhnhjgaaGreatDoor
open Go.RowKit Go.Maps

theorem asVaultS (w : World) (v m : Nat) (V : VauM) (h : VauIn w v V) (hm : RVauIn w m V) (hV : V.Ok) :
    Calls Tryz.prog 20 #[.pointer (some ⟨v, 0, none⟩), .pointer (some ⟨m, 0, none⟩)] w fun e w' => e = .returned (.bool true) ∧ Below w.heap.size w w' := by
  obtain ⟨x, gp, bp, bn, B, lv, h⟩ := h
  obtain ⟨g, B', lm, hm⟩ := hm
  exact asVault_yes w v x gp bp bn B m g B' lv lm V h hm hV
/-- The reference's vault, behind a turn of others' blocks. -/
theorem RVauAt.farTurn {w w' : World} {m g S : Nat} {lm : Value} {V : VauM} {bs : List Nat} (h : RVauAt w m g S lm V) (ht : Turn bs w w') (hb : ∀ b ∈ bs, b < S) (hm : S ≤ m) (hg : S ≤ g) : RVauAt w' m g S lm V := by
  have far : ∀ k, S ≤ k → k ∉ bs := fun k hk hm => by have := hb k hm; omega
  exact ⟨(ht.block m h.lt (far m hm)).trans h.row, h.idx.turn ht (far g hg), ownsRow_keep h.pts fun b hb => ht.block b (World.ownsRow.lt h.pts b hb).2 (far b (World.ownsRow.lt h.pts b hb).1), h.ne, h.pne⟩
/-- A vault, behind a turn of blocks that lie from S1 to S2. -/
theorem VauAt.farTurn {w w' : World} {v x gp bp bn B S1 S2 : Nat} {lv : Value} {V : VauM} {bs : List Nat} (h : VauAt w v x gp bp bn B lv V) (ht : Turn bs w w') (hb : ∀ b ∈ bs, S1 ≤ b ∧ b < S2) (h5 : v < S1 ∧ x < S1 ∧ gp < S1 ∧ bp < S1 ∧ bn < S1) (hlv : ∀ b, lv.ownBlock = some b → b < S1 ∨ S2 ≤ b) : VauAt w' v x gp bp bn B lv V := by
  have far : ∀ k, k < S1 ∨ S2 ≤ k → k ∉ bs := fun k hk hm => by have := hb k hm; omega
  exact ⟨(ht.block v h.lt (far v (by omega))).trans h.row, h.idx.turn ht (far x (by omega)) (far gp (by omega)) (far bp (by omega)) (far bn (by omega)), ownsRow_keep h.pts fun b hb => ht.block b (World.ownsRow.lt h.pts b hb).2 (far b (hlv b hb))⟩
theorem ActAt.putsLt {w : World} {N b off : Nat} {m : ActM} (h : ActAt w N b off m) (a : Addr) (h0 : 0 < m.pL) (ha : m.pA = some a) : a.block < N := by
  obtain ⟨_, _, h3, _⟩ := h
  obtain ⟨b, off, s, e, hlt, _⟩ := h3.2 0 h0
  rw [ha] at e
  injection e with e
  subst e
  exact hlt
end Go.Proofs.YtlgahdabhnhjgaaGreatDoor

/- An act that is kept is an act of a fill. -/
namespace Go.Proofs.YtlgahdabhnhjgaaGreatDoor
open Go.RowKit Go.Maps

theorem kept_fill {V : VauM} {m : ActM} {ps : List (Int × ByteArray)} (he : keptE V m ps = 0) : keptV V m ps = fillV V m ps := by
  unfold keptE kIngest kAgain kDrop at he
  unfold keptV fillV kIngest kAgain kDrop
  by_cases h0 : (m.kind.toList == [105, 110, 103, 101, 115, 116]) = true
  · rw [if_pos h0] at he
    rw [if_pos h0, if_pos h0, if_pos he]
  · rw [if_neg h0] at he
    rw [if_neg h0, if_neg h0]
    by_cases h1 : (m.kind.toList == [97, 103, 97, 105, 110]) = true
    · rw [if_pos h1] at he
      rw [if_pos h1, if_pos h1, if_pos he]
    · rw [if_neg h1] at he
      rw [if_neg h1, if_neg h1]
      by_cases h2 : (m.kind.toList == [100, 114, 111, 112]) = true
      · rw [if_pos h2] at he
        rw [if_pos h2, if_pos h2, if_pos he]
      · rw [if_neg h2, if_neg h2]
/-- In order, small, full and short. -/
def Sound (V : VauM) : Prop := V.Ok ∧ Full V.X ∧ Small V.X.P ∧ Short V
theorem sound_empty : Sound emptyVau := ⟨vau_empty, full_empty, small_empty, short_empty⟩
theorem sound_kept {V : VauM} (h : Sound V) (m : ActM) (ps : List (Int × ByteArray)) (he : keptE V m ps = 0) : Sound (keptV V m ps) := by
  rw [kept_fill he]
  exact ⟨fillV_ok h.1 m ps, full_fill h.2.1 m ps, small_fill h.2.2.1 m ps, fillV_short h.1 h.2.2.2 m ps⟩
end Go.Proofs.YtlgahdabhnhjgaaGreatDoor

/- Laws of memory alone: one aggregate laid into a row of its own (the first step of an append of a struct). -/
namespace Go.Proofs.YtlgahdabhnhjgaaGreatDoor
open Go.RowKit

theorem foldl_set (off : Nat) : ∀ (l : List Value) (k : Nat) (a : Array Value), off + k + l.length ≤ a.size →
    (l.zipIdx k).foldl (fun cs (x : Value × Nat) => cs.setIfInBounds (off + x.2) x.1) a = (a.toList.take (off + k) ++ l ++ a.toList.drop (off + k + l.length)).toArray
  | [], k, a, _ => by simp
  | v :: rest, k, a, h => by
    have h' : off + k + (rest.length + 1) ≤ a.size := by simpa [Nat.add_assoc] using h
    rw [List.zipIdx_cons, List.foldl_cons, foldl_set off rest (k + 1) _ (by simp; omega)]
    have e := list_seg_step a.toList (off + k) v rest (by simpa using h')
    simp only [Array.toList_setIfInBounds, List.length_cons]
    rw [show off + (k + 1) = off + k + 1 from rfl, e]

theorem fill_one (m : Nat) (zs cs : Array Value) (hz : zs.size = m) (hc : cs.size = m) : Instr.fill (fun i => some (i * m, m)) zs [(0, .agg cs)] = some cs := by
  have h := foldl_set 0 cs.toList 0 zs (by simp; omega)
  simp only [Instr.fill, Value.cells, hc, Nat.zero_mul, Nat.zero_add, hz]
  rw [if_neg (by simp)]
  simp only [Nat.zero_add, List.take_zero, List.nil_append] at h
  rw [List.drop_eq_nil_of_le (by simp; omega)] at h
  have e : cs.zipIdx.foldl (fun cs (x : Value × Nat) => cs.setIfInBounds x.2 x.1) zs = cs := by
    rw [← Array.foldl_toList, Array.toList_zipIdx]
    simpa using h
  rw [e]

section
variable {P : Program}
theorem run_buildOne (w : World) (t e : TypeId) (i : TypeInfo) (z : Value) (m : Nat) (ht : P.underlying t = some (.slice e)) (hi : P.info? e = some i) (hz : i.zero = some z) (hs : i.size = m) (hm : 0 < m) (hm2 : m ≤ 16777216)
    (cs : Array Value) (hc : cs.size = m) : (Instr.buildSlice t 1 #[(0, .agg cs)]).run P w = .ok (.slice (some ⟨w.heap.size, 0, none⟩) 1 1) (w.alloc (.cells cs e)) := by
  have n1 : ¬ (2 ^ 24 < m) := by simp; omega
  have n2 : ¬ m = 0 := by omega
  have hf := fill_one m ((Array.range m).map (z.cells[· % z.cells.size]!)) cs (by simp) hc
  simp [Instr.buildSlice, run_underlying ht, sizeOf, typeInfo, hi, hs, n2, zeroValue, hz, newRow]
  rw [if_neg (by simpa using n1)]
  simp [hf]
theorem step_buildOne {ops : Array Oper} {o : Oper} {a : Act} {w : World} {K : Act → World → Prop} {Q : Exit → Act → World → Prop} {E : Prop} (hgd : o.guard = none) (t : TypeId) (x : Operand) (ho : o.op = .buildSlice t 1 #[(0, x)])
    (cs : Array Value) (hx : a.eval x = .agg cs) (e : TypeId) (hrun : (Instr.buildSlice t 1 #[(0, .agg cs)]).run P w = .ok (.slice (some ⟨w.heap.size, 0, none⟩) 1 1) (w.alloc (.cells cs e)))
    (hK : K (a.put o.dst (.slice (some ⟨w.heap.size, 0, none⟩) 1 1)) (w.alloc (.cells cs e))) :
    if Region.wanted o (yielded ops a.tmps) = true then Oper.wp P o a w K Q else E := by
  have hw : Region.wanted o (yielded ops a.tmps) = true := by simp [Region.wanted, hgd]
  rw [if_pos hw]
  unfold Oper.wp execOp
  simp only [ho, List.map_toArray, List.map_cons, List.map_nil, hx, Sem.run_bind, hrun, Result.andThen_ok, Sem.run_pure]
  exact hK

/-- One cell laid into a row of its own, as a step of a region that draws its order; the world behind it is a letter. -/
theorem step_build1 {ops : Array Oper} {o : Oper} {a : Act} {w : World} {K : Act → World → Prop} {Q : Exit → Act → World → Prop} {E : Prop} (hgd : o.guard = none) (t : TypeId) (x : Operand) (ho : o.op = .buildSlice t 1 #[(0, x)])
    (v : Value) (hx : a.eval x = v) (e : TypeId) (i : TypeInfo) (z : Value) (ht : P.underlying t = some (.slice e)) (hi : P.info? e = some i) (hz : i.zero = some z) (hs : i.size = 1) (hv : v.cells = #[v])
    (hK : ∀ N w', N = w.heap.size → w'.heap[N]? = some (.cells #[v] e (0, 0)) → Go.RowKit.Below w.heap.size w w' → N < w'.heap.size → K (a.put o.dst (.slice (some ⟨N, 0, none⟩) 1 1)) w') :
    if Region.wanted o (yielded ops a.tmps) = true then Oper.wp P o a w K Q else E := by
  have hw : Region.wanted o (yielded ops a.tmps) = true := by simp [Region.wanted, hgd]
  rw [if_pos hw]
  have hrun : (Instr.buildSlice t 1 #[(0, v)]).run P w = .ok (.slice (some ⟨w.heap.size, 0, none⟩) 1 1) (w.alloc (.cells #[v] e)) := by
    have hf : Instr.fill (fun i => some (i * 1, 1)) ((Array.range 1).map (z.cells[· % z.cells.size]!)) [(0, v)] = some #[v] := by
      simp only [Instr.fill, hv]
      rw [if_neg (by simp)]
      simp
      rw [show Array.range 1 = #[0] from rfl]
      simp
    simp only [Nat.mul_one] at hf
    simp [Instr.buildSlice, run_underlying ht, sizeOf, typeInfo, hi, hs, zeroValue, hz, newRow]
    simp [hf]
  unfold Oper.wp execOp
  simp only [ho, List.map_toArray, List.map_cons, List.map_nil, hx, Sem.run_bind, hrun, Result.andThen_ok, Sem.run_pure]
  exact hK _ _ rfl (heap_alloc_new _ _) ((Go.RowKit.Below.refl _ _).alloc (Nat.le_refl _) _) (by simp)

/-- A text out of bytes that lie in a row, as a step of a region that draws its order. -/
theorem step_text {ops : Array Oper} {o : Oper} {a : Act} {w : World} {K : Act → World → Prop} {Q : Exit → Act → World → Prop} {E : Prop} (hgd : o.guard = none) (src dst : TypeId) (x : Operand) (ho : o.op = .convert src dst x)
    (g n cap : Nat) (l : List UInt8) (hx : a.eval x = .slice (some ⟨g, 0, none⟩) n cap) (hn : l.length = n) (e : TypeId) (hs : P.underlying src = some (.slice e)) (he : P.underlying e = some (.int .u8)) (hd : P.underlying dst = some .string)
    (t : TypeId) (fr : Nat × Nat) (cs : Array Value) (hcs : (bv l).toArray = cs) (hrow : w.heap[g]? = some (.cells cs t fr)) (T : ByteArray) (hT : (⟨l.toArray⟩ : ByteArray) = T) (hK : K (a.put o.dst (.string T)) w) :
    if Region.wanted o (yielded ops a.tmps) = true then Oper.wp P o a w K Q else E := by
  have hw : Region.wanted o (yielded ops a.tmps) = true := by simp [Region.wanted, hgd]
  rw [if_pos hw]
  subst hn hcs hT
  have hrun := run_text_at (P := P) w src dst e g 0 cap l hs he hd (range_of_row hrow (fun j v hj => by simpa using hj))
  unfold Oper.wp execOp
  simp only [ho, hx, Sem.run_bind, hrun, Result.andThen_ok, Sem.run_pure]
  exact hK

theorem cut_all (cs : Array Value) (n : Nat) (h : cs.size = n) : cut cs 0 n = cs := by
  unfold cut
  rw [List.drop_zero, List.take_of_length_le (by simp; omega), Array.toArray_toList]
end
end Go.Proofs.YtlgahdabhnhjgaaGreatDoor

/- The document's numbers as texts: Decimal, three. -/
namespace Go.Proofs.YtlgahdabhnhjgaaGreatDoor
open Go.RowKit

/-- A number's digits as a text. -/
def dig (n : Nat) : ByteArray := ⟨(Lib.decDigits n).toArray⟩
theorem dig_size (n : Nat) : (dig n).size = (Lib.decDigits n).length := by simp [dig, ByteArray.size]
theorem dig_small : ∀ n : Nat, (Lib.decDigits n).length ≤ n + 1 := by
  intro n
  induction n using Nat.strongRecOn with
  | ind n ih =>
    rw [Lib.decDigits]
    split
    · simp
    · have := ih (n / 10) (by omega)
      simp; omega
theorem dig_one {n : Nat} (h : n < 10) : dig n = ⟨[UInt8.ofNat (48 + n)].toArray⟩ := by unfold dig; rw [Lib.decDigits, dif_pos h]
theorem dig_more {n : Nat} (h : ¬ n < 10) : dig n = dig (n / 10) ++ ⟨[UInt8.ofNat (48 + n % 10)].toArray⟩ := by
  unfold dig
  rw [Lib.decDigits, dif_neg h]
  apply ByteArray.ext
  simp

theorem Tryz.infoU8 : (Tryz.prog.info? 5).map (fun i => (i.zero, i.size, i.bytes)) = some (some (.int .u8 0), 1, 1) := by kernel_rfl

set_option maxHeartbeats 2000000 in
set_option maxRecDepth 100000 in
theorem decimal_any (n : Nat) : n ≤ 99999 → ∀ w : World, Calls Tryz.prog 73 #[.int .i64 n] w fun e w' => e = .returned (.string (dig n)) ∧ Below w.heap.size w w' := by
  induction n using Nat.strongRecOn with
  | ind n ih =>
    intro hn w
    by_cases h10 : n < 10
    · have d0 : decide ((n : Int) < 0) = false := decide_eq_false (by omega)
      have d1 : decide ((n : Int) < 10) = true := decide_eq_true (by omega)
      have hcv := run_text_at (P := Tryz.prog) (w.alloc (.cells #[.int .u8 (48 + (n : Int))] 5)) 121 9 5 w.heap.size 0 1 [UInt8.ofNat (48 + n)] Tryz.underlying121 Tryz.underlying5 Tryz.underlying9 (range_of_row (heap_alloc_new _ _) (fun j v hj => by
        have e2 : (48 + (n : Int)) % 256 = 48 + (n : Int) := by omega
        simpa [bv, e2] using hj))
      rw [show [UInt8.ofNat (48 + n)].length = 1 from rfl, ← dig_one h10] at hcv
      have HB := Lib.hid (show Below w.heap.size w (w.alloc (.cells #[.int .u8 (48 + (n : Int))] 5)) from (Below.refl _ _).alloc (Nat.le_refl _) _)
      have c1 : (n : Int) < 10 := by omega
      clear h10 ih
      go_enter Tryz.func73, Tryz.ntmps73
      go_wp2
      go_ret
      exact ⟨rfl, HB.out⟩
    · have d0 : decide ((n : Int) < 0) = false := decide_eq_false (by omega)
      have d1 : decide ((n : Int) < 10) = false := decide_eq_false (by omega)
      obtain ⟨inf, hinf, hz0, hz1, _⟩ := info_parts Tryz.infoU8
      have HIN := Lib.hid hinf
      obtain ⟨z, hz⟩ : ∃ z, inf.zero = some z := ⟨_, hz0⟩
      have HZ0 := Lib.hid hz
      have HZ1 := Lib.hid hz1
      obtain ⟨dl, hdl⟩ : ∃ dl, UInt8.ofNat (48 + n % 10) = dl := ⟨_, rfl⟩
      have HKD := Lib.hid (show (bv [dl]).toArray = #[.int .u8 (48 + (n : Int) % 10)] by
        have e2 : (48 + (n : Int) % 10) % 256 = 48 + (n : Int) % 10 := by omega
        simp [bv, ← hdl, e2])
      obtain ⟨t1, ht1⟩ : ∃ t1 : ByteArray, (⟨[dl].toArray⟩ : ByteArray) = t1 := ⟨_, rfl⟩
      have HT1 := Lib.hid ht1
      have hc := ih (n / 10) (by omega) (by omega)
      have hdg := dig_more h10
      rw [hdl, ht1] at hdg
      have hs1 : t1.size = 1 := by rw [← ht1]; rfl
      have hs2 := dig_small (n / 10)
      rw [← dig_size] at hs2
      obtain ⟨t0, ht0⟩ : ∃ t0, dig (n / 10) = t0 := ⟨_, rfl⟩
      rw [ht0] at hc hs2 hdg
      have HS := Lib.hid hdg
      rw [show (((n / 10 : Nat)) : Int) = (n : Int) / 10 by omega] at hc
      have HC := Lib.hid hc
      have hlim : ¬ (9223372036854775807 < t0.size + t1.size) := by omega
      have hB0 : Below w.heap.size w w.drew := (Below.refl _ _).drew
      have hm : (n : Int).tmod 10 = (n : Int) % 10 := Int.tmod_eq_emod_of_nonneg (by omega)
      have hq : IntKind.i64.wrap ((n : Int) / 10) = (n : Int) / 10 := IntWalk.i64_in _ (by omega)
      have hw1 : IntKind.i64.wrap (48 + (n : Int) % 10) = 48 + (n : Int) % 10 := IntWalk.i64_in _ (by omega)
      have hw2 : IntKind.u8.wrap (48 + (n : Int) % 10) = 48 + (n : Int) % 10 := by
        show (48 + (n : Int) % 10) % 256 = _
        omega
      clear h10 ih hinf hz0 hz hz1 hdl ht1 hc hs1 hs2 ht0 hdg
      go_enter Tryz.func73, Tryz.ntmps73
      go_wp2_with fail
      -- DEC WALK
      refine wp_region_any (by kernel_rfl) ?_
      (try (change wpAny _ _ _ _ _ _ _ (World.drew _)))
      refine wpAny_take (i := 0) (v := ?_) rfl (by kernel_rfl) (by kernel_rfl) (by kernel_rfl) (fun _ _ _ h => h) (Or.inl ⟨by rfl, ?_⟩) ?_
      rotate_left
      · intro w; go_simp; (try simp only [hm, hq, hw1, hw2]); (try with_reducible rfl)
      refine wpAny_take (i := 1) (v := ?_) rfl (by kernel_rfl) (by kernel_rfl) (by kernel_rfl) (fun _ _ _ h => h) (Or.inl ⟨by rfl, ?_⟩) ?_
      rotate_left
      · intro w; go_simp; (try simp only [hm, hq, hw1, hw2]); (try with_reducible rfl)
      refine wpAny_take (i := 3) (v := ?_) rfl (by kernel_rfl) (by kernel_rfl) (by kernel_rfl) (fun _ _ _ h => h) (Or.inl ⟨by rfl, ?_⟩) ?_
      rotate_left
      · intro w; go_simp; (try simp only [hm, hq, hw1, hw2]); (try with_reducible rfl)
      refine wpAny_take (i := 4) (v := ?_) rfl (by kernel_rfl) (by kernel_rfl) (by kernel_rfl) (fun _ _ _ h => h) (Or.inl ⟨by rfl, ?_⟩) ?_
      rotate_left
      · intro w; go_simp; (try simp only [hm, hq, hw1, hw2]); (try with_reducible rfl)
      refine wpAny_take (i := 5) (v := ?_) rfl (by kernel_rfl) (by kernel_rfl) (by kernel_rfl) (fun _ _ _ h => h) (Or.inl ⟨by rfl, ?_⟩) ?_
      rotate_left
      · intro w; go_simp; (try simp only [hm, hq, hw1, hw2]); (try with_reducible rfl)
      refine wpAny_take (i := 6) (v := ?_) rfl (by kernel_rfl) (by kernel_rfl) (by kernel_rfl) (fun _ _ _ h => h) (Or.inl ⟨by rfl, ?_⟩) ?_
      rotate_left
      · intro w; go_simp; (try simp only [hm, hq, hw1, hw2]); (try with_reducible rfl)
      refine wpAny_ready (rs := [2, 7]) (by kernel_rfl) (by simp) ?_
      refine AllReady.cons rfl (fun K hK => ?_) ?_
      · go_simp
        (with_reducible refine (HC.out _).mono ?_)
        rintro e v1 ⟨rfl, hb1⟩
        (try go_simp)
        refine hK _ _ ?_
        clear hK K
        have hB1 := belowThen hB0 hb1
        refine wpAny_ready (rs := [7]) (by kernel_rfl) (by simp) ?_
        refine AllReady.cons rfl (fun K hK => ?_) AllReady.nil
        refine step_build1 rfl 121 _ rfl (.int .u8 (48 + (n : Int) % 10)) (by first | (simp [Act.eval]; done) | (simp [Act.eval, Act.put]; done)) 5 inf z Tryz.underlying121 HIN.out HZ0.out HZ1.out rfl ?_
        intro N v2 hN hrow2 hb2 hlt2
        clear hN
        go_simp
        refine hK _ _ ?_
        clear hK K
        have hB2 := belowThen hB1 hb2
        refine wpAny_ready (rs := [8]) (by kernel_rfl) (by simp) ?_
        refine AllReady.cons rfl (fun K hK => ?_) AllReady.nil
        refine step_text rfl 121 9 _ rfl N 1 1 [dl] (by first | (simp [Act.eval]; done) | (simp [Act.eval, Act.put]; done)) rfl 5 Tryz.underlying121 Tryz.underlying5 Tryz.underlying9 5 (0, 0) #[.int .u8 (48 + (n : Int) % 10)] HKD.out hrow2 t1 HT1.out ?_
        go_simp
        refine hK _ _ ?_
        clear hK K
        refine wpAny_take (i := 9) (v := ?_) rfl (by kernel_rfl) (by kernel_rfl) (by kernel_rfl) (fun _ _ _ h => h) (Or.inl ⟨by rfl, ?_⟩) ?_
        rotate_left
        · intro w; go_simp; (try simp only [hm, hq, hw1, hw2]); (try with_reducible rfl)
        refine wpAny_take (i := 10) (v := ?_) rfl (by kernel_rfl) (by kernel_rfl) (by kernel_rfl) (fun _ _ _ h => h) (Or.inl ⟨by rfl, ?_⟩) ?_
        rotate_left
        · intro w; go_simp; (try simp only [hm, hq, hw1, hw2]); (try with_reducible rfl)
        refine wpAny_done (by kernel_rfl) ?_ _
        go_simp
        go_wp2
        go_ret
        exact ⟨by rw [HS.out]; rfl, hB2⟩
      refine AllReady.cons rfl (fun K hK => ?_) AllReady.nil
      refine step_build1 rfl 121 _ rfl (.int .u8 (48 + (n : Int) % 10)) (by first | (simp [Act.eval]; done) | (simp [Act.eval, Act.put]; done)) 5 inf z Tryz.underlying121 HIN.out HZ0.out HZ1.out rfl ?_
      intro N v1 hN hrow1 hb1 hlt1
      clear hN
      go_simp
      refine hK _ _ ?_
      clear hK K
      have hB1 := belowThen hB0 hb1
      refine wpAny_ready (rs := [2, 8]) (by kernel_rfl) (by simp) ?_
      refine AllReady.cons rfl (fun K hK => ?_) ?_
      · go_simp
        (with_reducible refine (HC.out _).mono ?_)
        rintro e v2 ⟨rfl, hb2⟩
        (try go_simp)
        refine hK _ _ ?_
        clear hK K
        have hB2 := belowThen hB1 hb2
        have hrow2 := (hb2.block N hlt1).trans hrow1
        have hlt2 := Nat.lt_of_lt_of_le hlt1 hb2.size
        refine wpAny_ready (rs := [8]) (by kernel_rfl) (by simp) ?_
        refine AllReady.cons rfl (fun K hK => ?_) AllReady.nil
        refine step_text rfl 121 9 _ rfl N 1 1 [dl] (by first | (simp [Act.eval]; done) | (simp [Act.eval, Act.put]; done)) rfl 5 Tryz.underlying121 Tryz.underlying5 Tryz.underlying9 5 (0, 0) #[.int .u8 (48 + (n : Int) % 10)] HKD.out hrow2 t1 HT1.out ?_
        go_simp
        refine hK _ _ ?_
        clear hK K
        refine wpAny_take (i := 9) (v := ?_) rfl (by kernel_rfl) (by kernel_rfl) (by kernel_rfl) (fun _ _ _ h => h) (Or.inl ⟨by rfl, ?_⟩) ?_
        rotate_left
        · intro w; go_simp; (try simp only [hm, hq, hw1, hw2]); (try with_reducible rfl)
        refine wpAny_take (i := 10) (v := ?_) rfl (by kernel_rfl) (by kernel_rfl) (by kernel_rfl) (fun _ _ _ h => h) (Or.inl ⟨by rfl, ?_⟩) ?_
        rotate_left
        · intro w; go_simp; (try simp only [hm, hq, hw1, hw2]); (try with_reducible rfl)
        refine wpAny_done (by kernel_rfl) ?_ _
        go_simp
        go_wp2
        go_ret
        exact ⟨by rw [HS.out]; rfl, hB2⟩
      refine AllReady.cons rfl (fun K hK => ?_) AllReady.nil
      refine step_text rfl 121 9 _ rfl N 1 1 [dl] (by first | (simp [Act.eval]; done) | (simp [Act.eval, Act.put]; done)) rfl 5 Tryz.underlying121 Tryz.underlying5 Tryz.underlying9 5 (0, 0) #[.int .u8 (48 + (n : Int) % 10)] HKD.out hrow1 t1 HT1.out ?_
      go_simp
      refine hK _ _ ?_
      clear hK K
      refine wpAny_ready (rs := [2]) (by kernel_rfl) (by simp) ?_
      refine AllReady.cons rfl (fun K hK => ?_) AllReady.nil
      go_simp
      (with_reducible refine (HC.out _).mono ?_)
      rintro e v2 ⟨rfl, hb2⟩
      (try go_simp)
      refine hK _ _ ?_
      clear hK K
      have hB2 := belowThen hB1 hb2
      have hrow2 := (hb2.block N hlt1).trans hrow1
      have hlt2 := Nat.lt_of_lt_of_le hlt1 hb2.size
      refine wpAny_take (i := 9) (v := ?_) rfl (by kernel_rfl) (by kernel_rfl) (by kernel_rfl) (fun _ _ _ h => h) (Or.inl ⟨by rfl, ?_⟩) ?_
      rotate_left
      · intro w; go_simp; (try simp only [hm, hq, hw1, hw2]); (try with_reducible rfl)
      refine wpAny_take (i := 10) (v := ?_) rfl (by kernel_rfl) (by kernel_rfl) (by kernel_rfl) (fun _ _ _ h => h) (Or.inl ⟨by rfl, ?_⟩) ?_
      rotate_left
      · intro w; go_simp; (try simp only [hm, hq, hw1, hw2]); (try with_reducible rfl)
      refine wpAny_done (by kernel_rfl) ?_ _
      go_simp
      go_wp2
      go_ret
      exact ⟨by rw [HS.out]; rfl, hB2⟩
      -- DEC END
/-- A number in at least three digits, as a text. -/
def dig3 (n : Nat) : ByteArray := ⟨(List.replicate (3 - (Lib.decDigits n).length) 48 ++ Lib.decDigits n).toArray⟩
def zer (k : Nat) (s : ByteArray) : ByteArray := ⟨(List.replicate k (48 : UInt8)).toArray⟩ ++ s
theorem zer_size (k : Nat) (s : ByteArray) : (zer k s).size = k + s.size := by
  unfold zer
  rw [ByteArray.size_append]
  congr 1
  show (List.replicate k (48 : UInt8)).toArray.size = k
  simp
theorem zer_zero (s : ByteArray) : zer 0 s = s := by
  unfold zer
  apply ByteArray.ext
  simp
theorem zer_succ (k : Nat) (s : ByteArray) : (⟨#[48]⟩ : ByteArray) ++ zer k s = zer (k + 1) s := by
  unfold zer
  apply ByteArray.ext
  apply Array.ext'
  simp [List.replicate_succ]
theorem zer_dig (n : Nat) : zer (3 - (dig n).size) (dig n) = dig3 n := by
  rw [dig_size]
  unfold zer dig dig3
  apply ByteArray.ext
  simp

set_option maxHeartbeats 1000000 in
set_option maxRecDepth 100000 in
theorem three_any (n : Nat) (hn : n ≤ 99999) (w : World) : Calls Tryz.prog 40 #[.int .i64 n] w fun e w' => e = .returned (.string (dig3 n)) ∧ Below w.heap.size w w' := by
  have HD := Lib.hid (decimal_any n hn w)
  have hsz := dig_small n
  rw [← dig_size] at hsz
  have HZ := Lib.hid (zer_dig n)
  obtain ⟨t, ht⟩ : ∃ t, dig n = t := ⟨_, rfl⟩
  rw [ht] at HD hsz HZ
  clear ht
  go_enter Tryz.func40, Tryz.ntmps40
  go_wp2_with fail
  ((with_reducible refine HD.out.mono ?_); rintro e w1 ⟨rfl, hb1⟩)
  go_wp2
  go_loopw [3] (fun s w' => ∃ k : Nat, (k = 0 ∨ k + t.size ≤ 3) ∧ s = .string (zer k t) ∧ Below w.heap.size w w') (fun s _ => 3 - (match s with | .string b => b.size | _ => 0))
  case atStart => exact ⟨0, .inl rfl, by rw [zer_zero], hb1⟩
  case round =>
    obtain ⟨k, hk, rfl, hb⟩ := hrel
    have hzs := zer_size k t
    have HZS := Lib.hid (zer_succ k t)
    generalize hz : zer k t = z at *
    by_cases hlt : z.size < 3
    · have hlim : ¬ (9223372036854775807 < 1 + z.size) := by omega
      go_wp2
      go_roundw
      case rel => exact ⟨k + 1, .inr (by omega), by rw [← HZS.out], hb⟩
      case measure =>
        simp
        rw [show (⟨#[48]⟩ : ByteArray).size = 1 from rfl]
        omega
    · have HE := Lib.hid (show z = dig3 n by
        rw [← HZ.out, ← hz]
        congr 1
        omega)
      go_wp2
      go_ret
      exact ⟨by rw [HE.out]; rfl, hb⟩
end Go.Proofs.YtlgahdabhnhjgaaGreatDoor
