/- The reference's vault: Drop. -/
import Derived.Test.YtlgahdabhnhjgaaGreatDoorZqRVau1
import Derived.Test.YtlgahdabhnhjgaaGreatDoorZqApO
import Derived.Test.YtlgahdabhnhjgaaGreatDoorZqVau4
import Derived.Test.YtlgahdabhnhjgaaGreatDoorZqVau2
import Derived.Test.YtlgahdabhnhjgaaGreatDoorZqVauM
import Derived.Test.YtlgahdabhnhjgaaGreatDoorZqNums
/- The reference's vault: add. -/
namespace Go.Proofs.YtlgahdabhnhjgaaGreatDoor
open Go.RowKit Go.Maps
set_option maxHeartbeats 1000000 in
set_option maxRecDepth 100000 in
theorem radd_any (w : World) (v g B : Nat) (lv : Value) (V V' : VauM) (disk size root : Nat) (h : RVauAt w v g B lv V) (hL : V.L.length ≤ 6) (hN : V.next ≤ 1000) (hB : B ≤ w.heap.size) (ne : Int) (m : Nat) (he : addErr V = ne) (hm : (if ne = 0 then V.next else 0) = m) (hV' : addV V disk size root = V') :
    Calls Tryz.prog 67 #[.pointer (some ⟨v, 0, none⟩), .int .i64 disk, .int .i64 size, .int .i64 root] w (RVauRet w v g B lv V' ne (.tuple #[.int .i64 m, .int .i64 ne])) := by
  subst hV'
  obtain ⟨i0, hi, hz0, hz1, hz2⟩ := info_parts Tryz.infoPt
  obtain ⟨A, c, hlv⟩ := ownsRow_slice h.pts
  subst hlv
  have c1 := h.cell1
  have c2 := h.cell2
  obtain ⟨n, hn⟩ : ∃ n, V.L.length = n := ⟨_, rfl⟩
  obtain ⟨t, ht⟩ : ∃ t, V.next = t := ⟨_, rfl⟩
  rw [hn] at c1 hL ⊢
  rw [ht] at c2 hN hm
  unfold addErr at he
  rw [hn, ht] at he
  by_cases h1 : 6 ≤ n
  · rw [if_pos (.inl h1)] at he
    subst he
    obtain rfl : n = 6 := by omega
    have hm' : m = 0 := by rw [← hm]; rfl
    subst hm'
    go_enter Tryz.func67, Tryz.ntmps67
    go_wp2
    go_ret2
    exact ⟨rfl, by simp, Turn.refl _ _⟩
  have h6 : ((n : Int) == 6) = false := by simp; omega
  have h6' : ¬ ((n : Int) = 6) := by omega
  by_cases h2 : 999 < t
  · rw [if_pos (.inr h2)] at he
    subst he
    have hm' : m = 0 := by rw [← hm]; rfl
    subst hm'
    have i2 : (999 : Int) < (t : Int) := by omega
    go_enter Tryz.func67, Tryz.ntmps67
    go_wp2
    go_ret2
    exact ⟨rfl, by simp, Turn.refl _ _⟩
  rw [if_neg (by omega)] at he
  subst he
  have hm' : m = t := by rw [← hm]; rfl
  subst hm'
  have i2 : ¬ ((999 : Int) < (m : Int)) := by omega
  have HH := Lib.hid h
  clear h
  go_enter Tryz.func67, Tryz.ntmps67
  have hpts : w.ownsRow B 60 4 (.slice A n c) n (pCells V.L) := by
    have := HH.out.pts
    rw [hn] at this
    exact this
  have b1 := (Below.refl w.heap.size w).alloc (Nat.le_refl _) (.cells #[.int .i64 m, .int .i64 disk, .int .i64 size, .int .i64 root] 60)
  have c1b : (w.alloc (.cells #[.int .i64 m, .int .i64 disk, .int .i64 size, .int .i64 root] 60)).cell? ⟨v, 1, none⟩ = some (.slice A n c) := belowKept b1 c1
  have hp2 : (w.alloc (.cells #[.int .i64 m, .int .i64 disk, .int .i64 size, .int .i64 root] 60)).drew.ownsRow B 60 4 (.slice A n c) n (pCells V.L) := World.ownsRow.alloc hpts (.cells #[.int .i64 m, .int .i64 disk, .int .i64 size, .int .i64 root] 60)
  have HP := Lib.hid hp2
  have HB1 := Lib.hid b1.drew
  have HNW := Lib.hid (World.news_of_block (w := (w.alloc (.cells #[.int .i64 m, .int .i64 disk, .int .i64 size, .int .i64 root] 60)).drew) (cs := #[.int .i64 m, .int .i64 disk, .int .i64 size, .int .i64 root]) (t := 60) (fr := (0, 0)) (heap_alloc_new w (.cells #[.int .i64 m, .int .i64 disk, .int .i64 size, .int .i64 root] 60)))
  have hBd : B ≤ (w.alloc (.cells #[.int .i64 m, .int .i64 disk, .int .i64 size, .int .i64 root] 60)).drew.heap.size := by simp; omega
  have HBD := Lib.hid hBd
  clear hpts b1 hBd hp2
  go_wp2_with fail
  go_region_law (refine step_appendOwn rfl _ _ 55 rfl B 60 i0 _ 4 32 Tryz.underlying55 hi hz0 hz1 hz2 rfl (by decide) (.slice A n c) n (pCells V.L) (by simp [Act.eval]) HP.out ⟨w.heap.size, 0, none⟩ 1 1 [.int .i64 m, .int .i64 disk, .int .i64 size, .int .i64 root] (by simp [Act.eval]) rfl HNW.out (by simp [Value.oneCell']) (by unfold maxLen; omega) (by omega) HBD.out ?_; intro v' w3 hown' hg3 hnil3; obtain ⟨A', c', hv'⟩ := ownsRow_slice hown'; subst hv'; obtain ⟨r3, _, _⟩ := HH.out.grown HB1.out (by rw [hn]; exact hg3); have d1 : w3.cell? ⟨v, 1, none⟩ = some (.slice A V.L.length c) := cell_of_row _ _ _ _ _ _ r3; have f1 := frozen_of_row w3 v 1 _ _ r3; have d2 : w3.cell? ⟨v, 2, none⟩ = some (.int .i64 V.next) := cell_of_row _ _ _ _ _ _ r3; have f2 := frozen_of_row w3 v 2 _ _ r3; rw [ht] at d2)
  all_goals
    obtain ⟨z1, z2⟩ := HH.out.added (disk := disk) (size := size) (root := root) HB1.out (by rw [hn]; exact hg3) (by rw [hn, ht]; simpa [ptCells] using hown') ((m : Int) + 1) (by rw [ht]; omega)
    rw [hn] at z2
    have Z1 := Lib.hid z1
    have Z2 := Lib.hid z2
    have hk1 : IntKind.i64.wrap ((m : Int) + 1) = (m : Int) + 1 := IntWalk.i64_in _ (by omega)
    have hk2 : IntKind.i64.wrap ((m : Int) + 1 - 1) = (m : Int) := by rw [IntWalk.i64_in _ (by omega)]; omega
    clear z1 z2 hown' hg3 hnil3 r3 c1 c2 c1b HB1 HNW HP HBD
    go_wp2
    go_ret2
    exact ⟨rfl, fun _ => ⟨_, Z1.out⟩, Z2.out⟩
end Go.Proofs.YtlgahdabhnhjgaaGreatDoor

/- The reference's vault: Read, Again. -/
namespace Go.Proofs.YtlgahdabhnhjgaaGreatDoor
open Go.RowKit Go.Maps


theorem RVauAt.old {w : World} {v g B : Nat} {lv : Value} {V : VauM} (h : RVauAt w v g B lv V) : ∀ b ∈ rbs v g lv, b < w.heap.size := by
  intro b hb
  simp only [rbs, List.mem_cons, Option.mem_toList] at hb
  rcases hb with rfl | rfl | hb
  · exact h.lt
  · exact h.idx.lt
  · exact (World.ownsRow.lt h.pts b hb).2
theorem one_rbs (v g : Nat) (lv : Value) : ∀ b ∈ [g], b ∈ rbs v g lv := by
  intro b hb
  simp only [List.mem_cons, List.not_mem_nil, or_false] at hb
  subst hb
  simp [rbs]

set_option maxHeartbeats 1000000 in
set_option maxRecDepth 100000 in
theorem ragain_any (w : World) (v g B : Nat) (lv : Value) (V V' : VauM) (id : Int) (h : RVauAt w v g B lv V) (hV : V.Ok) (hB : B ≤ w.heap.size) (ne : Int) (m : Nat) (he : againErr V id = ne) (hm : (if ne = 0 then V.next else 0) = m) (hV' : againV V id = V') :
    Calls Tryz.prog 36 #[.pointer (some ⟨v, 0, none⟩), .int .i64 id] w (RVauRet w v g B lv V' ne (.tuple #[.int .i64 m, .int .i64 ne])) := by
  cases hp : placeOf V.L id with
  | none =>
    have he' : ne = 5 := by rw [← he]; unfold againErr; rw [hp]
    subst he'
    have hm' : m = 0 := by rw [← hm]; rfl
    subst hm'
    have HF := Lib.hid (rfind_no w v g B lv V id h hV hp)
    clear hp h he hm
    go_enter Tryz.func36, Tryz.ntmps36
    go_wp2_with fail
    ((with_reducible refine HF.out.mono ?_); rintro e w2 ⟨rfl, hb2⟩)
    have b3 := (Below.refl w2.heap.size w2).alloc (Nat.le_refl _) (.cells #[.int .i64 0, .int .i64 0, .int .i64 0, .int .i64 0] 60)
    go_wp2
    go_ret2
    exact ⟨rfl, by simp, Turn.of_below (belowThen hb2 b3)⟩
  | some k =>
    obtain ⟨hk, _⟩ := placeOf_some hp
    obtain ⟨p, hpt⟩ : ∃ p, V.L[k] = p := ⟨_, rfl⟩
    have hpb := hV.pts _ (List.getElem_mem hk)
    rw [hpt] at hpb
    have hheld : p.root = 0 ∨ p.root ∈ heldOf V.L := by
      have := heldOf_mem (List.getElem_mem hk)
      rw [hpt] at this
      exact this
    have he1 : addErr V = ne := by rw [← he]; unfold againErr; rw [hp]
    have hv1 : V' = addV ⟨V.X.refN p.root, V.L, V.next⟩ p.disk p.size p.root := by
      rw [← hV']; unfold againV; rw [hp]; simp only [getElem!_pos V.L k hk, hpt]
    have HF := Lib.hid (rfind_yes w v g B lv V id h hV k hk hp p hpt)
    obtain ⟨A, c, hlv⟩ := ownsRow_slice h.pts
    obtain ⟨n, hn⟩ : ∃ n, V.L.length = n := ⟨_, rfl⟩
    obtain ⟨t, ht⟩ : ∃ t, V.next = t := ⟨_, rfl⟩
    have hl6 := hV.len
    rw [hn] at hl6
    have hn6 := hV.next
    rw [ht] at hn6
    have hadd := he1
    unfold addErr at hadd
    rw [hn, ht] at hadd
    have KEEP := Lib.hid (fun w' (hb : Below w.heap.size w w') => show w'.cell? ⟨v, 0, none⟩ = some (.pointer (some ⟨g, 0, none⟩)) ∧ w'.cell? ⟨v, 1, none⟩ = some (.slice A n c) ∧ w'.cell? ⟨v, 2, none⟩ = some (.int .i64 t) from ⟨(h.below hb).cell0, by rw [(h.below hb).cell1, hlv, hn], by rw [(h.below hb).cell2, ht]⟩)
    by_cases h6 : n = 6
    · subst h6
      rw [if_pos (.inl (Nat.le_refl _))] at hadd
      subst hadd
      have hm' : m = 0 := by rw [← hm]; rfl
      subst hm'
      clear hp h he hm hv1 he1 hpt hpb
      go_enter Tryz.func36, Tryz.ntmps36
      go_wp2_with fail
      ((with_reducible refine HF.out.mono ?_); rintro e w2 ⟨rfl, hb2⟩)
      have b3 := (Below.refl w2.heap.size w2).alloc (Nat.le_refl _) (.cells #[.int .i64 p.id, .int .i64 p.disk, .int .i64 p.size, .int .i64 p.root] 60)
      have hb3 := belowThen hb2 b3
      obtain ⟨c0, c1, c2⟩ := KEEP.out _ hb3
      go_wp2
      go_ret2
      exact ⟨rfl, by simp, Turn.of_below hb3⟩
    have h6' : ((n : Int) == 6) = false := by simp; omega
    by_cases h2 : 999 < t
    · rw [if_pos (.inr h2)] at hadd
      subst hadd
      have hm' : m = 0 := by rw [← hm]; rfl
      subst hm'
      have i2 : decide ((999 : Int) < (t : Int)) = true := by simp; omega
      clear hp h he hm hv1 he1 hpt hpb
      go_enter Tryz.func36, Tryz.ntmps36
      go_wp2_with fail
      ((with_reducible refine HF.out.mono ?_); rintro e w2 ⟨rfl, hb2⟩)
      have b3 := (Below.refl w2.heap.size w2).alloc (Nat.le_refl _) (.cells #[.int .i64 p.id, .int .i64 p.disk, .int .i64 p.size, .int .i64 p.root] 60)
      have hb3 := belowThen hb2 b3
      obtain ⟨c0, c1, c2⟩ := KEEP.out _ hb3
      go_wp2
      go_ret2
      exact ⟨rfl, by simp, Turn.of_below hb3⟩
    have i2 : decide ((999 : Int) < (t : Int)) = false := by simp; omega
    rw [if_neg (by omega)] at hadd
    subst hadd
    have HOK := Lib.hid (hV.inv.okX (Nat.le_trans (heldOf_len _) (by have := hV.len; omega)))
    have HS := Lib.hid (fun w' (h' : RIdxAt w' g V.X) => refShareE w' g 1000 V.X (V.X.refN p.root) p.root (heldOf V.L) h' HOK.out (by omega) hV.inv hheld rfl)
    have HA := Lib.hid (fun w' (h' : RVauAt w' v g B lv ⟨V.X.refN p.root, V.L, V.next⟩) (hb : B ≤ w'.heap.size) => radd_any w' v g B lv ⟨V.X.refN p.root, V.L, V.next⟩ V' p.disk p.size p.root h' hV.len hV.next.2 hb 0 m he1 hm hv1.symm)
    have HH := Lib.hid h
    have HO := Lib.hid h.old
    have hvg := h.ne
    clear hp h he hm hv1 he1 hpt hpb hheld
    go_enter Tryz.func36, Tryz.ntmps36
    go_wp2_with fail
    ((with_reducible refine HF.out.mono ?_); rintro e w2 ⟨rfl, hb2⟩)
    have b3 := (Below.refl w2.heap.size w2).alloc (Nat.le_refl _) (.cells #[.int .i64 p.id, .int .i64 p.disk, .int .i64 p.size, .int .i64 p.root] 60)
    have e3 := heap_alloc_new w2 (.cells #[.int .i64 p.id, .int .i64 p.disk, .int .i64 p.size, .int .i64 p.root] 60)
    have hb3 := belowThen hb2 b3
    obtain ⟨c0, c1, c2⟩ := KEEP.out _ hb3
    have d1 : (w2.alloc (.cells #[.int .i64 p.id, .int .i64 p.disk, .int .i64 p.size, .int .i64 p.root] 60)).cell? ⟨w2.heap.size, 1, none⟩ = some (.int .i64 p.disk) := cell_of_row _ _ _ _ _ _ e3
    have d2 : (w2.alloc (.cells #[.int .i64 p.id, .int .i64 p.disk, .int .i64 p.size, .int .i64 p.root] 60)).cell? ⟨w2.heap.size, 2, none⟩ = some (.int .i64 p.size) := cell_of_row _ _ _ _ _ _ e3
    have d3 : (w2.alloc (.cells #[.int .i64 p.id, .int .i64 p.disk, .int .i64 p.size, .int .i64 p.root] 60)).cell? ⟨w2.heap.size, 3, none⟩ = some (.int .i64 p.root) := cell_of_row _ _ _ _ _ _ e3
    have HV3 := Lib.hid (HH.out.below hb3)
    have HB3 := Lib.hid hb3
    have hs2 : w.heap.size ≤ w2.heap.size := hb2.size
    have hsz3 : (w2.alloc (.cells #[.int .i64 p.id, .int .i64 p.disk, .int .i64 p.size, .int .i64 p.root] 60)).heap.size = w2.heap.size + 1 := by simp
    clear HF KEEP e3 b3 hb2
    go_wp2_with fail
    generalize w2.alloc (.cells #[.int .i64 p.id, .int .i64 p.disk, .int .i64 p.size, .int .i64 p.root] 60) = W at *
    generalize w2.heap.size = gz at *
    have HSD := Lib.hid (HS.out W.drew (HV3.out.idx.below (Below.refl _ _).drew))
    have hgg : g < w.heap.size := HH.out.idx.lt
    have hvv : v < w.heap.size := HH.out.lt
    have HK5 := Lib.hid (fun w' (t : Turn [g] W.drew w') => show w'.cell? ⟨v, 0, none⟩ = some (.pointer (some ⟨g, 0, none⟩)) ∧ w'.cell? ⟨gz, 1, none⟩ = some (.int .i64 p.disk) ∧ w'.cell? ⟨gz, 2, none⟩ = some (.int .i64 p.size) ∧ w'.cell? ⟨gz, 3, none⟩ = some (.int .i64 p.root) from ⟨Turn.cellKept (a := W.drew) t c0 (by simpa using hvg), Turn.cellKept (a := W.drew) t d1 (by simp; omega), Turn.cellKept (a := W.drew) t d2 (by simp; omega), Turn.cellKept (a := W.drew) t d3 (by simp; omega)⟩)
    have HA5 := Lib.hid (fun w5 (h5 : RIdxAt w5 g (V.X.refN p.root)) (t : Turn [g] W.drew w5) => HA.out w5 ((HV3.out.below (Below.refl _ _).drew).turned h5 t) (Nat.le_trans hB (Nat.le_trans HB3.out.size t.size)))
    have HK6 := Lib.hid (fun w5 w6 (t : Turn [g] W.drew w5) (hr : ∃ lv', RVauAt w6 v g B lv' V') (t6 : Turn (rbs v g lv) w5 w6) => show w6.cell? ⟨v, 0, none⟩ = some (.pointer (some ⟨g, 0, none⟩)) ∧ w6.cell? ⟨gz, 1, none⟩ = some (.int .i64 p.disk) ∧ w6.cell? ⟨gz, 2, none⟩ = some (.int .i64 p.size) ∧ w6.cell? ⟨gz, 3, none⟩ = some (.int .i64 p.root) from by
      obtain ⟨lv', hr⟩ := hr
      have hno : gz ∉ rbs v g lv := fun hm => by have := HO.out _ hm; omega
      obtain ⟨_, k1, k2, k3⟩ := HK5.out w5 t
      exact ⟨hr.cell0, Turn.cellKept t6 k1 hno, Turn.cellKept t6 k2 hno, Turn.cellKept t6 k3 hno⟩)
    clear HS HA
    go_region_held3 (fun w' => w'.cell? ⟨v, 0, none⟩ = some (.pointer (some ⟨g, 0, none⟩)) ∧ w'.cell? ⟨gz, 1, none⟩ = some (.int .i64 p.disk) ∧ w'.cell? ⟨gz, 2, none⟩ = some (.int .i64 p.size) ∧ w'.cell? ⟨gz, 3, none⟩ = some (.int .i64 p.root)) (first | exact ⟨c0, d1, d2, d3⟩ | exact HK5.out _ t5 | exact HK6.out _ _ t5 (h6 trivial) t6)
      (first
        | (go_at_call 64; refine HSD.out.mono ?_; rintro e w5 ⟨rfl, h5, t5⟩)
        | (go_at_call 67; refine (HA5.out _ h5 t5).mono ?_; rintro e w6 ⟨rfl, h6, t6⟩))
    all_goals
      have HT := Lib.hid ((Turn.of_below HB3.out).trans (((Turn.refl _ W).drew.trans (t5.mono (one_rbs v g lv))).trans t6))
      have H6 := Lib.hid h6
      clear HK5 HK6 HSD HA5 c0 d1 d2 d3 h5 t5 h6 t6
      go_wp2
      go_ret2
      exact ⟨rfl, fun _ => H6.out trivial, HT.out⟩
end Go.Proofs.YtlgahdabhnhjgaaGreatDoor

/- counterfoilref.SamePoints, of the same points. -/
namespace Go.Proofs.YtlgahdabhnhjgaaGreatDoor
open Go.RowKit Go.Maps

theorem ptRow {w : World} {B : Nat} {v : Value} {L : List PtM} (ho : w.ownsRow B 60 4 v L.length (pCells L)) {k : Nat} (hk : k < L.length) : ∃ b c, v = .slice (some ⟨b, 0, none⟩) L.length c ∧ L.length ≤ c ∧ c ≤ maxLen ∧ ∀ i, i < 4 → w.cell? ⟨b, k * 4 + i, none⟩ = (ptCells L[k])[i]? := by
  have h2 := ho.2
  rcases h2 with ⟨_, h0⟩ | ⟨g, cap, cur, rfl, _, _, h1, h2, _⟩
  · omega
  · refine ⟨g, cap, rfl, h1, h2, fun i hi => ?_⟩
    rw [ho.cellAt _ (by omega), pCells_at _ _ _ hk hi]
theorem ownsRow_below {w w' : World} {B n : Nat} {t : TypeId} {s : Nat} {lv : Value} {xs : List Value} (h : w.ownsRow B t s lv n xs) (hb : Below w.heap.size w w') : w'.ownsRow B t s lv n xs := ownsRow_keep h fun g hg => hb.block g (World.ownsRow.lt h g hg).2

set_option maxHeartbeats 1000000 in
set_option maxRecDepth 100000 in
theorem samePts_any (w : World) (B1 B2 : Nat) (v1 v2 : Value) (L : List PtM) (h1 : w.ownsRow B1 60 4 v1 L.length (pCells L)) (h2 : w.ownsRow B2 60 4 v2 L.length (pCells L)) (hL : L.length ≤ 6) :
    Calls Tryz.prog 46 #[v1, v2] w fun e w' => e = .returned (.bool true) ∧ Below w.heap.size w w' := by
  obtain ⟨N, hN⟩ : ∃ N, L.length = N := ⟨_, rfl⟩
  obtain ⟨A1, c1, hv1⟩ := ownsRow_slice h1
  obtain ⟨A2, c2, hv2⟩ := ownsRow_slice h2
  rw [hN] at hv1 hv2
  subst hv1 hv2
  have hN6 : N ≤ 6 := by omega
  have HROW := Lib.hid (fun w' (hb : Below w.heap.size w w') k (hk : k < L.length) => And.intro (ptRow (ownsRow_below h1 hb) hk) (ptRow (ownsRow_below h2 hb) hk))
  clear h1 h2
  go_enter Tryz.func46, Tryz.ntmps46
  go_wp2
  go_loopw [5] (fun i w' => ∃ k : Nat, k ≤ N ∧ i = .int .i64 k ∧ Below w.heap.size w w') (fun i _ => N - (intOf i).toNat)
  case atStart => exact ⟨0, Nat.zero_le _, rfl, Below.refl _ _⟩
  case round =>
    obtain ⟨k, hk, rfl, hb⟩ := hrel
    by_cases hlt : k < N
    · have hlt' : k < L.length := by omega
      obtain ⟨⟨b, c, e1, q1, q2, q3⟩, ⟨b', c', e2, q4, q5, q6⟩⟩ := HROW.out wr hb k hlt'
      rw [hN] at e1 e2 q1 q4
      injection e1 with e1 _ e1c
      injection e2 with e2 _ e2c
      subst e1 e1c e2 e2c
      have d0 : wr.cell? ⟨b, k * 4, none⟩ = some (.int .i64 L[k].id) := q3 0 (by omega)
      have d1 : wr.cell? ⟨b, k * 4 + 1, none⟩ = some (.int .i64 L[k].disk) := q3 1 (by omega)
      have d2 : wr.cell? ⟨b, k * 4 + 2, none⟩ = some (.int .i64 L[k].size) := q3 2 (by omega)
      have d3 : wr.cell? ⟨b, k * 4 + 3, none⟩ = some (.int .i64 L[k].root) := q3 3 (by omega)
      have f0 : wr.cell? ⟨b', k * 4, none⟩ = some (.int .i64 L[k].id) := q6 0 (by omega)
      have f1 : wr.cell? ⟨b', k * 4 + 1, none⟩ = some (.int .i64 L[k].disk) := q6 1 (by omega)
      have f2 : wr.cell? ⟨b', k * 4 + 2, none⟩ = some (.int .i64 L[k].size) := q6 2 (by omega)
      have f3 : wr.cell? ⟨b', k * 4 + 3, none⟩ = some (.int .i64 L[k].root) := q6 3 (by omega)
      generalize L[k] = p at *
      clear q3 q6
      go_wp2
      go_quiet (fail)
      go_wp2
      go_roundw
      case rel => exact ⟨k + 1, hlt, by go_num, below_drewN hb _⟩
      case measure => simp [intOf]; omega
    · go_wp2
      go_ret
      exact ⟨rfl, hb⟩
end Go.Proofs.YtlgahdabhnhjgaaGreatDoor

/- The reference's index, copied cell by cell. -/
namespace Go.Proofs.YtlgahdabhnhjgaaGreatDoor
open Go.RowKit Go.Maps

theorem RIdxAt.one {w : World} {g : Nat} {X : IdxM} (h : RIdxAt w g X) (i : Nat) (hi : i < 207) : ∃ u, w.cell? ⟨g, i, none⟩ = some u ∧ u.oneCell' = true := by
  by_cases h1 : i < 82
  · by_cases h2 : i % 2 = 0
    · have := h.blks.data (i / 2) (by omega)
      rw [show i / 2 * 2 = i by omega] at this
      exact ⟨_, this, rfl⟩
    · have := h.blks.refs (i / 2) (by omega)
      rw [show i / 2 * 2 + 1 = i by omega] at this
      exact ⟨_, this, rfl⟩
  · by_cases h2 : (i - 82) % 5 = 4
    · have := h.nods.refs ((i - 82) / 5) (by omega)
      rw [show 82 + (i - 82) / 5 * 5 + 4 = i by omega] at this
      exact ⟨_, this, rfl⟩
    · have := h.nods.kid ((i - 82) / 5) ((i - 82) % 5) (by omega) (by omega)
      rw [show 82 + (i - 82) / 5 * 5 + (i - 82) % 5 = i by omega] at this
      exact ⟨_, this, rfl⟩
theorem RIdxAt.row {w : World} {g : Nat} {X : IdxM} (h : RIdxAt w g X) : ∃ cs t fr vs, w.heap[g]? = some (.cells cs t fr) ∧ 0 + 207 ≤ cs.size ∧ cut cs 0 207 = vs ∧ vs.size = 207 ∧ (∀ v ∈ vs.toList, v.oneCell' = true) ∧ ∀ i, i < 207 → vs[i]? = w.cell? ⟨g, i, none⟩ := by
  have key : ∃ cs t fr, w.heap[g]? = some (.cells cs t fr) := by
    obtain ⟨u, hu, _⟩ := h.one 0 (by omega)
    unfold World.cell? at hu
    split at hu
    · rename_i c t fr e
      exact ⟨c, t, fr, e⟩
    · cases hu
  obtain ⟨cs, t, fr, e⟩ := key
  have hc : ∀ i, w.cell? ⟨g, i, none⟩ = cs[i]? := fun i => cell_of_row w g i cs t fr e
  have hs : 207 ≤ cs.size := by
    obtain ⟨u, hu, _⟩ := h.one 206 (by omega)
    rw [hc] at hu
    have := (Array.getElem?_eq_some_iff.1 hu).1
    omega
  refine ⟨cs, t, fr, _, e, by omega, rfl, by simp [cut]; omega, ?_, ?_⟩
  · intro u hu
    obtain ⟨i, hi, rfl⟩ := List.mem_iff_getElem.1 hu
    have hi' : i < 207 := by simp [cut] at hi; omega
    obtain ⟨u, hu, h1⟩ := h.one i hi'
    rw [hc] at hu
    have : (cut cs 0 207).toList[i]? = some u := by simp [cut, hi', hu]
    rw [List.getElem?_eq_getElem hi] at this
    injection this with this
    rw [this]; exact h1
  · intro i hi
    rw [hc]
    simp [cut, hi]
theorem RIdxAt.copied {w w' : World} {g g' : Nat} {X : IdxM} {vs : Array Value} {t : TypeId} (h : RIdxAt w g X) (hv : ∀ i, i < 207 → vs[i]? = w.cell? ⟨g, i, none⟩) (hg : w'.heap[g']? = some (.cells vs t (0, 0))) : RIdxAt w' g' X := by
  have hc : ∀ i, i < 207 → w'.cell? ⟨g', i, none⟩ = w.cell? ⟨g, i, none⟩ := fun i hi => (cell_of_row w' g' i vs t (0, 0) hg).trans (hv i hi)
  exact ⟨⟨fun n hn => (hc _ (by omega)).trans (h.blks.data n hn), fun n hn => (hc _ (by omega)).trans (h.blks.refs n hn), fun i => frozen_of_row w' g' i vs t hg⟩, ⟨fun n i hn hi => (hc _ (by omega)).trans (h.nods.kid n i hn hi), fun n hn => (hc _ (by omega)).trans (h.nods.refs n hn)⟩⟩
theorem ownsRow_lower {w : World} {B B' n : Nat} {t : TypeId} {s : Nat} {lv : Value} {xs : List Value} (h : w.ownsRow B t s lv n xs) (hB : B' ≤ B) : w.ownsRow B' t s lv n xs := by
  obtain ⟨h1, h2⟩ := h
  refine ⟨h1, ?_⟩
  rcases h2 with h2 | ⟨g, cap, cur, hv, hg, r⟩
  · exact .inl h2
  · exact .inr ⟨g, cap, cur, hv, Nat.le_trans hB hg, r⟩
theorem Tryz.infoRI : (Tryz.prog.info? 84).map (·.size) = some 207 := by kernel_rfl

theorem Tryz.zeroRI_size : Tryz.zeroCells84.size = 207 := by kernel_rfl
theorem splice_whole (cs vs : Array Value) (h : cs.size = vs.size) : splice cs 0 vs = vs := by
  unfold splice
  simp only [List.take_zero, List.nil_append, Nat.zero_add]
  rw [List.drop_of_length_le (by simp; omega), List.append_nil]

set_option maxHeartbeats 1000000 in
set_option maxRecDepth 100000 in
theorem rvauCopy_any (w : World) (v g B : Nat) (lv : Value) (V : VauM) (h : RVauAt w v g B lv V) (hV : V.Ok) :
    Calls Tryz.prog 12 #[.pointer (some ⟨v, 0, none⟩)] w fun e w' => ∃ v' g' lv', e = .returned (.pointer (some ⟨v', 0, none⟩)) ∧ RVauAt w' v' g' w.heap.size lv' V ∧ w.heap.size ≤ v' ∧ w.heap.size ≤ g' ∧ Below w.heap.size w w' := by
  obtain ⟨i0, hi, hz0, hz1, hz2⟩ := info_parts Tryz.infoPt
  have c0 := h.cell0
  have c1 := h.cell1
  have c2 := h.cell2
  obtain ⟨cs, t, fr, vs, r1, r2, r3, r4, r5, r6⟩ := h.idx.row
  go_enter Tryz.func12, Tryz.ntmps12
  obtain ⟨Z, hZ⟩ : ∃ Z, Tryz.zeroCells84 = Z := ⟨_, rfl⟩
  have hZs : Z.size = 207 := by rw [← hZ]; exact Tryz.zeroRI_size
  have e1 := heap_alloc_new w (.cells Z 84)
  go_wp2_with (first
    | ((with_reducible refine isLoad 9 (ty := 84) ?_); refine wpList_load_at rfl 84 _ rfl g 0 207 rfl t cs fr _ r1 Tryz.underlying84 rfl Tryz.infoRI r2 vs r3 ?_)
    | ((with_reducible refine isStore 84 ?_); refine wpList_store_at rfl 84 _ _ rfl w.heap.size 0 207 rfl 84 Z vs rfl e1 Tryz.infoRI (by omega) r4 r5 vs (splice_whole _ _ (by omega)) ?_))
  have b1 := (Below.refl w.heap.size w).alloc (Nat.le_refl _) (.cells Z 84)
  have b2 := below_row b1 (Nat.le_refl _) vs
  have e2 : ((w.alloc (.cells Z 84)).setRow w.heap.size vs).heap[w.heap.size]? = some (.cells vs 84 (0, 0)) := setRow_heap _ _ _ _ _ _ e1
  have hs2 : ((w.alloc (.cells Z 84)).setRow w.heap.size vs).heap.size = w.heap.size + 1 := by simp
  have X2 := Lib.hid (h.idx.copied r6 e2)
  have h2 := h.below b2
  have d1 := h2.cell1
  have d2 := h2.cell2
  have P2 := Lib.hid h2.pts
  have HB2 := Lib.hid b2
  have HV6 := hV.len
  have hws : w.heap.size < ((w.alloc (.cells Z 84)).setRow w.heap.size vs).heap.size := by omega
  clear c0 c1 c2 r1 r2 r3 r4 r5 r6 e1 e2 b1 b2 h2 hs2 hZ hZs h hV
  generalize (w.alloc (.cells Z 84)).setRow w.heap.size vs = W at *
  have hgs : ∃ gs, w.heap.size = gs := ⟨_, rfl⟩
  obtain ⟨gs, hgs⟩ := hgs
  have HGS := Lib.hid hgs
  rw [hgs] at hws X2 HB2 ⊢
  clear hgs
  obtain ⟨t0, ht0⟩ : ∃ t0, V.next = t0 := ⟨_, rfl⟩
  rw [ht0] at d2
  have HT0 := Lib.hid ht0
  rcases P2.out.2 with ⟨hlv, h0⟩ | ⟨b, cap, cur, hlv, _, hbg, q1, q2, _⟩
  · have hL : V.L = [] := List.length_eq_zero_iff.1 h0
    rw [hlv] at d1
    have HL := Lib.hid hL
    clear ht0 hlv h0 hL
    go_wp2_with fail
    go_region_law (fail)
    all_goals
      have b3 := (Below.refl W.heap.size W).alloc (Nat.le_refl _) (.cells #[.pointer (some ⟨gs, 0, none⟩), .slice none 0 0, .int .i64 t0] 86)
      have HB3 := Lib.hid b3
      go_wp2
      go_ret
      refine ⟨W.heap.size, gs, .slice none 0 0, rfl, ⟨by rw [HT0.out]; exact heap_alloc_new W _, (X2.out.below HB3.out).keep rfl, by rw [HL.out]; exact World.ownsRow_nil _ _ _ _, by omega, by simp [Value.ownBlock]⟩, by rw [HGS.out]; omega, by rw [HGS.out]; exact Nat.le_refl _, ?_⟩
      rw [HGS.out]
      exact (HB2.out.trans (HB3.out.mono (by omega))).drew
  · have d1' := d1
    rw [hlv] at d1'
    have hnews : ∀ j u, (pCells V.L)[j]? = some u → W.drew.cell? ((⟨b, 0, none⟩ : Addr).add j) = some u := fun j u hj => by
      have hjl := (List.getElem?_eq_some_iff.1 hj).1
      have ho := P2.out
      rw [hlv] at ho
      rw [add_lit', Nat.zero_add]
      show W.cell? _ = _
      rw [ho.cellAt _ (by rw [pCells_length] at hjl; omega)]
      exact hj
    have HNEWS := Lib.hid hnews
    have hbW : b < W.heap.size := (Array.getElem?_eq_some_iff.1 hbg).1
    obtain ⟨n, hn⟩ : ∃ n, V.L.length = n := ⟨_, rfl⟩
    have HPL := Lib.hid (show (pCells V.L).length = n * 4 by rw [pCells_length, hn])
    rw [hn] at d1' q1 HV6
    have HN := Lib.hid hn
    have D2 := Lib.hid (fun w3 (hg : W.drew.grownBy w3 none) => show Below W.heap.size W w3 ∧ w3.cell? ⟨v, 2, none⟩ = some (.int .i64 t0) from by
      have hb3 : Below W.heap.size W w3 := (Below.refl W.heap.size W).drew.grown hg (Nat.le_refl _) (fun k hk => by cases hk)
      exact ⟨hb3, belowKept hb3 d2⟩)
    unfold maxLen at q2
    clear hnews hlv hbg d1 ht0 hn P2
    go_wp2_with fail
    go_region_law (refine step_appendOwn rfl _ _ 55 rfl W.heap.size 60 i0 _ 4 32 Tryz.underlying55 hi hz0 hz1 hz2 rfl (by decide) (.slice none 0 0) 0 [] rfl (World.ownsRow_nil _ _ _ _) ⟨b, 0, none⟩ n cap (pCells V.L) (by simp [Act.eval]) HPL.out HNEWS.out (pCells_one _) (by unfold maxLen; omega) (by omega) (Nat.le_refl _) ?_; intro v' w3 hown' hg3 hnil3; obtain ⟨vA, vc, hv'⟩ := ownsRow_slice hown'; subst hv'; obtain ⟨hb3, c3⟩ := D2.out w3 hg3)
    all_goals
      rw [Nat.zero_add] at hown'
      have HO3 := Lib.hid hown'
      have hs3 : W.heap.size ≤ w3.heap.size := hb3.size
      have HB3 := Lib.hid hb3
      have b4 := (Below.refl w3.heap.size w3).alloc (Nat.le_refl _) (.cells #[.pointer (some ⟨gs, 0, none⟩), .slice vA n vc, .int .i64 t0] 86)
      have HB4 := Lib.hid b4
      clear hown' hg3 hnil3 HNEWS HPL D2 b4 hb3 d1' c3 d2
      go_wp2
      go_ret
      have hx : w3.ownsRow W.heap.size 60 4 (.slice vA n vc) n (pCells V.L) := by simpa using HO3.out
      have hlt := fun g hg => World.ownsRow.lt hx g hg
      refine ⟨w3.heap.size, gs, .slice vA n vc, rfl, ⟨by rw [HT0.out]; exact heap_alloc_new w3 _, ((X2.out.below HB3.out).below HB4.out).keep rfl, ?_, by omega, fun g hg => ?_⟩, by rw [HGS.out]; omega, by rw [HGS.out]; exact Nat.le_refl _, ?_⟩
      · rw [HN.out, HGS.out]
        exact ownsRow_lower (ownsRow_below hx HB4.out) (by omega)
      · have := hlt g hg
        omega
      · rw [HGS.out]
        have hfin := HB2.out.trans ((HB3.out.mono (show gs ≤ W.heap.size by omega)).trans (HB4.out.mono (show gs ≤ w3.heap.size by omega)))
        first | exact hfin | exact hfin.drew
end Go.Proofs.YtlgahdabhnhjgaaGreatDoor

/- Eldest, plainly; the points without one. -/
namespace Go.Proofs.YtlgahdabhnhjgaaGreatDoor

/-- The IDs of a disk's points, of the first k. -/
def eldUp (L : List PtM) (disk : Int) (k : Nat) : List Int := ((L.take k).filter fun p => decide ((p.disk : Int) = disk)).map fun p => ((p.id : Nat) : Int)
theorem eldUp_succ (L : List PtM) (disk : Int) (k : Nat) (hk : k < L.length) : eldUp L disk (k + 1) = if (L[k].disk : Int) = disk then eldUp L disk k ++ [((L[k].id : Nat) : Int)] else eldUp L disk k := by
  unfold eldUp
  rw [← List.take_append_getElem hk, List.filter_append, List.map_append]
  by_cases h : (L[k].disk : Int) = disk <;> simp [h]
theorem eldUp_len (L : List PtM) (disk : Int) (k : Nat) : (eldUp L disk k).length ≤ k := by
  unfold eldUp
  rw [List.length_map]
  exact Nat.le_trans (List.length_filter_le _ _) (by simp; omega)
/-- All but the newest. -/
def eldestL (L : List PtM) (disk keep : Int) : List Int := (eldUp L disk L.length).take ((eldUp L disk L.length).length - keep.toNat)
theorem eldestL_len (L : List PtM) (disk keep : Int) : (eldestL L disk keep).length = (eldUp L disk L.length).length - keep.toNat := by
  unfold eldestL
  rw [List.length_take]; omega
theorem IntsAt.take {w : World} {A : Option Addr} {l : List Int} (h : IntsAt w A l) (n : Nat) : IntsAt w A (l.take n) := fun i hi => by
  have hi' : i < l.length := by rw [List.length_take] at hi; omega
  obtain ⟨b, off, e, c⟩ := h i hi'
  exact ⟨b, off, e, by rw [c, List.getElem_take]⟩

/-- The first k points without one. -/
def without (L : List PtM) (id : Int) (k : Nat) : List PtM := (L.take k).filter fun p => !decide ((p.id : Int) = id)
theorem without_succ (L : List PtM) (id : Int) (k : Nat) (hk : k < L.length) : without L id (k + 1) = if (L[k].id : Int) = id then without L id k else without L id k ++ [L[k]] := by
  unfold without
  rw [← List.take_append_getElem hk, List.filter_append]
  by_cases h : (L[k].id : Int) = id <;> simp [h]
theorem without_len (L : List PtM) (id : Int) (k : Nat) : (without L id k).length ≤ k := by
  unfold without
  exact Nat.le_trans (List.length_filter_le _ _) (by simp; omega)
theorem without_all {L : List PtM} (h : L.Pairwise fun p q => p.id < q.id) {id : Int} {j : Nat} (hp : placeOf L id = some j) : without L id L.length = L.eraseIdx j := by
  obtain ⟨hj, hid⟩ := placeOf_some hp
  unfold without
  rw [List.take_length, List.eraseIdx_eq_take_drop_succ]
  conv => lhs; rw [← List.take_append_drop j L, List.drop_eq_getElem_cons hj]
  have other : ∀ i (hi : i < L.length), i ≠ j → (!decide ((L[i].id : Int) = id)) = true := fun i hi hne => by
    simp only [Bool.not_eq_true', decide_eq_false_iff_not]
    intro e
    exact hne (pair_at h hi hj (by omega))
  rw [List.filter_append, List.filter_cons, if_neg (by simp [hid])]
  congr 1
  · refine List.filter_eq_self.2 fun p hp => ?_
    obtain ⟨i, hi, rfl⟩ := List.mem_iff_getElem.1 hp
    rw [List.getElem_take]
    exact other i _ (by simp at hi; omega)
  · refine List.filter_eq_self.2 fun p hp => ?_
    obtain ⟨i, hi, rfl⟩ := List.mem_iff_getElem.1 hp
    rw [List.getElem_drop]
    exact other _ _ (by omega)
end Go.Proofs.YtlgahdabhnhjgaaGreatDoor

/- The reference's vault: Drop. -/
namespace Go.Proofs.YtlgahdabhnhjgaaGreatDoor
open Go.RowKit Go.Maps

/-- Points in a row. -/
def PtRow (w : World) (B : Nat) (v : Value) (L : List PtM) : Prop := w.ownsRow B 60 4 v L.length (pCells L)

theorem RVauAt.relaid {w : World} {v g B B' : Nat} {lv u : Value} {V : VauM} {L : List PtM} (h : RVauAt w v g B lv V) (hO : w.ownsRow B' 60 4 u L.length (pCells L)) (hB : B ≤ B') (hne : ∀ b, u.ownBlock = some b → b ≠ g ∧ b ≠ v) :
    RVauAt (w.setCell ⟨v, 1, none⟩ u) v g B u ⟨V.X, L, V.next⟩ ∧ Turn [v] w (w.setCell ⟨v, 1, none⟩ u) := by
  have s1 := heap_setCell_same w v 1 _ _ u h.row
  have keep : ∀ k, k ≠ v → (w.setCell ⟨v, 1, none⟩ u).heap[k]? = w.heap[k]? := fun k hk => Below.heap_setCell _ _ _ _ hk
  exact ⟨⟨s1, h.idx.keep (keep g (fun e => h.ne e.symm)), ownsRow_keep (ownsRow_lower hO hB) fun b hb => keep b (hne b hb).2, h.ne, hne⟩, (Turn.refl _ _).cell (by simp) u⟩

set_option maxHeartbeats 1000000 in
set_option maxRecDepth 100000 in
theorem rdrop_any (w : World) (v g B : Nat) (lv : Value) (V V' : VauM) (id : Int) (h : RVauAt w v g B lv V) (hV : V.Ok) (hB : B ≤ w.heap.size) (ne : Int) (he : dropErr V id = ne) (hV' : dropV V id = V') :
    Calls Tryz.prog 37 #[.pointer (some ⟨v, 0, none⟩), .int .i64 id] w (RVauRet w v g B lv V' ne (.int .i64 ne)) := by
  obtain ⟨i0, hi, hz0, hz1, hz2⟩ := info_parts Tryz.infoPt
  cases hp : placeOf V.L id with
  | none =>
    have he' : ne = 5 := by rw [← he]; unfold dropErr; rw [hp]
    subst he'
    have HF := Lib.hid (rfind_no w v g B lv V id h hV hp)
    clear hp h he
    go_enter Tryz.func37, Tryz.ntmps37
    go_wp2_with fail
    ((with_reducible refine HF.out.mono ?_); rintro e w2 ⟨rfl, hb2⟩)
    have b3 := (Below.refl w2.heap.size w2).alloc (Nat.le_refl _) (.cells #[.int .i64 0, .int .i64 0, .int .i64 0, .int .i64 0] 60)
    go_wp2
    go_ret
    exact ⟨rfl, by simp, Turn.of_below (belowThen hb2 b3)⟩
  | some k =>
    have he' : ne = 0 := by rw [← he]; unfold dropErr; rw [hp]
    subst he'
    obtain ⟨hk, hid⟩ := placeOf_some hp
    obtain ⟨p, hpt⟩ : ∃ p, V.L[k] = p := ⟨_, rfl⟩
    have hpb := hV.pts _ (List.getElem_mem hk)
    rw [hpt] at hpb hid
    have hv1 : V' = ⟨V.X.free p.root, V.L.eraseIdx k, V.next⟩ := by
      rw [← hV']; unfold dropV; rw [hp]; simp only [getElem!_pos V.L k hk, hpt]
    have hall := without_all hV.inc hp
    have hIp := hV.inv.perm (heldOf_at V.L k hk)
    rw [hpt] at hIp
    have HF := Lib.hid (rfind_yes w v g B lv V id h hV k hk hp p hpt)
    have HOK := Lib.hid (hV.inv.okX (Nat.le_trans (heldOf_len _) (by have := hV.len; omega)))
    have HFREE := Lib.hid (fun w' (h' : RIdxAt w' g V.X) => refFreeE w' g 1000 V.X (V.X.free p.root) p.root _ h' HOK.out (by omega) hIp rfl)
    have HH := Lib.hid h
    have hvg := h.ne
    have hl6 := hV.len
    obtain ⟨n, hn⟩ : ∃ n, V.L.length = n := ⟨_, rfl⟩
    have HALL := Lib.hid hall
    have HV1 := Lib.hid hv1
    have HHP := Lib.hid (hV.pts)
    clear hp h he hV' hall hv1 hIp
    go_enter Tryz.func37, Tryz.ntmps37
    go_wp2_with fail
    ((with_reducible refine HF.out.mono ?_); rintro e w2 ⟨rfl, hb2⟩)
    have b3 := (Below.refl w2.heap.size w2).alloc (Nat.le_refl _) (.cells #[.int .i64 p.id, .int .i64 p.disk, .int .i64 p.size, .int .i64 p.root] 60)
    have e3 := heap_alloc_new w2 (.cells #[.int .i64 p.id, .int .i64 p.disk, .int .i64 p.size, .int .i64 p.root] 60)
    have hb3 := belowThen hb2 b3
    have h3 := HH.out.below hb3
    have c0 := h3.cell0
    have d3 : (w2.alloc (.cells #[.int .i64 p.id, .int .i64 p.disk, .int .i64 p.size, .int .i64 p.root] 60)).cell? ⟨w2.heap.size, 3, none⟩ = some (.int .i64 p.root) := cell_of_row _ _ _ _ _ _ e3
    have HV3 := Lib.hid h3
    have HB3 := Lib.hid hb3
    have hs2 : w.heap.size ≤ w2.heap.size := hb2.size
    clear HF b3 e3 h3 hb2 hb3 hid
    go_wp2_with fail
    generalize w2.alloc (.cells #[.int .i64 p.id, .int .i64 p.disk, .int .i64 p.size, .int .i64 p.root] 60) = W at *
    generalize w2.heap.size = gz at *
    have HFD := Lib.hid (HFREE.out W.drew (HV3.out.idx.below (Below.refl _ _).drew))
    have hgg : g < w.heap.size := HH.out.idx.lt
    clear HFREE
    go_region_held3 (fun w' => w'.cell? ⟨v, 0, none⟩ = some (.pointer (some ⟨g, 0, none⟩)) ∧ w'.cell? ⟨gz, 3, none⟩ = some (.int .i64 p.root)) (first | exact ⟨c0, d3⟩ | exact ⟨Turn.cellKept (a := W.drew) t5 c0 (by simpa using hvg), Turn.cellKept (a := W.drew) t5 d3 (by simp; omega)⟩)
      (first
        | (go_at_call 68; refine HFD.out.mono ?_; rintro e w5 ⟨rfl, h5, t5⟩))
    all_goals
      have HV5 := Lib.hid ((HV3.out.below (Below.refl _ _).drew).turned h5 t5)
      have HT5 := Lib.hid ((Turn.of_below HB3.out).trans ((Turn.refl _ W).drew.trans (t5.mono (one_rbs v g lv))))
      clear HFD c0 d3 h5 t5
      go_wp2
      have hvw : v < w5.heap.size := HV5.out.lt
      have hgw : g < w5.heap.size := HV5.out.idx.lt
      have hBw : B ≤ w5.heap.size := Nat.le_trans hB HT5.out.size
      go_loopw [7, 8] (fun u i w' => ∃ j : Nat, j ≤ n ∧ i = .int .i64 j ∧ w'.ownsRow w5.heap.size 60 4 u (without V.L id j).length (pCells (without V.L id j)) ∧ Below w5.heap.size w5 w') (fun _ i _ => n - (intOf i).toNat)
      case atStart => exact ⟨0, Nat.zero_le _, rfl, World.ownsRow_nil _ _ _ _, Below.refl _ _⟩
      case round =>
        obtain ⟨j, hj, rfl, hO, hb0⟩ := hrel
        have hvr := HV5.out.below hb0
        have c1 := hvr.cell1
        obtain ⟨A, c, hlv⟩ := ownsRow_slice hvr.pts
        rw [hlv] at c1
        simp only [hn] at c1 hlv
        by_cases hlt : j < n
        · have hlt' : j < V.L.length := by omega
          obtain ⟨b, c', e1, q1, q2, q3⟩ := ptRow hvr.pts hlt'
          simp only [hn] at e1 q1
          rw [hlv] at e1
          injection e1 with e1 _ e1c
          subst e1 e1c
          have d0 : wr.cell? ⟨b, j * 4, none⟩ = some (.int .i64 V.L[j].id) := q3 0 (by omega)
          have d1 : wr.cell? ⟨b, j * 4 + 1, none⟩ = some (.int .i64 V.L[j].disk) := q3 1 (by omega)
          have d2 : wr.cell? ⟨b, j * 4 + 2, none⟩ = some (.int .i64 V.L[j].size) := q3 2 (by omega)
          have d3 : wr.cell? ⟨b, j * 4 + 3, none⟩ = some (.int .i64 V.L[j].root) := q3 3 (by omega)
          have hD := without_succ V.L id j hlt'
          have hlen := without_len V.L id j
          have hsz : w5.heap.size ≤ wr.heap.size := hb0.size
          generalize V.L[j] = q at *
          have i1 : (j : Int) < (n : Int) := by omega
          have i2 : (0 : Int) ≤ (j : Int) := by omega
          clear q3 hvr hlv
          by_cases hd : (q.id : Int) = id
          · have hd' : ((q.id : Int) != id) = false := by simpa using hd
            rw [if_pos hd] at hD
            have HD := Lib.hid hD
            clear hD hd
            go_wp2
            go_roundw
            case rel => exact ⟨j + 1, hlt, by go_num, by rw [HD.out]; exact hO, hb0⟩
            case measure => simp [intOf]; omega
          · have hd' : ((q.id : Int) != id) = true := by simpa using hd
            rw [if_neg hd] at hD
            have HD := Lib.hid hD
            obtain ⟨l0, hl0⟩ : ∃ l0, (without V.L id j).length = l0 := ⟨_, rfl⟩
            have HL0 := Lib.hid hl0
            have HO := Lib.hid hO
            rw [hl0] at hO hlen
            clear hD hd hl0
            go_wp2_with (at_builtin; refine wpList_append_own _ rfl _ _ 55 rfl w5.heap.size 60 i0 _ 4 32 Tryz.underlying55 hi hz0 hz1 hz2 rfl (by decide) _ _ _ rfl (World.ownsRow.alloc hO _) ⟨wr.heap.size, 0, none⟩ 1 1 [.int .i64 q.id, .int .i64 q.disk, .int .i64 q.size, .int .i64 q.root] rfl rfl (World.news_of_block (cs := #[.int .i64 q.id, .int .i64 q.disk, .int .i64 q.size, .int .i64 q.root]) (t := 60) (fr := (0, 0)) (heap_alloc_new _ _)) (by simp [Value.oneCell']) (by unfold maxLen; omega) (by omega) (by simp; omega) ?_; intro v' w6 hown' hg3 hnil3)
            go_wp2
            go_roundw
            case rel =>
              refine ⟨j + 1, hlt, by go_num, ?_, (hb0.alloc hsz _).grown hg3 (by simp; omega) (fun k hk => (World.ownsRow.lt HO.out k hk).1)⟩
              rw [HD.out, pCells_append, List.length_append, HL0.out]
              simpa [pCells, ptCells] using hown'
            case measure => simp [intOf]; omega
        · obtain rfl : j = n := by omega
          obtain ⟨uA, uc, rfl⟩ := ownsRow_slice hO
          have HFIN := hvr.relaid (B' := w5.heap.size) (L := without V.L id V.L.length) (by simp only [hn]; exact hO) hBw (fun b hb => by have := (World.ownsRow.lt hO b hb).1; omega)
          rw [HALL.out] at HFIN
          have f1 := frozen_of_row wr v 1 _ _ hvr.row
          have HF := Lib.hid HFIN
          have HT := Lib.hid (HT5.out.trans (Turn.of_below (bs := rbs v g lv) hb0))
          have i1 : ¬ ((j : Int) < (j : Int)) := by omega
          clear HFIN hvr hlv hO hb0
          go_wp2
          go_ret
          refine ⟨rfl, fun _ => ⟨_, by rw [HV1.out]; exact HF.out.1⟩, HT.out.trans (HF.out.2.mono fun b hb => ?_)⟩
          simp only [List.mem_cons, List.not_mem_nil, or_false] at hb
          subst hb
          simp [rbs]
end Go.Proofs.YtlgahdabhnhjgaaGreatDoor
