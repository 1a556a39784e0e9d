/- The reference's index, copied cell by cell. -/
import Derived.Test.YtkjnipjomfbalaaZqVau1
import Derived.Test.YtkjnipjomfbalaaZqRVau1
import Derived.Test.YtkjnipjomfbalaaZqRVau2
import Derived.Test.YtkjnipjomfbalaaZqVau4
/- counterfoilref.SamePoints, of the same points. -/
namespace Go.Proofs.Ytkjnipjomfbalaa
open Go.RowKit Go.Maps

theorem ptRow {w : World} {B : Nat} {v : Value} {L : List PtM} (ho : w.ownsRow B 47 4 v L.length (pCells L)) {k : Nat} (hk : k < L.length) : ∃ b c, v = .slice (some ⟨b, 0, none⟩) L.length c ∧ L.length ≤ c ∧ c ≤ maxLen ∧ ∀ i, i < 4 → w.cell? ⟨b, k * 4 + i, none⟩ = (ptCells L[k])[i]? := by
  have h2 := ho.2
  rcases h2 with ⟨_, h0⟩ | ⟨g, cap, cur, rfl, _, _, h1, h2, _⟩
  · omega
  · refine ⟨g, cap, rfl, h1, h2, fun i hi => ?_⟩
    rw [ho.cellAt _ (by omega), pCells_at _ _ _ hk hi]
theorem ownsRow_below {w w' : World} {B n : Nat} {t : TypeId} {s : Nat} {lv : Value} {xs : List Value} (h : w.ownsRow B t s lv n xs) (hb : Below w.heap.size w w') : w'.ownsRow B t s lv n xs := ownsRow_keep h fun g hg => hb.block g (World.ownsRow.lt h g hg).2

set_option maxHeartbeats 1000000 in
set_option maxRecDepth 100000 in
theorem samePts_any (w : World) (B1 B2 : Nat) (v1 v2 : Value) (L : List PtM) (h1 : w.ownsRow B1 47 4 v1 L.length (pCells L)) (h2 : w.ownsRow B2 47 4 v2 L.length (pCells L)) (hL : L.length ≤ 6) :
    Calls Try.prog 32 #[v1, v2] w fun e w' => e = .returned (.bool true) ∧ Below w.heap.size w w' := by
  obtain ⟨N, hN⟩ : ∃ N, L.length = N := ⟨_, rfl⟩
  obtain ⟨A1, c1, hv1⟩ := ownsRow_slice h1
  obtain ⟨A2, c2, hv2⟩ := ownsRow_slice h2
  rw [hN] at hv1 hv2
  subst hv1 hv2
  have hN6 : N ≤ 6 := by omega
  have HROW := Lib.hid (fun w' (hb : Below w.heap.size w w') k (hk : k < L.length) => And.intro (ptRow (ownsRow_below h1 hb) hk) (ptRow (ownsRow_below h2 hb) hk))
  clear h1 h2
  go_enter Try.func32, Try.ntmps32
  go_wp2
  go_loopw [5] (fun i w' => ∃ k : Nat, k ≤ N ∧ i = .int .i64 k ∧ Below w.heap.size w w') (fun i _ => N - (intOf i).toNat)
  case atStart => exact ⟨0, Nat.zero_le _, rfl, Below.refl _ _⟩
  case round =>
    obtain ⟨k, hk, rfl, hb⟩ := hrel
    by_cases hlt : k < N
    · have hlt' : k < L.length := by omega
      obtain ⟨⟨b, c, e1, q1, q2, q3⟩, ⟨b', c', e2, q4, q5, q6⟩⟩ := HROW.out wr hb k hlt'
      rw [hN] at e1 e2 q1 q4
      injection e1 with e1 _ e1c
      injection e2 with e2 _ e2c
      subst e1 e1c e2 e2c
      have d0 : wr.cell? ⟨b, k * 4, none⟩ = some (.int .i64 L[k].id) := q3 0 (by omega)
      have d1 : wr.cell? ⟨b, k * 4 + 1, none⟩ = some (.int .i64 L[k].disk) := q3 1 (by omega)
      have d2 : wr.cell? ⟨b, k * 4 + 2, none⟩ = some (.int .i64 L[k].size) := q3 2 (by omega)
      have d3 : wr.cell? ⟨b, k * 4 + 3, none⟩ = some (.int .i64 L[k].root) := q3 3 (by omega)
      have f0 : wr.cell? ⟨b', k * 4, none⟩ = some (.int .i64 L[k].id) := q6 0 (by omega)
      have f1 : wr.cell? ⟨b', k * 4 + 1, none⟩ = some (.int .i64 L[k].disk) := q6 1 (by omega)
      have f2 : wr.cell? ⟨b', k * 4 + 2, none⟩ = some (.int .i64 L[k].size) := q6 2 (by omega)
      have f3 : wr.cell? ⟨b', k * 4 + 3, none⟩ = some (.int .i64 L[k].root) := q6 3 (by omega)
      generalize L[k] = p at *
      clear q3 q6
      go_wp2
      go_quiet (fail)
      go_wp2
      go_roundw
      case rel => exact ⟨k + 1, hlt, by go_num, below_drewN hb _⟩
      case measure => simp [intOf]; omega
    · go_wp2
      go_ret
      exact ⟨rfl, hb⟩
end Go.Proofs.Ytkjnipjomfbalaa

/- The reference's index, copied cell by cell. -/
namespace Go.Proofs.Ytkjnipjomfbalaa
open Go.RowKit Go.Maps

theorem RIdxAt.one {w : World} {g : Nat} {X : IdxM} (h : RIdxAt w g X) (i : Nat) (hi : i < 207) : ∃ u, w.cell? ⟨g, i, none⟩ = some u ∧ u.oneCell' = true := by
  by_cases h1 : i < 82
  · by_cases h2 : i % 2 = 0
    · have := h.blks.data (i / 2) (by omega)
      rw [show i / 2 * 2 = i by omega] at this
      exact ⟨_, this, rfl⟩
    · have := h.blks.refs (i / 2) (by omega)
      rw [show i / 2 * 2 + 1 = i by omega] at this
      exact ⟨_, this, rfl⟩
  · by_cases h2 : (i - 82) % 5 = 4
    · have := h.nods.refs ((i - 82) / 5) (by omega)
      rw [show 82 + (i - 82) / 5 * 5 + 4 = i by omega] at this
      exact ⟨_, this, rfl⟩
    · have := h.nods.kid ((i - 82) / 5) ((i - 82) % 5) (by omega) (by omega)
      rw [show 82 + (i - 82) / 5 * 5 + (i - 82) % 5 = i by omega] at this
      exact ⟨_, this, rfl⟩
theorem RIdxAt.row {w : World} {g : Nat} {X : IdxM} (h : RIdxAt w g X) : ∃ cs t fr vs, w.heap[g]? = some (.cells cs t fr) ∧ 0 + 207 ≤ cs.size ∧ cut cs 0 207 = vs ∧ vs.size = 207 ∧ (∀ v ∈ vs.toList, v.oneCell' = true) ∧ ∀ i, i < 207 → vs[i]? = w.cell? ⟨g, i, none⟩ := by
  have key : ∃ cs t fr, w.heap[g]? = some (.cells cs t fr) := by
    obtain ⟨u, hu, _⟩ := h.one 0 (by omega)
    unfold World.cell? at hu
    split at hu
    · rename_i c t fr e
      exact ⟨c, t, fr, e⟩
    · cases hu
  obtain ⟨cs, t, fr, e⟩ := key
  have hc : ∀ i, w.cell? ⟨g, i, none⟩ = cs[i]? := fun i => cell_of_row w g i cs t fr e
  have hs : 207 ≤ cs.size := by
    obtain ⟨u, hu, _⟩ := h.one 206 (by omega)
    rw [hc] at hu
    have := (Array.getElem?_eq_some_iff.1 hu).1
    omega
  refine ⟨cs, t, fr, _, e, by omega, rfl, by simp [cut]; omega, ?_, ?_⟩
  · intro u hu
    obtain ⟨i, hi, rfl⟩ := List.mem_iff_getElem.1 hu
    have hi' : i < 207 := by simp [cut] at hi; omega
    obtain ⟨u, hu, h1⟩ := h.one i hi'
    rw [hc] at hu
    have : (cut cs 0 207).toList[i]? = some u := by simp [cut, hi', hu]
    rw [List.getElem?_eq_getElem hi] at this
    injection this with this
    rw [this]; exact h1
  · intro i hi
    rw [hc]
    simp [cut, hi]
theorem RIdxAt.copied {w w' : World} {g g' : Nat} {X : IdxM} {vs : Array Value} {t : TypeId} (h : RIdxAt w g X) (hv : ∀ i, i < 207 → vs[i]? = w.cell? ⟨g, i, none⟩) (hg : w'.heap[g']? = some (.cells vs t (0, 0))) : RIdxAt w' g' X := by
  have hc : ∀ i, i < 207 → w'.cell? ⟨g', i, none⟩ = w.cell? ⟨g, i, none⟩ := fun i hi => (cell_of_row w' g' i vs t (0, 0) hg).trans (hv i hi)
  exact ⟨⟨fun n hn => (hc _ (by omega)).trans (h.blks.data n hn), fun n hn => (hc _ (by omega)).trans (h.blks.refs n hn), fun i => frozen_of_row w' g' i vs t hg⟩, ⟨fun n i hn hi => (hc _ (by omega)).trans (h.nods.kid n i hn hi), fun n hn => (hc _ (by omega)).trans (h.nods.refs n hn)⟩⟩
theorem ownsRow_lower {w : World} {B B' n : Nat} {t : TypeId} {s : Nat} {lv : Value} {xs : List Value} (h : w.ownsRow B t s lv n xs) (hB : B' ≤ B) : w.ownsRow B' t s lv n xs := by
  obtain ⟨h1, h2⟩ := h
  refine ⟨h1, ?_⟩
  rcases h2 with h2 | ⟨g, cap, cur, hv, hg, r⟩
  · exact .inl h2
  · exact .inr ⟨g, cap, cur, hv, Nat.le_trans hB hg, r⟩
theorem Try.infoRI : (Try.prog.info? 72).map (·.size) = some 207 := by kernel_rfl

theorem Try.zeroRI_size : Try.zeroCells72.size = 207 := by kernel_rfl
theorem splice_whole (cs vs : Array Value) (h : cs.size = vs.size) : splice cs 0 vs = vs := by
  unfold splice
  simp only [List.take_zero, List.nil_append, Nat.zero_add]
  rw [List.drop_of_length_le (by simp; omega), List.append_nil]

set_option maxHeartbeats 1000000 in
set_option maxRecDepth 100000 in
theorem rvauCopy_any (w : World) (v g B : Nat) (lv : Value) (V : VauM) (h : RVauAt w v g B lv V) (hV : V.Ok) :
    Calls Try.prog 9 #[.pointer (some ⟨v, 0, none⟩)] w fun e w' => ∃ v' g' lv', e = .returned (.pointer (some ⟨v', 0, none⟩)) ∧ RVauAt w' v' g' w.heap.size lv' V ∧ w.heap.size ≤ v' ∧ w.heap.size ≤ g' ∧ Below w.heap.size w w' := by
  obtain ⟨i0, hi, hz0, hz1, hz2⟩ := info_parts Try.infoPt
  have c0 := h.cell0
  have c1 := h.cell1
  have c2 := h.cell2
  obtain ⟨cs, t, fr, vs, r1, r2, r3, r4, r5, r6⟩ := h.idx.row
  go_enter Try.func9, Try.ntmps9
  obtain ⟨Z, hZ⟩ : ∃ Z, Try.zeroCells72 = Z := ⟨_, rfl⟩
  have hZs : Z.size = 207 := by rw [← hZ]; exact Try.zeroRI_size
  have e1 := heap_alloc_new w (.cells Z 72)
  go_wp2_with (first
    | ((with_reducible refine isLoad 9 (ty := 72) ?_); refine wpList_load_at rfl 72 _ rfl g 0 207 rfl t cs fr _ r1 Try.underlying72 rfl Try.infoRI r2 vs r3 ?_)
    | ((with_reducible refine isStore 72 ?_); refine wpList_store_at rfl 72 _ _ rfl w.heap.size 0 207 rfl 72 Z vs rfl e1 Try.infoRI (by omega) r4 r5 vs (splice_whole _ _ (by omega)) ?_))
  have b1 := (Below.refl w.heap.size w).alloc (Nat.le_refl _) (.cells Z 72)
  have b2 := below_row b1 (Nat.le_refl _) vs
  have e2 : ((w.alloc (.cells Z 72)).setRow w.heap.size vs).heap[w.heap.size]? = some (.cells vs 72 (0, 0)) := setRow_heap _ _ _ _ _ _ e1
  have hs2 : ((w.alloc (.cells Z 72)).setRow w.heap.size vs).heap.size = w.heap.size + 1 := by simp
  have X2 := Lib.hid (h.idx.copied r6 e2)
  have h2 := h.below b2
  have d1 := h2.cell1
  have d2 := h2.cell2
  have P2 := Lib.hid h2.pts
  have HB2 := Lib.hid b2
  have HV6 := hV.len
  have hws : w.heap.size < ((w.alloc (.cells Z 72)).setRow w.heap.size vs).heap.size := by omega
  clear c0 c1 c2 r1 r2 r3 r4 r5 r6 e1 e2 b1 b2 h2 hs2 hZ hZs h hV
  generalize (w.alloc (.cells Z 72)).setRow w.heap.size vs = W at *
  have hgs : ∃ gs, w.heap.size = gs := ⟨_, rfl⟩
  obtain ⟨gs, hgs⟩ := hgs
  have HGS := Lib.hid hgs
  rw [hgs] at hws X2 HB2 ⊢
  clear hgs
  obtain ⟨t0, ht0⟩ : ∃ t0, V.next = t0 := ⟨_, rfl⟩
  rw [ht0] at d2
  have HT0 := Lib.hid ht0
  rcases P2.out.2 with ⟨hlv, h0⟩ | ⟨b, cap, cur, hlv, _, hbg, q1, q2, _⟩
  · have hL : V.L = [] := List.length_eq_zero_iff.1 h0
    rw [hlv] at d1
    have HL := Lib.hid hL
    clear ht0 hlv h0 hL
    go_wp2_with fail
    go_region_law (fail)
    all_goals
      have b3 := (Below.refl W.heap.size W).alloc (Nat.le_refl _) (.cells #[.pointer (some ⟨gs, 0, none⟩), .slice none 0 0, .int .i64 t0] 74)
      have HB3 := Lib.hid b3
      go_wp2
      go_ret
      refine ⟨W.heap.size, gs, .slice none 0 0, rfl, ⟨by rw [HT0.out]; exact heap_alloc_new W _, (X2.out.below HB3.out).keep rfl, by rw [HL.out]; exact World.ownsRow_nil _ _ _ _, by omega, by simp [Value.ownBlock]⟩, by rw [HGS.out]; omega, by rw [HGS.out]; exact Nat.le_refl _, ?_⟩
      rw [HGS.out]
      exact (HB2.out.trans (HB3.out.mono (by omega))).drew
  · have d1' := d1
    rw [hlv] at d1'
    have hnews : ∀ j u, (pCells V.L)[j]? = some u → W.drew.cell? ((⟨b, 0, none⟩ : Addr).add j) = some u := fun j u hj => by
      have hjl := (List.getElem?_eq_some_iff.1 hj).1
      have ho := P2.out
      rw [hlv] at ho
      rw [add_lit', Nat.zero_add]
      show W.cell? _ = _
      rw [ho.cellAt _ (by rw [pCells_length] at hjl; omega)]
      exact hj
    have HNEWS := Lib.hid hnews
    have hbW : b < W.heap.size := (Array.getElem?_eq_some_iff.1 hbg).1
    obtain ⟨n, hn⟩ : ∃ n, V.L.length = n := ⟨_, rfl⟩
    have HPL := Lib.hid (show (pCells V.L).length = n * 4 by rw [pCells_length, hn])
    rw [hn] at d1' q1 HV6
    have HN := Lib.hid hn
    have D2 := Lib.hid (fun w3 (hg : W.drew.grownBy w3 none) => show Below W.heap.size W w3 ∧ w3.cell? ⟨v, 2, none⟩ = some (.int .i64 t0) from by
      have hb3 : Below W.heap.size W w3 := (Below.refl W.heap.size W).drew.grown hg (Nat.le_refl _) (fun k hk => by cases hk)
      exact ⟨hb3, belowKept hb3 d2⟩)
    unfold maxLen at q2
    clear hnews hlv hbg d1 ht0 hn P2
    go_wp2_with fail
    go_region_law (refine step_appendOwn rfl _ _ 60 rfl W.heap.size 47 i0 _ 4 32 Try.underlying60 hi hz0 hz1 hz2 rfl (by decide) (.slice none 0 0) 0 [] rfl (World.ownsRow_nil _ _ _ _) ⟨b, 0, none⟩ n cap (pCells V.L) (by simp [Act.eval]) HPL.out HNEWS.out (pCells_one _) (by unfold maxLen; omega) (by omega) (Nat.le_refl _) ?_; intro v' w3 hown' hg3 hnil3; obtain ⟨vA, vc, hv'⟩ := ownsRow_slice hown'; subst hv'; obtain ⟨hb3, c3⟩ := D2.out w3 hg3)
    all_goals
      rw [Nat.zero_add] at hown'
      have HO3 := Lib.hid hown'
      have hs3 : W.heap.size ≤ w3.heap.size := hb3.size
      have HB3 := Lib.hid hb3
      have b4 := (Below.refl w3.heap.size w3).alloc (Nat.le_refl _) (.cells #[.pointer (some ⟨gs, 0, none⟩), .slice vA n vc, .int .i64 t0] 74)
      have HB4 := Lib.hid b4
      clear hown' hg3 hnil3 HNEWS HPL D2 b4 hb3 d1' c3 d2
      go_wp2
      go_ret
      have hx : w3.ownsRow W.heap.size 47 4 (.slice vA n vc) n (pCells V.L) := by simpa using HO3.out
      have hlt := fun g hg => World.ownsRow.lt hx g hg
      refine ⟨w3.heap.size, gs, .slice vA n vc, rfl, ⟨by rw [HT0.out]; exact heap_alloc_new w3 _, ((X2.out.below HB3.out).below HB4.out).keep rfl, ?_, by omega, fun g hg => ?_⟩, by rw [HGS.out]; omega, by rw [HGS.out]; exact Nat.le_refl _, ?_⟩
      · rw [HN.out, HGS.out]
        exact ownsRow_lower (ownsRow_below hx HB4.out) (by omega)
      · have := hlt g hg
        omega
      · rw [HGS.out]
        have hfin := HB2.out.trans ((HB3.out.mono (show gs ≤ W.heap.size by omega)).trans (HB4.out.mono (show gs ≤ w3.heap.size by omega)))
        first | exact hfin | exact hfin.drew
end Go.Proofs.Ytkjnipjomfbalaa
