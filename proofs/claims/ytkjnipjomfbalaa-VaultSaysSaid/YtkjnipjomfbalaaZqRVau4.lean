/- The reference's vault: Drop. -/
import Derived.Test.YtkjnipjomfbalaaZqVauM
import Derived.Test.YtkjnipjomfbalaaZqNums
import Derived.Test.YtkjnipjomfbalaaZqRVau3
import Derived.Test.YtkjnipjomfbalaaZqRCopy
/- Eldest, plainly; the points without one. -/
namespace Go.Proofs.Ytkjnipjomfbalaa

/-- The IDs of a disk's points, of the first k. -/
def eldUp (L : List PtM) (disk : Int) (k : Nat) : List Int := ((L.take k).filter fun p => decide ((p.disk : Int) = disk)).map fun p => ((p.id : Nat) : Int)
theorem eldUp_succ (L : List PtM) (disk : Int) (k : Nat) (hk : k < L.length) : eldUp L disk (k + 1) = if (L[k].disk : Int) = disk then eldUp L disk k ++ [((L[k].id : Nat) : Int)] else eldUp L disk k := by
  unfold eldUp
  rw [← List.take_append_getElem hk, List.filter_append, List.map_append]
  by_cases h : (L[k].disk : Int) = disk <;> simp [h]
theorem eldUp_len (L : List PtM) (disk : Int) (k : Nat) : (eldUp L disk k).length ≤ k := by
  unfold eldUp
  rw [List.length_map]
  exact Nat.le_trans (List.length_filter_le _ _) (by simp; omega)
/-- All but the newest. -/
def eldestL (L : List PtM) (disk keep : Int) : List Int := (eldUp L disk L.length).take ((eldUp L disk L.length).length - keep.toNat)
theorem eldestL_len (L : List PtM) (disk keep : Int) : (eldestL L disk keep).length = (eldUp L disk L.length).length - keep.toNat := by
  unfold eldestL
  rw [List.length_take]; omega
theorem IntsAt.take {w : World} {A : Option Addr} {l : List Int} (h : IntsAt w A l) (n : Nat) : IntsAt w A (l.take n) := fun i hi => by
  have hi' : i < l.length := by rw [List.length_take] at hi; omega
  obtain ⟨b, off, e, c⟩ := h i hi'
  exact ⟨b, off, e, by rw [c, List.getElem_take]⟩

/-- The first k points without one. -/
def without (L : List PtM) (id : Int) (k : Nat) : List PtM := (L.take k).filter fun p => !decide ((p.id : Int) = id)
theorem without_succ (L : List PtM) (id : Int) (k : Nat) (hk : k < L.length) : without L id (k + 1) = if (L[k].id : Int) = id then without L id k else without L id k ++ [L[k]] := by
  unfold without
  rw [← List.take_append_getElem hk, List.filter_append]
  by_cases h : (L[k].id : Int) = id <;> simp [h]
theorem without_len (L : List PtM) (id : Int) (k : Nat) : (without L id k).length ≤ k := by
  unfold without
  exact Nat.le_trans (List.length_filter_le _ _) (by simp; omega)
theorem without_all {L : List PtM} (h : L.Pairwise fun p q => p.id < q.id) {id : Int} {j : Nat} (hp : placeOf L id = some j) : without L id L.length = L.eraseIdx j := by
  obtain ⟨hj, hid⟩ := placeOf_some hp
  unfold without
  rw [List.take_length, List.eraseIdx_eq_take_drop_succ]
  conv => lhs; rw [← List.take_append_drop j L, List.drop_eq_getElem_cons hj]
  have other : ∀ i (hi : i < L.length), i ≠ j → (!decide ((L[i].id : Int) = id)) = true := fun i hi hne => by
    simp only [Bool.not_eq_true', decide_eq_false_iff_not]
    intro e
    exact hne (pair_at h hi hj (by omega))
  rw [List.filter_append, List.filter_cons, if_neg (by simp [hid])]
  congr 1
  · refine List.filter_eq_self.2 fun p hp => ?_
    obtain ⟨i, hi, rfl⟩ := List.mem_iff_getElem.1 hp
    rw [List.getElem_take]
    exact other i _ (by simp at hi; omega)
  · refine List.filter_eq_self.2 fun p hp => ?_
    obtain ⟨i, hi, rfl⟩ := List.mem_iff_getElem.1 hp
    rw [List.getElem_drop]
    exact other _ _ (by omega)
end Go.Proofs.Ytkjnipjomfbalaa

/- The reference's vault: Drop. -/
namespace Go.Proofs.Ytkjnipjomfbalaa
open Go.RowKit Go.Maps

/-- Points in a row. -/
def PtRow (w : World) (B : Nat) (v : Value) (L : List PtM) : Prop := w.ownsRow B 47 4 v L.length (pCells L)

theorem RVauAt.relaid {w : World} {v g B B' : Nat} {lv u : Value} {V : VauM} {L : List PtM} (h : RVauAt w v g B lv V) (hO : w.ownsRow B' 47 4 u L.length (pCells L)) (hB : B ≤ B') (hne : ∀ b, u.ownBlock = some b → b ≠ g ∧ b ≠ v) :
    RVauAt (w.setCell ⟨v, 1, none⟩ u) v g B u ⟨V.X, L, V.next⟩ ∧ Turn [v] w (w.setCell ⟨v, 1, none⟩ u) := by
  have s1 := heap_setCell_same w v 1 _ _ u h.row
  have keep : ∀ k, k ≠ v → (w.setCell ⟨v, 1, none⟩ u).heap[k]? = w.heap[k]? := fun k hk => Below.heap_setCell _ _ _ _ hk
  exact ⟨⟨s1, h.idx.keep (keep g (fun e => h.ne e.symm)), ownsRow_keep (ownsRow_lower hO hB) fun b hb => keep b (hne b hb).2, h.ne, hne⟩, (Turn.refl _ _).cell (by simp) u⟩

set_option maxHeartbeats 1000000 in
set_option maxRecDepth 100000 in
theorem rdrop_any (w : World) (v g B : Nat) (lv : Value) (V V' : VauM) (id : Int) (h : RVauAt w v g B lv V) (hV : V.Ok) (hB : B ≤ w.heap.size) (ne : Int) (he : dropErr V id = ne) (hV' : dropV V id = V') :
    Calls Try.prog 30 #[.pointer (some ⟨v, 0, none⟩), .int .i64 id] w (RVauRet w v g B lv V' ne (.int .i64 ne)) := by
  obtain ⟨i0, hi, hz0, hz1, hz2⟩ := info_parts Try.infoPt
  cases hp : placeOf V.L id with
  | none =>
    have he' : ne = 5 := by rw [← he]; unfold dropErr; rw [hp]
    subst he'
    have HF := Lib.hid (rfind_no w v g B lv V id h hV hp)
    clear hp h he
    go_enter Try.func30, Try.ntmps30
    go_wp2_with fail
    ((with_reducible refine HF.out.mono ?_); rintro e w2 ⟨rfl, hb2⟩)
    have b3 := (Below.refl w2.heap.size w2).alloc (Nat.le_refl _) (.cells #[.int .i64 0, .int .i64 0, .int .i64 0, .int .i64 0] 47)
    go_wp2
    go_ret
    exact ⟨rfl, by simp, Turn.of_below (belowThen hb2 b3)⟩
  | some k =>
    have he' : ne = 0 := by rw [← he]; unfold dropErr; rw [hp]
    subst he'
    obtain ⟨hk, hid⟩ := placeOf_some hp
    obtain ⟨p, hpt⟩ : ∃ p, V.L[k] = p := ⟨_, rfl⟩
    have hpb := hV.pts _ (List.getElem_mem hk)
    rw [hpt] at hpb hid
    have hv1 : V' = ⟨V.X.free p.root, V.L.eraseIdx k, V.next⟩ := by
      rw [← hV']; unfold dropV; rw [hp]; simp only [getElem!_pos V.L k hk, hpt]
    have hall := without_all hV.inc hp
    have hIp := hV.inv.perm (heldOf_at V.L k hk)
    rw [hpt] at hIp
    have HF := Lib.hid (rfind_yes w v g B lv V id h hV k hk hp p hpt)
    have HOK := Lib.hid (hV.inv.okX (Nat.le_trans (heldOf_len _) (by have := hV.len; omega)))
    have HFREE := Lib.hid (fun w' (h' : RIdxAt w' g V.X) => refFreeE w' g 1000 V.X (V.X.free p.root) p.root _ h' HOK.out (by omega) hIp rfl)
    have HH := Lib.hid h
    have hvg := h.ne
    have hl6 := hV.len
    obtain ⟨n, hn⟩ : ∃ n, V.L.length = n := ⟨_, rfl⟩
    have HALL := Lib.hid hall
    have HV1 := Lib.hid hv1
    have HHP := Lib.hid (hV.pts)
    clear hp h he hV' hall hv1 hIp
    go_enter Try.func30, Try.ntmps30
    go_wp2_with fail
    ((with_reducible refine HF.out.mono ?_); rintro e w2 ⟨rfl, hb2⟩)
    have b3 := (Below.refl w2.heap.size w2).alloc (Nat.le_refl _) (.cells #[.int .i64 p.id, .int .i64 p.disk, .int .i64 p.size, .int .i64 p.root] 47)
    have e3 := heap_alloc_new w2 (.cells #[.int .i64 p.id, .int .i64 p.disk, .int .i64 p.size, .int .i64 p.root] 47)
    have hb3 := belowThen hb2 b3
    have h3 := HH.out.below hb3
    have c0 := h3.cell0
    have d3 : (w2.alloc (.cells #[.int .i64 p.id, .int .i64 p.disk, .int .i64 p.size, .int .i64 p.root] 47)).cell? ⟨w2.heap.size, 3, none⟩ = some (.int .i64 p.root) := cell_of_row _ _ _ _ _ _ e3
    have HV3 := Lib.hid h3
    have HB3 := Lib.hid hb3
    have hs2 : w.heap.size ≤ w2.heap.size := hb2.size
    clear HF b3 e3 h3 hb2 hb3 hid
    go_wp2_with fail
    generalize w2.alloc (.cells #[.int .i64 p.id, .int .i64 p.disk, .int .i64 p.size, .int .i64 p.root] 47) = W at *
    generalize w2.heap.size = gz at *
    have HFD := Lib.hid (HFREE.out W.drew (HV3.out.idx.below (Below.refl _ _).drew))
    have hgg : g < w.heap.size := HH.out.idx.lt
    clear HFREE
    go_region_held3 (fun w' => w'.cell? ⟨v, 0, none⟩ = some (.pointer (some ⟨g, 0, none⟩)) ∧ w'.cell? ⟨gz, 3, none⟩ = some (.int .i64 p.root)) (first | exact ⟨c0, d3⟩ | exact ⟨Turn.cellKept (a := W.drew) t5 c0 (by simpa using hvg), Turn.cellKept (a := W.drew) t5 d3 (by simp; omega)⟩)
      (first
        | (go_at_call 48; refine HFD.out.mono ?_; rintro e w5 ⟨rfl, h5, t5⟩))
    all_goals
      have HV5 := Lib.hid ((HV3.out.below (Below.refl _ _).drew).turned h5 t5)
      have HT5 := Lib.hid ((Turn.of_below HB3.out).trans ((Turn.refl _ W).drew.trans (t5.mono (one_rbs v g lv))))
      clear HFD c0 d3 h5 t5
      go_wp2
      have hvw : v < w5.heap.size := HV5.out.lt
      have hgw : g < w5.heap.size := HV5.out.idx.lt
      have hBw : B ≤ w5.heap.size := Nat.le_trans hB HT5.out.size
      go_loopw [7, 8] (fun u i w' => ∃ j : Nat, j ≤ n ∧ i = .int .i64 j ∧ w'.ownsRow w5.heap.size 47 4 u (without V.L id j).length (pCells (without V.L id j)) ∧ Below w5.heap.size w5 w') (fun _ i _ => n - (intOf i).toNat)
      case atStart => exact ⟨0, Nat.zero_le _, rfl, World.ownsRow_nil _ _ _ _, Below.refl _ _⟩
      case round =>
        obtain ⟨j, hj, rfl, hO, hb0⟩ := hrel
        have hvr := HV5.out.below hb0
        have c1 := hvr.cell1
        obtain ⟨A, c, hlv⟩ := ownsRow_slice hvr.pts
        rw [hlv] at c1
        simp only [hn] at c1 hlv
        by_cases hlt : j < n
        · have hlt' : j < V.L.length := by omega
          obtain ⟨b, c', e1, q1, q2, q3⟩ := ptRow hvr.pts hlt'
          simp only [hn] at e1 q1
          rw [hlv] at e1
          injection e1 with e1 _ e1c
          subst e1 e1c
          have d0 : wr.cell? ⟨b, j * 4, none⟩ = some (.int .i64 V.L[j].id) := q3 0 (by omega)
          have d1 : wr.cell? ⟨b, j * 4 + 1, none⟩ = some (.int .i64 V.L[j].disk) := q3 1 (by omega)
          have d2 : wr.cell? ⟨b, j * 4 + 2, none⟩ = some (.int .i64 V.L[j].size) := q3 2 (by omega)
          have d3 : wr.cell? ⟨b, j * 4 + 3, none⟩ = some (.int .i64 V.L[j].root) := q3 3 (by omega)
          have hD := without_succ V.L id j hlt'
          have hlen := without_len V.L id j
          have hsz : w5.heap.size ≤ wr.heap.size := hb0.size
          generalize V.L[j] = q at *
          have i1 : (j : Int) < (n : Int) := by omega
          have i2 : (0 : Int) ≤ (j : Int) := by omega
          clear q3 hvr hlv
          by_cases hd : (q.id : Int) = id
          · have hd' : ((q.id : Int) != id) = false := by simpa using hd
            rw [if_pos hd] at hD
            have HD := Lib.hid hD
            clear hD hd
            go_wp2
            go_roundw
            case rel => exact ⟨j + 1, hlt, by go_num, by rw [HD.out]; exact hO, hb0⟩
            case measure => simp [intOf]; omega
          · have hd' : ((q.id : Int) != id) = true := by simpa using hd
            rw [if_neg hd] at hD
            have HD := Lib.hid hD
            obtain ⟨l0, hl0⟩ : ∃ l0, (without V.L id j).length = l0 := ⟨_, rfl⟩
            have HL0 := Lib.hid hl0
            have HO := Lib.hid hO
            rw [hl0] at hO hlen
            clear hD hd hl0
            go_wp2_with (at_builtin; refine wpList_append_own _ rfl _ _ 60 rfl w5.heap.size 47 i0 _ 4 32 Try.underlying60 hi hz0 hz1 hz2 rfl (by decide) _ _ _ rfl (World.ownsRow.alloc hO _) ⟨wr.heap.size, 0, none⟩ 1 1 [.int .i64 q.id, .int .i64 q.disk, .int .i64 q.size, .int .i64 q.root] rfl rfl (World.news_of_block (cs := #[.int .i64 q.id, .int .i64 q.disk, .int .i64 q.size, .int .i64 q.root]) (t := 47) (fr := (0, 0)) (heap_alloc_new _ _)) (by simp [Value.oneCell']) (by unfold maxLen; omega) (by omega) (by simp; omega) ?_; intro v' w6 hown' hg3 hnil3)
            go_wp2
            go_roundw
            case rel =>
              refine ⟨j + 1, hlt, by go_num, ?_, (hb0.alloc hsz _).grown hg3 (by simp; omega) (fun k hk => (World.ownsRow.lt HO.out k hk).1)⟩
              rw [HD.out, pCells_append, List.length_append, HL0.out]
              simpa [pCells, ptCells] using hown'
            case measure => simp [intOf]; omega
        · obtain rfl : j = n := by omega
          obtain ⟨uA, uc, rfl⟩ := ownsRow_slice hO
          have HFIN := hvr.relaid (B' := w5.heap.size) (L := without V.L id V.L.length) (by simp only [hn]; exact hO) hBw (fun b hb => by have := (World.ownsRow.lt hO b hb).1; omega)
          rw [HALL.out] at HFIN
          have f1 := frozen_of_row wr v 1 _ _ hvr.row
          have HF := Lib.hid HFIN
          have HT := Lib.hid (HT5.out.trans (Turn.of_below (bs := rbs v g lv) hb0))
          have i1 : ¬ ((j : Int) < (j : Int)) := by omega
          clear HFIN hvr hlv hO hb0
          go_wp2
          go_ret
          refine ⟨rfl, fun _ => ⟨_, by rw [HV1.out]; exact HF.out.1⟩, HT.out.trans (HF.out.2.mono fun b hb => ?_)⟩
          simp only [List.mem_cons, List.not_mem_nil, or_false] at hb
          subst hb
          simp [rbs]
end Go.Proofs.Ytkjnipjomfbalaa
