/- slices.Delete at points. -/
import Derived.Test.YtnnnmpfkpckgbaaVau3
import Derived.Test.YtnnnmpfkpckgbaaLaws2
namespace Go.Proofs.Ytnnnmpfkpckgbaa
open Go.RowKit

theorem zeroPt (w : World) : (zeroValue 88).run Try.prog w = .ok (.agg #[.int .i64 0, .int .i64 0, .int .i64 0, .int .i64 0]) w := by kernel_rfl
theorem ptsRow {w : World} {B gb n c : Nat} {xs : List Value} (h : w.ownsRow B 88 4 (.slice (some ⟨gb, 0, none⟩) n c) n xs) :
    ∃ cur, w.heap[gb]? = some (.cells cur 88 (0, 0)) ∧ B ≤ gb ∧ cur.size = c * 4 ∧ n ≤ c ∧ c ≤ maxLen ∧ cur.toList.take (n * 4) = xs := by
  rcases h.2 with ⟨h', _⟩ | ⟨g', cap', cur, h', hb, hg, hnc, hcm, hcs, htake⟩
  · simp at h'
  · simp only [Value.slice.injEq, Option.some.injEq, Addr.mk.injEq, and_true, true_and] at h'
    obtain ⟨rfl, rfl⟩ := h'
    exact ⟨cur, hg, hb, hcs, hnc, hcm, htake⟩

/-- The row behind the deletion of one snapshot: the later ones moved ahead, the last one cleared. -/
def delPts (cur : Array Value) (LS : List PtM) (i : Nat) : Array Value := (cur.toList.take (i * 4) ++ pCells (LS.drop (i + 1)) ++ cur.toList.drop (i * 4 + (pCells (LS.drop (i + 1))).length)).toArray

theorem delPts_size {cur : Array Value} {LS : List PtM} {i n : Nat} (hn : LS.length = n) (hi : i < n) (hc : n * 4 ≤ cur.size) : (delPts cur LS i).size = cur.size := by
  simp [delPts, pCells_length]; omega
theorem delPts_take {cur : Array Value} {LS : List PtM} {i n : Nat} (hn : LS.length = n) (hi : i < n) (ht : cur.toList.take (n * 4) = pCells LS) : (delPts cur LS i).toList.take ((n - 1) * 4) = pCells (LS.eraseIdx i) := by
  have e1 : cur.toList.take (i * 4) = pCells (LS.take i) := by
    rw [← pCells_take LS i (by omega), ← ht, List.take_take, Nat.min_eq_left (by omega)]
  have e2 : (cur.toList.take (i * 4) ++ pCells (LS.drop (i + 1))).length = (n - 1) * 4 := by
    rw [List.length_append, e1, pCells_length, pCells_length]; simp; omega
  unfold delPts
  rw [List.take_append_of_le_length (by omega), List.take_of_length_le (by omega), e1, ← pCells_append, List.eraseIdx_eq_take_drop_succ]

theorem grown_rowP {w W : World} {g : Nat} (h : w.grownBy W (some g)) (cs : Array Value) : w.grownBy (W.setRow g cs) (some g) :=
  ⟨h.os, h.tape, h.output, by simpa using h.size, fun k hk hne => (setRow_other _ _ _ _ (fun e => hne (by rw [e]))).trans (h.block k hk hne)⟩

theorem delP_fin {B gb q c i : Nat} {w W : World} {cur : Array Value} {LS : List PtM} (z : Array Value) (hg : W.heap[gb]? = some (.cells (delPts cur LS i) 88 (0, 0))) (hgr : w.grownBy W (some gb)) (hB : B ≤ gb) (hn : LS.length = q + 1) (hi : i < q + 1) (hds : (delPts cur LS i).size = cur.size) (hcs : cur.size = c * 4) (hqc : q + 1 ≤ c) (hcm : c ≤ maxLen)
    (hdt : (delPts cur LS i).toList.take (q * 4) = pCells (LS.eraseIdx i)) (hz : z.size = 4) :
    (W.setRow gb (splice (delPts cur LS i) (q * 4) z)).ownsRow B 88 4 (.slice (some ⟨gb, 0, none⟩) q c) q (pCells (LS.eraseIdx i)) ∧ w.grownBy (W.setRow gb (splice (delPts cur LS i) (q * 4) z)) (some gb) := by
  refine ⟨⟨?_, .inr ⟨gb, c, _, rfl, hB, setRow_heap _ _ _ _ _ _ hg, by omega, hcm, ?_, ?_⟩⟩, grown_rowP hgr _⟩
  · rw [pCells_length, List.length_eraseIdx, if_pos (by omega), hn]; simp
  · simp [splice, hds, hcs, hz]; omega
  · simp only [splice]
    rw [List.append_assoc, List.take_append_of_le_length (by simp [hds, hcs]; omega), List.take_take, Nat.min_self, hdt]

set_option maxHeartbeats 1000000 in
set_option maxRecDepth 100000 in
theorem deletePts_any (B gb n c i : Nat) (w : World) (LS : List PtM) (hn : LS.length = n) (hn5 : n ≤ 6) (hi : i < n) (hO : w.ownsRow B 88 4 (.slice (some ⟨gb, 0, none⟩) n c) n (pCells LS)) :
    Calls Try.prog 57 #[.slice (some ⟨gb, 0, none⟩) n c, .int .i64 i, .int .i64 ((i : Int) + 1)] w fun e w' => e = .returned (.slice (some ⟨gb, 0, none⟩) (n - 1) c) ∧ w'.ownsRow B 88 4 (.slice (some ⟨gb, 0, none⟩) (n - 1) c) (n - 1) (pCells (LS.eraseIdx i)) ∧ w.grownBy w' (some gb) := by
  obtain ⟨q, rfl⟩ : ∃ q, n = q + 1 := ⟨n - 1, by omega⟩
  rw [show q + 1 - 1 = q by omega]
  obtain ⟨cur, hg, hB, hcs, hnc, hcm, htake⟩ := ptsRow hO
  unfold maxLen at hcm
  have hcn : (q + 1) * 4 ≤ cur.size := by rw [hcs]; exact Nat.mul_le_mul_right _ hnc
  obtain ⟨inf, hinf, hz0, hz1, hz2⟩ := info_parts Try.infoPt
  have i1 : (0 : Int) ≤ (i : Int) := by omega
  have i2 : (i : Int) ≤ (i : Int) + 1 := by omega
  have i3 : (i : Int) + 1 ≤ (q : Int) + 1 := by omega
  have i4 : (q : Int) + 1 ≤ (c : Int) := by omega
  have i5 : (i : Int) ≤ (c : Int) := by omega
  have i6 : ((i : Int) == (i : Int) + 1) = false := by simp; omega
  have i8 : (0 : Int) ≤ (q : Int) := by omega
  have i9 : (q : Int) ≤ (q : Int) + 1 := by omega
  have iA : (0 : Int) ≤ (q : Int) + 1 := by omega
  have iB : ¬ c = q := by omega
  have HT := Lib.hid htake
  have HCS := Lib.hid hcs
  have HN := Lib.hid hn
  have HDS := Lib.hid (delPts_size hn hi hcn)
  have HDT := Lib.hid (delPts_take hn hi htake)
  clear htake hcs hn
  have i7 : (0 : Int) ≤ (i : Int) + 1 := by omega
  have HL := Lib.hid (show (pCells (LS.drop (i + 1))).length = (q + 1 - (i + 1)) * inf.size by rw [pCells_length, hz1, List.length_drop, HN.out])
  have HO1 := Lib.hid (pCells_one (LS.drop (i + 1)))
  have HF := Lib.hid (show i * inf.size + (pCells (LS.drop (i + 1))).length ≤ cur.size by rw [pCells_length, hz1, List.length_drop, HN.out]; omega)
  have HR := Lib.hid (show (cur.toList.take (i * inf.size) ++ pCells (LS.drop (i + 1)) ++ cur.toList.drop (i * inf.size + (pCells (LS.drop (i + 1))).length)).toArray = delPts cur LS i by rw [hz1]; rfl)
  have HZ0 : Builtin.zeroCells (Value.agg #[.int .i64 0, .int .i64 0, .int .i64 0, .int .i64 0]).cells 1 = #[.int .i64 0, .int .i64 0, .int .i64 0, .int .i64 0] := by kernel_rfl
  have HZ1 := Lib.hid (show q * 4 + (Builtin.zeroCells (Value.agg #[.int .i64 0, .int .i64 0, .int .i64 0, .int .i64 0]).cells 1).size ≤ (delPts cur LS i).size by rw [HZ0, HDS.out]; simp; omega)
  have HZ2 := Lib.hid (show ∀ v ∈ (Builtin.zeroCells (Value.agg #[.int .i64 0, .int .i64 0, .int .i64 0, .int .i64 0]).cells 1).toList, v.oneCell' = true by rw [HZ0]; simp [Value.oneCell'])
  have HZ := Lib.hid HZ0
  clear HZ0
  by_cases hcap : c = i + 1
  · obtain rfl : q = i := by omega
    subst hcap
    have HNW := Lib.hid (show ∀ j u, (pCells (LS.drop (q + 1)))[j]? = some u → w.drew.cell? ((⟨gb, 0, none⟩ : Addr).add j) = some u from fun j u hu => by
      rw [List.drop_of_length_le (by have := HN.out; omega)] at hu; simp [pCells] at hu)
    go_enter Try.func57, Try.ntmps57
    go_wp2
    go_region_law (refine step_append_row rfl _ _ 93 rfl 88 inf Try.underlying93 hinf gb q (q + 1) cur hg (by simp [Act.eval, Act.put]) ⟨gb, 0, none⟩ (q + 1 - (q + 1)) (q + 1 - (q + 1)) (pCells (LS.drop (q + 1))) (by simp [Act.eval, Act.put]) HL.out HNW.out HO1.out (by omega) HF.out _ HR.out q (by omega) ?_)
    have hg1 : ((w.drew).setRow gb (delPts cur LS q)).heap[gb]? = some (.cells (delPts cur LS q) 88 (0, 0)) := setRow_heap _ _ _ _ _ _ hg
    have hg1' : ((w.setRow gb (delPts cur LS q)).drew).heap[gb]? = some (.cells (delPts cur LS q) 88 (0, 0)) := setRow_heap w _ _ _ _ _ hg
    clear hg
    go_wp2_with ((with_reducible refine isClear ?_); refine wpList_clear rfl 93 _ rfl gb (q * 4) 1 ((q + 1) - q) (by simp [Act.eval]) (by omega) 88 _ Try.underlying93 (zeroPt _) 88 (delPts cur LS q) (by first | exact hg1 | exact hg1') HZ1.out HZ2.out _ rfl ?_)
    go_ret
    first
      | exact ⟨rfl, delP_fin (W := w.drew.setRow gb (delPts cur LS q)) _ hg1 (grown_rowP ⟨rfl, rfl, rfl, Nat.le_refl _, fun _ _ _ => rfl⟩ _) hB HN.out hi HDS.out HCS.out hnc (by unfold maxLen; omega) HDT.out (by rw [size_zeroCells]; rfl)⟩
      | exact ⟨rfl, delP_fin (W := (w.setRow gb (delPts cur LS q)).drew) _ hg1' ⟨rfl, rfl, rfl, by simp, fun k _ hne => setRow_other _ _ _ _ (fun e => hne (by rw [e]))⟩ hB HN.out hi HDS.out HCS.out hnc (by unfold maxLen; omega) HDT.out (by rw [size_zeroCells]; rfl)⟩
  · have HNW := Lib.hid (show ∀ j u, (pCells (LS.drop (i + 1)))[j]? = some u → w.drew.cell? ((⟨gb, (i + 1) * 4, none⟩ : Addr).add j) = some u from fun j u hu => by
      rw [add_lit]
      have hj : j < (pCells (LS.drop (i + 1))).length := by
        by_cases c : j < (pCells (LS.drop (i + 1))).length
        · exact c
        · rw [List.getElem?_eq_none (by omega)] at hu; cases hu
      rw [pCells_length, List.length_drop, HN.out] at hj
      show w.cell? _ = _
      rw [cell_of_row _ _ _ _ _ _ hg]
      rw [← pCells_drop LS (i + 1) (by have := HN.out; omega), List.getElem?_drop, ← HT.out, List.getElem?_take, if_pos (by omega)] at hu
      simpa using hu)
    go_enter Try.func57, Try.ntmps57
    go_wp2
    go_region_law (refine step_append_row rfl _ _ 93 rfl 88 inf Try.underlying93 hinf gb i c cur hg (by simp [Act.eval, Act.put]) ⟨gb, (i + 1) * 4, none⟩ (q + 1 - (i + 1)) (c - (i + 1)) (pCells (LS.drop (i + 1))) (by simp [Act.eval, Act.put]) HL.out HNW.out HO1.out (by omega) HF.out _ HR.out q (by omega) ?_)
    have hg1 : ((w.drew).setRow gb (delPts cur LS i)).heap[gb]? = some (.cells (delPts cur LS i) 88 (0, 0)) := setRow_heap _ _ _ _ _ _ hg
    have hg1' : ((w.setRow gb (delPts cur LS i)).drew).heap[gb]? = some (.cells (delPts cur LS i) 88 (0, 0)) := setRow_heap w _ _ _ _ _ hg
    clear hg
    go_wp2_with ((with_reducible refine isClear ?_); refine wpList_clear rfl 93 _ rfl gb (q * 4) 1 (c - q) (by simp [Act.eval]) (by omega) 88 _ Try.underlying93 (zeroPt _) 88 (delPts cur LS i) (by first | exact hg1 | exact hg1') HZ1.out HZ2.out _ rfl ?_)
    go_ret
    first
      | exact ⟨rfl, delP_fin (W := w.drew.setRow gb (delPts cur LS i)) _ hg1 (grown_rowP ⟨rfl, rfl, rfl, Nat.le_refl _, fun _ _ _ => rfl⟩ _) hB HN.out hi HDS.out HCS.out hnc (by unfold maxLen; omega) HDT.out (by rw [size_zeroCells]; rfl)⟩
      | exact ⟨rfl, delP_fin (W := (w.setRow gb (delPts cur LS i)).drew) _ hg1' ⟨rfl, rfl, rfl, by simp, fun k _ hne => setRow_other _ _ _ _ (fun e => hne (by rw [e]))⟩ hB HN.out hi HDS.out HCS.out hnc (by unfold maxLen; omega) HDT.out (by rw [size_zeroCells]; rfl)⟩
end Go.Proofs.Ytnnnmpfkpckgbaa
