/- slices.Delete at changes. -/
import Derived.Test.YthhedahfmllnoaaZqCmp
import Derived.Test.YthhedahfmllnoaaZqRow2
namespace Go.Proofs.Ythhedahfmllnoaa
open Go.RowKit

theorem zeroChV (w : World) : (zeroValue 60).run Try.prog w = .ok (.agg #[.string ByteArray.empty, .string ByteArray.empty, .bool false]) w := by kernel_rfl
theorem chsRow {w : World} {B gb n c : Nat} {xs : List Value} (h : w.ownsRow B 60 3 (.slice (some ⟨gb, 0, none⟩) n c) n xs) :
    ∃ cur, w.heap[gb]? = some (.cells cur 60 (0, 0)) ∧ B ≤ gb ∧ cur.size = c * 3 ∧ n ≤ c ∧ c ≤ maxLen ∧ cur.toList.take (n * 3) = xs := by
  rcases h.2 with ⟨h', _⟩ | ⟨g', cap', cur, h', hb, hg, hnc, hcm, hcs, htake⟩
  · simp at h'
  · simp only [Value.slice.injEq, Option.some.injEq, Addr.mk.injEq, and_true, true_and] at h'
    obtain ⟨rfl, rfl⟩ := h'
    exact ⟨cur, hg, hb, hcs, hnc, hcm, htake⟩

/-- The row behind the deletion of one snapshot: the later ones moved ahead, the last one cleared. -/
def delChs (cur : Array Value) (LS : List Ch) (i : Nat) : Array Value := (cur.toList.take (i * 3) ++ chCells (LS.drop (i + 1)) ++ cur.toList.drop (i * 3 + (chCells (LS.drop (i + 1))).length)).toArray

theorem delChs_size {cur : Array Value} {LS : List Ch} {i n : Nat} (hn : LS.length = n) (hi : i < n) (hc : n * 3 ≤ cur.size) : (delChs cur LS i).size = cur.size := by
  simp [delChs, chCells_length]; omega
theorem delChs_take {cur : Array Value} {LS : List Ch} {i n : Nat} (hn : LS.length = n) (hi : i < n) (ht : cur.toList.take (n * 3) = chCells LS) : (delChs cur LS i).toList.take ((n - 1) * 3) = chCells (LS.eraseIdx i) := by
  have e1 : cur.toList.take (i * 3) = chCells (LS.take i) := by
    rw [← chCells_take LS i (by omega), ← ht, List.take_take, Nat.min_eq_left (by omega)]
  have e2 : (cur.toList.take (i * 3) ++ chCells (LS.drop (i + 1))).length = (n - 1) * 3 := by
    rw [List.length_append, e1, chCells_length, chCells_length]; simp; omega
  unfold delChs
  rw [List.take_append_of_le_length (by omega), List.take_of_length_le (by omega), e1, ← chCells_append, List.eraseIdx_eq_take_drop_succ]

theorem grown_rowC {w W : World} {g : Nat} (h : w.grownBy W (some g)) (cs : Array Value) : w.grownBy (W.setRow g cs) (some g) :=
  ⟨h.os, h.tape, h.output, by simpa using h.size, fun k hk hne => (setRow_other _ _ _ _ (fun e => hne (by rw [e]))).trans (h.block k hk hne)⟩

theorem delC_fin {B gb q c i : Nat} {w W : World} {cur : Array Value} {LS : List Ch} (z : Array Value) (hg : W.heap[gb]? = some (.cells (delChs cur LS i) 60 (0, 0))) (hgr : w.grownBy W (some gb)) (hB : B ≤ gb) (hn : LS.length = q + 1) (hi : i < q + 1) (hds : (delChs cur LS i).size = cur.size) (hcs : cur.size = c * 3) (hqc : q + 1 ≤ c) (hcm : c ≤ maxLen)
    (hdt : (delChs cur LS i).toList.take (q * 3) = chCells (LS.eraseIdx i)) (hz : z.size = 3) :
    (W.setRow gb (splice (delChs cur LS i) (q * 3) z)).ownsRow B 60 3 (.slice (some ⟨gb, 0, none⟩) q c) q (chCells (LS.eraseIdx i)) ∧ w.grownBy (W.setRow gb (splice (delChs cur LS i) (q * 3) z)) (some gb) := by
  refine ⟨⟨?_, .inr ⟨gb, c, _, rfl, hB, setRow_heap _ _ _ _ _ _ hg, by omega, hcm, ?_, ?_⟩⟩, grown_rowC hgr _⟩
  · rw [chCells_length, List.length_eraseIdx, if_pos (by omega), hn]; simp
  · simp [splice, hds, hcs, hz]; omega
  · simp only [splice]
    rw [List.append_assoc, List.take_append_of_le_length (by simp [hds, hcs]; omega), List.take_take, Nat.min_self, hdt]

set_option maxHeartbeats 1000000 in
set_option maxRecDepth 100000 in
theorem deleteChs_any (B gb n c i : Nat) (w : World) (LS : List Ch) (hn : LS.length = n) (hn5 : n ≤ 2000) (hi : i < n) (hO : w.ownsRow B 60 3 (.slice (some ⟨gb, 0, none⟩) n c) n (chCells LS)) :
    Calls Try.prog 48 #[.slice (some ⟨gb, 0, none⟩) n c, .int .i64 i, .int .i64 ((i : Int) + 1)] w fun e w' => e = .returned (.slice (some ⟨gb, 0, none⟩) (n - 1) c) ∧ w'.ownsRow B 60 3 (.slice (some ⟨gb, 0, none⟩) (n - 1) c) (n - 1) (chCells (LS.eraseIdx i)) ∧ w.grownBy w' (some gb) := by
  obtain ⟨q, rfl⟩ : ∃ q, n = q + 1 := ⟨n - 1, by omega⟩
  rw [show q + 1 - 1 = q by omega]
  obtain ⟨cur, hg, hB, hcs, hnc, hcm, htake⟩ := chsRow hO
  unfold maxLen at hcm
  have hcn : (q + 1) * 3 ≤ cur.size := by rw [hcs]; exact Nat.mul_le_mul_right _ hnc
  obtain ⟨inf, hinf, hz0, hz1, hz2⟩ := info_parts Try.infoChZ
  have i1 : (0 : Int) ≤ (i : Int) := by omega
  have i2 : (i : Int) ≤ (i : Int) + 1 := by omega
  have i3 : (i : Int) + 1 ≤ (q : Int) + 1 := by omega
  have i4 : (q : Int) + 1 ≤ (c : Int) := by omega
  have i5 : (i : Int) ≤ (c : Int) := by omega
  have i6 : ((i : Int) == (i : Int) + 1) = false := by simp; omega
  have i8 : (0 : Int) ≤ (q : Int) := by omega
  have i9 : (q : Int) ≤ (q : Int) + 1 := by omega
  have iA : (0 : Int) ≤ (q : Int) + 1 := by omega
  have iB : ¬ c = q := by omega
  have HT := Lib.hid htake
  have HCS := Lib.hid hcs
  have HN := Lib.hid hn
  have HDS := Lib.hid (delChs_size hn hi hcn)
  have HDT := Lib.hid (delChs_take hn hi htake)
  clear htake hcs hn
  have i7 : (0 : Int) ≤ (i : Int) + 1 := by omega
  have HL := Lib.hid (show (chCells (LS.drop (i + 1))).length = (q + 1 - (i + 1)) * inf.size by rw [chCells_length, hz1, List.length_drop, HN.out])
  have HO1 := Lib.hid (chCells_one (LS.drop (i + 1)))
  have HF := Lib.hid (show i * inf.size + (chCells (LS.drop (i + 1))).length ≤ cur.size by rw [chCells_length, hz1, List.length_drop, HN.out]; omega)
  have HR := Lib.hid (show (cur.toList.take (i * inf.size) ++ chCells (LS.drop (i + 1)) ++ cur.toList.drop (i * inf.size + (chCells (LS.drop (i + 1))).length)).toArray = delChs cur LS i by rw [hz1]; rfl)
  have HZ0 : Builtin.zeroCells (Value.agg #[.string ByteArray.empty, .string ByteArray.empty, .bool false]).cells 1 = #[.string ByteArray.empty, .string ByteArray.empty, .bool false] := by kernel_rfl
  have HZ1 := Lib.hid (show q * 3 + (Builtin.zeroCells (Value.agg #[.string ByteArray.empty, .string ByteArray.empty, .bool false]).cells 1).size ≤ (delChs cur LS i).size by rw [HZ0, HDS.out]; simp; omega)
  have HZ2 := Lib.hid (show ∀ v ∈ (Builtin.zeroCells (Value.agg #[.string ByteArray.empty, .string ByteArray.empty, .bool false]).cells 1).toList, v.oneCell' = true by rw [HZ0]; simp [Value.oneCell'])
  have HZ := Lib.hid HZ0
  clear HZ0
  by_cases hcap : c = i + 1
  · obtain rfl : q = i := by omega
    subst hcap
    have HNW := Lib.hid (show ∀ j u, (chCells (LS.drop (q + 1)))[j]? = some u → w.drew.cell? ((⟨gb, 0, none⟩ : Addr).add j) = some u from fun j u hu => by
      rw [List.drop_of_length_le (by have := HN.out; omega)] at hu; simp [chCells] at hu)
    go_enter Try.func48, Try.ntmps48
    go_wp2
    go_region_law (refine step_append_row rfl _ _ 36 rfl 60 inf Try.underlying36 hinf gb q (q + 1) cur hg (by simp [Act.eval, Act.put]) ⟨gb, 0, none⟩ (q + 1 - (q + 1)) (q + 1 - (q + 1)) (chCells (LS.drop (q + 1))) (by simp [Act.eval, Act.put]) HL.out HNW.out HO1.out (by omega) HF.out _ HR.out q (by omega) ?_)
    have hg1 : ((w.drew).setRow gb (delChs cur LS q)).heap[gb]? = some (.cells (delChs cur LS q) 60 (0, 0)) := setRow_heap _ _ _ _ _ _ hg
    have hg1' : ((w.setRow gb (delChs cur LS q)).drew).heap[gb]? = some (.cells (delChs cur LS q) 60 (0, 0)) := setRow_heap w _ _ _ _ _ hg
    clear hg
    go_wp2_with ((with_reducible refine isClear ?_); refine wpList_clear rfl 36 _ rfl gb (q * 3) 1 ((q + 1) - q) (by simp [Act.eval]) (by omega) 60 _ Try.underlying36 (zeroChV _) 60 (delChs cur LS q) (by first | exact hg1 | exact hg1') HZ1.out HZ2.out _ rfl ?_)
    go_ret
    first
      | exact ⟨rfl, delC_fin (W := w.drew.setRow gb (delChs cur LS q)) _ hg1 (grown_rowC ⟨rfl, rfl, rfl, Nat.le_refl _, fun _ _ _ => rfl⟩ _) hB HN.out hi HDS.out HCS.out hnc (by unfold maxLen; omega) HDT.out (by rw [size_zeroCells]; rfl)⟩
      | exact ⟨rfl, delC_fin (W := (w.setRow gb (delChs cur LS q)).drew) _ hg1' ⟨rfl, rfl, rfl, by simp, fun k _ hne => setRow_other _ _ _ _ (fun e => hne (by rw [e]))⟩ hB HN.out hi HDS.out HCS.out hnc (by unfold maxLen; omega) HDT.out (by rw [size_zeroCells]; rfl)⟩
  · have HNW := Lib.hid (show ∀ j u, (chCells (LS.drop (i + 1)))[j]? = some u → w.drew.cell? ((⟨gb, (i + 1) * 3, none⟩ : Addr).add j) = some u from fun j u hu => by
      rw [add_lit]
      have hj : j < (chCells (LS.drop (i + 1))).length := by
        by_cases c : j < (chCells (LS.drop (i + 1))).length
        · exact c
        · rw [List.getElem?_eq_none (by omega)] at hu; cases hu
      rw [chCells_length, List.length_drop, HN.out] at hj
      show w.cell? _ = _
      rw [cell_of_row _ _ _ _ _ _ hg]
      rw [← chCells_drop LS (i + 1) (by have := HN.out; omega), List.getElem?_drop, ← HT.out, List.getElem?_take, if_pos (by omega)] at hu
      simpa using hu)
    go_enter Try.func48, Try.ntmps48
    go_wp2
    go_region_law (refine step_append_row rfl _ _ 36 rfl 60 inf Try.underlying36 hinf gb i c cur hg (by simp [Act.eval, Act.put]) ⟨gb, (i + 1) * 3, none⟩ (q + 1 - (i + 1)) (c - (i + 1)) (chCells (LS.drop (i + 1))) (by simp [Act.eval, Act.put]) HL.out HNW.out HO1.out (by omega) HF.out _ HR.out q (by omega) ?_)
    have hg1 : ((w.drew).setRow gb (delChs cur LS i)).heap[gb]? = some (.cells (delChs cur LS i) 60 (0, 0)) := setRow_heap _ _ _ _ _ _ hg
    have hg1' : ((w.setRow gb (delChs cur LS i)).drew).heap[gb]? = some (.cells (delChs cur LS i) 60 (0, 0)) := setRow_heap w _ _ _ _ _ hg
    clear hg
    go_wp2_with ((with_reducible refine isClear ?_); refine wpList_clear rfl 36 _ rfl gb (q * 3) 1 (c - q) (by simp [Act.eval]) (by omega) 60 _ Try.underlying36 (zeroChV _) 60 (delChs cur LS i) (by first | exact hg1 | exact hg1') HZ1.out HZ2.out _ rfl ?_)
    go_ret
    first
      | exact ⟨rfl, delC_fin (W := w.drew.setRow gb (delChs cur LS i)) _ hg1 (grown_rowC ⟨rfl, rfl, rfl, Nat.le_refl _, fun _ _ _ => rfl⟩ _) hB HN.out hi HDS.out HCS.out hnc (by unfold maxLen; omega) HDT.out (by rw [size_zeroCells]; rfl)⟩
      | exact ⟨rfl, delC_fin (W := (w.setRow gb (delChs cur LS i)).drew) _ hg1' ⟨rfl, rfl, rfl, by simp, fun k _ hne => setRow_other _ _ _ _ (fun e => hne (by rw [e]))⟩ hB HN.out hi HDS.out HCS.out hnc (by unfold maxLen; omega) HDT.out (by rw [size_zeroCells]; rfl)⟩
end Go.Proofs.Ythhedahfmllnoaa
