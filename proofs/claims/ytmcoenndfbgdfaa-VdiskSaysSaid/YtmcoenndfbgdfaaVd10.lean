/- Package vdisk: slices.Delete at a snapshot; Drop. -/
import Derived.Test.YtmcoenndfbgdfaaVd9
import Derived.Test.YtmcoenndfbgdfaaVd6
import Derived.Test.YtmcoenndfbgdfaaLaws2
namespace Go.Proofs.Ytmcoenndfbgdfaa
open Go.RowKit

theorem zeroSnap (w : World) : (zeroValue 105).run Try.prog w = .ok (.agg (sArr ⟨0, ⟨0, fun _ => ByteArray.empty⟩, [], false⟩ (.slice none 0 0))) w := by kernel_rfl

theorem sCells_take (LS : List (SnapM × Value)) (i : Nat) (h : i ≤ LS.length) : (sCells LS).take (i * 20) = sCells (LS.take i) := by
  conv => lhs; rw [← List.take_append_drop i LS, sCells_append]
  rw [List.take_append_of_le_length (by rw [sCells_length]; simp; omega), List.take_of_length_le (by rw [sCells_length]; simp; omega)]
theorem sCells_drop (LS : List (SnapM × Value)) (i : Nat) (h : i ≤ LS.length) : (sCells LS).drop (i * 20) = sCells (LS.drop i) := by
  conv => lhs; rw [← List.take_append_drop i LS, sCells_append]
  rw [List.drop_append_of_le_length (by rw [sCells_length]; simp; omega), List.drop_of_length_le (by rw [sCells_length]; simp; omega), List.nil_append]

/-- The row behind the deletion of one snapshot: the later ones moved ahead, the last one cleared. -/
def delRow (cur : Array Value) (LS : List (SnapM × Value)) (i : Nat) : Array Value := (cur.toList.take (i * 20) ++ sCells (LS.drop (i + 1)) ++ cur.toList.drop (i * 20 + (sCells (LS.drop (i + 1))).length)).toArray

theorem delRow_size {cur : Array Value} {LS : List (SnapM × Value)} {i n : Nat} (hn : LS.length = n) (hi : i < n) (hc : n * 20 ≤ cur.size) : (delRow cur LS i).size = cur.size := by
  simp [delRow, sCells_length]; omega
theorem delRow_take {cur : Array Value} {LS : List (SnapM × Value)} {i n : Nat} (hn : LS.length = n) (hi : i < n) (ht : cur.toList.take (n * 20) = sCells LS) : (delRow cur LS i).toList.take ((n - 1) * 20) = sCells (LS.eraseIdx i) := by
  have e1 : cur.toList.take (i * 20) = sCells (LS.take i) := by
    rw [← sCells_take LS i (by omega), ← ht, List.take_take, Nat.min_eq_left (by omega)]
  have e2 : (cur.toList.take (i * 20) ++ sCells (LS.drop (i + 1))).length = (n - 1) * 20 := by
    rw [List.length_append, e1, sCells_length, sCells_length]; simp; omega
  unfold delRow
  rw [List.take_append_of_le_length (by omega), List.take_of_length_le (by omega), e1, ← sCells_append, List.eraseIdx_eq_take_drop_succ]

theorem grown_row {w W : World} {g : Nat} (h : w.grownBy W (some g)) (cs : Array Value) : w.grownBy (W.setRow g cs) (some g) :=
  ⟨h.os, h.tape, h.output, by simpa using h.size, fun k hk hne => (setRow_other _ _ _ _ (fun e => hne (by rw [e]))).trans (h.block k hk hne)⟩

theorem del_fin {B gb q c i : Nat} {w W : World} {cur : Array Value} {LS : List (SnapM × Value)} (z : Array Value) (hg : W.heap[gb]? = some (.cells (delRow cur LS i) 105 (0, 0))) (hgr : w.grownBy W (some gb)) (hB : B ≤ gb) (hn : LS.length = q + 1) (hi : i < q + 1) (hds : (delRow cur LS i).size = cur.size) (hcs : cur.size = c * 20) (hqc : q + 1 ≤ c) (hcm : c ≤ maxLen)
    (hdt : (delRow cur LS i).toList.take (q * 20) = sCells (LS.eraseIdx i)) (hz : z.size = 20) :
    (W.setRow gb (splice (delRow cur LS i) (q * 20) z)).ownsRow B 105 20 (.slice (some ⟨gb, 0, none⟩) q c) q (sCells (LS.eraseIdx i)) ∧ w.grownBy (W.setRow gb (splice (delRow cur LS i) (q * 20) z)) (some gb) := by
  refine ⟨⟨?_, .inr ⟨gb, c, _, rfl, hB, setRow_heap _ _ _ _ _ _ hg, by omega, hcm, ?_, ?_⟩⟩, grown_row hgr _⟩
  · rw [sCells_length, List.length_eraseIdx, if_pos (by omega), hn]; simp
  · simp [splice, hds, hcs, hz]; omega
  · simp only [splice]
    rw [List.append_assoc, List.take_append_of_le_length (by simp [hds, hcs]; omega), List.take_take, Nat.min_self, hdt]

set_option maxHeartbeats 1000000 in
set_option maxRecDepth 100000 in
theorem delete_any (B gb n c i : Nat) (w : World) (LS : List (SnapM × Value)) (hn : LS.length = n) (hn5 : n ≤ 5) (hi : i < n) (hone : ∀ p ∈ LS, ∃ A m k, p.2 = .slice A m k) (hO : w.ownsRow B 105 20 (.slice (some ⟨gb, 0, none⟩) n c) n (sCells LS)) :
    Calls Try.prog 60 #[.slice (some ⟨gb, 0, none⟩) n c, .int .i64 i, .int .i64 ((i : Int) + 1)] w fun e w' => e = .returned (.slice (some ⟨gb, 0, none⟩) (n - 1) c) ∧ w'.ownsRow B 105 20 (.slice (some ⟨gb, 0, none⟩) (n - 1) c) (n - 1) (sCells (LS.eraseIdx i)) ∧ w.grownBy w' (some gb) := by
  obtain ⟨q, rfl⟩ : ∃ q, n = q + 1 := ⟨n - 1, by omega⟩
  rw [show q + 1 - 1 = q by omega]
  obtain ⟨cur, hg, hB, hcs, hnc, hcm, htake, hcut⟩ := row_open hO hn
  unfold maxLen at hcm
  have hcn : (q + 1) * 20 ≤ cur.size := by rw [hcs]; exact Nat.mul_le_mul_right _ hnc
  obtain ⟨inf, hinf, hz0, hz1, hz2⟩ := info_parts Try.infoSnapZ
  have i1 : (0 : Int) ≤ (i : Int) := by omega
  have i2 : (i : Int) ≤ (i : Int) + 1 := by omega
  have i3 : (i : Int) + 1 ≤ (q : Int) + 1 := by omega
  have i4 : (q : Int) + 1 ≤ (c : Int) := by omega
  have i5 : (i : Int) ≤ (c : Int) := by omega
  have i6 : ((i : Int) == (i : Int) + 1) = false := by simp; omega
  have i8 : (0 : Int) ≤ (q : Int) := by omega
  have i9 : (q : Int) ≤ (q : Int) + 1 := by omega
  have iA : (0 : Int) ≤ (q : Int) + 1 := by omega
  have iB : ¬ c = q := by omega
  clear hcut
  have HT := Lib.hid htake
  have HCS := Lib.hid hcs
  have HN := Lib.hid hn
  have HDS := Lib.hid (delRow_size hn hi hcn)
  have HDT := Lib.hid (delRow_take hn hi htake)
  clear htake hcs hn
  have i7 : (0 : Int) ≤ (i : Int) + 1 := by omega
  have HL := Lib.hid (show (sCells (LS.drop (i + 1))).length = (q + 1 - (i + 1)) * inf.size by rw [sCells_length, hz1, List.length_drop, HN.out])
  have HO1 := Lib.hid (show ∀ u ∈ sCells (LS.drop (i + 1)), u.oneCell' = true from fun u hu => by
    obtain ⟨p, hp, hu⟩ := List.mem_flatMap.1 hu
    obtain ⟨A, m, k, e⟩ := hone p (List.mem_of_mem_drop hp)
    rw [e] at hu
    simp [sArr] at hu
    rcases hu with h | h | h | h | h | h | h | h | h | h | h | h | h | h | h | h | h | h | h | h <;> (rw [h]; rfl))
  have HF := Lib.hid (show i * inf.size + (sCells (LS.drop (i + 1))).length ≤ cur.size by rw [sCells_length, hz1, List.length_drop, HN.out]; omega)
  have HR := Lib.hid (show (cur.toList.take (i * inf.size) ++ sCells (LS.drop (i + 1)) ++ cur.toList.drop (i * inf.size + (sCells (LS.drop (i + 1))).length)).toArray = delRow cur LS i by rw [hz1]; rfl)
  have HZ0 : Builtin.zeroCells (Value.agg (sArr ⟨0, ⟨0, fun _ => ByteArray.empty⟩, [], false⟩ (.slice none 0 0))).cells 1 = sArr ⟨0, ⟨0, fun _ => ByteArray.empty⟩, [], false⟩ (.slice none 0 0) := by kernel_rfl
  have HZ1 := Lib.hid (show q * 20 + (Builtin.zeroCells (Value.agg (sArr ⟨0, ⟨0, fun _ => ByteArray.empty⟩, [], false⟩ (.slice none 0 0))).cells 1).size ≤ (delRow cur LS i).size by rw [HZ0, HDS.out, sArr_size]; omega)
  have HZ2 := Lib.hid (show ∀ v ∈ (Builtin.zeroCells (Value.agg (sArr ⟨0, ⟨0, fun _ => ByteArray.empty⟩, [], false⟩ (.slice none 0 0))).cells 1).toList, v.oneCell' = true by rw [HZ0]; simp [sArr, Value.oneCell'])
  have HZ := Lib.hid HZ0
  clear HZ0
  by_cases hcap : c = i + 1
  · obtain rfl : q = i := by omega
    subst hcap
    have HNW := Lib.hid (show ∀ j u, (sCells (LS.drop (q + 1)))[j]? = some u → w.drew.cell? ((⟨gb, 0, none⟩ : Addr).add j) = some u from fun j u hu => by
      rw [List.drop_of_length_le (by have := HN.out; omega)] at hu; simp [sCells] at hu)
    go_enter Try.func60, Try.ntmps60
    go_wp2
    go_region_law (refine step_append_row rfl _ _ 96 rfl 105 inf Try.underlying96 hinf gb q (q + 1) cur hg (by simp [Act.eval, Act.put]) ⟨gb, 0, none⟩ (q + 1 - (q + 1)) (q + 1 - (q + 1)) (sCells (LS.drop (q + 1))) (by simp [Act.eval, Act.put]) HL.out HNW.out HO1.out (by omega) HF.out _ HR.out q (by omega) ?_)
    have hg1 : ((w.drew).setRow gb (delRow cur LS q)).heap[gb]? = some (.cells (delRow cur LS q) 105 (0, 0)) := setRow_heap _ _ _ _ _ _ hg
    have hg1' : ((w.setRow gb (delRow cur LS q)).drew).heap[gb]? = some (.cells (delRow cur LS q) 105 (0, 0)) := setRow_heap w _ _ _ _ _ hg
    clear hg
    go_wp2_with ((with_reducible refine isClear ?_); refine wpList_clear rfl 96 _ rfl gb (q * 20) 1 ((q + 1) - q) (by simp [Act.eval]) (by omega) 105 _ Try.underlying96 (zeroSnap _) 105 (delRow cur LS q) (by first | exact hg1 | exact hg1') HZ1.out HZ2.out _ rfl ?_)
    go_ret
    first
      | exact ⟨rfl, del_fin (W := w.drew.setRow gb (delRow cur LS q)) _ hg1 (grown_row ⟨rfl, rfl, rfl, Nat.le_refl _, fun _ _ _ => rfl⟩ _) hB HN.out hi HDS.out HCS.out hnc (by unfold maxLen; omega) HDT.out (by rw [size_zeroCells]; rfl)⟩
      | exact ⟨rfl, del_fin (W := (w.setRow gb (delRow cur LS q)).drew) _ hg1' ⟨rfl, rfl, rfl, by simp, fun k _ hne => setRow_other _ _ _ _ (fun e => hne (by rw [e]))⟩ hB HN.out hi HDS.out HCS.out hnc (by unfold maxLen; omega) HDT.out (by rw [size_zeroCells]; rfl)⟩
  · have HNW := Lib.hid (show ∀ j u, (sCells (LS.drop (i + 1)))[j]? = some u → w.drew.cell? ((⟨gb, (i + 1) * 20, none⟩ : Addr).add j) = some u from fun j u hu => by
      rw [add_lit]
      have hj : j < (sCells (LS.drop (i + 1))).length := by
        by_cases c : j < (sCells (LS.drop (i + 1))).length
        · exact c
        · rw [List.getElem?_eq_none (by omega)] at hu; cases hu
      rw [sCells_length, List.length_drop, HN.out] at hj
      show w.cell? _ = _
      rw [cell_of_row _ _ _ _ _ _ hg]
      rw [← sCells_drop LS (i + 1) (by have := HN.out; omega), List.getElem?_drop, ← HT.out, List.getElem?_take, if_pos (by omega)] at hu
      simpa using hu)
    go_enter Try.func60, Try.ntmps60
    go_wp2
    go_region_law (refine step_append_row rfl _ _ 96 rfl 105 inf Try.underlying96 hinf gb i c cur hg (by simp [Act.eval, Act.put]) ⟨gb, (i + 1) * 20, none⟩ (q + 1 - (i + 1)) (c - (i + 1)) (sCells (LS.drop (i + 1))) (by simp [Act.eval, Act.put]) HL.out HNW.out HO1.out (by omega) HF.out _ HR.out q (by omega) ?_)
    have hg1 : ((w.drew).setRow gb (delRow cur LS i)).heap[gb]? = some (.cells (delRow cur LS i) 105 (0, 0)) := setRow_heap _ _ _ _ _ _ hg
    have hg1' : ((w.setRow gb (delRow cur LS i)).drew).heap[gb]? = some (.cells (delRow cur LS i) 105 (0, 0)) := setRow_heap w _ _ _ _ _ hg
    clear hg
    go_wp2_with ((with_reducible refine isClear ?_); refine wpList_clear rfl 96 _ rfl gb (q * 20) 1 (c - q) (by simp [Act.eval]) (by omega) 105 _ Try.underlying96 (zeroSnap _) 105 (delRow cur LS i) (by first | exact hg1 | exact hg1') HZ1.out HZ2.out _ rfl ?_)
    go_ret
    first
      | exact ⟨rfl, del_fin (W := w.drew.setRow gb (delRow cur LS i)) _ hg1 (grown_row ⟨rfl, rfl, rfl, Nat.le_refl _, fun _ _ _ => rfl⟩ _) hB HN.out hi HDS.out HCS.out hnc (by unfold maxLen; omega) HDT.out (by rw [size_zeroCells]; rfl)⟩
      | exact ⟨rfl, del_fin (W := (w.setRow gb (delRow cur LS i)).drew) _ hg1' ⟨rfl, rfl, rfl, by simp, fun k _ hne => setRow_other _ _ _ _ (fun e => hne (by rw [e]))⟩ hB HN.out hi HDS.out HCS.out hnc (by unfold maxLen; omega) HDT.out (by rw [size_zeroCells]; rfl)⟩
end Go.Proofs.Ytmcoenndfbgdfaa
