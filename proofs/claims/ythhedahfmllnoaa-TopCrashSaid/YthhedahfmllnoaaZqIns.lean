/- slices.Insert of one change among changes. -/
import Derived.Test.YthhedahfmllnoaaZqChD
import Derived.Lib.AppendZerosOnto
import Derived.Lib.Overlaps
import Derived.Laws.NewBlocks
import Derived.Lib.JoinLaws
import Derived.Laws.Externs
namespace Go.Proofs.Ythhedahfmllnoaa
open Go.RowKit

theorem sizeCh (w : World) : (Go.sizeOf 60).run Try.prog w = .ok 3 w := by kernel_rfl

theorem splice_length {α : Type} (L : List α) (o : Nat) (cs : List α) (h : o + cs.length ≤ L.length) : (Go.splice L o cs).length = L.length := by
  simp [Go.splice]; omega
/-- The later changes moved by one, then the new one: the row's cells. -/
theorem shift_take (cur p q x : List Value) (i n : Nat) (hp : p.length = i * 3) (hq : q.length = (n - i) * 3) (hi : i < n) (hx : x.length = 3) (ht : cur.take (n * 3) = p ++ q) (hl : (n + 1) * 3 ≤ cur.length) :
    (Go.splice (Go.splice cur ((i + 1) * 3) q) (i * 3) x).take ((n + 1) * 3) = p ++ x ++ q := by
  have e1 : cur.take (i * 3) = p := by
    have : (cur.take (n * 3)).take (i * 3) = p := by rw [ht, List.take_append_of_le_length (by omega), List.take_of_length_le (by omega)]
    rw [List.take_take, Nat.min_eq_left (by omega)] at this
    exact this
  have e2 : (Go.splice cur ((i + 1) * 3) q).take (i * 3) = p := by
    unfold Go.splice
    rw [List.take_append_of_le_length (by simp; omega), List.take_take, Nat.min_eq_left (by omega), e1]
  have e3 : (Go.splice cur ((i + 1) * 3) q).drop (i * 3 + x.length) = q ++ cur.drop ((i + 1) * 3 + q.length) := by
    unfold Go.splice
    rw [hx, show i * 3 + 3 = (i + 1) * 3 by omega, List.drop_append_of_le_length (by simp; omega), List.drop_of_length_le (by simp; omega), List.nil_append]
  rw [Go.splice, e2, e3, ← List.append_assoc, ← List.append_assoc, List.take_append_of_le_length (by simp; omega), List.take_of_length_le (by simp; omega)]

def InsRet (B : Nat) (w : World) (n : Nat) (l : List Ch) (e : Ending) (w' : World) : Prop :=
  ∃ A c, e = .returned (.slice A (n + 1) c) ∧ w'.ownsRow B 60 3 (.slice A (n + 1) c) (n + 1) (chCells l) ∧ Below B w w'

set_option maxHeartbeats 4000000 in
set_option maxRecDepth 100000 in
theorem insert_shift (B : Nat) (w : World) (b i n c vb : Nat) (cur : Array Value) (p q : List Ch) (x : Ch) (hi : i < n) (hn : n ≤ 2000) (hp : p.length = i) (hq : q.length = n - i) (hroom : n + 1 ≤ c) (hcm : c ≤ maxLen) (hB : B ≤ b)
    (hg : w.heap[b]? = some (.cells cur 60 (0, 0))) (hcs : cur.size = c * 3) (htake : cur.toList.take (n * 3) = chCells (p ++ q)) (hv : w.heap[vb]? = some (.cells (chArr x) 60 (0, 0))) (hvb : vb ≠ b) :
    Calls Try.prog 49 #[.slice (some ⟨b, 0, none⟩) n c, .int .i64 i, .slice (some ⟨vb, 0, none⟩) 1 1] w (InsRet B w n (p ++ x :: q)) := by
  unfold maxLen at hcm
  have hpl := chCells_length p
  have hql := chCells_length q
  rw [hp] at hpl
  rw [hq] at hql
  rw [chCells_append] at htake
  have hcl : (n + 1) * 3 ≤ cur.toList.length := by simp [hcs]; omega
  have HT := Lib.hid (shift_take cur.toList (chCells p) (chCells q) (chArr x).toList i n hpl hql hi rfl htake hcl)
  have i1 : (i : Int) < (n : Int) := by omega
  have i2 : ¬ (i : Int) = (n : Int) := by omega
  have i3 : ¬ (c : Int) < (n : Int) + 1 := by omega
  have i4 : (i : Int) ≤ (n : Int) + 1 := by omega
  have i5 : (i : Int) + 1 ≤ (n : Int) + 1 := by omega
  have i6 : (0 : Int) ≤ (i : Int) + 1 := by omega
  have iw : IntKind.i64.wrap ((i : Int) + 1) = (i : Int) + 1 := IntWalk.i64_in _ (by omega)
  have i7 : i ≤ n := by omega
  have i8 : (i : Int) ≤ (n : Int) := by omega
  have i9 : ((i : Int) + 1).toNat = i + 1 := by omega
  have hci : ¬ (c = i) := by omega
  have hci1 : ¬ (c = i + 1) := by omega
  have hov : ∀ lb cb, (callFunc 63 #[.slice (some ⟨vb, 0, none⟩) 1 1, .slice (some ⟨b, (i + 1) * 3, none⟩) lb cb]).run Try.prog w = .ok (.value (.bool false)) w := fun lb cb => by
    rw [run_callFunc_extern Try.func63 (by kernel_rfl) (by kernel_rfl) (by kernel_rfl) (e := Extern.SlicesOverlaps.overlaps #[36, 36] #[4]) (by kernel_rfl),
      Lib.run_overlaps_apart w 36 4 60 Try.underlying36 3 sizeCh ⟨vb, 0, none⟩ ⟨b, (i + 1) * 3, none⟩ 1 1 lb cb hvb 60 60 3 cur.size (by simp [World.shape?, hv, chArr]) (by simp [World.shape?, hg]) (by omega) (frozen_of_row w vb _ _ _ hv) (frozen_of_row w vb _ _ _ hv)]
    rfl
  have SRC1 := Lib.hid (fun (W : World) (hW : W.heap[b]? = some (.cells cur 60 (0, 0))) => show ∀ j v, (chCells q)[j]? = some v → W.cell? ((⟨b, i * 3, none⟩ : Addr).add j) = some v from fun j v hj => by
    have hjl := (List.getElem?_eq_some_iff.1 hj).1
    rw [add_lit, cell_of_row _ _ _ _ _ _ hW]
    have : (chCells p ++ chCells q)[i * 3 + j]? = some v := by rw [List.getElem?_append_right (by omega), hpl, show i * 3 + j - i * 3 = j by omega]; exact hj
    rw [← htake, List.getElem?_take, if_pos (by omega)] at this
    simpa using this)
  have SRC2 := Lib.hid (fun (W : World) (hW : W.heap[vb]? = some (.cells (chArr x) 60 (0, 0))) => show ∀ j v, (chArr x).toList[j]? = some v → W.cell? ((⟨vb, 0, none⟩ : Addr).add j) = some v from fun j v hj => by
    rw [add_lit, cell_of_row _ _ _ _ _ _ hW]; simpa using hj)
  have HQL := Lib.hid hql
  have HPL := Lib.hid hpl
  have H1Q := Lib.hid (chCells_one q)
  have H1X := Lib.hid (show ∀ v ∈ (chArr x).toList, v.oneCell' = true by simp [chArr, Value.oneCell'])
  have HXL := Lib.hid (show (chArr x).toList.length = 3 from rfl)
  have HF1 := Lib.hid (show (i + 1) * 3 + (chCells q).length ≤ cur.size by omega)
  obtain ⟨r1, hr1⟩ : ∃ r1, (Go.splice cur.toList ((i + 1) * 3) (chCells q)).toArray = r1 := ⟨_, rfl⟩
  have hr1s : r1.size = c * 3 := by rw [← hr1]; simp only [List.size_toArray]; rw [splice_length _ _ _ (by simp; omega)]; simpa using hcs
  have HR1S := Lib.hid hr1s
  have HR1 := Lib.hid hr1
  have HCS := Lib.hid hcs
  have HX9 := Lib.hid (show chCells (p ++ x :: q) = chCells p ++ (chArr x).toList ++ chCells q by rw [chCells_append, chCells_cons, List.append_assoc]; rfl)
  have HG := Lib.hid hg
  have HV := Lib.hid hv
  clear hcs htake hg hv hp hq hpl hql hr1 hr1s hcl
  have hg1 : (w.drew.setRow b r1).heap[b]? = some (.cells r1 60 (0, 0)) := setRow_heap _ _ _ _ _ _ HG.out
  have hv1 : (w.drew.setRow b r1).heap[vb]? = some (.cells (chArr x) 60 (0, 0)) := (setRow_other _ _ _ _ hvb).trans HV.out
  have FIN := Lib.hid (show InsRet B w n (p ++ x :: q) (.returned (.slice (some ⟨b, 0, none⟩) (n + 1) c)) ((w.drew.setRow b r1).setRow b (Go.splice r1.toList (i * 3) (chArr x).toList).toArray) from by
    refine ⟨_, c, rfl, ⟨?_, .inr ⟨b, c, _, rfl, hB, setRow_heap _ _ _ _ _ _ hg1, hroom, by unfold maxLen; omega, ?_, ?_⟩⟩, below_setRow (below_setRow (Below.refl _ _).drew hB _) hB _⟩
    · rw [HX9.out, List.length_append, List.length_append, HXL.out, HQL.out, HPL.out]; omega
    · simp only [List.size_toArray]
      rw [splice_length _ _ _ (by rw [HXL.out]; simp [HR1S.out]; omega)]
      simpa using HR1S.out
    · rw [HX9.out, ← HT.out, ← HR1.out])
  have hcp2 : (Builtin.copy_ #[36, 36] 3 #[.slice (some ⟨b, i * 3, none⟩) (n + 1 - i) (c - i), .slice (some ⟨vb, 0, none⟩) 1 1]).run Try.prog (w.drew.setRow b r1) = .ok (goInt (Nat.min 1 (n + 1 - i))) ((w.drew.setRow b r1).setRow b (Go.splice r1.toList (i * 3) (chArr x).toList).toArray) :=
    run_copy_rows (P := Try.prog) (w.drew.setRow b r1) 36 36 3 60 3 b (i * 3) (n + 1 - i) (c - i) ⟨vb, 0, none⟩ 1 1 r1 60 (chArr x).toList Try.underlying36 Try.infoChS hg1 (by rw [HXL.out]; simp only [Nat.min_def]; split <;> omega) (SRC2.out _ hv1) (by rw [HXL.out, HR1S.out]; omega) H1X.out
  obtain ⟨w9, hw9⟩ : ∃ w9, (w.drew.setRow b r1).setRow b (Go.splice r1.toList (i * 3) (chArr x).toList).toArray = w9 := ⟨_, rfl⟩
  rw [hw9] at hcp2 FIN
  generalize Nat.min 1 (n + 1 - i) = mn at hcp2
  clear hw9 hg1 hv1
  go_enter Try.func49, Try.ntmps49
  go_wp2_with (simp only [hov])
  go_region_law (refine step_copy_rows rfl _ _ 36 36 rfl 60 3 Try.underlying36 Try.infoChS b ((i + 1) * 3) (n + 1 - (i + 1)) (c - (i + 1)) ⟨b, i * 3, none⟩ (n + 1 - i) (c - i) (by simp [Act.eval, Act.put]) (by simp [Act.eval, Act.put]) cur 60 HG.out (chCells q) (by rw [HQL.out]; simp only [Nat.min_def]; split <;> omega) (SRC1.out _ HG.out) HF1.out H1Q.out r1 HR1.out ?_)
  go_wp2
  go_ret
  exact FIN.out

theorem ins_take (z p q x : List Value) (i n : Nat) (hp : p.length = i * 3) (hq : q.length = (n - i) * 3) (hi : i < n) (hx : x.length = 3) (ht : z.take (i * 3) = p) (hl : (n + 1) * 3 ≤ z.length) :
    (Go.splice (Go.splice z (i * 3) x) ((i + 1) * 3) q).take ((n + 1) * 3) = p ++ x ++ q := by
  have e2 : (Go.splice z (i * 3) x).take ((i + 1) * 3) = p ++ x := by
    unfold Go.splice
    rw [← List.append_assoc, List.take_append_of_le_length (by simp; omega), List.take_of_length_le (by simp; omega), ht]
  rw [Go.splice, e2, ← List.append_assoc, List.take_append_of_le_length (by simp; omega), List.take_of_length_le (by simp; omega)]

set_option maxHeartbeats 4000000 in
set_option maxRecDepth 100000 in
theorem insert_grow (B : Nat) (w : World) (b i n c vb : Nat) (cur : Array Value) (p q : List Ch) (x : Ch) (hi : i < n) (hn : n ≤ 2000) (hp : p.length = i) (hq : q.length = n - i) (hnc : n ≤ c) (hroom : c < n + 1) (hB : B ≤ w.heap.size)
    (hg : w.heap[b]? = some (.cells cur 60 (0, 0))) (hcs : cur.size = c * 3) (htake : cur.toList.take (n * 3) = chCells (p ++ q)) (hv : w.heap[vb]? = some (.cells (chArr x) 60 (0, 0))) :
    Calls Try.prog 49 #[.slice (some ⟨b, 0, none⟩) n c, .int .i64 i, .slice (some ⟨vb, 0, none⟩) 1 1] w (InsRet B w n (p ++ x :: q)) := by
  obtain rfl : c = n := by omega
  have hblt := (Array.getElem?_eq_some_iff.1 hg).1
  have hvlt := (Array.getElem?_eq_some_iff.1 hv).1
  have hpl := chCells_length p
  have hql := chCells_length q
  rw [hp] at hpl
  rw [hq] at hql
  rw [chCells_append] at htake
  obtain ⟨inf, hinf, hz0, hz1, hz2⟩ := info_parts Try.infoChZ
  have hkk : (c : Int) + 1 - (i : Int) = ((c + 1 - i : Nat) : Int) := by omega
  have hik : i + (c + 1 - i) = c + 1 := by omega
  have hold : (Builtin.firstCells inf.size i (.slice (some ⟨b, 0, none⟩) i c)).run Try.prog w.drew = .ok (chCells p).toArray w.drew := by
    rw [hz1]
    refine run_firstCells_some w.drew 3 i ⟨b, 0, none⟩ i c (chCells p) hpl (fun j v hj => ?_)
    have hjl := (List.getElem?_eq_some_iff.1 hj).1
    have hc' : w.drew.cell? ((⟨b, 0, none⟩ : Addr).add j) = cur[0 + j]? := by rw [add_lit]; exact cell_of_row w _ _ _ _ _ hg
    rw [hc']
    have : (chCells p ++ chCells q)[j]? = some v := by rw [List.getElem?_append_left hjl]; exact hj
    rw [← htake, List.getElem?_take, if_pos (by omega)] at this
    simpa using this
  obtain ⟨G, hG⟩ : ∃ G, grownCap w (c + 1) c 60 = G := ⟨_, rfl⟩
  have hGn : c + 1 ≤ G := by rw [← hG]; exact grownCap_ge w _ _ _
  have hGm : G ≤ maxLen := by rw [← hG]; exact grownCap_le_maxLen w (c + 1) c 60 (by unfold maxLen; omega)
  obtain ⟨z, hz⟩ : ∃ z : Array Value, (chCells p).toArray ++ Builtin.zeroCells (Value.agg #[.string ByteArray.empty, .string ByteArray.empty, .bool false]).cells (c + 1 - i) ++ Builtin.zeroCells (Value.agg #[.string ByteArray.empty, .string ByteArray.empty, .bool false]).cells (G - (c + 1)) = z := ⟨_, rfl⟩
  obtain ⟨W1, hW1⟩ : ∃ W1, w.drew.alloc (.cells z 60) = W1 := ⟨_, rfl⟩
  have hrz : ∀ ty, (Builtin.append_ #[36, 3] ty #[.slice (some ⟨b, 0, none⟩) i c, .int .i64 ((c : Int) + 1 - (i : Int))]).run Try.prog w = .ok (.slice (some ⟨w.heap.size, 0, none⟩) (c + 1) G) W1 := fun ty => by
    have h := Lib.run_append_grow_zeros w 36 3 ty 60 inf _ .i64 .i64 Try.underlying36 Try.underlying3 hinf hz0 (some ⟨b, 0, none⟩) i c (chCells p) hold (c + 1 - i) (by omega) (by omega) (by omega) (by omega) (by rw [hz2]; omega) (by rw [hz2, hik]; exact growslice_fits hroom (by omega))
    rw [hik, hG, hz, hW1] at h
    rw [hkk]
    exact h
  have hzs : z.size = G * 3 := by
    rw [← hz, Array.size_append, Array.size_append, size_zeroCells, size_zeroCells]
    simp only [List.size_toArray, hpl]
    rw [show (Value.agg #[.string ByteArray.empty, .string ByteArray.empty, .bool false]).cells.size = 3 from rfl]
    omega
  have hzt : z.toList.take (i * 3) = chCells p := by
    rw [← hz]
    simp only [Array.toList_append, List.append_assoc]
    rw [List.take_append_of_le_length (by omega), List.take_of_length_le (by omega)]
  have HT := Lib.hid (ins_take z.toList (chCells p) (chCells q) (chArr x).toList i c hpl hql hi rfl hzt (by simp [hzs]; omega))
  have hg1 : W1.heap[w.heap.size]? = some (.cells z 60 (0, 0)) := by rw [← hW1]; exact heap_alloc_new w.drew _
  have hb1 : W1.heap[b]? = some (.cells cur 60 (0, 0)) := by rw [← hW1, heap_alloc_old w.drew _ hblt]; exact hg
  have hv1 : W1.heap[vb]? = some (.cells (chArr x) 60 (0, 0)) := by rw [← hW1, heap_alloc_old w.drew _ hvlt]; exact hv
  have hbel1 : Below B w W1 := by rw [← hW1]; exact (Below.refl _ _).drew.alloc hB _
  have HXL := Lib.hid (show (chArr x).toList.length = 3 from rfl)
  have hxs : ∀ v ∈ (chArr x).toList, v.oneCell' = true := by simp [chArr, Value.oneCell']
  have hcpA : (Builtin.copy_ #[36, 36] 3 #[.slice (some ⟨w.heap.size, i * 3, none⟩) (c + 1 - i) (G - i), .slice (some ⟨vb, 0, none⟩) 1 1]).run Try.prog W1 = .ok (goInt (Nat.min 1 (c + 1 - i))) (W1.setRow w.heap.size (Go.splice z.toList (i * 3) (chArr x).toList).toArray) :=
    run_copy_rows (P := Try.prog) W1 36 36 3 60 3 w.heap.size (i * 3) (c + 1 - i) (G - i) ⟨vb, 0, none⟩ 1 1 z 60 (chArr x).toList Try.underlying36 Try.infoChS hg1 (by rw [HXL.out]; simp only [Nat.min_def]; split <;> omega) (fun j v hj => by rw [add_lit, cell_of_row _ _ _ _ _ _ hv1]; simpa using hj) (by rw [HXL.out, hzs]; omega) hxs
  obtain ⟨r1, hr1⟩ : ∃ r1, (Go.splice z.toList (i * 3) (chArr x).toList).toArray = r1 := ⟨_, rfl⟩
  rw [hr1] at hcpA
  have hr1s : r1.size = G * 3 := by rw [← hr1]; simp only [List.size_toArray]; rw [splice_length _ _ _ (by rw [HXL.out]; simp [hzs]; omega)]; simpa using hzs
  obtain ⟨W2, hW2⟩ : ∃ W2, W1.setRow w.heap.size r1 = W2 := ⟨_, rfl⟩
  rw [hW2] at hcpA
  have hg2 : W2.heap[w.heap.size]? = some (.cells r1 60 (0, 0)) := by rw [← hW2]; exact setRow_heap _ _ _ _ _ _ hg1
  have hb2 : W2.heap[b]? = some (.cells cur 60 (0, 0)) := by rw [← hW2, setRow_other _ _ _ _ (by omega)]; exact hb1
  have hbel2 : Below B w W2 := by rw [← hW2]; exact below_setRow hbel1 hB _
  have FIN := Lib.hid (show InsRet B w c (p ++ x :: q) (.returned (.slice (some ⟨w.heap.size, 0, none⟩) (c + 1) G)) (W2.drew.setRow w.heap.size (Go.splice r1.toList ((i + 1) * 3) (chCells q)).toArray) from by
    have HX9 : chCells (p ++ x :: q) = chCells p ++ (chArr x).toList ++ chCells q := by rw [chCells_append, chCells_cons, List.append_assoc]; rfl
    refine ⟨_, G, rfl, ⟨?_, .inr ⟨w.heap.size, G, _, rfl, hB, setRow_heap _ _ _ _ _ _ (show W2.drew.heap[w.heap.size]? = _ from hg2), hGn, hGm, ?_, ?_⟩⟩, below_setRow hbel2.drew hB _⟩
    · rw [HX9, List.length_append, List.length_append, HXL.out, hql, hpl]; omega
    · simp only [List.size_toArray]
      rw [splice_length _ _ _ (by simp [hr1s]; omega)]
      simpa using hr1s
    · rw [HX9, ← HT.out, ← hr1])
  have SRC := Lib.hid (show ∀ j v, (chCells q)[j]? = some v → W2.drew.cell? ((⟨b, i * 3, none⟩ : Addr).add j) = some v from fun j v hj => by
    have hjl := (List.getElem?_eq_some_iff.1 hj).1
    rw [add_lit]
    show W2.cell? _ = _
    rw [cell_of_row _ _ _ _ _ _ hb2]
    have : (chCells p ++ chCells q)[i * 3 + j]? = some v := by rw [List.getElem?_append_right (by omega), hpl, show i * 3 + j - i * 3 = j by omega]; exact hj
    rw [← htake, List.getElem?_take, if_pos (by omega)] at this
    simpa using this)
  have HG2 := Lib.hid (show W2.drew.heap[w.heap.size]? = some (.cells r1 60 (0, 0)) from hg2)
  have HQL := Lib.hid hql
  have H1Q := Lib.hid (chCells_one q)
  have HFIT := Lib.hid (show (i + 1) * 3 + (chCells q).length ≤ r1.size by omega)
  obtain ⟨w9, hw9⟩ : ∃ w9, W2.drew.setRow w.heap.size (Go.splice r1.toList ((i + 1) * 3) (chCells q)).toArray = w9 := ⟨_, rfl⟩
  rw [hw9] at FIN
  have HW9 := Lib.hid hw9
  generalize Nat.min 1 (c + 1 - i) = mn at hcpA
  unfold maxLen at hGm
  have i1 : (i : Int) < (c : Int) := by omega
  have i2 : ¬ (i : Int) = (c : Int) := by omega
  have i3 : (c : Int) < (c : Int) + 1 := by omega
  have i4 : (i : Int) ≤ (c : Int) + 1 := by omega
  have i5 : (i : Int) + 1 ≤ (c : Int) + 1 := by omega
  have i6 : (0 : Int) ≤ (i : Int) + 1 := by omega
  have iw : IntKind.i64.wrap ((i : Int) + 1) = (i : Int) + 1 := IntWalk.i64_in _ (by omega)
  have i7 : i ≤ c := by omega
  have i8 : (i : Int) ≤ (c : Int) := by omega
  have i9 : ((i : Int) + 1).toNat = i + 1 := by omega
  have hci : ¬ (c = i) := by omega
  have hGi : ¬ (G = i) := by omega
  have hGi1 : ¬ (G = i + 1) := by omega
  clear hold hkk hik hG hz hW1 hW2 hr1 hr1s hzs hzt hg1 hb1 hv1 hg2 hb2 hg hv hbel1 hbel2 hcs htake hpl hql hw9 hz0 hz1 hz2 hinf hp hq hxs HT
  go_enter Try.func49, Try.ntmps49
  go_wp2_with (at_builtin; refine Lib.wpList_append_run _ rfl _ _ _ _ rfl _ _ rfl rfl _ _ (hrz _) ?_)
  go_region_law (refine step_copy_rows rfl _ _ 36 36 rfl 60 3 Try.underlying36 Try.infoChS w.heap.size ((i + 1) * 3) (c + 1 - (i + 1)) (G - (i + 1)) ⟨b, i * 3, none⟩ (c - i) (c - i) (by simp [Act.eval, Act.put]) (by simp [Act.eval, Act.put]) r1 60 HG2.out (chCells q) (by rw [HQL.out]; simp only [Nat.min_def]; split <;> omega) SRC.out HFIT.out H1Q.out _ rfl ?_)
  rw [HW9.out]
  go_wp2
  go_ret
  exact FIN.out

set_option maxHeartbeats 4000000 in
set_option maxRecDepth 100000 in
theorem insert_end (B : Nat) (w : World) (A : Option Addr) (n c vb : Nat) (p : List Ch) (x : Ch) (hn : n ≤ 2000) (hp : p.length = n) (hB : B ≤ w.heap.size)
    (hO : w.ownsRow B 60 3 (.slice A n c) n (chCells p)) (hv : w.heap[vb]? = some (.cells (chArr x) 60 (0, 0))) :
    Calls Try.prog 49 #[.slice A n c, .int .i64 n, .slice (some ⟨vb, 0, none⟩) 1 1] w (InsRet B w n (p ++ [x])) := by
  obtain ⟨inf, hinf, hz0, hz1, hz2⟩ := info_parts Try.infoChZ
  have HO := Lib.hid hO
  have HNEW := Lib.hid (show ∀ j v, (chArr x).toList[j]? = some v → w.cell? ((⟨vb, 0, none⟩ : Addr).add j) = some v from fun j v hj => by rw [add_lit, cell_of_row _ _ _ _ _ _ hv]; simpa using hj)
  have HXS := Lib.hid (show ∀ v ∈ (chArr x).toList, v.oneCell' = true by simp [chArr, Value.oneCell'])
  have FIN := Lib.hid (fun g cap w' (h1 : w'.ownsRow B 60 3 (.slice (some ⟨g, 0, none⟩) (n + 1) cap) (n + 1) (chCells p ++ (chArr x).toList)) (h2 : w.grownBy w' (Value.slice A n c).ownBlock) => show InsRet B w n (p ++ [x]) (.returned (.slice (some ⟨g, 0, none⟩) (n + 1) cap)) w' from
    ⟨_, cap, rfl, by rw [chCells_snoc]; exact h1, (Below.refl _ _).grown h2 hB (fun k hk => (hO.lt k hk).1)⟩)
  have hxl : (chArr x).toList.length = 1 * 3 := rfl
  have HXL := Lib.hid hxl
  have hcase := hO.2
  clear hO hv hxl
  generalize hxx : (chArr x).toList = xs at *
  have HXX := Lib.hid hxx
  clear hxx
  rcases hcase with ⟨h1, h2⟩ | ⟨b, cap, cur, h1, hb, hg, hnc, hcm, hcs, htake⟩
  · simp only [Value.slice.injEq] at h1
    obtain ⟨rfl, rfl, rfl⟩ := h1
    go_enter Try.func49, Try.ntmps49
    go_wp2_with (at_builtin; (refine wpList_append_lies _ rfl _ _ 36 rfl B 60 inf (.agg #[.string ByteArray.empty, .string ByteArray.empty, .bool false]) 3 40 Try.underlying36 hinf hz0 hz1 hz2 rfl (by decide) _ 0 (chCells p) rfl HO.out ⟨vb, 0, none⟩ 1 1 xs rfl HXL.out HNEW.out HXS.out (by omega) (by unfold maxLen; omega) (by omega) hB w.heap.size rfl ?_); intro gg cap w4 hO4 hg4 hat4 hlt4; have HF4 := Lib.hid (FIN.out gg cap w4 hO4 hg4); clear hO4 hg4 hat4)
    go_wp2
    go_ret
    exact HF4.out
  · simp only [Value.slice.injEq, true_and] at h1
    obtain ⟨rfl, rfl⟩ := h1
    unfold maxLen at hcm
    clear hg hcs htake
    by_cases hc : c = n
    · subst hc
      go_enter Try.func49, Try.ntmps49
      go_wp2_with (at_builtin; (refine wpList_append_lies _ rfl _ _ 36 rfl B 60 inf (.agg #[.string ByteArray.empty, .string ByteArray.empty, .bool false]) 3 40 Try.underlying36 hinf hz0 hz1 hz2 rfl (by decide) _ c (chCells p) rfl HO.out ⟨vb, 0, none⟩ 1 1 xs rfl HXL.out HNEW.out HXS.out (by omega) (by unfold maxLen; omega) (by omega) hB w.heap.size rfl ?_); intro gg cap w4 hO4 hg4 hat4 hlt4; have HF4 := Lib.hid (FIN.out gg cap w4 hO4 hg4); clear hO4 hg4 hat4)
      go_wp2
      go_ret
      exact HF4.out
    · go_enter Try.func49, Try.ntmps49
      go_wp2_with (at_builtin; (refine wpList_append_lies _ rfl _ _ 36 rfl B 60 inf (.agg #[.string ByteArray.empty, .string ByteArray.empty, .bool false]) 3 40 Try.underlying36 hinf hz0 hz1 hz2 rfl (by decide) _ n (chCells p) rfl HO.out ⟨vb, 0, none⟩ 1 1 xs rfl HXL.out HNEW.out HXS.out (by omega) (by unfold maxLen; omega) (by omega) hB w.heap.size rfl ?_); intro gg cap w4 hO4 hg4 hat4 hlt4; have HF4 := Lib.hid (FIN.out gg cap w4 hO4 hg4); clear hO4 hg4 hat4)
      go_wp2
      go_ret
      exact HF4.out

/-- slices.Insert of one change among changes of an own row. -/
theorem insert_any (B : Nat) (w : World) (A : Option Addr) (n c vb : Nat) (p q : List Ch) (x : Ch) (hn : n ≤ 2000) (hpq : p.length + q.length = n) (hB : B ≤ w.heap.size)
    (hO : w.ownsRow B 60 3 (.slice A n c) n (chCells (p ++ q))) (hv : w.heap[vb]? = some (.cells (chArr x) 60 (0, 0))) (hvb : ∀ b, (Value.slice A n c).ownBlock = some b → vb ≠ b) :
    Calls Try.prog 49 #[.slice A n c, .int .i64 (p.length : Nat), .slice (some ⟨vb, 0, none⟩) 1 1] w (InsRet B w n (p ++ x :: q)) := by
  cases hq : q with
  | nil =>
    subst hq
    simp only [List.length_nil, Nat.add_zero, List.append_nil] at *
    subst hpq
    exact insert_end B w A _ c vb p x hn rfl hB hO hv
  | cons y r =>
    have hql : q.length = r.length + 1 := by rw [hq]; rfl
    rw [← hq]
    clear hq
    rcases hO.2 with ⟨h1, h2⟩ | ⟨b, cap, cur, h1, hb, hg, hnc, hcm, hcs, htake⟩
    · omega
    · simp only [Value.slice.injEq, true_and] at h1
      obtain ⟨rfl, rfl⟩ := h1
      by_cases hroom : n + 1 ≤ c
      · exact insert_shift B w b p.length n c vb cur p q x (by omega) hn rfl (by omega) hroom hcm hb hg hcs htake hv (hvb b rfl)
      · exact insert_grow B w b p.length n c vb cur p q x (by omega) hn rfl (by omega) hnc (by omega) hB hg hcs htake hv
end Go.Proofs.Ythhedahfmllnoaa
