/- Laws of memory alone: one aggregate laid into a row of its own (the first step of an append of a struct). -/
import Derived.Test.YthhedahfmllnoaaZqCh0
import Derived.Deep.AppendLies
namespace Go.Proofs.Ythhedahfmllnoaa
open Go.RowKit

theorem foldl_set (off : Nat) : ∀ (l : List Value) (k : Nat) (a : Array Value), off + k + l.length ≤ a.size →
    (l.zipIdx k).foldl (fun cs (x : Value × Nat) => cs.setIfInBounds (off + x.2) x.1) a = (a.toList.take (off + k) ++ l ++ a.toList.drop (off + k + l.length)).toArray
  | [], k, a, _ => by simp
  | v :: rest, k, a, h => by
    have h' : off + k + (rest.length + 1) ≤ a.size := by simpa [Nat.add_assoc] using h
    rw [List.zipIdx_cons, List.foldl_cons, foldl_set off rest (k + 1) _ (by simp; omega)]
    have e := list_seg_step a.toList (off + k) v rest (by simpa using h')
    simp only [Array.toList_setIfInBounds, List.length_cons]
    rw [show off + (k + 1) = off + k + 1 from rfl, e]

theorem fill_one (m : Nat) (zs cs : Array Value) (hz : zs.size = m) (hc : cs.size = m) : Instr.fill (fun i => some (i * m, m)) zs [(0, .agg cs)] = some cs := by
  have h := foldl_set 0 cs.toList 0 zs (by simp; omega)
  simp only [Instr.fill, Value.cells, hc, Nat.zero_mul, Nat.zero_add, hz]
  rw [if_neg (by simp)]
  simp only [Nat.zero_add, List.take_zero, List.nil_append] at h
  rw [List.drop_eq_nil_of_le (by simp; omega)] at h
  have e : cs.zipIdx.foldl (fun cs (x : Value × Nat) => cs.setIfInBounds x.2 x.1) zs = cs := by
    rw [← Array.foldl_toList, Array.toList_zipIdx]
    simpa using h
  rw [e]

section
variable {P : Program}
theorem run_buildOne (w : World) (t e : TypeId) (i : TypeInfo) (z : Value) (m : Nat) (ht : P.underlying t = some (.slice e)) (hi : P.info? e = some i) (hz : i.zero = some z) (hs : i.size = m) (hm : 0 < m) (hm2 : m ≤ 16777216)
    (cs : Array Value) (hc : cs.size = m) : (Instr.buildSlice t 1 #[(0, .agg cs)]).run P w = .ok (.slice (some ⟨w.heap.size, 0, none⟩) 1 1) (w.alloc (.cells cs e)) := by
  have n1 : ¬ (2 ^ 24 < m) := by simp; omega
  have n2 : ¬ m = 0 := by omega
  have hf := fill_one m ((Array.range m).map (z.cells[· % z.cells.size]!)) cs (by simp) hc
  simp [Instr.buildSlice, run_underlying ht, sizeOf, typeInfo, hi, hs, n2, zeroValue, hz, newRow]
  rw [if_neg (by simpa using n1)]
  simp [hf]
theorem step_buildOne {ops : Array Oper} {o : Oper} {a : Act} {w : World} {K : Act → World → Prop} {Q : Exit → Act → World → Prop} {E : Prop} (hgd : o.guard = none) (t : TypeId) (x : Operand) (ho : o.op = .buildSlice t 1 #[(0, x)])
    (cs : Array Value) (hx : a.eval x = .agg cs) (e : TypeId) (hrun : (Instr.buildSlice t 1 #[(0, .agg cs)]).run P w = .ok (.slice (some ⟨w.heap.size, 0, none⟩) 1 1) (w.alloc (.cells cs e)))
    (hK : K (a.put o.dst (.slice (some ⟨w.heap.size, 0, none⟩) 1 1)) (w.alloc (.cells cs e))) :
    if Region.wanted o (yielded ops a.tmps) = true then Oper.wp P o a w K Q else E := by
  have hw : Region.wanted o (yielded ops a.tmps) = true := by simp [Region.wanted, hgd]
  rw [if_pos hw]
  unfold Oper.wp execOp
  simp only [ho, List.map_toArray, List.map_cons, List.map_nil, hx, Sem.run_bind, hrun, Result.andThen_ok, Sem.run_pure]
  exact hK

/-- One cell laid into a row of its own, as a step of a region that draws its order; the world behind it is a letter. -/
theorem step_build1 {ops : Array Oper} {o : Oper} {a : Act} {w : World} {K : Act → World → Prop} {Q : Exit → Act → World → Prop} {E : Prop} (hgd : o.guard = none) (t : TypeId) (x : Operand) (ho : o.op = .buildSlice t 1 #[(0, x)])
    (v : Value) (hx : a.eval x = v) (e : TypeId) (i : TypeInfo) (z : Value) (ht : P.underlying t = some (.slice e)) (hi : P.info? e = some i) (hz : i.zero = some z) (hs : i.size = 1) (hv : v.cells = #[v])
    (hK : ∀ N w', N = w.heap.size → w'.heap[N]? = some (.cells #[v] e (0, 0)) → Go.RowKit.Below w.heap.size w w' → N < w'.heap.size → K (a.put o.dst (.slice (some ⟨N, 0, none⟩) 1 1)) w') :
    if Region.wanted o (yielded ops a.tmps) = true then Oper.wp P o a w K Q else E := by
  have hw : Region.wanted o (yielded ops a.tmps) = true := by simp [Region.wanted, hgd]
  rw [if_pos hw]
  have hrun : (Instr.buildSlice t 1 #[(0, v)]).run P w = .ok (.slice (some ⟨w.heap.size, 0, none⟩) 1 1) (w.alloc (.cells #[v] e)) := by
    have hf : Instr.fill (fun i => some (i * 1, 1)) ((Array.range 1).map (z.cells[· % z.cells.size]!)) [(0, v)] = some #[v] := by
      simp only [Instr.fill, hv]
      rw [if_neg (by simp)]
      simp
      rw [show Array.range 1 = #[0] from rfl]
      simp
    simp only [Nat.mul_one] at hf
    simp [Instr.buildSlice, run_underlying ht, sizeOf, typeInfo, hi, hs, zeroValue, hz, newRow]
    simp [hf]
  unfold Oper.wp execOp
  simp only [ho, List.map_toArray, List.map_cons, List.map_nil, hx, Sem.run_bind, hrun, Result.andThen_ok, Sem.run_pure]
  exact hK _ _ rfl (heap_alloc_new _ _) ((Go.RowKit.Below.refl _ _).alloc (Nat.le_refl _) _) (by simp)

/-- A text out of bytes that lie in a row, as a step of a region that draws its order. -/
theorem step_text {ops : Array Oper} {o : Oper} {a : Act} {w : World} {K : Act → World → Prop} {Q : Exit → Act → World → Prop} {E : Prop} (hgd : o.guard = none) (src dst : TypeId) (x : Operand) (ho : o.op = .convert src dst x)
    (g n cap : Nat) (l : List UInt8) (hx : a.eval x = .slice (some ⟨g, 0, none⟩) n cap) (hn : l.length = n) (e : TypeId) (hs : P.underlying src = some (.slice e)) (he : P.underlying e = some (.int .u8)) (hd : P.underlying dst = some .string)
    (t : TypeId) (fr : Nat × Nat) (cs : Array Value) (hcs : (bv l).toArray = cs) (hrow : w.heap[g]? = some (.cells cs t fr)) (T : ByteArray) (hT : (⟨l.toArray⟩ : ByteArray) = T) (hK : K (a.put o.dst (.string T)) w) :
    if Region.wanted o (yielded ops a.tmps) = true then Oper.wp P o a w K Q else E := by
  have hw : Region.wanted o (yielded ops a.tmps) = true := by simp [Region.wanted, hgd]
  rw [if_pos hw]
  subst hn hcs hT
  have hrun := run_text_at (P := P) w src dst e g 0 cap l hs he hd (range_of_row hrow (fun j v hj => by simpa using hj))
  unfold Oper.wp execOp
  simp only [ho, hx, Sem.run_bind, hrun, Result.andThen_ok, Sem.run_pure]
  exact hK

theorem cut_all (cs : Array Value) (n : Nat) (h : cs.size = n) : cut cs 0 n = cs := by
  unfold cut
  rw [List.drop_zero, List.take_of_length_le (by simp; omega), Array.toArray_toList]
end
end Go.Proofs.Ythhedahfmllnoaa
