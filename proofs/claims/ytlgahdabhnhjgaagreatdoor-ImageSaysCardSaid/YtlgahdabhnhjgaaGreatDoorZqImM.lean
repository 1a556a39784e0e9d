/- Rows of a vault, plainly; what turns rows into others. -/
import Derived.Test.YtlgahdabhnhjgaaGreatDoorZqVau4
import Derived.Test.YtlgahdabhnhjgaaGreatDoorZqRng
import Derived.Laws.CopyOwn
import Derived.Laws.IdiomStrings
import Derived.Deep.MidRow
import Derived.Test.YtlgahdabhnhjgaaGreatDoorZqNums
import Derived.Lib.Bytealg
import Derived.Test.YtlgahdabhnhjgaaGreatDoorZqVauM
import Derived.Lib.ItoaNum
/- Laws of the walk that are about memory alone: copy of rows of many cells, copy out of a text, a text out of bytes that lie in a block. -/
namespace Go.Proofs.YtlgahdabhnhjgaaGreatDoor
open Go.RowKit

/-- The cells of bytes. -/
def bv (l : List UInt8) : List Value := l.map fun b => .int .u8 (b.toNat : Int)
theorem bv_length (l : List UInt8) : (bv l).length = l.length := by simp [bv]
theorem bv_one (l : List UInt8) : ∀ v ∈ bv l, v.oneCell' = true := by
  intro v hv; simp only [bv, List.mem_map] at hv; obtain ⟨b, _, rfl⟩ := hv; rfl
theorem bv_append (a b : List UInt8) : bv (a ++ b) = bv a ++ bv b := by simp [bv]

section
variable {P : Program}

theorem run_copy_rows (w : World) (dT sT ty elem : TypeId) (m g o dLen dCap : Nat) (a : Addr) (sLen sCap : Nat) (cur : Array Value) (t : TypeId) (cs : List Value)
    (hu : P.underlying dT = some (.slice elem)) (hs : (P.info? elem).map (·.size) = some m)
    (hg : w.heap[g]? = some (.cells cur t (0, 0))) (hn : cs.length = Nat.min sLen dLen * m)
    (hsrc : ∀ j v, cs[j]? = some v → w.cell? (a.add j) = some v) (hfit : o + cs.length ≤ cur.size) (h1 : ∀ v ∈ cs, v.oneCell' = true) :
    (Builtin.copy_ #[dT, sT] ty #[.slice (some ⟨g, o, none⟩) dLen dCap, .slice (some a) sLen sCap]).run P w =
      .ok (goInt (Nat.min sLen dLen)) (w.setRow g (Go.splice cur.toList o cs).toArray) := by
  have hl := run_loadCells_list (P := P) w a cs hsrc
  have hst := run_storeCells_at P g o t cs 0 cur w hg (by simpa using hfit) h1
  rw [hn] at hl
  cases hq : P.info? elem with
  | none => simp [hq] at hs
  | some i =>
    have hi : i.size = m := by simpa [hq] using hs
    simp [Builtin.copy_, run_underlying hu, Builtin.lenOf, Builtin.firstCells, sizeOf, typeInfo, hq, hi, hl, hst, Go.splice]

theorem run_copy_text (w : World) (dT sT ty elem : TypeId) (g o dLen dCap : Nat) (s : ByteArray) (cur : Array Value) (t : TypeId)
    (hu : P.underlying dT = some (.slice elem)) (hs : ((P.info? elem).map (·.size)).isSome = true)
    (hg : w.heap[g]? = some (.cells cur t (0, 0))) (hn : s.size ≤ dLen) (hfit : o + s.size ≤ cur.size) :
    (Builtin.copy_ #[dT, sT] ty #[.slice (some ⟨g, o, none⟩) dLen dCap, .string s]).run P w =
      .ok (goInt s.size) (w.setRow g (Go.splice cur.toList o (bv s.data.toList)).toArray) := by
  have hst := run_storeCells_at P g o t (bv s.data.toList) 0 cur w hg (by rw [bv_length]; simpa using hfit) (bv_one _)
  have hmin : Nat.min s.size dLen = s.size := Nat.min_eq_left hn
  have hcs : (s.data.map fun b => Value.int .u8 (b.toNat : Int)).toList = bv s.data.toList := by simp [bv]
  cases hq : P.info? elem with
  | none => simp [hq] at hs
  | some i =>
    simp [Builtin.copy_, run_underlying hu, Builtin.lenOf, Builtin.firstCells, sizeOf, typeInfo, hq, hmin]
    have := hcs
    simp only [Array.toList_map] at this
    rw [this, List.take_of_length_le (by rw [bv_length]; exact Nat.le_refl _), hst]
    simp [Go.splice]

theorem wpList_copy_rows {w : World} {ops : Array Oper} {rest : List Oper} {o : Oper} {a : Act} {Q : Exit → Act → World → Prop} (hgd : o.guard = none) (d s : Operand) (dT sT : TypeId)
    (ho : o.op = .call { callee := .builtin .copy, args := #[d, s], argTypes := #[dT, sT] }) (elem : TypeId) (m : Nat) (hu : P.underlying dT = some (.slice elem)) (hsz : (P.info? elem).map (·.size) = some m)
    (g off dLen dCap : Nat) (ad : Addr) (sLen sCap : Nat) (hd : a.eval d = .slice (some ⟨g, off, none⟩) dLen dCap) (hs : a.eval s = .slice (some ad) sLen sCap)
    (cur : Array Value) (t : TypeId) (hg : w.heap[g]? = some (.cells cur t (0, 0))) (cs : List Value) (hn : cs.length = Nat.min sLen dLen * m)
    (hsrc : ∀ j v, cs[j]? = some v → w.cell? (ad.add j) = some v) (hfit : off + cs.length ≤ cur.size) (h1 : ∀ v ∈ cs, v.oneCell' = true) (cs' : Array Value) (hcs : (Go.splice cur.toList off cs).toArray = cs')
    (h : wpList P ops Q rest (a.put o.dst (goInt (Nat.min sLen dLen))) (w.setRow g cs')) : wpList P ops Q (o :: rest) a w := by
  refine wpList_plain hgd fun K hK => ?_
  subst hcs
  have hrun := run_copy_rows (P := P) w dT sT o.type elem m g off dLen dCap ad sLen sCap cur t cs hu hsz hg hn hsrc hfit h1
  unfold Oper.wp
  simp only [execOp, ho, resolve, invoke, builtin]
  simp [hd, hs, hrun, Result.andThen]
  exact hK _ _ h

theorem wpList_copy_text {w : World} {ops : Array Oper} {rest : List Oper} {o : Oper} {a : Act} {Q : Exit → Act → World → Prop} (hgd : o.guard = none) (d s : Operand) (dT sT : TypeId)
    (ho : o.op = .call { callee := .builtin .copy, args := #[d, s], argTypes := #[dT, sT] }) (elem : TypeId) (hu : P.underlying dT = some (.slice elem)) (hsz : ((P.info? elem).map (·.size)).isSome = true)
    (g off dLen dCap : Nat) (x : ByteArray) (hd : a.eval d = .slice (some ⟨g, off, none⟩) dLen dCap) (hs : a.eval s = .string x)
    (cur : Array Value) (t : TypeId) (hg : w.heap[g]? = some (.cells cur t (0, 0))) (hn : x.size ≤ dLen) (hfit : off + x.size ≤ cur.size) (cs' : Array Value) (hcs : (Go.splice cur.toList off (bv x.data.toList)).toArray = cs')
    (h : wpList P ops Q rest (a.put o.dst (goInt x.size)) (w.setRow g cs')) : wpList P ops Q (o :: rest) a w := by
  refine wpList_plain hgd fun K hK => ?_
  subst hcs
  have hrun := run_copy_text (P := P) w dT sT o.type elem g off dLen dCap x cur t hu hsz hg hn hfit
  unfold Oper.wp
  simp only [execOp, ho, resolve, invoke, builtin]
  simp [hd, hs, hrun, Result.andThen]
  exact hK _ _ h

theorem step_copy_rows {ops : Array Oper} {o : Oper} {a : Act} {w : World} {K : Act → World → Prop} {Q : Exit → Act → World → Prop} {E : Prop} (hgd : o.guard = none) (d s : Operand) (dT sT : TypeId)
    (ho : o.op = .call { callee := .builtin .copy, args := #[d, s], argTypes := #[dT, sT] }) (elem : TypeId) (m : Nat) (hu : P.underlying dT = some (.slice elem)) (hsz : (P.info? elem).map (·.size) = some m)
    (g off dLen dCap : Nat) (ad : Addr) (sLen sCap : Nat) (hd : a.eval d = .slice (some ⟨g, off, none⟩) dLen dCap) (hs : a.eval s = .slice (some ad) sLen sCap)
    (cur : Array Value) (t : TypeId) (hg : w.heap[g]? = some (.cells cur t (0, 0))) (cs : List Value) (hn : cs.length = Nat.min sLen dLen * m)
    (hsrc : ∀ j v, cs[j]? = some v → w.cell? (ad.add j) = some v) (hfit : off + cs.length ≤ cur.size) (h1 : ∀ v ∈ cs, v.oneCell' = true) (cs' : Array Value) (hcs : (Go.splice cur.toList off cs).toArray = cs')
    (hK : K (a.put o.dst (goInt (Nat.min sLen dLen))) (w.setRow g cs')) :
    if Region.wanted o (yielded ops a.tmps) = true then Oper.wp P o a w K Q else E := by
  have hw : Region.wanted o (yielded ops a.tmps) = true := by simp [Region.wanted, hgd]
  rw [if_pos hw]
  subst hcs
  have hrun := run_copy_rows (P := P) w dT sT o.type elem m g off dLen dCap ad sLen sCap cur t cs hu hsz hg hn hsrc hfit h1
  unfold Oper.wp
  simp only [execOp, ho, resolve, invoke, builtin]
  simp [hd, hs, hrun, Result.andThen]
  exact hK

/-- A text out of the bytes that lie in a block from a place on. -/
theorem run_text_at (w : World) (src dst e : TypeId) (g off cap : Nat) (l : List UInt8) (hs : P.underlying src = some (.slice e)) (he : P.underlying e = some (.int .u8)) (hd : P.underlying dst = some .string)
    (hc : w.rangeAt g off (bv l)) : (convert src dst (.slice (some ⟨g, off, none⟩) l.length cap)).run P w = .ok (.string ⟨l.toArray⟩) w :=
  run_convert_bytes_back w src dst e _ cap l hs he hd (fun j hj => by
    rw [Addr.add_mid]
    exact hc j _ (by simp [bv, hj]))
/-- Is the next operation the one that writes this slot? It changes nothing. -/
theorem isOpAt {ops : Array Oper} {rest : List Oper} {a : Act} {w : World} {Q : Exit → Act → World → Prop} (d : Nat) {op : Op} {t : TypeId} {pos : String} {after : Array Edge}
    (h : wpList P ops Q (⟨some d, op, t, pos, after, none⟩ :: rest) a w) : wpList P ops Q (⟨some d, op, t, pos, after, none⟩ :: rest) a w := h

theorem wpList_build {ops : Array Oper} {rest : List Oper} {o : Oper} {a : Act} {w : World} {Q : Exit → Act → World → Prop} (hgd : o.guard = none) (ty : TypeId) (parts : Array (Nat × Operand)) (ho : o.op = .build ty parts)
    (ps : Array (Nat × Value)) (hp : (parts.map fun (i, x) => (i, a.eval x)) = ps) (vs : Array Value) (hrun : (Instr.build ty ps).run P w = .ok (.agg vs) w)
    (h : wpList P ops Q rest (a.put o.dst (.agg vs)) w) : wpList P ops Q (o :: rest) a w :=
  wpList_plain hgd fun K hK => by
    subst hp
    unfold Oper.wp execOp
    simp only [ho, Sem.run_bind, hrun, Result.andThen_ok, Sem.run_pure]
    exact hK _ _ h

theorem wpList_alloc {ops : Array Oper} {rest : List Oper} {o : Oper} {a : Act} {w : World} {Q : Exit → Act → World → Prop} (hgd : o.guard = none) (ty : TypeId) (ho : o.op = .alloc ty)
    (vs : Array Value) (hrun : (Instr.alloc ty true (.tuple #[])).run P w = .ok (.pointer (some ⟨w.heap.size, 0, none⟩)) (w.alloc (.cells vs ty)))
    (h : wpList P ops Q rest (a.put o.dst (.pointer (some ⟨w.heap.size, 0, none⟩))) (w.alloc (.cells vs ty))) : wpList P ops Q (o :: rest) a w :=
  wpList_plain hgd fun K hK => by
    unfold Oper.wp execOp
    simp only [ho, Sem.run_bind, hrun, Result.andThen_ok, Sem.run_pure]
    exact hK _ _ h

/-- Cells stored one by one into a block that is known whole. -/
theorem setCells_row (P : Program) (w : World) (g o : Nat) (vs : List Value) (cur : Array Value) (t : TypeId) (hg : w.heap[g]? = some (.cells cur t (0, 0))) (hfit : o + vs.length ≤ cur.size) (h1 : ∀ v ∈ vs, v.oneCell' = true) :
    w.setCells g o vs = w.setRow g (Go.splice cur.toList o vs).toArray := by
  have a := run_storeCells_at P g o t vs 0 cur w hg (by simpa using hfit) h1
  have b := run_storeCells_cells (P := P) g o vs 0 w (fun j hj => by rw [cell_of_row w g _ cur t (0, 0) hg]; simp; omega) (fun j hj => frozen_of_row w g _ cur t hg) h1
  rw [a] at b
  injection b with _ b
  simpa [Go.splice] using b.symm

theorem alloc_setRow (w : World) (a b : Array Value) (t : TypeId) (fr : Nat × Nat) : (w.alloc (.cells a t fr)).setRow w.heap.size b = w.alloc (.cells b t fr) := by
  unfold World.setRow World.alloc
  cases w with
  | mk heap tape drawn os output =>
    congr 1
    apply Array.ext
    · simp
    · intro k h1 h2
      simp only [Array.getElem_modify, Array.getElem_push]
      split
      · rename_i hk; subst hk; simp
      · rename_i hk
        have h3 : k < heap.size := by simp at h2; omega
        rw [dif_pos h3, dif_pos h3]

theorem there_of_row {w : World} {g o n : Nat} {cur : Array Value} {t : TypeId} (hg : w.heap[g]? = some (.cells cur t (0, 0))) (hfit : o + n ≤ cur.size) : w.there g o n := fun j hj =>
  ⟨by rw [cell_of_row w g _ cur t (0, 0) hg]; simp; omega, frozen_of_row w g _ cur t hg⟩
end
end Go.Proofs.YtlgahdabhnhjgaaGreatDoor

/- Changes as plain data. -/
namespace Go.Proofs.YtlgahdabhnhjgaaGreatDoor
open Go.RowKit

/-- A change. -/
structure Ch where
  key : ByteArray
  val : ByteArray
  gone : Bool
instance : Inhabited Ch := ⟨⟨ByteArray.empty, ByteArray.empty, false⟩⟩
def chArr (c : Ch) : Array Value := #[.string c.key, .string c.val, .bool c.gone]

/-- The number of its fault. -/
def chErr (c : Ch) : Int := if c.key.size = 0 ∨ c.gone = true ∧ ¬ c.val.size = 0 then 3 else if 8 < c.key.size ∨ 48 < c.val.size then 2 else 0
theorem chErr_nonneg (c : Ch) : 0 ≤ chErr c := by unfold chErr; split; omega; split <;> omega

theorem toList_len (x : ByteArray) : x.toList.length = x.size := by rw [ByteArray.toList_eq]; rfl
theorem toList_nil {x : ByteArray} (h : x.size = 0) : x.toList = [] := List.length_eq_zero_iff.1 ((toList_len x).trans h)
theorem toList_not {x : ByteArray} (h : ¬ x.size = 0) : ¬ x.toList = [] := fun h' => h (by rw [← toList_len, h']; rfl)
theorem empty_yes {x : ByteArray} (h : x.size = 0) : x.toList.isEmpty = true := by rw [toList_nil h]; rfl
theorem empty_no {x : ByteArray} (h : ¬ x.size = 0) : x.toList.isEmpty = false := by
  cases hx : x.toList with
  | nil => exact absurd hx (toList_not h)
  | cons a r => rfl

theorem Tryz.infoChS : (Tryz.prog.info? 49).map (·.size) = some 3 := by kernel_rfl
theorem splice3c (a b c x y z : Value) : splice #[a, b, c] 0 #[x, y, z] = #[x, y, z] := rfl
end Go.Proofs.YtlgahdabhnhjgaaGreatDoor

/- Two texts compared. -/
namespace Go.Proofs.YtlgahdabhnhjgaaGreatDoor

/-- Two texts compared. -/
def cmpB (a b : ByteArray) : Int := Lib.compareBytes a.data.toList b.data.toList

end Go.Proofs.YtlgahdabhnhjgaaGreatDoor

/- Rows as plain data: how a change turns them; the order of keys. -/
namespace Go.Proofs.YtlgahdabhnhjgaaGreatDoor
open Go.RowKit

/-! The order of texts. -/
abbrev cb := Lib.compareBytes
theorem cb_self : ∀ a : List UInt8, cb a a = 0
  | [] => rfl
  | x :: a => by
    show (if x < x then (-1 : Int) else if x < x then 1 else cb a a) = 0
    rw [if_neg (UInt8.lt_irrefl x), if_neg (UInt8.lt_irrefl x)]
    exact cb_self a
theorem cb_swap : ∀ a b : List UInt8, cb b a = - cb a b
  | [], [] => rfl
  | [], _ :: _ => rfl
  | _ :: _, [] => rfl
  | x :: a, y :: b => by
    show (if y < x then (-1 : Int) else if x < y then 1 else cb b a) = - (if x < y then (-1 : Int) else if y < x then 1 else cb a b)
    have ih := cb_swap a b
    by_cases h1 : y < x
    · have h2 : ¬ x < y := fun h => UInt8.lt_irrefl x (UInt8.lt_trans h h1)
      rw [if_pos h1, if_neg h2, if_pos h1]
    · by_cases h2 : x < y
      · rw [if_neg h1, if_pos h2, if_pos h2]; rfl
      · rw [if_neg h1, if_neg h2, if_neg h2, if_neg h1]; exact ih
theorem cb_zero : ∀ a b : List UInt8, cb a b = 0 → a = b
  | [], [], _ => rfl
  | [], _ :: _, h => by cases h
  | _ :: _, [], h => by cases h
  | x :: a, y :: b, h => by
    replace h : (if x < y then (-1 : Int) else if y < x then 1 else cb a b) = 0 := h
    by_cases h1 : x < y
    · rw [if_pos h1] at h; cases h
    · by_cases h2 : y < x
      · rw [if_neg h1, if_pos h2] at h; cases h
      · rw [if_neg h1, if_neg h2] at h
        rw [cb_zero a b h, UInt8.le_antisymm (UInt8.not_lt.1 h2) (UInt8.not_lt.1 h1)]
theorem cb_trans : ∀ a b c : List UInt8, cb a b < 0 → cb b c < 0 → cb a c < 0
  | [], [], _, h, _ => by cases h
  | [], _ :: _, [], _, h => by cases h
  | [], _ :: _, _ :: _, _, _ => by show (-1 : Int) < 0; decide
  | _ :: _, [], _, h, _ => by cases h
  | _ :: _, _ :: _, [], _, h => by cases h
  | x :: a, y :: b, z :: c, h, k => by
    replace h : (if x < y then (-1 : Int) else if y < x then 1 else cb a b) < 0 := h
    replace k : (if y < z then (-1 : Int) else if z < y then 1 else cb b c) < 0 := k
    show (if x < z then (-1 : Int) else if z < x then 1 else cb a c) < 0
    by_cases h1 : x < y
    · by_cases k1 : y < z
      · rw [if_pos (UInt8.lt_trans h1 k1)]; decide
      · by_cases k2 : z < y
        · rw [if_neg k1, if_pos k2] at k; cases k
        · have : y = z := UInt8.le_antisymm (UInt8.not_lt.1 k2) (UInt8.not_lt.1 k1)
          rw [← this, if_pos h1]; decide
    · by_cases h2 : y < x
      · rw [if_neg h1, if_pos h2] at h; cases h
      · have e : x = y := UInt8.le_antisymm (UInt8.not_lt.1 h2) (UInt8.not_lt.1 h1)
        rw [if_neg h1, if_neg h2] at h
        subst e
        by_cases k1 : x < z
        · rw [if_pos k1]; decide
        · by_cases k2 : z < x
          · rw [if_neg k1, if_pos k2] at k; cases k
          · rw [if_neg k1, if_neg k2] at k ⊢
            exact cb_trans a b c h k
theorem less_cb : ∀ a b : List UInt8, Op.bytesLess a b = decide (cb a b < 0)
  | [], [] => rfl
  | [], _ :: _ => rfl
  | _ :: _, [] => rfl
  | x :: a, y :: b => by
    show (decide (x < y) || (x == y && Op.bytesLess a b)) = decide ((if x < y then (-1 : Int) else if y < x then 1 else cb a b) < 0)
    rw [less_cb a b]
    by_cases h1 : x < y
    · simp [h1]
    · by_cases h2 : y < x
      · have : ¬ x = y := fun e => by subst e; exact UInt8.lt_irrefl x h2
        simp [h1, h2, this]
      · have e : x = y := UInt8.le_antisymm (UInt8.not_lt.1 h2) (UInt8.not_lt.1 h1)
        subst e
        simp [h1]

theorem toList_data (x : ByteArray) : x.toList = x.data.toList := ByteArray.toList_eq x
theorem cmp_self (a : ByteArray) : cmpB a a = 0 := cb_self _
theorem cmp_swap (a b : ByteArray) : cmpB b a = - cmpB a b := cb_swap _ _
theorem cmp_zero {a b : ByteArray} (h : cmpB a b = 0) : a = b := by
  have := cb_zero _ _ h
  obtain ⟨⟨a⟩⟩ := a
  obtain ⟨⟨b⟩⟩ := b
  simp only [] at this
  rw [this]
theorem cmp_trans {a b c : ByteArray} (h : cmpB a b < 0) (k : cmpB b c < 0) : cmpB a c < 0 := cb_trans _ _ _ h k
theorem eq_cmp (a b : ByteArray) : (a.toList == b.toList) = decide (cmpB a b = 0) := by
  rw [toList_data, toList_data]
  by_cases h : cmpB a b = 0
  · rw [cmp_zero h]; simp [cmp_self]
  · have : ¬ a.data = b.data := fun e => h (by unfold cmpB; rw [e]; exact cb_self _)
    simp [h, this]
theorem leq_cmp (a b : ByteArray) : (Op.bytesLess a.toList b.toList || a.toList == b.toList) = decide (cmpB a b ≤ 0) := by
  rw [eq_cmp, toList_data, toList_data, less_cb]
  show (decide (cmpB a b < 0) || decide (cmpB a b = 0)) = _
  rw [← Bool.decide_or]
  congr 1
  apply propext
  omega

/-! Rows. -/
def SortedCh (m : List Ch) : Prop := m.Pairwise fun a b => cmpB a.key b.key < 0
def rLo (m : List Ch) (k : ByteArray) : List Ch := m.filter fun x => decide (cmpB x.key k < 0)
def rHi (m : List Ch) (k : ByteArray) : List Ch := m.filter fun x => decide (0 < cmpB x.key k)
/-- Rows behind a change. -/
def ap1 (m : List Ch) (c : Ch) : List Ch := rLo m c.key ++ ((if c.gone then [] else [c]) ++ rHi m c.key)
def apAll (m : List Ch) (l : List Ch) : List Ch := l.foldl ap1 m

theorem ap1_sorted {m : List Ch} (h : SortedCh m) (c : Ch) : SortedCh (ap1 m c) := by
  unfold SortedCh ap1
  rw [List.pairwise_append]
  refine ⟨h.filter _, ?_, ?_⟩
  · rw [List.pairwise_append]
    refine ⟨by cases c.gone <;> simp, h.filter _, ?_⟩
    intro a ha b hb
    have hb2 := (List.mem_filter.1 hb).2
    simp only [decide_eq_true_eq] at hb2
    have hac : a = c := by cases hg : c.gone <;> simp [hg] at ha; exact ha
    rw [hac, cmp_swap]; omega
  · intro a ha b hb
    have ha2 := (List.mem_filter.1 ha).2
    simp only [decide_eq_true_eq] at ha2
    rcases List.mem_append.1 hb with hb | hb
    · have hbc : b = c := by cases hg : c.gone <;> simp [hg] at hb; exact hb
      rw [hbc]; exact ha2
    · have hb2 := (List.mem_filter.1 hb).2
      simp only [decide_eq_true_eq] at hb2
      exact cmp_trans ha2 (by rw [cmp_swap]; omega)
theorem apAll_sorted : ∀ (l : List Ch) {m : List Ch}, SortedCh m → SortedCh (apAll m l)
  | [], _, h => h
  | c :: l, _, h => apAll_sorted l (ap1_sorted h c)
theorem ap1_len (m : List Ch) (c : Ch) : (ap1 m c).length ≤ m.length + 1 := by
  have h1 : ∀ l : List Ch, (rLo l c.key).length + (rHi l c.key).length ≤ l.length := by
    intro l
    induction l with
    | nil => simp [rLo, rHi]
    | cons y r ih =>
      unfold rLo rHi at ih ⊢
      simp only [List.filter_cons]
      by_cases a : cmpB y.key c.key < 0
      · have b : ¬ 0 < cmpB y.key c.key := by omega
        simp [a, b]; omega
      · by_cases b : 0 < cmpB y.key c.key
        · simp [a, b]; omega
        · simp [a, b]; omega
  have := h1 m
  unfold ap1
  simp only [List.length_append]
  split <;> simp <;> omega
theorem apAll_snoc (m l : List Ch) (c : Ch) : apAll m (l ++ [c]) = ap1 (apAll m l) c := by simp [apAll]
theorem apAll_len : ∀ (l m : List Ch), (apAll m l).length ≤ m.length + l.length
  | [], m => by simp [apAll]
  | c :: l, m => by
    have a := apAll_len l (ap1 m c)
    have b := ap1_len m c
    show (apAll (ap1 m c) l).length ≤ _
    simp only [List.length_cons]; omega

/-- What lies behind a key in sorted rows. -/
theorem hi_all {y : Ch} {r : List Ch} {k : ByteArray} (h : SortedCh (y :: r)) (hy : 0 ≤ cmpB y.key k) : rHi r k = r ∧ rLo (y :: r) k = [] := by
  have hr : ∀ z ∈ r, 0 < cmpB z.key k := by
    intro z hz
    have h1 := (List.pairwise_cons.1 h).1 z hz
    by_cases h0 : cmpB y.key k = 0
    · have := cmp_swap z.key y.key
      have e := cmp_zero h0
      rw [← e]; omega
    · have h2 : cmpB k y.key < 0 := by rw [cmp_swap]; omega
      have h3 := cmp_trans h2 h1
      rw [cmp_swap] at h3; omega
  refine ⟨List.filter_eq_self.2 (fun z hz => decide_eq_true (hr z hz)), List.filter_eq_nil_iff.2 (fun z hz => ?_)⟩
  simp only [decide_eq_true_eq]
  rcases List.mem_cons.1 hz with rfl | hz
  · omega
  · have := hr z hz; omega

/-- The place where the search ends parts the rows. -/
theorem ap_parts {p q : List Ch} {k : ByteArray} (hp : ∀ x ∈ p, cmpB x.key k < 0) (hq : ∀ x ∈ q, 0 ≤ cmpB x.key k) : rLo (p ++ q) k = p ∧ rHi (p ++ q) k = rHi q k := by
  refine ⟨?_, ?_⟩
  · unfold rLo
    rw [List.filter_append, List.filter_eq_self.2 (fun x hx => decide_eq_true (hp x hx)), List.filter_eq_nil_iff.2 (fun x hx => by have := hq x hx; simp; omega), List.append_nil]
  · unfold rHi
    rw [List.filter_append, List.filter_eq_nil_iff.2 (fun x hx => by have := hp x hx; simp; omega), List.nil_append]

theorem ap_none {p q : List Ch} {c : Ch} (hp : ∀ x ∈ p, cmpB x.key c.key < 0) (hq : ∀ x ∈ q, 0 ≤ cmpB x.key c.key) (hs : SortedCh (p ++ q)) (hn : ∀ y r, q = y :: r → ¬ cmpB y.key c.key = 0) : ap1 (p ++ q) c = p ++ ((if c.gone then [] else [c]) ++ q) := by
  obtain ⟨e1, e2⟩ := ap_parts hp hq
  unfold ap1
  rw [e1, e2]
  congr 2
  cases hqq : q with
  | nil => rfl
  | cons y r =>
    subst hqq
    have hy := hq y (by simp)
    have h0 := hn y r rfl
    have := (hi_all (List.pairwise_append.1 hs).2.1 hy).1
    unfold rHi at this ⊢
    rw [List.filter_cons, if_pos (by simp; omega), this]
theorem ap_some {p r : List Ch} {y c : Ch} (hp : ∀ x ∈ p, cmpB x.key c.key < 0) (hq : ∀ x ∈ y :: r, 0 ≤ cmpB x.key c.key) (hs : SortedCh (p ++ y :: r)) (hn : cmpB y.key c.key = 0) : ap1 (p ++ y :: r) c = p ++ ((if c.gone then [] else [c]) ++ r) := by
  obtain ⟨e1, e2⟩ := ap_parts hp hq
  unfold ap1
  rw [e1, e2]
  congr 2
  have := (hi_all (List.pairwise_append.1 hs).2.1 (hq y (by simp))).1
  unfold rHi at this ⊢
  rw [List.filter_cons, if_neg (by simp; omega), this]
end Go.Proofs.YtlgahdabhnhjgaaGreatDoor

/- Rows of a vault, plainly; what turns rows into others. -/
namespace Go.Proofs.YtlgahdabhnhjgaaGreatDoor
open Go.RowKit Go.Maps

/-- A number in at least three digits. -/
def t3 (n : Nat) : List UInt8 := List.replicate (3 - (Lib.decDigits n).length) 48 ++ Lib.decDigits n
/-- Numbers, one after the other. -/
def tx (ns : List Nat) : List UInt8 := ns.flatMap t3
def ba (l : List UInt8) : ByteArray := ⟨l.toArray⟩
def rowB (id : Nat) (b : Blk) : Ch := ⟨ba (98 :: tx [id]), ba (tx [b.refs] ++ b.data.data.toList), false⟩
def rowN (id : Nat) (n : Nod) : Ch := ⟨ba (110 :: tx [id]), ba (tx [n.refs] ++ tx [n.k0, n.k1, n.k2, n.k3]), false⟩
def rowP (p : PtM) : Ch := ⟨ba (112 :: tx [p.id]), ba (tx [p.disk, p.size, p.root]), false⟩
def rowX (next : Nat) : Ch := ⟨ba [120], ba (tx [next]), false⟩
def rowsBs (P : PoolM) (l : List Int) : List Ch := l.map fun id => rowB id.toNat (P id.toNat)
def rowsNs (N : NodM) (l : List Int) : List Ch := l.map fun id => rowN id.toNat (N id.toNat)
def rowsM (V : VauM) : List Ch := rowsBs V.X.P (numsOf V.X.P) ++ rowsNs V.X.N (nodsOf V.X.N) ++ V.L.map rowP ++ [rowX V.next]

instance chDec : DecidableEq Ch := fun a b => decidable_of_iff (a.key = b.key ∧ a.val = b.val ∧ a.gone = b.gone) ⟨fun h => by obtain ⟨a1, a2, a3⟩ := a; obtain ⟨b1, b2, b3⟩ := b; simp only [] at h; rw [h.1, h.2.1, h.2.2], fun h => by rw [h]; exact ⟨rfl, rfl, rfl⟩⟩

/-- A row that is gone. -/
def goneCh (c : Ch) : Ch := ⟨c.key, ByteArray.empty, true⟩
def chgM : List Ch → List Ch → List Ch
  | [], [] => []
  | x :: a, [] => goneCh x :: chgM a []
  | [], y :: b => y :: chgM [] b
  | x :: a, y :: b =>
    if cmpB x.key y.key < 0 then goneCh x :: chgM a (y :: b)
    else if cmpB y.key x.key < 0 then y :: chgM (x :: a) b
    else (if x = y then [] else [y]) ++ chgM a b
termination_by a b => a.length + b.length
theorem chgM_same (p a b : List Ch) : chgM (p ++ a) (p ++ b) = chgM a b := by
  induction p with
  | nil => rfl
  | cons x p ih =>
    rw [List.cons_append, List.cons_append, chgM, cmp_self]
    simp [ih]
theorem chgM_one {x y : Ch} (hk : x.key = y.key) (hv : x ≠ y) : chgM [x] [y] = [y] := by
  rw [chgM, hk, cmp_self]
  simp [hv, chgM]

/-- What digits say. -/
def rd (l : List UInt8) : Nat := l.foldl (fun a d => 10 * a + (d.toNat - 48)) 0
theorem rd_snoc (l : List UInt8) (d : UInt8) : rd (l ++ [d]) = 10 * rd l + (d.toNat - 48) := by simp [rd]
theorem rd_dec (n : Nat) : rd (Lib.decDigits n) = n := by
  induction n using Nat.strongRecOn with
  | ind n ih =>
    rw [Lib.decDigits]
    split
    · rename_i h
      have : (UInt8.ofNat (48 + n)).toNat = 48 + n := by simp; omega
      show 10 * 0 + ((UInt8.ofNat (48 + n)).toNat - 48) = n
      rw [this]; omega
    · rename_i h
      rw [rd_snoc, ih _ (by omega)]
      have : (UInt8.ofNat (48 + n % 10)).toNat = 48 + n % 10 := by simp; omega
      rw [this]
      omega
theorem rd_zeros (k : Nat) (l : List UInt8) : rd (List.replicate k 48 ++ l) = rd l := by
  induction k with
  | zero => rfl
  | succ k ih =>
    rw [List.replicate_succ, List.cons_append]
    have : rd (48 :: (List.replicate k 48 ++ l)) = rd (List.replicate k 48 ++ l) := by simp [rd]
    rw [this, ih]
theorem rd_t3 (n : Nat) : rd (t3 n) = n := by unfold t3; rw [rd_zeros, rd_dec]
theorem tx_one (n : Nat) : tx [n] = t3 n := by simp [tx]
theorem rowX_ne {a b : Nat} (h : a ≠ b) : rowX a ≠ rowX b := by
  intro e
  have e2 : ba (tx [a]) = ba (tx [b]) := congrArg Ch.val e
  rw [tx_one, tx_one] at e2
  have e3 : t3 a = t3 b := by
    have := congrArg (fun x : ByteArray => x.data.toList) e2
    simpa [ba] using this
  exact h (by rw [← rd_t3 a, ← rd_t3 b, e3])
/-- Rows that differ in the last number alone. -/
theorem chg_next (V : VauM) (n : Nat) (h : V.next ≠ n) : chgM (rowsM V) (rowsM ⟨V.X, V.L, n⟩) = [rowX n] := by
  unfold rowsM
  rw [chgM_same]
  exact chgM_one rfl (rowX_ne h)
end Go.Proofs.YtlgahdabhnhjgaaGreatDoor
