/- Two texts compared. -/
import Derived.Test.YthhedahfmllnoaaZqCh0
import Derived.Test.YthhedahfmllnoaaZqResC
import Derived.Test.YthhedahfmllnoaaZqRng
import Derived.Test.YthhedahfmllnoaaZqDk1
import Derived.Deep.AppendLies
import Derived.Lib.SliceRun
import Derived.Laws.CopyOwn
import Derived.Deep.RegionLaw
import Derived.Lib.Bytealg
/- Changes in memory. -/
namespace Go.Proofs.Ythhedahfmllnoaa
open Go.RowKit

theorem Try.infoChZ : (Try.prog.info? 60).map (fun i => (i.zero, i.size, i.bytes)) = some (some (.agg #[.string ByteArray.empty, .string ByteArray.empty, .bool false]), 3, 40) := by kernel_rfl
theorem slice_form {w : World} {B : Nat} {e : TypeId} {size n : Nat} {v : Value} {xs : List Value} (h : w.ownsRow B e size v n xs) : ∃ A c, v = .slice A n c := by
  rcases h.2 with ⟨rfl, rfl⟩ | ⟨g, cap, cur, rfl, _⟩
  · exact ⟨none, 0, rfl⟩
  · exact ⟨_, cap, rfl⟩

def chCells (l : List Ch) : List Value := l.flatMap fun c => [.string c.key, .string c.val, .bool c.gone]
theorem chCells_nil : chCells [] = [] := rfl
theorem chCells_cons (c : Ch) (l : List Ch) : chCells (c :: l) = [.string c.key, .string c.val, .bool c.gone] ++ chCells l := rfl
theorem chCells_length : ∀ (l : List Ch), (chCells l).length = l.length * 3
  | [] => rfl
  | c :: l => by rw [chCells_cons, List.length_append, chCells_length l]; simp; omega
theorem chCells_append (L M : List Ch) : chCells (L ++ M) = chCells L ++ chCells M := by simp [chCells]
theorem chCells_snoc (l : List Ch) (c : Ch) : chCells (l ++ [c]) = chCells l ++ [.string c.key, .string c.val, .bool c.gone] := by simp [chCells]
theorem chCells_take (L : List Ch) (i : Nat) (h : i ≤ L.length) : (chCells L).take (i * 3) = chCells (L.take i) := by
  conv => lhs; rw [← List.take_append_drop i L, chCells_append]
  rw [List.take_append_of_le_length (by rw [chCells_length]; simp; omega), List.take_of_length_le (by rw [chCells_length]; simp; omega)]
theorem chCells_drop (L : List Ch) (i : Nat) (h : i ≤ L.length) : (chCells L).drop (i * 3) = chCells (L.drop i) := by
  conv => lhs; rw [← List.take_append_drop i L, chCells_append]
  rw [List.drop_append_of_le_length (by rw [chCells_length]; simp; omega), List.drop_of_length_le (by rw [chCells_length]; simp; omega), List.nil_append]
theorem chCells_at (L : List Ch) (k i : Nat) (hk : k < L.length) (hi : i < 3) : (chCells L)[k * 3 + i]? = (chArr L[k])[i]? := by
  have e : chCells L = chCells (L.take k) ++ (chCells [L[k]] ++ chCells (L.drop (k + 1))) := by
    conv => lhs; rw [← List.take_append_drop k L, chCells_append]
    congr 1
    rw [List.drop_eq_getElem_cons hk]
    rfl
  have hl : (chCells (L.take k)).length = k * 3 := by rw [chCells_length]; simp; omega
  rw [e, List.getElem?_append_right (by omega), hl, List.getElem?_append_left (by rw [chCells_length]; simp; omega)]
  rw [show k * 3 + i - k * 3 = i by omega]
  rw [show chCells [L[k]] = (chArr L[k]).toList from rfl, Array.getElem?_toList]
theorem chCells_one (L : List Ch) : ∀ u ∈ chCells L, u.oneCell' = true := by
  intro u hu
  obtain ⟨p, _, h⟩ := List.mem_flatMap.1 hu
  simp only [List.mem_cons, List.not_mem_nil, or_false] at h
  rcases h with rfl | rfl | rfl <;> rfl

/-- Changes in an own row. -/
def ChRow (w : World) (B : Nat) (v : Value) (l : List Ch) : Prop := w.ownsRow B 60 3 v l.length (chCells l)

/-- Changes that a call is handed. -/
def ChsAt (w : World) (A : Option Addr) (l : List Ch) : Prop := ∀ i, (hi : i < l.length) → ∃ b off, A = some ⟨b, off, none⟩ ∧ b < w.heap.size ∧ w.cell? ⟨b, off + i * 3, none⟩ = some (.string l[i].key) ∧ w.cell? ⟨b, off + i * 3 + 1, none⟩ = some (.string l[i].val) ∧ w.cell? ⟨b, off + i * 3 + 2, none⟩ = some (.bool l[i].gone) ∧ l[i].key.size ≤ maxLen ∧ l[i].val.size ≤ maxLen
theorem ChsAt.below {w w' : World} {A : Option Addr} {l : List Ch} (h : ChsAt w A l) (hb : Below w.heap.size w w') : ChsAt w' A l := fun i hi => by
  obtain ⟨b, off, e, hlt, c0, c1, c2, s⟩ := h i hi
  have := hb.size
  exact ⟨b, off, e, by omega, (hb.cell (p := ⟨b, off + i * 3, none⟩) hlt).trans c0, (hb.cell (p := ⟨b, off + i * 3 + 1, none⟩) hlt).trans c1, (hb.cell (p := ⟨b, off + i * 3 + 2, none⟩) hlt).trans c2, s⟩
/-- The cells of changes that a call is handed. -/
theorem ChsAt.cells {w : World} {b off : Nat} {l : List Ch} (h : ChsAt w (some ⟨b, off, none⟩) l) : ∀ j u, (chCells l)[j]? = some u → w.cell? ((⟨b, off, none⟩ : Addr).add j) = some u := fun j u hu => by
  rw [add_lit]
  have hj := (List.getElem?_eq_some_iff.1 hu).1
  rw [chCells_length] at hj
  have hk : j / 3 < l.length := by omega
  obtain ⟨b', off', e, hlt, c0, c1, c2, s⟩ := h (j / 3) hk
  simp only [Option.some.injEq, Addr.mk.injEq, and_true] at e
  obtain ⟨rfl, rfl⟩ := e
  have e3 : j = j / 3 * 3 + j % 3 := by omega
  rw [e3, chCells_at l _ _ hk (by omega)] at hu
  have h3 : j % 3 = 0 ∨ j % 3 = 1 ∨ j % 3 = 2 := by omega
  rcases h3 with h3 | h3 | h3 <;> rw [h3] at hu <;> rw [← hu] <;> rw [show off + j = off + j / 3 * 3 + j % 3 by omega, h3]
  · exact c0
  · exact c1
  · exact c2
theorem ChsAt.form {w : World} {A : Option Addr} {l : List Ch} (h : ChsAt w A l) : l = [] ∨ ∃ b off, A = some ⟨b, off, none⟩ ∧ b < w.heap.size := by
  cases l with
  | nil => exact .inl rfl
  | cons c l => obtain ⟨b, off, e, hlt, _⟩ := h 0 (by simp); exact .inr ⟨b, off, e, hlt⟩

/-- An own row as changes that a call is handed. -/
theorem chs_own {w : World} {B : Nat} {A : Option Addr} {n c : Nat} {r : List Ch} (h : w.ownsRow B 60 3 (.slice A n c) n (chCells r)) (hz : ∀ x ∈ r, x.key.size ≤ maxLen ∧ x.val.size ≤ maxLen) : ChsAt w A r := fun i hi => by
  have hn := h.1
  rw [chCells_length] at hn
  rcases h.2 with ⟨h1, h2⟩ | ⟨b, cap, cur, h1, hb, hg, hnc, hcm, hcs, htake⟩
  · omega
  · simp only [Value.slice.injEq, true_and] at h1
    obtain ⟨rfl, rfl⟩ := h1
    have hc : ∀ j, j < 3 → w.cell? ⟨b, 0 + i * 3 + j, none⟩ = (chArr r[i])[j]? := fun j hj => by
      rw [cell_of_row _ _ _ _ _ _ hg, ← chCells_at r i j hi hj, ← htake, List.getElem?_take, if_pos (by omega)]
      simp
    exact ⟨b, 0, rfl, (Array.getElem?_eq_some_iff.1 hg).1, hc 0 (by omega), hc 1 (by omega), hc 2 (by omega), hz _ (List.getElem_mem hi)⟩

theorem own_below {w w' : World} {B : Nat} {e : TypeId} {size n : Nat} {v : Value} {xs : List Value} (h : w.ownsRow B e size v n xs) (hb : Below w.heap.size w w') : w'.ownsRow B e size v n xs := by
  refine ⟨h.1, ?_⟩
  rcases h.2 with h1 | ⟨g, cap, cur, h1, h2, hg, h3⟩
  · exact .inl h1
  · exact .inr ⟨g, cap, cur, h1, h2, by rw [hb.block g (Array.getElem?_eq_some_iff.1 hg).1]; exact hg, h3⟩
theorem ChsAt.sizes {w : World} {A : Option Addr} {l : List Ch} (h : ChsAt w A l) : ∀ x ∈ l, x.key.size ≤ maxLen ∧ x.val.size ≤ maxLen := fun x hx => by
  obtain ⟨i, hi, rfl⟩ := List.getElem_of_mem hx
  obtain ⟨b, off, e, hlt, c0, c1, c2, s⟩ := h i hi
  exact s
end Go.Proofs.Ythhedahfmllnoaa

/- append onto a row of the call's own, as one step of a region that draws its order; of no elements, too. -/
namespace Go.Proofs.Ythhedahfmllnoaa
open Go.RowKit

theorem step_appendOwn {P : Program} {ops : Array Oper} {o : Oper} {a : Act} {w : World} {K : Act → World → Prop} {Q : Exit → Act → World → Prop} {E : Prop} (hgd : o.guard = none) (s x : Operand) (t : TypeId)
    (ho : o.op = .call { callee := .builtin .append, args := #[s, x], argTypes := #[t, t] })
    (base : Nat) (e : TypeId) (i : TypeInfo) (z : Value) (size bytes : Nat) (ht : P.underlying t = some (.slice e)) (hi : P.info? e = some i) (hz : i.zero = some z)
    (hsize : i.size = size) (hby : i.bytes = bytes) (hzs : z.cells.size = size) (hsz : 0 < size)
    (v : Value) (n : Nat) (xs : List Value) (hs : a.eval s = v) (hown : w.ownsRow base e size v n xs)
    (ad : Addr) (m c : Nat) (news : List Value) (hx : a.eval x = .slice (some ad) m c) (hl : news.length = m * size) (hnews : ∀ j u, news[j]? = some u → w.cell? (ad.add j) = some u) (h1 : ∀ u ∈ news, u.oneCell' = true)
    (h63 : n + m ≤ maxLen) (hbytes : (n + m) * bytes ≤ 140737488355328) (hbase : base ≤ w.heap.size)
    (h : ∀ v' w', w'.ownsRow base e size v' (n + m) (xs ++ news) → w.grownBy w' v.ownBlock → (v' = .slice none 0 0 ↔ v = .slice none 0 0 ∧ m = 0) → K (a.put o.dst v') w') :
    if Region.wanted o (yielded ops a.tmps) = true then Oper.wp P o a w K Q else E := by
  have hw : Region.wanted o (yielded ops a.tmps) = true := by simp [Region.wanted, hgd]
  rw [if_pos hw]
  exact wp_append_own w s x t ho base e i z size bytes ht hi hz hsize hby hzs hsz v n xs hs hown ad m c news hx hl hnews h1 h63 hbytes hbase h
end Go.Proofs.Ythhedahfmllnoaa

/- Two texts compared. -/
namespace Go.Proofs.Ythhedahfmllnoaa

/-- Two texts compared. -/
def cmpB (a b : ByteArray) : Int := Lib.compareBytes a.data.toList b.data.toList

end Go.Proofs.Ythhedahfmllnoaa
