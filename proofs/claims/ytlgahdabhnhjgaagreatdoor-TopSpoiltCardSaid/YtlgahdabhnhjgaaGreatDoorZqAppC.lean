/- append(nil, l...): a copy of rows, as one law, l with a row or none. -/
import Derived.Test.YtlgahdabhnhjgaaGreatDoorZqVau1
import Derived.Laws.AppendOwnNone
namespace Go.Proofs.YtlgahdabhnhjgaaGreatDoor
open Go.RowKit Go.Maps

theorem wpList_append_copy {P : Program} {w : World} {ops : Array Oper} {rest : List Oper} {o : Oper} {a : Act} {Q : Exit → Act → World → Prop} (hgd : o.guard = none) (s x : Operand) (t : TypeId)
    (ho : o.op = .call { callee := .builtin .append, args := #[s, x], argTypes := #[t, t] })
    (e : TypeId) (i : TypeInfo) (z : Value) (size bytes : Nat) (ht : P.underlying t = some (.slice e)) (hi : P.info? e = some i) (hz : i.zero = some z)
    (hsize : i.size = size) (hby : i.bytes = bytes) (hzs : z.cells.size = size) (hsz : 0 < size)
    (hs : a.eval s = .slice none 0 0) (B n : Nat) (lv : Value) (xs : List Value) (hx : a.eval x = lv) (hown : w.ownsRow B e size lv n xs) (h1 : ∀ u ∈ xs, u.oneCell' = true)
    (h63 : n ≤ maxLen) (hbytes : n * bytes ≤ 140737488355328)
    (h : ∀ A c w', w'.ownsRow w.heap.size e size (.slice A n c) n xs → Below w.heap.size w w' → wpList P ops Q rest (a.put o.dst (.slice A n c)) w') : wpList P ops Q (o :: rest) a w := by
  have hlen := hown.1
  have ho2 := hown
  rcases hown.2 with ⟨e1, e2⟩ | ⟨g, cap, cur, e1, hB, hg, hnc, hcm, hcs, htk⟩
  · subst e2
    have hx0 : xs = [] := List.length_eq_zero_iff.1 (by omega)
    subst hx0
    exact wpList_append_own_none hgd s x t ho w.heap.size e i size ht hi (.slice none 0 0) 0 [] hs (World.ownsRow_nil _ _ _ _) (hx.trans e1) (h none 0 w (World.ownsRow_nil _ _ _ _) (Below.refl _ _))
  · subst e1
    have hnews : ∀ j u, xs[j]? = some u → w.cell? ((⟨g, 0, none⟩ : Addr).add j) = some u := fun j u hj => by
      have hjl := (List.getElem?_eq_some_iff.1 hj).1
      rw [add_lit', Nat.zero_add, ho2.cellAt _ (by omega)]
      exact hj
    refine wpList_append_own _ hgd s x t ho w.heap.size e i z size bytes ht hi hz hsize hby hzs hsz (.slice none 0 0) 0 [] hs (World.ownsRow_nil _ _ _ _) ⟨g, 0, none⟩ n cap xs hx hlen hnews h1 (by omega) (by simpa using hbytes) (Nat.le_refl _) ?_
    intro v' w' hO hg' _
    have hO2 : w'.ownsRow w.heap.size e size v' n xs := by simpa using hO
    obtain ⟨A, c, hv⟩ := ownsRow_slice hO2
    subst hv
    exact h A c w' hO2 ((Below.refl _ _).grown hg' (Nat.le_refl _) (fun k hk => by cases hk))
end Go.Proofs.YtlgahdabhnhjgaaGreatDoor
