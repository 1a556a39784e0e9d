/- Vaults as rows may describe them, in memory. -/
import Derived.Test.YtlgahdabhnhjgaaGreatDoorZqMaps
import Derived.Test.YtlgahdabhnhjgaaGreatDoorZqVau2
import Derived.Laws.CopyOwn
import Derived.Test.YtlgahdabhnhjgaaGreatDoorZqImM
import Derived.Test.YtlgahdabhnhjgaaGreatDoorZqVauD
import Derived.Deep.AppendLies
import Derived.Lib.SliceRun
import Derived.Test.YtlgahdabhnhjgaaGreatDoorZqSortG
import Derived.Test.YtlgahdabhnhjgaaGreatDoorZqGs
import Derived.Test.YtlgahdabhnhjgaaGreatDoorZqVau4
/- What a call leaves of memory: below a block all is as it was, and so are all rows of types that are not named. -/
namespace Go.Proofs.YtlgahdabhnhjgaaGreatDoor
open Go.RowKit

/-- Memory behind a step: below block B all is as it was, and so are all rows of types that are not named. -/
structure Step (B : Nat) (ts : List TypeId) (w w' : World) : Prop where
  below : Below B w w'
  other : ∀ (k : Nat) (cs : Array Value) (t : TypeId) (fr : Nat × Nat), w.heap[k]? = some (Obj.cells cs t fr) → t ∉ ts → w'.heap[k]? = some (Obj.cells cs t fr)

theorem Step.refl (B : Nat) (ts : List TypeId) (w : World) : Step B ts w w := ⟨Below.refl _ _, fun _ _ _ _ h _ => h⟩
theorem Step.trans {B : Nat} {ts : List TypeId} {a b c : World} (h : Step B ts a b) (k : Step B ts b c) : Step B ts a c :=
  ⟨h.below.trans k.below, fun i cs t fr e ht => k.other i cs t fr (h.other i cs t fr e ht) ht⟩
theorem Step.of_below {B : Nat} {ts : List TypeId} {a b : World} (h : Below a.heap.size a b) (hB : B ≤ a.heap.size) : Step B ts a b :=
  ⟨h.mono hB, fun k cs t fr e _ => by rw [h.block k (Array.getElem?_eq_some_iff.1 e).1]; exact e⟩
theorem Step.alloc {B : Nat} {ts : List TypeId} {a b : World} (h : Step B ts a b) (hB : B ≤ b.heap.size) (o : Obj) : Step B ts a (b.alloc o) :=
  h.trans (Step.of_below ((Below.refl _ _).alloc (Nat.le_refl _) o) hB)
theorem Step.drew {B : Nat} {ts : List TypeId} {a b : World} (h : Step B ts a b) : Step B ts a b.drew := ⟨h.below.drew, h.other⟩
theorem Step.drewN {B : Nat} {ts : List TypeId} {a b : World} (h : Step B ts a b) (n : Nat) : Step B ts a (b.drewN n) := ⟨below_drewN h.below n, h.other⟩
theorem Step.mono {B B' : Nat} {ts ts' : List TypeId} {a b : World} (h : Step B ts a b) (hB : B' ≤ B) (hts : ∀ t ∈ ts, t ∈ ts') : Step B' ts' a b :=
  ⟨h.below.mono hB, fun k cs t fr e ht => h.other k cs t fr e (fun h => ht (hts t h))⟩
theorem Step.size {B : Nat} {ts : List TypeId} {a b : World} (h : Step B ts a b) : a.heap.size ≤ b.heap.size := h.below.size

/-- A store into a row of a named type. -/
theorem Step.set {B : Nat} {ts : List TypeId} {a b : World} (h : Step B ts a b) {g i : Nat} {cs : Array Value} {t : TypeId} {fr : Nat × Nat} (hg : b.heap[g]? = some (.cells cs t fr)) (hB : B ≤ g) (ht : t ∈ ts) (u : Value) : Step B ts a (b.setCell ⟨g, i, none⟩ u) := by
  refine h.trans ⟨(Below.refl _ _).setCell (p := ⟨g, i, none⟩) hB u, fun k cs' t' fr' e ht' => ?_⟩
  rw [Below.heap_setCell _ _ _ _ (show k ≠ g by rintro rfl; rw [hg] at e; injection e with e; injection e with _ e _; exact ht' (e ▸ ht))]
  exact e
theorem Step.row {B : Nat} {ts : List TypeId} {a b : World} (h : Step B ts a b) {g : Nat} {cs : Array Value} {t : TypeId} {fr : Nat × Nat} (hg : b.heap[g]? = some (.cells cs t fr)) (hB : B ≤ g) (ht : t ∈ ts) (cs' : Array Value) : Step B ts a (b.setRow g cs') := by
  refine h.trans ⟨below_setRow (Below.refl _ _) hB cs', fun k cs' t' fr' e ht' => ?_⟩
  rw [setRow_other _ _ _ _ (show k ≠ g by rintro rfl; rw [hg] at e; injection e with e; injection e with _ e _; exact ht' (e ▸ ht))]
  exact e
theorem Step.grown {B : Nat} {ts : List TypeId} {a b c : World} (h : Step B ts a b) {row : Option Nat} (hg : b.grownBy c row) (hB : B ≤ b.heap.size) (hr : ∀ k, row = some k → B ≤ k ∧ ∃ (cs : Array Value) (t : TypeId) (fr : Nat × Nat), b.heap[k]? = some (Obj.cells cs t fr) ∧ t ∈ ts) : Step B ts a c := by
  refine h.trans ⟨Below.grown (Below.refl _ _) hg hB (fun k e => (hr k e).1), fun k cs t fr e ht => ?_⟩
  rw [hg.block k (Array.getElem?_eq_some_iff.1 e).1 (fun x => by
    obtain ⟨_, cs', t', fr', e', ht'⟩ := hr k x.symm
    rw [e] at e'; injection e' with e'; injection e' with _ e' _; exact ht (e' ▸ ht'))]
  exact e

theorem types_ne {w : World} {g gb : Nat} {cs cs' : Array Value} {t t' : TypeId} {fr fr' : Nat × Nat} (h : w.heap[g]? = some (Obj.cells cs t fr)) (h' : w.heap[gb]? = some (Obj.cells cs' t' fr')) (ht : t ≠ t') : g ≠ gb := by
  rintro rfl; rw [h] at h'; injection h' with h'; injection h' with _ h' _; exact ht h'

theorem ownsRow_form {w : World} {B : Nat} {e : TypeId} {size : Nat} {v : Value} {n : Nat} {xs : List Value} (h : w.ownsRow B e size v n xs) : (∃ A c, v = .slice A 0 c ∧ n = 0) ∨ ∃ gb c, v = .slice (some ⟨gb, 0, none⟩) n c ∧ 0 < n := by
  rcases h.2 with ⟨h', h0⟩ | ⟨g', cap', cur, h', _⟩
  · exact .inl ⟨none, 0, h', h0⟩
  · cases n with
    | zero => exact .inl ⟨_, _, h', rfl⟩
    | succ n => exact .inr ⟨_, _, h', by omega⟩

end Go.Proofs.YtlgahdabhnhjgaaGreatDoor

/- Changes in memory. -/
namespace Go.Proofs.YtlgahdabhnhjgaaGreatDoor
open Go.RowKit

theorem Tryz.infoChZ : (Tryz.prog.info? 49).map (fun i => (i.zero, i.size, i.bytes)) = some (some (.agg #[.string ByteArray.empty, .string ByteArray.empty, .bool false]), 3, 40) := by kernel_rfl
theorem slice_form {w : World} {B : Nat} {e : TypeId} {size n : Nat} {v : Value} {xs : List Value} (h : w.ownsRow B e size v n xs) : ∃ A c, v = .slice A n c := by
  rcases h.2 with ⟨rfl, rfl⟩ | ⟨g, cap, cur, rfl, _⟩
  · exact ⟨none, 0, rfl⟩
  · exact ⟨_, cap, rfl⟩

def chCells (l : List Ch) : List Value := l.flatMap fun c => [.string c.key, .string c.val, .bool c.gone]
theorem chCells_nil : chCells [] = [] := rfl
theorem chCells_cons (c : Ch) (l : List Ch) : chCells (c :: l) = [.string c.key, .string c.val, .bool c.gone] ++ chCells l := rfl
theorem chCells_length : ∀ (l : List Ch), (chCells l).length = l.length * 3
  | [] => rfl
  | c :: l => by rw [chCells_cons, List.length_append, chCells_length l]; simp; omega
theorem chCells_append (L M : List Ch) : chCells (L ++ M) = chCells L ++ chCells M := by simp [chCells]
theorem chCells_snoc (l : List Ch) (c : Ch) : chCells (l ++ [c]) = chCells l ++ [.string c.key, .string c.val, .bool c.gone] := by simp [chCells]
theorem chCells_take (L : List Ch) (i : Nat) (h : i ≤ L.length) : (chCells L).take (i * 3) = chCells (L.take i) := by
  conv => lhs; rw [← List.take_append_drop i L, chCells_append]
  rw [List.take_append_of_le_length (by rw [chCells_length]; simp; omega), List.take_of_length_le (by rw [chCells_length]; simp; omega)]
theorem chCells_drop (L : List Ch) (i : Nat) (h : i ≤ L.length) : (chCells L).drop (i * 3) = chCells (L.drop i) := by
  conv => lhs; rw [← List.take_append_drop i L, chCells_append]
  rw [List.drop_append_of_le_length (by rw [chCells_length]; simp; omega), List.drop_of_length_le (by rw [chCells_length]; simp; omega), List.nil_append]
theorem chCells_at (L : List Ch) (k i : Nat) (hk : k < L.length) (hi : i < 3) : (chCells L)[k * 3 + i]? = (chArr L[k])[i]? := by
  have e : chCells L = chCells (L.take k) ++ (chCells [L[k]] ++ chCells (L.drop (k + 1))) := by
    conv => lhs; rw [← List.take_append_drop k L, chCells_append]
    congr 1
    rw [List.drop_eq_getElem_cons hk]
    rfl
  have hl : (chCells (L.take k)).length = k * 3 := by rw [chCells_length]; simp; omega
  rw [e, List.getElem?_append_right (by omega), hl, List.getElem?_append_left (by rw [chCells_length]; simp; omega)]
  rw [show k * 3 + i - k * 3 = i by omega]
  rw [show chCells [L[k]] = (chArr L[k]).toList from rfl, Array.getElem?_toList]
theorem chCells_one (L : List Ch) : ∀ u ∈ chCells L, u.oneCell' = true := by
  intro u hu
  obtain ⟨p, _, h⟩ := List.mem_flatMap.1 hu
  simp only [List.mem_cons, List.not_mem_nil, or_false] at h
  rcases h with rfl | rfl | rfl <;> rfl

/-- Changes in an own row. -/
def ChRow (w : World) (B : Nat) (v : Value) (l : List Ch) : Prop := w.ownsRow B 49 3 v l.length (chCells l)

/-- Changes that a call is handed. -/
def ChsAt (w : World) (A : Option Addr) (l : List Ch) : Prop := ∀ i, (hi : i < l.length) → ∃ b off, A = some ⟨b, off, none⟩ ∧ b < w.heap.size ∧ w.cell? ⟨b, off + i * 3, none⟩ = some (.string l[i].key) ∧ w.cell? ⟨b, off + i * 3 + 1, none⟩ = some (.string l[i].val) ∧ w.cell? ⟨b, off + i * 3 + 2, none⟩ = some (.bool l[i].gone) ∧ l[i].key.size ≤ maxLen ∧ l[i].val.size ≤ maxLen
theorem ChsAt.below {w w' : World} {A : Option Addr} {l : List Ch} (h : ChsAt w A l) (hb : Below w.heap.size w w') : ChsAt w' A l := fun i hi => by
  obtain ⟨b, off, e, hlt, c0, c1, c2, s⟩ := h i hi
  have := hb.size
  exact ⟨b, off, e, by omega, (hb.cell (p := ⟨b, off + i * 3, none⟩) hlt).trans c0, (hb.cell (p := ⟨b, off + i * 3 + 1, none⟩) hlt).trans c1, (hb.cell (p := ⟨b, off + i * 3 + 2, none⟩) hlt).trans c2, s⟩
/-- The cells of changes that a call is handed. -/
theorem ChsAt.cells {w : World} {b off : Nat} {l : List Ch} (h : ChsAt w (some ⟨b, off, none⟩) l) : ∀ j u, (chCells l)[j]? = some u → w.cell? ((⟨b, off, none⟩ : Addr).add j) = some u := fun j u hu => by
  rw [add_lit]
  have hj := (List.getElem?_eq_some_iff.1 hu).1
  rw [chCells_length] at hj
  have hk : j / 3 < l.length := by omega
  obtain ⟨b', off', e, hlt, c0, c1, c2, s⟩ := h (j / 3) hk
  simp only [Option.some.injEq, Addr.mk.injEq, and_true] at e
  obtain ⟨rfl, rfl⟩ := e
  have e3 : j = j / 3 * 3 + j % 3 := by omega
  rw [e3, chCells_at l _ _ hk (by omega)] at hu
  have h3 : j % 3 = 0 ∨ j % 3 = 1 ∨ j % 3 = 2 := by omega
  rcases h3 with h3 | h3 | h3 <;> rw [h3] at hu <;> rw [← hu] <;> rw [show off + j = off + j / 3 * 3 + j % 3 by omega, h3]
  · exact c0
  · exact c1
  · exact c2
theorem ChsAt.form {w : World} {A : Option Addr} {l : List Ch} (h : ChsAt w A l) : l = [] ∨ ∃ b off, A = some ⟨b, off, none⟩ ∧ b < w.heap.size := by
  cases l with
  | nil => exact .inl rfl
  | cons c l => obtain ⟨b, off, e, hlt, _⟩ := h 0 (by simp); exact .inr ⟨b, off, e, hlt⟩

/-- An own row as changes that a call is handed. -/
theorem chs_own {w : World} {B : Nat} {A : Option Addr} {n c : Nat} {r : List Ch} (h : w.ownsRow B 49 3 (.slice A n c) n (chCells r)) (hz : ∀ x ∈ r, x.key.size ≤ maxLen ∧ x.val.size ≤ maxLen) : ChsAt w A r := fun i hi => by
  have hn := h.1
  rw [chCells_length] at hn
  rcases h.2 with ⟨h1, h2⟩ | ⟨b, cap, cur, h1, hb, hg, hnc, hcm, hcs, htake⟩
  · omega
  · simp only [Value.slice.injEq, true_and] at h1
    obtain ⟨rfl, rfl⟩ := h1
    have hc : ∀ j, j < 3 → w.cell? ⟨b, 0 + i * 3 + j, none⟩ = (chArr r[i])[j]? := fun j hj => by
      rw [cell_of_row _ _ _ _ _ _ hg, ← chCells_at r i j hi hj, ← htake, List.getElem?_take, if_pos (by omega)]
      simp
    exact ⟨b, 0, rfl, (Array.getElem?_eq_some_iff.1 hg).1, hc 0 (by omega), hc 1 (by omega), hc 2 (by omega), hz _ (List.getElem_mem hi)⟩

theorem own_below {w w' : World} {B : Nat} {e : TypeId} {size n : Nat} {v : Value} {xs : List Value} (h : w.ownsRow B e size v n xs) (hb : Below w.heap.size w w') : w'.ownsRow B e size v n xs := by
  refine ⟨h.1, ?_⟩
  rcases h.2 with h1 | ⟨g, cap, cur, h1, h2, hg, h3⟩
  · exact .inl h1
  · exact .inr ⟨g, cap, cur, h1, h2, by rw [hb.block g (Array.getElem?_eq_some_iff.1 hg).1]; exact hg, h3⟩
theorem ChsAt.sizes {w : World} {A : Option Addr} {l : List Ch} (h : ChsAt w A l) : ∀ x ∈ l, x.key.size ≤ maxLen ∧ x.val.size ≤ maxLen := fun x hx => by
  obtain ⟨i, hi, rfl⟩ := List.getElem_of_mem hx
  obtain ⟨b, off, e, hlt, c0, c1, c2, s⟩ := h i hi
  exact s
end Go.Proofs.YtlgahdabhnhjgaaGreatDoor

/- Vaults as rows may describe them, in memory. -/
namespace Go.Proofs.YtlgahdabhnhjgaaGreatDoor
open Go.RowKit Go.Maps

def gvCells (L : List GP) : List Value := L.flatMap fun p => [.int .i64 p.id, .int .i64 p.disk, .int .i64 p.size, .int .i64 p.root]
theorem gvCells_length : ∀ L : List GP, (gvCells L).length = L.length * 4
  | [] => rfl
  | p :: L => by
    show ([_, _, _, _] ++ gvCells L).length = (L.length + 1) * 4
    rw [List.length_append, gvCells_length L]; simp; omega
theorem gvCells_append (L M : List GP) : gvCells (L ++ M) = gvCells L ++ gvCells M := by simp [gvCells]

/-- A vault as rows may describe it, in memory; all of it lies from B on. -/
structure GVAt (w : World) (v x gp bp bn B : Nat) (lv : Value) (G : GV) : Prop where
  row : w.heap[v]? = some (.cells #[.pointer (some ⟨x, 0, none⟩), lv, .int .i64 G.next] 57 (0, 0))
  xrow : w.heap[x]? = some (.cells #[.pointer (some ⟨gp, 0, none⟩), .map (some bn)] 66 (0, 0))
  grow : w.heap[gp]? = some (.cells #[.map (some bp)] 97 (0, 0))
  P : MapG w bp G.pk (fun m => (G.P m).map gbV)
  N : MapG w bn G.nk (fun m => (G.N m).map gnV)
  ne : bp ≠ bn
  pts : w.ownsRow B 60 4 lv G.L.length (gvCells G.L)
  frm : From B v x gp bp bn

section
variable {w w' : World} {v x gp bp bn B : Nat} {lv : Value} {G : GV}
theorem GVAt.lt (h : GVAt w v x gp bp bn B lv G) : v < w.heap.size ∧ x < w.heap.size ∧ gp < w.heap.size ∧ bp < w.heap.size ∧ bn < w.heap.size := ⟨(Array.getElem?_eq_some_iff.1 h.row).1, (Array.getElem?_eq_some_iff.1 h.xrow).1, (Array.getElem?_eq_some_iff.1 h.grow).1, h.P.lt, h.N.lt⟩
theorem GVAt.below (h : GVAt w v x gp bp bn B lv G) (hb : Below w.heap.size w w') : GVAt w' v x gp bp bn B lv G := by
  obtain ⟨h1, h2, h3, h4, h5⟩ := h.lt
  exact ⟨(hb.block v h1).trans h.row, (hb.block x h2).trans h.xrow, (hb.block gp h3).trans h.grow, h.P.below hb, h.N.below hb, h.ne, own_below h.pts hb, h.frm⟩
theorem GVAt.c0 (h : GVAt w v x gp bp bn B lv G) : w.cell? ⟨v, 0, none⟩ = some (.pointer (some ⟨x, 0, none⟩)) := cell_of_row _ _ _ _ _ _ h.row
theorem GVAt.c1 (h : GVAt w v x gp bp bn B lv G) : w.cell? ⟨v, 1, none⟩ = some lv := cell_of_row _ _ _ _ _ _ h.row
theorem GVAt.c2 (h : GVAt w v x gp bp bn B lv G) : w.cell? ⟨v, 2, none⟩ = some (.int .i64 G.next) := cell_of_row _ _ _ _ _ _ h.row
theorem GVAt.x0 (h : GVAt w v x gp bp bn B lv G) : w.cell? ⟨x, 0, none⟩ = some (.pointer (some ⟨gp, 0, none⟩)) := cell_of_row _ _ _ _ _ _ h.xrow
theorem GVAt.x1 (h : GVAt w v x gp bp bn B lv G) : w.cell? ⟨x, 1, none⟩ = some (.map (some bn)) := cell_of_row _ _ _ _ _ _ h.xrow
theorem GVAt.g0 (h : GVAt w v x gp bp bn B lv G) : w.cell? ⟨gp, 0, none⟩ = some (.map (some bp)) := cell_of_row _ _ _ _ _ _ h.grow

/-- Cells and maps are no one's row of points; all parts differ. -/
theorem GVAt.apart (h : GVAt w v x gp bp bn B lv G) : (bp ≠ v ∧ bp ≠ x ∧ bp ≠ gp ∧ bn ≠ v ∧ bn ≠ x ∧ bn ≠ gp ∧ v ≠ x ∧ v ≠ gp) ∧ ∀ g, lv.ownBlock = some g → g ≠ bp ∧ g ≠ bn ∧ g ≠ v ∧ g ≠ x ∧ g ≠ gp := by
  obtain ⟨es, c, e1⟩ := h.P.ismap
  obtain ⟨es', c', e2⟩ := h.N.ismap
  have hr := h.row
  have hx := h.xrow
  have hg := h.grow
  refine ⟨⟨?_, ?_, ?_, ?_, ?_, ?_, ?_, ?_⟩, fun g e => ?_⟩
  · rintro rfl; rw [e1] at hr; cases hr
  · rintro rfl; rw [e1] at hx; cases hx
  · rintro rfl; rw [e1] at hg; cases hg
  · rintro rfl; rw [e2] at hr; cases hr
  · rintro rfl; rw [e2] at hx; cases hx
  · rintro rfl; rw [e2] at hg; cases hg
  · rintro rfl
    rw [hr] at hx
    injection hx with hx
    injection hx with _ hx _
    exact absurd hx (by decide)
  · rintro rfl
    rw [hr] at hg
    injection hg with hg
    injection hg with _ hg _
    exact absurd hg (by decide)
  · obtain ⟨cur, hh⟩ := ownsRow_type h.pts e
    refine ⟨?_, ?_, ?_, ?_, ?_⟩
    · rintro rfl; rw [e1] at hh; cases hh
    · rintro rfl; rw [e2] at hh; cases hh
    · rintro rfl
      rw [hr] at hh
      injection hh with hh
      injection hh with _ hh _
      exact absurd hh (by decide)
    · rintro rfl
      rw [hx] at hh
      injection hh with hh
      injection hh with _ hh _
      exact absurd hh (by decide)
    · rintro rfl
      rw [hg] at hh
      injection hh with hh
      injection hh with _ hh _
      exact absurd hh (by decide)

/-- Behind a store into the blocks' map. -/
theorem GVAt.putP (h : GVAt w v x gp bp bn B lv G) {ks : List Int} {f : Int → Option GB} (hm : MapG w' bp ks (fun m => (f m).map gbV)) (ht : w.mapTurned w' bp) : GVAt w' v x gp bp bn B lv { G with pk := ks, P := f } := by
  obtain ⟨⟨a1, a2, a3, a4, a5, a6, _, _⟩, a7⟩ := h.apart
  obtain ⟨l1, l2, l3, l4, l5⟩ := h.lt
  have hg := ht.grown
  have key : ∀ k, k < w.heap.size → k ≠ bp → w'.heap[k]? = w.heap[k]? := fun k hk hne => hg.block k hk (fun e => hne (by cases e; rfl))
  exact ⟨(key v l1 a1.symm).trans h.row, (key x l2 a2.symm).trans h.xrow, (key gp l3 a3.symm).trans h.grow, hm, h.N.keep (key bn l5 h.ne.symm), h.ne, ownsRow_keep h.pts fun g e => key g (World.ownsRow.lt h.pts g e).2 (a7 g e).1, h.frm⟩
/-- Behind a store into the nodes' map. -/
theorem GVAt.putN (h : GVAt w v x gp bp bn B lv G) {ks : List Int} {f : Int → Option GN} (hm : MapG w' bn ks (fun m => (f m).map gnV)) (ht : w.mapTurned w' bn) : GVAt w' v x gp bp bn B lv { G with nk := ks, N := f } := by
  obtain ⟨⟨a1, a2, a3, a4, a5, a6, _, _⟩, a7⟩ := h.apart
  obtain ⟨l1, l2, l3, l4, l5⟩ := h.lt
  have hg := ht.grown
  have key : ∀ k, k < w.heap.size → k ≠ bn → w'.heap[k]? = w.heap[k]? := fun k hk hne => hg.block k hk (fun e => hne (by cases e; rfl))
  exact ⟨(key v l1 a4.symm).trans h.row, (key x l2 a5.symm).trans h.xrow, (key gp l3 a6.symm).trans h.grow, h.P.keep (key bp l4 h.ne), hm, h.ne, ownsRow_keep h.pts fun g e => key g (World.ownsRow.lt h.pts g e).2 (a7 g e).2.1, h.frm⟩
end
end Go.Proofs.YtlgahdabhnhjgaaGreatDoor
