/- A range of cells of a block. -/
import Derived.Test.YtbmlkpgagbhblaaGreatDoorZqVau4
import Derived.Test.YtbmlkpgagbhblaaGreatDoorZqTexts
import Derived.Test.YtbmlkpgagbhblaaGreatDoorZqVaulted
import Derived.Test.YtbmlkpgagbhblaaGreatDoorZqBase
import Derived.Shelf.Lay
import Derived.Shelf.Strings.Builder1
import Derived.Shelf.Strconv.Itoa3
import Derived.Shelf.Strings.Repeat
import Derived.Lib.LaidTab
import Derived.Lib.AppendIntMem
import Derived.Lib.ItoaMem
import Derived.Test.YtbmlkpgagbhblaaGreatDoorZqResC
import Derived.Deep.MidRow
/- Again: what an error leaves; what a drop of the newest point gives back. -/
namespace Go.Proofs.YtbmlkpgagbhblaaGreatDoor
open Go.RowKit Go.Maps

theorem free_refN {X : IdxM} {K : Nat} (h : X.N.Ok K) (r : Nat) : (X.refN r).free r = X := by
  obtain ⟨P, N⟩ := X
  simp only at h
  unfold IdxM.free releaseX IdxM.refN incN
  cases hh : hasNod N r with
  | false => simp [hh]
  | true =>
    have h1 := (hasNod_iff _ _).1 hh
    simp only [Int.toNat_natCast] at h1
    have e : hasNod (setNod N r { N r with refs := (N r).refs + 1 }) r = true := (hasNod_iff _ _).2 ⟨h1.1, h1.2.1, by simp [setNod]⟩
    have e2 : setNod N r { N r with refs := (N r).refs + 1 } r = { N r with refs := (N r).refs + 1 } := by simp [setNod]
    simp only [if_true, e, e2]
    rw [if_neg (by have := h1.2.2; omega)]
    congr 1
    funext i
    by_cases hi : i = r
    · subst hi; simp [setNod]
    · simp [setNod, hi]
theorem keysOf_congr {n : Nat} {f g : Int → Option Value} (h : ∀ m, (f m).isSome = (g m).isSome) : keysOf n f = keysOf n g := by
  unfold keysOf
  congr 1
  funext m
  exact h m
theorem nods_refN (X : IdxM) (r : Nat) : nodsOf (X.refN r).N = nodsOf X.N := by
  refine keysOf_congr fun m => ?_
  rw [nodMap_isSome, nodMap_isSome]
  unfold IdxM.refN incN
  cases hh : hasNod X.N r with
  | false => rfl
  | true =>
    have h1 := (hasNod_iff _ _).1 hh
    simp only [Int.toNat_natCast] at h1
    simp only [if_true]
    rw [Bool.eq_iff_iff, hasNod_iff, hasNod_iff]
    by_cases hi : m.toNat = r
    · subst hi; simp [setNod]; omega
    · simp [setNod, hi]

theorem drop_again {V : VauM} (hV : V.Ok) {id : Int} (he : againErr V id = 0) : ∃ k, placeOf V.L id = some k ∧ (againV V id).Ok ∧ placeOf (againV V id).L id = some k ∧ placeOf (againV V id).L V.next = some V.L.length ∧ dropErr (againV V id) V.next = 0 ∧ dropV (againV V id) V.next = ⟨V.X, V.L, V.next + 1⟩ ∧
    textsAt (againV V id) V.L.length = textsAt (againV V id) k ∧ numsOf (againV V id).X.P = numsOf V.X.P ∧ nodsOf (againV V id).X.N = nodsOf V.X.N := by
  obtain ⟨k, hk, hp, hok, heq, _⟩ := again_good hV he
  have hN : V.X.N.Ok 1000 := (hV.inv.okX (Nat.le_trans (heldOf_len _) (by have := hV.len; omega))).N
  rw [heq] at hok ⊢
  obtain ⟨p, hpt⟩ : ∃ p, V.L[k] = p := ⟨_, rfl⟩
  rw [hpt] at hok ⊢
  have hl : V.L.length < (V.L ++ [(⟨V.next, p.disk, p.size, p.root⟩ : PtM)]).length := by simp
  have hlast : (V.L ++ [(⟨V.next, p.disk, p.size, p.root⟩ : PtM)])[V.L.length]'hl = ⟨V.next, p.disk, p.size, p.root⟩ := by simp
  have hpl := placeOf_at hok.inc hl
  simp only [hlast] at hpl
  have hpk : placeOf (V.L ++ [(⟨V.next, p.disk, p.size, p.root⟩ : PtM)]) id = some k := place_append hp
  refine ⟨k, hp, hok, hpk, hpl, ?_, ?_, ?_, rfl, nods_refN _ _⟩
  · unfold dropErr; simp only [hpl]
  · unfold dropV
    simp only [hpl]
    have e1 : (V.L ++ [(⟨V.next, p.disk, p.size, p.root⟩ : PtM)])[V.L.length]! = ⟨V.next, p.disk, p.size, p.root⟩ := by rw [getElem!_pos (V.L ++ [(⟨V.next, p.disk, p.size, p.root⟩ : PtM)]) V.L.length hl, hlast]
    rw [e1]
    simp only
    rw [free_refN hN, List.eraseIdx_append_of_length_le (Nat.le_refl _)]
    simp
  · unfold textsAt
    simp only
    have hk' : k < (V.L ++ [(⟨V.next, p.disk, p.size, p.root⟩ : PtM)]).length := by simp; omega
    rw [getElem!_pos (V.L ++ [(⟨V.next, p.disk, p.size, p.root⟩ : PtM)]) V.L.length hl, hlast, getElem!_pos (V.L ++ [(⟨V.next, p.disk, p.size, p.root⟩ : PtM)]) k hk', List.getElem_append_left hk, hpt]

set_option maxHeartbeats 1000000 in
set_option maxRecDepth 100000 in
theorem add_err (w : World) (v x gp bp bn B : Nat) (lv : Value) (V : VauM) (disk size root : Nat) (h : VauAt w v x gp bp bn B lv V) (hL : V.L.length ≤ 6) (hN : V.next ≤ 1000) (ne : Int) (he : addErr V = ne) (hne : ne ≠ 0) :
    Calls Tryz.prog 24 #[.pointer (some ⟨v, 0, none⟩), .int .i64 disk, .int .i64 size, .int .i64 root] w fun e w' => e = .returned (.tuple #[.int .i64 0, errV ne]) ∧ Below w.heap.size w w' := by
  obtain ⟨A, c, hlv⟩ := ownsRow_slice h.pts
  subst hlv
  have c1 := h.cell1
  have c2 := h.cell2
  obtain ⟨n, hn⟩ : ∃ n, V.L.length = n := ⟨_, rfl⟩
  obtain ⟨t, ht⟩ : ∃ t, V.next = t := ⟨_, rfl⟩
  rw [hn] at c1 hL
  rw [ht] at c2 hN
  unfold addErr at he
  rw [hn, ht] at he
  by_cases h1 : 6 ≤ n
  · rw [if_pos (.inl h1)] at he
    subst he
    have i1 : (6 : Int) ≤ (n : Int) := by omega
    clear h
    go_enter Tryz.func24, Tryz.ntmps24
    go_wp2
    go_ret2
    exact ⟨rfl, Below.refl _ _⟩
  by_cases h2 : 999 < t
  · rw [if_pos (.inr h2)] at he
    subst he
    have i1 : ¬ ((6 : Int) ≤ (n : Int)) := by omega
    have i2 : (999 : Int) < (t : Int) := by omega
    clear h
    go_enter Tryz.func24, Tryz.ntmps24
    go_wp2
    go_ret2
    exact ⟨rfl, Below.refl _ _⟩
  rw [if_neg (by omega)] at he
  exact absurd he.symm hne

set_option maxHeartbeats 1000000 in
set_option maxRecDepth 100000 in
/-- Again, where it fails: nothing is changed. -/
theorem again_err (w : World) (v x gp bp bn B : Nat) (lv : Value) (V : VauM) (id : Int) (h : VauAt w v x gp bp bn B lv V) (hV : V.Ok) (ne : Int) (he : againErr V id = ne) (hne : ne ≠ 0) :
    Calls Tryz.prog 7 #[.pointer (some ⟨v, 0, none⟩), .int .i64 id] w fun e w' => e = .returned (.tuple #[.int .i64 0, errV ne]) ∧ Below w.heap.size w w' := by
  cases hp : placeOf V.L id with
  | none =>
    have he' : ne = 5 := by rw [← he]; unfold againErr; rw [hp]
    subst he'
    have HF := Lib.hid (find_no w v x gp bp bn B lv V id h hV hp)
    clear hp h he
    go_enter Tryz.func7, Tryz.ntmps7
    go_wp2_with fail
    ((with_reducible refine HF.out.mono ?_); rintro e w2 ⟨rfl, hb2⟩)
    have b3 := (Below.refl w2.heap.size w2).alloc (Nat.le_refl _) (.cells #[.int .i64 0, .int .i64 0, .int .i64 0, .int .i64 0] 65)
    go_wp2
    go_ret2
    exact ⟨rfl, belowThen hb2 b3⟩
  | some k =>
    obtain ⟨hk, _⟩ := placeOf_some hp
    obtain ⟨p, hpt⟩ : ∃ p, V.L[k] = p := ⟨_, rfl⟩
    have he1 : addErr V = ne := by rw [← he]; unfold againErr; rw [hp]
    have HF := Lib.hid (find_yes w v x gp bp bn B lv V id h hV k hk hp p hpt)
    have HA := Lib.hid (fun w' (hb : Below w.heap.size w w') => add_err w' v x gp bp bn B lv V p.disk p.size p.root (h.below hb) hV.len hV.next.2 ne he1 hne)
    have hv : errV ne = .iface 68 (.int .i64 ne) := by simp [errV, hne]
    rw [hv] at HA ⊢
    clear hp hpt he he1 h
    go_enter Tryz.func7, Tryz.ntmps7
    go_wp2_with fail
    ((with_reducible refine HF.out.mono ?_); rintro e w2 ⟨rfl, hb2⟩)
    have b3 := (Below.refl w2.heap.size w2).alloc (Nat.le_refl _) (.cells #[.int .i64 p.id, .int .i64 p.disk, .int .i64 p.size, .int .i64 p.root] 65)
    have hb3 := belowThen hb2 b3
    clear HF b3 hb2 hv
    go_wp2_with fail
    ((with_reducible refine (HA.out _ hb3).mono ?_); rintro e w4 ⟨rfl, hb4⟩)
    have hb5 := belowThen hb3 hb4
    clear HA hb3 hb4
    go_wp2
    go_ret2
    exact ⟨rfl, hb5⟩
end Go.Proofs.YtbmlkpgagbhblaaGreatDoor

/- What the library's strconv.Itoa, strings.Repeat and strings.Builder answer here. -/
namespace Go.Proofs.YtbmlkpgagbhblaaGreatDoor
open Go.Shelf Go.RowKit
set_option maxRecDepth 100000

shelf_lay Lays.n169 Nm 169 at Tryz as Tryz.lays169
theorem bx169 : Builder.Extra Tryz.prog Tryz.lays169_ren where
  sizeBuilder := by kernel_rfl
  liesBuilder := by kernel_rfl
  t5 := Tryz.underlying5
  a5 := Tryz.isAgg5
  z5 := Tryz.sizeOf5
  v5 := Tryz.zeroValue5
  infoByte := by kernel_rfl
  cellsByte := by kernel_rfl
  sizeByte := by kernel_rfl
  neB5 := by decide
theorem bString (B b : Nat) (l : List UInt8) (w : World) (h : Lib.IsBuilder 94 5 B b (Lib.byteCells l) w) (h0 : l ≠ []) :
    Calls Tryz.prog 43 #[.pointer (some ⟨b, 0, none⟩)] w fun e w' => e = .returned (.string ⟨l.toArray⟩) ∧ Below B w w' := Any.Builder_String Tryz.lays169 bx169 B b l w h h0
shelf_lay Lays.n105 Nm 105 at Tryz as Tryz.lays105
theorem bx105 : Builder.Extra Tryz.prog Tryz.lays105_ren where
  sizeBuilder := by kernel_rfl
  liesBuilder := by kernel_rfl
  t5 := Tryz.underlying5
  a5 := Tryz.isAgg5
  z5 := Tryz.sizeOf5
  v5 := Tryz.zeroValue5
  infoByte := by kernel_rfl
  cellsByte := by kernel_rfl
  sizeByte := by kernel_rfl
  neB5 := by decide
theorem rep0 (c : Nat) : Lib.repeatL [48] c = List.replicate c 48 := by
  induction c with
  | zero => rfl
  | succ c ih => rw [Lib.repeatL, ih, List.replicate_succ]; rfl
theorem sRepeat (c : Nat) (w : World) (hc : c ≤ 3) :
    Calls Tryz.prog 42 #[.string ⟨#[48]⟩, .int .i64 c] w fun e w' => e = .returned (.string ⟨(List.replicate c 48).toArray⟩) ∧ Below w.heap.size w w' := by
  have := Any.strings_Repeat Tryz.lays105 bx105 ⟨#[48]⟩ c w (by omega) (by show 1 * c ≤ _; omega)
  rw [← rep0]
  exact this
theorem bWrite (B b : Nat) (bs : List Value) (s : ByteArray) (w : World) (h : Lib.IsBuilder 94 5 B b bs w) (hlen : bs.length + s.size ≤ 140737488355328) (hBw : B ≤ w.heap.size) :
    Calls Tryz.prog 41 #[.pointer (some ⟨b, 0, none⟩), .string s] w fun e w' => e = .returned (.tuple #[.int .i64 s.size, .nilIface]) ∧ (Lib.BuilderAt 94 5 B b (.pointer (some ⟨b, 0, none⟩)) (bs ++ Lib.strCells s) w' ∧ Below B w w') := Any.Builder_WriteString { Tryz.lays105 with } bx105 B b bs s w h hlen hBw
shelf_lay LaysM.n171 Nm 171 at Tryz as Tryz.lays171
theorem tab_grown {w w' : World} {zs : List Int} {s : String} {k : IntKind} (h : Lib.TabIs Tryz.prog w s k zs) (hb : Below w.heap.size w w') : Lib.TabIs Tryz.prog w' s k zs := by
  unfold Lib.TabIs World.var? at h ⊢
  cases hg : Tryz.prog.globalNamed s with
  | none => rw [hg] at h; exact h
  | some g =>
    rw [hg] at h
    simp only [Option.bind_some] at h ⊢
    have hlt : g < w.heap.size := by
      rcases Nat.lt_or_ge g w.heap.size with h' | h'
      · exact h'
      · rw [Array.getElem?_eq_none h'] at h; cases h
    rw [hb.block g hlt]; exact h
/-- The table of powers lies as the program laid it. -/
def Tab (w : World) : Prop := Lib.TabIs Tryz.prog w "internal/strconv.uint64pow10" .u64 Lib.pow10Tab
theorem sItoa (n : Nat) (hn : n ≤ 9223372036854775807) (w : World) (h : Tab w) : Calls Tryz.prog 40 #[.int .i64 n] w fun e w' => e = .returned (.string ⟨(Lib.decDigits n).toArray⟩) ∧ Below w.heap.size w w' := by
  refine (Any.strconv_Itoa Tryz.lays171 n (by omega) (by omega) w h).mono ?_
  rintro e w' ⟨rfl, k, os, rfl⟩
  exact ⟨by rw [Lib.itoa_nonneg], Lib.below_grow _ w (Nat.le_refl _) k os⟩
theorem Tab.below {w w' : World} (h : Tab w) (hb : Below w.heap.size w w') : Tab w' := tab_grown h hb
end Go.Proofs.YtbmlkpgagbhblaaGreatDoor

/- A range of cells of a block. -/
namespace Go.Proofs.YtbmlkpgagbhblaaGreatDoor
open Go.RowKit

theorem range_of_row {w : World} {g o : Nat} {cs : List Value} {cur : Array Value} {t : TypeId} {fr : Nat × Nat} (hg : w.heap[g]? = some (.cells cur t fr)) (h : ∀ j v, cs[j]? = some v → cur[o + j]? = some v) : w.rangeAt g o cs := fun j v hj => by
  rw [cell_of_row w g _ cur t fr hg]; exact h j v hj
end Go.Proofs.YtbmlkpgagbhblaaGreatDoor
