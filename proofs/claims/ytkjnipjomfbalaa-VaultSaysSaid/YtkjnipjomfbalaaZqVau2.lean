/- Package vault: place, Find, replace, add. -/
import Derived.Test.YtkjnipjomfbalaaZqVau1
import Derived.Test.YtkjnipjomfbalaaZqResC
import Derived.Shelf.SlicesQ.IndexFunc
import Derived.Shelf.SlGeneric
import Derived.Ground.SlgfProg
namespace Go.Proofs.Ytkjnipjomfbalaa
open Go.RowKit Go.Maps

def Try.idxFnP_ren : Go.Shelf.Ren := ⟨fun | 6 => 55 | n => n, fun | 22 => 60 | 23 => 47 | 25 => 107 | 3 => 3 | 0 => 0 | 4 => 4 | n => n, fun | n => n⟩
theorem Try.idxFnP : Go.Proofs.SlLaysH0.n6 Try.prog Try.idxFnP_ren := {
  mixed := by kernel_rfl
  f6 := ⟨Try.f55.name, by decide, Try.func55.trans (congrArg some (by kernel_rfl))⟩
  t0 := Try.underlying0
  a0 := Try.isAgg0
  z0 := Try.sizeOf0
  v0 := Try.zeroValue0
  t3 := Try.underlying3
  a3 := Try.isAgg3
  z3 := Try.sizeOf3
  v3 := Try.zeroValue3
  t4 := Try.underlying4
  a4 := Try.isAgg4
  z4 := Try.sizeOf4
  v4 := Try.zeroValue4
  t22 := Try.underlying60
  a22 := Try.isAgg60
  z22 := Try.sizeOf60
  v22 := Try.zeroValue60
  t25 := Try.underlying107
  a25 := Try.isAgg107
  z25 := Try.sizeOf107
  v25 := Try.zeroValue107 }

def placeInt (L : List PtM) (id : Int) : Int := match placeOf L id with
  | none => -1
  | some k => (k : Int)

theorem placePred (id : Int) (b : Nat) (w : World) (hB : b < w.heap.size) (hcell : w.cell? ⟨b, 0, none⟩ = some (.int .i64 id)) :
    PredBelow Try.prog 56 #[.pointer (some ⟨b, 0, none⟩)] (fun p => .agg (ptCells p).toArray) (fun p => decide ((p.id : Int) = id)) w := fun W p hb => by
  have hc : W.cell? ⟨b, 0, none⟩ = some (.int .i64 id) := (hb.cell (p := ⟨b, 0, none⟩) hB).trans hcell
  have hBW : b < W.heap.size := Nat.lt_of_lt_of_le hB hb.size
  have hne : b ≠ W.heap.size := by omega
  show Calls Try.prog 56 #[.agg #[.int .i64 p.id, .int .i64 p.disk, .int .i64 p.size, .int .i64 p.root], .pointer (some ⟨b, 0, none⟩)] W _
  go_enter Try.func56, Try.ntmps56
  go_wp2
  go_ret
  exact ⟨congrArg (fun b => Ending.returned (.bool b)) (by rw [Bool.eq_iff_iff]; simp), hb.alloc hb.size _⟩

theorem idx_place (L : List PtM) (id : Int) : Lib.idxBy (fun _ y => decide ((y.id : Int) = id)) (L.take L.length) default = placeInt L id := by
  unfold placeInt
  cases hp : placeOf L id with
  | none =>
    have := placeOf_none hp
    refine Lib.idxBy_miss _ L L.length default fun j hj => ?_
    rw [getElem!_pos L j hj]
    simpa using this _ (List.getElem_mem hj)
  | some k =>
    unfold placeOf at hp
    obtain ⟨hk, h1, h2⟩ := List.findIdx?_eq_some_iff_getElem.1 hp
    refine Lib.idxBy_hit _ L L.length k default hk (Nat.le_refl _) ?_ fun j hj => ?_
    · rw [getElem!_pos L k hk]; exact h1
    · have hjl : j < L.length := by omega
      rw [getElem!_pos L j hjl]
      have := h2 j hj
      simpa using this

set_option maxHeartbeats 1000000 in
set_option maxRecDepth 100000 in
theorem idxFnNil (w : World) (f : Value) : Calls Try.prog 55 #[.slice none 0 0, f] w fun e w' => e = .returned (.int .i64 (-1)) ∧ w' = w := by
  go_enter Try.func55, Try.ntmps55
  go_wp2
  go_loopw [8] (fun i w' => i = .int .i64 0 ∧ w' = w) (fun _ _ => 0)
  case atStart => exact ⟨rfl, rfl⟩
  case round =>
    obtain ⟨rfl, rfl⟩ := hrel
    go_wp2
    go_ret
    exact ⟨rfl, rfl⟩

set_option maxHeartbeats 1000000 in
set_option maxRecDepth 100000 in
theorem place_any (w : World) (v x gp bp bn B : Nat) (lv : Value) (V : VauM) (id : Int) (h : VauAt w v x gp bp bn B lv V) (hV : V.Ok) :
    Calls Try.prog 35 #[.pointer (some ⟨v, 0, none⟩), .int .i64 id] w fun e w' => e = .returned (.int .i64 (placeInt V.L id)) ∧ Below w.heap.size w w' := by
  have hl6 := hV.len
  have hp := h.pts
  have hb1 := (Below.refl w.heap.size w).alloc (Nat.le_refl _) (.cells #[.int .i64 id] 3)
  have c1 := (h.below hb1).cell1
  rcases h.pts.2 with ⟨hlv, h0⟩ | ⟨g, cap, cur, hlv, _, hg, h1, h2, _⟩
  · have hL : V.L = [] := List.length_eq_zero_iff.1 h0
    have hpl : placeInt V.L id = -1 := by rw [hL]; rfl
    rw [hpl]
    rw [hlv] at c1
    clear hp h
    go_enter Try.func35, Try.ntmps35
    go_wp2_with fail
    ((with_reducible refine (idxFnNil _ _).mono ?_); rintro e w2 ⟨rfl, rfl⟩)
    go_wp2
    go_ret
    exact ⟨rfl, hb1⟩
  · rw [hlv] at c1 hp
    have hglt := (Array.getElem?_eq_some_iff.1 hg).1
    have eg : ∀ args w, (callFunc 56 args).run Try.prog w = .ok (.enter 56 args) w := enters_of Try.func56 (by kernel_rfl) rfl
    have hcon := AnyQ.slices_IndexFunc Try.idxFnP 4 Try.isAgg47 Try.sizeOf47 ptCells (fun _ => rfl) (fun p => decide ((p.id : Int) = id)) 56 #[.pointer (some ⟨w.heap.size, 0, none⟩)] eg g 0 V.L.length cap V.L (w.alloc (.cells #[.int .i64 id] 3))
      (placePred id w.heap.size _ (by simp) (by simp)) (Nat.le_refl _) (by omega) (by simp; omega) (fun j hj i u hi => by
        have hi4 : i < 4 := by have := (List.getElem?_eq_some_iff.1 hi).1; simpa [ptCells] using this
        rw [getElem!_pos V.L j hj] at hi
        refine Lib.cell?_alloc_some _ ?_
        rw [Nat.zero_add, hp.cellAt _ (by omega), pCells_at _ _ _ hj hi4]
        exact hi)
    rw [idx_place] at hcon
    change Calls Try.prog 55 _ _ _ at hcon
    generalize placeInt V.L id = r at hcon ⊢
    generalize V.L.length = n at *
    have HCON := Lib.hid hcon
    clear hp h hcon
    go_enter Try.func35, Try.ntmps35
    go_wp2_with fail
    ((with_reducible refine HCON.out.mono ?_); rintro e w2 ⟨rfl, hb2⟩)
    go_wp2
    go_ret
    exact ⟨rfl, belowThen hb1 hb2⟩

theorem Try.infoPtS : (Try.prog.info? 47).map (·.size) = some 4 := by kernel_rfl
/-- A result that lies in a row, and one that does not. -/
theorem find_no (w : World) (v x gp bp bn B : Nat) (lv : Value) (V : VauM) (id : Int) (h : VauAt w v x gp bp bn B lv V) (hV : V.Ok) (hp : placeOf V.L id = none) :
    Calls Try.prog 16 #[.pointer (some ⟨v, 0, none⟩), .int .i64 id] w fun e w' => e = .returned (.tuple #[.agg #[.int .i64 0, .int .i64 0, .int .i64 0, .int .i64 0], .bool false]) ∧ Below w.heap.size w w' := by
  have b1 := (Below.refl w.heap.size w).alloc (Nat.le_refl _) (.cells #[.int .i64 0, .int .i64 0, .int .i64 0, .int .i64 0] 47)
  have e1 := heap_alloc_new w (.cells #[.int .i64 0, .int .i64 0, .int .i64 0, .int .i64 0] 47)
  have hs1 : w.heap.size < (w.alloc (.cells #[.int .i64 0, .int .i64 0, .int .i64 0, .int .i64 0] 47)).heap.size := (Array.getElem?_eq_some_iff.1 e1).1
  have hc := place_any _ v x gp bp bn B lv V id (h.below b1) hV
  rw [show placeInt V.L id = -1 by unfold placeInt; rw [hp]] at hc
  have HC := Lib.hid hc
  clear hc
  go_enter Try.func16, Try.ntmps16
  go_wp2_with fail
  ((with_reducible refine HC.out.mono ?_); rintro e w2 ⟨rfl, hb2⟩)
  have r2 := (hb2.block _ hs1).trans e1
  have hb3 := belowThen b1 hb2
  obtain ⟨gz, hgz⟩ : ∃ gz, w.heap.size = gz := ⟨_, rfl⟩
  rw [hgz] at r2 ⊢
  go_wp2_with ((with_reducible refine isStore 47 ?_); refine wpList_store_at rfl 47 _ _ rfl gz 0 4 rfl 47 _ #[.int .i64 0, .int .i64 0, .int .i64 0, .int .i64 0] rfl r2 Try.infoPtS (by simp) rfl (by simp [Value.oneCell']) _ (splice4 _ _ _ _ _ _ _ _) ?_)
  refine bodyPost_ret (results_cell_tmp rfl _ _ gz 47 #[.int .i64 0, .int .i64 0, .int .i64 0, .int .i64 0] (0, 0) _ rfl (setRow_heap _ _ _ _ _ _ r2) Try.underlying47 rfl Try.infoPtS (.bool false) rfl) rfl ⟨rfl, ?_⟩
  exact below_row hb3 (by omega) _

set_option maxRecDepth 100000 in
theorem find_yes (w : World) (v x gp bp bn B : Nat) (lv : Value) (V : VauM) (id : Int) (h : VauAt w v x gp bp bn B lv V) (hV : V.Ok) (k : Nat) (hk : k < V.L.length) (hp : placeOf V.L id = some k) (p : PtM) (hpt : V.L[k] = p) :
    Calls Try.prog 16 #[.pointer (some ⟨v, 0, none⟩), .int .i64 id] w fun e w' => e = .returned (.tuple #[.agg #[.int .i64 p.id, .int .i64 p.disk, .int .i64 p.size, .int .i64 p.root], .bool true]) ∧ Below w.heap.size w w' := by
  have b1 := (Below.refl w.heap.size w).alloc (Nat.le_refl _) (.cells #[.int .i64 0, .int .i64 0, .int .i64 0, .int .i64 0] 47)
  have e1 := heap_alloc_new w (.cells #[.int .i64 0, .int .i64 0, .int .i64 0, .int .i64 0] 47)
  have hs1 : w.heap.size < (w.alloc (.cells #[.int .i64 0, .int .i64 0, .int .i64 0, .int .i64 0] 47)).heap.size := (Array.getElem?_eq_some_iff.1 e1).1
  have hc := place_any _ v x gp bp bn B lv V id (h.below b1) hV
  rw [show placeInt V.L id = (k : Int) by unfold placeInt; rw [hp]] at hc
  have HC := Lib.hid hc
  clear hc
  obtain ⟨n, hn⟩ : ∃ n, V.L.length = n := ⟨_, rfl⟩
  have hl6 := hV.len
  have i1 : (0 : Int) ≤ (k : Int) := by omega
  have i2 : (k : Int) < (n : Int) := by omega
  have i3 : ¬ ((k : Int) < 0) := by omega
  go_enter Try.func16, Try.ntmps16
  go_wp2_with fail
  ((with_reducible refine HC.out.mono ?_); rintro e w2 ⟨rfl, hb2⟩)
  have hb3 := belowThen b1 hb2
  have h2 := h.below hb3
  have r2 := (hb2.block _ hs1).trans e1
  obtain ⟨g, c, hlv, hnc, hcm, hcell⟩ := h2.pt hk
  have c1 := h2.cell1
  rw [hpt] at hcell
  rw [hlv, hn] at c1
  have d0 : w2.cell? ⟨g, k * 4, none⟩ = some (.int .i64 p.id) := hcell 0 (by omega)
  have d1 : w2.cell? ⟨g, k * 4 + 1, none⟩ = some (.int .i64 p.disk) := hcell 1 (by omega)
  have d2 : w2.cell? ⟨g, k * 4 + 2, none⟩ = some (.int .i64 p.size) := hcell 2 (by omega)
  have d3 : w2.cell? ⟨g, k * 4 + 3, none⟩ = some (.int .i64 p.root) := hcell 3 (by omega)
  clear hcell h h2 HC
  obtain ⟨gz, hgz⟩ : ∃ gz, w.heap.size = gz := ⟨_, rfl⟩
  rw [hgz] at r2 ⊢
  go_wp2_with ((with_reducible refine isStore 47 ?_); refine wpList_store_at rfl 47 _ _ rfl gz 0 4 rfl 47 _ #[.int .i64 p.id, .int .i64 p.disk, .int .i64 p.size, .int .i64 p.root] rfl r2 Try.infoPtS (by simp) rfl (by simp [Value.oneCell']) _ (splice4 _ _ _ _ _ _ _ _) ?_)
  refine bodyPost_ret (results_cell_tmp rfl _ _ gz 47 #[.int .i64 p.id, .int .i64 p.disk, .int .i64 p.size, .int .i64 p.root] (0, 0) _ rfl (setRow_heap _ _ _ _ _ _ r2) Try.underlying47 rfl Try.infoPtS (.bool true) rfl) rfl ⟨rfl, ?_⟩
  exact below_row hb3 (by omega) _

/-- What a call leaves of a vault's index. -/
theorem replace_any (w : World) (v x gp bp bn : Nat) (X : IdxM) (root at_ : Nat) (data : ByteArray) (X' : IdxM) (n : Nat) (ne : Int) (hc : w.cell? ⟨v, 0, none⟩ = some (.pointer (some ⟨x, 0, none⟩))) (h : IdxAt w x gp bp bn 1000 X) (hr : root ≤ 24) (ha : at_ < 16) (hdata : data.size ≤ 9223372036854775807) (hS : replaceX X root at_ data = (X', n, ne)) :
    Calls Try.prog 37 #[.pointer (some ⟨v, 0, none⟩), .int .i64 root, .int .i64 at_, .string data] w (IdxRet w x gp bp bn 1011 X' (.tuple #[.int .i64 n, errV ne])) := by
  obtain ⟨X1, n1, e1, hs⟩ : ∃ a b c, setX X root at_ data = (a, b, c) := ⟨_, _, _, rfl⟩
  have hset := idxSet_any w x gp bp bn 1000 X root at_ data h (by omega) ha (by omega) hdata
  rw [hs] at hset
  have HSET := Lib.hid hset
  have HMAPS := Lib.hid h.maps
  clear hset
  go_enter Try.func37, Try.ntmps37
  go_wp2_with fail
  ((with_reducible refine HSET.out.mono ?_); rintro e w2 ⟨rfl, h2, t2⟩)
  unfold replaceX at hS
  rw [hs] at hS
  simp only at hS
  by_cases he : e1 = 0
  · subst he
    simp only [if_true] at hS
    injection hS with a1 a2
    injection a2 with a2 a3
    subst a1 a2 a3
    have hv0 : errV 0 = .nilIface := rfl
    rw [hv0]
    have c2 : w2.cell? ⟨v, 0, none⟩ = some (.pointer (some ⟨x, 0, none⟩)) := by
      have hlt := World.block_lt_of_cell? w _ hc
      rw [World.cell?_of_block (w := w) (a := ⟨v, 0, none⟩) (t2.block v hlt fun hb => ?_)]
      · exact hc
      · obtain ⟨es, c, e⟩ := HMAPS.out _ hb
        simp [World.cell?, e] at hc
    clear hv0 hc HSET
    go_wp2_with fail
    ((with_reducible refine (idxFree_any _ x gp bp bn _ X1 root h2 (by omega) (by omega)).mono ?_); rintro e w3 ⟨rfl, h3, t3⟩)
    go_wp2
    go_ret2
    exact ⟨rfl, h3, t2.trans t3⟩
  · simp only [he, if_false] at hS
    injection hS with a1 a2
    injection a2 with a2 a3
    subst a1 a2 a3
    have hv : errV e1 = .iface 81 (.int .i64 e1) := by simp [errV, he]
    have HV := Lib.hid hv
    rw [hv]
    clear hv he hc HSET
    go_wp2
    go_ret2
    exact ⟨by rw [HV.out]; rfl, h2, t2⟩
end Go.Proofs.Ytkjnipjomfbalaa
