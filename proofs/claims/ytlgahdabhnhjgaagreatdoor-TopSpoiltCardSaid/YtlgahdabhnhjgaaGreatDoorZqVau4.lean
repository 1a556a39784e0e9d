/- Package vault: Again, Drop, Read. -/
import Derived.Test.YtlgahdabhnhjgaaGreatDoorZqVauD
namespace Go.Proofs.YtlgahdabhnhjgaaGreatDoor
open Go.RowKit Go.Maps

theorem mapKept {bs : List Nat} {w w' : World} (h : Turn bs w w') (hm : ∀ b ∈ bs, ∃ es c, w.heap[b]? = some (.map es c)) {a : Addr} {v : Value} (hc : w.cell? a = some v) : w'.cell? a = some v := by
  have hlt := World.block_lt_of_cell? w a hc
  rw [World.cell?_of_block (w := w) (h.block a.block hlt fun hb => ?_)]
  · exact hc
  · obtain ⟨es, c, e⟩ := hm _ hb
    simp [World.cell?, e] at hc
theorem belowKept {w w' : World} (hb : Below w.heap.size w w') {a : Addr} {v : Value} (hc : w.cell? a = some v) : w'.cell? a = some v := (hb.cell (World.block_lt_of_cell? w a hc)).trans hc

def readErr (V : VauM) (id at_ : Int) : Int := match placeOf V.L id with
  | none => 5
  | some k => if at_ < 0 ∨ (V.L[k]!.size : Int) ≤ at_ then 1 else 0
def readText (V : VauM) (id at_ : Int) : ByteArray := match placeOf V.L id with
  | none => ByteArray.empty
  | some k => if at_ < 0 ∨ (V.L[k]!.size : Int) ≤ at_ then ByteArray.empty else V.X.get V.L[k]!.root at_.toNat

set_option maxHeartbeats 1000000 in
set_option maxRecDepth 100000 in
theorem read_any (w : World) (v x gp bp bn B : Nat) (lv : Value) (V : VauM) (id at_ : Int) (h : VauAt w v x gp bp bn B lv V) (hV : V.Ok) (s : ByteArray) (ne : Int) (hs : readText V id at_ = s) (he : readErr V id at_ = ne) :
    Calls Tryz.prog 47 #[.pointer (some ⟨v, 0, none⟩), .int .i64 id, .int .i64 at_] w fun e w' => e = .returned (.tuple #[.string s, errV ne]) ∧ Below w.heap.size w w' := by
  unfold readText at hs
  unfold readErr at he
  cases hp : placeOf V.L id with
  | none =>
    rw [hp] at hs he
    simp only at hs he
    subst hs he
    have HF := Lib.hid (find_no w v x gp bp bn B lv V id h hV hp)
    clear hp h
    go_enter Tryz.func47, Tryz.ntmps47
    go_wp2_with fail
    ((with_reducible refine HF.out.mono ?_); rintro e w2 ⟨rfl, hb2⟩)
    have b3 := (Below.refl w2.heap.size w2).alloc (Nat.le_refl _) (.cells #[.int .i64 0, .int .i64 0, .int .i64 0, .int .i64 0] 60)
    go_wp2
    go_ret2
    exact ⟨rfl, belowThen hb2 b3⟩
  | some k =>
    rw [hp] at hs he
    obtain ⟨hk, _⟩ := placeOf_some hp
    simp only [getElem!_pos V.L k hk] at hs he
    obtain ⟨p, hpt⟩ : ∃ p, V.L[k] = p := ⟨_, rfl⟩
    rw [hpt] at hs he
    have hpb := hV.pts _ (List.getElem_mem hk)
    rw [hpt] at hpb
    have HF := Lib.hid (find_yes w v x gp bp bn B lv V id h hV k hk hp p hpt)
    by_cases h1 : at_ < 0
    · rw [if_pos (.inl h1)] at hs he
      subst hs he
      have h1' : decide (at_ < 0) = true := by simpa using h1
      clear hp h hpt hpb
      go_enter Tryz.func47, Tryz.ntmps47
      go_wp2_with fail
      ((with_reducible refine HF.out.mono ?_); rintro e w2 ⟨rfl, hb2⟩)
      have b3 := (Below.refl w2.heap.size w2).alloc (Nat.le_refl _) (.cells #[.int .i64 p.id, .int .i64 p.disk, .int .i64 p.size, .int .i64 p.root] 60)
      go_wp2
      go_ret2
      exact ⟨rfl, belowThen hb2 b3⟩
    have h1' : decide (at_ < 0) = false := by simpa using h1
    by_cases h2 : (p.size : Int) ≤ at_
    · rw [if_pos (.inr h2)] at hs he
      subst hs he
      have h2' : decide ((p.size : Int) ≤ at_) = true := by simpa using h2
      clear hp h hpt hpb
      go_enter Tryz.func47, Tryz.ntmps47
      go_wp2_with fail
      ((with_reducible refine HF.out.mono ?_); rintro e w2 ⟨rfl, hb2⟩)
      have b3 := (Below.refl w2.heap.size w2).alloc (Nat.le_refl _) (.cells #[.int .i64 p.id, .int .i64 p.disk, .int .i64 p.size, .int .i64 p.root] 60)
      go_wp2
      go_ret2
      exact ⟨rfl, belowThen hb2 b3⟩
    have h2' : decide ((p.size : Int) ≤ at_) = false := by simpa using h2
    rw [if_neg (by omega)] at hs he
    subst he
    obtain ⟨i, rfl⟩ := Int.eq_ofNat_of_zero_le (show 0 ≤ at_ by omega)
    have hs' : V.X.get p.root i = s := hs
    have HG := Lib.hid (fun w' (h' : IdxAt w' x gp bp bn 1000 V.X) => idxGet_e w' x gp bp bn 1000 V.X p.root i s h' (by omega) (by omega) hs')
    clear hp hpt hs hs'
    go_enter Tryz.func47, Tryz.ntmps47
    go_wp2_with fail
    ((with_reducible refine HF.out.mono ?_); rintro e w2 ⟨rfl, hb2⟩)
    have b3 := (Below.refl w2.heap.size w2).alloc (Nat.le_refl _) (.cells #[.int .i64 p.id, .int .i64 p.disk, .int .i64 p.size, .int .i64 p.root] 60)
    have hb3 := belowThen hb2 b3
    have h3 := h.below hb3
    have c0 := h3.cell0
    have h3i := h3.idx
    have e3 := heap_alloc_new w2 (.cells #[.int .i64 p.id, .int .i64 p.disk, .int .i64 p.size, .int .i64 p.root] 60)
    have d3 : (w2.alloc (.cells #[.int .i64 p.id, .int .i64 p.disk, .int .i64 p.size, .int .i64 p.root] 60)).cell? ⟨w2.heap.size, 3, none⟩ = some (.int .i64 p.root) := cell_of_row _ _ _ _ _ _ e3
    clear HF h h3 b3 e3
    go_wp2_with fail
    generalize w2.alloc (.cells #[.int .i64 p.id, .int .i64 p.disk, .int .i64 p.size, .int .i64 p.root] 60) = W at *
    generalize w2.heap.size = gz at *
    have HK := Lib.hid (fun w' (hb : Below W.heap.size W.drew w') => show w'.cell? ⟨v, 0, none⟩ = some (.pointer (some ⟨x, 0, none⟩)) ∧ w'.cell? ⟨gz, 3, none⟩ = some (.int .i64 p.root) from ⟨belowKept (w := W.drew) hb c0, belowKept (w := W.drew) hb d3⟩)
    go_region_held3 (fun w' => w'.cell? ⟨v, 0, none⟩ = some (.pointer (some ⟨x, 0, none⟩)) ∧ w'.cell? ⟨gz, 3, none⟩ = some (.int .i64 p.root)) (first | exact ⟨c0, d3⟩ | exact HK.out _ hb4)
      (first | (go_at_call 59; refine (HG.out _ (h3i.below (Below.refl _ _).drew)).mono ?_; rintro e w4 ⟨rfl, hb4⟩))
    all_goals
      clear HK c0 d3 h3i HG
      go_wp2
      go_ret2
      exact ⟨rfl, Below.trans (b := W.drew) hb3.drew (hb4.mono hb3.size)⟩

theorem vAddS (w : World) (v x gp bp bn B : Nat) (lv : Value) (V V' : VauM) (disk size root : Nat) (h : VauAt w v x gp bp bn B lv V) (hL : V.L.length ≤ 6) (hN : V.next ≤ 1000) (hB : B ≤ w.heap.size) (ne : Int) (m : Nat) (he : addErr V = ne) (hm : (if ne = 0 then V.next else 0) = m) (hV' : addV V disk size root = V') :
    Calls Tryz.prog 61 #[.pointer (some ⟨v, 0, none⟩), .int .i64 disk, .int .i64 size, .int .i64 root] w (VauRet w v x gp bp bn B lv V' ne (.tuple #[.int .i64 m, errV ne])) := by
  subst hm hV'
  exact add_any w v x gp bp bn B lv V disk size root h hL hN hB ne he
/-- The blocks of a vault are old. -/
theorem VauAt.old {w : World} {v x gp bp bn B : Nat} {lv : Value} {V : VauM} (h : VauAt w v x gp bp bn B lv V) : ∀ b ∈ vbs v bp bn lv, b < w.heap.size := by
  intro b hb
  simp only [vbs, List.mem_cons, Option.mem_toList] at hb
  rcases hb with rfl | rfl | rfl | hb
  · exact h.lt
  · exact h.idx.pool.ltb
  · exact h.idx.ltn
  · exact (World.ownsRow.lt h.pts b hb).2
theorem two_vbs (v bp bn : Nat) (lv : Value) : ∀ b ∈ [bp, bn], b ∈ vbs v bp bn lv := by
  intro b hb
  simp only [List.mem_cons, List.not_mem_nil, or_false] at hb
  rcases hb with rfl | rfl <;> simp [vbs]

set_option maxHeartbeats 1000000 in
set_option maxRecDepth 100000 in
theorem again_any (w : World) (v x gp bp bn B : Nat) (lv : Value) (V V' : VauM) (id : Int) (h : VauAt w v x gp bp bn B lv V) (hV : V.Ok) (hB : B ≤ w.heap.size) (ne : Int) (m : Nat) (he : againErr V id = ne) (hm : (if ne = 0 then V.next else 0) = m) (hV' : againV V id = V') :
    Calls Tryz.prog 34 #[.pointer (some ⟨v, 0, none⟩), .int .i64 id] w (VauRet w v x gp bp bn B lv V' ne (.tuple #[.int .i64 m, errV ne])) := by
  cases hp : placeOf V.L id with
  | none =>
    have he' : ne = 5 := by rw [← he]; unfold againErr; rw [hp]
    subst he'
    have hm' : m = 0 := by rw [← hm]; rfl
    subst hm'
    have HF := Lib.hid (find_no w v x gp bp bn B lv V id h hV hp)
    clear hp h he hm
    go_enter Tryz.func34, Tryz.ntmps34
    go_wp2_with fail
    ((with_reducible refine HF.out.mono ?_); rintro e w2 ⟨rfl, hb2⟩)
    have b3 := (Below.refl w2.heap.size w2).alloc (Nat.le_refl _) (.cells #[.int .i64 0, .int .i64 0, .int .i64 0, .int .i64 0] 60)
    go_wp2
    go_ret2
    exact ⟨rfl, by simp, Turn.of_below (belowThen hb2 b3)⟩
  | some k =>
    obtain ⟨hk, _⟩ := placeOf_some hp
    obtain ⟨p, hpt⟩ : ∃ p, V.L[k] = p := ⟨_, rfl⟩
    have hpb := hV.pts _ (List.getElem_mem hk)
    rw [hpt] at hpb
    have he1 : addErr V = ne := by rw [← he]; unfold againErr; rw [hp]
    have HX := Lib.hid (fun h0 : ne = 0 => show V' = ⟨V.X.refN p.root, V.L ++ [⟨V.next, p.disk, p.size, p.root⟩], V.next + 1⟩ ∧ ∃ HR, HR.length ≤ 800 ∧ Inv (V.X.refN p.root) HR [] [] from by
      obtain ⟨k', hk', hp', hok, heq, _⟩ := again_good hV (he.trans h0)
      rw [hp] at hp'
      cases hp'
      rw [hpt] at heq
      exact ⟨hV'.symm.trans heq, heldOf (againV V id).L, Nat.le_trans (heldOf_len _) (by have := hok.len; omega), by have := hok.inv; rw [heq] at this ⊢; exact this⟩)
    have HF := Lib.hid (find_yes w v x gp bp bn B lv V id h hV k hk hp p hpt)
    have HA := Lib.hid (fun w' (hb : Below w.heap.size w w') => vAddS w' v x gp bp bn B lv V _ p.disk p.size p.root (h.below hb) hV.len hV.next.2 (Nat.le_trans hB hb.size) ne m he1 hm rfl)
    have HO := Lib.hid h.old
    have HM0 := Lib.hid (fun h : ne ≠ 0 => show m = 0 by rw [← hm, if_neg h])
    have hr : p.root ≤ 1000 := by omega
    clear hp hpt hpb he he1 hV' hm h
    go_enter Tryz.func34, Tryz.ntmps34
    go_wp2_with fail
    ((with_reducible refine HF.out.mono ?_); rintro e w2 ⟨rfl, hb2⟩)
    have b3 := (Below.refl w2.heap.size w2).alloc (Nat.le_refl _) (.cells #[.int .i64 p.id, .int .i64 p.disk, .int .i64 p.size, .int .i64 p.root] 60)
    have e3 := heap_alloc_new w2 (.cells #[.int .i64 p.id, .int .i64 p.disk, .int .i64 p.size, .int .i64 p.root] 60)
    have hb3 := belowThen hb2 b3
    have hs2 : w.heap.size ≤ w2.heap.size := hb2.size
    clear HF
    go_wp2_with fail
    ((with_reducible refine (HA.out _ hb3).mono ?_); rintro e w4 ⟨rfl, hv4, t4⟩)
    by_cases hne : ne = 0
    · subst hne
      obtain ⟨lv4, h4, l4⟩ := hv4 rfl
      have L4 := Lib.hid (l4.down hb3.size)
      obtain ⟨q1, HR, q2, q3⟩ := HX.out rfl
      have c0 := h4.cell0
      have r4 := (t4.block _ (Array.getElem?_eq_some_iff.1 e3).1 (fun hm => by have := HO.out _ hm; omega)).trans e3
      have d3 : w4.cell? ⟨w2.heap.size, 3, none⟩ = some (.int .i64 p.root) := cell_of_row _ _ _ _ _ _ r4
      have hv0 : errV 0 = .nilIface := rfl
      rw [hv0]
      have HS := Lib.hid (idxShare_any w4.drew x gp bp bn 1000 V.X p.root (h4.idx.below (Below.refl _ _).drew) hr (by omega))
      have HMP := Lib.hid h4.idx.maps
      have H4 := Lib.hid h4
      have T4 := Lib.hid t4
      have HB3 := Lib.hid hb3
      clear HA hv4 HX h4 t4 hv0 hb3 e3 r4 l4
      go_wp2_with fail
      generalize w2.heap.size = gz at *
      have HK := Lib.hid (fun w' (t : Turn [bp, bn] w4.drew w') => show w'.cell? ⟨v, 0, none⟩ = some (.pointer (some ⟨x, 0, none⟩)) ∧ w'.cell? ⟨gz, 3, none⟩ = some (.int .i64 p.root) from ⟨mapKept t HMP.out c0, mapKept t HMP.out d3⟩)
      go_region_held3 (fun w' => w'.cell? ⟨v, 0, none⟩ = some (.pointer (some ⟨x, 0, none⟩)) ∧ w'.cell? ⟨gz, 3, none⟩ = some (.int .i64 p.root)) (first | exact ⟨c0, d3⟩ | exact HK.out _ t5)
        (first | (go_at_call 62; refine HS.out.mono ?_; rintro e w5 ⟨rfl, h5, t5⟩))
      all_goals
        clear HK c0 d3 HS
        go_wp2
        go_ret2
        refine ⟨rfl, fun _ => ⟨lv4, ?_, L4.out⟩, (Turn.of_below HB3.out).trans (T4.out.drew.trans (t5.mono (two_vbs _ _ _ _)))⟩
        rw [q1]
        exact (H4.out.below (Below.refl _ _).drew).turned (h5.renorm q3 q2) t5
    · have hv : errV ne = .iface 93 (.int .i64 ne) := by simp [errV, hne]
      have HV := Lib.hid hv
      rw [hv]
      have HM := Lib.hid hne
      clear hv HA HX e3
      go_wp2
      go_ret2
      exact ⟨by rw [HV.out, HM0.out HM.out]; rfl, fun h0 => absurd h0 HM.out, (Turn.of_below hb3).trans t4⟩

theorem VauAt.dropped {w w3 : World} {v x gp bp bn B : Nat} {lv lv' : Value} {V : VauM} {k n : Nat} (h : VauAt w v x gp bp bn B lv V) (hg : w.grownBy w3 lv.ownBlock) (hn : (V.L.eraseIdx k).length = n) (ho : w3.ownsRow B 60 4 lv' n (pCells (V.L.eraseIdx k))) :
    VauAt (w3.setCell ⟨v, 1, none⟩ lv') v x gp bp bn B lv' ⟨V.X, V.L.eraseIdx k, V.next⟩ ∧ Turn (vbs v bp bn lv) w (w3.setCell ⟨v, 1, none⟩ lv') := by
  subst hn
  obtain ⟨r3, i3, t3⟩ := h.grown (Below.refl _ _) hg
  have s1 := heap_setCell_same w3 v 1 _ _ lv' r3
  have keep : ∀ k, k ≠ v → (w3.setCell ⟨v, 1, none⟩ lv').heap[k]? = w3.heap[k]? := fun k hk => Below.heap_setCell _ _ _ _ hk
  obtain ⟨n1, n2, n3, n4, n5⟩ := h.notMap
  have hvn : ∀ g, lv'.ownBlock = some g → g ≠ v := fun g hg' e => by
    obtain ⟨cur, hh⟩ := ownsRow_type ho hg'
    rw [e, r3] at hh
    injection hh with hh
    injection hh with _ hh _
    exact absurd hh (by decide)
  refine ⟨⟨s1, ⟨(keep x (fun e => n3 e.symm)).trans i3.row, i3.pool.keep (keep gp (fun e => n4 e.symm)) (keep bp (fun e => n1 (by simp [e]))), i3.map.keep (keep bn (fun e => n1 (by simp [e]))), i3.ne, i3.ok⟩, ownsRow_keep ho fun g hg' => keep g (hvn g hg')⟩, ?_⟩
  exact ⟨t3.os, t3.tape, t3.output, by simpa using t3.size, fun k hk hn => (keep k fun e => hn (by simp [vbs, e])).trans (t3.block k hk hn)⟩

set_option maxHeartbeats 1000000 in
set_option maxRecDepth 100000 in
theorem drop_any (w : World) (v x gp bp bn B : Nat) (lv : Value) (V V' : VauM) (id : Int) (h : VauAt w v x gp bp bn B lv V) (hV : V.Ok) (ne : Int) (he : dropErr V id = ne) (hV' : dropV V id = V') :
    Calls Tryz.prog 25 #[.pointer (some ⟨v, 0, none⟩), .int .i64 id] w (VauRet w v x gp bp bn B lv V' ne (errV ne)) := by
  have hc := place_any w v x gp bp bn B lv V id h hV
  cases hp : placeOf V.L id with
  | none =>
    have he' : ne = 5 := by rw [← he]; unfold dropErr; rw [hp]
    subst he'
    rw [show placeInt V.L id = -1 by unfold placeInt; rw [hp]] at hc
    have HC := Lib.hid hc
    clear hp h he hc
    go_enter Tryz.func25, Tryz.ntmps25
    go_wp2_with fail
    ((with_reducible refine HC.out.mono ?_); rintro e w2 ⟨rfl, hb2⟩)
    go_wp2
    go_ret
    exact ⟨rfl, by simp, Turn.of_below hb2⟩
  | some k =>
    have he' : ne = 0 := by rw [← he]; unfold dropErr; rw [hp]
    subst he'
    obtain ⟨hk, _⟩ := placeOf_some hp
    obtain ⟨p, hpt⟩ : ∃ p, V.L[k] = p := ⟨_, rfl⟩
    have hpb := hV.pts _ (List.getElem_mem hk)
    rw [hpt] at hpb
    rw [show placeInt V.L id = (k : Int) by unfold placeInt; rw [hp]] at hc
    have HX := Lib.hid (show V' = ⟨V.X.free p.root, V.L.eraseIdx k, V.next⟩ ∧ ∃ HR, HR.length ≤ 800 ∧ Inv (V.X.free p.root) HR [] [] from by
      obtain ⟨k', hk', hp', hok, heq, _⟩ := drop_good hV he
      rw [hp] at hp'
      cases hp'
      rw [hpt] at heq
      exact ⟨hV'.symm.trans heq, heldOf (dropV V id).L, Nat.le_trans (heldOf_len _) (by have := hok.len; omega), by have := hok.inv; rw [heq] at this ⊢; exact this⟩)
    have HC := Lib.hid hc
    obtain ⟨n, hn⟩ : ∃ n, V.L.length = n := ⟨_, rfl⟩
    have hl6 := hV.len
    have i1 : (0 : Int) ≤ (k : Int) := by omega
    have i2 : (k : Int) < (n : Int) := by omega
    have i3 : ¬ ((k : Int) < 0) := by omega
    have i4 : IntKind.i64.wrap ((k : Int) + 1) = (k : Int) + 1 := IntWalk.i64_in _ (by omega)
    have hr : p.root ≤ 1000 := by omega
    have HH := Lib.hid h
    clear hc hp hV' he h
    go_enter Tryz.func25, Tryz.ntmps25
    go_wp2_with fail
    ((with_reducible refine HC.out.mono ?_); rintro e w1 ⟨rfl, hb1⟩)
    have h1 := HH.out.below hb1
    obtain ⟨g, c, hlv, hnc, hcm, hcell⟩ := h1.pt hk
    have c0 := h1.cell0
    have c1 := h1.cell1
    rw [hpt] at hcell
    rw [hlv, hn] at c1
    have d3 : w1.cell? ⟨g, k * 4 + 3, none⟩ = some (.int .i64 p.root) := hcell 3 (by omega)
    have HS := Lib.hid (idxFree_any w1.drew x gp bp bn 1000 V.X p.root (h1.idx.below (Below.refl _ _).drew) hr (by omega))
    have HMP := Lib.hid h1.idx.maps
    have H1 := Lib.hid (h1.below (Below.refl _ _).drew)
    clear hcell h1 HC
    have HK := Lib.hid (fun w' (t : Turn [bp, bn] w1.drew w') => show w'.cell? ⟨v, 0, none⟩ = some (.pointer (some ⟨x, 0, none⟩)) ∧ w'.cell? ⟨v, 1, none⟩ = some (.slice (some ⟨g, 0, none⟩) n c) ∧ w'.cell? ⟨g, k * 4 + 3, none⟩ = some (.int .i64 p.root) from ⟨mapKept t HMP.out c0, mapKept t HMP.out c1, mapKept t HMP.out d3⟩)
    go_wp2_with fail
    go_region_held3 (fun w' => w'.cell? ⟨v, 0, none⟩ = some (.pointer (some ⟨x, 0, none⟩)) ∧ w'.cell? ⟨v, 1, none⟩ = some (.slice (some ⟨g, 0, none⟩) n c) ∧ w'.cell? ⟨g, k * 4 + 3, none⟩ = some (.int .i64 p.root)) (first | exact ⟨c0, c1, d3⟩ | exact HK.out _ t2)
      (first | (go_at_call 50; refine HS.out.mono ?_; rintro e w2 ⟨rfl, h2, t2⟩))
    all_goals
      have hv2 := H1.out.turned h2 t2
      have c1' := hv2.cell1
      have pts2 := hv2.pts
      simp only at pts2
      rw [hlv, hn] at c1' pts2
      have HD := Lib.hid (deletePts_any B g n c k w2 V.L hn (by omega) (by omega) pts2)
      have H2 := Lib.hid hv2
      clear c0 c1 d3 HS h2 hv2 pts2 HK
      go_wp2_with fail
      ((with_reducible refine HD.out.mono ?_); rintro e w3 ⟨rfl, ho3, hg3⟩)
      have hx := H2.out.dropped (k := k) (lv' := .slice (some ⟨g, 0, none⟩) (n - 1) c) (n := n - 1) (by rw [hlv]; exact hg3) (by simp [List.length_eraseIdx, hn]; omega) ho3
      obtain ⟨r3, _, _⟩ := H2.out.grown (Below.refl _ _) (by rw [hlv]; exact hg3)
      have d1 : w3.cell? ⟨v, 1, none⟩ = some lv := cell_of_row _ _ _ _ _ _ r3
      have f1 := frozen_of_row w3 v 1 _ _ r3
      have HZ := Lib.hid hx
      clear hx r3
      go_wp2
      go_ret
      obtain ⟨q1, HR, q2, q3⟩ := HX.out
      refine ⟨rfl, fun _ => ⟨.slice (some ⟨g, 0, none⟩) (n - 1) c, ?_, fun b hb => .inl (by rw [hlv]; exact hb)⟩, (Turn.of_below hb1).drew.trans ((t2.mono (two_vbs _ _ _ _)).trans HZ.out.2)⟩
      rw [q1]
      have z := HZ.out.1
      exact ⟨z.row, z.idx.renorm q3 q2, z.pts⟩
end Go.Proofs.YtlgahdabhnhjgaaGreatDoor
