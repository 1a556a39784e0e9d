/- counterfoiltop: vaulted, blocks; SameTexts. -/
import Derived.Test.YtnnnmpfkpckgbaaFill
namespace Go.Proofs.Ytnnnmpfkpckgbaa
open Go.RowKit Go.Maps

/-- Texts in memory of their own. -/
def TextRow (w : World) (B : Nat) (v : Value) (l : List ByteArray) : Prop := w.ownsRow B 9 1 v l.length (l.map Value.string)
theorem TextRow.below {w w' : World} {B : Nat} {v : Value} {l : List ByteArray} (h : TextRow w B v l) (hb : Below w.heap.size w w') : TextRow w' B v l := by
  unfold TextRow at *
  exact ownsRow_keep h fun g hg => hb.block g (World.ownsRow.lt h g hg).2
theorem TextRow.cells {w : World} {B : Nat} {v : Value} {l : List ByteArray} (h : TextRow w B v l) : ∃ A c, v = .slice A l.length c ∧ ∀ i, (hi : i < l.length) → ∃ g, A = some ⟨g, 0, none⟩ ∧ w.cell? ⟨g, i, none⟩ = some (.string l[i]) := by
  have h' : w.ownsRow B 9 1 v l.length (l.map Value.string) := h
  rcases h.2 with ⟨rfl, h0⟩ | ⟨g, cap, cur, rfl, _⟩
  · exact ⟨none, 0, by rw [h0], fun i hi => by omega⟩
  · refine ⟨_, _, rfl, fun i hi => ⟨g, rfl, ?_⟩⟩
    rw [h'.cellAt i (by omega)]
    simp [hi]

theorem TextRow.lower {w : World} {B B' : Nat} {v : Value} {l : List ByteArray} (h : TextRow w B v l) (hB : B' ≤ B) : TextRow w B' v l := by
  obtain ⟨h1, h2⟩ := h
  refine ⟨h1, ?_⟩
  rcases h2 with h | ⟨g', cap, cur, e, hb, r⟩
  · exact .inl h
  · exact .inr ⟨g', cap, cur, e, by omega, r⟩

set_option maxRecDepth 100000 in
theorem sameTexts_any (w : World) (B1 B2 : Nat) (v1 v2 : Value) (l : List ByteArray) (h1 : TextRow w B1 v1 l) (h2 : TextRow w B2 v2 l) (hl : l.length ≤ 1000) :
    Calls Try.prog 23 #[v1, v2] w fun e w' => e = .returned (.bool true) ∧ Below w.heap.size w w' := by
  obtain ⟨A1, c1, rfl, k1⟩ := h1.cells
  obtain ⟨A2, c2, rfl, k2⟩ := h2.cells
  clear h1 h2
  go_enter Try.func23, Try.ntmps23
  go_wp2
  go_loopw [5] (fun i w' => ∃ k : Nat, k ≤ l.length ∧ i = .int .i64 k ∧ Below w.heap.size w w') (fun i _ => l.length - (intOf i).toNat)
  case atStart => exact ⟨0, Nat.zero_le _, rfl, Below.refl _ _⟩
  case round =>
    obtain ⟨k, hk, rfl, hb⟩ := hrel
    by_cases hlt : k < l.length
    · obtain ⟨g1, rfl, e1⟩ := k1 k hlt
      obtain ⟨g2, rfl, e2⟩ := k2 k hlt
      replace e1 := belowKept hb e1
      replace e2 := belowKept hb e2
      have i1 : (k : Int) < (l.length : Int) := by omega
      generalize l[k] = t at e1 e2
      clear k1 k2
      go_wp2
      go_quiet (fail)
      go_wp2
      go_roundw
      case rel => exact ⟨k + 1, hlt, by go_num, by first | exact hb | exact hb.drew | exact below_drewN hb _⟩
      case measure => simp [intOf]; omega
    · go_wp2
      go_ret
      exact ⟨rfl, hb⟩

def textsAt (V : VauM) (k : Nat) : List ByteArray := (List.range V.L[k]!.size).map fun i => V.X.get V.L[k]!.root i
theorem Try.infoStr : (Try.prog.info? 9).map (fun i => (i.zero, i.size, i.bytes)) = some (some (.string ByteArray.empty), 1, 16) := by kernel_rfl

theorem blocks_no (w : World) (u : Nat) (V : VauM) (id : Int) (hu : VauIn w u V) (hV : V.Ok) (hp : placeOf V.L id = none) :
    Calls Try.prog 21 #[.pointer (some ⟨u, 0, none⟩), .int .i64 id] w fun e w' => e = .returned (.tuple #[.slice none 0 0, .bool false]) ∧ Below w.heap.size w w' := by
  obtain ⟨x, gp, bp, bn, B, lv, h⟩ := hu
  have HF := Lib.hid (find_no w u x gp bp bn B lv V id h hV hp)
  clear hp h
  go_enter Try.func21, Try.ntmps21
  go_wp2_with fail
  ((with_reducible refine HF.out.mono ?_); rintro e w2 ⟨rfl, hb2⟩)
  have b3 := (Below.refl w2.heap.size w2).alloc (Nat.le_refl _) (.cells #[.int .i64 0, .int .i64 0, .int .i64 0, .int .i64 0] 88)
  go_wp2
  go_ret2
  exact ⟨rfl, belowThen hb2 b3⟩

set_option maxHeartbeats 1000000 in
set_option maxRecDepth 100000 in
theorem blocks_yes (w : World) (u : Nat) (V : VauM) (id : Int) (hu : VauIn w u V) (hV : V.Ok) (k : Nat) (hp : placeOf V.L id = some k) (T : List ByteArray) (hT : textsAt V k = T) :
    Calls Try.prog 21 #[.pointer (some ⟨u, 0, none⟩), .int .i64 id] w fun e w' => ∃ tv, e = .returned (.tuple #[tv, .bool true]) ∧ TextRow w' w.heap.size tv T ∧ Below w.heap.size w w' := by
  obtain ⟨i0, hi, hz0, hz1, hz2⟩ := info_parts Try.infoStr
  obtain ⟨x, gp, bp, bn, B, lv, h⟩ := hu
  obtain ⟨hk, _⟩ := placeOf_some hp
  obtain ⟨p, hpt⟩ : ∃ p, V.L[k] = p := ⟨_, rfl⟩
  have hpb := hV.pts _ (List.getElem_mem hk)
  rw [hpt] at hpb
  have hps : p.size ≤ 16 := by omega
  have hT' : T = (List.range p.size).map fun i => V.X.get p.root i := by
    rw [← hT]; unfold textsAt; rw [getElem!_pos V.L k hk, hpt]
  have HT := Lib.hid hT'
  have HF := Lib.hid (find_yes w u x gp bp bn B lv V id h hV k hk hp p hpt)
  have HR := Lib.hid (fun (j : Nat) (hj : j < p.size) (s : ByteArray) (hs : V.X.get p.root j = s) (w' : World) (hb : Below w.heap.size w w') => read_any w' u x gp bp bn B lv V id j (h.below hb) hV s 0 (by unfold readText; rw [hp]; simp only [getElem!_pos V.L k hk, hpt]; rw [if_neg (by omega)]; exact hs) (by unfold readErr; rw [hp]; simp only [getElem!_pos V.L k hk, hpt]; rw [if_neg (by omega)]))
  clear hp h hpt hpb hT hT'
  go_enter Try.func21, Try.ntmps21
  go_wp2_with fail
  ((with_reducible refine HF.out.mono ?_); rintro e w2 ⟨rfl, hb2⟩)
  have b3 := (Below.refl w2.heap.size w2).alloc (Nat.le_refl _) (.cells #[.int .i64 p.id, .int .i64 p.disk, .int .i64 p.size, .int .i64 p.root] 88)
  have e3 := heap_alloc_new w2 (.cells #[.int .i64 p.id, .int .i64 p.disk, .int .i64 p.size, .int .i64 p.root] 88)
  have d2 : (w2.alloc (.cells #[.int .i64 p.id, .int .i64 p.disk, .int .i64 p.size, .int .i64 p.root] 88)).cell? ⟨w2.heap.size, 2, none⟩ = some (.int .i64 p.size) := cell_of_row _ _ _ _ _ _ e3
  have hb3 := belowThen hb2 b3
  have hs2 : w.heap.size ≤ w2.heap.size := hb2.size
  have hW : w2.heap.size < (w2.alloc (.cells #[.int .i64 p.id, .int .i64 p.disk, .int .i64 p.size, .int .i64 p.root] 88)).heap.size := (Array.getElem?_eq_some_iff.1 e3).1
  clear HF b3 e3 hb2
  go_wp2
  generalize w2.alloc (.cells #[.int .i64 p.id, .int .i64 p.disk, .int .i64 p.size, .int .i64 p.root] 88) = W at *
  generalize w2.heap.size = gz at *
  go_loopw [8, 9] (fun tv i w' => ∃ j : Nat, j ≤ p.size ∧ i = .int .i64 j ∧ TextRow w' W.heap.size tv ((List.range j).map fun i => V.X.get p.root i) ∧ Below W.heap.size W w') (fun _ i _ => 16 - (intOf i).toNat)
  case atStart => exact ⟨0, Nat.zero_le _, rfl, World.ownsRow_nil _ _ _ _, Below.refl _ _⟩
  case round =>
    obtain ⟨j, hj, rfl, hO, hb⟩ := hrel
    have c2 := belowKept hb d2
    by_cases hlt : j < p.size
    · obtain ⟨s, hs⟩ : ∃ s, V.X.get p.root j = s := ⟨_, rfl⟩
      have HRJ := Lib.hid (HR.out j hlt s hs wr (hb3.trans (hb.mono hb3.size)))
      have HL := Lib.hid (show ((List.range (j + 1)).map fun i => V.X.get p.root i) = ((List.range j).map fun i => V.X.get p.root i) ++ [s] by rw [List.range_succ, List.map_append, ← hs]; rfl)
      have hlen : ((List.range j).map fun i => V.X.get p.root i).length = j := by simp
      generalize (List.range j).map (fun i => V.X.get p.root i) = R at *
      have i1 : (j : Int) < (p.size : Int) := by omega
      have hsz := hb.size
      clear hs HR
      go_wp2_with fail
      ((with_reducible refine HRJ.out.mono ?_); rintro e w4 ⟨rfl, hb4⟩)
      have hv0 : errV 0 = .nilIface := rfl
      rw [hv0]
      have hO4 := hO.below hb4
      have hbb := belowThen hb hb4
      have hsz4 := hbb.size
      obtain ⟨A, c, hv, _⟩ := hO4.cells
      have ho4 := hO4
      unfold TextRow at ho4
      rw [hlen] at hv ho4
      subst hv
      clear hv0 HRJ hO hO4 c2 hb4
      go_wp2_with (at_builtin; refine wpList_append_own _ rfl _ _ 50 rfl W.heap.size 9 i0 (.string ByteArray.empty) 1 16 Try.underlying50 hi hz0 hz1 hz2 rfl (by decide) (.slice A j c) j (R.map Value.string) rfl (World.ownsRow.alloc ho4 _) ⟨w4.heap.size, 0, none⟩ 1 1 [.string s] rfl rfl (cell_one_new _ _ _) (by simp [Value.oneCell']) (by unfold maxLen; omega) (by omega) (by simp; omega) ?_; intro v' w5 hown' hg5 hnil5)
      go_wp2
      go_roundw
      case rel => exact ⟨j + 1, hlt, by go_num, by rw [HL.out]; unfold TextRow; simpa [hlen] using hown', (hbb.alloc hsz4 _).grown hg5 (by simp; omega) (fun b hb' => (World.ownsRow.lt ho4 b hb').1)⟩
      case measure => simp [intOf]; omega
    · obtain rfl : j = p.size := by omega
      have i1 : ¬ ((p.size : Int) < (p.size : Int)) := by omega
      go_wp2
      go_ret2
      exact ⟨_, rfl, by rw [HT.out]; exact hO.lower hb3.size, hb3.trans (hb.mono hb3.size)⟩
end Go.Proofs.Ytnnnmpfkpckgbaa
