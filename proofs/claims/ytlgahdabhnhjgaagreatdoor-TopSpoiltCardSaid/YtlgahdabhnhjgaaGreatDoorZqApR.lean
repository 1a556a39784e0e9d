/- Which rows an application of changes may hold; what it answers. -/
import Derived.Test.YtlgahdabhnhjgaaGreatDoorZqVau4
import Derived.Test.YtlgahdabhnhjgaaGreatDoorZqFill
import Derived.Test.YtlgahdabhnhjgaaGreatDoorZqGv
import Derived.Test.YtlgahdabhnhjgaaGreatDoorZqGrow
import Derived.Test.YtlgahdabhnhjgaaGreatDoorZqImM
/- A small vault: closed facts. -/
namespace Go.Proofs.YtlgahdabhnhjgaaGreatDoor
open Go.RowKit Go.Maps

def vtPuts : List (Int × ByteArray) := [(2, ⟨#[120]⟩)]
def vtV : VauM := ingestV emptyVau 0 1 4 vtPuts
theorem vt_err : ingestErr emptyVau 0 1 4 vtPuts = 0 := by decide +kernel
theorem vt_ok : vtV.Ok := (ingest_good vau_empty vt_err).1
theorem vt_read : readText vtV 1 2 = ⟨#[120]⟩ := by decide +kernel
theorem vt_rerr : readErr vtV 1 2 = 0 := by decide +kernel
end Go.Proofs.YtlgahdabhnhjgaaGreatDoor

/- counterfoiltop.vaulted: a closed fact; what acts leave of a point's texts. -/
namespace Go.Proofs.YtlgahdabhnhjgaaGreatDoor
open Go.RowKit Go.Maps

set_option maxHeartbeats 1000000 in
set_option maxRecDepth 100000 in
theorem vaulted_any (w : World) : Calls Tryz.prog 23 #[] w fun e w' => e = .returned (.bool true) ∧ Below w.heap.size w w' := by
  go_enter Tryz.func23, Tryz.ntmps23
  go_wp2_with fail
  ((with_reducible refine (vauNew_any _).mono ?_); rintro e w1 ⟨v, x, gp, bp, bn, rfl, h1, hf, hb1⟩)
  have b2 := (Below.refl w1.heap.size w1).alloc (Nat.le_refl _) (.cells #[.int .i64 2, .string ⟨#[120]⟩] 73)
  have e2 := heap_alloc_new w1 (.cells #[.int .i64 2, .string ⟨#[120]⟩] 73)
  have h2 := h1.below b2
  have hb2 := belowThen hb1 b2
  have hps : PutList (w1.alloc (.cells #[.int .i64 2, .string ⟨#[120]⟩] 73)) (some ⟨w1.heap.size, 0, none⟩) vtPuts := by
    refine ⟨by decide, fun i hi => ?_⟩
    obtain rfl : i = 0 := by simp [vtPuts] at hi; omega
    exact ⟨w1.heap.size, 0, rfl, cell_of_row _ _ _ _ _ _ e2, cell_of_row _ _ _ _ _ _ e2, by show 1 ≤ maxLen; decide⟩
  have hs1 : w.heap.size ≤ w1.heap.size := hb1.size
  have hi := ingest_any _ v x gp bp bn w.heap.size (.slice none 0 0) emptyVau vtV 0 1 4 _ 1 vtPuts h2 vau_empty hb2.size hps 0 1 vt_err rfl rfl
  rw [show vtPuts.length = 1 from rfl] at hi
  have HI := Lib.hid hi
  clear hi
  have H2 := Lib.hid h2
  clear h1 hps e2 hb1 b2 h2
  go_wp2_with fail
  ((with_reducible refine HI.out.mono ?_); rintro e w3 hret)
  have hb3 := ret_below H2.out hf (Nat.le_refl _) hb2 hret
  obtain ⟨rfl, hv3, _⟩ := hret
  obtain ⟨lv3, h3, _⟩ := hv3 rfl
  have hv0 : errV 0 = .nilIface := rfl
  rw [hv0]
  have HR := Lib.hid (read_any w3 v x gp bp bn _ lv3 vtV 1 2 h3 vt_ok ⟨#[120]⟩ 0 vt_read vt_rerr)
  clear HI hv3 h3 hb2 hv0 H2
  go_wp2_with fail
  ((with_reducible refine HR.out.mono ?_); rintro e w4 ⟨rfl, hb4⟩)
  have hv0 : errV 0 = .nilIface := rfl
  rw [hv0]
  clear HR
  go_wp2
  go_ret
  exact ⟨rfl, belowThen hb3 hb4⟩

def textsK (V : VauM) (k : Nat) : List ByteArray := (List.range V.L[k]!.size).map fun i => V.X.get V.L[k]!.root i
/-- The texts of a point stay. -/
theorem texts_stay {V V' : VauM} {id : Int} {k k' : Nat} (hp : placeOf V.L id = some k) (hp' : placeOf V'.L id = some k') (hpt : ∀ hk : k < V.L.length, ∀ hk' : k' < V'.L.length, V'.L[k'] = V.L[k] ∧ ∀ i, V'.X.get V.L[k].root i = V.X.get V.L[k].root i) : textsK V' k' = textsK V k := by
  obtain ⟨hk, _⟩ := placeOf_some hp
  obtain ⟨hk', _⟩ := placeOf_some hp'
  obtain ⟨a, b⟩ := hpt hk hk'
  unfold textsK
  simp only [getElem!_pos V.L k hk, getElem!_pos V'.L k' hk', a, b]
theorem place_append {L M : List PtM} {id : Int} {k : Nat} (h : placeOf L id = some k) : placeOf (L ++ M) id = some k := by
  unfold placeOf at *
  rw [List.findIdx?_append, h]
  rfl
theorem mem_place {L : List PtM} (h : L.Pairwise fun p q => p.id < q.id) {p : PtM} (hp : p ∈ L) : ∃ k, ∃ hk : k < L.length, placeOf L p.id = some k ∧ L[k] = p := by
  obtain ⟨k, hk, rfl⟩ := List.mem_iff_getElem.1 hp
  exact ⟨k, hk, placeOf_at h hk, rfl⟩
theorem fill_stay {V : VauM} (hV : V.Ok) (m : ActM) (ps : List (Int × ByteArray)) {id : Int} {k : Nat} (hp : placeOf V.L id = some k) (hd : ¬ ((m.kind.toList == [100, 114, 111, 112]) = true ∧ m.a = id)) : ∃ k', placeOf (fillV V m ps).L id = some k' ∧ textsK (fillV V m ps) k' = textsK V k := by
  obtain ⟨hk, hid⟩ := placeOf_some hp
  have hin := heldOf_mem (List.getElem_mem hk)
  have same : ∃ k', placeOf V.L id = some k' ∧ textsK V k' = textsK V k := ⟨k, hp, rfl⟩
  unfold fillV
  split
  · split
    · rename_i he
      obtain ⟨_, _, hL, hg, _⟩ := ingest_good hV he
      have hp' : placeOf (ingestV V m.a m.b m.c ps).L id = some k := by rw [hL]; exact place_append hp
      refine ⟨k, hp', texts_stay hp hp' fun _ hk' => ⟨?_, fun i => hg _ hin i⟩⟩
      simp only [hL]
      rw [List.getElem_append_left hk]
    · exact same
  · split
    · split
      · rename_i he
        obtain ⟨k2, hk2, _, _, heq, _, hg⟩ := again_good hV he
        have hL : (againV V m.a).L = V.L ++ [⟨V.next, V.L[k2].disk, V.L[k2].size, V.L[k2].root⟩] := by rw [heq]
        have hp' : placeOf (againV V m.a).L id = some k := by rw [hL]; exact place_append hp
        refine ⟨k, hp', texts_stay hp hp' fun _ hk' => ⟨?_, fun i => hg _ hin i⟩⟩
        simp only [hL]
        rw [List.getElem_append_left hk]
      · exact same
    · split
      · rename_i hkind
        split
        · rename_i he
          obtain ⟨k2, hk2, hp2, hok, heq, hg⟩ := drop_good hV he
          obtain ⟨_, hid2⟩ := placeOf_some hp2
          have hne : k2 ≠ k := by
            intro e
            subst e
            exact hd ⟨hkind, by rw [← hid2, hid]⟩
          have hL : (dropV V m.a).L = V.L.eraseIdx k2 := by rw [heq]
          have hm : V.L[k] ∈ V.L.eraseIdx k2 := by
            rw [List.mem_eraseIdx_iff_getElem]
            exact ⟨k, hk, fun e => hne e.symm, rfl⟩
          obtain ⟨k', hk', hpl, hpt⟩ := mem_place (hV.inc.sublist (List.eraseIdx_sublist V.L k2)) hm
          rw [hid] at hpl
          have hp' : placeOf (dropV V m.a).L id = some k' := by rw [hL]; exact hpl
          refine ⟨k', hp', texts_stay hp hp' fun _ hk'' => ⟨?_, fun i => hg _ (heldOf_mem hm) i⟩⟩
          simp only [hL]
          exact hpt
        · exact same
      · exact same
end Go.Proofs.YtlgahdabhnhjgaaGreatDoor

/- counterfoiltop: vaulted, blocks; SameTexts. -/
namespace Go.Proofs.YtlgahdabhnhjgaaGreatDoor
open Go.RowKit Go.Maps

/-- Texts in memory of their own. -/
def TextRow (w : World) (B : Nat) (v : Value) (l : List ByteArray) : Prop := w.ownsRow B 9 1 v l.length (l.map Value.string)
theorem TextRow.below {w w' : World} {B : Nat} {v : Value} {l : List ByteArray} (h : TextRow w B v l) (hb : Below w.heap.size w w') : TextRow w' B v l := by
  unfold TextRow at *
  exact ownsRow_keep h fun g hg => hb.block g (World.ownsRow.lt h g hg).2
theorem TextRow.cells {w : World} {B : Nat} {v : Value} {l : List ByteArray} (h : TextRow w B v l) : ∃ A c, v = .slice A l.length c ∧ ∀ i, (hi : i < l.length) → ∃ g, A = some ⟨g, 0, none⟩ ∧ w.cell? ⟨g, i, none⟩ = some (.string l[i]) := by
  have h' : w.ownsRow B 9 1 v l.length (l.map Value.string) := h
  rcases h.2 with ⟨rfl, h0⟩ | ⟨g, cap, cur, rfl, _⟩
  · exact ⟨none, 0, by rw [h0], fun i hi => by omega⟩
  · refine ⟨_, _, rfl, fun i hi => ⟨g, rfl, ?_⟩⟩
    rw [h'.cellAt i (by omega)]
    simp [hi]

theorem TextRow.lower {w : World} {B B' : Nat} {v : Value} {l : List ByteArray} (h : TextRow w B v l) (hB : B' ≤ B) : TextRow w B' v l := by
  obtain ⟨h1, h2⟩ := h
  refine ⟨h1, ?_⟩
  rcases h2 with h | ⟨g', cap, cur, e, hb, r⟩
  · exact .inl h
  · exact .inr ⟨g', cap, cur, e, by omega, r⟩


def textsAt (V : VauM) (k : Nat) : List ByteArray := (List.range V.L[k]!.size).map fun i => V.X.get V.L[k]!.root i
theorem Tryz.infoStr : (Tryz.prog.info? 9).map (fun i => (i.zero, i.size, i.bytes)) = some (some (.string ByteArray.empty), 1, 16) := by kernel_rfl

theorem blocks_no (w : World) (u : Nat) (V : VauM) (id : Int) (hu : VauIn w u V) (hV : V.Ok) (hp : placeOf V.L id = none) :
    Calls Tryz.prog 29 #[.pointer (some ⟨u, 0, none⟩), .int .i64 id] w fun e w' => e = .returned (.tuple #[.slice none 0 0, .bool false]) ∧ Below w.heap.size w w' := by
  obtain ⟨x, gp, bp, bn, B, lv, h⟩ := hu
  have HF := Lib.hid (find_no w u x gp bp bn B lv V id h hV hp)
  clear hp h
  go_enter Tryz.func29, Tryz.ntmps29
  go_wp2_with fail
  ((with_reducible refine HF.out.mono ?_); rintro e w2 ⟨rfl, hb2⟩)
  have b3 := (Below.refl w2.heap.size w2).alloc (Nat.le_refl _) (.cells #[.int .i64 0, .int .i64 0, .int .i64 0, .int .i64 0] 60)
  go_wp2
  go_ret2
  exact ⟨rfl, belowThen hb2 b3⟩

set_option maxHeartbeats 1000000 in
set_option maxRecDepth 100000 in
theorem blocks_yes (w : World) (u : Nat) (V : VauM) (id : Int) (hu : VauIn w u V) (hV : V.Ok) (k : Nat) (hp : placeOf V.L id = some k) (T : List ByteArray) (hT : textsAt V k = T) :
    Calls Tryz.prog 29 #[.pointer (some ⟨u, 0, none⟩), .int .i64 id] w fun e w' => ∃ tv, e = .returned (.tuple #[tv, .bool true]) ∧ TextRow w' w.heap.size tv T ∧ Below w.heap.size w w' := by
  obtain ⟨i0, hi, hz0, hz1, hz2⟩ := info_parts Tryz.infoStr
  obtain ⟨x, gp, bp, bn, B, lv, h⟩ := hu
  obtain ⟨hk, _⟩ := placeOf_some hp
  obtain ⟨p, hpt⟩ : ∃ p, V.L[k] = p := ⟨_, rfl⟩
  have hpb := hV.pts _ (List.getElem_mem hk)
  rw [hpt] at hpb
  have hps : p.size ≤ 16 := by omega
  have hT' : T = (List.range p.size).map fun i => V.X.get p.root i := by
    rw [← hT]; unfold textsAt; rw [getElem!_pos V.L k hk, hpt]
  have HT := Lib.hid hT'
  have HF := Lib.hid (find_yes w u x gp bp bn B lv V id h hV k hk hp p hpt)
  have HR := Lib.hid (fun (j : Nat) (hj : j < p.size) (s : ByteArray) (hs : V.X.get p.root j = s) (w' : World) (hb : Below w.heap.size w w') => read_any w' u x gp bp bn B lv V id j (h.below hb) hV s 0 (by unfold readText; rw [hp]; simp only [getElem!_pos V.L k hk, hpt]; rw [if_neg (by omega)]; exact hs) (by unfold readErr; rw [hp]; simp only [getElem!_pos V.L k hk, hpt]; rw [if_neg (by omega)]))
  clear hp h hpt hpb hT hT'
  go_enter Tryz.func29, Tryz.ntmps29
  go_wp2_with fail
  ((with_reducible refine HF.out.mono ?_); rintro e w2 ⟨rfl, hb2⟩)
  have b3 := (Below.refl w2.heap.size w2).alloc (Nat.le_refl _) (.cells #[.int .i64 p.id, .int .i64 p.disk, .int .i64 p.size, .int .i64 p.root] 60)
  have e3 := heap_alloc_new w2 (.cells #[.int .i64 p.id, .int .i64 p.disk, .int .i64 p.size, .int .i64 p.root] 60)
  have d2 : (w2.alloc (.cells #[.int .i64 p.id, .int .i64 p.disk, .int .i64 p.size, .int .i64 p.root] 60)).cell? ⟨w2.heap.size, 2, none⟩ = some (.int .i64 p.size) := cell_of_row _ _ _ _ _ _ e3
  have hb3 := belowThen hb2 b3
  have hs2 : w.heap.size ≤ w2.heap.size := hb2.size
  have hW : w2.heap.size < (w2.alloc (.cells #[.int .i64 p.id, .int .i64 p.disk, .int .i64 p.size, .int .i64 p.root] 60)).heap.size := (Array.getElem?_eq_some_iff.1 e3).1
  clear HF b3 e3 hb2
  go_wp2
  generalize w2.alloc (.cells #[.int .i64 p.id, .int .i64 p.disk, .int .i64 p.size, .int .i64 p.root] 60) = W at *
  generalize w2.heap.size = gz at *
  go_loopw [8, 9] (fun tv i w' => ∃ j : Nat, j ≤ p.size ∧ i = .int .i64 j ∧ TextRow w' W.heap.size tv ((List.range j).map fun i => V.X.get p.root i) ∧ Below W.heap.size W w') (fun _ i _ => 16 - (intOf i).toNat)
  case atStart => exact ⟨0, Nat.zero_le _, rfl, World.ownsRow_nil _ _ _ _, Below.refl _ _⟩
  case round =>
    obtain ⟨j, hj, rfl, hO, hb⟩ := hrel
    have c2 := belowKept hb d2
    by_cases hlt : j < p.size
    · obtain ⟨s, hs⟩ : ∃ s, V.X.get p.root j = s := ⟨_, rfl⟩
      have HRJ := Lib.hid (HR.out j hlt s hs wr (hb3.trans (hb.mono hb3.size)))
      have HL := Lib.hid (show ((List.range (j + 1)).map fun i => V.X.get p.root i) = ((List.range j).map fun i => V.X.get p.root i) ++ [s] by rw [List.range_succ, List.map_append, ← hs]; rfl)
      have hlen : ((List.range j).map fun i => V.X.get p.root i).length = j := by simp
      generalize (List.range j).map (fun i => V.X.get p.root i) = R at *
      have i1 : (j : Int) < (p.size : Int) := by omega
      have hsz := hb.size
      clear hs HR
      go_wp2_with fail
      ((with_reducible refine HRJ.out.mono ?_); rintro e w4 ⟨rfl, hb4⟩)
      have hv0 : errV 0 = .nilIface := rfl
      rw [hv0]
      have hO4 := hO.below hb4
      have hbb := belowThen hb hb4
      have hsz4 := hbb.size
      obtain ⟨A, c, hv, _⟩ := hO4.cells
      have ho4 := hO4
      unfold TextRow at ho4
      rw [hlen] at hv ho4
      subst hv
      clear hv0 HRJ hO hO4 c2 hb4
      go_wp2_with (at_builtin; refine wpList_append_own _ rfl _ _ 68 rfl W.heap.size 9 i0 (.string ByteArray.empty) 1 16 Tryz.underlying68 hi hz0 hz1 hz2 rfl (by decide) (.slice A j c) j (R.map Value.string) rfl (World.ownsRow.alloc ho4 _) ⟨w4.heap.size, 0, none⟩ 1 1 [.string s] rfl rfl (cell_one_new _ _ _) (by simp [Value.oneCell']) (by unfold maxLen; omega) (by omega) (by simp; omega) ?_; intro v' w5 hown' hg5 hnil5)
      go_wp2
      go_roundw
      case rel => exact ⟨j + 1, hlt, by go_num, by rw [HL.out]; unfold TextRow; simpa [hlen] using hown', (hbb.alloc hsz4 _).grown hg5 (by simp; omega) (fun b hb' => (World.ownsRow.lt ho4 b hb').1)⟩
      case measure => simp [intOf]; omega
    · obtain rfl : j = p.size := by omega
      have i1 : ¬ ((p.size : Int) < (p.size : Int)) := by omega
      go_wp2
      go_ret2
      exact ⟨_, rfl, by rw [HT.out]; exact hO.lower hb3.size, hb3.trans (hb.mono hb3.size)⟩
end Go.Proofs.YtlgahdabhnhjgaaGreatDoor

/- LightChanges, and what it says of each change. -/
namespace Go.Proofs.YtlgahdabhnhjgaaGreatDoor
open Go.RowKit

def LightS (w : World) (l : List Ch) (most : Int) (e : Ending) (w' : World) : Prop := ∃ r, e = .returned (.bool r) ∧ (r = true → (l.length : Int) ≤ most ∧ ∀ x ∈ l, x.key.size ≤ 20 ∧ x.val.size ≤ 60) ∧ Below w.heap.size w w'

set_option maxHeartbeats 400000 in
theorem lightChsS_any (A : Option Addr) (l : List Ch) (c : Nat) (most : Int) (w : World) (hm : l.length ≤ maxLen) (hA : ChsAt w A l) :
    Calls Tryz.prog 8 #[.slice A l.length c, .int .i64 most] w (LightS w l most) := by
  unfold maxLen at hm
  go_enter Tryz.func8, Tryz.ntmps8
  by_cases h0 : most < (l.length : Int)
  · go_wp2
    go_ret
    exact ⟨_, rfl, by simp, Below.refl _ _⟩
  · go_wp2
    go_loopw [5] (fun i w' => ∃ k : Nat, k ≤ l.length ∧ i = .int .i64 k ∧ Hid (∀ j, (hj : j < l.length) → j < k → l[j].key.size ≤ 20 ∧ l[j].val.size ≤ 60) ∧ Below w.heap.size w w') (fun i _ => l.length - (intOf i).toNat)
    case atStart => exact ⟨0, Nat.zero_le _, rfl, fun j _ hj => by omega, Below.refl _ _⟩
    case round =>
      obtain ⟨k, hk, rfl, HF, hb⟩ := hrel
      by_cases hlt : k < l.length
      · obtain ⟨b, off, rfl, hbN, h1, h2, h3, s1, s2⟩ := (hA.below hb) k hlt
        have i1 : (k : Int) < (l.length : Int) := by omega
        obtain ⟨s, hs⟩ : ∃ s, l[k].key = s := ⟨_, rfl⟩
        obtain ⟨t, ht⟩ : ∃ t, l[k].val = t := ⟨_, rfl⟩
        have HST := Lib.hid (show l[k].key = s ∧ l[k].val = t from ⟨hs, ht⟩)
        rw [hs] at h1 s1
        rw [ht] at h2 s2
        clear hs ht
        by_cases c1 : 20 < (s.size : Int)
        · go_wp2
          go_ret
          exact ⟨_, rfl, by simp, by first | exact hb | exact hb.drew | exact below_drewN hb _⟩
        · by_cases c2 : 60 < (t.size : Int)
          · go_wp2
            go_ret
            exact ⟨_, rfl, by simp, by first | exact hb | exact hb.drew | exact below_drewN hb _⟩
          · have HN := Lib.hid (show l[k].key.size ≤ 20 ∧ l[k].val.size ≤ 60 from by rw [HST.out.1, HST.out.2]; omega)
            go_wp2
            go_roundw
            case rel => exact ⟨k + 1, hlt, by go_num, (fun j hj hjk => by
              by_cases e : j = k
              · subst e; exact HN.out
              · exact HF.out j hj (by omega)), by first | exact hb | exact hb.drew | exact below_drewN hb _⟩
            case measure => simp [intOf]; omega
      · go_wp2
        go_ret
        exact ⟨_, rfl, fun _ => ⟨by omega, fun x hx => by
          obtain ⟨j, hj, rfl⟩ := List.getElem_of_mem hx
          exact HF.out j hj (by omega)⟩, hb⟩

end Go.Proofs.YtlgahdabhnhjgaaGreatDoor

/- Which rows an application of changes may hold; what it answers. -/
namespace Go.Proofs.YtlgahdabhnhjgaaGreatDoor
open Go.RowKit

theorem ap1_mem {m : List Ch} {c x : Ch} (h : x ∈ ap1 m c) : x ∈ m ∨ x = c := by
  unfold ap1 at h
  rcases List.mem_append.1 h with h | h
  · exact .inl (List.mem_filter.1 h).1
  · rcases List.mem_append.1 h with h | h
    · cases hg : c.gone <;> simp [hg] at h; exact .inr h
    · exact .inl (List.mem_filter.1 h).1
theorem apAll_mem : ∀ {l m : List Ch} {x : Ch}, x ∈ apAll m l → x ∈ m ∨ x ∈ l
  | [], _, _, h => .inl h
  | c :: l, m, x, h => by
    rcases apAll_mem (l := l) (m := ap1 m c) h with h | h
    · rcases ap1_mem h with h | h
      · exact .inl h
      · exact .inr (by simp [h])
    · exact .inr (by simp [h])
def ApplyRet (w : World) (m l : List Ch) (e : Ending) (w' : World) : Prop :=
  ∃ A c, e = .returned (.slice A (apAll m l).length c) ∧ w'.ownsRow w.heap.size 49 3 (.slice A (apAll m l).length c) (apAll m l).length (chCells (apAll m l)) ∧ Below w.heap.size w w'
end Go.Proofs.YtlgahdabhnhjgaaGreatDoor
