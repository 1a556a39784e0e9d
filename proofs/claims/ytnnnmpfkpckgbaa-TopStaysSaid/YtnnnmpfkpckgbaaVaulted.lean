/- counterfoiltop.vaulted: a closed fact; what acts leave of a point's texts. -/
import Derived.Test.YtnnnmpfkpckgbaaFill
import Derived.Test.YtnnnmpfkpckgbaaVtM
namespace Go.Proofs.Ytnnnmpfkpckgbaa
open Go.RowKit Go.Maps

set_option maxHeartbeats 1000000 in
set_option maxRecDepth 100000 in
theorem vaulted_any (w : World) : Calls Try.prog 19 #[] w fun e w' => e = .returned (.bool true) ∧ Below w.heap.size w w' := by
  go_enter Try.func19, Try.ntmps19
  go_wp2_with fail
  ((with_reducible refine (vauNew_any _).mono ?_); rintro e w1 ⟨v, x, gp, bp, bn, rfl, h1, hf, hb1⟩)
  have b2 := (Below.refl w1.heap.size w1).alloc (Nat.le_refl _) (.cells #[.int .i64 2, .string ⟨#[120]⟩] 64)
  have e2 := heap_alloc_new w1 (.cells #[.int .i64 2, .string ⟨#[120]⟩] 64)
  have h2 := h1.below b2
  have hb2 := belowThen hb1 b2
  have hps : PutList (w1.alloc (.cells #[.int .i64 2, .string ⟨#[120]⟩] 64)) (some ⟨w1.heap.size, 0, none⟩) vtPuts := by
    refine ⟨by decide, fun i hi => ?_⟩
    obtain rfl : i = 0 := by simp [vtPuts] at hi; omega
    exact ⟨w1.heap.size, 0, rfl, cell_of_row _ _ _ _ _ _ e2, cell_of_row _ _ _ _ _ _ e2, by show 1 ≤ maxLen; decide⟩
  have hs1 : w.heap.size ≤ w1.heap.size := hb1.size
  have hi := ingest_any _ v x gp bp bn w.heap.size (.slice none 0 0) emptyVau vtV 0 1 4 _ 1 vtPuts h2 vau_empty hb2.size hps 0 1 vt_err rfl rfl
  rw [show vtPuts.length = 1 from rfl] at hi
  have HI := Lib.hid hi
  clear hi
  have H2 := Lib.hid h2
  clear h1 hps e2 hb1 b2 h2
  go_wp2_with fail
  ((with_reducible refine HI.out.mono ?_); rintro e w3 hret)
  have hb3 := ret_below H2.out hf (Nat.le_refl _) hb2 hret
  obtain ⟨rfl, hv3, _⟩ := hret
  obtain ⟨lv3, h3, _⟩ := hv3 rfl
  have hv0 : errV 0 = .nilIface := rfl
  rw [hv0]
  have HR := Lib.hid (read_any w3 v x gp bp bn _ lv3 vtV 1 2 h3 vt_ok ⟨#[120]⟩ 0 vt_read vt_rerr)
  clear HI hv3 h3 hb2 hv0 H2
  go_wp2_with fail
  ((with_reducible refine HR.out.mono ?_); rintro e w4 ⟨rfl, hb4⟩)
  have hv0 : errV 0 = .nilIface := rfl
  rw [hv0]
  clear HR
  go_wp2
  go_ret
  exact ⟨rfl, belowThen hb3 hb4⟩

def textsK (V : VauM) (k : Nat) : List ByteArray := (List.range V.L[k]!.size).map fun i => V.X.get V.L[k]!.root i
/-- The texts of a point stay. -/
theorem texts_stay {V V' : VauM} {id : Int} {k k' : Nat} (hp : placeOf V.L id = some k) (hp' : placeOf V'.L id = some k') (hpt : ∀ hk : k < V.L.length, ∀ hk' : k' < V'.L.length, V'.L[k'] = V.L[k] ∧ ∀ i, V'.X.get V.L[k].root i = V.X.get V.L[k].root i) : textsK V' k' = textsK V k := by
  obtain ⟨hk, _⟩ := placeOf_some hp
  obtain ⟨hk', _⟩ := placeOf_some hp'
  obtain ⟨a, b⟩ := hpt hk hk'
  unfold textsK
  simp only [getElem!_pos V.L k hk, getElem!_pos V'.L k' hk', a, b]
theorem place_append {L M : List PtM} {id : Int} {k : Nat} (h : placeOf L id = some k) : placeOf (L ++ M) id = some k := by
  unfold placeOf at *
  rw [List.findIdx?_append, h]
  rfl
theorem mem_place {L : List PtM} (h : L.Pairwise fun p q => p.id < q.id) {p : PtM} (hp : p ∈ L) : ∃ k, ∃ hk : k < L.length, placeOf L p.id = some k ∧ L[k] = p := by
  obtain ⟨k, hk, rfl⟩ := List.mem_iff_getElem.1 hp
  exact ⟨k, hk, placeOf_at h hk, rfl⟩
theorem fill_stay {V : VauM} (hV : V.Ok) (m : ActM) (ps : List (Int × ByteArray)) {id : Int} {k : Nat} (hp : placeOf V.L id = some k) (hd : ¬ ((m.kind.toList == [100, 114, 111, 112]) = true ∧ m.a = id)) : ∃ k', placeOf (fillV V m ps).L id = some k' ∧ textsK (fillV V m ps) k' = textsK V k := by
  obtain ⟨hk, hid⟩ := placeOf_some hp
  have hin := heldOf_mem (List.getElem_mem hk)
  have same : ∃ k', placeOf V.L id = some k' ∧ textsK V k' = textsK V k := ⟨k, hp, rfl⟩
  unfold fillV
  split
  · split
    · rename_i he
      obtain ⟨_, _, hL, hg, _⟩ := ingest_good hV he
      have hp' : placeOf (ingestV V m.a m.b m.c ps).L id = some k := by rw [hL]; exact place_append hp
      refine ⟨k, hp', texts_stay hp hp' fun _ hk' => ⟨?_, fun i => hg _ hin i⟩⟩
      simp only [hL]
      rw [List.getElem_append_left hk]
    · exact same
  · split
    · split
      · rename_i he
        obtain ⟨k2, hk2, _, _, heq, _, hg⟩ := again_good hV he
        have hL : (againV V m.a).L = V.L ++ [⟨V.next, V.L[k2].disk, V.L[k2].size, V.L[k2].root⟩] := by rw [heq]
        have hp' : placeOf (againV V m.a).L id = some k := by rw [hL]; exact place_append hp
        refine ⟨k, hp', texts_stay hp hp' fun _ hk' => ⟨?_, fun i => hg _ hin i⟩⟩
        simp only [hL]
        rw [List.getElem_append_left hk]
      · exact same
    · split
      · rename_i hkind
        split
        · rename_i he
          obtain ⟨k2, hk2, hp2, hok, heq, hg⟩ := drop_good hV he
          obtain ⟨_, hid2⟩ := placeOf_some hp2
          have hne : k2 ≠ k := by
            intro e
            subst e
            exact hd ⟨hkind, by rw [← hid2, hid]⟩
          have hL : (dropV V m.a).L = V.L.eraseIdx k2 := by rw [heq]
          have hm : V.L[k] ∈ V.L.eraseIdx k2 := by
            rw [List.mem_eraseIdx_iff_getElem]
            exact ⟨k, hk, fun e => hne e.symm, rfl⟩
          obtain ⟨k', hk', hpl, hpt⟩ := mem_place (hV.inc.sublist (List.eraseIdx_sublist V.L k2)) hm
          rw [hid] at hpl
          have hp' : placeOf (dropV V m.a).L id = some k' := by rw [hL]; exact hpl
          refine ⟨k', hp', texts_stay hp hp' fun _ hk'' => ⟨?_, fun i => hg _ (heldOf_mem hm) i⟩⟩
          simp only [hL]
          exact hpt
        · exact same
      · exact same
end Go.Proofs.Ytnnnmpfkpckgbaa
