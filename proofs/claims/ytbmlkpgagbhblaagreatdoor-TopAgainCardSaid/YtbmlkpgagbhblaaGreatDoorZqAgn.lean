/- Again: what an error leaves; what a drop of the newest point gives back. -/
import Derived.Test.YtbmlkpgagbhblaaGreatDoorZqVau4
import Derived.Test.YtbmlkpgagbhblaaGreatDoorZqFill
import Derived.Test.YtbmlkpgagbhblaaGreatDoorZqTexts
/- A small vault: closed facts. -/
namespace Go.Proofs.YtbmlkpgagbhblaaGreatDoor
open Go.RowKit Go.Maps

def vtPuts : List (Int × ByteArray) := [(2, ⟨#[120]⟩)]
def vtV : VauM := ingestV emptyVau 0 1 4 vtPuts
theorem vt_err : ingestErr emptyVau 0 1 4 vtPuts = 0 := by decide +kernel
theorem vt_ok : vtV.Ok := (ingest_good vau_empty vt_err).1
theorem vt_read : readText vtV 1 2 = ⟨#[120]⟩ := by decide +kernel
theorem vt_rerr : readErr vtV 1 2 = 0 := by decide +kernel
end Go.Proofs.YtbmlkpgagbhblaaGreatDoor

/- counterfoiltop.vaulted: a closed fact; what acts leave of a point's texts. -/
namespace Go.Proofs.YtbmlkpgagbhblaaGreatDoor
open Go.RowKit Go.Maps

set_option maxHeartbeats 1000000 in
set_option maxRecDepth 100000 in
theorem vaulted_any (w : World) : Calls Tryz.prog 4 #[] w fun e w' => e = .returned (.bool true) ∧ Below w.heap.size w w' := by
  go_enter Tryz.func4, Tryz.ntmps4
  go_wp2_with fail
  ((with_reducible refine (vauNew_any _).mono ?_); rintro e w1 ⟨v, x, gp, bp, bn, rfl, h1, hf, hb1⟩)
  have b2 := (Below.refl w1.heap.size w1).alloc (Nat.le_refl _) (.cells #[.int .i64 2, .string ⟨#[120]⟩] 54)
  have e2 := heap_alloc_new w1 (.cells #[.int .i64 2, .string ⟨#[120]⟩] 54)
  have h2 := h1.below b2
  have hb2 := belowThen hb1 b2
  have hps : PutList (w1.alloc (.cells #[.int .i64 2, .string ⟨#[120]⟩] 54)) (some ⟨w1.heap.size, 0, none⟩) vtPuts := by
    refine ⟨by decide, fun i hi => ?_⟩
    obtain rfl : i = 0 := by simp [vtPuts] at hi; omega
    exact ⟨w1.heap.size, 0, rfl, cell_of_row _ _ _ _ _ _ e2, cell_of_row _ _ _ _ _ _ e2, by show 1 ≤ maxLen; decide⟩
  have hs1 : w.heap.size ≤ w1.heap.size := hb1.size
  have hi := ingest_any _ v x gp bp bn w.heap.size (.slice none 0 0) emptyVau vtV 0 1 4 _ 1 vtPuts h2 vau_empty hb2.size hps 0 1 vt_err rfl rfl
  rw [show vtPuts.length = 1 from rfl] at hi
  have HI := Lib.hid hi
  clear hi
  have H2 := Lib.hid h2
  clear h1 hps e2 hb1 b2 h2
  go_wp2_with fail
  ((with_reducible refine HI.out.mono ?_); rintro e w3 hret)
  have hb3 := ret_below H2.out hf (Nat.le_refl _) hb2 hret
  obtain ⟨rfl, hv3, _⟩ := hret
  obtain ⟨lv3, h3, _⟩ := hv3 rfl
  have hv0 : errV 0 = .nilIface := rfl
  rw [hv0]
  have HR := Lib.hid (read_any w3 v x gp bp bn _ lv3 vtV 1 2 h3 vt_ok ⟨#[120]⟩ 0 vt_read vt_rerr)
  clear HI hv3 h3 hb2 hv0 H2
  go_wp2_with fail
  ((with_reducible refine HR.out.mono ?_); rintro e w4 ⟨rfl, hb4⟩)
  have hv0 : errV 0 = .nilIface := rfl
  rw [hv0]
  clear HR
  go_wp2
  go_ret
  exact ⟨rfl, belowThen hb3 hb4⟩

def textsK (V : VauM) (k : Nat) : List ByteArray := (List.range V.L[k]!.size).map fun i => V.X.get V.L[k]!.root i
/-- The texts of a point stay. -/
theorem texts_stay {V V' : VauM} {id : Int} {k k' : Nat} (hp : placeOf V.L id = some k) (hp' : placeOf V'.L id = some k') (hpt : ∀ hk : k < V.L.length, ∀ hk' : k' < V'.L.length, V'.L[k'] = V.L[k] ∧ ∀ i, V'.X.get V.L[k].root i = V.X.get V.L[k].root i) : textsK V' k' = textsK V k := by
  obtain ⟨hk, _⟩ := placeOf_some hp
  obtain ⟨hk', _⟩ := placeOf_some hp'
  obtain ⟨a, b⟩ := hpt hk hk'
  unfold textsK
  simp only [getElem!_pos V.L k hk, getElem!_pos V'.L k' hk', a, b]
theorem place_append {L M : List PtM} {id : Int} {k : Nat} (h : placeOf L id = some k) : placeOf (L ++ M) id = some k := by
  unfold placeOf at *
  rw [List.findIdx?_append, h]
  rfl
theorem mem_place {L : List PtM} (h : L.Pairwise fun p q => p.id < q.id) {p : PtM} (hp : p ∈ L) : ∃ k, ∃ hk : k < L.length, placeOf L p.id = some k ∧ L[k] = p := by
  obtain ⟨k, hk, rfl⟩ := List.mem_iff_getElem.1 hp
  exact ⟨k, hk, placeOf_at h hk, rfl⟩
theorem fill_stay {V : VauM} (hV : V.Ok) (m : ActM) (ps : List (Int × ByteArray)) {id : Int} {k : Nat} (hp : placeOf V.L id = some k) (hd : ¬ ((m.kind.toList == [100, 114, 111, 112]) = true ∧ m.a = id)) : ∃ k', placeOf (fillV V m ps).L id = some k' ∧ textsK (fillV V m ps) k' = textsK V k := by
  obtain ⟨hk, hid⟩ := placeOf_some hp
  have hin := heldOf_mem (List.getElem_mem hk)
  have same : ∃ k', placeOf V.L id = some k' ∧ textsK V k' = textsK V k := ⟨k, hp, rfl⟩
  unfold fillV
  split
  · split
    · rename_i he
      obtain ⟨_, _, hL, hg, _⟩ := ingest_good hV he
      have hp' : placeOf (ingestV V m.a m.b m.c ps).L id = some k := by rw [hL]; exact place_append hp
      refine ⟨k, hp', texts_stay hp hp' fun _ hk' => ⟨?_, fun i => hg _ hin i⟩⟩
      simp only [hL]
      rw [List.getElem_append_left hk]
    · exact same
  · split
    · split
      · rename_i he
        obtain ⟨k2, hk2, _, _, heq, _, hg⟩ := again_good hV he
        have hL : (againV V m.a).L = V.L ++ [⟨V.next, V.L[k2].disk, V.L[k2].size, V.L[k2].root⟩] := by rw [heq]
        have hp' : placeOf (againV V m.a).L id = some k := by rw [hL]; exact place_append hp
        refine ⟨k, hp', texts_stay hp hp' fun _ hk' => ⟨?_, fun i => hg _ hin i⟩⟩
        simp only [hL]
        rw [List.getElem_append_left hk]
      · exact same
    · split
      · rename_i hkind
        split
        · rename_i he
          obtain ⟨k2, hk2, hp2, hok, heq, hg⟩ := drop_good hV he
          obtain ⟨_, hid2⟩ := placeOf_some hp2
          have hne : k2 ≠ k := by
            intro e
            subst e
            exact hd ⟨hkind, by rw [← hid2, hid]⟩
          have hL : (dropV V m.a).L = V.L.eraseIdx k2 := by rw [heq]
          have hm : V.L[k] ∈ V.L.eraseIdx k2 := by
            rw [List.mem_eraseIdx_iff_getElem]
            exact ⟨k, hk, fun e => hne e.symm, rfl⟩
          obtain ⟨k', hk', hpl, hpt⟩ := mem_place (hV.inc.sublist (List.eraseIdx_sublist V.L k2)) hm
          rw [hid] at hpl
          have hp' : placeOf (dropV V m.a).L id = some k' := by rw [hL]; exact hpl
          refine ⟨k', hp', texts_stay hp hp' fun _ hk'' => ⟨?_, fun i => hg _ (heldOf_mem hm) i⟩⟩
          simp only [hL]
          exact hpt
        · exact same
      · exact same
end Go.Proofs.YtbmlkpgagbhblaaGreatDoor

/- Again: what an error leaves; what a drop of the newest point gives back. -/
namespace Go.Proofs.YtbmlkpgagbhblaaGreatDoor
open Go.RowKit Go.Maps

theorem free_refN {X : IdxM} {K : Nat} (h : X.N.Ok K) (r : Nat) : (X.refN r).free r = X := by
  obtain ⟨P, N⟩ := X
  simp only at h
  unfold IdxM.free releaseX IdxM.refN incN
  cases hh : hasNod N r with
  | false => simp [hh]
  | true =>
    have h1 := (hasNod_iff _ _).1 hh
    simp only [Int.toNat_natCast] at h1
    have e : hasNod (setNod N r { N r with refs := (N r).refs + 1 }) r = true := (hasNod_iff _ _).2 ⟨h1.1, h1.2.1, by simp [setNod]⟩
    have e2 : setNod N r { N r with refs := (N r).refs + 1 } r = { N r with refs := (N r).refs + 1 } := by simp [setNod]
    simp only [if_true, e, e2]
    rw [if_neg (by have := h1.2.2; omega)]
    congr 1
    funext i
    by_cases hi : i = r
    · subst hi; simp [setNod]
    · simp [setNod, hi]
theorem keysOf_congr {n : Nat} {f g : Int → Option Value} (h : ∀ m, (f m).isSome = (g m).isSome) : keysOf n f = keysOf n g := by
  unfold keysOf
  congr 1
  funext m
  exact h m
theorem nods_refN (X : IdxM) (r : Nat) : nodsOf (X.refN r).N = nodsOf X.N := by
  refine keysOf_congr fun m => ?_
  rw [nodMap_isSome, nodMap_isSome]
  unfold IdxM.refN incN
  cases hh : hasNod X.N r with
  | false => rfl
  | true =>
    have h1 := (hasNod_iff _ _).1 hh
    simp only [Int.toNat_natCast] at h1
    simp only [if_true]
    rw [Bool.eq_iff_iff, hasNod_iff, hasNod_iff]
    by_cases hi : m.toNat = r
    · subst hi; simp [setNod]; omega
    · simp [setNod, hi]

theorem drop_again {V : VauM} (hV : V.Ok) {id : Int} (he : againErr V id = 0) : ∃ k, placeOf V.L id = some k ∧ (againV V id).Ok ∧ placeOf (againV V id).L id = some k ∧ placeOf (againV V id).L V.next = some V.L.length ∧ dropErr (againV V id) V.next = 0 ∧ dropV (againV V id) V.next = ⟨V.X, V.L, V.next + 1⟩ ∧
    textsAt (againV V id) V.L.length = textsAt (againV V id) k ∧ numsOf (againV V id).X.P = numsOf V.X.P ∧ nodsOf (againV V id).X.N = nodsOf V.X.N := by
  obtain ⟨k, hk, hp, hok, heq, _⟩ := again_good hV he
  have hN : V.X.N.Ok 1000 := (hV.inv.okX (Nat.le_trans (heldOf_len _) (by have := hV.len; omega))).N
  rw [heq] at hok ⊢
  obtain ⟨p, hpt⟩ : ∃ p, V.L[k] = p := ⟨_, rfl⟩
  rw [hpt] at hok ⊢
  have hl : V.L.length < (V.L ++ [(⟨V.next, p.disk, p.size, p.root⟩ : PtM)]).length := by simp
  have hlast : (V.L ++ [(⟨V.next, p.disk, p.size, p.root⟩ : PtM)])[V.L.length]'hl = ⟨V.next, p.disk, p.size, p.root⟩ := by simp
  have hpl := placeOf_at hok.inc hl
  simp only [hlast] at hpl
  have hpk : placeOf (V.L ++ [(⟨V.next, p.disk, p.size, p.root⟩ : PtM)]) id = some k := place_append hp
  refine ⟨k, hp, hok, hpk, hpl, ?_, ?_, ?_, rfl, nods_refN _ _⟩
  · unfold dropErr; simp only [hpl]
  · unfold dropV
    simp only [hpl]
    have e1 : (V.L ++ [(⟨V.next, p.disk, p.size, p.root⟩ : PtM)])[V.L.length]! = ⟨V.next, p.disk, p.size, p.root⟩ := by rw [getElem!_pos (V.L ++ [(⟨V.next, p.disk, p.size, p.root⟩ : PtM)]) V.L.length hl, hlast]
    rw [e1]
    simp only
    rw [free_refN hN, List.eraseIdx_append_of_length_le (Nat.le_refl _)]
    simp
  · unfold textsAt
    simp only
    have hk' : k < (V.L ++ [(⟨V.next, p.disk, p.size, p.root⟩ : PtM)]).length := by simp; omega
    rw [getElem!_pos (V.L ++ [(⟨V.next, p.disk, p.size, p.root⟩ : PtM)]) V.L.length hl, hlast, getElem!_pos (V.L ++ [(⟨V.next, p.disk, p.size, p.root⟩ : PtM)]) k hk', List.getElem_append_left hk, hpt]

set_option maxHeartbeats 1000000 in
set_option maxRecDepth 100000 in
theorem add_err (w : World) (v x gp bp bn B : Nat) (lv : Value) (V : VauM) (disk size root : Nat) (h : VauAt w v x gp bp bn B lv V) (hL : V.L.length ≤ 6) (hN : V.next ≤ 1000) (ne : Int) (he : addErr V = ne) (hne : ne ≠ 0) :
    Calls Tryz.prog 24 #[.pointer (some ⟨v, 0, none⟩), .int .i64 disk, .int .i64 size, .int .i64 root] w fun e w' => e = .returned (.tuple #[.int .i64 0, errV ne]) ∧ Below w.heap.size w w' := by
  obtain ⟨A, c, hlv⟩ := ownsRow_slice h.pts
  subst hlv
  have c1 := h.cell1
  have c2 := h.cell2
  obtain ⟨n, hn⟩ : ∃ n, V.L.length = n := ⟨_, rfl⟩
  obtain ⟨t, ht⟩ : ∃ t, V.next = t := ⟨_, rfl⟩
  rw [hn] at c1 hL
  rw [ht] at c2 hN
  unfold addErr at he
  rw [hn, ht] at he
  by_cases h1 : 6 ≤ n
  · rw [if_pos (.inl h1)] at he
    subst he
    have i1 : (6 : Int) ≤ (n : Int) := by omega
    clear h
    go_enter Tryz.func24, Tryz.ntmps24
    go_wp2
    go_ret2
    exact ⟨rfl, Below.refl _ _⟩
  by_cases h2 : 999 < t
  · rw [if_pos (.inr h2)] at he
    subst he
    have i1 : ¬ ((6 : Int) ≤ (n : Int)) := by omega
    have i2 : (999 : Int) < (t : Int) := by omega
    clear h
    go_enter Tryz.func24, Tryz.ntmps24
    go_wp2
    go_ret2
    exact ⟨rfl, Below.refl _ _⟩
  rw [if_neg (by omega)] at he
  exact absurd he.symm hne

set_option maxHeartbeats 1000000 in
set_option maxRecDepth 100000 in
/-- Again, where it fails: nothing is changed. -/
theorem again_err (w : World) (v x gp bp bn B : Nat) (lv : Value) (V : VauM) (id : Int) (h : VauAt w v x gp bp bn B lv V) (hV : V.Ok) (ne : Int) (he : againErr V id = ne) (hne : ne ≠ 0) :
    Calls Tryz.prog 7 #[.pointer (some ⟨v, 0, none⟩), .int .i64 id] w fun e w' => e = .returned (.tuple #[.int .i64 0, errV ne]) ∧ Below w.heap.size w w' := by
  cases hp : placeOf V.L id with
  | none =>
    have he' : ne = 5 := by rw [← he]; unfold againErr; rw [hp]
    subst he'
    have HF := Lib.hid (find_no w v x gp bp bn B lv V id h hV hp)
    clear hp h he
    go_enter Tryz.func7, Tryz.ntmps7
    go_wp2_with fail
    ((with_reducible refine HF.out.mono ?_); rintro e w2 ⟨rfl, hb2⟩)
    have b3 := (Below.refl w2.heap.size w2).alloc (Nat.le_refl _) (.cells #[.int .i64 0, .int .i64 0, .int .i64 0, .int .i64 0] 65)
    go_wp2
    go_ret2
    exact ⟨rfl, belowThen hb2 b3⟩
  | some k =>
    obtain ⟨hk, _⟩ := placeOf_some hp
    obtain ⟨p, hpt⟩ : ∃ p, V.L[k] = p := ⟨_, rfl⟩
    have he1 : addErr V = ne := by rw [← he]; unfold againErr; rw [hp]
    have HF := Lib.hid (find_yes w v x gp bp bn B lv V id h hV k hk hp p hpt)
    have HA := Lib.hid (fun w' (hb : Below w.heap.size w w') => add_err w' v x gp bp bn B lv V p.disk p.size p.root (h.below hb) hV.len hV.next.2 ne he1 hne)
    have hv : errV ne = .iface 68 (.int .i64 ne) := by simp [errV, hne]
    rw [hv] at HA ⊢
    clear hp hpt he he1 h
    go_enter Tryz.func7, Tryz.ntmps7
    go_wp2_with fail
    ((with_reducible refine HF.out.mono ?_); rintro e w2 ⟨rfl, hb2⟩)
    have b3 := (Below.refl w2.heap.size w2).alloc (Nat.le_refl _) (.cells #[.int .i64 p.id, .int .i64 p.disk, .int .i64 p.size, .int .i64 p.root] 65)
    have hb3 := belowThen hb2 b3
    clear HF b3 hb2 hv
    go_wp2_with fail
    ((with_reducible refine (HA.out _ hb3).mono ?_); rintro e w4 ⟨rfl, hb4⟩)
    have hb5 := belowThen hb3 hb4
    clear HA hb3 hb4
    go_wp2
    go_ret2
    exact ⟨rfl, hb5⟩
end Go.Proofs.YtbmlkpgagbhblaaGreatDoor
