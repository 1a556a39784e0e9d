/- TopIngest: the walk. -/
import Derived.Test.YtnnnmpfkpckgbaaTexts
import Derived.Test.YtnnnmpfkpckgbaaVaulted
namespace Go.Proofs.Ytnnnmpfkpckgbaa
open Go.ChangeShapes Go.WideShapes Go.ChangeAt Go.RowKit Go.Maps Go.Deep

theorem open_putsL {H : Type} {enc : TypeId × Value → H} {W : World} {base : Nat} {spare : Nat → Bool} {held : Bool} {A : Option Addr} {len cap : Nat} {d : DataW H} {p : List MemPlace} (h : DataW.Trod enc Try.prog W base spare held 54 (.slice A len cap) d p) :
    ∃ ps : List (Int × ByteArray), ps.length = len ∧ PutList W A ps ∧ True := by
  obtain ⟨fuel, hf⟩ := h
  obtain ⟨A', n, c, hcs, hp⟩ := open_puts hf
  simp [Value.cells] at hcs
  obtain ⟨rfl, rfl, rfl⟩ := hcs
  obtain ⟨ps, h1, h2⟩ := hp.list
  exact ⟨ps, h1, h2, trivial⟩

/-- A row of sixteen texts. -/
def wantArr (f : Nat → ByteArray) : Array Value := #[.string (f 0), .string (f 1), .string (f 2), .string (f 3), .string (f 4), .string (f 5), .string (f 6), .string (f 7), .string (f 8), .string (f 9), .string (f 10), .string (f 11), .string (f 12), .string (f 13), .string (f 14), .string (f 15)]
theorem wantArr_at (f : Nat → ByteArray) (i : Nat) (h : i < 16) : (wantArr f)[i]? = some (.string (f i)) := by
  have e : i = 0 ∨ i = 1 ∨ i = 2 ∨ i = 3 ∨ i = 4 ∨ i = 5 ∨ i = 6 ∨ i = 7 ∨ i = 8 ∨ i = 9 ∨ i = 10 ∨ i = 11 ∨ i = 12 ∨ i = 13 ∨ i = 14 ∨ i = 15 := by omega
  rcases e with rfl | rfl | rfl | rfl | rfl | rfl | rfl | rfl | rfl | rfl | rfl | rfl | rfl | rfl | rfl | rfl <;> rfl
theorem wantArr_set (f : Nat → ByteArray) (j : Nat) (s : ByteArray) (h : j < 16) : (wantArr f).setIfInBounds j (.string s) = wantArr fun i => if i = j then s else f i := by
  have e : j = 0 ∨ j = 1 ∨ j = 2 ∨ j = 3 ∨ j = 4 ∨ j = 5 ∨ j = 6 ∨ j = 7 ∨ j = 8 ∨ j = 9 ∨ j = 10 ∨ j = 11 ∨ j = 12 ∨ j = 13 ∨ j = 14 ∨ j = 15 := by omega
  rcases e with rfl | rfl | rfl | rfl | rfl | rfl | rfl | rfl | rfl | rfl | rfl | rfl | rfl | rfl | rfl | rfl <;> rfl
theorem overlay_snoc : ∀ (l : List (Int × ByteArray)) (f : Nat → ByteArray) (p : Int × ByteArray) (i : Nat), overlay f (l ++ [p]) i = if (i : Int) = p.1 then p.2 else overlay f l i
  | [], _, _, _ => rfl
  | q :: l, f, p, i => overlay_snoc l (fun i => if (i : Int) = q.1 then q.2 else f i) p i
theorem overlay_congr : ∀ (l : List (Int × ByteArray)) (f g : Nat → ByteArray) (i : Nat), f i = g i → overlay f l i = overlay g l i
  | [], _, _, _, h => h
  | q :: l, f, g, i, h => overlay_congr l _ _ i (by show (if _ then _ else _) = (if _ then _ else _); rw [h])
/-- What is copied of the old texts. -/
def oldF (T : List ByteArray) (n i : Nat) : ByteArray := if i < n then (T[i]?).getD ByteArray.empty else ByteArray.empty

theorem oldF_succ (T : List ByteArray) (a : Nat) (h : a < T.length) : oldF T (a + 1) = fun i => if i = a then T[a] else oldF T a i := by
  funext i
  unfold oldF
  by_cases e : i = a
  · subst e; rw [if_pos (by omega), if_pos rfl]; simp [h]
  · rw [if_neg e]
    by_cases e2 : i < a
    · rw [if_pos (by omega), if_pos e2]
    · rw [if_neg (by omega), if_neg e2]
theorem overlay_next (f : Nat → ByteArray) (ps : List (Int × ByteArray)) (j q : Nat) (h : j < ps.length) (hq : ps[j].1 = (q : Int)) : overlay f (ps.take (j + 1)) = fun i => if i = q then ps[j].2 else overlay f (ps.take j) i := by
  funext i
  rw [List.take_succ_eq_append_getElem h, overlay_snoc, hq]
  by_cases e : i = q
  · rw [if_pos e, if_pos (by omega)]
  · rw [if_neg e, if_neg (by omega)]
/-- A store into the row. -/
theorem wantSet {w w' : World} {g : Nat} {t : TypeId} {f : Nat → ByteArray} (hg : w'.heap[g]? = some (.cells (wantArr f) t (0, 0))) (hb : Below g w w') (j : Nat) (hj : j < 16) (s : ByteArray) (f' : Nat → ByteArray) (hf : f' = fun i => if i = j then s else f i) : (w'.setCell ⟨g, j, none⟩ (.string s)).heap[g]? = some (.cells (wantArr f') t (0, 0)) ∧ Below g w (w'.setCell ⟨g, j, none⟩ (.string s)) := by
  subst hf
  refine ⟨?_, hb.os, hb.tape, hb.output, by simpa using hb.size, fun k hk => (Below.heap_setCell _ ⟨g, j, none⟩ _ k (by show k ≠ g; omega)).trans (hb.block k hk)⟩
  rw [← wantArr_set f j s hj]
  exact heap_setCell_same w' g j _ _ _ hg

set_option maxRecDepth 100000 in
theorem sameCells_any (w : World) (A1 A2 : Option Addr) (c1 c2 : Nat) (l : List ByteArray) (k1 : ∀ i, (hi : i < l.length) → ∃ g, A1 = some ⟨g, 0, none⟩ ∧ w.cell? ⟨g, i, none⟩ = some (.string l[i])) (k2 : ∀ i, (hi : i < l.length) → ∃ g, A2 = some ⟨g, 0, none⟩ ∧ w.cell? ⟨g, i, none⟩ = some (.string l[i])) (hl : l.length ≤ 1000) :
    Calls Try.prog 23 #[.slice A1 l.length c1, .slice A2 l.length c2] w fun e w' => e = .returned (.bool true) ∧ Below w.heap.size w w' := by
  go_enter Try.func23, Try.ntmps23
  go_wp2
  go_loopw [5] (fun i w' => ∃ k : Nat, k ≤ l.length ∧ i = .int .i64 k ∧ Below w.heap.size w w') (fun i _ => l.length - (intOf i).toNat)
  case atStart => exact ⟨0, Nat.zero_le _, rfl, Below.refl _ _⟩
  case round =>
    obtain ⟨k, hk, rfl, hb⟩ := hrel
    by_cases hlt : k < l.length
    · obtain ⟨g1, rfl, e1⟩ := k1 k hlt
      obtain ⟨g2, rfl, e2⟩ := k2 k hlt
      replace e1 := belowKept hb e1
      replace e2 := belowKept hb e2
      have i1 : (k : Int) < (l.length : Int) := by omega
      generalize l[k] = t at e1 e2
      clear k1 k2
      go_wp2
      go_quiet (fail)
      go_wp2
      go_roundw
      case rel => exact ⟨k + 1, hlt, by go_num, by first | exact hb | exact hb.drew | exact below_drewN hb _⟩
      case measure => simp [intOf]; omega
    · go_wp2
      go_ret
      exact ⟨rfl, hb⟩

/-- blocks, both ways. -/
def oldTexts (V : VauM) (id : Int) : List ByteArray := match placeOf V.L id with
  | none => []
  | some k => textsAt V k
theorem blocks_both (w : World) (u : Nat) (V : VauM) (id : Int) (hu : VauIn w u V) (hV : V.Ok) (T : List ByteArray) (hT : oldTexts V id = T) :
    Calls Try.prog 21 #[.pointer (some ⟨u, 0, none⟩), .int .i64 id] w fun e w' => ∃ tv b, e = .returned (.tuple #[tv, .bool b]) ∧ TextRow w' w.heap.size tv T ∧ Below w.heap.size w w' := by
  unfold oldTexts at hT
  cases hp : placeOf V.L id with
  | none =>
    rw [hp] at hT
    subst hT
    refine (blocks_no w u V id hu hV hp).mono ?_
    rintro e w' ⟨rfl, hb⟩
    exact ⟨_, _, rfl, World.ownsRow_nil _ _ _ _, hb⟩
  | some k =>
    rw [hp] at hT
    refine (blocks_yes w u V id hu hV k hp T hT).mono ?_
    rintro e w' ⟨tv, rfl, h1, hb⟩
    exact ⟨_, _, rfl, h1, hb⟩
theorem oldTexts_len {V : VauM} (hV : V.Ok) (id : Int) : (oldTexts V id).length ≤ 16 := by
  unfold oldTexts
  cases hp : placeOf V.L id with
  | none => simp
  | some k =>
    obtain ⟨hk, _⟩ := placeOf_some hp
    have := hV.pts _ (List.getElem_mem hk)
    show (textsAt V k).length ≤ 16
    unfold textsAt
    simp only [getElem!_pos V.L k hk, List.length_map, List.length_range]
    omega
theorem old_base {V : VauM} (hs : Short V) (id : Int) (size i n : Nat) (hn : n = min (oldTexts V id).length size) (hi : i < size) (h16 : size ≤ 16) : oldF (oldTexts V id) n i = baseText V id size i := by
  subst hn
  unfold oldF oldTexts baseText
  cases hp : placeOf V.L id with
  | none => simp
  | some k =>
    obtain ⟨hk, _⟩ := placeOf_some hp
    have hsh := hs _ (List.getElem_mem hk) i
    simp only [textsAt, getElem!_pos V.L k hk, List.length_map, List.length_range]
    rw [if_neg (show ¬ (i < V.L[k].size ∧ size ≤ i) by omega)]
    by_cases h : i < V.L[k].size
    · rw [if_pos (by omega)]
      simp [h]
    · rw [if_neg (by omega)]
      exact (hsh (by omega) (by omega)).symm
/-- The new point. -/
theorem new_texts {V : VauM} (hV : V.Ok) {base disk size : Int} {ps : List (Int × ByteArray)} (he : ingestErr V base disk size ps = 0) : placeOf (ingestV V base disk size ps).L V.next = some V.L.length ∧ textsAt (ingestV V base disk size ps) V.L.length = (List.range size.toNat).map fun i => overlay (baseText V base size.toNat) ps i := by
  obtain ⟨hok, _, hL, _, hov, hbd, _⟩ := ingest_good hV he
  have hk : V.L.length < (ingestV V base disk size ps).L.length := by rw [hL]; simp
  have hpt : (ingestV V base disk size ps).L[V.L.length] = ⟨V.next, disk.toNat, size.toNat, (putsX (startX V base disk size.toNat).1 (startX V base disk size.toNat).2.1 size.toNat ps).2.1⟩ := by
    simp only [hL]
    rw [List.getElem_append_right (Nat.le_refl _)]
    simp
  refine ⟨?_, ?_⟩
  · have := placeOf_at hok.inc hk
    rw [hpt] at this
    exact this
  · unfold textsAt
    simp only [getElem!_pos (ingestV V base disk size ps).L V.L.length hk, hpt]
    refine List.map_congr_left fun i hi => ?_
    exact hov i (by have := List.mem_range.1 hi; omega)

set_option maxHeartbeats 2000000 in
set_option maxRecDepth 100000 in
theorem topIngest_walk (A P : Option Addr) (cA cP : Nat) (l : List ActM) (ps : List (Int × ByteArray)) (base disk size : Int) (w : World) (hA : ActsAt w w.heap.size A l) (hP : PutList w P ps) :
    Calls Try.prog 7 #[.slice A l.length cA, .int .i64 base, .int .i64 disk, .int .i64 size, .slice P ps.length cP] w fun e w' => e = .returned (.bool true) ∧ Below w.heap.size w w' := by
  have hmm := hP.1
  unfold maxLen at hmm
  go_enter Try.func7, Try.ntmps7
  go_wp2_with fail
  ((with_reducible refine (vaulted_any _).mono ?_); rintro e w1 ⟨rfl, hb1⟩)
  have hA1 := hA.below hb1
  go_wp2_with fail
  ((with_reducible refine (filled_any _ _ _ _ hA1).mono ?_); rintro e w2 hret)
  rcases hret with ⟨rfl, hb2⟩ | ⟨u, V, rfl, hu, hV, hsh, _, hb2⟩
  · replace hb2 := belowThen hb1 hb2
    go_wp2
    go_ret
    exact ⟨rfl, hb2⟩
  replace hb2 := belowThen hb1 hb2
  clear hA1 hb1
  by_cases h24 : 24 < (ps.length : Int)
  · go_wp2
    go_ret
    exact ⟨rfl, hb2⟩
  obtain ⟨T, hT⟩ : ∃ T, oldTexts V base = T := ⟨_, rfl⟩
  have hTl : T.length ≤ 16 := by rw [← hT]; exact oldTexts_len hV base
  have HBL := Lib.hid (blocks_both w2 u V base hu hV T hT)
  have HT := Lib.hid hT
  clear hT
  go_wp2_with fail
  ((with_reducible refine HBL.out.mono ?_); rintro e w3 ⟨tv, tb, rfl, ht3, hb3⟩)
  have hu3 := hu.below hb3
  replace hb3 := belowThen hb2 hb3
  obtain ⟨x0, gp0, bp0, bn0, B0, lv0, h0⟩ := hu3
  have HC := Lib.hid (vauCopy_any w3 u x0 gp0 bp0 bn0 B0 lv0 V h0 hV)
  clear hb2 hu HBL h0
  go_wp2_with fail
  ((with_reducible refine HC.out.mono ?_); rintro e w4 ⟨v, x, gp, bp, bn, lv, rfl, h4, hf, hb4⟩)
  have hP4 := hP.below (belowThen hb3 hb4)
  obtain ⟨ne, hne⟩ : ∃ ne, ingestErr V base disk size ps = ne := ⟨_, rfl⟩
  obtain ⟨mm, hmm'⟩ : ∃ mm, (if ne = 0 then V.next else 0) = mm := ⟨_, rfl⟩
  have HI := Lib.hid (ingest_any w4 v x gp bp bn w3.heap.size lv V _ base disk size P cP ps h4 hV hb4.size hP4 ne mm hne hmm' rfl)
  have H4 := Lib.hid h4
  have HNE := Lib.hid hne
  have HMM := Lib.hid hmm'
  clear hne hmm' hP4 HC h4
  go_wp2_with fail
  ((with_reducible refine HI.out.mono ?_); rintro e w5 hret)
  have hb5 := ret_below H4.out hf (Nat.le_refl _) hb4 hret
  obtain ⟨rfl, hv5, _⟩ := hret
  have ht5 := ht3.below hb5
  replace hb5 := belowThen hb3 hb5
  clear HI hb4 ht3 hb3
  by_cases he : ne = 0
  · subst he
    have hv0 : errV 0 = .nilIface := rfl
    rw [hv0]
    obtain ⟨lv5, h5, _⟩ := hv5 rfl
    have hu5 : VauIn w5 v (ingestV V base disk size ps) := ⟨_, _, _, _, _, _, h5⟩
    have hP5 := hP.below hb5
    clear hv0 h5 hv5
    obtain ⟨_, _, _, _, _, hbd, hin⟩ := ingest_good hV HNE.out
    obtain ⟨hnp, hnt⟩ := new_texts hV HNE.out
    obtain ⟨sz, rfl⟩ := Int.eq_ofNat_of_zero_le (show 0 ≤ size by omega)
    have hsz : sz ≤ 16 := by omega
    have HIN := Lib.hid hin
    have HNP := Lib.hid hnp
    have HNT := Lib.hid hnt
    have HOK := Lib.hid (ingest_good hV HNE.out).1
    have hmm0 : mm = V.next := by rw [← HMM.out]; rfl
    subst hmm0
    obtain ⟨tA, tc, htv, hTc⟩ := ht5.cells
    subst htv
    have HTC := Lib.hid hTc
    have r6 : (w5.alloc (.cells (wantArr fun _ => ⟨#[]⟩) 29)).heap[w5.heap.size]? = some (.cells (wantArr (oldF T 0)) 29 (0, 0)) := heap_alloc_new w5 _
    have b6 := (Below.refl w5.heap.size w5).alloc (Nat.le_refl _) (.cells (wantArr fun _ => ⟨#[]⟩) 29)
    obtain ⟨n1, hn1⟩ : ∃ n1, n1 = min T.length sz := ⟨_, rfl⟩
    clear hin hnp hnt hTc ht5 hbd
    go_wp2
    go_loopw [19] (fun i w' => ∃ a : Nat, a ≤ n1 ∧ i = .int .i64 a ∧ w'.heap[w5.heap.size]? = some (.cells (wantArr (oldF T a)) 29 (0, 0)) ∧ Below w5.heap.size w5 w') (fun i _ => 16 - (intOf i).toNat)
    case atStart => exact ⟨0, Nat.zero_le _, rfl, r6, b6⟩
    case round =>
      obtain ⟨a, ha, rfl, hrow, hb⟩ := hrel
      clear r6 b6
      by_cases hlt : a < n1
      · have haT : a < T.length := by omega
        obtain ⟨tg, rfl, hc⟩ := HTC.out a haT
        have d1 := belowKept hb hc
        have HS := Lib.hid (wantSet hrow hb a (by omega) T[a] _ (oldF_succ T a haT))
        generalize T[a] = t at *
        have d2 : wr.cell? ⟨w5.heap.size, a, none⟩ = some (.string (oldF T a a)) := by rw [cell_of_row _ _ _ _ _ _ hrow]; exact wantArr_at _ a (by omega)
        have f2 := frozen_of_row wr w5.heap.size a _ _ hrow
        have i1 : (a : Int) < (T.length : Int) := by omega
        have i2 : (a : Int) < (sz : Int) := by omega
        have i3 : (a : Int) < 16 := by omega
        clear hc hrow
        go_wp2
        go_roundw
        case rel => exact ⟨a + 1, hlt, by go_num, HS.out.1, HS.out.2⟩
        case measure => simp [intOf]; omega
      · obtain rfl : a = n1 := by omega
        by_cases hTs : T.length ≤ sz
        · have i1 : ¬ ((a : Int) < (T.length : Int)) := by omega
          have HROW := Lib.hid hrow
          have HB := Lib.hid hb
          clear hrow hb
          go_wp2
          go_loopw [20] (fun i w' => ∃ j : Nat, j ≤ ps.length ∧ i = .int .i64 j ∧ w'.heap[w5.heap.size]? = some (.cells (wantArr (overlay (oldF T a) (ps.take j))) 29 (0, 0)) ∧ Below w5.heap.size w5 w') (fun i _ => ps.length - (intOf i).toNat)
          case atStart => exact ⟨0, Nat.zero_le _, rfl, HROW.out, HB.out⟩
          case round =>
            obtain ⟨j, hj, rfl, hrow, hb⟩ := hrel
            by_cases hlt : j < ps.length
            · obtain ⟨b, off, rfl, q1, q2, _⟩ := (hP5.below hb).2 j hlt
              have hpb := HIN.out ps[j] (List.getElem_mem hlt)
              obtain ⟨q, hq⟩ := Int.eq_ofNat_of_zero_le hpb.1
              have hq16 : q < 16 := by omega
              rw [hq] at q1
              have hov := overlay_next (oldF T a) ps j q hlt hq
              generalize ps[j].2 = t at q2 hov
              have i1 : (j : Int) < (ps.length : Int) := by omega
              have i3 : (q : Int) < 16 := by omega
              have i4 : (0 : Int) ≤ (q : Int) := by omega
              clear hpb hq
              go_wp2
              refine region_tail 11 (by kernel_rfl) (by kernel_rfl) ?_
              intro w2' hw2
              have hb2 : Below w5.heap.size w5 w2' := by rw [hw2]; exact hb.drew
              have hrow2 : w2'.heap[w5.heap.size]? = some (.cells (wantArr (overlay (oldF T a) (ps.take j))) 29 (0, 0)) := by rw [hw2]; exact hrow
              have q1' : w2'.cell? ⟨b, off + j * 2, none⟩ = some (.int .i64 (q : Int)) := by rw [hw2]; exact q1
              have q2' : w2'.cell? ⟨b, off + j * 2 + 1, none⟩ = some (.string t) := by rw [hw2]; exact q2
              have HS := Lib.hid (wantSet hrow2 hb2 q hq16 t _ hov)
              have d2 : w2'.cell? ⟨w5.heap.size, q, none⟩ = some (.string (overlay (oldF T a) (ps.take j) q)) := by rw [cell_of_row _ _ _ _ _ _ hrow2]; exact wantArr_at _ q hq16
              have f2 := frozen_of_row w2' w5.heap.size q _ _ hrow2
              clear hw2 hrow hb q1 q2 hov hrow2 hb2
              simp only [List.take_succ_cons, List.take_zero, List.drop_succ_cons, List.drop_zero]
              repeat still_step
              refine wpStill_nil ?_
              go_wp2
              go_roundw
              case rel => exact ⟨j + 1, hlt, by go_num, HS.out.1, HS.out.2⟩
              case measure => simp [intOf]; omega
            · obtain rfl : j = ps.length := by omega
              rw [List.take_length] at hrow
              have i1 : ¬ ((ps.length : Int) < (ps.length : Int)) := by omega
              have hu7 := hu5.below hb
              have HBN := Lib.hid (blocks_yes wr v _ V.next hu7 HOK.out _ HNP.out _ HNT.out)
              have hrlt := (Array.getElem?_eq_some_iff.1 hrow).1
              clear hu5 HROW HB
              go_wp2_with fail
              ((with_reducible refine HBN.out.mono ?_); rintro e w8 ⟨tv8, rfl, ht8, hb8⟩)
              have hrow8 := (hb8.block _ hrlt).trans hrow
              have hbb := belowThen hb hb8
              obtain ⟨tA8, tc8, htv, hk1⟩ := ht8.cells
              subst htv
              have hlenN : ((List.range ((sz : Int)).toNat).map fun i => overlay (baseText V base ((sz : Int)).toNat) ps i).length = sz := by simp
              have HSA := Lib.hid (sameCells_any w8 tA8 (some ⟨w5.heap.size, 0, none⟩) tc8 16 _ hk1 (fun i hi => ⟨_, rfl, by
                have hi' : i < sz := by simpa using hi
                rw [cell_of_row _ _ _ _ _ _ hrow8, wantArr_at _ i (by omega)]
                simp only [List.getElem_map, List.getElem_range, Int.toNat_natCast]
                rw [overlay_congr ps _ (baseText V base sz) i (by rw [← HT.out]; exact old_base hsh base sz i _ (by rw [HT.out]; omega) hi' hsz)]⟩) (by rw [hlenN]; omega))
              rw [hlenN] at HSA ⊢
              have i5 : (0 : Int) ≤ (sz : Int) := by omega
              have i6 : (sz : Int) ≤ 16 := by omega
              clear HBN hk1 ht8 hlenN
              go_wp2_with fail
              ((with_reducible refine HSA.out.mono ?_); rintro e w9 ⟨rfl, hb9⟩)
              replace hb9 := belowThen hbb hb9
              go_wp2
              go_ret
              exact ⟨rfl, belowThen hb5 hb9⟩
        · have i1 : (a : Int) < (T.length : Int) := by omega
          have i2 : ¬ ((a : Int) < (sz : Int)) := by omega
          have HROW := Lib.hid hrow
          have HB := Lib.hid hb
          clear hrow hb
          go_wp2
          go_loopw [20] (fun i w' => ∃ j : Nat, j ≤ ps.length ∧ i = .int .i64 j ∧ w'.heap[w5.heap.size]? = some (.cells (wantArr (overlay (oldF T a) (ps.take j))) 29 (0, 0)) ∧ Below w5.heap.size w5 w') (fun i _ => ps.length - (intOf i).toNat)
          case atStart => exact ⟨0, Nat.zero_le _, rfl, HROW.out, HB.out⟩
          case round =>
            obtain ⟨j, hj, rfl, hrow, hb⟩ := hrel
            by_cases hlt : j < ps.length
            · obtain ⟨b, off, rfl, q1, q2, _⟩ := (hP5.below hb).2 j hlt
              have hpb := HIN.out ps[j] (List.getElem_mem hlt)
              obtain ⟨q, hq⟩ := Int.eq_ofNat_of_zero_le hpb.1
              have hq16 : q < 16 := by omega
              rw [hq] at q1
              have hov := overlay_next (oldF T a) ps j q hlt hq
              generalize ps[j].2 = t at q2 hov
              have i1 : (j : Int) < (ps.length : Int) := by omega
              have i3 : (q : Int) < 16 := by omega
              have i4 : (0 : Int) ≤ (q : Int) := by omega
              clear hpb hq
              go_wp2
              refine region_tail 11 (by kernel_rfl) (by kernel_rfl) ?_
              intro w2' hw2
              have hb2 : Below w5.heap.size w5 w2' := by rw [hw2]; exact hb.drew
              have hrow2 : w2'.heap[w5.heap.size]? = some (.cells (wantArr (overlay (oldF T a) (ps.take j))) 29 (0, 0)) := by rw [hw2]; exact hrow
              have q1' : w2'.cell? ⟨b, off + j * 2, none⟩ = some (.int .i64 (q : Int)) := by rw [hw2]; exact q1
              have q2' : w2'.cell? ⟨b, off + j * 2 + 1, none⟩ = some (.string t) := by rw [hw2]; exact q2
              have HS := Lib.hid (wantSet hrow2 hb2 q hq16 t _ hov)
              have d2 : w2'.cell? ⟨w5.heap.size, q, none⟩ = some (.string (overlay (oldF T a) (ps.take j) q)) := by rw [cell_of_row _ _ _ _ _ _ hrow2]; exact wantArr_at _ q hq16
              have f2 := frozen_of_row w2' w5.heap.size q _ _ hrow2
              clear hw2 hrow hb q1 q2 hov hrow2 hb2
              simp only [List.take_succ_cons, List.take_zero, List.drop_succ_cons, List.drop_zero]
              repeat still_step
              refine wpStill_nil ?_
              go_wp2
              go_roundw
              case rel => exact ⟨j + 1, hlt, by go_num, HS.out.1, HS.out.2⟩
              case measure => simp [intOf]; omega
            · obtain rfl : j = ps.length := by omega
              rw [List.take_length] at hrow
              have i1 : ¬ ((ps.length : Int) < (ps.length : Int)) := by omega
              have hu7 := hu5.below hb
              have HBN := Lib.hid (blocks_yes wr v _ V.next hu7 HOK.out _ HNP.out _ HNT.out)
              have hrlt := (Array.getElem?_eq_some_iff.1 hrow).1
              clear hu5 HROW HB
              go_wp2_with fail
              ((with_reducible refine HBN.out.mono ?_); rintro e w8 ⟨tv8, rfl, ht8, hb8⟩)
              have hrow8 := (hb8.block _ hrlt).trans hrow
              have hbb := belowThen hb hb8
              obtain ⟨tA8, tc8, htv, hk1⟩ := ht8.cells
              subst htv
              have hlenN : ((List.range ((sz : Int)).toNat).map fun i => overlay (baseText V base ((sz : Int)).toNat) ps i).length = sz := by simp
              have HSA := Lib.hid (sameCells_any w8 tA8 (some ⟨w5.heap.size, 0, none⟩) tc8 16 _ hk1 (fun i hi => ⟨_, rfl, by
                have hi' : i < sz := by simpa using hi
                rw [cell_of_row _ _ _ _ _ _ hrow8, wantArr_at _ i (by omega)]
                simp only [List.getElem_map, List.getElem_range, Int.toNat_natCast]
                rw [overlay_congr ps _ (baseText V base sz) i (by rw [← HT.out]; exact old_base hsh base sz i _ (by rw [HT.out]; omega) hi' hsz)]⟩) (by rw [hlenN]; omega))
              rw [hlenN] at HSA ⊢
              have i5 : (0 : Int) ≤ (sz : Int) := by omega
              have i6 : (sz : Int) ≤ 16 := by omega
              clear HBN hk1 ht8 hlenN
              go_wp2_with fail
              ((with_reducible refine HSA.out.mono ?_); rintro e w9 ⟨rfl, hb9⟩)
              replace hb9 := belowThen hbb hb9
              go_wp2
              go_ret
              exact ⟨rfl, belowThen hb5 hb9⟩
  · have hv : errV ne = .iface 81 (.int .i64 ne) := by simp [errV, he]
    rw [hv]
    have hm0 : mm = 0 := by rw [← HMM.out, if_neg he]
    subst hm0
    have HB5 := Lib.hid hb5
    clear hv hv5 he hb5
    go_wp2
    go_ret
    exact ⟨rfl, HB5.out⟩
end Go.Proofs.Ytnnnmpfkpckgbaa
