/- The reference's vault: Read, Again. -/
import Derived.Test.YtkjnipjomfbalaaZqRVau2
namespace Go.Proofs.Ytkjnipjomfbalaa
open Go.RowKit Go.Maps

set_option maxHeartbeats 1000000 in
set_option maxRecDepth 100000 in
theorem rread_any (w : World) (v g B : Nat) (lv : Value) (V : VauM) (id at_ : Int) (h : RVauAt w v g B lv V) (hV : V.Ok) (s : ByteArray) (ne : Int) (hs : readText V id at_ = s) (he : readErr V id at_ = ne) :
    Calls Try.prog 15 #[.pointer (some ⟨v, 0, none⟩), .int .i64 id, .int .i64 at_] w fun e w' => e = .returned (.tuple #[.string s, .int .i64 ne]) ∧ Below w.heap.size w w' := by
  unfold readText at hs
  unfold readErr at he
  cases hp : placeOf V.L id with
  | none =>
    rw [hp] at hs he
    simp only at hs he
    subst hs he
    have HF := Lib.hid (rfind_no w v g B lv V id h hV hp)
    clear hp h
    go_enter Try.func15, Try.ntmps15
    go_wp2_with fail
    ((with_reducible refine HF.out.mono ?_); rintro e w2 ⟨rfl, hb2⟩)
    have b3 := (Below.refl w2.heap.size w2).alloc (Nat.le_refl _) (.cells #[.int .i64 0, .int .i64 0, .int .i64 0, .int .i64 0] 47)
    go_wp2
    go_ret2
    exact ⟨rfl, belowThen hb2 b3⟩
  | some k =>
    rw [hp] at hs he
    obtain ⟨hk, _⟩ := placeOf_some hp
    simp only [getElem!_pos V.L k hk] at hs he
    obtain ⟨p, hpt⟩ : ∃ p, V.L[k] = p := ⟨_, rfl⟩
    rw [hpt] at hs he
    have hpb := hV.pts _ (List.getElem_mem hk)
    rw [hpt] at hpb
    have hheld : p.root = 0 ∨ p.root ∈ heldOf V.L := by
      have := heldOf_mem (List.getElem_mem hk)
      rw [hpt] at this
      exact this
    have HF := Lib.hid (rfind_yes w v g B lv V id h hV k hk hp p hpt)
    by_cases h1 : at_ < 0
    · rw [if_pos (.inl h1)] at hs he
      subst hs he
      have h1' : decide (at_ < 0) = true := by simpa using h1
      clear hp h hpt hpb
      go_enter Try.func15, Try.ntmps15
      go_wp2_with fail
      ((with_reducible refine HF.out.mono ?_); rintro e w2 ⟨rfl, hb2⟩)
      have b3 := (Below.refl w2.heap.size w2).alloc (Nat.le_refl _) (.cells #[.int .i64 p.id, .int .i64 p.disk, .int .i64 p.size, .int .i64 p.root] 47)
      go_wp2
      go_ret2
      exact ⟨rfl, belowThen hb2 b3⟩
    have h1' : decide (at_ < 0) = false := by simpa using h1
    by_cases h2 : (p.size : Int) ≤ at_
    · rw [if_pos (.inr h2)] at hs he
      subst hs he
      have h2' : decide ((p.size : Int) ≤ at_) = true := by simpa using h2
      clear hp h hpt hpb
      go_enter Try.func15, Try.ntmps15
      go_wp2_with fail
      ((with_reducible refine HF.out.mono ?_); rintro e w2 ⟨rfl, hb2⟩)
      have b3 := (Below.refl w2.heap.size w2).alloc (Nat.le_refl _) (.cells #[.int .i64 p.id, .int .i64 p.disk, .int .i64 p.size, .int .i64 p.root] 47)
      go_wp2
      go_ret2
      exact ⟨rfl, belowThen hb2 b3⟩
    have h2' : decide ((p.size : Int) ≤ at_) = false := by simpa using h2
    rw [if_neg (by omega)] at hs he
    subst he
    obtain ⟨i, rfl⟩ := Int.eq_ofNat_of_zero_le (show 0 ≤ at_ by omega)
    have hs' : V.X.get p.root i = s := hs
    have HOK := Lib.hid (hV.inv.okX (Nat.le_trans (heldOf_len _) (by have := hV.len; omega)))
    have HG := Lib.hid (fun w' (h' : RIdxAt w' g V.X) => refIGet_e w' g 1000 V.X p.root i s h' HOK.out (by omega) (kid_le hV.inv hheld _) (by omega) hs')
    clear hp hpt hs hs' hheld HOK
    go_enter Try.func15, Try.ntmps15
    go_wp2_with fail
    ((with_reducible refine HF.out.mono ?_); rintro e w2 ⟨rfl, hb2⟩)
    have b3 := (Below.refl w2.heap.size w2).alloc (Nat.le_refl _) (.cells #[.int .i64 p.id, .int .i64 p.disk, .int .i64 p.size, .int .i64 p.root] 47)
    have hb3 := belowThen hb2 b3
    have h3 := h.below hb3
    have c0 := h3.cell0
    have h3i := h3.idx
    have e3 := heap_alloc_new w2 (.cells #[.int .i64 p.id, .int .i64 p.disk, .int .i64 p.size, .int .i64 p.root] 47)
    have d3 : (w2.alloc (.cells #[.int .i64 p.id, .int .i64 p.disk, .int .i64 p.size, .int .i64 p.root] 47)).cell? ⟨w2.heap.size, 3, none⟩ = some (.int .i64 p.root) := cell_of_row _ _ _ _ _ _ e3
    clear HF h h3 b3 e3
    go_wp2_with fail
    generalize w2.alloc (.cells #[.int .i64 p.id, .int .i64 p.disk, .int .i64 p.size, .int .i64 p.root] 47) = W at *
    generalize w2.heap.size = gz at *
    have HK := Lib.hid (fun w' (hb : Below W.heap.size W.drew w') => show w'.cell? ⟨v, 0, none⟩ = some (.pointer (some ⟨g, 0, none⟩)) ∧ w'.cell? ⟨gz, 3, none⟩ = some (.int .i64 p.root) from ⟨belowKept (w := W.drew) hb c0, belowKept (w := W.drew) hb d3⟩)
    go_region_held3 (fun w' => w'.cell? ⟨v, 0, none⟩ = some (.pointer (some ⟨g, 0, none⟩)) ∧ w'.cell? ⟨gz, 3, none⟩ = some (.int .i64 p.root)) (first | exact ⟨c0, d3⟩ | exact HK.out _ hb4)
      (first | (go_at_call 34; refine (HG.out _ (h3i.below (Below.refl _ _).drew)).mono ?_; rintro e w4 ⟨rfl, hb4⟩))
    all_goals
      clear HK c0 d3 h3i HG
      go_wp2
      go_ret2
      exact ⟨rfl, Below.trans (b := W.drew) hb3.drew (hb4.mono hb3.size)⟩

theorem RVauAt.old {w : World} {v g B : Nat} {lv : Value} {V : VauM} (h : RVauAt w v g B lv V) : ∀ b ∈ rbs v g lv, b < w.heap.size := by
  intro b hb
  simp only [rbs, List.mem_cons, Option.mem_toList] at hb
  rcases hb with rfl | rfl | hb
  · exact h.lt
  · exact h.idx.lt
  · exact (World.ownsRow.lt h.pts b hb).2
theorem one_rbs (v g : Nat) (lv : Value) : ∀ b ∈ [g], b ∈ rbs v g lv := by
  intro b hb
  simp only [List.mem_cons, List.not_mem_nil, or_false] at hb
  subst hb
  simp [rbs]

set_option maxHeartbeats 1000000 in
set_option maxRecDepth 100000 in
theorem ragain_any (w : World) (v g B : Nat) (lv : Value) (V V' : VauM) (id : Int) (h : RVauAt w v g B lv V) (hV : V.Ok) (hB : B ≤ w.heap.size) (ne : Int) (m : Nat) (he : againErr V id = ne) (hm : (if ne = 0 then V.next else 0) = m) (hV' : againV V id = V') :
    Calls Try.prog 29 #[.pointer (some ⟨v, 0, none⟩), .int .i64 id] w (RVauRet w v g B lv V' ne (.tuple #[.int .i64 m, .int .i64 ne])) := by
  cases hp : placeOf V.L id with
  | none =>
    have he' : ne = 5 := by rw [← he]; unfold againErr; rw [hp]
    subst he'
    have hm' : m = 0 := by rw [← hm]; rfl
    subst hm'
    have HF := Lib.hid (rfind_no w v g B lv V id h hV hp)
    clear hp h he hm
    go_enter Try.func29, Try.ntmps29
    go_wp2_with fail
    ((with_reducible refine HF.out.mono ?_); rintro e w2 ⟨rfl, hb2⟩)
    have b3 := (Below.refl w2.heap.size w2).alloc (Nat.le_refl _) (.cells #[.int .i64 0, .int .i64 0, .int .i64 0, .int .i64 0] 47)
    go_wp2
    go_ret2
    exact ⟨rfl, by simp, Turn.of_below (belowThen hb2 b3)⟩
  | some k =>
    obtain ⟨hk, _⟩ := placeOf_some hp
    obtain ⟨p, hpt⟩ : ∃ p, V.L[k] = p := ⟨_, rfl⟩
    have hpb := hV.pts _ (List.getElem_mem hk)
    rw [hpt] at hpb
    have hheld : p.root = 0 ∨ p.root ∈ heldOf V.L := by
      have := heldOf_mem (List.getElem_mem hk)
      rw [hpt] at this
      exact this
    have he1 : addErr V = ne := by rw [← he]; unfold againErr; rw [hp]
    have hv1 : V' = addV ⟨V.X.refN p.root, V.L, V.next⟩ p.disk p.size p.root := by
      rw [← hV']; unfold againV; rw [hp]; simp only [getElem!_pos V.L k hk, hpt]
    have HF := Lib.hid (rfind_yes w v g B lv V id h hV k hk hp p hpt)
    obtain ⟨A, c, hlv⟩ := ownsRow_slice h.pts
    obtain ⟨n, hn⟩ : ∃ n, V.L.length = n := ⟨_, rfl⟩
    obtain ⟨t, ht⟩ : ∃ t, V.next = t := ⟨_, rfl⟩
    have hl6 := hV.len
    rw [hn] at hl6
    have hn6 := hV.next
    rw [ht] at hn6
    have hadd := he1
    unfold addErr at hadd
    rw [hn, ht] at hadd
    have KEEP := Lib.hid (fun w' (hb : Below w.heap.size w w') => show w'.cell? ⟨v, 0, none⟩ = some (.pointer (some ⟨g, 0, none⟩)) ∧ w'.cell? ⟨v, 1, none⟩ = some (.slice A n c) ∧ w'.cell? ⟨v, 2, none⟩ = some (.int .i64 t) from ⟨(h.below hb).cell0, by rw [(h.below hb).cell1, hlv, hn], by rw [(h.below hb).cell2, ht]⟩)
    by_cases h6 : n = 6
    · subst h6
      rw [if_pos (.inl (Nat.le_refl _))] at hadd
      subst hadd
      have hm' : m = 0 := by rw [← hm]; rfl
      subst hm'
      clear hp h he hm hv1 he1 hpt hpb
      go_enter Try.func29, Try.ntmps29
      go_wp2_with fail
      ((with_reducible refine HF.out.mono ?_); rintro e w2 ⟨rfl, hb2⟩)
      have b3 := (Below.refl w2.heap.size w2).alloc (Nat.le_refl _) (.cells #[.int .i64 p.id, .int .i64 p.disk, .int .i64 p.size, .int .i64 p.root] 47)
      have hb3 := belowThen hb2 b3
      obtain ⟨c0, c1, c2⟩ := KEEP.out _ hb3
      go_wp2
      go_ret2
      exact ⟨rfl, by simp, Turn.of_below hb3⟩
    have h6' : ((n : Int) == 6) = false := by simp; omega
    by_cases h2 : 999 < t
    · rw [if_pos (.inr h2)] at hadd
      subst hadd
      have hm' : m = 0 := by rw [← hm]; rfl
      subst hm'
      have i2 : decide ((999 : Int) < (t : Int)) = true := by simp; omega
      clear hp h he hm hv1 he1 hpt hpb
      go_enter Try.func29, Try.ntmps29
      go_wp2_with fail
      ((with_reducible refine HF.out.mono ?_); rintro e w2 ⟨rfl, hb2⟩)
      have b3 := (Below.refl w2.heap.size w2).alloc (Nat.le_refl _) (.cells #[.int .i64 p.id, .int .i64 p.disk, .int .i64 p.size, .int .i64 p.root] 47)
      have hb3 := belowThen hb2 b3
      obtain ⟨c0, c1, c2⟩ := KEEP.out _ hb3
      go_wp2
      go_ret2
      exact ⟨rfl, by simp, Turn.of_below hb3⟩
    have i2 : decide ((999 : Int) < (t : Int)) = false := by simp; omega
    rw [if_neg (by omega)] at hadd
    subst hadd
    have HOK := Lib.hid (hV.inv.okX (Nat.le_trans (heldOf_len _) (by have := hV.len; omega)))
    have HS := Lib.hid (fun w' (h' : RIdxAt w' g V.X) => refShareE w' g 1000 V.X (V.X.refN p.root) p.root (heldOf V.L) h' HOK.out (by omega) hV.inv hheld rfl)
    have HA := Lib.hid (fun w' (h' : RVauAt w' v g B lv ⟨V.X.refN p.root, V.L, V.next⟩) (hb : B ≤ w'.heap.size) => radd_any w' v g B lv ⟨V.X.refN p.root, V.L, V.next⟩ V' p.disk p.size p.root h' hV.len hV.next.2 hb 0 m he1 hm hv1.symm)
    have HH := Lib.hid h
    have HO := Lib.hid h.old
    have hvg := h.ne
    clear hp h he hm hv1 he1 hpt hpb hheld
    go_enter Try.func29, Try.ntmps29
    go_wp2_with fail
    ((with_reducible refine HF.out.mono ?_); rintro e w2 ⟨rfl, hb2⟩)
    have b3 := (Below.refl w2.heap.size w2).alloc (Nat.le_refl _) (.cells #[.int .i64 p.id, .int .i64 p.disk, .int .i64 p.size, .int .i64 p.root] 47)
    have e3 := heap_alloc_new w2 (.cells #[.int .i64 p.id, .int .i64 p.disk, .int .i64 p.size, .int .i64 p.root] 47)
    have hb3 := belowThen hb2 b3
    obtain ⟨c0, c1, c2⟩ := KEEP.out _ hb3
    have d1 : (w2.alloc (.cells #[.int .i64 p.id, .int .i64 p.disk, .int .i64 p.size, .int .i64 p.root] 47)).cell? ⟨w2.heap.size, 1, none⟩ = some (.int .i64 p.disk) := cell_of_row _ _ _ _ _ _ e3
    have d2 : (w2.alloc (.cells #[.int .i64 p.id, .int .i64 p.disk, .int .i64 p.size, .int .i64 p.root] 47)).cell? ⟨w2.heap.size, 2, none⟩ = some (.int .i64 p.size) := cell_of_row _ _ _ _ _ _ e3
    have d3 : (w2.alloc (.cells #[.int .i64 p.id, .int .i64 p.disk, .int .i64 p.size, .int .i64 p.root] 47)).cell? ⟨w2.heap.size, 3, none⟩ = some (.int .i64 p.root) := cell_of_row _ _ _ _ _ _ e3
    have HV3 := Lib.hid (HH.out.below hb3)
    have HB3 := Lib.hid hb3
    have hs2 : w.heap.size ≤ w2.heap.size := hb2.size
    have hsz3 : (w2.alloc (.cells #[.int .i64 p.id, .int .i64 p.disk, .int .i64 p.size, .int .i64 p.root] 47)).heap.size = w2.heap.size + 1 := by simp
    clear HF KEEP e3 b3 hb2
    go_wp2_with fail
    generalize w2.alloc (.cells #[.int .i64 p.id, .int .i64 p.disk, .int .i64 p.size, .int .i64 p.root] 47) = W at *
    generalize w2.heap.size = gz at *
    have HSD := Lib.hid (HS.out W.drew (HV3.out.idx.below (Below.refl _ _).drew))
    have hgg : g < w.heap.size := HH.out.idx.lt
    have hvv : v < w.heap.size := HH.out.lt
    have HK5 := Lib.hid (fun w' (t : Turn [g] W.drew w') => show w'.cell? ⟨v, 0, none⟩ = some (.pointer (some ⟨g, 0, none⟩)) ∧ w'.cell? ⟨gz, 1, none⟩ = some (.int .i64 p.disk) ∧ w'.cell? ⟨gz, 2, none⟩ = some (.int .i64 p.size) ∧ w'.cell? ⟨gz, 3, none⟩ = some (.int .i64 p.root) from ⟨Turn.cellKept (a := W.drew) t c0 (by simpa using hvg), Turn.cellKept (a := W.drew) t d1 (by simp; omega), Turn.cellKept (a := W.drew) t d2 (by simp; omega), Turn.cellKept (a := W.drew) t d3 (by simp; omega)⟩)
    have HA5 := Lib.hid (fun w5 (h5 : RIdxAt w5 g (V.X.refN p.root)) (t : Turn [g] W.drew w5) => HA.out w5 ((HV3.out.below (Below.refl _ _).drew).turned h5 t) (Nat.le_trans hB (Nat.le_trans HB3.out.size t.size)))
    have HK6 := Lib.hid (fun w5 w6 (t : Turn [g] W.drew w5) (hr : ∃ lv', RVauAt w6 v g B lv' V') (t6 : Turn (rbs v g lv) w5 w6) => show w6.cell? ⟨v, 0, none⟩ = some (.pointer (some ⟨g, 0, none⟩)) ∧ w6.cell? ⟨gz, 1, none⟩ = some (.int .i64 p.disk) ∧ w6.cell? ⟨gz, 2, none⟩ = some (.int .i64 p.size) ∧ w6.cell? ⟨gz, 3, none⟩ = some (.int .i64 p.root) from by
      obtain ⟨lv', hr⟩ := hr
      have hno : gz ∉ rbs v g lv := fun hm => by have := HO.out _ hm; omega
      obtain ⟨_, k1, k2, k3⟩ := HK5.out w5 t
      exact ⟨hr.cell0, Turn.cellKept t6 k1 hno, Turn.cellKept t6 k2 hno, Turn.cellKept t6 k3 hno⟩)
    clear HS HA
    go_region_held3 (fun w' => w'.cell? ⟨v, 0, none⟩ = some (.pointer (some ⟨g, 0, none⟩)) ∧ w'.cell? ⟨gz, 1, none⟩ = some (.int .i64 p.disk) ∧ w'.cell? ⟨gz, 2, none⟩ = some (.int .i64 p.size) ∧ w'.cell? ⟨gz, 3, none⟩ = some (.int .i64 p.root)) (first | exact ⟨c0, d1, d2, d3⟩ | exact HK5.out _ t5 | exact HK6.out _ _ t5 (h6 trivial) t6)
      (first
        | (go_at_call 45; refine HSD.out.mono ?_; rintro e w5 ⟨rfl, h5, t5⟩)
        | (go_at_call 47; refine (HA5.out _ h5 t5).mono ?_; rintro e w6 ⟨rfl, h6, t6⟩))
    all_goals
      have HT := Lib.hid ((Turn.of_below HB3.out).trans (((Turn.refl _ W).drew.trans (t5.mono (one_rbs v g lv))).trans t6))
      have H6 := Lib.hid h6
      clear HK5 HK6 HSD HA5 c0 d1 d2 d3 h5 t5 h6 t6
      go_wp2
      go_ret2
      exact ⟨rfl, fun _ => H6.out trivial, HT.out⟩
end Go.Proofs.Ytkjnipjomfbalaa
