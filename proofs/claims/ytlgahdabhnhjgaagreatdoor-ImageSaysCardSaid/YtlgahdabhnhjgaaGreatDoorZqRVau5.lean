/- The reference's vault: Ingest. -/
import Derived.Test.YtlgahdabhnhjgaaGreatDoorZqRVau4
import Derived.Test.YtlgahdabhnhjgaaGreatDoorZqKept
import Derived.Deep.DeepCutAuto
import Derived.Deep.CutBlock
namespace Go.Proofs.YtlgahdabhnhjgaaGreatDoor
open Go.RowKit Go.Maps

theorem PutList.turnG {w w' : World} {g : Nat} {A : Option Addr} {ps : List (Int × ByteArray)} (h : PutList w A ps) (ht : Turn [g] w w') (hg : ∀ a, 0 < ps.length → A = some a → a.block ≠ g) : PutList w' A ps :=
  ⟨h.1, fun i hi => by
    obtain ⟨b, off, e, h1, h2, h3⟩ := h.2 i hi
    have hb : b ∉ [g] := by simpa using hg _ (by omega) e
    exact ⟨b, off, e, ht.cellKept h1 hb, ht.cellKept h2 hb, h3⟩⟩

set_option maxHeartbeats 4000000 in
set_option maxRecDepth 100000 in
theorem ringest_any (w : World) (v g B : Nat) (lv : Value) (V V' : VauM) (base disk size : Int) (A : Option Addr) (c : Nat) (ps : List (Int × ByteArray)) (h : RVauAt w v g B lv V) (hV : V.Ok) (hB : B ≤ w.heap.size) (hps : PutList w A ps) (hpg : ∀ a, 0 < ps.length → A = some a → a.block ≠ g) (ne : Int) (m : Nat) (he : ingestErr V base disk size ps = ne) (hm : (if ne = 0 then V.next else 0) = m) (hV' : ingestV V base disk size ps = V') :
    Calls Tryz.prog 35 #[.pointer (some ⟨v, 0, none⟩), .int .i64 base, .int .i64 disk, .int .i64 size, .slice A ps.length c] w (RVauRet w v g B lv V' ne (.tuple #[.int .i64 m, .int .i64 ne])) := by
  by_cases hb : disk < 1 ∨ 999 < disk ∨ size < 1 ∨ 16 < size
  · have he' : ne = 1 := by rw [← he]; unfold ingestErr; rw [if_pos hb]
    subst he'
    have hm' : m = 0 := by rw [← hm]; rfl
    subst hm'
    clear h he hm hps hpg
    by_cases h1 : disk < 1
    · have h1' : decide (disk < 1) = true := by simpa using h1
      go_enter Tryz.func35, Tryz.ntmps35
      go_wp2
      go_ret2
      exact ⟨rfl, by simp, Turn.refl _ _⟩
    have h1' : decide (disk < 1) = false := by simpa using h1
    by_cases h2 : 999 < disk
    · have h2' : decide (999 < disk) = true := by simpa using h2
      go_enter Tryz.func35, Tryz.ntmps35
      go_wp2
      go_ret2
      exact ⟨rfl, by simp, Turn.refl _ _⟩
    have h2' : decide (999 < disk) = false := by simpa using h2
    by_cases h3 : size < 1
    · have h3' : decide (size < 1) = true := by simpa using h3
      go_enter Tryz.func35, Tryz.ntmps35
      go_wp2
      go_ret2
      exact ⟨rfl, by simp, Turn.refl _ _⟩
    have h3' : decide (size < 1) = false := by simpa using h3
    have h4 : 16 < size := by omega
    have h4' : decide (16 < size) = true := by simpa using h4
    go_enter Tryz.func35, Tryz.ntmps35
    go_wp2
    go_ret2
    exact ⟨rfl, by simp, Turn.refl _ _⟩
  have hb1 : ¬ disk < 1 := by omega
  have hb2 : ¬ 999 < disk := by omega
  have hb3 : ¬ size < 1 := by omega
  have hb4 : ¬ 16 < size := by omega
  obtain ⟨sz, rfl⟩ := Int.eq_ofNat_of_zero_le (show 0 ≤ size by omega)
  obtain ⟨dk, rfl⟩ := Int.eq_ofNat_of_zero_le (show 0 ≤ disk by omega)
  have i1 : decide ((dk : Int) < 1) = false := by simpa using hb1
  have i2 : decide ((999 : Int) < (dk : Int)) = false := by simpa using hb2
  have i3 : decide ((sz : Int) < 1) = false := by simpa using hb3
  have i4 : decide ((16 : Int) < (sz : Int)) = false := by simpa using hb4
  have hsz : 1 ≤ sz ∧ sz ≤ 16 := by omega
  -- what follows of the start's answer
  have HST := Lib.hid (fun X1 n1 e1 (hS : startX V base dk sz = (X1, n1, e1)) => show (if e1 ≠ 0 then e1 else if (putsX X1 n1 sz ps).2.2 ≠ 0 then (putsX X1 n1 sz ps).2.2 else addErr V) = ne ∧ (V' = addV ⟨(putsX X1 n1 sz ps).1, V.L, V.next⟩ dk sz (putsX X1 n1 sz ps).2.1) from by
    have hS' : startX V base (dk : Int) ((sz : Int).toNat) = (X1, n1, e1) := by simpa using hS
    have e := ingest_start (ps := ps) hb hS'
    rw [he] at e
    refine ⟨by simpa using e.symm, ?_⟩
    rw [← hV']
    unfold ingestV
    simp only [Int.toNat_natCast, hS])
  have HSG := Lib.hid (fun X1 n1 (hS : startX V base dk sz = (X1, n1, 0)) => start_good hV base dk sz hsz hS)
  have HH := Lib.hid h
  have HPS := Lib.hid hps
  have HPG := Lib.hid hpg
  have HMM := Lib.hid hm
  have HL := Lib.hid (heldOf_len V.L)
  have HVV := Lib.hid hV
  have hl6 := hV.len
  have hn6 := hV.next
  have hvg := h.ne
  have HO := Lib.hid h.old
  clear h hps hpg he hm hV' hb hV
  go_enter Tryz.func35, Tryz.ntmps35
  go_upto_if 36 with (fail)
  go_cut [12] (fun s12 wx => ∃ (X1 : IdxM) (n1 : Nat), s12 = .int .i64 n1 ∧ startX V base dk sz = (X1, n1, 0) ∧ RIdxAt wx g X1 ∧ Turn [g] w wx)
  case first =>
    by_cases h0 : base = 0
    · subst h0
      go_wp2
      go_meet
      exact ⟨V.X, 0, rfl, by unfold startX; rw [if_pos rfl], HH.out.idx, Turn.refl _ _⟩
    have h0' : (base != 0) = true := by simpa using h0
    cases hp : placeOf V.L base with
    | none =>
      have hS : startX V base dk sz = (V.X, 0, 5) := by unfold startX; rw [if_neg h0, hp]
      obtain ⟨q1, _⟩ := HST.out _ _ _ hS
      rw [if_pos (by decide)] at q1
      subst q1
      have hm' : m = 0 := by rw [← HMM.out]; rfl
      subst hm'
      have HF := Lib.hid (rfind_no w v g B lv V base HH.out HVV.out hp)
      clear hp hS
      go_wp2_with fail
      ((with_reducible refine HF.out.mono ?_); rintro e w2 ⟨rfl, hb2⟩)
      have b3 := (Below.refl w2.heap.size w2).alloc (Nat.le_refl _) (.cells #[.int .i64 0, .int .i64 0, .int .i64 0, .int .i64 0] 60)
      go_wp2
      go_ret2
      exact ⟨rfl, by simp, Turn.of_below (belowThen hb2 b3)⟩
    | some k =>
      obtain ⟨hk, hid⟩ := placeOf_some hp
      obtain ⟨p, hpt⟩ : ∃ p, V.L[k] = p := ⟨_, rfl⟩
      have hpb := HVV.out.pts _ (List.getElem_mem hk)
      have hin := heldOf_mem (List.getElem_mem hk)
      rw [hpt] at hpb hin hid
      have HF := Lib.hid (rfind_yes w v g B lv V base HH.out HVV.out k hk hp p hpt)
      by_cases hd : (p.disk : Int) = (dk : Int)
      · have hS : startX V base dk sz = trimX (V.X.refN p.root) p.root sz (p.size - sz) := by
          unfold startX
          rw [if_neg h0, hp]
          simp only [getElem!_pos V.L k hk, hpt]
          rw [if_neg (by simpa using hd)]
        obtain ⟨s1, _⟩ := HVV.out.inv.share hin
        have hd' : ((p.disk : Int) != (dk : Int)) = false := by simpa using hd
        have hrt : p.root ≤ 24 := by omega
        have hps16 : p.size ≤ 16 := by omega
        have HS := Lib.hid hS
        have S1 := Lib.hid s1
        have HOK := Lib.hid (HVV.out.inv.okX (Nat.le_trans (heldOf_len _) (by omega)))
        have HSHARE := Lib.hid (fun w' (h' : RIdxAt w' g V.X) => refShareE w' g 1000 V.X (V.X.refN p.root) p.root (heldOf V.L) h' HOK.out (by omega) HVV.out.inv hin rfl)
        clear hp hpt hS s1 hin hd hid hpb
        go_wp2_with fail
        ((with_reducible refine HF.out.mono ?_); rintro e w2 ⟨rfl, hb2⟩)
        have b3 := (Below.refl w2.heap.size w2).alloc (Nat.le_refl _) (.cells #[.int .i64 p.id, .int .i64 p.disk, .int .i64 p.size, .int .i64 p.root] 60)
        have e3 := heap_alloc_new w2 (.cells #[.int .i64 p.id, .int .i64 p.disk, .int .i64 p.size, .int .i64 p.root] 60)
        have hb3 := belowThen hb2 b3
        have h3 := HH.out.below hb3
        have c0 := h3.cell0
        have d1 : (w2.alloc (.cells #[.int .i64 p.id, .int .i64 p.disk, .int .i64 p.size, .int .i64 p.root] 60)).cell? ⟨w2.heap.size, 1, none⟩ = some (.int .i64 p.disk) := cell_of_row _ _ _ _ _ _ e3
        have d2 : (w2.alloc (.cells #[.int .i64 p.id, .int .i64 p.disk, .int .i64 p.size, .int .i64 p.root] 60)).cell? ⟨w2.heap.size, 2, none⟩ = some (.int .i64 p.size) := cell_of_row _ _ _ _ _ _ e3
        have d3 : (w2.alloc (.cells #[.int .i64 p.id, .int .i64 p.disk, .int .i64 p.size, .int .i64 p.root] 60)).cell? ⟨w2.heap.size, 3, none⟩ = some (.int .i64 p.root) := cell_of_row _ _ _ _ _ _ e3
        have HV3 := Lib.hid h3
        have HB3 := Lib.hid hb3
        have hs2 : w.heap.size ≤ w2.heap.size := hb2.size
        have hgg : g < w.heap.size := HH.out.idx.lt
        clear HF b3 e3 h3 hb2 hb3
        go_wp2_with fail
        generalize w2.alloc (.cells #[.int .i64 p.id, .int .i64 p.disk, .int .i64 p.size, .int .i64 p.root] 60) = W at *
        generalize w2.heap.size = gz at *
        have HSD := Lib.hid (HSHARE.out W.drew (HV3.out.idx.below (Below.refl _ _).drew))
        clear HSHARE
        go_region_held3 (fun w' => w'.cell? ⟨v, 0, none⟩ = some (.pointer (some ⟨g, 0, none⟩)) ∧ w'.cell? ⟨gz, 3, none⟩ = some (.int .i64 p.root)) (first | exact ⟨c0, d3⟩ | exact ⟨Turn.cellKept (a := W.drew) t5 c0 (by simpa using hvg), Turn.cellKept (a := W.drew) t5 d3 (by simp; omega)⟩)
          (first
            | (go_at_call 64; refine HSD.out.mono ?_; rintro e w5 ⟨rfl, h5, t5⟩))
        all_goals
          have c5 : w5.cell? ⟨v, 0, none⟩ = some (.pointer (some ⟨g, 0, none⟩)) := Turn.cellKept (a := W.drew) t5 c0 (by simpa using hvg)
          have d5 : w5.cell? ⟨gz, 2, none⟩ = some (.int .i64 p.size) := Turn.cellKept (a := W.drew) t5 d2 (by simp; omega)
          have T5 := Lib.hid ((Turn.of_below (bs := [g]) HB3.out).trans ((Turn.refl _ W).drew.trans t5))
          have H5 := Lib.hid h5
          have hgz : gz ≠ g := by omega
          clear HSD c0 d1 d2 d3 h5 t5 HV3 HB3
          go_wp2
          go_loopw [12, 15] (fun r a w' => ∃ (t k rt : Nat) (X : IdxM), r = .int .i64 rt ∧ a = .int .i64 t ∧ t + k = max sz p.size ∧ sz ≤ t ∧ rt ≤ 24 ∧ Inv X (opt rt (heldOf V.L)) [] [] ∧ RIdxAt w' g X ∧ Turn [g] w5 w' ∧ startX V base dk sz = trimX X rt t k) (fun _ a _ => 16 - (intOf a).toNat)
          case atStart => exact ⟨sz, p.size - sz, p.root, _, rfl, rfl, by omega, Nat.le_refl _, hrt, S1.out, H5.out, Turn.refl _ _, HS.out⟩
          case round =>
            obtain ⟨t, k, rt, X, rfl, rfl, htk, hst, hrt', hI, hX, ht, hT⟩ := hrel
            have c0 := ht.cellKept c5 (by simpa using hvg)
            have d2 := ht.cellKept d5 (by simpa using hgz)
            cases k with
            | zero =>
              have j1 : ¬ ((t : Int) < (p.size : Int)) := by omega
              simp only [trimX] at hT
              go_wp2
              go_meet
              exact ⟨X, rt, rfl, hT, hX, T5.out.trans ht⟩
            | succ k =>
              have htp : t < p.size := by omega
              have j1 : (t : Int) < (p.size : Int) := by omega
              have j2 : IntKind.i64.wrap ((t : Int) + 1) = (t : Int) + 1 := IntWalk.i64_in _ (by omega)
              obtain ⟨X3, n3, e3, hR⟩ := triple (replaceX X rt t ⟨#[]⟩)
              have hR' : replaceX X rt t ByteArray.empty = (X3, n3, e3) := hR
              have he0 : 0 ≤ e3 := (replace_err hR').1
              have HREP := Lib.hid (rput_any wr v g X (heldOf V.L) rt t ⟨#[]⟩ X3 n3 e3 c0 hvg hX hI (Nat.le_trans HL.out (by omega)) (by omega) (by decide) hR)
              have HT := Lib.hid hT
              have HR' := Lib.hid hR'
              clear hR hR' hT c0
              go_wp2_with fail
              ((with_reducible refine HREP.out.mono ?_); rintro e w6 ⟨rfl, h6, t6⟩)
              by_cases he : e3 = 0
              · subst he
                obtain ⟨g1, _, _, g4⟩ := replace_good hI (by omega) HR'.out
                have hT2 := HT.out
                rw [trimX_ok HR'.out] at hT2
                have HT2 := Lib.hid hT2
                have H6 := Lib.hid (h6 rfl)
                clear HREP hT2 d2 h6
                go_wp2
                go_roundw
                case rel => exact ⟨t + 1, k, n3, X3, rfl, by go_num, by omega, by omega, g4, g1, H6.out, ht.trans t6, HT2.out⟩
                case measure => simp [intOf]; omega
              · have hpos : (0 : Int) < e3 := by omega
                have hT2 := HT.out
                rw [trimX_no HR'.out he] at hT2
                obtain ⟨q1, _⟩ := HST.out _ _ _ hT2
                rw [if_pos he] at q1
                subst q1
                have hm' : m = 0 := by rw [← HMM.out, if_neg he]
                subst hm'
                have HE := Lib.hid he
                clear HREP d2 he HT HR' hT2
                go_wp2
                go_ret2
                exact ⟨rfl, fun h => absurd h HE.out, (T5.out.trans (ht.trans t6)).mono (one_rbs v g lv)⟩
      · have hS : startX V base dk sz = (V.X, 0, 3) := by
          unfold startX
          rw [if_neg h0, hp]
          simp only [getElem!_pos V.L k hk, hpt]
          rw [if_pos (by simpa using hd)]
        obtain ⟨q1, _⟩ := HST.out _ _ _ hS
        rw [if_pos (by decide)] at q1
        subst q1
        have hm' : m = 0 := by rw [← HMM.out]; rfl
        subst hm'
        have hd' : ((p.disk : Int) != (dk : Int)) = true := by simpa using hd
        clear hp hS hpt hin hd hid
        go_wp2_with fail
        ((with_reducible refine HF.out.mono ?_); rintro e w2 ⟨rfl, hb2⟩)
        have b3 := (Below.refl w2.heap.size w2).alloc (Nat.le_refl _) (.cells #[.int .i64 p.id, .int .i64 p.disk, .int .i64 p.size, .int .i64 p.root] 60)
        go_wp2
        go_ret2
        exact ⟨rfl, by simp, Turn.of_below (belowThen hb2 b3)⟩
  case rest =>
    as_aux_lemma =>
    obtain ⟨X1, n1, rfl, hS, hX1, t1⟩ := hcut
    obtain ⟨q1, q2⟩ := HST.out _ _ _ hS
    rw [if_neg (by simp)] at q1
    obtain ⟨g1, _, _, g4⟩ := HSG.out _ _ hS
    obtain ⟨X2, n2, e2, hP⟩ := triple (putsX X1 n1 sz ps)
    rw [hP] at q1 q2
    simp only at q1 q2
    have HQ1 := Lib.hid q1
    have HQ2 := Lib.hid q2
    have HP := Lib.hid hP
    have HX1 := Lib.hid hX1
    have T1 := Lib.hid t1
    have cv1 : wc.cell? ⟨v, 0, none⟩ = some (.pointer (some ⟨g, 0, none⟩)) := t1.cellKept HH.out.cell0 (by simpa using hvg)
    have HPS1 := Lib.hid (HPS.out.turnG t1 HPG.out)
    have hpl := HPS.out.1
    unfold maxLen at hpl
    clear hS q1 q2 hP hX1 t1 HST HSG HPS
    go_wp2
    go_loopw [12, 18] (fun r j w' => ∃ (i rt : Nat) (X : IdxM), r = .int .i64 rt ∧ j = .int .i64 i ∧ i ≤ ps.length ∧ rt ≤ 24 ∧ Inv X (opt rt (heldOf V.L)) [] [] ∧ RIdxAt w' g X ∧ Turn [g] wc w' ∧ putsX X rt sz (ps.drop i) = (X2, n2, e2)) (fun _ j _ => ps.length - (intOf j).toNat)
    case atStart => exact ⟨0, n1, X1, rfl, rfl, Nat.zero_le _, g4, g1, HX1.out, Turn.refl _ _, HP.out⟩
    case round =>
      obtain ⟨i, rt, X, rfl, rfl, hi, hrt, hI, hX, ht, hT⟩ := hrel
      clear g1 g4 HX1
      have c0 := ht.cellKept cv1 (by simpa using hvg)
      by_cases hlt : i < ps.length
      · obtain ⟨b, off, rfl, q1, q2, q3⟩ := (HPS1.out.turnG ht HPG.out).2 i hlt
        have hbg : b ≠ g := HPG.out _ (by omega) rfl
        rw [List.drop_eq_getElem_cons hlt] at hT
        generalize ps[i] = q at hT q1 q2 q3
        obtain ⟨at_, data⟩ := q
        simp only at q1 q2 q3
        have j0 : (0 : Int) ≤ (i : Int) := by omega
        have j1 : (i : Int) < (ps.length : Int) := by omega
        have j2 : IntKind.i64.wrap ((i : Int) + 1) = (i : Int) + 1 := IntWalk.i64_in _ (by omega)
        have HT := Lib.hid hT
        clear hT
        by_cases hA0 : at_ < 0
        · have hA0' : decide (at_ < 0) = true := by simpa using hA0
          have hT2 := HT.out
          rw [puts_bound (.inl hA0)] at hT2
          injection hT2 with a1 a2
          injection a2 with a2 a3
          subst a1 a2 a3
          have hne : ne = 1 := by have := HQ1.out; simp at this; exact this.symm
          subst hne
          have hm0 : m = 0 := by rw [← HMM.out]; rfl
          subst hm0
          go_wp2
          go_ret2
          exact ⟨rfl, by simp, (T1.out.trans ht).mono (one_rbs v g lv)⟩
        have hA0' : decide (at_ < 0) = false := by simpa using hA0
        by_cases hA1 : (sz : Int) ≤ at_
        · have hA1' : decide ((sz : Int) ≤ at_) = true := by simpa using hA1
          have hT2 := HT.out
          rw [puts_bound (.inr hA1)] at hT2
          injection hT2 with a1 a2
          injection a2 with a2 a3
          subst a1 a2 a3
          have hne : ne = 1 := by have := HQ1.out; simp at this; exact this.symm
          subst hne
          have hm0 : m = 0 := by rw [← HMM.out]; rfl
          subst hm0
          go_wp2
          go_ret2
          exact ⟨rfl, by simp, (T1.out.trans ht).mono (one_rbs v g lv)⟩
        have hA1' : decide ((sz : Int) ≤ at_) = false := by simpa using hA1
        have hA : ¬ (at_ < 0 ∨ (sz : Int) ≤ at_) := by omega
        obtain ⟨a, rfl⟩ := Int.eq_ofNat_of_zero_le (show 0 ≤ at_ by omega)
        obtain ⟨s, hs⟩ : ∃ s, X.get rt a = s := ⟨_, rfl⟩
        have HOKX := Lib.hid (hI.okX (Nat.le_trans (opt_len _ _) (by have := HL.out; omega)))
        have HG := Lib.hid (refIGet_e wr.drew g 1000 X rt a s (hX.below (Below.refl _ _).drew) HOKX.out hrt (kid_le hI (mem_opt_self rt _) _) (by omega) hs)
        have HK := Lib.hid (fun w' (hb : Below wr.heap.size wr.drew w') => show w'.cell? ⟨v, 0, none⟩ = some (.pointer (some ⟨g, 0, none⟩)) ∧ w'.cell? ⟨b, off + i * 2, none⟩ = some (.int .i64 a) ∧ w'.cell? ⟨b, off + i * 2 + 1, none⟩ = some (.string data) from ⟨belowKept (w := wr.drew) hb c0, belowKept (w := wr.drew) hb q1, belowKept (w := wr.drew) hb q2⟩)
        go_wp2_with fail
        go_region_held3 (fun w' => w'.cell? ⟨v, 0, none⟩ = some (.pointer (some ⟨g, 0, none⟩)) ∧ w'.cell? ⟨b, off + i * 2, none⟩ = some (.int .i64 a) ∧ w'.cell? ⟨b, off + i * 2 + 1, none⟩ = some (.string data)) (first | exact ⟨c0, q1, q2⟩ | exact HK.out _ hb4)
          (first | (go_at_call 66; refine HG.out.mono ?_; rintro e w4 ⟨rfl, hb4⟩))
        all_goals
          obtain ⟨k0, k1, k2⟩ := HK.out _ hb4
          have hX4 := (hX.below (Below.refl _ _).drew).below hb4
          have ht4 := ht.drew.trans (Turn.of_below hb4)
          clear HG HK c0 q1 q2 hb4 hX ht HOKX
          cases hst : (s.toList == data.toList) with
          | true =>
            have hT2 := HT.out
            rw [puts_same (p := ((a : Int), data)) (X := X) (rt := rt) (sz := sz) hA (by simpa [hs] using hst)] at hT2
            have HT2 := Lib.hid hT2
            clear hT2 HT
            go_wp2
            go_roundw
            case rel => exact ⟨i + 1, rt, X, rfl, by go_num, by omega, hrt, hI, hX4, ht4, HT2.out⟩
            case measure => simp [intOf]; omega
          | false =>
            obtain ⟨X3, n3, e3, hR⟩ := triple (replaceX X rt a data)
            have hR' : replaceX X rt ((a : Int), data).1.toNat ((a : Int), data).2 = (X3, n3, e3) := hR
            have he0 : 0 ≤ e3 := (replace_err hR).1
            have HREP := Lib.hid (rput_any w4.drew v g X (heldOf V.L) rt a data X3 n3 e3 k0 hvg (hX4.below (Below.refl _ _).drew) hI (Nat.le_trans HL.out (by omega)) (by omega) (by unfold maxLen at q3; omega) hR)
            have hst' : ((X.get rt ((a : Int), data).1.toNat).toList == ((a : Int), data).2.toList) = false := by simpa [hs] using hst
            have HR' := Lib.hid hR'
            have HST' := Lib.hid hst'
            have HK6 := Lib.hid (fun w' (t : Turn [g] w4.drew w') => show w'.cell? ⟨b, off + i * 2, none⟩ = some (.int .i64 a) ∧ w'.cell? ⟨b, off + i * 2 + 1, none⟩ = some (.string data) from ⟨Turn.cellKept (a := w4.drew) t k1 (by simpa using hbg), Turn.cellKept (a := w4.drew) t k2 (by simpa using hbg)⟩)
            clear hR hR' hst'
            go_wp2_with fail
            go_region_held3 (fun w' => w'.cell? ⟨b, off + i * 2, none⟩ = some (.int .i64 a) ∧ w'.cell? ⟨b, off + i * 2 + 1, none⟩ = some (.string data)) (first | exact ⟨k1, k2⟩ | exact HK6.out _ t6)
              (first | (go_at_call 65; refine HREP.out.mono ?_; rintro e w6 ⟨rfl, h6, t6⟩))
            all_goals
              clear HREP HK6 k0 k1 k2
              by_cases he : e3 = 0
              · subst he
                obtain ⟨g1, _, _, g4⟩ := replace_good (at_ := a) (data := data) hI (by omega) HR'.out
                have hT2 := HT.out
                rw [puts_ok (p := ((a : Int), data)) (X := X) (rt := rt) (sz := sz) (X1 := X3) (n1 := n3) hA HST'.out HR'.out] at hT2
                have HT2 := Lib.hid hT2
                have H6 := Lib.hid (h6 rfl)
                clear hT2 HT h6
                go_wp2
                go_roundw
                case rel => exact ⟨i + 1, n3, X3, rfl, by go_num, by omega, g4, g1, H6.out, ht4.drew.trans t6, HT2.out⟩
                case measure => simp [intOf]; omega
              · have hpos : (0 : Int) < e3 := by omega
                have HN := Lib.hid he
                have hT2 := HT.out
                rw [puts_no (p := ((a : Int), data)) (X := X) (rt := rt) (sz := sz) (X1 := X3) (n1 := n3) (e1 := e3) hA HST'.out HR'.out he] at hT2
                injection hT2 with a1 a2
                injection a2 with a2 a3
                subst a1 a2 a3
                have hne : ne = e3 := by have := HQ1.out; rw [if_pos he] at this; exact this.symm
                subst hne
                have hm0 : m = 0 := by rw [← HMM.out, if_neg he]
                subst hm0
                clear HT HR' he
                go_wp2
                go_ret2
                exact ⟨rfl, fun h0 => absurd h0 HN.out, (T1.out.trans (ht4.drew.trans t6)).mono (one_rbs v g lv)⟩
      · obtain rfl : i = ps.length := by omega
        rw [List.drop_length] at hT
        simp only [putsX] at hT
        injection hT with a1 a2
        injection a2 with a2 a3
        subst a1 a2 a3
        have j1 : ¬ ((ps.length : Int) < (ps.length : Int)) := by omega
        have he' : addErr V = ne := by have := HQ1.out; rw [if_neg (by simp)] at this; exact this
        have tw := T1.out.trans ht
        have hvw := HH.out.turned hX tw
        have HA := Lib.hid (radd_any wr v g B lv ⟨X, V.L, V.next⟩ V' dk sz rt hvw hl6 hn6.2 (Nat.le_trans hB tw.size) ne m he' HMM.out HQ2.out.symm)
        clear hvw he' hX
        go_wp2_with fail
        ((with_reducible refine HA.out.mono ?_); rintro e w6 ⟨rfl, h6, t6⟩)
        go_wp2
        go_ret2
        exact ⟨rfl, h6, (tw.mono (one_rbs v g lv)).trans t6⟩
end Go.Proofs.YtlgahdabhnhjgaaGreatDoor
