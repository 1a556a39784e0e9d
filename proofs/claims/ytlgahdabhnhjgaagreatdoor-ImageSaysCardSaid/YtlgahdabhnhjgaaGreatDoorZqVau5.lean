/- Package vault: start, Ingest. -/
import Derived.Test.YtlgahdabhnhjgaaGreatDoorZqVau4
import Derived.Test.YtlgahdabhnhjgaaGreatDoorZqLight
namespace Go.Proofs.YtlgahdabhnhjgaaGreatDoor
open Go.RowKit Go.Maps Go.Deep

/-- Puts in memory, with what they say. -/
def PutList (w : World) (A : Option Addr) (ps : List (Int × ByteArray)) : Prop := ps.length ≤ maxLen ∧ ∀ i, (hi : i < ps.length) → ∃ b off, A = some ⟨b, off, none⟩ ∧ w.cell? ⟨b, off + i * 2, none⟩ = some (.int .i64 ps[i].1) ∧ w.cell? ⟨b, off + i * 2 + 1, none⟩ = some (.string ps[i].2) ∧ ps[i].2.size ≤ maxLen
theorem PutsAt.list {w : World} {N : Nat} {A : Option Addr} {n : Nat} (h : PutsAt w N A n) : ∃ ps, ps.length = n ∧ PutList w A ps := by
  obtain ⟨hn, h⟩ := h
  have each : ∀ i, i < n → ∃ q : Int × ByteArray, ∃ b off, A = some ⟨b, off, none⟩ ∧ w.cell? ⟨b, off + i * 2, none⟩ = some (.int .i64 q.1) ∧ w.cell? ⟨b, off + i * 2 + 1, none⟩ = some (.string q.2) ∧ q.2.size ≤ maxLen := fun i hi => by
    obtain ⟨b, off, s, e, _, hc, hs, x, hx⟩ := h i hi
    exact ⟨(x, s), b, off, e, hx, hc, hs⟩
  obtain ⟨q, hq⟩ := choose_lt each
  refine ⟨(List.range n).map q, by simp, by simpa using hn, fun i hi => ?_⟩
  have hi' : i < n := by simpa using hi
  obtain ⟨b, off, h1, h2, h3, h4⟩ := hq i hi'
  exact ⟨b, off, h1, by simpa using h2, by simpa using h3, by simpa using h4⟩
theorem PutList.keep {w w' : World} {A : Option Addr} {ps : List (Int × ByteArray)} (h : PutList w A ps) (hk : ∀ a v, w.cell? a = some v → w'.cell? a = some v) : PutList w' A ps :=
  ⟨h.1, fun i hi => by obtain ⟨b, off, e, h1, h2, h3⟩ := h.2 i hi; exact ⟨b, off, e, hk _ _ h1, hk _ _ h2, h3⟩⟩
theorem PutList.below {w w' : World} {A : Option Addr} {ps : List (Int × ByteArray)} (h : PutList w A ps) (hb : Below w.heap.size w w') : PutList w' A ps :=
  h.keep fun a _ hc => (hb.cell (World.block_lt_of_cell? w a hc)).trans hc

/-- What start leaves. -/
def StartRet (w : World) (x gp bp bn : Nat) (X' : IdxM) (n : Nat) (ne : Int) (e : Ending) (w' : World) : Prop :=
  e = .returned (.tuple #[.int .i64 n, errV ne]) ∧ (ne = 0 → IdxAt w' x gp bp bn 1000 X') ∧ Turn [bp, bn] w w'

theorem triple {α β γ : Type} (s : α × β × γ) : ∃ a b c, s = (a, b, c) := ⟨s.1, s.2.1, s.2.2, rfl⟩

set_option maxHeartbeats 2000000 in
set_option maxRecDepth 100000 in
theorem start_any (w : World) (v x gp bp bn B : Nat) (lv : Value) (V : VauM) (base disk : Int) (size : Nat) (h : VauAt w v x gp bp bn B lv V) (hV : V.Ok) (X' : IdxM) (n : Nat) (ne : Int) (hS : startX V base disk size = (X', n, ne)) :
    Calls Tryz.prog 58 #[.pointer (some ⟨v, 0, none⟩), .int .i64 base, .int .i64 disk, .int .i64 size] w (StartRet w x gp bp bn X' n ne) := by
  unfold startX at hS
  by_cases h0 : base = 0
  · rw [if_pos h0] at hS
    subst h0
    injection hS with a1 a2
    injection a2 with a2 a3
    subst a1 a2 a3
    have HI := Lib.hid h.idx
    clear h
    go_enter Tryz.func58, Tryz.ntmps58
    go_wp2
    go_ret2
    exact ⟨rfl, fun _ => HI.out, Turn.refl _ _⟩
  rw [if_neg h0] at hS
  have h0' : (base == 0) = false := by simpa using h0
  cases hp : placeOf V.L base with
  | none =>
    rw [hp] at hS
    simp only at hS
    injection hS with a1 a2
    injection a2 with a2 a3
    subst a1 a2 a3
    have HF := Lib.hid (find_no w v x gp bp bn B lv V base h hV hp)
    clear hp h
    go_enter Tryz.func58, Tryz.ntmps58
    go_wp2_with fail
    ((with_reducible refine HF.out.mono ?_); rintro e w2 ⟨rfl, hb2⟩)
    have b3 := (Below.refl w2.heap.size w2).alloc (Nat.le_refl _) (.cells #[.int .i64 0, .int .i64 0, .int .i64 0, .int .i64 0] 60)
    go_wp2
    go_ret2
    exact ⟨rfl, by simp, Turn.of_below (belowThen hb2 b3)⟩
  | some k =>
    obtain ⟨hk, _⟩ := placeOf_some hp
    obtain ⟨p, hpt⟩ : ∃ p, V.L[k] = p := ⟨_, rfl⟩
    have hpb := hV.pts _ (List.getElem_mem hk)
    have hin := heldOf_mem (List.getElem_mem hk)
    rw [hpt] at hpb hin
    rw [hp] at hS
    simp only [getElem!_pos V.L k hk, hpt] at hS
    have HF := Lib.hid (find_yes w v x gp bp bn B lv V base h hV k hk hp p hpt)
    by_cases hd : (p.disk : Int) = disk
    · rw [if_neg (by simpa using hd)] at hS
      subst hd
      obtain ⟨s1, _⟩ := hV.inv.share hin
      have HL := Lib.hid (heldOf_len V.L)
      have hl6 := hV.len
      have hr : p.root ≤ 1000 := by omega
      have hrt : p.root ≤ 24 := by omega
      have hps : p.size ≤ 16 := by omega
      have HH := Lib.hid h
      have HS := Lib.hid hS
      have S1 := Lib.hid s1
      clear hp hpt h hS s1 hin
      go_enter Tryz.func58, Tryz.ntmps58
      go_wp2_with fail
      ((with_reducible refine HF.out.mono ?_); rintro e w2 ⟨rfl, hb2⟩)
      have b3 := (Below.refl w2.heap.size w2).alloc (Nat.le_refl _) (.cells #[.int .i64 p.id, .int .i64 p.disk, .int .i64 p.size, .int .i64 p.root] 60)
      have e3 := heap_alloc_new w2 (.cells #[.int .i64 p.id, .int .i64 p.disk, .int .i64 p.size, .int .i64 p.root] 60)
      have hb3 := belowThen hb2 b3
      have h3 := HH.out.below hb3
      have c0 := h3.cell0
      have h3i := h3.idx
      have d3 : (w2.alloc (.cells #[.int .i64 p.id, .int .i64 p.disk, .int .i64 p.size, .int .i64 p.root] 60)).cell? ⟨w2.heap.size, 3, none⟩ = some (.int .i64 p.root) := cell_of_row _ _ _ _ _ _ e3
      have d2 : (w2.alloc (.cells #[.int .i64 p.id, .int .i64 p.disk, .int .i64 p.size, .int .i64 p.root] 60)).cell? ⟨w2.heap.size, 2, none⟩ = some (.int .i64 p.size) := cell_of_row _ _ _ _ _ _ e3
      have HB3 := Lib.hid hb3
      clear HF h3 b3 hb3 hb2 e3
      go_wp2_with fail
      generalize w2.alloc (.cells #[.int .i64 p.id, .int .i64 p.disk, .int .i64 p.size, .int .i64 p.root] 60) = W at *
      generalize w2.heap.size = gz at *
      have HM := Lib.hid h3i.maps
      have HK := Lib.hid (fun w' (t : Turn [bp, bn] W.drew w') => show w'.cell? ⟨v, 0, none⟩ = some (.pointer (some ⟨x, 0, none⟩)) ∧ w'.cell? ⟨gz, 3, none⟩ = some (.int .i64 p.root) from ⟨mapKept t HM.out c0, mapKept t HM.out d3⟩)
      have HSH := Lib.hid (idxShare_any W.drew x gp bp bn 1000 V.X p.root (h3i.below (Below.refl _ _).drew) hr (by omega))
      go_region_held3 (fun w' => w'.cell? ⟨v, 0, none⟩ = some (.pointer (some ⟨x, 0, none⟩)) ∧ w'.cell? ⟨gz, 3, none⟩ = some (.int .i64 p.root)) (first | exact ⟨c0, d3⟩ | exact HK.out _ t5)
        (first | (go_at_call 62; refine HSH.out.mono ?_; rintro e w5 ⟨rfl, h5, t5⟩))
      all_goals
        have c5 := mapKept t5 HM.out c0
        have d5 := mapKept t5 HM.out d2
        have T5 := Lib.hid ((Turn.of_below (bs := [bp, bn]) HB3.out).drew.trans t5)
        have h5' := h5.renorm S1.out (Nat.le_trans (opt_len _ _) (by have := HL.out; omega))
        have HM5 := Lib.hid h5'.maps
        clear h3i c0 d2 d3 t5 HM h5 HK HSH HB3
        go_wp2
        go_loopw [12, 13] (fun r a w' => ∃ (t k rt : Nat) (X : IdxM), r = .int .i64 rt ∧ a = .int .i64 t ∧ t + k = max size p.size ∧ size ≤ t ∧ rt ≤ 24 ∧ Inv X (opt rt (heldOf V.L)) [] [] ∧ IdxAt w' x gp bp bn 1000 X ∧ Turn [bp, bn] w5 w' ∧ trimX X rt t k = (X', n, ne)) (fun _ a _ => 16 - (intOf a).toNat)
        case atStart => exact ⟨size, p.size - size, p.root, _, rfl, rfl, by omega, Nat.le_refl _, hrt, S1.out, h5', Turn.refl _ _, HS.out⟩
        case round =>
          obtain ⟨t, k, rt, X, rfl, rfl, htk, hst, hrt', hI, hX, ht, hT⟩ := hrel
          have c0 := mapKept ht HM5.out c5
          have d2 := mapKept ht HM5.out d5
          clear h5'
          cases k with
          | zero =>
            have j1 : ¬ ((t : Int) < (p.size : Int)) := by omega
            simp only [trimX] at hT
            injection hT with a1 a2
            injection a2 with a2 a3
            subst a1 a2 a3
            go_wp2
            go_ret2
            exact ⟨rfl, fun _ => hX, T5.out.trans ht⟩
          | succ k =>
            have htp : t < p.size := by omega
            have j1 : (t : Int) < (p.size : Int) := by omega
            have j2 : IntKind.i64.wrap ((t : Int) + 1) = (t : Int) + 1 := IntWalk.i64_in _ (by omega)
            obtain ⟨X1, n1, e1, hR⟩ := triple (replaceX X rt t ⟨#[]⟩)
            have hR' : replaceX X rt t ByteArray.empty = (X1, n1, e1) := hR
            have HREP := Lib.hid (replace_any wr v x gp bp bn X rt t ⟨#[]⟩ X1 n1 e1 c0 hX hrt' (by omega) (by decide) hR)
            have HT := Lib.hid hT
            have HR' := Lib.hid hR'
            clear hR hR' hT c0
            go_wp2_with fail
            ((with_reducible refine HREP.out.mono ?_); rintro e w6 ⟨rfl, h6, t6⟩)
            by_cases he : e1 = 0
            · subst he
              have hv0 : errV 0 = .nilIface := rfl
              rw [hv0]
              obtain ⟨g1, _, _, g4⟩ := replace_good hI (by omega) HR'.out
              have h6' := h6.renorm g1 (Nat.le_trans (opt_len _ _) (by have := HL.out; omega))
              have hT2 := HT.out
              rw [trimX_ok HR'.out] at hT2
              have HT2 := Lib.hid hT2
              clear HREP hv0 hT2 d2
              go_wp2
              go_roundw
              case rel => exact ⟨t + 1, k, n1, X1, rfl, by go_num, by omega, by omega, g4, g1, h6', ht.trans t6, HT2.out⟩
              case measure => simp [intOf]; omega
            · have hv : errV e1 = .iface 93 (.int .i64 e1) := by simp [errV, he]
              have HV := Lib.hid hv
              have HE := Lib.hid he
              rw [hv]
              have hT2 := HT.out
              rw [trimX_no HR'.out he] at hT2
              injection hT2 with a1 a2
              injection a2 with a2 a3
              subst a1 a2 a3
              clear hv HREP d2 he HT HR'
              go_wp2
              go_ret2
              exact ⟨by rw [HV.out]; rfl, fun h => absurd h HE.out, T5.out.trans (ht.trans t6)⟩
    · rw [if_pos (by simpa using hd)] at hS
      injection hS with a1 a2
      injection a2 with a2 a3
      subst a1 a2 a3
      have hd' : ((p.disk : Int) == disk) = false := by simpa using hd
      clear hp h hpt hpb
      go_enter Tryz.func58, Tryz.ntmps58
      go_wp2_with fail
      ((with_reducible refine HF.out.mono ?_); rintro e w2 ⟨rfl, hb2⟩)
      have b3 := (Below.refl w2.heap.size w2).alloc (Nat.le_refl _) (.cells #[.int .i64 p.id, .int .i64 p.disk, .int .i64 p.size, .int .i64 p.root] 60)
      go_wp2
      go_ret2
      exact ⟨rfl, by simp, Turn.of_below (belowThen hb2 b3)⟩

section
variable {X X1 : IdxM} {rt sz n1 : Nat} {p : Int × ByteArray} {l : List (Int × ByteArray)} {e1 : Int}
theorem puts_bound (h : p.1 < 0 ∨ (sz : Int) ≤ p.1) : putsX X rt sz (p :: l) = (X, 0, 1) := by
  simp only [putsX, if_pos h]
theorem puts_same (h : ¬ (p.1 < 0 ∨ (sz : Int) ≤ p.1)) (hg : ((X.get rt p.1.toNat).toList == p.2.toList) = true) : putsX X rt sz (p :: l) = putsX X rt sz l := by
  simp only [putsX, if_neg h, if_pos hg]
theorem puts_ok (h : ¬ (p.1 < 0 ∨ (sz : Int) ≤ p.1)) (hg : ((X.get rt p.1.toNat).toList == p.2.toList) = false) (hR : replaceX X rt p.1.toNat p.2 = (X1, n1, 0)) : putsX X rt sz (p :: l) = putsX X1 n1 sz l := by
  rw [putsX, if_neg h, if_neg (by simp [hg]), hR]
  simp
theorem puts_no (h : ¬ (p.1 < 0 ∨ (sz : Int) ≤ p.1)) (hg : ((X.get rt p.1.toNat).toList == p.2.toList) = false) (hR : replaceX X rt p.1.toNat p.2 = (X1, n1, e1)) (he : e1 ≠ 0) : putsX X rt sz (p :: l) = (X1, 0, e1) := by
  rw [putsX, if_neg h, if_neg (by simp [hg]), hR]
  simp [he]
end

theorem ingest_start {V : VauM} {base disk size : Int} {ps : List (Int × ByteArray)} (h : ¬ (disk < 1 ∨ 999 < disk ∨ size < 1 ∨ 16 < size)) {X1 : IdxM} {n1 : Nat} {e1 : Int} (hS : startX V base disk size.toNat = (X1, n1, e1)) : ingestErr V base disk size ps = if e1 ≠ 0 then e1 else if (putsX X1 n1 size.toNat ps).2.2 ≠ 0 then (putsX X1 n1 size.toNat ps).2.2 else addErr V := by
  unfold ingestErr
  rw [if_neg h, hS]

set_option maxHeartbeats 2000000 in
set_option maxRecDepth 100000 in
theorem ingest_any (w : World) (v x gp bp bn B : Nat) (lv : Value) (V V' : VauM) (base disk size : Int) (A : Option Addr) (c : Nat) (ps : List (Int × ByteArray)) (h : VauAt w v x gp bp bn B lv V) (hV : V.Ok) (hB : B ≤ w.heap.size) (hps : PutList w A ps) (ne : Int) (m : Nat) (he : ingestErr V base disk size ps = ne) (hm : (if ne = 0 then V.next else 0) = m) (hV' : ingestV V base disk size ps = V') :
    Calls Tryz.prog 33 #[.pointer (some ⟨v, 0, none⟩), .int .i64 base, .int .i64 disk, .int .i64 size, .slice A ps.length c] w (VauRet w v x gp bp bn B lv V' ne (.tuple #[.int .i64 m, errV ne])) := by
  by_cases hb : disk < 1 ∨ 999 < disk ∨ size < 1 ∨ 16 < size
  · have he' : ne = 1 := by rw [← he]; unfold ingestErr; rw [if_pos hb]
    subst he'
    have hm' : m = 0 := by rw [← hm]; rfl
    subst hm'
    clear h he hm
    by_cases h1 : disk < 1
    · have h1' : decide (disk < 1) = true := by simpa using h1
      go_enter Tryz.func33, Tryz.ntmps33
      go_wp2
      go_ret2
      exact ⟨rfl, by simp, Turn.refl _ _⟩
    have h1' : decide (disk < 1) = false := by simpa using h1
    by_cases h2 : 999 < disk
    · have h2' : decide (999 < disk) = true := by simpa using h2
      go_enter Tryz.func33, Tryz.ntmps33
      go_wp2
      go_ret2
      exact ⟨rfl, by simp, Turn.refl _ _⟩
    have h2' : decide (999 < disk) = false := by simpa using h2
    by_cases h3 : size < 1
    · have h3' : decide (size < 1) = true := by simpa using h3
      go_enter Tryz.func33, Tryz.ntmps33
      go_wp2
      go_ret2
      exact ⟨rfl, by simp, Turn.refl _ _⟩
    have h3' : decide (size < 1) = false := by simpa using h3
    have h4 : 16 < size := by omega
    have h4' : decide (16 < size) = true := by simpa using h4
    go_enter Tryz.func33, Tryz.ntmps33
    go_wp2
    go_ret2
    exact ⟨rfl, by simp, Turn.refl _ _⟩
  obtain ⟨X1, n1, e1, hS⟩ := triple (startX V base disk size.toNat)
  rw [ingest_start hb hS] at he
  have HV' := Lib.hid (show V' = addV ⟨(putsX X1 n1 size.toNat ps).1, V.L, V.next⟩ disk.toNat size.toNat (putsX X1 n1 size.toNat ps).2.1 by rw [← hV']; unfold ingestV; rw [hS])
  obtain ⟨X2, n2, e2, hP⟩ := triple (putsX X1 n1 size.toNat ps)
  rw [hP] at he HV'
  simp only at he HV'
  have hb1 : ¬ disk < 1 := by omega
  have hb2 : ¬ 999 < disk := by omega
  have hb3 : ¬ size < 1 := by omega
  have hb4 : ¬ 16 < size := by omega
  obtain ⟨sz, rfl⟩ := Int.eq_ofNat_of_zero_le (show 0 ≤ size by omega)
  obtain ⟨dk, rfl⟩ := Int.eq_ofNat_of_zero_le (show 0 ≤ disk by omega)
  simp only [Int.toNat_natCast] at hS hP HV'
  have i1 : decide ((dk : Int) < 1) = false := by simpa using hb1
  have i2 : decide ((999 : Int) < (dk : Int)) = false := by simpa using hb2
  have i3 : decide ((sz : Int) < 1) = false := by simpa using hb3
  have i4 : decide ((16 : Int) < (sz : Int)) = false := by simpa using hb4
  have HST := Lib.hid (start_any w v x gp bp bn B lv V base dk sz h hV X1 n1 e1 hS)
  have HH := Lib.hid h
  have HPS := Lib.hid hps
  have HP := Lib.hid hP
  have HE := Lib.hid he
  have HMM := Lib.hid hm
  have HSG := Lib.hid (fun h0 : e1 = 0 => start_good hV base dk sz (by omega) (hS.trans (by rw [h0])))
  have HL := Lib.hid (heldOf_len V.L)
  have hl6 := hV.len
  have hn6 := hV.next
  clear h hps hP he hm hV' hS hb
  go_enter Tryz.func33, Tryz.ntmps33
  go_wp2_with fail
  ((with_reducible refine HST.out.mono ?_); rintro e w2 ⟨rfl, h2, t2⟩)
  by_cases he1 : e1 = 0
  · subst he1
    have hv0 : errV 0 = .nilIface := rfl
    rw [hv0]
    obtain ⟨g1, _, _, g4⟩ := HSG.out rfl
    have h2' := h2 rfl
    have HM2 := Lib.hid h2'.maps
    have HPS2 := Lib.hid (HPS.out.keep fun a u hc => mapKept t2 HH.out.idx.maps hc)
    have c2 := mapKept t2 HH.out.idx.maps HH.out.cell0
    have T2 := Lib.hid t2
    have hpl := HPS.out.1
    unfold maxLen at hpl
    clear hv0 h2 HST HSG t2
    go_wp2
    go_loopw [12, 44] (fun r j w' => ∃ (i rt : Nat) (X : IdxM), r = .int .i64 rt ∧ j = .int .i64 i ∧ i ≤ ps.length ∧ rt ≤ 24 ∧ Inv X (opt rt (heldOf V.L)) [] [] ∧ IdxAt w' x gp bp bn 1000 X ∧ Turn [bp, bn] w2 w' ∧ putsX X rt sz (ps.drop i) = (X2, n2, e2)) (fun _ j _ => ps.length - (intOf j).toNat)
    case atStart => exact ⟨0, n1, X1, rfl, rfl, Nat.zero_le _, g4, g1, h2', Turn.refl _ _, HP.out⟩
    case round =>
      obtain ⟨i, rt, X, rfl, rfl, hi, hrt, hI, hX, ht, hT⟩ := hrel
      clear h2' g1 g4
      have c0 := mapKept ht HM2.out c2
      by_cases hlt : i < ps.length
      · obtain ⟨b, off, rfl, q1, q2, q3⟩ := (HPS2.out.keep fun a u hc => mapKept ht HM2.out hc).2 i hlt
        rw [List.drop_eq_getElem_cons hlt] at hT
        have hlen : (ps.drop (i + 1)).length = ps.length - (i + 1) := by simp
        generalize ps[i] = q at hT q1 q2 q3
        obtain ⟨at_, data⟩ := q
        simp only at q1 q2 q3
        have j1 : (i : Int) < (ps.length : Int) := by omega
        have j2 : IntKind.i64.wrap ((i : Int) + 1) = (i : Int) + 1 := IntWalk.i64_in _ (by omega)
        have HT := Lib.hid hT
        clear hT hlen
        by_cases hA0 : at_ < 0
        · have hA0' : decide (at_ < 0) = true := by simpa using hA0
          have hT2 := HT.out
          rw [puts_bound (.inl hA0)] at hT2
          injection hT2 with a1 a2
          injection a2 with a2 a3
          subst a1 a2 a3
          have hne : ne = 1 := by have := HE.out; simp at this; exact this.symm
          subst hne
          have hm0 : m = 0 := by rw [← HMM.out]; rfl
          subst hm0
          have b3 := (Below.refl wr.heap.size wr).alloc (Nat.le_refl _) (.cells #[.int .i64 at_, .string data] 73)
          go_wp2
          go_ret2
          exact ⟨rfl, by simp, (T2.out.trans (ht.trans (Turn.of_below b3))).mono (two_vbs _ _ _ _)⟩
        have hA0' : decide (at_ < 0) = false := by simpa using hA0
        by_cases hA1 : (sz : Int) ≤ at_
        · have hA1' : decide ((sz : Int) ≤ at_) = true := by simpa using hA1
          have hT2 := HT.out
          rw [puts_bound (.inr hA1)] at hT2
          injection hT2 with a1 a2
          injection a2 with a2 a3
          subst a1 a2 a3
          have hne : ne = 1 := by have := HE.out; simp at this; exact this.symm
          subst hne
          have hm0 : m = 0 := by rw [← HMM.out]; rfl
          subst hm0
          have b3 := (Below.refl wr.heap.size wr).alloc (Nat.le_refl _) (.cells #[.int .i64 at_, .string data] 73)
          go_wp2
          go_ret2
          exact ⟨rfl, by simp, (T2.out.trans (ht.trans (Turn.of_below b3))).mono (two_vbs _ _ _ _)⟩
        have hA1' : decide ((sz : Int) ≤ at_) = false := by simpa using hA1
        have hA : ¬ (at_ < 0 ∨ (sz : Int) ≤ at_) := by omega
        obtain ⟨a, rfl⟩ := Int.eq_ofNat_of_zero_le (show 0 ≤ at_ by omega)
        obtain ⟨s, hs⟩ : ∃ s, X.get rt a = s := ⟨_, rfl⟩
        have b3 := (Below.refl wr.heap.size wr).alloc (Nat.le_refl _) (.cells #[.int .i64 a, .string data] 73)
        have e3 := heap_alloc_new wr (.cells #[.int .i64 a, .string data] 73)
        have d0 : (wr.alloc (.cells #[.int .i64 a, .string data] 73)).cell? ⟨wr.heap.size, 0, none⟩ = some (.int .i64 a) := cell_of_row _ _ _ _ _ _ e3
        have d1 : (wr.alloc (.cells #[.int .i64 a, .string data] 73)).cell? ⟨wr.heap.size, 1, none⟩ = some (.string data) := cell_of_row _ _ _ _ _ _ e3
        have c3 := belowKept b3 c0
        have hX3 := hX.below b3
        have ht3 := ht.trans (Turn.of_below b3)
        clear c0 b3 e3 hX ht
        go_wp2_with fail
        generalize wr.alloc (.cells #[.int .i64 a, .string data] 73) = W at *
        generalize wr.heap.size = gz at *
        have HG := Lib.hid (idxGet_e W.drew x gp bp bn 1000 X rt a s (hX3.below (Below.refl _ _).drew) (by omega) (by omega) hs)
        have HK := Lib.hid (fun w' (hb : Below W.heap.size W.drew w') => show w'.cell? ⟨v, 0, none⟩ = some (.pointer (some ⟨x, 0, none⟩)) ∧ w'.cell? ⟨gz, 0, none⟩ = some (.int .i64 a) ∧ w'.cell? ⟨gz, 1, none⟩ = some (.string data) from ⟨belowKept (w := W.drew) hb c3, belowKept (w := W.drew) hb d0, belowKept (w := W.drew) hb d1⟩)
        go_region_held3 (fun w' => w'.cell? ⟨v, 0, none⟩ = some (.pointer (some ⟨x, 0, none⟩)) ∧ w'.cell? ⟨gz, 0, none⟩ = some (.int .i64 a) ∧ w'.cell? ⟨gz, 1, none⟩ = some (.string data)) (first | exact ⟨c3, d0, d1⟩ | exact HK.out _ hb4)
          (first | (go_at_call 59; refine HG.out.mono ?_; rintro e w4 ⟨rfl, hb4⟩))
        all_goals
          obtain ⟨k0, k1, k2⟩ := HK.out _ hb4
          have hX4 := (hX3.below (Below.refl _ _).drew).below hb4
          have ht4 := ht3.drew.trans (Turn.of_below hb4)
          clear HG HK c3 d0 d1 hb4 hX3 ht3
          cases hst : (s.toList == data.toList) with
          | true =>
            have hT2 := HT.out
            rw [puts_same (p := ((a : Int), data)) (X := X) (rt := rt) (sz := sz) hA (by simpa [hs] using hst)] at hT2
            have HT2 := Lib.hid hT2
            clear hT2 HT
            go_wp2
            go_roundw
            case rel => exact ⟨i + 1, rt, X, rfl, by go_num, by omega, hrt, hI, hX4, ht4, HT2.out⟩
            case measure => simp [intOf]; omega
          | false =>
            obtain ⟨X3, n3, e3, hR⟩ := triple (replaceX X rt a data)
            have hR' : replaceX X rt ((a : Int), data).1.toNat ((a : Int), data).2 = (X3, n3, e3) := hR
            have HREP := Lib.hid (replace_any w4 v x gp bp bn X rt a data X3 n3 e3 k0 hX4 hrt (by omega) (by unfold maxLen at q3; omega) hR)
            have hst' : ((X.get rt ((a : Int), data).1.toNat).toList == ((a : Int), data).2.toList) = false := by simpa [hs] using hst
            have HR' := Lib.hid hR'
            have HST' := Lib.hid hst'
            clear hR hR' hst'
            go_wp2_with fail
            ((with_reducible refine HREP.out.mono ?_); rintro e w6 ⟨rfl, h6, t6⟩)
            by_cases he : e3 = 0
            · subst he
              have hv0 : errV 0 = .nilIface := rfl
              rw [hv0]
              obtain ⟨g1, _, _, g4⟩ := replace_good (at_ := a) (data := data) hI (by omega) HR'.out
              have h6' := h6.renorm g1 (Nat.le_trans (opt_len _ _) (by have := HL.out; omega))
              have hT2 := HT.out
              rw [puts_ok (p := ((a : Int), data)) (X := X) (rt := rt) (sz := sz) (X1 := X3) (n1 := n3) hA HST'.out HR'.out] at hT2
              have HT2 := Lib.hid hT2
              clear HREP hv0 hT2 HT
              go_wp2
              go_roundw
              case rel => exact ⟨i + 1, n3, X3, rfl, by go_num, by omega, g4, g1, h6', ht4.trans t6, HT2.out⟩
              case measure => simp [intOf]; omega
            · have hv : errV e3 = .iface 93 (.int .i64 e3) := by simp [errV, he]
              have HV := Lib.hid hv
              have HN := Lib.hid he
              rw [hv]
              have hT2 := HT.out
              rw [puts_no (p := ((a : Int), data)) (X := X) (rt := rt) (sz := sz) (X1 := X3) (n1 := n3) (e1 := e3) hA HST'.out HR'.out he] at hT2
              injection hT2 with a1 a2
              injection a2 with a2 a3
              subst a1 a2 a3
              have hne : ne = e3 := by have := HE.out; rw [if_neg (by simp), if_pos he] at this; exact this.symm
              subst hne
              have hm0 : m = 0 := by rw [← HMM.out, if_neg he]
              subst hm0
              clear hv HREP HT HR' he
              go_wp2
              go_ret2
              exact ⟨by rw [HV.out]; rfl, fun h0 => absurd h0 HN.out, (T2.out.trans (ht4.trans t6)).mono (two_vbs _ _ _ _)⟩
      · obtain rfl : i = ps.length := by omega
        rw [List.drop_length] at hT
        simp only [putsX] at hT
        injection hT with a1 a2
        injection a2 with a2 a3
        subst a1 a2 a3
        have j1 : ¬ ((ps.length : Int) < (ps.length : Int)) := by omega
        have he' : addErr V = ne := by have := HE.out; rw [if_neg (by simp), if_neg (by simp)] at this; exact this
        have tw := T2.out.trans ht
        have hvw := HH.out.turned hX tw
        have HA := Lib.hid (vAddS wr v x gp bp bn B lv ⟨X, V.L, V.next⟩ V' dk sz rt hvw hl6 hn6.2 (Nat.le_trans hB tw.size) ne m he' HMM.out HV'.out.symm)
        clear hvw he' hX
        go_wp2_with fail
        ((with_reducible refine HA.out.mono ?_); rintro e w6 ⟨rfl, h6, t6⟩)
        go_wp2
        go_ret2
        exact ⟨rfl, fun h0 => by obtain ⟨lv6, q6, l6⟩ := h6 h0; exact ⟨lv6, q6, l6.down tw.size⟩, (tw.mono (two_vbs _ _ _ _)).trans t6⟩
  · have hne : ne = e1 := by have := HE.out; rw [if_pos he1] at this; exact this.symm
    subst hne
    have hm0 : m = 0 := by rw [← HMM.out, if_neg he1]
    subst hm0
    have hv : errV ne = .iface 93 (.int .i64 ne) := by simp [errV, he1]
    have HV := Lib.hid hv
    have HN := Lib.hid he1
    rw [hv]
    clear hv HST HSG he1
    go_wp2
    go_ret2
    exact ⟨by rw [HV.out]; rfl, fun h0 => absurd h0 HN.out, t2.mono (two_vbs _ _ _ _)⟩
end Go.Proofs.YtlgahdabhnhjgaaGreatDoor
