/- Arguments that are changes, opened. -/
import Derived.Test.YtlgahdabhnhjgaaGreatDoorZqKept
import Derived.Test.YtlgahdabhnhjgaaGreatDoorZqRThr
import Derived.Test.YtlgahdabhnhjgaaGreatDoorZqRRow
import Derived.Test.YtlgahdabhnhjgaaGreatDoorZqBack
import Derived.Deep.DeepCutAuto
import Derived.Deep.CutBlock
import Derived.Test.YtlgahdabhnhjgaaGreatDoorZqImT
import Derived.LaidSub
import Derived.Test.YtlgahdabhnhjgaaGreatDoorZqPar
import Derived.Stop.LaidErr
import Derived.Test.YtlgahdabhnhjgaaGreatDoorZqLight
import Derived.Test.YtlgahdabhnhjgaaGreatDoorZqGv
/- ImageSays: the walk. -/
namespace Go.Proofs.YtlgahdabhnhjgaaGreatDoor
open Go.RowKit Go.Maps

theorem chgM_mem : ∀ (a b : List Ch) (x : Ch), x ∈ chgM a b → (∃ y ∈ a, x = goneCh y) ∨ x ∈ b := by
  intro a b
  induction a, b using chgM.induct with
  | case1 => intro x hx; simp [chgM] at hx
  | case2 y a ih => intro x hx; simp only [chgM, List.mem_cons] at hx; rcases hx with rfl | hx; exact .inl ⟨y, by simp, rfl⟩; rcases ih x hx with ⟨z, hz, e⟩ | h; exact .inl ⟨z, by simp [hz], e⟩; exact .inr h
  | case3 y b ih => intro x hx; simp only [chgM, List.mem_cons] at hx; rcases hx with rfl | hx; exact .inr (by simp); rcases ih x hx with ⟨z, hz, e⟩ | h; exact .inl ⟨z, by simp [hz], e⟩; exact .inr (by simp [h])
  | case4 y a z b h ih => intro x hx; rw [chgM, if_pos h, List.mem_cons] at hx; rcases hx with rfl | hx; exact .inl ⟨y, by simp, rfl⟩; rcases ih x hx with ⟨z, hz, e⟩ | h; exact .inl ⟨z, by simp [hz], e⟩; exact .inr h
  | case5 y a z b h h2 ih => intro x hx; rw [chgM, if_neg h, if_pos h2, List.mem_cons] at hx; rcases hx with rfl | hx; exact .inr (by simp); rcases ih x hx with ⟨z, hz, e⟩ | h; exact .inl ⟨z, hz, e⟩; exact .inr (by simp [h])
  | case6 y a z b h h2 ih => intro x hx; rw [chgM, if_neg h, if_neg h2, List.mem_append] at hx; rcases hx with hx | hx; split at hx; simp at hx; simp at hx; exact .inr (by simp [hx]); rcases ih x hx with ⟨z, hz, e⟩ | h; exact .inl ⟨z, by simp [hz], e⟩; exact .inr (by simp [h])
theorem chgM_sizes {a b : List Ch} (ha : ∀ x ∈ a, x.key.size ≤ maxLen ∧ x.val.size ≤ maxLen) (hb : ∀ x ∈ b, x.key.size ≤ maxLen ∧ x.val.size ≤ maxLen) : ∀ x ∈ chgM a b, x.key.size ≤ maxLen ∧ x.val.size ≤ maxLen := fun x hx => by
  rcases chgM_mem a b x hx with ⟨y, hy, rfl⟩ | h
  · exact ⟨(ha y hy).1, by show 0 ≤ maxLen; omega⟩
  · exact hb x h
theorem chgM_len : ∀ a b : List Ch, (chgM a b).length ≤ a.length + b.length := by
  intro a b
  induction a, b using chgM.induct with
  | case1 => simp [chgM]
  | case2 y a ih => simp only [chgM, List.length_cons]; simp only [List.length_nil] at ih ⊢; omega
  | case3 y b ih => simp only [chgM, List.length_cons]; simp only [List.length_nil] at ih ⊢; omega
  | case4 y a z b h ih => rw [chgM, if_pos h]; simp only [List.length_cons] at ih ⊢; omega
  | case5 y a z b h h2 ih => rw [chgM, if_neg h, if_pos h2]; simp only [List.length_cons] at ih ⊢; omega
  | case6 y a z b h h2 ih => rw [chgM, if_neg h, if_neg h2]; simp only [List.length_cons, List.length_append] at ih ⊢; split <;> simp only [List.length_cons, List.length_nil] <;> omega
theorem rrows_chs (w : World) (v g B : Nat) (lv : Value) (V : VauM) (h : RVauAt w v g B lv V) (hV : V.Ok0) (hD : Small V.X.P) (l : List Ch) (hl : rowsM V = l) :
    Calls Tryz.prog 18 #[.pointer (some ⟨v, 0, none⟩)] w fun e w' => ∃ C c, e = .returned (.slice C l.length c) ∧ True ∧ ChsAt w' C l ∧ Below w.heap.size w w' := by
  subst hl
  refine (rrows_any w v g B lv V h hV hD).mono ?_
  rintro e w' ⟨C, c, rfl, hO, hb⟩
  exact ⟨C, c, rfl, trivial, chs_own hO (rowsM_small hV hD).1, hb⟩

set_option maxHeartbeats 8000000 in
set_option maxRecDepth 100000 in
theorem imageSays_walk (A R O : Option Addr) (cA cR cO : Nat) (l : List ActM) (rows others : List Ch) (w : World) (hA : ActsAt w w.heap.size A l) (hR : ChsAt w R rows) (hO : ChsAt w O others) (hln : rows.length ≤ maxLen) (hlo : others.length ≤ maxLen) (hcR : rows.length ≤ cR) (hcO : others.length ≤ cO) (htab : Tab w) (herr : Errs w) :
    Calls Tryz.prog 3 #[.slice A l.length cA, .slice R rows.length cR, .slice O others.length cO] w fun e w' => e = .returned (.bool true) ∧ Below w.heap.size w w' := by
  have HT := Lib.hid (fun w' (hb : Below w.heap.size w w') => htab.below hb)
  have HE := Lib.hid (fun w' (hb : Below w.heap.size w w') => herr.below hb)
  have HA := Lib.hid (fun w' (hb : Below w.heap.size w w') => hA.below hb)
  have HR := Lib.hid (fun w' (hb : Below w.heap.size w w') => hR.below hb)
  have HO := Lib.hid (fun w' (hb : Below w.heap.size w w') => hO.below hb)
  have HLN := Lib.hid (show rows.length ≤ maxLen ∧ others.length ≤ maxLen ∧ rows.length ≤ cR ∧ others.length ≤ cO from ⟨hln, hlo, hcR, hcO⟩)
  have HIM := Lib.hid (images_any w htab herr)
  clear htab herr hA hR hO hln hlo hcR hcO
  go_enter Tryz.func3, Tryz.ntmps3
  go_wp2_with fail
  ((with_reducible refine HIM.out.mono ?_); rintro e w1 ⟨rfl, hb1⟩)
  have HL := Lib.hid (lightActs_any A l cA 30 w1 (HA.out _ hb1))
  clear HIM
  go_wp2_with fail
  ((with_reducible refine HL.out.mono ?_); rintro e w2 ⟨r, rfl, hr, hb2⟩)
  replace hb2 := belowThen hb1 hb2
  clear hb1 HL
  cases r with
  | false =>
    go_wp2
    go_ret
    exact ⟨rfl, hb2⟩
  | true =>
  have hl30 := hr rfl
  have HL1 := Lib.hid (lightChsS_any R rows cR 90 w2 HLN.out.1 (HR.out _ hb2))
  clear hr
  go_wp2_with fail
  ((with_reducible refine HL1.out.mono ?_); rintro e w3 ⟨r, rfl, hr, hb3⟩)
  replace hb3 := belowThen hb2 hb3
  clear hb2 HL1
  cases r with
  | false =>
    go_wp2
    go_ret
    exact ⟨rfl, hb3⟩
  | true =>
  obtain ⟨hr90, hrs⟩ := hr rfl
  have HL2 := Lib.hid (lightChsS_any O others cO 90 w3 HLN.out.2.1 (HO.out _ hb3))
  have HRS := Lib.hid hrs
  clear hr hrs
  go_wp2_with fail
  ((with_reducible refine HL2.out.mono ?_); rintro e w4 ⟨r, rfl, hr, hb4⟩)
  replace hb4 := belowThen hb3 hb4
  clear hb3 HL2
  cases r with
  | false =>
    go_wp2
    go_ret
    exact ⟨rfl, hb4⟩
  | true =>
  have ho90 := (hr rfl).1
  clear hr
  go_wp2_with fail
  ((with_reducible refine (vauNew_any _).mono ?_); rintro e w5 ⟨v, x, gp, bp, bn, rfl, h5, hf, hb5⟩)
  go_wp2_with fail
  ((with_reducible refine (rvauNew_any _).mono ?_); rintro e w6 ⟨mv, gm, rfl, hm6, hm1, hm2, hb6⟩)
  have hv6 : VauIn w6 v emptyVau := ⟨_, _, _, _, _, _, h5.below hb6⟩
  have hm6' : RVauIn w6 mv emptyVau := ⟨_, _, _, hm6⟩
  have hb := belowThen (belowThen hb4 hb5) hb6
  clear h5 hf hm6 hb4 hb5 hb6 hm1 hm2
  go_wp2
  go_loopw [8, 9, 10] (fun pv pm i w' => ∃ (k u um : Nat) (V : VauM), k ≤ l.length ∧ pv = .pointer (some ⟨u, 0, none⟩) ∧ pm = .pointer (some ⟨um, 0, none⟩) ∧ i = .int .i64 k ∧ VauIn w' u V ∧ RVauIn w' um V ∧ Sound V ∧ Below w.heap.size w w') (fun _ _ i _ => l.length - (intOf i).toNat)
  case atStart => exact ⟨0, v, mv, emptyVau, Nat.zero_le _, rfl, rfl, rfl, hv6, hm6', sound_empty, hb⟩
  case round =>
    obtain ⟨k, u, um, V, hk, rfl, rfl, rfl, hvu, hvm, hS, hbr⟩ := hrel
    clear hv6 hm6' hb
    by_cases hlt : k < l.length
    · --< acts
      obtain ⟨ga, off, rfl, hact⟩ := (HA.out _ hbr).2 k hlt
      obtain ⟨ps, hpl, hps⟩ := hact.puts
      have hplt := hact.putsLt
      have hc := hact.2.1
      have d0 : wr.cell? ⟨ga, off + k * 9, none⟩ = some (.string l[k].kind) := hc 0 (by omega)
      have d1 : wr.cell? ⟨ga, off + k * 9 + 1, none⟩ = some (.string l[k].s) := hc 1 (by omega)
      have d2 : wr.cell? ⟨ga, off + k * 9 + 2, none⟩ = some (.int .i64 l[k].a) := hc 2 (by omega)
      have d3 : wr.cell? ⟨ga, off + k * 9 + 3, none⟩ = some (.int .i64 l[k].b) := hc 3 (by omega)
      have d4 : wr.cell? ⟨ga, off + k * 9 + 4, none⟩ = some (.int .i64 l[k].c) := hc 4 (by omega)
      have d5 : wr.cell? ⟨ga, off + k * 9 + 5, none⟩ = some (.int .i64 l[k].d) := hc 5 (by omega)
      have d6 : wr.cell? ⟨ga, off + k * 9 + 6, none⟩ = some (.int .u64 l[k].k) := hc 6 (by omega)
      have d7 : wr.cell? ⟨ga, off + k * 9 + 7, none⟩ = some (.slice l[k].pA l[k].pL l[k].pC) := hc 7 (by omega)
      have d8 : wr.cell? ⟨ga, off + k * 9 + 8, none⟩ = some (.slice l[k].cA l[k].cL l[k].cC) := hc 8 (by omega)
      have hgl : ga < wr.heap.size := World.block_lt_of_cell? _ _ d0
      have i1 : (k : Int) < (l.length : Int) := by omega
      clear hc hact
      generalize l[k] = m at d0 d1 d2 d3 d4 d5 d6 d7 d8 hps hpl hplt
      have HC := Lib.hid (fun w' (h : Below wr.heap.size wr w') => show w'.cell? ⟨ga, off + k * 9, none⟩ = some (.string m.kind) ∧ w'.cell? ⟨ga, off + k * 9 + 1, none⟩ = some (.string m.s) ∧ w'.cell? ⟨ga, off + k * 9 + 2, none⟩ = some (.int .i64 m.a) ∧ w'.cell? ⟨ga, off + k * 9 + 3, none⟩ = some (.int .i64 m.b) ∧ w'.cell? ⟨ga, off + k * 9 + 4, none⟩ = some (.int .i64 m.c) ∧ w'.cell? ⟨ga, off + k * 9 + 5, none⟩ = some (.int .i64 m.d) ∧ w'.cell? ⟨ga, off + k * 9 + 6, none⟩ = some (.int .u64 m.k) ∧ w'.cell? ⟨ga, off + k * 9 + 7, none⟩ = some (.slice m.pA m.pL m.pC) ∧ w'.cell? ⟨ga, off + k * 9 + 8, none⟩ = some (.slice m.cA m.cL m.cC) from ⟨(h.cell hgl).trans d0, (h.cell hgl).trans d1, (h.cell hgl).trans d2, (h.cell hgl).trans d3, (h.cell hgl).trans d4, (h.cell hgl).trans d5, (h.cell hgl).trans d6, (h.cell hgl).trans d7, (h.cell hgl).trans d8⟩)
      have hV := hS.1
      obtain ⟨x0, gp0, bp0, bn0, B0, lv0, h0⟩ := hvu
      obtain ⟨g0, B0', lm0, r0⟩ := hvm
      have HC1 := Lib.hid (vauCopy_any wr u x0 gp0 bp0 bn0 B0 lv0 V h0 hV)
      have HVA := Lib.hid (show VauIn wr u V from ⟨x0, gp0, bp0, bn0, B0, lv0, h0⟩)
      have HMA := Lib.hid (show RVauIn wr um V from ⟨g0, B0', lm0, r0⟩)
      have HC2 := Lib.hid (fun w' (h : Below wr.heap.size wr w') => rvauCopy_any w' um g0 B0' lm0 V (r0.below h) hV)
      have HBA := Lib.hid hbr
      have HPSA := Lib.hid hps
      have HS := Lib.hid hS
      clear h0 r0 hbr hps hS d0 d1 d2 d3 d4 d5 d6 d7 d8 hgl
      go_wp2_with fail
      (refine HC1.out.mono ?_; rintro e w1 ⟨v1, x1, gp1, bp1, bn1, lv1, rfl, h1, hf1, hb1⟩)
      have HC2' := Lib.hid (HC2.out w1 hb1)
      clear HC1 HC2
      go_wp2_with fail
      (refine HC2'.out.mono ?_; rintro e w2 ⟨m1, g1, lm1, rfl, hm2, hmf1, hmf2, hb2⟩)
      clear HC2'
      have hb02 := belowThen hb1 hb2
      have hs1 : wr.heap.size ≤ w1.heap.size := hb1.size
      have hs2 : w1.heap.size ≤ w2.heap.size := hb2.size
      obtain ⟨ne, hne⟩ : ∃ ne, keptE V m ps = ne := ⟨_, rfl⟩
      obtain ⟨n, hn⟩ : ∃ n, keptN V m ps = n := ⟨_, rfl⟩
      obtain ⟨V1, hV1⟩ : ∃ V1, keptV V m ps = V1 := ⟨_, rfl⟩
      have hne0 : 0 ≤ ne := by rw [← hne]; exact keptE_nonneg V m ps
      have HOK1 := Lib.hid (fun (h0 : ne = 0) => show Sound V1 by rw [← hV1]; exact sound_kept HS.out m ps (hne.trans h0))
      have HK := Lib.hid (kept_any w2 v1 x1 gp1 bp1 bn1 wr.heap.size lv1 V V1 m ps (h1.below hb2) (Nat.le_trans hs1 hs2) hV (HPSA.out.below hb02) hpl ne n hne hn hV1)
      have HFROM := Lib.hid (show ∀ b ∈ vbs v1 bp1 bn1 lv1, wr.heap.size ≤ b from vbs_from hf1 h1.pts)
      have HOLD := Lib.hid (show ∀ b ∈ vbs v1 bp1 bn1 lv1, b < w1.heap.size from h1.old)
      have HNW := Lib.hid (show v1 < w1.heap.size ∧ x1 < w1.heap.size ∧ gp1 < w1.heap.size ∧ bp1 < w1.heap.size ∧ bn1 < w1.heap.size from ⟨h1.lt, h1.idx.lt, h1.idx.pool.lt, h1.idx.pool.ltb, h1.idx.ltn⟩)
      have HLV1 := Lib.hid (show ∀ b, lv1.ownBlock = some b → b < w1.heap.size from fun b hb => (World.ownsRow.lt h1.pts b hb).2)
      have HKR := Lib.hid (fun w' (h' : RVauAt w' m1 g1 w1.heap.size lm1 V) (hs : w1.heap.size ≤ w'.heap.size) (hp' : PutList w' m.pA ps) => keptRef_any w' m1 g1 w1.heap.size lm1 V V1 m ps h' hs hV hp' (fun a h0 ha => by have := hplt a (by omega) ha; omega) hpl ne n hne hn hV1)
      have HMOLD := Lib.hid (show ∀ b ∈ rbs m1 g1 lm1, w1.heap.size ≤ b ∧ b < w2.heap.size from fun b hb => ⟨rbs_from ⟨hmf1, hmf2⟩ hm2.pts b hb, hm2.old b hb⟩)
      have HM2 := Lib.hid hm2
      obtain ⟨a0, a1, a2, a3, a4, a5, a6, a7, a8⟩ := HC.out w2 hb02
      have HB02 := Lib.hid hb02
      clear hb02 hm2 h1 hb1 hb2 hf1 hne hn hV1
      go_wp2_with fail
      (refine HK.out.mono ?_; rintro e w3 ⟨rfl, h3, t3⟩)
      clear HK a0 a1 a2 a3 a4 a5 a6 a7 a8
      have hb03 : Below wr.heap.size wr w3 := HB02.out.trans (t3.below (Nat.le_trans hs1 hs2) HFROM.out)
      have hs3 : w2.heap.size ≤ w3.heap.size := t3.size
      have hm3 : RVauAt w3 m1 g1 w1.heap.size lm1 V := HM2.out.farTurn t3 HOLD.out hmf1 hmf2
      have HKR3 := Lib.hid (HKR.out w3 hm3 (by omega) (HPSA.out.below hb03))
      have H3 := Lib.hid h3
      obtain ⟨a0, a1, a2, a3, a4, a5, a6, a7, a8⟩ := HC.out w3 hb03
      have HB03 := Lib.hid hb03
      clear hb03 hm3 h3 t3 HKR HM2
      go_wp2_with fail
      (refine HKR3.out.mono ?_; rintro e w4 ⟨rfl, h4, t4⟩)
      clear HKR3 a0 a1 a2 a3 a4 a5 a6 a7 a8
      have hb04 : Below wr.heap.size wr w4 := HB03.out.trans (t4.below (by omega) (fun b hb => by have := HMOLD.out b hb; omega))
      have HNEW := Lib.hid (fun (e0 : ne = 0) => show VauIn w4 v1 V1 ∧ RVauIn w4 m1 V1 from by
        obtain ⟨lv3, q3, l3⟩ := H3.out e0
        exact ⟨⟨_, _, _, _, _, _, q3.farTurn (S1 := w1.heap.size) (S2 := w2.heap.size) t4 HMOLD.out HNW.out fun b hb => (l3 b hb).imp (HLV1.out b) id⟩, h4 e0⟩)
      have HV4 := Lib.hid (show VauIn w4 u V ∧ RVauIn w4 um V from ⟨HVA.out.below hb04, HMA.out.below hb04⟩)
      have HSAY := Lib.hid (fun w' => said_yes ne w' hne0)
      have HB4 := Lib.hid (belowThen HBA.out hb04)
      clear hb04 h4 t4 H3 HB03 HB02 HMOLD HFROM HOLD HNW HLV1 HVA HMA HC HPSA hV hplt
      go_wp2_with fail
      (refine (HSAY.out _).mono ?_; rintro e w5 ⟨rfl, rfl⟩)
      by_cases e0 : ne = 0
      · have he : (ne == 0) = true := by simpa using e0
        have HN6 := Lib.hid (HNEW.out e0)
        have HO6 := Lib.hid (HOK1.out e0)
        clear e0 HNEW HOK1 HV4 HS HSAY
        go_wp2
        go_roundw
        case rel => exact ⟨k + 1, v1, m1, V1, hlt, rfl, rfl, by go_num, HN6.out.1, HN6.out.2, HO6.out, HB4.out⟩
        case measure => simp [intOf]; omega
      · have he : (ne == 0) = false := by simpa using e0
        clear e0 HNEW HOK1 HSAY
        go_wp2
        go_roundw
        case rel => exact ⟨k + 1, u, um, V, hlt, rfl, rfl, by go_num, HV4.out.1, HV4.out.2, HS.out, HB4.out⟩
        case measure => simp [intOf]; omega
      --> acts
    · --< end
      obtain rfl : k = l.length := by omega
      obtain ⟨hok, hfl, hsm, hsh⟩ := hS
      obtain ⟨x0, gp0, bp0, bn0, B0, lv0, h0⟩ := hvu
      obtain ⟨g0, B0', lm0, r0⟩ := hvm
      obtain ⟨Z, hZ⟩ : ∃ Z, rowsM V = Z := ⟨_, rfl⟩
      have hgood := good_own hok hfl hsm hsh
      have h100 := rowsM_100 hok.ok0 hsm
      have hlen := (rowsM_small hok.ok0 hsm).2
      rw [hZ] at hgood h100 hlen
      have HGD := Lib.hid hgood
      have H100 := Lib.hid h100
      have HZ := Lib.hid hZ
      have HOK := Lib.hid hok
      have HV := Lib.hid (rows_chs wr u x0 gp0 bp0 bn0 B0 lv0 V h0 hok.ok0 hsm (HT.out _ hbr) Z hZ)
      have HM := Lib.hid (fun w' (hb : Below wr.heap.size wr w') => rrows_chs w' um g0 B0' lm0 V (r0.below hb) hok.ok0 hsm Z hZ)
      have HMA := Lib.hid (fun w' (hb : Below wr.heap.size wr w') => r0.below hb)
      have HBR := Lib.hid hbr
      clear hok hfl hsm hsh h0 r0 hZ hgood h100 hbr hlt hk
      go_wp2_with fail
      (refine HV.out.mono ?_; rintro e w1 ⟨C1, c1, rfl, _, hC1, hb1⟩)
      have HC1 := Lib.hid hC1
      clear HV hC1
      go_wp2_with fail
      (refine (HM.out w1 hb1).mono ?_; rintro e w2 ⟨C2, c2, rfl, _, hC2, hb2⟩)
      have hsc := sameChs_any w2 C1 C2 c1 c2 Z Z (HC1.out.below hb2) hC2 (by omega)
      rw [show decide (Z = Z) = true from by simp] at hsc
      have HSC := Lib.hid hsc
      have hb02 := belowThen hb1 hb2
      clear hsc hC2 HC1 hb1 hb2
      go_wp2_with fail
      (refine HSC.out.mono ?_; rintro e w3 ⟨rfl, hb3⟩)
      replace hb3 := belowThen hb02 hb3
      clear HSC hb02
      go_wp2_with fail
      (refine (HM.out w3 hb3).mono ?_; rintro e w4 ⟨C4, c4, rfl, _, hC4, hb4⟩)
      replace hb4 := belowThen hb3 hb4
      have HP := Lib.hid (parse_any w4 C4 c4 Z hC4 (by omega) (fun r hr => by have := (H100.out r hr).2; omega) (HE.out _ (belowThen HBR.out hb4)) (HT.out _ (belowThen HBR.out hb4)))
      clear hC4 hb3 HM
      go_wp2_with fail
      (refine HP.out.mono ?_; rintro e w5 ⟨hpr, hb5⟩)
      rcases hpr with ⟨_, y, x2, gp2, bp2, bn2, lv2, rfl, hy, hfy⟩ | ⟨hno, _⟩
      case inr => exact absurd HGD.out hno
      replace hb5 := belowThen hb4 hb5
      have hy' := hy.own HOK.out.ok0 HZ.out
      have HAV := Lib.hid (asVault_yes w5 y x2 gp2 bp2 bn2 _ um g0 B0' lv2 lm0 V hy' (HMA.out _ hb5) HOK.out)
      clear hy hy' hfy hb4 HP HMA HGD
      go_wp2_with fail
      (refine HAV.out.mono ?_; rintro e w6 ⟨rfl, hb6⟩)
      have hb6 := belowThen HBR.out (belowThen hb5 hb6)
      have HP2 := Lib.hid (parse_any w6 R cR rows (HR.out _ hb6) (by omega) (fun r hr => by have := (HRS.out r hr).2; omega) (HE.out _ hb6) (HT.out _ hb6))
      clear HAV hb5 H100 hlen HZ HOK HBR
      go_wp2_with fail
      (refine HP2.out.mono ?_; rintro e w7 ⟨hpr, hb7⟩)
      replace hb7 := belowThen hb6 hb7
      clear HP2 hb6
      rcases hpr with ⟨hgd, z, x3, gp3, bp3, bn3, lv3, rfl, hz, hfz⟩ | ⟨_, rfl⟩
      · obtain ⟨hok, _, hsm, _, hrow⟩ := good_ok hgd
        have HV := Lib.hid (rows_chs w7 z x3 gp3 bp3 bn3 _ lv3 _ hz hok.ok0 hsm (HT.out _ hb7) rows hrow)
        clear hgd hz hfz hok hsm hrow
        go_wp2_with fail
        (refine HV.out.mono ?_; rintro e w8 ⟨C8, c8, rfl, _, hC8, hb8⟩)
        replace hb8 := belowThen hb7 hb8
        have hsc := sameChs_any w8 C8 R c8 cR rows rows hC8 (HR.out _ hb8) (by omega)
        rw [show decide (rows = rows) = true from by simp] at hsc
        have HSC := Lib.hid hsc
        clear hsc hC8 hb7 HV
        go_wp2_with fail
        (refine HSC.out.mono ?_; rintro e w9 ⟨rfl, hb9⟩)
        have hb7 := belowThen hb8 hb9
        clear HSC hb8 hb9
        go_wp2
        go_loopw [20] (fun i w' => ∃ j : Nat, j ≤ 100 ∧ i = .int .i64 ((j : Int) + 1) ∧ Below w.heap.size w w') (fun i _ => 200 - (intOf i).toNat)
        case atStart => exact ⟨0, by omega, rfl, hb7⟩
        case round =>
          obtain ⟨j, hj, rfl, hb⟩ := hrel
          clear hb7
          have j0 : (0 : Int) ≤ (j : Int) := by omega
          have j1 : (0 : Int) ≤ (j : Int) + 1 := by omega
          by_cases h1 : j + 1 < rows.length
          · obtain ⟨b1, off1, rfl, _, x1, _⟩ := HR.out _ hb j (by omega)
            obtain ⟨b', off', e, _, y1, _⟩ := HR.out _ hb (j + 1) h1
            injection e with e
            injection e with e1 e2
            subst e1 e2
            generalize rows[j].key = xk1 at x1
            generalize rows[j + 1].key = yk1 at y1
            have i11 : (j : Int) + 1 < (rows.length : Int) := by omega
            have i21 : (j : Int) < (rows.length : Int) := by omega
            have t11 : decide ((j : Int) + 1 < (rows.length : Int)) = true := decide_eq_true (by omega)
            obtain ⟨q1, L1⟩ : ∃ q, (Op.bytesLess yk1.toList xk1.toList || yk1.toList == xk1.toList) = q := ⟨_, rfl⟩
            cases q1 with
            | true =>
              go_wp2_with fail
              go_quiet (fail)
              go_wp2
              go_ret
              exact ⟨rfl, below_drewN hb _⟩
            | false =>
              by_cases h2 : j + 1 < others.length
              · obtain ⟨b2, off2, rfl, _, x2, _⟩ := HO.out _ hb j (by omega)
                obtain ⟨b', off', e, _, y2, _⟩ := HO.out _ hb (j + 1) h2
                injection e with e
                injection e with e1 e2
                subst e1 e2
                generalize others[j].key = xk2 at x2
                generalize others[j + 1].key = yk2 at y2
                have i12 : (j : Int) + 1 < (others.length : Int) := by omega
                have i22 : (j : Int) < (others.length : Int) := by omega
                have t12 : decide ((j : Int) + 1 < (others.length : Int)) = true := decide_eq_true (by omega)
                obtain ⟨q2, L2⟩ : ∃ q, (Op.bytesLess yk2.toList xk2.toList || yk2.toList == xk2.toList) = q := ⟨_, rfl⟩
                cases q2 with
                | true =>
                  go_wp2_with fail
                  go_quiet (fail)
                  go_wp2
                  go_ret
                  exact ⟨rfl, below_drewN hb _⟩
                | false =>
                  go_wp2_with fail
                  go_quiet (fail)
                  go_wp2
                  go_roundw
                  case rel => exact ⟨j + 1, by omega, by go_num, below_drewN hb _⟩
                  case measure => simp [intOf]; omega
              · have t12 : decide ((j : Int) + 1 < (others.length : Int)) = false := decide_eq_false (by omega)
                go_wp2_with fail
                go_quiet (fail)
                go_wp2
                go_roundw
                case rel => exact ⟨j + 1, by omega, by go_num, below_drewN hb _⟩
                case measure => simp [intOf]; omega
          · have t11 : decide ((j : Int) + 1 < (rows.length : Int)) = false := decide_eq_false (by omega)
            by_cases h2 : j + 1 < others.length
            · obtain ⟨b2, off2, rfl, _, x2, _⟩ := HO.out _ hb j (by omega)
              obtain ⟨b', off', e, _, y2, _⟩ := HO.out _ hb (j + 1) h2
              injection e with e
              injection e with e1 e2
              subst e1 e2
              generalize others[j].key = xk2 at x2
              generalize others[j + 1].key = yk2 at y2
              have i12 : (j : Int) + 1 < (others.length : Int) := by omega
              have i22 : (j : Int) < (others.length : Int) := by omega
              have t12 : decide ((j : Int) + 1 < (others.length : Int)) = true := decide_eq_true (by omega)
              obtain ⟨q2, L2⟩ : ∃ q, (Op.bytesLess yk2.toList xk2.toList || yk2.toList == xk2.toList) = q := ⟨_, rfl⟩
              cases q2 with
              | true =>
                go_wp2_with fail
                go_quiet (fail)
                go_wp2
                go_ret
                exact ⟨rfl, below_drewN hb _⟩
              | false =>
                go_wp2_with fail
                go_quiet (fail)
                go_wp2
                go_roundw
                case rel => exact ⟨j + 1, by omega, by go_num, below_drewN hb _⟩
                case measure => simp [intOf]; omega
            · have t12 : decide ((j : Int) + 1 < (others.length : Int)) = false := decide_eq_false (by omega)
              have hCH := changes_any wr R O cR cO rows others (HR.out _ hb) (HO.out _ hb) HLN.out.2.2.1 HLN.out.2.2.2 (by omega) (by omega)
              have HCO := Lib.hid (fun w' (hb' : Below wr.heap.size wr w') => changesOf_any w' R O cR cO rows others (HR.out _ (belowThen hb hb')) (HO.out _ (belowThen hb hb')) (by omega) (by omega))
              have HSZ := Lib.hid (show ∀ x ∈ chgM rows others, x.key.size ≤ maxLen ∧ x.val.size ≤ maxLen from chgM_sizes (fun x hx => (HR.out _ hb).sizes x hx) (fun x hx => (HO.out _ hb).sizes x hx))
              have hlc := chgM_len rows others
              obtain ⟨Y, hY⟩ : ∃ Y, chgM rows others = Y := ⟨_, rfl⟩
              rw [hY] at hCH HCO HSZ hlc
              have HCH := Lib.hid hCH
              have HB := Lib.hid hb
              clear hCH hY hb
              go_wp2_with fail
              (refine HCH.out.mono ?_; rintro e w21 ⟨C1, c1, rfl, hO1, hb1⟩)
              have HC1 := Lib.hid (chs_own hO1 HSZ.out)
              clear hO1 HCH
              go_wp2_with fail
              (refine (HCO.out w21 hb1).mono ?_; rintro e w22 ⟨C2, c2, rfl, hO2, hb2⟩)
              have hsc := sameChs_any w22 C1 C2 c1 c2 Y Y (HC1.out.below hb2) (chs_own hO2 HSZ.out) (by omega)
              rw [show decide (Y = Y) = true from by simp] at hsc
              have HSC := Lib.hid hsc
              have hb02 := belowThen HB.out (belowThen hb1 hb2)
              clear hsc hO2 HC1 HCO hb1 hb2
              go_wp2_with fail
              (refine HSC.out.mono ?_; rintro e w23 ⟨rfl, hb3⟩)
              replace hb3 := belowThen hb02 hb3
              clear hb02 HSC
              go_wp2
              go_ret
              exact ⟨rfl, hb3⟩
      · rw [show (Value.iface 93 (.int .i64 4)) = errV 4 from rfl]
        have HSAY := Lib.hid (fun w' => said_yes 4 w' (by omega))
        have he : errV 4 = .iface 93 (.int .i64 4) := rfl
        go_wp2_with fail
        (refine (HSAY.out _).mono ?_; rintro e w8 ⟨rfl, rfl⟩)
        clear HSAY
        go_wp2
        go_loopw [20] (fun i w' => ∃ j : Nat, j ≤ 100 ∧ i = .int .i64 ((j : Int) + 1) ∧ Below w.heap.size w w') (fun i _ => 200 - (intOf i).toNat)
        case atStart => exact ⟨0, by omega, rfl, hb7⟩
        case round =>
          obtain ⟨j, hj, rfl, hb⟩ := hrel
          clear hb7
          have j0 : (0 : Int) ≤ (j : Int) := by omega
          have j1 : (0 : Int) ≤ (j : Int) + 1 := by omega
          by_cases h1 : j + 1 < rows.length
          · obtain ⟨b1, off1, rfl, _, x1, _⟩ := HR.out _ hb j (by omega)
            obtain ⟨b', off', e, _, y1, _⟩ := HR.out _ hb (j + 1) h1
            injection e with e
            injection e with e1 e2
            subst e1 e2
            generalize rows[j].key = xk1 at x1
            generalize rows[j + 1].key = yk1 at y1
            have i11 : (j : Int) + 1 < (rows.length : Int) := by omega
            have i21 : (j : Int) < (rows.length : Int) := by omega
            have t11 : decide ((j : Int) + 1 < (rows.length : Int)) = true := decide_eq_true (by omega)
            obtain ⟨q1, L1⟩ : ∃ q, (Op.bytesLess yk1.toList xk1.toList || yk1.toList == xk1.toList) = q := ⟨_, rfl⟩
            cases q1 with
            | true =>
              go_wp2_with fail
              go_quiet (fail)
              go_wp2
              go_ret
              exact ⟨rfl, below_drewN hb _⟩
            | false =>
              by_cases h2 : j + 1 < others.length
              · obtain ⟨b2, off2, rfl, _, x2, _⟩ := HO.out _ hb j (by omega)
                obtain ⟨b', off', e, _, y2, _⟩ := HO.out _ hb (j + 1) h2
                injection e with e
                injection e with e1 e2
                subst e1 e2
                generalize others[j].key = xk2 at x2
                generalize others[j + 1].key = yk2 at y2
                have i12 : (j : Int) + 1 < (others.length : Int) := by omega
                have i22 : (j : Int) < (others.length : Int) := by omega
                have t12 : decide ((j : Int) + 1 < (others.length : Int)) = true := decide_eq_true (by omega)
                obtain ⟨q2, L2⟩ : ∃ q, (Op.bytesLess yk2.toList xk2.toList || yk2.toList == xk2.toList) = q := ⟨_, rfl⟩
                cases q2 with
                | true =>
                  go_wp2_with fail
                  go_quiet (fail)
                  go_wp2
                  go_ret
                  exact ⟨rfl, below_drewN hb _⟩
                | false =>
                  go_wp2_with fail
                  go_quiet (fail)
                  go_wp2
                  go_roundw
                  case rel => exact ⟨j + 1, by omega, by go_num, below_drewN hb _⟩
                  case measure => simp [intOf]; omega
              · have t12 : decide ((j : Int) + 1 < (others.length : Int)) = false := decide_eq_false (by omega)
                go_wp2_with fail
                go_quiet (fail)
                go_wp2
                go_roundw
                case rel => exact ⟨j + 1, by omega, by go_num, below_drewN hb _⟩
                case measure => simp [intOf]; omega
          · have t11 : decide ((j : Int) + 1 < (rows.length : Int)) = false := decide_eq_false (by omega)
            by_cases h2 : j + 1 < others.length
            · obtain ⟨b2, off2, rfl, _, x2, _⟩ := HO.out _ hb j (by omega)
              obtain ⟨b', off', e, _, y2, _⟩ := HO.out _ hb (j + 1) h2
              injection e with e
              injection e with e1 e2
              subst e1 e2
              generalize others[j].key = xk2 at x2
              generalize others[j + 1].key = yk2 at y2
              have i12 : (j : Int) + 1 < (others.length : Int) := by omega
              have i22 : (j : Int) < (others.length : Int) := by omega
              have t12 : decide ((j : Int) + 1 < (others.length : Int)) = true := decide_eq_true (by omega)
              obtain ⟨q2, L2⟩ : ∃ q, (Op.bytesLess yk2.toList xk2.toList || yk2.toList == xk2.toList) = q := ⟨_, rfl⟩
              cases q2 with
              | true =>
                go_wp2_with fail
                go_quiet (fail)
                go_wp2
                go_ret
                exact ⟨rfl, below_drewN hb _⟩
              | false =>
                go_wp2_with fail
                go_quiet (fail)
                go_wp2
                go_roundw
                case rel => exact ⟨j + 1, by omega, by go_num, below_drewN hb _⟩
                case measure => simp [intOf]; omega
            · have t12 : decide ((j : Int) + 1 < (others.length : Int)) = false := decide_eq_false (by omega)
              have hCH := changes_any wr R O cR cO rows others (HR.out _ hb) (HO.out _ hb) HLN.out.2.2.1 HLN.out.2.2.2 (by omega) (by omega)
              have HCO := Lib.hid (fun w' (hb' : Below wr.heap.size wr w') => changesOf_any w' R O cR cO rows others (HR.out _ (belowThen hb hb')) (HO.out _ (belowThen hb hb')) (by omega) (by omega))
              have HSZ := Lib.hid (show ∀ x ∈ chgM rows others, x.key.size ≤ maxLen ∧ x.val.size ≤ maxLen from chgM_sizes (fun x hx => (HR.out _ hb).sizes x hx) (fun x hx => (HO.out _ hb).sizes x hx))
              have hlc := chgM_len rows others
              obtain ⟨Y, hY⟩ : ∃ Y, chgM rows others = Y := ⟨_, rfl⟩
              rw [hY] at hCH HCO HSZ hlc
              have HCH := Lib.hid hCH
              have HB := Lib.hid hb
              clear hCH hY hb
              go_wp2_with fail
              (refine HCH.out.mono ?_; rintro e w21 ⟨C1, c1, rfl, hO1, hb1⟩)
              have HC1 := Lib.hid (chs_own hO1 HSZ.out)
              clear hO1 HCH
              go_wp2_with fail
              (refine (HCO.out w21 hb1).mono ?_; rintro e w22 ⟨C2, c2, rfl, hO2, hb2⟩)
              have hsc := sameChs_any w22 C1 C2 c1 c2 Y Y (HC1.out.below hb2) (chs_own hO2 HSZ.out) (by omega)
              rw [show decide (Y = Y) = true from by simp] at hsc
              have HSC := Lib.hid hsc
              have hb02 := belowThen HB.out (belowThen hb1 hb2)
              clear hsc hO2 HC1 HCO hb1 hb2
              go_wp2_with fail
              (refine HSC.out.mono ?_; rintro e w23 ⟨rfl, hb3⟩)
              replace hb3 := belowThen hb02 hb3
              clear hb02 HSC
              go_wp2
              go_ret
              exact ⟨rfl, hb3⟩
      --> end
end Go.Proofs.YtlgahdabhnhjgaaGreatDoor

/- The table of powers out of the laid variables. -/
namespace Go.Proofs.YtlgahdabhnhjgaaGreatDoor

theorem tab_of_head {W : World} (h : laidMet Tryz.prog [("internal/strconv.uint64pow10", Lib.tabData .u64 Lib.pow10Tab)] W) : Tab W :=
  Lib.tabIs_of_head (g := 2) (t := 216) (e := 35) (n := 20) (by kernel_rfl) (by kernel_rfl) (by kernel_rfl) (by kernel_rfl) (by kernel_rfl) (by kernel_rfl) h
theorem tab_of_laid {W : World} {l : List (String × DataW Unit)} (h : laidMetH Tryz.prog l W) (e : l.filter (fun x => x.1 == "internal/strconv.uint64pow10") = [("internal/strconv.uint64pow10", Lib.tabData .u64 Lib.pow10Tab)]) : Tab W := by
  have h1 := h.filter (fun x => x.1 == "internal/strconv.uint64pow10")
  rw [e] at h1
  exact tab_of_head h1
end Go.Proofs.YtlgahdabhnhjgaaGreatDoor

/- strconv's two errors out of the laid variables. -/
namespace Go.Proofs.YtlgahdabhnhjgaaGreatDoor
open Go.RowKit

theorem starErr : "*" ++ "errors.errorString" = "*errors.errorString" := by decide
theorem rowErr (u : TypeId) (h : Tryz.prog.typeName? 3 u = some "*errors.errorString") : u = 220 :=
  typeName_ptr_named (nm := "errors.errorString") (by rw [starErr]; kernel_rfl) (by kernel_rfl) (by decide) u (by rw [starErr]; exact h)
theorem sent_of {W : World} {n : String} {g : Nat} {text : List UInt8} (h : laidMet Tryz.prog [(n, .iface "*errors.errorString" (.ptr (.agg [.lit (.string text)])))] W) (hg : Tryz.prog.globalNamed n = some g) (ht : (Tryz.prog.globals[g]?).map (·.type) = some 32) : ∃ t p, W.var? Tryz.prog n = some #[.iface t p] := by
  obtain ⟨a, s, hv, _⟩ := laid_sentinel h hg ht Tryz.underlying32 rowErr Tryz.underlying220 Tryz.underlying222 rfl rfl Tryz.underlying9 (by kernel_rfl) (by kernel_rfl)
  exact ⟨_, _, hv⟩
theorem errs_of_laid {W : World} {l : List (String × DataW Unit)} {t0 t1 : List UInt8} (h : laidMetH Tryz.prog l W)
    (e0 : l.filter (fun x => x.1 == "strconv.ErrSyntax") = [("strconv.ErrSyntax", .iface "*errors.errorString" (.ptr (.agg [.lit (.string t0)])))])
    (e1 : l.filter (fun x => x.1 == "strconv.ErrRange") = [("strconv.ErrRange", .iface "*errors.errorString" (.ptr (.agg [.lit (.string t1)])))]) : Errs W := by
  have h0 := h.filter (fun x => x.1 == "strconv.ErrSyntax")
  have h1 := h.filter (fun x => x.1 == "strconv.ErrRange")
  rw [e0] at h0
  rw [e1] at h1
  exact ⟨sent_of h0 (g := 0) (by kernel_rfl) (by kernel_rfl), sent_of h1 (g := 1) (by kernel_rfl) (by kernel_rfl)⟩
end Go.Proofs.YtlgahdabhnhjgaaGreatDoor

/- Arguments that are changes, opened. -/
namespace Go.Proofs.YtlgahdabhnhjgaaGreatDoor
open Go.ChangeShapes Go.WideShapes Go.ChangeAt Go.RowKit Go.Deep

theorem Tryz.cellsStrC : Tryz.prog.cellsOf 9 = 1 := by kernel_rfl
theorem Tryz.cellsChangeC : Tryz.prog.cellsOf 49 = 3 := by kernel_rfl
theorem Tryz.cellsBoolC : Tryz.prog.cellsOf 4 = 1 := by kernel_rfl

section
variable {H : Type} {enc : TypeId × Value → H} {W : World} {base : Nat} {spare : Nat → Bool} {held : Bool}

set_option maxRecDepth 10000 in
/-- The cells of one change. -/
theorem open_change {fuel : Nat} {cs : List Value} {x : DataW H × List MemPlace} (h : DataW.trod enc Tryz.prog W base spare held fuel 49 cs = some x) (hlen : cs.length = 3) : ∃ c : Ch, cs = [.string c.key, .string c.val, .bool c.gone] ∧ c.key.size ≤ maxLen ∧ c.val.size ≤ maxLen := by
  obtain ⟨xs, k, _, _, _, hxl, hf⟩ := DataW.trod_struct Tryz.underlying49 h
  have hxl : xs.length = 3 := hxl
  match xs, hxl, cs, hlen with
  | [y0, y1, y2], _, [v0, v1, v2], _ =>
    have g0 := hf 0 _ rfl
    have g1 := hf 1 _ rfl
    have g2 := hf 2 _ rfl
    simp [Tryz.cellsStrC, Tryz.cellsBoolC] at g0 g1 g2
    obtain ⟨s, e0, _, hs⟩ := DataW.trod_string Tryz.underlying9 g0
    obtain ⟨t, e1, _, ht⟩ := DataW.trod_string Tryz.underlying9 g1
    obtain ⟨q, e2, _⟩ := DataW.trod_bool Tryz.underlying4 g2
    simp at e0 e1 e2
    exact ⟨⟨s, t, q⟩, by rw [e0, e1, e2], hs, ht⟩

set_option maxRecDepth 10000 in
theorem open_chs {A : Option Addr} {len cap : Nat} {d : DataW H} {p : List MemPlace} (h : DataW.Trod enc Tryz.prog W base spare held 23 (.slice A len cap) d p) :
    ∃ l : List Ch, l.length = len ∧ ChsAt W A l ∧ l.length ≤ maxLen ∧ (A = none → cap = 0) := by
  obtain ⟨fuel, hf⟩ := h
  rcases open_slice Tryz.underlying23 hf with ⟨hcs, _⟩ | ⟨a, len', cap', m, n, D, Pl, hcs, _, hl, hm, hmm, _, hx⟩
  · simp [Value.cells] at hcs
    obtain ⟨rfl, rfl, rfl⟩ := hcs
    exact ⟨[], rfl, fun i hi => by simp at hi, by simp, fun _ => rfl⟩
  · simp [Value.cells] at hcs
    obtain ⟨rfl, rfl, rfl⟩ := hcs
    have hlm : len ≤ m := by rw [hmm]; split <;> omega
    rw [Tryz.cellsChangeC] at hx
    have hz : 0 < len → ∃ b off, a = ⟨b, off, none⟩ := by
      intro h0
      obtain ⟨cs', h1, _⟩ := hx 0 (by omega)
      obtain ⟨_, hlen, hcell⟩ := World.cells?_some h1
      have := hcell 0 (by omega)
      simp only [Nat.zero_mul] at this
      rw [add_add, Nat.add_zero] at this
      obtain ⟨v, hv⟩ : ∃ v, cs'[0]? = some v := ⟨_, List.getElem?_eq_getElem (by omega)⟩
      rw [hv] at this
      exact addr_zero this
    have each : ∀ i, i < len → ∃ q : Ch, ∃ b off, some a = some (⟨b, off, none⟩ : Addr) ∧ b < W.heap.size ∧ W.cell? ⟨b, off + i * 3, none⟩ = some (.string q.key) ∧ W.cell? ⟨b, off + i * 3 + 1, none⟩ = some (.string q.val) ∧ W.cell? ⟨b, off + i * 3 + 2, none⟩ = some (.bool q.gone) ∧ q.key.size ≤ maxLen ∧ q.val.size ≤ maxLen := by
      intro i hi
      obtain ⟨b, off, rfl⟩ := hz (by omega)
      obtain ⟨cs', h1, h2⟩ := hx i (by omega)
      obtain ⟨_, hlen, hcell⟩ := World.cells?_some h1
      obtain ⟨c, rfl, hs, ht⟩ := open_change h2 hlen
      have c0 := hcell 0 (by omega)
      have c1 := hcell 1 (by omega)
      have c2 := hcell 2 (by omega)
      rw [add_add, add_lit'] at c0 c1 c2
      simp at c0 c1 c2
      exact ⟨c, b, off, rfl, World.block_lt_of_cell? W _ c0, c0, by rw [Nat.add_assoc]; exact c1, by rw [Nat.add_assoc]; exact c2, hs, ht⟩
    obtain ⟨q, hq⟩ := choose_lt each
    refine ⟨(List.range len).map q, by simp, fun i hi => ?_, by simp; omega, fun h => by cases h⟩
    have hi' : i < len := by simpa using hi
    obtain ⟨b, off, e, r⟩ := hq i hi'
    exact ⟨b, off, e, by simpa using r⟩

theorem open_cap {A : Option Addr} {len cap : Nat} {d : DataW H} {p : List MemPlace} (h : DataW.Trod enc Tryz.prog W base spare held 23 (.slice A len cap) d p) : len ≤ cap := by
  obtain ⟨fuel, hf⟩ := h
  rcases open_slice Tryz.underlying23 hf with ⟨hcs, _⟩ | ⟨a, len', cap', m, n, D, Pl, hcs, _, hl, _⟩
  · simp [Value.cells] at hcs
    obtain ⟨rfl, rfl, rfl⟩ := hcs
    exact Nat.le_refl _
  · simp [Value.cells] at hcs
    obtain ⟨rfl, rfl, rfl⟩ := hcs
    exact hl
/-- One change, as an argument. -/
theorem open_changeV {cs : Array Value} {d : DataW H} {p : List MemPlace} (hsz : cs.size = 3) (h : DataW.Trod enc Tryz.prog W base spare held 49 (.agg cs) d p) : ∃ c : Ch, cs = chArr c ∧ c.key.size ≤ maxLen ∧ c.val.size ≤ maxLen := by
  obtain ⟨fuel, hf⟩ := h
  obtain ⟨c, e, hs, ht⟩ := open_change hf (by simpa [Value.cells] using hsz)
  refine ⟨c, ?_, hs, ht⟩
  have : cs.toList = (chArr c).toList := by simpa [Value.cells, chArr] using e
  exact Array.toList_inj.1 this
end
end Go.Proofs.YtlgahdabhnhjgaaGreatDoor
