/- strconv's two errors out of the laid variables. -/
import Derived.Test.YtlgahdabhnhjgaaGreatDoorZqVau4
import Derived.Test.YtlgahdabhnhjgaaGreatDoorZqFill
import Derived.Test.YtlgahdabhnhjgaaGreatDoorZqImT
import Derived.LaidSub
import Derived.Test.YtlgahdabhnhjgaaGreatDoorZqPar
import Derived.Stop.LaidErr
/- A small vault: closed facts. -/
namespace Go.Proofs.YtlgahdabhnhjgaaGreatDoor
open Go.RowKit Go.Maps

def vtPuts : List (Int × ByteArray) := [(2, ⟨#[120]⟩)]
def vtV : VauM := ingestV emptyVau 0 1 4 vtPuts
theorem vt_err : ingestErr emptyVau 0 1 4 vtPuts = 0 := by decide +kernel
theorem vt_ok : vtV.Ok := (ingest_good vau_empty vt_err).1
theorem vt_read : readText vtV 1 2 = ⟨#[120]⟩ := by decide +kernel
theorem vt_rerr : readErr vtV 1 2 = 0 := by decide +kernel
end Go.Proofs.YtlgahdabhnhjgaaGreatDoor

/- counterfoiltop.vaulted: a closed fact; what acts leave of a point's texts. -/
namespace Go.Proofs.YtlgahdabhnhjgaaGreatDoor
open Go.RowKit Go.Maps

set_option maxHeartbeats 1000000 in
set_option maxRecDepth 100000 in
theorem vaulted_any (w : World) : Calls Tryz.prog 23 #[] w fun e w' => e = .returned (.bool true) ∧ Below w.heap.size w w' := by
  go_enter Tryz.func23, Tryz.ntmps23
  go_wp2_with fail
  ((with_reducible refine (vauNew_any _).mono ?_); rintro e w1 ⟨v, x, gp, bp, bn, rfl, h1, hf, hb1⟩)
  have b2 := (Below.refl w1.heap.size w1).alloc (Nat.le_refl _) (.cells #[.int .i64 2, .string ⟨#[120]⟩] 73)
  have e2 := heap_alloc_new w1 (.cells #[.int .i64 2, .string ⟨#[120]⟩] 73)
  have h2 := h1.below b2
  have hb2 := belowThen hb1 b2
  have hps : PutList (w1.alloc (.cells #[.int .i64 2, .string ⟨#[120]⟩] 73)) (some ⟨w1.heap.size, 0, none⟩) vtPuts := by
    refine ⟨by decide, fun i hi => ?_⟩
    obtain rfl : i = 0 := by simp [vtPuts] at hi; omega
    exact ⟨w1.heap.size, 0, rfl, cell_of_row _ _ _ _ _ _ e2, cell_of_row _ _ _ _ _ _ e2, by show 1 ≤ maxLen; decide⟩
  have hs1 : w.heap.size ≤ w1.heap.size := hb1.size
  have hi := ingest_any _ v x gp bp bn w.heap.size (.slice none 0 0) emptyVau vtV 0 1 4 _ 1 vtPuts h2 vau_empty hb2.size hps 0 1 vt_err rfl rfl
  rw [show vtPuts.length = 1 from rfl] at hi
  have HI := Lib.hid hi
  clear hi
  have H2 := Lib.hid h2
  clear h1 hps e2 hb1 b2 h2
  go_wp2_with fail
  ((with_reducible refine HI.out.mono ?_); rintro e w3 hret)
  have hb3 := ret_below H2.out hf (Nat.le_refl _) hb2 hret
  obtain ⟨rfl, hv3, _⟩ := hret
  obtain ⟨lv3, h3, _⟩ := hv3 rfl
  have hv0 : errV 0 = .nilIface := rfl
  rw [hv0]
  have HR := Lib.hid (read_any w3 v x gp bp bn _ lv3 vtV 1 2 h3 vt_ok ⟨#[120]⟩ 0 vt_read vt_rerr)
  clear HI hv3 h3 hb2 hv0 H2
  go_wp2_with fail
  ((with_reducible refine HR.out.mono ?_); rintro e w4 ⟨rfl, hb4⟩)
  have hv0 : errV 0 = .nilIface := rfl
  rw [hv0]
  clear HR
  go_wp2
  go_ret
  exact ⟨rfl, belowThen hb3 hb4⟩

def textsK (V : VauM) (k : Nat) : List ByteArray := (List.range V.L[k]!.size).map fun i => V.X.get V.L[k]!.root i
/-- The texts of a point stay. -/
theorem texts_stay {V V' : VauM} {id : Int} {k k' : Nat} (hp : placeOf V.L id = some k) (hp' : placeOf V'.L id = some k') (hpt : ∀ hk : k < V.L.length, ∀ hk' : k' < V'.L.length, V'.L[k'] = V.L[k] ∧ ∀ i, V'.X.get V.L[k].root i = V.X.get V.L[k].root i) : textsK V' k' = textsK V k := by
  obtain ⟨hk, _⟩ := placeOf_some hp
  obtain ⟨hk', _⟩ := placeOf_some hp'
  obtain ⟨a, b⟩ := hpt hk hk'
  unfold textsK
  simp only [getElem!_pos V.L k hk, getElem!_pos V'.L k' hk', a, b]
theorem place_append {L M : List PtM} {id : Int} {k : Nat} (h : placeOf L id = some k) : placeOf (L ++ M) id = some k := by
  unfold placeOf at *
  rw [List.findIdx?_append, h]
  rfl
theorem mem_place {L : List PtM} (h : L.Pairwise fun p q => p.id < q.id) {p : PtM} (hp : p ∈ L) : ∃ k, ∃ hk : k < L.length, placeOf L p.id = some k ∧ L[k] = p := by
  obtain ⟨k, hk, rfl⟩ := List.mem_iff_getElem.1 hp
  exact ⟨k, hk, placeOf_at h hk, rfl⟩
theorem fill_stay {V : VauM} (hV : V.Ok) (m : ActM) (ps : List (Int × ByteArray)) {id : Int} {k : Nat} (hp : placeOf V.L id = some k) (hd : ¬ ((m.kind.toList == [100, 114, 111, 112]) = true ∧ m.a = id)) : ∃ k', placeOf (fillV V m ps).L id = some k' ∧ textsK (fillV V m ps) k' = textsK V k := by
  obtain ⟨hk, hid⟩ := placeOf_some hp
  have hin := heldOf_mem (List.getElem_mem hk)
  have same : ∃ k', placeOf V.L id = some k' ∧ textsK V k' = textsK V k := ⟨k, hp, rfl⟩
  unfold fillV
  split
  · split
    · rename_i he
      obtain ⟨_, _, hL, hg, _⟩ := ingest_good hV he
      have hp' : placeOf (ingestV V m.a m.b m.c ps).L id = some k := by rw [hL]; exact place_append hp
      refine ⟨k, hp', texts_stay hp hp' fun _ hk' => ⟨?_, fun i => hg _ hin i⟩⟩
      simp only [hL]
      rw [List.getElem_append_left hk]
    · exact same
  · split
    · split
      · rename_i he
        obtain ⟨k2, hk2, _, _, heq, _, hg⟩ := again_good hV he
        have hL : (againV V m.a).L = V.L ++ [⟨V.next, V.L[k2].disk, V.L[k2].size, V.L[k2].root⟩] := by rw [heq]
        have hp' : placeOf (againV V m.a).L id = some k := by rw [hL]; exact place_append hp
        refine ⟨k, hp', texts_stay hp hp' fun _ hk' => ⟨?_, fun i => hg _ hin i⟩⟩
        simp only [hL]
        rw [List.getElem_append_left hk]
      · exact same
    · split
      · rename_i hkind
        split
        · rename_i he
          obtain ⟨k2, hk2, hp2, hok, heq, hg⟩ := drop_good hV he
          obtain ⟨_, hid2⟩ := placeOf_some hp2
          have hne : k2 ≠ k := by
            intro e
            subst e
            exact hd ⟨hkind, by rw [← hid2, hid]⟩
          have hL : (dropV V m.a).L = V.L.eraseIdx k2 := by rw [heq]
          have hm : V.L[k] ∈ V.L.eraseIdx k2 := by
            rw [List.mem_eraseIdx_iff_getElem]
            exact ⟨k, hk, fun e => hne e.symm, rfl⟩
          obtain ⟨k', hk', hpl, hpt⟩ := mem_place (hV.inc.sublist (List.eraseIdx_sublist V.L k2)) hm
          rw [hid] at hpl
          have hp' : placeOf (dropV V m.a).L id = some k' := by rw [hL]; exact hpl
          refine ⟨k', hp', texts_stay hp hp' fun _ hk'' => ⟨?_, fun i => hg _ (heldOf_mem hm) i⟩⟩
          simp only [hL]
          exact hpt
        · exact same
      · exact same
end Go.Proofs.YtlgahdabhnhjgaaGreatDoor

/- TopGone: the walk. -/
namespace Go.Proofs.YtlgahdabhnhjgaaGreatDoor
open Go.RowKit Go.Maps

theorem retNone {w : World} {l : List Int} {e : Ending} {w' : World} (h : RetInts w l e w') (hl : l = []) : ∃ A c, e = .returned (.slice A 0 c) ∧ Below w.heap.size w w' := by
  subst hl
  obtain ⟨v, rfl, hO, hb⟩ := h
  obtain ⟨A, c, rfl, _⟩ := hO.at_
  exact ⟨A, c, rfl, hb⟩
set_option maxHeartbeats 4000000 in
set_option maxRecDepth 100000 in
theorem topGone_walk (A : Option Addr) (cA : Nat) (l : List ActM) (w : World) (hA : ActsAt w w.heap.size A l) (htab : Tab w) (herr : Errs w) :
    Calls Tryz.prog 4 #[.slice A l.length cA] w fun e w' => e = .returned (.bool true) ∧ Below w.heap.size w w' := by
  have HT := Lib.hid (fun w' (hb : Below w.heap.size w w') => htab.below hb)
  have HE := Lib.hid (fun w' (hb : Below w.heap.size w w') => herr.below hb)
  clear htab herr
  go_enter Tryz.func4, Tryz.ntmps4
  go_wp2_with fail
  ((with_reducible refine (vaulted_any _).mono ?_); rintro e w1 ⟨rfl, hb1⟩)
  have hA1 := hA.below hb1
  go_wp2_with fail
  ((with_reducible refine (filled_any _ _ _ _ hA1).mono ?_); rintro e w2 hret)
  rcases hret with ⟨rfl, hb2⟩ | ⟨u, V, rfl, hu, hV, hsh, hsm, hfl, hb2⟩
  · replace hb2 := belowThen hb1 hb2
    go_wp2
    go_ret
    exact ⟨rfl, hb2⟩
  replace hb2 := belowThen hb1 hb2
  obtain ⟨x, gp, bp, bn, B, lv, h⟩ := hu
  have HU := Lib.hid h
  have HV := Lib.hid hV
  have HSM := Lib.hid hsm
  obtain ⟨R, hR⟩ : ∃ R, rowsM V = R := ⟨_, rfl⟩
  have hgood := good_own hV hfl hsm hsh
  have h100 := rowsM_100 hV.ok0 hsm
  have hlen := (rowsM_small hV.ok0 hsm).2
  rw [hR] at hgood h100 hlen
  have HGD := Lib.hid hgood
  have H100 := Lib.hid h100
  have HB2 := Lib.hid hb2
  have HR1 := Lib.hid (fun w' (hb : Below w2.heap.size w2 w') => rows_chs w' u x gp bp bn B lv V (h.below hb) hV.ok0 hsm (HT.out _ (belowThen hb2 hb)) R hR)
  clear hA1 hb1 h hsm hsh hfl hV hA hR hgood h100 hb2
  go_wp2_with fail
  ((with_reducible refine (HR1.out _ (Below.refl _ _)).mono ?_); rintro e w3 ⟨C1, c1, rfl, hc1, hC1, hb3⟩)
  have HP := Lib.hid (parse_any w3 C1 c1 R hC1 (by omega) (fun r hr => by have := H100.out r hr; omega) (HE.out _ (belowThen HB2.out hb3)) (HT.out _ (belowThen HB2.out hb3)))
  clear hC1
  go_wp2_with fail
  ((with_reducible refine HP.out.mono ?_); rintro e w4 ⟨hpr, hb4⟩)
  rcases hpr with ⟨_, y, x2, gp2, bp2, bn2, lv2, rfl, hy, hfy⟩ | ⟨hno, _⟩
  case inr => exact absurd HGD.out hno
  have hgo := good_ok HGD.out
  obtain ⟨VP, hVP⟩ : ∃ VP, toV (readAll R) = VP := ⟨_, rfl⟩
  rw [hVP] at hy hgo
  obtain ⟨hok2, _, hsm2, _, hrow2⟩ := hgo
  have hb34 := belowThen hb3 hb4
  have HB4 := Lib.hid (belowThen HB2.out hb34)
  have HB24 := Lib.hid hb34
  clear hb3 hb4 hb34 HP hVP
  have HR2 := Lib.hid (fun w' (hb : Below w4.heap.size w4 w') => rows_chs w' y x2 gp2 bp2 bn2 _ lv2 VP (hy.below hb) hok2.ok0 hsm2 (HT.out _ (belowThen HB4.out hb)) R hrow2)
  have HR3 := Lib.hid (fun w' (hb : Below w4.heap.size w4 w') => HR1.out w' (belowThen HB24.out hb))
  clear hy hok2 hsm2 hrow2 hfy HR1
  go_wp2_with fail
  ((with_reducible refine (HR2.out _ (Below.refl _ _)).mono ?_); rintro e w5 ⟨C2, c2, rfl, _, hC2, hb5⟩)
  go_wp2_with fail
  ((with_reducible refine (HR3.out _ hb5).mono ?_); rintro e w6 ⟨C3, c3, rfl, _, hC3, hb6⟩)
  have hsc := sameChs_any w6 C2 C3 c2 c3 R R (hC2.below hb6) hC3 (by omega)
  rw [show decide (R = R) = true from by simp] at hsc
  have HSC := Lib.hid hsc
  clear hsc hC2 hC3 HR2 HR3 hlen hc1
  go_wp2_with fail
  ((with_reducible refine HSC.out.mono ?_); rintro e w7 ⟨rfl, hb7⟩)
  have hb27 := belowThen HB24.out (belowThen (belowThen hb5 hb6) hb7)
  have HB7 := Lib.hid (belowThen HB2.out hb27)
  have HU7 := Lib.hid (HU.out.below hb27)
  have HCP := Lib.hid (vauCopy_any w7 u x gp bp bn B lv V HU7.out HV.out)
  clear hb5 hb6 hb7 hb27 HSC HB24 HB4 HU
  go_wp2_with fail
  ((with_reducible refine HCP.out.mono ?_); rintro e w8 ⟨v, x', gp', bp', bn', lv', rfl, h8, hf, hb8⟩)
  have HU8 := Lib.hid (HU7.out.below hb8)
  have H8 := Lib.hid h8
  have HB8 := Lib.hid (belowThen HB7.out hb8)
  have HF := Lib.hid hf
  have hs78 := hb8.size
  obtain ⟨n, hn⟩ : ∃ n, V.L.length = n := ⟨_, rfl⟩
  have hn6 : n ≤ 6 := by rw [← hn]; exact HV.out.len
  have HN := Lib.hid hn
  have HB78 := Lib.hid hb8
  obtain ⟨A0, k0, hlv0⟩ := slice_form HU7.out.pts
  rw [hn] at hlv0
  clear HCP h8 hf hb8 hn
  go_wp2_with fail
  go_loopw [8] (fun i wr => ∃ (k : Nat) (W : VauM) (lvk : Value), k ≤ n ∧ i = .int .i64 k ∧ VauAt wr v x' gp' bp' bn' w7.heap.size lvk W ∧ W.Ok ∧ Hid (W.L = V.L.drop k) ∧ Below w7.heap.size w8 wr) (fun i _ => n - (intOf i).toNat)
  case atStart => exact ⟨0, V, lv', Nat.zero_le _, rfl, H8.out, HV.out, rfl, Below.refl _ _⟩
  case round =>
    obtain ⟨k, W, lvk, hk, rfl, hW, hWok, HD, hb⟩ := hrel
    have hb7 := HB78.out.trans hb
    have hU := HU7.out.below hb7
    have c1 := hU.cell1
    rw [hlv0] at c1
    by_cases hlt : k < n
    · have hkl : k < V.L.length := by have := HN.out; omega
      obtain ⟨g, c, hlv, _, _, hpc⟩ := hU.pt hkl
      have p0 := hpc 0 (by omega)
      obtain ⟨p, hp⟩ : ∃ p, V.L[k] = p := ⟨_, rfl⟩
      have hdr : W.L = p :: V.L.drop (k + 1) := by rw [HD.out, List.drop_eq_getElem_cons hkl, hp]
      rw [hp] at p0
      rw [hlv0] at hlv
      simp only [Value.slice.injEq] at hlv
      obtain ⟨hlv1, _, _⟩ := hlv
      subst hlv1
      have p0' : wr.cell? ⟨g, k * 4, none⟩ = some (.int .i64 (p.id : Int)) := p0
      obtain ⟨he, hok2, hl2⟩ := drop_first hWok hdr
      have HDR := Lib.hid (drop_any wr v x' gp' bp' bn' _ lvk W _ p.id hW hWok 0 he rfl)
      have HOK := Lib.hid hok2
      have HL := Lib.hid hl2
      have HWW := Lib.hid hW
      have HBR := Lib.hid hb
      have i1 : (k : Int) < (n : Int) := by omega
      clear hpc p0 hp hdr he hok2 hl2 hWok hW hU hb hb7
      go_wp2_with fail
      ((with_reducible refine HDR.out.mono ?_); rintro e w9 hret)
      have hb9 := ret_below HWW.out HF.out hs78 HBR.out hret
      obtain ⟨rfl, hv, _⟩ := hret
      obtain ⟨lv9, h9, _⟩ := hv rfl
      have hv0 : errV 0 = .nilIface := rfl
      rw [hv0]
      have H9 := Lib.hid h9
      have HB9 := Lib.hid hb9
      clear hv hv0 h9 hb9 HDR
      go_wp2
      go_roundw
      case rel => exact ⟨k + 1, _, lv9, hlt, by go_num, H9.out, HOK.out, HL.out, HB9.out⟩
      case measure => simp [intOf]; omega
    · obtain rfl : k = n := by omega
      have hWL : W.L = [] := by rw [HD.out, List.drop_eq_nil_iff]; have := HN.out; omega
      obtain ⟨hn1, hn2⟩ := nothing hWok hWL
      have HBR := Lib.hid (belowThen HB7.out hb7)
      obtain ⟨lA, lc, hlvk⟩ := slice_form hW.pts
      rw [hWL] at hlvk
      have hlvk2 : lvk = .slice lA 0 lc := hlvk
      subst hlvk2
      have HWA := Lib.hid (fun w' (hb' : Below wr.heap.size wr w') => hW.below hb')
      have HKS := Lib.hid (fun w' (hb' : Below wr.heap.size wr w') => show w'.cell? ⟨v, 0, none⟩ = some (.pointer (some ⟨x', 0, none⟩)) ∧ w'.cell? ⟨v, 1, none⟩ = some (.slice lA 0 lc) ∧ w'.cell? ⟨x', 0, none⟩ = some (.pointer (some ⟨gp', 0, none⟩)) from ⟨(hW.below hb').cell0, (hW.below hb').cell1, (hW.below hb').idx.cell0⟩)
      have HNP := Lib.hid (fun w' (hb' : Below wr.heap.size wr w') => (poolNumbers_any gp' bp' 1000 w' W.X.P (hW.below hb').idx.pool).mono fun e w'' he => retNone he hn1)
      have HNN := Lib.hid (fun w' (hb' : Below wr.heap.size wr w') => (idxNumbers_any w' x' gp' bp' bn' 1000 W.X (hW.below hb').idx).mono fun e w'' he => retNone he hn2)
      have hS0 := HKS.out wr (Below.refl _ _)
      clear hW hWok hWL hn1 hn2 hlvk hU hb hb7
      go_wp2_with fail
      ((with_reducible refine (HNN.out _ (Below.refl _ _)).mono ?_); rintro e w10 ⟨A10, c10, rfl, hb10⟩)
      have hS1 := HKS.out _ hb10
      clear hS0
      go_wp2_with fail
      ((with_reducible refine (HNP.out _ hb10).mono ?_); rintro e w11 ⟨A11, c11, rfl, hb11⟩)
      have HB11 := Lib.hid (belowThen HBR.out (belowThen hb10 hb11))
      clear hS1 hb10 hb11
      go_wp2
      go_ret
      exact ⟨rfl, HB11.out⟩
end Go.Proofs.YtlgahdabhnhjgaaGreatDoor

/- The table of powers out of the laid variables. -/
namespace Go.Proofs.YtlgahdabhnhjgaaGreatDoor

theorem tab_of_head {W : World} (h : laidMet Tryz.prog [("internal/strconv.uint64pow10", Lib.tabData .u64 Lib.pow10Tab)] W) : Tab W :=
  Lib.tabIs_of_head (g := 2) (t := 216) (e := 35) (n := 20) (by kernel_rfl) (by kernel_rfl) (by kernel_rfl) (by kernel_rfl) (by kernel_rfl) (by kernel_rfl) h
theorem tab_of_laid {W : World} {l : List (String × DataW Unit)} (h : laidMetH Tryz.prog l W) (e : l.filter (fun x => x.1 == "internal/strconv.uint64pow10") = [("internal/strconv.uint64pow10", Lib.tabData .u64 Lib.pow10Tab)]) : Tab W := by
  have h1 := h.filter (fun x => x.1 == "internal/strconv.uint64pow10")
  rw [e] at h1
  exact tab_of_head h1
end Go.Proofs.YtlgahdabhnhjgaaGreatDoor

/- strconv's two errors out of the laid variables. -/
namespace Go.Proofs.YtlgahdabhnhjgaaGreatDoor
open Go.RowKit

theorem starErr : "*" ++ "errors.errorString" = "*errors.errorString" := by decide
theorem rowErr (u : TypeId) (h : Tryz.prog.typeName? 3 u = some "*errors.errorString") : u = 220 :=
  typeName_ptr_named (nm := "errors.errorString") (by rw [starErr]; kernel_rfl) (by kernel_rfl) (by decide) u (by rw [starErr]; exact h)
theorem sent_of {W : World} {n : String} {g : Nat} {text : List UInt8} (h : laidMet Tryz.prog [(n, .iface "*errors.errorString" (.ptr (.agg [.lit (.string text)])))] W) (hg : Tryz.prog.globalNamed n = some g) (ht : (Tryz.prog.globals[g]?).map (·.type) = some 32) : ∃ t p, W.var? Tryz.prog n = some #[.iface t p] := by
  obtain ⟨a, s, hv, _⟩ := laid_sentinel h hg ht Tryz.underlying32 rowErr Tryz.underlying220 Tryz.underlying222 rfl rfl Tryz.underlying9 (by kernel_rfl) (by kernel_rfl)
  exact ⟨_, _, hv⟩
theorem errs_of_laid {W : World} {l : List (String × DataW Unit)} {t0 t1 : List UInt8} (h : laidMetH Tryz.prog l W)
    (e0 : l.filter (fun x => x.1 == "strconv.ErrSyntax") = [("strconv.ErrSyntax", .iface "*errors.errorString" (.ptr (.agg [.lit (.string t0)])))])
    (e1 : l.filter (fun x => x.1 == "strconv.ErrRange") = [("strconv.ErrRange", .iface "*errors.errorString" (.ptr (.agg [.lit (.string t1)])))]) : Errs W := by
  have h0 := h.filter (fun x => x.1 == "strconv.ErrSyntax")
  have h1 := h.filter (fun x => x.1 == "strconv.ErrRange")
  rw [e0] at h0
  rw [e1] at h1
  exact ⟨sent_of h0 (g := 0) (by kernel_rfl) (by kernel_rfl), sent_of h1 (g := 1) (by kernel_rfl) (by kernel_rfl)⟩
end Go.Proofs.YtlgahdabhnhjgaaGreatDoor
