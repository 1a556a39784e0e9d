/- counterfoiltop: fill, filled: a vault behind acts. -/
import Derived.Test.YtlgahdabhnhjgaaGreatDoorZqPar
import Derived.Test.YtlgahdabhnhjgaaGreatDoorZqRng
/- Which rows may be read: just those of a vault. Pure. -/
namespace Go.Proofs.YtlgahdabhnhjgaaGreatDoor
open Go.RowKit Go.Maps

theorem inc_k {l : List Ch} (h : Inc l) : IncK l l.length := fun j hj _ => (List.pairwise_iff_getElem.1 h) j (j + 1) (by omega) hj (by omega)
theorem k_inc {l : List Ch} (h : IncK l l.length) : Inc l := by
  refine List.pairwise_iff_getElem.2 fun i j hi hj hij => ?_
  have key : ∀ d : Nat, (hd : i + (d + 1) < l.length) → cmpB l[i].key l[i + (d + 1)].key < 0 := by
    intro d
    induction d with
    | zero => intro hd; exact h i hd hd
    | succ d ih => intro hd; exact cmp_trans (ih (by omega)) (h (i + (d + 1)) hd hd)
  obtain ⟨d, rfl⟩ : ∃ d, j = i + (d + 1) := ⟨j - i - 1, by omega⟩
  exact key d hj
/-- The rows of a vault in order may be read. -/
theorem good_own {V : VauM} (h : V.Ok) (hF : Full V.X) (hS : Small V.X.P) (hsh : Short V) : Good (rowsM V) := by
  have h0 := h.ok0
  refine ⟨inc_k (rows_inc h), ?_, ?_⟩
  · rw [read_own h0]; exact ofV_cons h0 hF hS hsh
  · rw [read_own h0]; exact rows_toV h0 hF hS hsh
/-- What may be read is a vault in order, and these are its rows. -/
theorem good_ok {l : List Ch} (h : Good l) : (toV (readAll l)).Ok ∧ Full (toV (readAll l)).X ∧ Small (toV (readAll l)).X.P ∧ Short (toV (readAll l)) ∧ rowsM (toV (readAll l)) = l := by
  obtain ⟨h1, h2, h3⟩ := h
  have hw := (readAll_rd l).wf
  have h0 := toV_ok0 hw h2
  exact ⟨h0.ok (inc_points h0 (by rw [h3]; exact k_inc h1)), toV_full hw h2, toV_small h2, toV_short hw h2, h3⟩
end Go.Proofs.YtlgahdabhnhjgaaGreatDoor

/- All points dropped: nothing is left. Pure. -/
namespace Go.Proofs.YtlgahdabhnhjgaaGreatDoor
open Go.RowKit Go.Maps

theorem no_node {X : IdxM} (h : Inv X [] [] []) (n : Nat) : (X.N n).refs = 0 := by
  have ht : ∀ m, (X.N m).refs ≠ 0 → (X.N m).top = false := fun m hm => by
    cases e : (X.N m).top with
    | false => rfl
    | true => exact absurd (by simpa using h.top m hm e) hm
  refine Classical.byContradiction fun hn => hn ?_
  rw [h.leaf n hn (ht n hn)]
  have : refsTo true X.N n = 0 := by
    unfold refsTo
    have e : con true X.N n = fun _ => 0 := funext fun m => by
      unfold con
      by_cases hm : (X.N m).refs = 0
      · simp [hm]
      · simp [ht m hm]
    rw [e]; rfl
  simp [this]
theorem no_block {X : IdxM} (h : Inv X [] [] []) (b : Nat) : (X.P b).refs = 0 := by
  refine Classical.byContradiction fun hb => hb ?_
  rw [h.blk b hb]
  have : refsTo false X.N b = 0 := by
    unfold refsTo
    have e : con false X.N b = fun _ => 0 := funext fun m => by
      unfold con
      simp [no_node h m]
    rw [e]; rfl
  simp [this]
theorem nothing {V : VauM} (h : V.Ok) (hl : V.L = []) : numsOf V.X.P = [] ∧ nodsOf V.X.N = [] := by
  have hi := h.inv
  rw [hl] at hi
  have hi' : Inv V.X [] [] [] := hi
  constructor
  · rw [List.eq_nil_iff_forall_not_mem]
    intro m hm
    have := (mem_nums _ _).1 hm
    simp [hasBlk, no_block hi'] at this
  · rw [List.eq_nil_iff_forall_not_mem]
    intro m hm
    have := (mem_nods _ _).1 hm
    simp [hasNod, no_node hi'] at this
/-- The first point dropped. -/
theorem drop_first {V : VauM} (h : V.Ok) {p : PtM} {L : List PtM} (hL : V.L = p :: L) : dropErr V p.id = 0 ∧ (dropV V p.id).Ok ∧ (dropV V p.id).L = L := by
  have hp : placeOf V.L p.id = some 0 := by
    have := placeOf_at h.inc (k := 0) (by rw [hL]; simp)
    simp only [hL, List.getElem_cons_zero] at this ⊢
    exact this
  have he : dropErr V p.id = 0 := by unfold dropErr; rw [hp]
  obtain ⟨k, hk, hk', hok, hd, _⟩ := drop_good h he
  rw [hp] at hk'
  obtain rfl := Option.some.inj hk'
  refine ⟨he, hok, ?_⟩
  rw [hd]
  show V.L.eraseIdx 0 = L
  rw [hL]; rfl
end Go.Proofs.YtlgahdabhnhjgaaGreatDoor

/- counterfoiltop: fill, filled: a vault behind acts. -/
namespace Go.Proofs.YtlgahdabhnhjgaaGreatDoor
open Go.RowKit Go.Maps

set_option maxHeartbeats 4000000 in
set_option maxRecDepth 100000 in
theorem fill_any (w : World) (u : Nat) (V : VauM) (m : ActM) (ps : List (Int × ByteArray)) (hu : VauIn w u V) (hV : V.Ok) (hps : PutList w m.pA ps) (hpl : ps.length = m.pL) :
    Calls Tryz.prog 48 #[.pointer (some ⟨u, 0, none⟩), .agg (actArr m)] w (FillRet w (fillV V m ps)) := by
  have hb0 : Below w.heap.size w (w.alloc (.cells (actArr m) 38)) := (Below.refl _ _).alloc (Nat.le_refl _) _
  have e0 : (w.alloc (.cells (actArr m) 38)).cell? ⟨w.heap.size, 0, none⟩ = some (.string m.kind) := cell_of_row _ _ _ _ _ _ (heap_alloc_new _ _)
  have e2 : (w.alloc (.cells (actArr m) 38)).cell? ⟨w.heap.size, 2, none⟩ = some (.int .i64 m.a) := cell_of_row _ _ _ _ _ _ (heap_alloc_new _ _)
  have e3 : (w.alloc (.cells (actArr m) 38)).cell? ⟨w.heap.size, 3, none⟩ = some (.int .i64 m.b) := cell_of_row _ _ _ _ _ _ (heap_alloc_new _ _)
  have e4 : (w.alloc (.cells (actArr m) 38)).cell? ⟨w.heap.size, 4, none⟩ = some (.int .i64 m.c) := cell_of_row _ _ _ _ _ _ (heap_alloc_new _ _)
  have e7 : (w.alloc (.cells (actArr m) 38)).cell? ⟨w.heap.size, 7, none⟩ = some (.slice m.pA m.pL m.pC) := cell_of_row _ _ _ _ _ _ (heap_alloc_new _ _)
  generalize hw1 : w.alloc (.cells (actArr m) 38) = w1 at hb0 e0 e2 e3 e4 e7
  obtain ⟨x0, gp0, bp0, bn0, B0, lv0, h0⟩ := hu.below hb0
  have HC := Lib.hid (vauCopy_any w1 u x0 gp0 bp0 bn0 B0 lv0 V h0 hV)
  have HU := Lib.hid (hu.below hb0)
  have HPS := Lib.hid (hps.below hb0)
  obtain ⟨gz, hgz⟩ : ∃ gz, w.heap.size = gz := ⟨_, rfl⟩
  rw [hgz] at e0 e2 e3 e4 e7
  have hs1 : w.heap.size ≤ w1.heap.size := hb0.size
  clear hps hu h0
  go_enter Tryz.func48, Tryz.ntmps48
  go_wp2_with fail
  ((with_reducible refine HC.out.mono ?_); rintro e w2 ⟨v, x, gp, bp, bn, lv, rfl, h2, hf, hb2⟩)
  have q0 := belowKept hb2 e0
  have q2 := belowKept hb2 e2
  have q3 := belowKept hb2 e3
  have q4 := belowKept hb2 e4
  have q7 := belowKept hb2 e7
  have HPS2 := Lib.hid (HPS.out.below hb2)
  have H2 := Lib.hid h2
  clear e0 e2 e3 e4 e7 HC h2
  cases hk0 : (m.kind.toList == [105, 110, 103, 101, 115, 116]) with
  | true =>
    obtain ⟨ne, hne⟩ : ∃ ne, ingestErr V m.a m.b m.c ps = ne := ⟨_, rfl⟩
    obtain ⟨mm, hmm⟩ : ∃ mm, (if ne = 0 then V.next else 0) = mm := ⟨_, rfl⟩
    have HF := Lib.hid (show fillV V m ps = if ne = 0 then ingestV V m.a m.b m.c ps else V by unfold fillV; rw [hk0, hne]; rfl)
    have hi := ingest_any w2 v x gp bp bn w1.heap.size lv V _ m.a m.b m.c m.pA m.pC ps H2.out hV hb2.size HPS2.out ne mm hne hmm rfl
    rw [hpl] at hi
    have HI := Lib.hid hi
    clear hi
    clear hne hmm
    go_wp2_with fail
    ((with_reducible refine HI.out.mono ?_); rintro e w3 hret)
    have hb3 := ret_below H2.out hf (Nat.le_refl _) hb2 hret
    obtain ⟨rfl, hv3, _⟩ := hret
    have HB3 := Lib.hid hb3
    clear HI hb3 q0 q2 q3 q4 q7
    by_cases he : ne = 0
    · subst he
      have hv0 : errV 0 = .nilIface := rfl
      rw [hv0]
      obtain ⟨lv3, h3, _⟩ := hv3 rfl
      have H3 := Lib.hid h3
      clear hv0 h3 hv3
      go_wp2
      go_ret
      exact ⟨v, rfl, by rw [HF.out]; exact ⟨x, gp, bp, bn, _, lv3, H3.out⟩, hb0.trans (HB3.out.mono hs1)⟩
    · have hv : errV ne = .iface 93 (.int .i64 ne) := by simp [errV, he]
      rw [hv]
      have HN := Lib.hid he
      clear hv hv3 he
      go_wp2
      go_ret
      exact ⟨u, rfl, by rw [HF.out, if_neg HN.out]; exact HU.out.below HB3.out, hb0.trans (HB3.out.mono hs1)⟩
  | false =>
  cases hk1 : (m.kind.toList == [97, 103, 97, 105, 110]) with
  | true =>
    obtain ⟨ne, hne⟩ : ∃ ne, againErr V m.a = ne := ⟨_, rfl⟩
    obtain ⟨mm, hmm⟩ : ∃ mm, (if ne = 0 then V.next else 0) = mm := ⟨_, rfl⟩
    have HF := Lib.hid (show fillV V m ps = if ne = 0 then againV V m.a else V by unfold fillV; rw [hk0, hk1, hne]; rfl)
    have HI := Lib.hid (again_any w2 v x gp bp bn w1.heap.size lv V _ m.a H2.out hV hb2.size ne mm hne hmm rfl)
    clear hne hmm
    go_wp2_with fail
    ((with_reducible refine HI.out.mono ?_); rintro e w3 hret)
    have hb3 := ret_below H2.out hf (Nat.le_refl _) hb2 hret
    obtain ⟨rfl, hv3, _⟩ := hret
    have HB3 := Lib.hid hb3
    clear HI hb3 q0 q2 q3 q4 q7
    by_cases he : ne = 0
    · subst he
      have hv0 : errV 0 = .nilIface := rfl
      rw [hv0]
      obtain ⟨lv3, h3, _⟩ := hv3 rfl
      have H3 := Lib.hid h3
      clear hv0 h3 hv3
      go_wp2
      go_ret
      exact ⟨v, rfl, by rw [HF.out]; exact ⟨x, gp, bp, bn, _, lv3, H3.out⟩, hb0.trans (HB3.out.mono hs1)⟩
    · have hv : errV ne = .iface 93 (.int .i64 ne) := by simp [errV, he]
      rw [hv]
      have HN := Lib.hid he
      clear hv hv3 he
      go_wp2
      go_ret
      exact ⟨u, rfl, by rw [HF.out, if_neg HN.out]; exact HU.out.below HB3.out, hb0.trans (HB3.out.mono hs1)⟩
  | false =>
  cases hk2 : (m.kind.toList == [100, 114, 111, 112]) with
  | true =>
    obtain ⟨ne, hne⟩ : ∃ ne, dropErr V m.a = ne := ⟨_, rfl⟩
    have HF := Lib.hid (show fillV V m ps = if ne = 0 then dropV V m.a else V by unfold fillV; rw [hk0, hk1, hk2, hne]; rfl)
    have HI := Lib.hid (drop_any w2 v x gp bp bn w1.heap.size lv V _ m.a H2.out hV ne hne rfl)
    clear hne
    go_wp2_with fail
    ((with_reducible refine HI.out.mono ?_); rintro e w3 hret)
    have hb3 := ret_below H2.out hf (Nat.le_refl _) hb2 hret
    obtain ⟨rfl, hv3, _⟩ := hret
    have HB3 := Lib.hid hb3
    clear HI hb3 q0 q2 q3 q4 q7
    by_cases he : ne = 0
    · subst he
      have hv0 : errV 0 = .nilIface := rfl
      rw [hv0]
      obtain ⟨lv3, h3, _⟩ := hv3 rfl
      have H3 := Lib.hid h3
      clear hv0 h3 hv3
      go_wp2
      go_ret
      exact ⟨v, rfl, by rw [HF.out]; exact ⟨x, gp, bp, bn, _, lv3, H3.out⟩, hb0.trans (HB3.out.mono hs1)⟩
    · have hv : errV ne = .iface 93 (.int .i64 ne) := by simp [errV, he]
      rw [hv]
      have HN := Lib.hid he
      clear hv hv3 he
      go_wp2
      go_ret
      exact ⟨u, rfl, by rw [HF.out, if_neg HN.out]; exact HU.out.below HB3.out, hb0.trans (HB3.out.mono hs1)⟩
  | false =>
    have HF := Lib.hid (show fillV V m ps = V by unfold fillV; rw [hk0, hk1, hk2]; rfl)
    have HB2 := Lib.hid hb2
    clear hb2
    go_wp2
    go_ret
    exact ⟨v, rfl, by rw [HF.out]; exact ⟨x, gp, bp, bn, _, lv, H2.out⟩, hb0.trans (HB2.out.mono hs1)⟩

/-- What filled answers. -/
def FilledRet (w : World) (e : Ending) (w' : World) : Prop :=
  (e = .returned (.tuple #[.pointer none, .bool false]) ∧ Below w.heap.size w w') ∨
  ∃ u V, e = .returned (.tuple #[.pointer (some ⟨u, 0, none⟩), .bool true]) ∧ VauIn w' u V ∧ V.Ok ∧ Short V ∧ Small V.X.P ∧ Full V.X ∧ Below w.heap.size w w'

set_option maxHeartbeats 2000000 in
set_option maxRecDepth 100000 in
theorem filled_any (A : Option Addr) (l : List ActM) (c : Nat) (w : World) (hA : ActsAt w w.heap.size A l) :
    Calls Tryz.prog 24 #[.slice A l.length c] w (FilledRet w) := by
  have hm := hA.1
  unfold maxLen at hm
  go_enter Tryz.func24, Tryz.ntmps24
  go_wp2_with fail
  ((with_reducible refine (lightActs_any _ _ _ _ _ hA).mono ?_); rintro e w1 ⟨r, rfl, hr, hb1⟩)
  clear hr
  cases r
  · go_wp2
    go_ret2
    exact .inl ⟨rfl, hb1⟩
  · go_wp2_with fail
    ((with_reducible refine (vauNew_any _).mono ?_); rintro e w2 ⟨v, x, gp, bp, bn, rfl, h2, _, hb2⟩)
    have hb12 := belowThen hb1 hb2
    have hv2 : VauIn w2 v emptyVau := ⟨x, gp, bp, bn, _, _, h2⟩
    clear hb1 hb2 h2
    go_wp2
    go_loopw [4, 5] (fun p i w' => ∃ (k u : Nat) (V : VauM), k ≤ l.length ∧ p = .pointer (some ⟨u, 0, none⟩) ∧ i = .int .i64 k ∧ VauIn w' u V ∧ V.Ok ∧ Short V ∧ Small V.X.P ∧ Full V.X ∧ Below w.heap.size w w') (fun _ i _ => l.length - (intOf i).toNat)
    case atStart => exact ⟨0, v, emptyVau, Nat.zero_le _, rfl, rfl, hv2, vau_empty, short_empty, small_empty, full_empty, hb12⟩
    case round =>
      obtain ⟨k, u, V, hk, rfl, rfl, hu, hV, hsh, hsm, hfl, hb⟩ := hrel
      clear hv2 hb12
      by_cases hlt : k < l.length
      · obtain ⟨b, off, rfl, hact⟩ := (hA.below hb).2 k hlt
        obtain ⟨ps, hpl, hps⟩ := hact.puts
        have hc := hact.2.1
        have d0 : wr.cell? ⟨b, off + k * 9, none⟩ = some (.string l[k].kind) := hc 0 (by omega)
        have d1 : wr.cell? ⟨b, off + k * 9 + 1, none⟩ = some (.string l[k].s) := hc 1 (by omega)
        have d2 : wr.cell? ⟨b, off + k * 9 + 2, none⟩ = some (.int .i64 l[k].a) := hc 2 (by omega)
        have d3 : wr.cell? ⟨b, off + k * 9 + 3, none⟩ = some (.int .i64 l[k].b) := hc 3 (by omega)
        have d4 : wr.cell? ⟨b, off + k * 9 + 4, none⟩ = some (.int .i64 l[k].c) := hc 4 (by omega)
        have d5 : wr.cell? ⟨b, off + k * 9 + 5, none⟩ = some (.int .i64 l[k].d) := hc 5 (by omega)
        have d6 : wr.cell? ⟨b, off + k * 9 + 6, none⟩ = some (.int .u64 l[k].k) := hc 6 (by omega)
        have d7 : wr.cell? ⟨b, off + k * 9 + 7, none⟩ = some (.slice l[k].pA l[k].pL l[k].pC) := hc 7 (by omega)
        have d8 : wr.cell? ⟨b, off + k * 9 + 8, none⟩ = some (.slice l[k].cA l[k].cL l[k].cC) := hc 8 (by omega)
        have i1 : (k : Int) < (l.length : Int) := by omega
        have HC := Lib.hid (fill_any wr u V l[k] ps hu hV hps hpl)
        have HO := Lib.hid (fillV_ok hV l[k] ps)
        have HS := Lib.hid (fillV_short hV hsh l[k] ps)
        have HSM := Lib.hid (small_fill hsm l[k] ps)
        have HFL := Lib.hid (full_fill hfl l[k] ps)
        clear hc hact hps hpl
        go_wp2_with fail
        (refine HC.out.mono ?_; rintro e w3 ⟨u3, rfl, hu3, hb3⟩)
        go_wp2
        go_roundw
        case rel => exact ⟨k + 1, u3, _, hlt, rfl, by go_num, hu3, HO.out, HS.out, HSM.out, HFL.out, belowThen hb hb3⟩
        case measure => simp [intOf]; omega
      · go_wp2
        go_ret2
        exact .inr ⟨u, V, rfl, hu, hV, hsh, hsm, hfl, hb⟩
end Go.Proofs.YtlgahdabhnhjgaaGreatDoor
