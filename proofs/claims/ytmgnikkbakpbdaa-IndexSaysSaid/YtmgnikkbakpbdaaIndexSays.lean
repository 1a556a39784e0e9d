/- IndexSays: for all acts on roots, an index answers as the document does. The walk of the law. -/
import Derived.Test.YtmgnikkbakpbdaaRowsG
import Derived.Deep.DeepCutAuto
import Derived.Deep.CutBlock
namespace Go.Proofs.Ytmgnikkbakpbdaa
open Go.RowKit Go.Maps

/-- What lies behind each act. -/
structure BothAt (w0 w : World) (gm x gp bp bn : Nat) (v : Value) (X : IdxM) (RL : List Nat) : Prop where
  idx : IdxAt w x gp bp bn 1000 X
  ref : RIdxAt w gm X
  inv : Inv X (heldR RL) [] []
  own : OwnInts w w0.heap.size v (numsR RL)
  low : ∀ n ∈ RL, n ≤ 24
  ne : RL ≠ []
  hp : w0.heap.size ≤ bp
  hn : w0.heap.size ≤ bn
  below : Below w0.heap.size w0 w
theorem numsR_ne {RL : List Nat} (h : RL ≠ []) : numsR RL ≠ [] := fun e => h (List.length_eq_zero_iff.1 (by rw [← numsR_len, e]; rfl))
theorem BothAt.later {w0 w w' : World} {gm x gp bp bn : Nat} {v : Value} {X : IdxM} {RL : List Nat} (h : BothAt w0 w gm x gp bp bn v X RL) (hb : Below w.heap.size w w') : BothAt w0 w' gm x gp bp bn v X RL :=
  ⟨h.idx.below hb, h.ref.below hb, h.inv, h.own.below hb, h.low, h.ne, h.hp, h.hn, belowThen h.below hb⟩
/-- A root added. -/
theorem BothAt.more {w0 w w' : World} {gm x gp bp bn : Nat} {v v' : Value} {X : IdxM} {RL : List Nat} {n : Nat} (h : IdxAt w x gp bp bn 1000 X) (hm : RIdxAt w gm X) (hI : Inv X (opt n (heldR RL)) [] []) (hO : OwnInts w w0.heap.size v (numsR RL)) (hlow : ∀ n ∈ RL, n ≤ 24) (hne : RL ≠ []) (hn : n ≤ 24) (hp1 : w0.heap.size ≤ bp) (hn1 : w0.heap.size ≤ bn) (hb : Below w0.heap.size w0 w)
    (hown : w'.ownsRow w0.heap.size 3 1 v' ((numsR RL).length + 1) ((numsR RL).map (Value.int .i64) ++ [.int .i64 (n : Int)])) (hg : (w.alloc (.cells #[.int .i64 (n : Int)] 3)).grownBy w' v.ownBlock) : BothAt w0 w' gm x gp bp bn v' X (RL ++ [n]) := by
  have b1 := (Below.refl w.heap.size w).alloc (Nat.le_refl _) (.cells #[.int .i64 (n : Int)] 3)
  have hO1 := hO.below b1
  refine ⟨(h.below b1).growRow hg hO1 (fun _ _ => rfl), (hm.below b1).growRow hg (hO.neRef (numsR_ne hne) hm.blks), hI.perm (heldR_snoc RL n), ?_, fun z hz => ?_, by simp, hp1, hn1, ?_⟩
  · refine ownOf (numsR (RL ++ [n])) hown (by simp [numsR]) (by simp [numsR])
  · rcases List.mem_append.1 hz with hz | hz
    · exact hlow z hz
    · simp at hz; omega
  · exact (hb.alloc hb.size _).grown hg (by simp; have := hb.size; omega) (fun j hj => (World.ownsRow.lt hO j hj).1)

theorem OwnInts.neStr {w : World} {base g : Nat} {v : Value} {l : List Int} {s : ByteArray} (h : OwnInts w base v l) (hl : l ≠ []) (c : w.cell? ⟨g, 0, none⟩ = some (.string s)) : v.ownBlock ≠ some g := by
  have h' : w.ownsRow base 3 1 v l.length (l.map (Value.int .i64)) := h
  rcases h.2 with ⟨_, h0⟩ | ⟨b, cap, cur, rfl, _⟩
  · exact absurd (List.length_eq_zero_iff.1 h0) hl
  · intro e
    have e : b = g := by simpa [Value.ownBlock] using e
    subst e
    have := h'.cellAt 0 (by have := List.length_pos_iff.2 hl; omega)
    rw [c] at this
    cases l with
    | nil => exact hl rfl
    | cons x l => simp at this
theorem grow_cell {w w' : World} {o : Obj} {v : Value} (hg : (w.alloc o).grownBy w' v.ownBlock) {a : Addr} {u : Value} (hc : w.cell? a = some u) (hne : v.ownBlock ≠ some a.block) : w'.cell? a = some u := by
  have hlt := World.block_lt_of_cell? w a hc
  rw [World.cell?_of_block (w := w) ((hg.block a.block (by simp; omega) (fun e => hne e.symm)).trans (Below.heap_alloc _ _ _ hlt))]
  exact hc
theorem grow_cell' {w w' : World} {v : Value} (hg : w.grownBy w' v.ownBlock) {a : Addr} {u : Value} (hc : w.cell? a = some u) (hne : v.ownBlock ≠ some a.block) : w'.cell? a = some u := by
  have hlt := World.block_lt_of_cell? w a hc
  rw [World.cell?_of_block (w := w) (hg.block a.block hlt (fun e => hne e.symm))]
  exact hc

set_option maxHeartbeats 16000000 in
set_option maxRecDepth 100000 in
theorem indexSays_walk (A : Option Addr) (cA : Nat) (l : List ActM) (w : World) (hA : ActsAt w w.heap.size A l) :
    Calls Try.prog 4 #[.slice A l.length cA] w fun e w' => e = .returned (.bool true) ∧ Below w.heap.size w w' := by
  have hm := hA.1
  unfold maxLen at hm
  obtain ⟨i0, hi, hz0, hz1, hz2⟩ := info_parts Try.infoInt
  go_enter Try.func4, Try.ntmps4
  go_wp2_with fail
  ((with_reducible refine (indexes_closed _).mono ?_); rintro e w1 ⟨rfl, hb1⟩)
  go_wp2_with fail
  ((with_reducible refine (lightActs_any _ _ _ _ _ (hA.below hb1)).mono ?_); rintro e w2 ⟨r, rfl, hr, hb2⟩)
  replace hb2 := belowThen hb1 hb2
  clear hb1
  cases r
  · go_wp2
    go_ret
    exact ⟨rfl, hb2⟩
  have hl60 : l.length ≤ 60 := by have := hr rfl; omega
  clear hr
  go_wp2_with fail
  ((with_reducible refine (idxNew_any _).mono ?_); rintro e w3 ⟨x, gp, bp, bn, rfl, h3, hx, hgp, hbp, hbn, hb3⟩)
  have hR := ridx_new w3
  have hb4 := (Below.refl w3.heap.size w3).alloc (Nat.le_refl _) (.cells Try.zeroCells36 36)
  have h4 := (h3.below hb4).mono (show 0 ≤ 1000 by omega)
  have hs2 := hb2.size
  have hb5 : Below w.heap.size w _ := belowThen (belowThen hb2 hb3) hb4
  have hs3 := hb3.size
  obtain ⟨gm, hgm⟩ : ∃ gm, w3.heap.size = gm := ⟨_, rfl⟩
  obtain ⟨w4, hw4⟩ : ∃ w4, w3.alloc (.cells Try.zeroCells36 36) = w4 := ⟨_, rfl⟩
  have hgm1 : w.heap.size ≤ gm := by omega
  rw [hw4, hgm] at hR
  rw [hw4] at h4 hb5
  have b6 := (Below.refl w4.heap.size w4).alloc (Nat.le_refl _) (.cells #[.int .i64 0] 3)
  have h6 : BothAt w (w4.alloc (.cells #[.int .i64 0] 3)) gm x gp bp bn (.slice (some ⟨w4.heap.size, 0, none⟩) 1 1) emptyIdx [0] := ⟨h4.below b6, hR.below b6, inv_empty, ownInts_unit w4 w.heap.size hb5.size 0, by simp, by simp, by omega, by omega, belowThen hb5 b6⟩
  clear hb4 hb3 h3 hb2 h4 hR hb5 b6 hx hgp hbp hbn hs2 hs3
  go_wp2
  clear hw4 hgm
  go_loopw [4, 6, 7] (fun vx v i w' => ∃ (k : Nat) (X : IdxM) (RL : List Nat) (x gp bp bn : Nat), k ≤ l.length ∧ i = .int .i64 k ∧ vx = .pointer (some ⟨x, 0, none⟩) ∧ RL.length ≤ k + 1 ∧ BothAt w w' gm x gp bp bn v X RL) (fun _ _ i _ => l.length - (intOf i).toNat)
  case atStart => exact ⟨0, emptyIdx, [0], x, gp, bp, bn, Nat.zero_le _, rfl, rfl, by simp, h6⟩
  case round =>
    obtain ⟨k, X, RL, x, gp, bp, bn, hk, rfl, rfl, hRL, hB⟩ := hrel
    clear h6
    by_cases hlt : k < l.length
    · obtain ⟨ga, off, rfl, hact⟩ := (hA.below hB.below).2 k hlt
      have hc := hact.2.1
      have d0 : wr.cell? ⟨ga, off + k * 9, none⟩ = some (.string l[k].kind) := hc 0 (by omega)
      have d1 : wr.cell? ⟨ga, off + k * 9 + 1, none⟩ = some (.string l[k].s) := hc 1 (by omega)
      have d2 : wr.cell? ⟨ga, off + k * 9 + 2, none⟩ = some (.int .i64 l[k].a) := hc 2 (by omega)
      have d3 : wr.cell? ⟨ga, off + k * 9 + 3, none⟩ = some (.int .i64 l[k].b) := hc 3 (by omega)
      have d4 : wr.cell? ⟨ga, off + k * 9 + 4, none⟩ = some (.int .i64 l[k].c) := hc 4 (by omega)
      have d5 : wr.cell? ⟨ga, off + k * 9 + 5, none⟩ = some (.int .i64 l[k].d) := hc 5 (by omega)
      have d6 : wr.cell? ⟨ga, off + k * 9 + 6, none⟩ = some (.int .u64 l[k].k) := hc 6 (by omega)
      have d7 : wr.cell? ⟨ga, off + k * 9 + 7, none⟩ = some (.slice l[k].pA l[k].pL l[k].pC) := hc 7 (by omega)
      have d8 : wr.cell? ⟨ga, off + k * 9 + 8, none⟩ = some (.slice l[k].cA l[k].cL l[k].cC) := hc 8 (by omega)
      have hss := hact.2.2.2.2.2.2.1
      unfold maxLen at hss
      have i1 : (k : Int) < (l.length : Int) := by omega
      clear hc hact
      generalize l[k] = m at d0 d1 d2 d3 d4 d5 d6 d7 d8 hss
      have hBa := hB.later ((Below.refl wr.heap.size wr).alloc (Nat.le_refl _) (.cells (actArr m) 41))
      have e0 : (wr.alloc (.cells (actArr m) 41)).cell? ⟨wr.heap.size, 0, none⟩ = some (.string m.kind) := cell_of_row _ _ _ _ _ _ (heap_alloc_new _ _)
      have e1 : (wr.alloc (.cells (actArr m) 41)).cell? ⟨wr.heap.size, 1, none⟩ = some (.string m.s) := cell_of_row _ _ _ _ _ _ (heap_alloc_new _ _)
      have e2 : (wr.alloc (.cells (actArr m) 41)).cell? ⟨wr.heap.size, 2, none⟩ = some (.int .i64 m.a) := cell_of_row _ _ _ _ _ _ (heap_alloc_new _ _)
      have e3 : (wr.alloc (.cells (actArr m) 41)).cell? ⟨wr.heap.size, 3, none⟩ = some (.int .i64 m.b) := cell_of_row _ _ _ _ _ _ (heap_alloc_new _ _)
      obtain ⟨gx, hgx⟩ : ∃ gx, wr.heap.size = gx := ⟨_, rfl⟩
      obtain ⟨wa, hwa⟩ : ∃ wa, wr.alloc (.cells (actArr m) 41) = wa := ⟨_, rfl⟩
      have hx1 : gm < gx := by rw [← hgx]; exact hB.ref.lt
      have hx2 : w.heap.size ≤ gx := by omega
      rw [hwa] at hBa e0 e1 e2 e3
      rw [hgx] at e0 e1 e2 e3
      have HE0 := Lib.hid e0
      clear e0
      unfold actArr at hwa
      have HWA := Lib.hid hwa
      have HGX := Lib.hid hgx
      obtain ⟨gr, c, hv, hnc, hcm, hgr1, hgr2⟩ := rowShape hB.own (numsR_ne hBa.ne)
      have hgx3 : gr < gx := by rw [← hgx]; exact hgr2
      clear hwa hgx hB hgr2
      rw [numsR_len] at hv hnc
      subst hv
      unfold maxLen at hcm
      obtain ⟨mm, hmm⟩ := Int.eq_ofNat_of_zero_le (andBits m.a).1
      have hn0 : 0 < RL.length := List.length_pos_iff.2 hBa.ne
      obtain ⟨n, hn⟩ : ∃ n, RL.length = n := ⟨_, rfl⟩
      obtain ⟨q, hq⟩ : ∃ q, mm % n = q := ⟨_, rfl⟩
      have hqn : q < n := by rw [← hq]; exact Nat.mod_lt _ (by omega)
      have hqR : q < RL.length := by omega
      have hq2 : (mm : Int) % (n : Int) = (q : Int) := by rw [← hq]; exact (Int.natCast_emod mm n).symm
      obtain ⟨root, hroot⟩ : ∃ r, RL[q] = r := ⟨_, rfl⟩
      have hrm : root ∈ RL := by rw [← hroot]; exact List.getElem_mem hqR
      have hr24 : root ≤ 24 := hBa.low root hrm
      have cq : wa.cell? ⟨gr, q, none⟩ = some (.int .i64 root) := by
        have := rowPart hBa.own (by rw [numsR_len]) q 1 (by omega) rfl 0 (.int .i64 root) (by simp [numsR, hqR, hroot])
        simpa [add_lit'] using this
      have hperm := heldR_at RL q hqR
      rw [hroot] at hperm
      have HPERM := Lib.hid hperm
      have hheld : root = 0 ∨ root ∈ heldR RL := heldR_mem hrm
      have hgrm : gr ≠ gm := fun e => hBa.own.neRef (numsR_ne hBa.ne) hBa.ref.blks (by rw [← e]; rfl)
      have HN := Lib.hid hn
      rw [hn] at hBa hnc hn0 hRL ⊢
      have i3 : (0 : Int) < (n : Int) := by omega
      have i5 : ((n : Int) == 0) = false := by simp; omega
      have i6 : ¬ ((n : Int) = 0) := by omega
      have i7 : (0 : Int) ≤ (mm : Int) := by omega
      have i8 : (0 : Int) ≤ (q : Int) := by omega
      have i9 : (q : Int) < (n : Int) := by omega
      clear hq hn hroot hrm hqR hperm
      by_cases hB0 : m.b < 0
      · have hB0' : decide (m.b < 0) = true := by simpa using hB0
        go_wp2
        go_ret
        rw [HWA.out]
        exact ⟨rfl, hBa.below⟩
      have hB0' : decide (m.b < 0) = false := by simpa using hB0
      by_cases hB1 : 15 < m.b
      · have hB1' : decide (15 < m.b) = true := by simpa using hB1
        go_wp2
        go_ret
        rw [HWA.out]
        exact ⟨rfl, hBa.below⟩
      have hB1' : decide (15 < m.b) = false := by simpa using hB1
      go_upto_block 2 with (fail)
      rw [HWA.out, HGX.out, hq2]
      obtain ⟨at_, hat⟩ := Int.eq_ofNat_of_zero_le (show 0 ≤ m.b by omega)
      have ha16 : at_ < 16 := by omega
      rw [hat] at e3
      clear HWA HGX d0 d1 d2 d3 d4 d5 d6 d7 d8 hB0 hB0' hB1 hB1'
      have hOK := hBa.idx.okX
      have hMAPS := hBa.idx.maps
      have HOK := Lib.hid hOK
      have HMAPS := Lib.hid hMAPS
      have hlen60 : n ≤ 61 := by omega
      have hHL : (heldR RL).length ≤ 61 := by have := heldR_len RL; have := HN.out; omega
      clear hOK hMAPS
      go_cut [4, 6] (fun s4 s6 wx => ∃ (X' : IdxM) (RL' : List Nat) (x' gp' bp' bn' : Nat), s4 = .pointer (some ⟨x', 0, none⟩) ∧ BothAt w wx gm x' gp' bp' bn' s6 X' RL' ∧ RL'.length ≤ k + 2 ∧ wx.cell? ⟨gx, 2, none⟩ = some (.int .i64 m.a))
      case first =>
        cases hk0 : (m.kind.toList == [115, 101, 116]) with
        | true =>
          obtain ⟨X', n', ne, hS⟩ := three (setX X root at_ m.s)
          have hn24 : n' ≤ 24 := by have := setX_id X root at_ m.s; rw [hS] at this; exact this
          have hne0 : 0 ≤ ne := by have := setX_err X root at_ m.s; rw [hS] at this; simp only at this; omega
          have HGOOD := Lib.hid (fun (e0 : ne = 0) => by
            have := setX_good (data := m.s) (at_ := at_) hBa.inv hheld ha16 (by rw [hS]; exact e0)
            rw [hS] at this
            exact this.1)
          have HSET := Lib.hid (fun w' (hb : Below wa.heap.size wa w') => setE w' x gp bp bn 1000 X root at_ m.s X' n' ne (hBa.idx.below hb) (by omega) ha16 (by omega) (by omega) hS)
          have HREF := Lib.hid (fun w' (h' : RIdxAt w' gm X) => refSet_any w' gm 1000 X root at_ m.s X' n' ne (heldR RL) h' HOK.out (by omega) hBa.inv hheld ha16 (by omega) hS)
          have HKEEP := Lib.hid (fun w2 (t2 : Turn [bp, bn] wa.drew w2) => show w2.cell? ⟨gx, 1, none⟩ = some (.string m.s) ∧ w2.cell? ⟨gx, 3, none⟩ = some (.int .i64 (at_ : Int)) ∧ w2.cell? ⟨gr, q, none⟩ = some (.int .i64 root) from ⟨mapTurn_cell t2 (w := wa.drew) HMAPS.out e1, mapTurn_cell t2 (w := wa.drew) HMAPS.out e3, mapTurn_cell t2 (w := wa.drew) HMAPS.out cq⟩)
          have HB := Lib.hid hBa
          clear hS hBa
          go_wp2_with fail
          go_region_held3 (fun w' => w'.cell? ⟨gx, 1, none⟩ = some (.string m.s) ∧ w'.cell? ⟨gx, 3, none⟩ = some (.int .i64 (at_ : Int)) ∧ w'.cell? ⟨gr, q, none⟩ = some (.int .i64 root)) (first | exact ⟨e1, e3, cq⟩ | exact HKEEP.out _ t2)
            (first | (go_at_call 23; refine (HSET.out _ (Below.refl _ _).drew).mono ?_; rintro e w2 ⟨rfl, h2, t2⟩))
          have hB := HB.out
          have hwb : w.heap.size ≤ bp ∧ w.heap.size ≤ bn := ⟨hB.hp, hB.hn⟩
          have hb2 : Below w.heap.size w w2 := Below.trans (b := wa.drew) hB.below.drew (t2.below (by exact hB.below.size) (by simp; omega))
          have hM2 := RIdxAt.idxTurn (w := wa.drew) (hB.ref.keep rfl) (hB.idx.below (Below.refl _ _).drew) t2
          have hO2 : OwnInts w2 w.heap.size _ (numsR RL) := OwnInts.mapTurn (w := wa.drew) hB.own t2 HMAPS.out
          obtain ⟨f1, f3, fq⟩ := HKEEP.out _ t2
          have f2 := mapTurn_cell t2 (w := wa.drew) HMAPS.out e2
          have HK3 := Lib.hid (fun w3 (t3 : Turn [gm] w2.drew w3) => show w3.cell? ⟨gx, 1, none⟩ = some (.string m.s) ∧ w3.cell? ⟨gx, 3, none⟩ = some (.int .i64 (at_ : Int)) ∧ w3.cell? ⟨gr, q, none⟩ = some (.int .i64 root) from ⟨Turn.cellKept (a := w2.drew) t3 f1 (show gx ∉ [gm] by simp; omega), Turn.cellKept (a := w2.drew) t3 f3 (show gx ∉ [gm] by simp; omega), Turn.cellKept (a := w2.drew) t3 fq (show gr ∉ [gm] by simpa using hgrm)⟩)
          have HM2 := Lib.hid hM2
          have HO2 := Lib.hid hO2
          have HX2 := Lib.hid h2
          have HB2 := Lib.hid hb2
          clear t2 HKEEP HSET hB h2 hM2 hO2 hb2 e1 e2 e3 cq
          go_wp2_with fail
          go_region_held3 (fun w' => w'.cell? ⟨gx, 1, none⟩ = some (.string m.s) ∧ w'.cell? ⟨gx, 3, none⟩ = some (.int .i64 (at_ : Int)) ∧ w'.cell? ⟨gr, q, none⟩ = some (.int .i64 root)) (first | exact ⟨f1, f3, fq⟩ | exact HK3.out _ t3)
            (first | (go_at_call 24; refine (HREF.out _ (HM2.out.below (Below.refl _ _).drew)).mono ?_; rintro e w3 ⟨rfl, h3, t3⟩))
          have hB := HB.out
          have hb3 : Below w.heap.size w w3 := Below.trans (b := w2.drew) HB2.out.drew (t3.below (by exact HB2.out.size) (by simp; omega))
          have hX3 := IdxAt.refTurn (w := w2.drew) (HX2.out.below (Below.refl _ _).drew) (HM2.out.below (Below.refl _ _).drew).blks t3
          have hO3 : OwnInts w3 w.heap.size _ (numsR RL) := OwnInts.refTurn (w := w2.drew) HO2.out (numsR_ne hB.ne) (HM2.out.below (Below.refl _ _).drew).blks t3
          have f4 := Turn.cellKept (a := w2.drew) t3 f2 (show gx ∉ [gm] by simp; omega)
          have HH3 := Lib.hid h3
          have HX3 := Lib.hid hX3
          have HF4 := Lib.hid f4
          clear t3 HK3 HREF hB h3 hX3 HX2 HO2 HB2 HM2 f1 f2 f3 fq f4
          go_wp2_with fail
          ((with_reducible refine (said_yes ne _ hne0).mono ?_); rintro e w4 ⟨rfl, rfl⟩)
          have hsz3 := hb3.size
          by_cases he0 : ne = 0
          · have hpos : decide (0 < ne) = false := by simp; omega
            have HM3 := Lib.hid (HH3.out he0)
            have HI3 := Lib.hid (HGOOD.out he0)
            have HB3 := Lib.hid hb3
            clear HH3 he0 hb3
            go_wp2_with (at_builtin; refine wpList_append_own _ rfl _ _ 56 rfl w.heap.size 3 i0 (.int .i64 0) 1 8 Try.underlying56 hi hz0 hz1 hz2 rfl (by decide) _ _ _ rfl (World.ownsRow.alloc hO3 _) ⟨w3.heap.size, 0, none⟩ 1 1 [.int .i64 (n' : Int)] rfl rfl (cell_one_new _ _ _) (by simp [Value.oneCell']) (by rw [numsR_len, HN.out]; unfold maxLen; omega) (by rw [numsR_len, HN.out]; omega) (by simp; omega) ?_; intro v' w9 hown' hg9 hnil9)
            have hn60 : (heldR RL).length ≤ 700 := by omega
            have hI3 := HI3.out
            have hl3 := opt_len n' (heldR RL)
            have hfin := BothAt.more (HX3.out.renorm hI3 (by omega)) HM3.out hI3 hO3 HB.out.low HB.out.ne hn24 HB.out.hp HB.out.hn HB3.out (by simpa using hown') hg9
            have hcell := grow_cell (v := .slice (some ⟨gr, 0, none⟩) n c) hg9 HF4.out (by simp [Value.ownBlock]; omega)
            clear hown' hg9 hnil9 hO3 HM3 HI3 HB3 HX3 HF4
            go_wp2_with fail
            go_meet
            exact ⟨X', RL ++ [n'], x, gp, bp, bn, rfl, hfin, by simp [HN.out]; omega, hcell⟩
          · have hpos : decide (0 < ne) = true := by simp; omega
            go_wp2
            go_ret
            exact ⟨rfl, hb3⟩
        | false =>
          cases hk1 : (m.kind.toList == [115, 104, 97, 114, 101]) with
          | true =>
            obtain ⟨X', hX'⟩ : ∃ X', X.refN root = X' := ⟨_, rfl⟩
            have hI' : Inv X' (opt root (heldR RL)) [] [] := by rw [← hX']; exact (hBa.inv.share hheld).1
            have HP := Lib.hid (fun w' (h' : IdxAt w' x gp bp bn 1000 X) => shareE w' x gp bp bn 1000 X X' root h' (by omega) (by omega) hX')
            have HM := Lib.hid (fun w6 (t6 : Turn [bp, bn] wa.drew w6) => RIdxAt.idxTurn (w := wa.drew) (hBa.ref.keep rfl) (hBa.idx.below (Below.refl _ _).drew) t6)
            have HR := Lib.hid (fun w6 (t6 : Turn [bp, bn] wa.drew w6) => refShareE w6 gm 1000 X X' root (heldR RL) (HM.out w6 t6) HOK.out (by omega) hBa.inv hheld hX')
            have HK1 := Lib.hid (fun w6 (t6 : Turn [bp, bn] wa.drew w6) => mapTurn_cell t6 (w := wa.drew) HMAPS.out cq)
            have HK2 := Lib.hid (fun w6 (t6 : Turn [bp, bn] wa.drew w6) w7 (t7 : Turn [gm] w6 w7) => t7.cellKept (HK1.out w6 t6) (show gr ∉ [gm] by simpa using hgrm))
            have HB := Lib.hid hBa
            have HI := Lib.hid hI'
            clear hX' hI' hBa
            go_wp2_with fail
            go_region_held3 (fun w' => w'.cell? ⟨gr, q, none⟩ = some (.int .i64 root)) (first | exact cq | exact HK1.out _ t6 | exact HK2.out _ t6 _ t7)
              (first
                | (go_at_call 25; refine (HP.out _ (HB.out.idx.below (Below.refl _ _).drew)).mono ?_; rintro e w6 ⟨rfl, h6, t6⟩)
                | (go_at_call 26; refine (HR.out _ t6).mono ?_; rintro e w7 ⟨rfl, h7, t7⟩))
            all_goals
              have hB := HB.out
              have hwb : w.heap.size ≤ bp ∧ w.heap.size ≤ bn := ⟨hB.hp, hB.hn⟩
              have hb6 : Below w.heap.size w w6 := Below.trans (b := wa.drew) hB.below.drew (t6.below (by exact hB.below.size) (by simp; omega))
              have hb7 := hb6.trans (t7.below hb6.size (by simp; omega))
              have hM6 := HM.out _ t6
              have hX7 := h6.refTurn hM6.blks t7
              have hO6 : OwnInts w6 w.heap.size _ (numsR RL) := OwnInts.mapTurn (w := wa.drew) hB.own t6 HMAPS.out
              have hO7 := hO6.refTurn (numsR_ne hB.ne) hM6.blks t7
              have c7 := HK2.out _ t6 _ t7
              have f7 := t7.cellKept (mapTurn_cell t6 (w := wa.drew) HMAPS.out e2) (show gx ∉ [gm] by simp; omega)
              have HX7 := Lib.hid hX7
              have HH7 := Lib.hid h7
              have HF7 := Lib.hid f7
              have HB7 := Lib.hid hb7
              have hsz7 := hb7.size
              clear t6 t7 h6 h7 hb6 hb7 hM6 hX7 hO6 f7 hB HP HM HR HK1 HK2 e1 e2 e3 cq
              go_wp2_with (at_builtin; refine wpList_append_own _ rfl _ _ 56 rfl w.heap.size 3 i0 (.int .i64 0) 1 8 Try.underlying56 hi hz0 hz1 hz2 rfl (by decide) _ _ _ rfl (World.ownsRow.alloc hO7 _) ⟨w7.heap.size, 0, none⟩ 1 1 [.int .i64 (root : Int)] rfl rfl (cell_one_new _ _ _) (by simp [Value.oneCell']) (by rw [numsR_len, HN.out]; unfold maxLen; omega) (by rw [numsR_len, HN.out]; omega) (by simp; omega) ?_; intro v' w9 hown' hg9 hnil9)
              have hI3 := HI.out
              have hl3 := opt_len root (heldR RL)
              have hfin := BothAt.more (HX7.out.renorm hI3 (by omega)) HH7.out hI3 hO7 HB.out.low HB.out.ne hr24 HB.out.hp HB.out.hn HB7.out (by simpa using hown') hg9
              have hcell := grow_cell (v := .slice (some ⟨gr, 0, none⟩) n c) hg9 HF7.out (by simp [Value.ownBlock]; omega)
              clear hown' hg9 hnil9 hO7 HX7 HH7 HF7 HB7 c7
              go_wp2_with fail
              go_meet
              exact ⟨X', RL ++ [root], x, gp, bp, bn, rfl, hfin, by simp [HN.out]; omega, hcell⟩
          | false =>
            cases hk2 : (m.kind.toList == [102, 114, 101, 101]) with
            | true =>
              by_cases hq0 : q = 0
              · have hq0' : ((q : Int) == 0) = true := by simp [hq0]
                go_wp2
                go_roundw
                case rel => exact ⟨k + 1, X, RL, x, gp, bp, bn, hlt, by go_num, rfl, by have := HN.out; omega, hBa⟩
                case measure => simp [intOf]; omega
              · have hq0' : ((q : Int) == 0) = false := by simp; omega
                obtain ⟨X', hX'⟩ : ∃ X', X.free root = X' := ⟨_, rfl⟩
                have hIp := hBa.inv.perm HPERM.out
                have hI' : Inv X' (heldR (RL.take q ++ RL.drop (q + 1))) [] [] := by rw [← hX']; exact Inv.free root hIp
                have hR24' : ∀ z ∈ RL.take q ++ RL.drop (q + 1), z ≤ 24 := fun z hz => by
                  rcases List.mem_append.1 hz with h | h
                  · exact hBa.low z (List.mem_of_mem_take h)
                  · exact hBa.low z (List.mem_of_mem_drop h)
                have HI' := Lib.hid hI'
                have HR24' := Lib.hid hR24'
                have HFREE := Lib.hid (freeE wa x gp bp bn 1000 X X' root hBa.idx (by omega) (by omega) hX')
                have HRFREE := Lib.hid (fun w' (h' : RIdxAt w' gm X) => refFreeE w' gm 1000 X X' root _ h' HOK.out (by omega) hIp hX')
                have HB := Lib.hid hBa
                clear hX' hIp hI' hR24' hBa
                go_wp2_with fail
                ((with_reducible refine HFREE.out.mono ?_); rintro e w4 ⟨rfl, h4, t4⟩)
                have hB := HB.out
                have hwb : w.heap.size ≤ bp ∧ w.heap.size ≤ bn := ⟨hB.hp, hB.hn⟩
                have hM4 := hB.ref.idxTurn hB.idx t4
                have hO4 := hB.own.mapTurn t4 HMAPS.out
                have hb4 : Below w.heap.size w w4 := hB.below.trans (t4.below hB.below.size (by simp; omega))
                have c4 := mapTurn_cell t4 HMAPS.out cq
                have f4 := mapTurn_cell t4 HMAPS.out e2
                have HE4 := Lib.hid (mapTurn_cell t4 HMAPS.out HE0.out)
                clear t4 HFREE hB e1 e2 e3 cq
                go_wp2_with fail
                ((with_reducible refine (HRFREE.out _ hM4).mono ?_); rintro e w5 ⟨rfl, h5, t5⟩)
                have hX5 := h4.refTurn hM4.blks t5
                have hO5 := hO4.refTurn (numsR_ne HB.out.ne) hM4.blks t5
                have hb5 : Below w.heap.size w w5 := hb4.trans (t5.below hb4.size (by simp; omega))
                have f5 := t5.cellKept f4 (show gx ∉ [gm] by simp; omega)
                have hsz5 := hb5.size
                have hgr5 : gr < w5.heap.size := (World.ownsRow.lt hO5 gr rfl).2
                have HX5 := Lib.hid hX5
                have HM5 := Lib.hid h5
                have HB5 := Lib.hid hb5
                have HF5 := Lib.hid f5
                have HE5 := Lib.hid (t5.cellKept (HE4.out) (show gx ∉ [gm] by simp; omega))
                clear t5 HRFREE h4 h5 hM4 hO4 hb4 c4 f4 hX5 hb5 f5
                have k1 : (q : Int) ≤ (c : Int) := by omega
                have k2 : IntKind.i64.wrap ((q : Int) + 1) = (q : Int) + 1 := IntWalk.i64_in _ (by omega)
                have k3 : (0 : Int) ≤ (q : Int) + 1 := by omega
                have k4 : (q : Int) + 1 ≤ (n : Int) := by omega
                have k5 : ((q : Int) + 1).toNat = q + 1 := by omega
                have k6 : (n : Int) ≤ (c : Int) := by omega
                have hlen : (numsR RL).length = n := by rw [numsR_len]; exact HN.out
                have HC1 := Lib.hid (fun (w' : World) (hw : w'.heap[gr]? = w5.heap[gr]?) => rowPart hO5 hlen 0 q (by omega) hw)
                have hl1 : ((((numsR RL).drop 0).take q).map (Value.int .i64)).length = q * 1 := by simp [numsR_len, HN.out]; omega
                have HL1 := Lib.hid hl1
                by_cases hcq : c = q + 1
                · subst hcq
                  obtain rfl : n = q + 1 := by omega
                  have k7 : (q : Int) ≤ (q : Int) + 1 := by omega
                  clear hl1 hlen
                  go_wp2_with fail
                  go_region_law (first
                    | (refine step_appendOwn rfl _ _ 56 rfl w.heap.size 3 i0 (.int .i64 0) 1 8 Try.underlying56 hi hz0 hz1 hz2 rfl (by decide) (.slice none 0 0) 0 [] (by simp [Act.eval]) (World.ownsRow_nil _ _ _ _) ⟨gr, 0, none⟩ q (q + 1) _ (by simp [Act.eval, Act.put]) HL1.out (HC1.out _ rfl) (intsCells _) (by unfold maxLen; omega) (by omega) (by exact hsz5) ?_; intro v1 w7 hown1 hg1 hnil1)
                    | (refine step_appendOwn rfl _ _ 56 rfl w.heap.size 3 i0 (.int .i64 0) 1 8 Try.underlying56 hi hz0 hz1 hz2 rfl (by decide) v1 _ _ (by simp [Act.eval]) hown1 ⟨gr, 0, none⟩ 0 0 [] (by simp [Act.eval]) rfl (by simp) (by simp) (by unfold maxLen; omega) (by omega) (by exact Nat.le_trans hsz5 hg1.size) ?_; intro v2 w8 hown2 hg2 hnil2))
                  have hown1' : OwnInts w7 w.heap.size v1 (((numsR RL).drop 0).take q) := ownOf _ hown1 (by simp) (by rw [List.length_take, List.length_drop, numsR_len, HN.out]; omega)
                  have g1 : Below w5.heap.size w5 w7 := (Below.refl _ _).drew.grown hg1 (Nat.le_refl _) (fun j hj => by cases hj)
                  have hX7 := HX5.out.below g1
                  have hM7 := HM5.out.below g1
                  have hX8 := hX7.growRow hg2 hown1' (fun _ _ => rfl)
                  have hq1 : 0 < q := by omega
                  have hne1 : ((numsR RL).drop 0).take q ≠ [] := fun e => by have := congrArg List.length e; rw [List.length_take, List.length_drop, numsR_len, HN.out] at this; simp at this; omega
                  have hM8 := hM7.growRow hg2 (hown1'.neRef hne1 hM7.blks)
                  have hO8 := ownOf _ hown2 (by rw [← (partsOf RL (q + 1) q HN.out hqn).1]; simp) (by rw [← (partsOf RL (q + 1) q HN.out hqn).2]; omega)
                  have hb8 : Below w.heap.size w w8 := (belowThen HB5.out g1).grown hg2 (by exact Nat.le_trans hsz5 hg1.size) (fun j hj => (World.ownsRow.lt hown1' j hj).1)
                  have fA := below_cellKept g1 HF5.out
                  have hnown := OwnInts.neStr hown1' hne1 (below_cellKept g1 HE5.out)
                  have fB := grow_cell' hg2 fA hnown
                  have hI8 := HI'.out
                  have hfin : BothAt w w8 gm x gp bp bn v2 X' (RL.take q ++ RL.drop (q + 1)) := ⟨hX8, hM8, hI8, hO8, HR24'.out, fun e => by have := congrArg List.length e; simp [HN.out] at this; omega, HB.out.hp, HB.out.hn, hb8⟩
                  clear hown1 hown2 hg1 hg2 hnil1 hnil2 hown1' hX7 hM7 hX8 hM8 hO8 hb8 fA g1 HX5 HM5 HB5 HF5
                  go_wp2_with fail
                  go_meet
                  exact ⟨X', RL.take q ++ RL.drop (q + 1), x, gp, bp, bn, rfl, hfin, by simp [HN.out]; omega, fB⟩
                · have HC2 := Lib.hid (fun (w' : World) (hw : w'.heap[gr]? = w5.heap[gr]?) => rowPart hO5 hlen (q + 1) (n - (q + 1)) (by omega) hw)
                  have hl2 : ((((numsR RL).drop (q + 1)).take (n - (q + 1))).map (Value.int .i64)).length = (n - (q + 1)) * 1 := by simp [numsR_len, HN.out]
                  have HL2 := Lib.hid hl2
                  have hcq' : ¬ (c - (q + 1) = 0) := by omega
                  clear hl1 hl2 hlen
                  go_wp2_with fail
                  go_region_law (first
                    | (refine step_appendOwn rfl _ _ 56 rfl w.heap.size 3 i0 (.int .i64 0) 1 8 Try.underlying56 hi hz0 hz1 hz2 rfl (by decide) (.slice none 0 0) 0 [] (by simp [Act.eval]) (World.ownsRow_nil _ _ _ _) ⟨gr, 0, none⟩ q c _ (by simp [Act.eval, Act.put]) HL1.out (HC1.out _ rfl) (intsCells _) (by unfold maxLen; omega) (by omega) (by exact hsz5) ?_; intro v1 w7 hown1 hg1 hnil1)
                    | (refine step_appendOwn rfl _ _ 56 rfl w.heap.size 3 i0 (.int .i64 0) 1 8 Try.underlying56 hi hz0 hz1 hz2 rfl (by decide) v1 _ _ (by simp [Act.eval]) hown1 ⟨gr, q + 1, none⟩ (n - (q + 1)) (c - (q + 1)) _ (by simp [Act.eval]) HL2.out (HC2.out _ (hg1.block gr (by exact hgr5) (by simp [Value.ownBlock]))) (intsCells _) (by unfold maxLen; omega) (by omega) (by exact Nat.le_trans hsz5 hg1.size) ?_; intro v2 w8 hown2 hg2 hnil2))
                  have hown1' : OwnInts w7 w.heap.size v1 (((numsR RL).drop 0).take q) := ownOf _ hown1 (by simp) (by rw [List.length_take, List.length_drop, numsR_len, HN.out]; omega)
                  have g1 : Below w5.heap.size w5 w7 := (Below.refl _ _).drew.grown hg1 (Nat.le_refl _) (fun j hj => by cases hj)
                  have hX7 := HX5.out.below g1
                  have hM7 := HM5.out.below g1
                  have hX8 := hX7.growRow hg2 hown1' (fun _ _ => rfl)
                  have hq1 : 0 < q := by omega
                  have hne1 : ((numsR RL).drop 0).take q ≠ [] := fun e => by have := congrArg List.length e; rw [List.length_take, List.length_drop, numsR_len, HN.out] at this; simp at this; omega
                  have hM8 := hM7.growRow hg2 (hown1'.neRef hne1 hM7.blks)
                  have hO8 := ownOf _ hown2 (partsOf RL n q HN.out hqn).1 (partsOf RL n q HN.out hqn).2
                  have hb8 : Below w.heap.size w w8 := (belowThen HB5.out g1).grown hg2 (by exact Nat.le_trans hsz5 hg1.size) (fun j hj => (World.ownsRow.lt hown1' j hj).1)
                  have fA := below_cellKept g1 HF5.out
                  have hnown := OwnInts.neStr hown1' hne1 (below_cellKept g1 HE5.out)
                  have fB := grow_cell' hg2 fA hnown
                  have hI8 := HI'.out
                  have hfin : BothAt w w8 gm x gp bp bn v2 X' (RL.take q ++ RL.drop (q + 1)) := ⟨hX8, hM8, hI8, hO8, HR24'.out, fun e => by have := congrArg List.length e; simp [HN.out] at this; omega, HB.out.hp, HB.out.hn, hb8⟩
                  clear hown1 hown2 hg1 hg2 hnil1 hnil2 hown1' hX7 hM7 hX8 hM8 hO8 hb8 fA g1 HX5 HM5 HB5 HF5
                  go_wp2_with fail
                  go_meet
                  exact ⟨X', RL.take q ++ RL.drop (q + 1), x, gp, bp, bn, rfl, hfin, by simp [HN.out]; omega, fB⟩
            | false =>
              obtain ⟨X', n', ne, hS⟩ := three (setX X root at_ ⟨#[111, 108, 100]⟩)
              have HB := Lib.hid hBa
              have hBi := hBa.idx
              clear hBa
              go_wp2_with fail
              ((with_reducible refine (idxCopy_any _ x gp bp bn 1000 X hBi).mono ?_); rintro e w6 ⟨x', gp', bp', bn', rfl, h6, hx6, hgp6, hbp6, hbn6, hB6⟩)
              have hB := HB.out.later hB6
              have hw1 : bp < wa.heap.size ∧ bn < wa.heap.size := ⟨hBi.pool.ltb, hBi.ltn⟩
              have f2 := below_cellKept hB6 e2
              have f3 := below_cellKept hB6 e3
              have fq := below_cellKept hB6 cq
              have HMAP6 := Lib.hid hB.idx.maps
              have HSET := Lib.hid (fun w' (hb : Below w6.heap.size w6 w') => setE w' x gp bp bn 1000 X root at_ ⟨#[111, 108, 100]⟩ X' n' ne (hB.idx.below hb) (by omega) ha16 (by omega) (by decide) hS)
              have HKEEP := Lib.hid (fun w7 (t7 : Turn [bp, bn] w6.drew w7) => show w7.cell? ⟨gx, 3, none⟩ = some (.int .i64 (at_ : Int)) ∧ w7.cell? ⟨gr, q, none⟩ = some (.int .i64 root) from ⟨mapTurn_cell t7 (w := w6.drew) HMAP6.out f3, mapTurn_cell t7 (w := w6.drew) HMAP6.out fq⟩)
              have HB6 := Lib.hid hB
              have HX6 := Lib.hid h6
              clear hS hB h6 hB6 e1 e2 e3 cq hBi
              go_wp2_with fail
              go_region_held3 (fun w' => w'.cell? ⟨gx, 3, none⟩ = some (.int .i64 (at_ : Int)) ∧ w'.cell? ⟨gr, q, none⟩ = some (.int .i64 root)) (first | exact ⟨f3, fq⟩ | exact HKEEP.out _ t7)
                (first | (go_at_call 23; refine (HSET.out _ (Below.refl _ _).drew).mono ?_; rintro e w7 ⟨rfl, h7, t7⟩))
              have hB := HB6.out
              have hwb : w.heap.size ≤ bp ∧ w.heap.size ≤ bn := ⟨hB.hp, hB.hn⟩
              have hb7 : Below w.heap.size w w7 := Below.trans (b := w6.drew) hB.below.drew (t7.below (by exact hB.below.size) (by simp; omega))
              have hM7 := RIdxAt.idxTurn (w := w6.drew) (hB.ref.keep rfl) (hB.idx.below (Below.refl _ _).drew) t7
              have hO7 : OwnInts w7 w.heap.size _ (numsR RL) := OwnInts.mapTurn (w := w6.drew) hB.own t7 HMAP6.out
              have hX7 := IdxAt.turn (w := w6.drew) (HX6.out.below (Below.refl _ _).drew) t7 (by simp; omega) (by simp; omega) (by simp; omega) (by simp; omega)
              have f7 := mapTurn_cell t7 (w := w6.drew) HMAP6.out f2
              have hwa1 := HB.out.below.size
              have hfin : BothAt w w7 gm x' gp' bp' bn' (.slice (some ⟨gr, 0, none⟩) n c) X RL := ⟨hX7, hM7, hB.inv, hO7, hB.low, hB.ne, by omega, by omega, hb7⟩
              clear t7 h7 hB hM7 hO7 hX7 hb7 HKEEP HSET f2 f3 fq
              go_wp2_with fail
              go_meet
              exact ⟨X, RL, x', gp', bp', bn', rfl, hfin, by have := HN.out; omega, f7⟩
      case rest =>
        obtain ⟨X', RL', x', gp', bp', bn', rfl, hB', hRL', c2⟩ := hcut
        rename_i s6v
        clear e1 e2 e3 cq hBa HPERM hheld hr24 HOK HMAPS HN hRL hn0 hnc i3 i5 i6 i7 i8 i9 hq2 hqn hgrm hgx3 hgr1
        go_wp2_with fail
        ((with_reducible refine (asIndex_yes _ x' gp' bp' bn' 1000 gm X' hB'.idx hB'.ref).mono ?_); rintro e w6 ⟨rfl, hb6⟩)
        have hB6 := hB'.later hb6
        have c6 := below_cellKept hb6 c2
        clear hB' hb6 c2
        obtain ⟨gs, cs, hv, hnc, hcm', hgs1, hgs2⟩ := rowShape hB6.own (numsR_ne hB6.ne)
        rw [numsR_len] at hv hnc
        subst hv
        unfold maxLen at hcm'
        have ht0 : 0 < RL'.length := List.length_pos_iff.2 hB6.ne
        obtain ⟨t, ht⟩ : ∃ t, RL'.length = t := ⟨_, rfl⟩
        obtain ⟨z, hz⟩ : ∃ z, t - 1 = z := ⟨_, rfl⟩
        obtain ⟨u, hu⟩ : ∃ u, mm % t = u := ⟨_, rfl⟩
        have hut : u < t := by rw [← hu]; exact Nat.mod_lt _ (by omega)
        have huR : u < RL'.length := by omega
        have hzR : z < RL'.length := by omega
        have hu2 : (mm : Int) % (t : Int) = (u : Int) := by rw [← hu]; exact (Int.natCast_emod mm t).symm
        obtain ⟨rp, hrp⟩ : ∃ r, RL'[u] = r := ⟨_, rfl⟩
        obtain ⟨rq, hrq⟩ : ∃ r, RL'[z] = r := ⟨_, rfl⟩
        have hpm : rp ∈ RL' := by rw [← hrp]; exact List.getElem_mem huR
        have hqm : rq ∈ RL' := by rw [← hrq]; exact List.getElem_mem hzR
        have hp24 := hB6.low rp hpm
        have hq24 := hB6.low rq hqm
        have hph := heldR_mem hpm
        have hqh := heldR_mem hqm
        have cp : w6.cell? ⟨gs, u, none⟩ = some (.int .i64 rp) := by
          have := rowPart hB6.own (by rw [numsR_len]) u 1 (by omega) rfl 0 (.int .i64 rp) (by simp [numsR, huR, hrp])
          simpa [add_lit'] using this
        have cz : w6.cell? ⟨gs, z, none⟩ = some (.int .i64 rq) := by
          have := rowPart hB6.own (by rw [numsR_len]) z 1 (by omega) rfl 0 (.int .i64 rq) (by simp [numsR, hzR, hrq])
          simpa [add_lit'] using this
        have HOK := Lib.hid hB6.idx.okX
        have hI6 := hB6.inv
        have HG1 := Lib.hid (fun at_ s (ha : at_ < 16) (hs : X'.get rp at_ = s) w' (h' : IdxAt w' x' gp' bp' bn' 1000 X') => idxGet_e w' x' gp' bp' bn' 1000 X' rp at_ s h' (by omega) ha hs)
        have HG2 := Lib.hid (fun at_ s (ha : at_ < 16) (hs : X'.get rp at_ = s) w' (h' : RIdxAt w' gm X') => refIGet_e w' gm 1000 X' rp at_ s h' HOK.out hp24 (kid_le hI6 hph _) ha hs)
        obtain ⟨L, hL⟩ : ∃ L, diffUp X' rp rq 16 = L := ⟨_, rfl⟩
        obtain ⟨nL, hnL⟩ : ∃ n, L.length = n := ⟨_, rfl⟩
        have hnL16 : nL ≤ 16 := by rw [← hnL, ← hL]; exact diffUp_len _ _ _ _
        have HD1 := Lib.hid (fun w' (h' : IdxAt w' x' gp' bp' bn' 1000 X') => diffS w' x' gp' bp' bn' 1000 X' rp rq L nL h' (by omega) (by omega) hL hnL)
        have HD2 := Lib.hid (fun w' (h' : RIdxAt w' gm X') => refDiffS w' gm 1000 X' rp rq _ L nL h' HOK.out hI6 hp24 hq24 hph hqh hL hnL)
        have HNL := Lib.hid hnL
        have HT := Lib.hid ht
        rw [ht] at hB6 hnc ht0 hRL' ⊢
        have i3 : (0 : Int) < (t : Int) := by omega
        have i5 : ((t : Int) == 0) = false := by simp; omega
        have i6 : ¬ ((t : Int) = 0) := by omega
        have i7 : (0 : Int) ≤ (mm : Int) := by omega
        have i8 : (0 : Int) ≤ (u : Int) := by omega
        have i9 : (u : Int) < (t : Int) := by omega
        have iA : IntKind.i64.wrap ((t : Int) - 1) = (z : Int) := by rw [IntWalk.i64_in _ (by omega)]; omega
        have iB : (0 : Int) ≤ (z : Int) := by omega
        have iC : (z : Int) < (t : Int) := by omega
        have HB6 := Lib.hid hB6
        clear hu hz hrp hrq hpm hqm huR hzR hph hqh hL hnL ht hI6 hB6
        go_wp2
        clear c6 cp cz hu2
        go_loopw [17] (fun i w' => ∃ j : Nat, j ≤ 16 ∧ i = .int .i64 j ∧ BothAt w w' gm x' gp' bp' bn' (.slice (some ⟨gs, 0, none⟩) t cs) X' RL') (fun i _ => 16 - (intOf i).toNat)
        case atStart => exact ⟨0, Nat.zero_le _, rfl, HB6.out⟩
        case round =>
          obtain ⟨j, hj, rfl, hBj⟩ := hrel
          clear HB6
          by_cases hj16 : j < 16
          · obtain ⟨s, hs⟩ : ∃ s, X'.get rp j = s := ⟨_, rfl⟩
            have hst : (s.toList != s.toList) = false := by simp
            have HGA := Lib.hid (HG1.out j s hj16 hs)
            have HGB := Lib.hid (HG2.out j s hj16 hs)
            have j1 : (j : Int) < 16 := by omega
            clear hs
            go_wp2_with fail
            ((with_reducible refine (HGA.out _ hBj.idx).mono ?_); rintro e w7 ⟨rfl, hb7⟩)
            have hB7 := hBj.later hb7
            clear hBj hb7 HGA
            go_wp2_with fail
            ((with_reducible refine (HGB.out _ hB7.ref).mono ?_); rintro e w8 ⟨rfl, hb8⟩)
            have hB8 := hB7.later hb8
            clear hB7 hb8 HGB
            go_wp2
            go_roundw
            case rel => exact ⟨j + 1, hj16, by go_num, hB8⟩
            case measure => simp [intOf]; omega
          · go_wp2_with fail
            ((with_reducible refine (HD1.out _ hBj.idx).mono ?_); rintro e w7 ⟨A1, c1, rfl, hA1, hb7⟩)
            have hB7 := hBj.later hb7
            clear hBj hb7 HD1
            go_wp2_with fail
            ((with_reducible refine (HD2.out _ hB7.ref).mono ?_); rintro e w8 ⟨A2, c2, rfl, hA2, hb8⟩)
            have hB8 := hB7.later hb8
            have hA3 := hA1.below hb8
            clear hB7 hb8 HD2 hA1
            go_wp2_with fail
            ((with_reducible refine (sameS A1 A2 c1 c2 nL L _ hA3 hA2 HNL.out (by omega)).mono ?_); rintro e w9 ⟨rfl, hb9⟩)
            have hB9 := hB8.later hb9
            clear hB8 hb9 hA3 hA2
            go_wp2
            go_roundw
            case rel => exact ⟨k + 1, X', RL', x', gp', bp', bn', hlt, by go_num, rfl, by have := HT.out; omega, hB9⟩
            case measure => simp [intOf]; omega
    · go_wp2
      go_ret
      exact ⟨rfl, hB.below⟩
end Go.Proofs.Ytmgnikkbakpbdaa
