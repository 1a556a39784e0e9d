/- The document's vault as rows. -/
import Derived.Test.YtlgahdabhnhjgaaGreatDoorZqRThr
import Derived.Test.YtlgahdabhnhjgaaGreatDoorZqRVau1
import Derived.Test.YtlgahdabhnhjgaaGreatDoorZqAsIdx
import Derived.Test.YtlgahdabhnhjgaaGreatDoorZqImR
import Derived.Test.YtlgahdabhnhjgaaGreatDoorZqGrow
namespace Go.Proofs.YtlgahdabhnhjgaaGreatDoor
open Go.RowKit Go.Maps

theorem rowN_form2 (id : Nat) (b : Nod) : (⟨⟨#[110]⟩ ++ ⟨(tx [id]).toArray⟩, ⟨(tx [b.refs]).toArray⟩ ++ ⟨(tx [b.k0]).toArray⟩ ++ ⟨(tx [b.k1]).toArray⟩ ++ ⟨(tx [b.k2]).toArray⟩ ++ ⟨(tx [b.k3]).toArray⟩, false⟩ : Ch) = rowN id b := by
  rw [← rowN_form]
  congr 1
  apply ByteArray.ext
  simp [tx]
theorem rowP_form2 (p : PtM) : (⟨⟨#[112]⟩ ++ ⟨(tx [p.id]).toArray⟩, ⟨(tx [p.disk]).toArray⟩ ++ ⟨(tx [p.size]).toArray⟩ ++ ⟨(tx [p.root]).toArray⟩, false⟩ : Ch) = rowP p := by
  rw [← rowP_form]
  congr 1
  apply ByteArray.ext
  simp [tx]
theorem three_tx (n : Nat) (hn : n ≤ 99999) (w : World) : Calls Tryz.prog 40 #[.int .i64 n] w fun e w' => e = .returned (.string ⟨(tx [n]).toArray⟩) ∧ Below w.heap.size w w' := by
  have := three_any n hn w
  rw [show dig3 n = (⟨(tx [n]).toArray⟩ : ByteArray) from by rw [tx_one]; rfl] at this
  exact this

set_option maxHeartbeats 4000000 in
set_option maxRecDepth 100000 in
theorem rrows_any (w : World) (v g B : Nat) (lv : Value) (V : VauM) (h : RVauAt w v g B lv V) (hV : V.Ok0) (hD : ∀ n, (V.X.P n).data.size ≤ 6) :
    Calls Tryz.prog 18 #[.pointer (some ⟨v, 0, none⟩)] w fun e w' => ∃ C c, e = .returned (.slice C (rowsM V).length c) ∧ w'.ownsRow w.heap.size 49 3 (.slice C (rowsM V).length c) (rowsM V).length (chCells (rowsM V)) ∧ Below w.heap.size w w' := by
  obtain ⟨A3, k3, rfl⟩ := slice_form h.pts
  obtain ⟨n3, hn3⟩ : ∃ n, V.L.length = n := ⟨_, rfl⟩
  rw [hn3] at h
  have hn6 : n3 ≤ 6 := by rw [← hn3]; exact hV.len
  have HN3 := Lib.hid hn3
  have HPT := Lib.hid hV.pts
  have HNX := Lib.hid hV.next
  have HOK := Lib.hid hV.okX
  have HH := Lib.hid (fun w' (hb : Below w.heap.size w w') => h.below hb)
  have c0 := h.cell0
  obtain ⟨L1, hL1⟩ : ∃ L, numsOf V.X.P = L := ⟨_, rfl⟩
  obtain ⟨n1, hn1⟩ : ∃ n, L1.length = n := ⟨_, rfl⟩
  have hn40 : n1 ≤ 40 := by rw [← hn1, ← hL1]; exact keysOf_le 40 _
  have HN1 := Lib.hid (refBlocks_any g w V.X.P h.idx.blks)
  have HL1 := Lib.hid hL1
  have HNN1 := Lib.hid hn1
  have HD := Lib.hid hD
  clear h hD hn3 hV
  go_enter Tryz.func18, Tryz.ntmps18
  go_wp2_with fail
  ((with_reducible refine HN1.out.mono ?_); rintro e w1 ⟨u1, rfl, hO1, hb1⟩)
  obtain ⟨A1, k1, hu1, hI1, _⟩ := hO1.at_
  rw [hL1, hn1] at hu1
  rw [hL1] at hI1
  subst hu1
  have HI1 := Lib.hid (fun w' (hb : Below w1.heap.size w1 w') => hI1.below hb)
  have hs1 := hb1.size
  have HB1 := Lib.hid hb1
  clear hO1 hI1 hL1 HN1 hb1
  go_wp2
  go_loopw [3, 5] (fun u i w' => ∃ k : Nat, k ≤ n1 ∧ i = .int .i64 k ∧ w'.ownsRow w1.heap.size 49 3 u k (chCells ((rowsBs V.X.P L1).take k)) ∧ Below w1.heap.size w1 w') (fun _ i _ => n1 - (intOf i).toNat)
  case atStart => exact ⟨0, Nat.zero_le _, rfl, World.ownsRow_nil _ _ _ _, Below.refl _ _⟩
  case round =>
    obtain ⟨k, hk, rfl, hO, hb⟩ := hrel
    have hbw := belowThen HB1.out hb
    have hh := HH.out _ hbw
    by_cases hlt : k < n1
    · have hkl : k < L1.length := by have := HNN1.out; omega
      have hkk : k < (keysOf 40 (poolMap V.X.P)).length := by have := HL1.out; unfold numsOf at this; rw [this]; exact hkl
      obtain ⟨id, hid, hid1, hid2, hsome⟩ := keysOf_in hkk
      have hid' : L1[k] = (id : Int) := by
        have e := HL1.out
        unfold numsOf at e
        subst e
        exact hid
      obtain ⟨b, off, rfl, d0⟩ := HI1.out wr hb k hkl
      rw [hid'] at d0
      have hrefs : (V.X.P id).refs ≤ 1000 := HOK.out.P.refs id
      have hrow : (rowsBs V.X.P L1).take (k + 1) = (rowsBs V.X.P L1).take k ++ [rowB id (V.X.P id)] := by
        rw [← List.take_append_getElem (by simp [rowsBs]; omega)]
        simp [rowsBs, hid']
      have hdat : (V.X.P id).data.size ≤ 6 := HD.out id
      have c0 := hh.cell0
      have s0 := hh.idx.blks.data id hid2
      have s1 := hh.idx.blks.refs id hid2
      generalize V.X.P id = bl at hrefs hrow hdat s0 s1
      have hc1 : ¬ (9223372036854775807 < 1 + (tx [id]).length) := by have := (tx_len [id] (by simp; omega)).1; simp at this; omega
      have hc2 : ¬ (9223372036854775807 < (tx [bl.refs]).length + bl.data.size) := by have := (tx_len [bl.refs] (by simp; omega)).1; simp at this; omega
      have HROW := Lib.hid hrow
      have i1 : (k : Int) < (n1 : Int) := by omega
      have hsw : w1.heap.size ≤ wr.heap.size := hb.size
      have i2 : (id : Int) < 41 := by omega
      have i3 : (0 : Int) ≤ (id : Int) := by omega
      have hlt1 : v < w1.heap.size ∧ g < w1.heap.size ∧ b < w1.heap.size := by
        have h1 := HH.out _ HB1.out
        obtain ⟨b', off', e, d1⟩ := HI1.out w1 (Below.refl _ _) k hkl
        injection e with e
        injection e with e1 e2
        subst e1
        exact ⟨h1.lt, h1.idx.lt, World.block_lt_of_cell? _ _ d1⟩
      have hlt0 : v < wr.heap.size ∧ g < wr.heap.size ∧ b < wr.heap.size := ⟨hh.lt, hh.idx.lt, World.block_lt_of_cell? _ _ d0⟩
      have KS := Lib.hid (fun w' (hb' : Below wr.heap.size wr w') => (show w'.cell? ⟨v, 0, none⟩ = some (.pointer (some ⟨g, 0, none⟩)) ∧ w'.cell? ⟨b, off + k, none⟩ = some (.int .i64 (id : Int)) ∧ w'.cell? ⟨g, id * 2, none⟩ = some (.string bl.data) ∧ w'.cell? ⟨g, id * 2 + 1, none⟩ = some (.int .i64 bl.refs) from ⟨(hb'.cell hlt0.1).trans c0, (hb'.cell hlt0.2.2).trans d0, (hb'.cell hlt0.2.1).trans s0, (hb'.cell hlt0.2.1).trans s1⟩))
      have KS1 := Lib.hid (fun w' (hb' : Below w1.heap.size w1 w') => (show w'.cell? ⟨v, 0, none⟩ = some (.pointer (some ⟨g, 0, none⟩)) ∧ w'.cell? ⟨b, off + k, none⟩ = some (.int .i64 (id : Int)) ∧ w'.cell? ⟨g, id * 2, none⟩ = some (.string bl.data) ∧ w'.cell? ⟨g, id * 2 + 1, none⟩ = some (.int .i64 bl.refs) from ⟨((hb'.cell hlt1.1).trans (hb.cell hlt1.1).symm).trans c0, ((hb'.cell hlt1.2.2).trans (hb.cell hlt1.2.2).symm).trans d0, ((hb'.cell hlt1.2.1).trans (hb.cell hlt1.2.1).symm).trans s0, ((hb'.cell hlt1.2.1).trans (hb.cell hlt1.2.1).symm).trans s1⟩))
      have HOW := Lib.hid (fun w' (hb' : Below wr.heap.size wr w') => own_below hO hb')
      have HSZ := Lib.hid (fun w' (hb' : Below wr.heap.size wr w') => show w1.heap.size ≤ w'.heap.size from (belowThen hb hb').size)
      have HFIN := Lib.hid (fun wX w4 (hx : Below wr.heap.size wr wX) (hg : wX.grownBy w4 u3.ownBlock) => (show Below w1.heap.size w1 w4 from (belowThen hb hx).grown hg (belowThen hb hx).size (fun j hj => (hO.lt j hj).1)))
      clear hrow hid hid' hkk hsome hh hO hb hbw
      --< one
      go_wp2_with fail
      go_region_held3 (fun w' => w'.cell? ⟨v, 0, none⟩ = some (.pointer (some ⟨g, 0, none⟩)) ∧ w'.cell? ⟨b, off + k, none⟩ = some (.int .i64 (id : Int)) ∧ w'.cell? ⟨g, id * 2, none⟩ = some (.string bl.data) ∧ w'.cell? ⟨g, id * 2 + 1, none⟩ = some (.int .i64 bl.refs)) (first | with_reducible exact ⟨c0, d0, s0, s1⟩ | with_reducible exact KS1.out _ hb4 | with_reducible exact KS.out _ (by (repeat (first | with_reducible exact Below.refl _ _ | with_reducible refine belowAlloc ?_ _ | with_reducible refine Below.drew ?_ | with_reducible refine belowThen ?_ hb3 | with_reducible refine belowThen ?_ hb2)); (first | done | fail)))
        (first
          | (go_at_call 40; with_reducible refine (three_tx id (by omega) _).mono ?_; rintro e w2 ⟨rfl, hb2⟩)
          | (go_at_call 40; with_reducible refine (three_tx bl.refs (by omega) _).mono ?_; rintro e w3 ⟨rfl, hb3⟩)
          | (refine appCh (by rfl) (.tmp 22) (.tmp 58) (by rfl) w1.heap.size u3 ((rowsBs V.X.P L1).take k) k (by rfl) ?ho _ _ (by rfl) _ _ _ _ (by (repeat (first | with_reducible exact newAt | with_reducible exact newAt1 | with_reducible refine oldAt ?_ | with_reducible refine drewAt ?_ | with_reducible refine belowAt hb3 ?_ | with_reducible refine belowAt hb2 ?_)); (first | done | fail)) ?hl ?hsz ?_; (case ho => exact HOW.out _ (by (repeat (first | with_reducible exact Below.refl _ _ | with_reducible refine belowAlloc ?_ _ | with_reducible refine Below.drew ?_ | with_reducible refine belowThen ?_ hb3 | with_reducible refine belowThen ?_ hb2)); (first | done | fail))); (case hl => omega); (case hsz => exact HSZ.out _ (by (repeat (first | with_reducible exact Below.refl _ _ | with_reducible refine belowAlloc ?_ _ | with_reducible refine Below.drew ?_ | with_reducible refine belowThen ?_ hb3 | with_reducible refine belowThen ?_ hb2)); (first | done | fail))); intro g4 c4 w4 hO4 hg4 _; have hb4 := HFIN.out _ _ (by (repeat (first | with_reducible exact Below.refl _ _ | with_reducible refine belowAlloc ?_ _ | with_reducible refine Below.drew ?_ | with_reducible refine belowThen ?_ hb3 | with_reducible refine belowThen ?_ hb2)); (first | done | fail)) hg4)
          | fail)
      all_goals
        rw [rowB_form, ← HROW.out] at hO4
        have HE := Lib.hid hO4
        have HB4 := Lib.hid hb4
        clear hO4 hg4 hb4 hb2 hb3
        go_wp2
        go_roundw
        case rel => exact ⟨k + 1, hlt, by go_num, HE.out, HB4.out⟩
        case measure => simp [intOf]; omega
      --> one
    · obtain rfl : k = n1 := by omega
      have hL1 : (rowsBs V.X.P L1).length = k := by simp [rowsBs, HNN1.out]
      rw [List.take_of_length_le (by omega)] at hO
      obtain ⟨U, hU⟩ : ∃ U, rowsBs V.X.P L1 = U := ⟨_, rfl⟩
      rw [hU] at hO hL1
      obtain ⟨L2, hL2⟩ : ∃ L, nodsOf V.X.N = L := ⟨_, rfl⟩
      obtain ⟨n2, hn2⟩ : ∃ n, L2.length = n := ⟨_, rfl⟩
      have hn24 : n2 ≤ 24 := by rw [← hn2, ← hL2]; exact keysOf_le 24 _
      have HN2 := Lib.hid (refNodes_any g wr V.X.N hh.idx.nods)
      have HU := Lib.hid hU
      have HUL := Lib.hid hL1
      have HL2 := Lib.hid hL2
      have HNN2 := Lib.hid hn2
      have HOr := Lib.hid (fun w' (hb : Below wr.heap.size wr w') => own_below hO hb)
      have HBr := Lib.hid hb
      have hsr := hb.size
      have c0 := hh.cell0
      clear hL1 hU hh hbw
      go_wp2_with fail
      ((with_reducible refine HN2.out.mono ?_); rintro e w2 ⟨u2, rfl, hO2, hb2⟩)
      obtain ⟨A2, k2, hu2, hI2, hA2⟩ := hO2.at_
      rw [hL2, hn2] at hu2
      rw [hL2] at hI2
      subst hu2
      have HI2 := Lib.hid hI2
      have HA2 := Lib.hid (fun b off e => (hA2 b off e).2)
      have hs2 := hb2.size
      have HO2 := Lib.hid (HOr.out w2 hb2)
      have HB2 := Lib.hid (belowThen HBr.out hb2)
      have HNE2 := Lib.hid (show ∀ b off, A2 = some ⟨b, off, none⟩ → u3.ownBlock ≠ some b from fun b off e e' => by have h1 := (hA2 b off e).1; have h2 := (hO.lt b e').2; omega)
      clear hO2 hI2 hL2 HN2 hb2 c0 hb hA2 hO
      go_wp2
      go_loopw [3, 7] (fun u i w' => ∃ j : Nat, j ≤ n2 ∧ i = .int .i64 j ∧ w'.ownsRow w1.heap.size 49 3 u (k + j) (chCells (U ++ (rowsNs V.X.N L2).take j)) ∧ (∀ b off, A2 = some ⟨b, off, none⟩ → u.ownBlock ≠ some b) ∧ IntsAt w' A2 L2 ∧ w2.heap.size ≤ w'.heap.size ∧ Below w1.heap.size w1 w') (fun _ i _ => n2 - (intOf i).toNat)
      case atStart => exact ⟨0, Nat.zero_le _, rfl, by simpa using HO2.out, HNE2.out, HI2.out, Nat.le_refl _, HB2.out⟩
      case round =>
        obtain ⟨j, hj, rfl, hO, hne, hI, hsz2, hb1⟩ := hrel
        have hh := HH.out _ (belowThen HB1.out hb1)
        have c0 := hh.cell0
        by_cases hlt : j < n2
        · have hkl : j < L2.length := by have := HNN2.out; omega
          have hkk : j < (keysOf 24 (nodMap V.X.N)).length := by have := HL2.out; unfold nodsOf at this; rw [this]; exact hkl
          obtain ⟨id, hid, hid1, hid2, hsome⟩ := keysOf_in hkk
          have hid' : L2[j] = (id : Int) := by
            have e := HL2.out
            unfold nodsOf at e
            subst e
            exact hid
          have HI := Lib.hid hI
          have HNE := Lib.hid hne
          obtain ⟨b, off, hA, d0⟩ := hI j hkl
          subst hA
          rw [hid'] at d0
          have hrefs : (V.X.N id).refs ≤ 1000 := HOK.out.N.refs id
          have hkids := HOK.out.N.kids id
          have hrow : (rowsNs V.X.N L2).take (j + 1) = (rowsNs V.X.N L2).take j ++ [rowN id (V.X.N id)] := by
            rw [← List.take_append_getElem (by simp [rowsNs]; omega)]
            simp [rowsNs, hid']
          have s0 := hh.idx.nods.kid id 0 hid2 (by omega)
          have s1 := hh.idx.nods.kid id 1 hid2 (by omega)
          have s2 := hh.idx.nods.kid id 2 hid2 (by omega)
          have s3 := hh.idx.nods.kid id 3 hid2 (by omega)
          have s4 := hh.idx.nods.refs id hid2
          have i1 : (j : Int) < (n2 : Int) := by omega
          have i2 : (id : Int) < 25 := by omega
          have i3 : (0 : Int) ≤ (id : Int) := by omega
          simp only [Nat.add_zero] at s0
          simp only [Nod.kid] at s0 s1 s2 s3
          generalize V.X.N id = bl at hrefs hrow hkids s0 s1 s2 s3 s4
          obtain ⟨hk0, hk1, hk2, hk3⟩ := hkids
          have hltv : v < wr.heap.size ∧ g < wr.heap.size ∧ b < wr.heap.size := ⟨hh.lt, hh.idx.lt, World.block_lt_of_cell? _ _ d0⟩
          have KS := Lib.hid (fun w' (hb' : Below wr.heap.size wr w') => (show w'.cell? ⟨v, 0, none⟩ = some (.pointer (some ⟨g, 0, none⟩)) ∧ w'.cell? ⟨b, off + j, none⟩ = some (.int .i64 (id : Int)) ∧ w'.cell? ⟨g, 82 + id * 5, none⟩ = some (.int .i64 (bl.k0 : Int)) ∧ w'.cell? ⟨g, 82 + id * 5 + 1, none⟩ = some (.int .i64 (bl.k1 : Int)) ∧ w'.cell? ⟨g, 82 + id * 5 + 2, none⟩ = some (.int .i64 (bl.k2 : Int)) ∧ w'.cell? ⟨g, 82 + id * 5 + 3, none⟩ = some (.int .i64 (bl.k3 : Int)) ∧ w'.cell? ⟨g, 82 + id * 5 + 4, none⟩ = some (.int .i64 (bl.refs : Int)) from ⟨(hb'.cell hltv.1).trans c0, (hb'.cell hltv.2.2).trans d0, (hb'.cell hltv.2.1).trans s0, (hb'.cell hltv.2.1).trans s1, (hb'.cell hltv.2.1).trans s2, (hb'.cell hltv.2.1).trans s3, (hb'.cell hltv.2.1).trans s4⟩))
          go_wp2_with fail
          go_region_held3 (fun w' => w'.cell? ⟨v, 0, none⟩ = some (.pointer (some ⟨g, 0, none⟩)) ∧ w'.cell? ⟨b, off + j, none⟩ = some (.int .i64 (id : Int)) ∧ w'.cell? ⟨g, 82 + id * 5, none⟩ = some (.int .i64 (bl.k0 : Int)) ∧ w'.cell? ⟨g, 82 + id * 5 + 1, none⟩ = some (.int .i64 (bl.k1 : Int)) ∧ w'.cell? ⟨g, 82 + id * 5 + 2, none⟩ = some (.int .i64 (bl.k2 : Int)) ∧ w'.cell? ⟨g, 82 + id * 5 + 3, none⟩ = some (.int .i64 (bl.k3 : Int)) ∧ w'.cell? ⟨g, 82 + id * 5 + 4, none⟩ = some (.int .i64 (bl.refs : Int))) (first | with_reducible exact ⟨c0, d0, s0, s1, s2, s3, s4⟩ | with_reducible exact KS.out _ (by (repeat (first | with_reducible exact Below.refl _ _ | with_reducible refine belowAlloc ?_ _ | with_reducible refine Below.drew ?_)); (first | done | fail)) | fail)
            (fail)
          all_goals
            have e3 := heap_alloc_new wr (.cells #[.int .i64 (bl.k0 : Int), .int .i64 (bl.k1 : Int), .int .i64 (bl.k2 : Int), .int .i64 (bl.k3 : Int), .int .i64 (bl.refs : Int)] 81)
            have b3 : Below wr.heap.size wr (wr.alloc (.cells #[.int .i64 (bl.k0 : Int), .int .i64 (bl.k1 : Int), .int .i64 (bl.k2 : Int), .int .i64 (bl.k3 : Int), .int .i64 (bl.refs : Int)] 81)).drew := ((Below.refl wr.heap.size wr).alloc (Nat.le_refl _) _).drew
            replace e3 := drewAt e3
            generalize (wr.alloc (.cells #[.int .i64 (bl.k0 : Int), .int .i64 (bl.k1 : Int), .int .i64 (bl.k2 : Int), .int .i64 (bl.k3 : Int), .int .i64 (bl.refs : Int)] 81)).drew = W at *
            have szW : wr.heap.size < W.heap.size := (Array.getElem?_eq_some_iff.1 e3).1
            have s0' : W.cell? ⟨wr.heap.size, 0, none⟩ = some (.int .i64 (bl.k0 : Int)) := cell_of_row _ _ _ _ _ _ e3
            have s1' : W.cell? ⟨wr.heap.size, 1, none⟩ = some (.int .i64 (bl.k1 : Int)) := cell_of_row _ _ _ _ _ _ e3
            have s2' : W.cell? ⟨wr.heap.size, 2, none⟩ = some (.int .i64 (bl.k2 : Int)) := cell_of_row _ _ _ _ _ _ e3
            have s3' : W.cell? ⟨wr.heap.size, 3, none⟩ = some (.int .i64 (bl.k3 : Int)) := cell_of_row _ _ _ _ _ _ e3
            have s4' : W.cell? ⟨wr.heap.size, 4, none⟩ = some (.int .i64 (bl.refs : Int)) := cell_of_row _ _ _ _ _ _ e3
            have d0' : W.cell? ⟨b, off + j, none⟩ = some (.int .i64 (id : Int)) := (b3.cell hltv.2.2).trans d0
            have KW := Lib.hid (fun w' (hb : Below W.heap.size W w') => (show w'.cell? ⟨b, off + j, none⟩ = some (.int .i64 (id : Int)) ∧ w'.cell? ⟨wr.heap.size, 0, none⟩ = some (.int .i64 (bl.k0 : Int)) ∧ w'.cell? ⟨wr.heap.size, 1, none⟩ = some (.int .i64 (bl.k1 : Int)) ∧ w'.cell? ⟨wr.heap.size, 2, none⟩ = some (.int .i64 (bl.k2 : Int)) ∧ w'.cell? ⟨wr.heap.size, 3, none⟩ = some (.int .i64 (bl.k3 : Int)) ∧ w'.cell? ⟨wr.heap.size, 4, none⟩ = some (.int .i64 (bl.refs : Int)) from ⟨(hb.cell (Nat.lt_of_lt_of_le hltv.2.2 (Nat.le_of_lt szW))).trans d0', (hb.cell szW).trans s0', (hb.cell szW).trans s1', (hb.cell szW).trans s2', (hb.cell szW).trans s3', (hb.cell szW).trans s4'⟩))
            have HOW := Lib.hid (fun w' (hb : Below W.heap.size W w') => own_below hO (belowThen b3 hb))
            have hbW := belowThen hb1 b3
            have HSZ := Lib.hid (fun w' (hb' : Below W.heap.size W w') => show w1.heap.size ≤ w'.heap.size from (belowThen hbW hb').size)
            have hsw2 : w2.heap.size ≤ W.heap.size := Nat.le_trans hsz2 b3.size
            have HFIN := Lib.hid (fun wX w' g4 (hx : Below W.heap.size W wX) (hg : wX.grownBy w' u3.ownBlock) (hl : u3.ownBlock = some g4 ∨ g4 = wX.heap.size) => (show (w'.cell? ⟨b, off + j, none⟩ = some (.int .i64 (id : Int)) ∧ w'.cell? ⟨wr.heap.size, 0, none⟩ = some (.int .i64 (bl.k0 : Int)) ∧ w'.cell? ⟨wr.heap.size, 1, none⟩ = some (.int .i64 (bl.k1 : Int)) ∧ w'.cell? ⟨wr.heap.size, 2, none⟩ = some (.int .i64 (bl.k2 : Int)) ∧ w'.cell? ⟨wr.heap.size, 3, none⟩ = some (.int .i64 (bl.k3 : Int)) ∧ w'.cell? ⟨wr.heap.size, 4, none⟩ = some (.int .i64 (bl.refs : Int))) ∧ Below w1.heap.size w1 w' ∧ IntsAt w' (some ⟨b, off, none⟩) L2 ∧ (∀ b' off', some (⟨b, off, none⟩ : Addr) = some ⟨b', off', none⟩ → g4 ≠ b') ∧ w2.heap.size ≤ w'.heap.size from by
              have hb1 := (belowThen hbW hx).grown hg (belowThen hbW hx).size (fun j hj => (hO.lt j hj).1)
              have hI4 := HI.out.grown (belowThen b3 hx) hg HNE.out
              refine ⟨?_, hb1, hI4, own_ne HNE.out HA2.out (Nat.le_trans hsw2 hx.size) hl, Nat.le_trans (Nat.le_trans hsw2 hx.size) hg.size⟩
              have hne : wr.heap.size ≠ (u3.ownBlock).getD wr.heap.size.succ := by
                rcases hu : u3.ownBlock with _ | j
                · simp
                · have := (hO.lt j hu).2; simp; omega
              have e := hg.block wr.heap.size (Nat.lt_of_lt_of_le szW hx.size) (fun e => by rw [← e] at hne; simp at hne)
              have k := KW.out wX hx
              have ed := hg.block b (Nat.lt_of_lt_of_le hltv.2.2 (belowThen b3 hx).size) (fun e => HNE.out b off rfl e.symm)
              exact ⟨by rw [World.cell?_of_block ed]; exact k.1, by rw [World.cell?_of_block e]; exact k.2.1, by rw [World.cell?_of_block e]; exact k.2.2.1, by rw [World.cell?_of_block e]; exact k.2.2.2.1, by rw [World.cell?_of_block e]; exact k.2.2.2.2.1, by rw [World.cell?_of_block e]; exact k.2.2.2.2.2⟩))
            have HROW := Lib.hid hrow
            have hc0 : ¬ (9223372036854775807 < 1 + (tx [id]).length) := by have := (tx_len [id] (by simp; omega)).1; simp at this; omega
            have hz1 := (tx_len [bl.refs] (by simp; omega)).1
            have hz2 := (tx_len [bl.k0] (by simp; omega)).1
            have hz3 := (tx_len [bl.k1] (by simp; omega)).1
            have hz4 := (tx_len [bl.k2] (by simp; omega)).1
            have hz5 := (tx_len [bl.k3] (by simp; omega)).1
            simp only [List.length_cons, List.length_nil] at hz1 hz2 hz3 hz4 hz5
            have hc1 : ¬ (9223372036854775807 < (tx [bl.refs]).length + (tx [bl.k0]).length) := by omega
            have hc2 : ¬ (9223372036854775807 < (tx [bl.refs]).length + (tx [bl.k0]).length + (tx [bl.k1]).length) := by omega
            have hc3 : ¬ (9223372036854775807 < (tx [bl.refs]).length + (tx [bl.k0]).length + (tx [bl.k1]).length + (tx [bl.k2]).length) := by omega
            have hc4 : ¬ (9223372036854775807 < (tx [bl.refs]).length + (tx [bl.k0]).length + (tx [bl.k1]).length + (tx [bl.k2]).length + (tx [bl.k3]).length) := by omega
            clear hrow hid hid' hkk hsome hh hO hb1 e3 b3 hbW hI hne d0 s0 s1 s2 s3 s4 c0 hz1 hz2 hz3 hz4 hz5 KS
            --< two
            go_wp2_with fail
            go_region_held3 (fun w' => w'.cell? ⟨b, off + j, none⟩ = some (.int .i64 (id : Int)) ∧ w'.cell? ⟨wr.heap.size, 0, none⟩ = some (.int .i64 (bl.k0 : Int)) ∧ w'.cell? ⟨wr.heap.size, 1, none⟩ = some (.int .i64 (bl.k1 : Int)) ∧ w'.cell? ⟨wr.heap.size, 2, none⟩ = some (.int .i64 (bl.k2 : Int)) ∧ w'.cell? ⟨wr.heap.size, 3, none⟩ = some (.int .i64 (bl.k3 : Int)) ∧ w'.cell? ⟨wr.heap.size, 4, none⟩ = some (.int .i64 (bl.refs : Int))) (first | with_reducible exact ⟨d0', s0', s1', s2', s3', s4'⟩ | with_reducible exact hk9 | with_reducible exact KW.out _ (by (repeat (first | with_reducible exact Below.refl _ _ | with_reducible refine belowAlloc ?_ _ | with_reducible refine Below.drew ?_ | with_reducible refine belowThen ?_ hb7 | with_reducible refine belowThen ?_ hb6 | with_reducible refine belowThen ?_ hb5 | with_reducible refine belowThen ?_ hb4 | with_reducible refine belowThen ?_ hb3 | with_reducible refine belowThen ?_ hb2)); (first | done | fail)) | fail)
              (first
                | (go_at_call 40; with_reducible refine (three_tx id (by omega) _).mono ?_; rintro e w2 ⟨rfl, hb2⟩)
                | (go_at_call 40; with_reducible refine (three_tx bl.refs (by omega) _).mono ?_; rintro e w3 ⟨rfl, hb3⟩)
                | (go_at_call 40; with_reducible refine (three_tx bl.k0 (by omega) _).mono ?_; rintro e w4 ⟨rfl, hb4⟩)
                | (go_at_call 40; with_reducible refine (three_tx bl.k1 (by omega) _).mono ?_; rintro e w5 ⟨rfl, hb5⟩)
                | (go_at_call 40; with_reducible refine (three_tx bl.k2 (by omega) _).mono ?_; rintro e w6 ⟨rfl, hb6⟩)
                | (go_at_call 40; with_reducible refine (three_tx bl.k3 (by omega) _).mono ?_; rintro e w7 ⟨rfl, hb7⟩)
                | (refine appCh (by rfl) (.tmp 83) (.tmp 114) (by rfl) w1.heap.size u3 (U ++ (rowsNs V.X.N L2).take j) (k + j) (by rfl) ?ho _ _ (by rfl) _ _ _ _ (by (repeat (first | with_reducible exact newAt | with_reducible exact newAt1 | with_reducible refine oldAt ?_ | with_reducible refine drewAt ?_ | with_reducible refine belowAt hb7 ?_ | with_reducible refine belowAt hb6 ?_ | with_reducible refine belowAt hb5 ?_ | with_reducible refine belowAt hb4 ?_ | with_reducible refine belowAt hb3 ?_ | with_reducible refine belowAt hb2 ?_)); (first | done | fail)) ?hl ?hsz ?_; (case ho => exact HOW.out _ (by (repeat (first | with_reducible exact Below.refl _ _ | with_reducible refine belowAlloc ?_ _ | with_reducible refine Below.drew ?_ | with_reducible refine belowThen ?_ hb7 | with_reducible refine belowThen ?_ hb6 | with_reducible refine belowThen ?_ hb5 | with_reducible refine belowThen ?_ hb4 | with_reducible refine belowThen ?_ hb3 | with_reducible refine belowThen ?_ hb2)); (first | done | fail))); (case hl => omega); (case hsz => exact HSZ.out _ (by (repeat (first | with_reducible exact Below.refl _ _ | with_reducible refine belowAlloc ?_ _ | with_reducible refine Below.drew ?_ | with_reducible refine belowThen ?_ hb7 | with_reducible refine belowThen ?_ hb6 | with_reducible refine belowThen ?_ hb5 | with_reducible refine belowThen ?_ hb4 | with_reducible refine belowThen ?_ hb3 | with_reducible refine belowThen ?_ hb2)); (first | done | fail))); intro g9 c9 w9 hO9 hg9 hl9; obtain ⟨hk9, hb9, hI9, hn9, hs9⟩ := HFIN.out _ _ _ (by (repeat (first | with_reducible exact Below.refl _ _ | with_reducible refine belowAlloc ?_ _ | with_reducible refine Below.drew ?_ | with_reducible refine belowThen ?_ hb7 | with_reducible refine belowThen ?_ hb6 | with_reducible refine belowThen ?_ hb5 | with_reducible refine belowThen ?_ hb4 | with_reducible refine belowThen ?_ hb3 | with_reducible refine belowThen ?_ hb2)); (first | done | fail)) hg9 hl9)
                | fail)
            all_goals
              rw [rowN_form2, List.append_assoc, ← HROW.out] at hO9
              have HE := Lib.hid hO9
              have HB4 := Lib.hid hb9
              have HI4 := Lib.hid hI9
              have HN4 := Lib.hid hn9
              clear hO9 hg9 hb9 hI9 hn9 hl9 hk9
              go_wp2
              go_roundw
              case rel => exact ⟨j + 1, hlt, by go_num, HE.out, fun b' off' e h => HN4.out b' off' e (by simpa [Value.ownBlock] using h), HI4.out, hs9, HB4.out⟩
              case measure => simp [intOf]; omega
            --> two
        · obtain rfl : j = n2 := by omega
          have hL2 : (rowsNs V.X.N L2).length = j := by simp [rowsNs, HNN2.out]
          rw [List.take_of_length_le (by omega)] at hO
          obtain ⟨U2, hU2⟩ : ∃ U2, U ++ rowsNs V.X.N L2 = U2 := ⟨_, rfl⟩
          rw [hU2] at hO
          have HU2 := Lib.hid hU2
          obtain ⟨m, hm⟩ : ∃ m, k + j = m := ⟨_, rfl⟩
          rw [hm] at hO
          have hm64 : m ≤ 64 := by omega
          have c1 := hh.cell1
          have HO3 := Lib.hid hO
          have HB3 := Lib.hid hb1
          clear hI hne hU2 hO hb1 hh c0
          go_wp2
          go_loopw [3, 9] (fun u i w' => ∃ q : Nat, q ≤ n3 ∧ i = .int .i64 q ∧ w'.ownsRow w1.heap.size 49 3 u (m + q) (chCells (U2 ++ (V.L.map rowP).take q)) ∧ Below w1.heap.size w1 w') (fun _ i _ => n3 - (intOf i).toNat)
          case atStart => exact ⟨0, Nat.zero_le _, rfl, by simpa using HO3.out, HB3.out⟩
          case round =>
            obtain ⟨q, hq, rfl, hO, hb⟩ := hrel
            clear c1
            have hh := HH.out _ (belowThen HB1.out hb)
            have c1 := hh.cell1
            by_cases hlt : q < n3
            · have hql : q < V.L.length := by have := HN3.out; omega
              obtain ⟨g3, c, hlv, hnc, hcm, hcell⟩ := hh.pt hql
              obtain ⟨p, hpt⟩ : ∃ p, V.L[q] = p := ⟨_, rfl⟩
              rw [hpt] at hcell
              have hpb := HPT.out _ (List.getElem_mem hql)
              rw [hpt] at hpb
              have hrow : (V.L.map rowP).take (q + 1) = (V.L.map rowP).take q ++ [rowP p] := by
                rw [← List.take_append_getElem (by simp; omega)]
                simp [hpt]
              have HROW := Lib.hid hrow
              simp only [Value.slice.injEq] at hlv
              obtain ⟨hlv1, hlv2, hlv3⟩ := hlv
              subst hlv1
              clear hlv2 hlv3
              have d0 : wr.cell? ⟨g3, q * 4, none⟩ = some (.int .i64 p.id) := hcell 0 (by omega)
              have d1 : wr.cell? ⟨g3, q * 4 + 1, none⟩ = some (.int .i64 p.disk) := hcell 1 (by omega)
              have d2 : wr.cell? ⟨g3, q * 4 + 2, none⟩ = some (.int .i64 p.size) := hcell 2 (by omega)
              have d3 : wr.cell? ⟨g3, q * 4 + 3, none⟩ = some (.int .i64 p.root) := hcell 3 (by omega)
              have i1 : (q : Int) < (n3 : Int) := by omega
              have i0 : (0 : Int) ≤ (q : Int) := by omega
              have hx0 : p.id ≤ 999 := by have := HNX.out; omega
              have hc1 : ¬ (9223372036854775807 < 1 + (tx [p.id]).length) := by have := (tx_len [p.id] (by simp; omega)).1; simp at this; omega
              have hx1 : p.disk ≤ 999 := by omega
              have hx2 : p.size ≤ 999 := by omega
              have hx3 : p.root ≤ 999 := by omega
              have hz1 := (tx_len [p.disk] (by simp; omega)).1
              have hz2 := (tx_len [p.size] (by simp; omega)).1
              have hz3 := (tx_len [p.root] (by simp; omega)).1
              simp only [List.length_cons, List.length_nil] at hz1 hz2 hz3
              have hc2 : ¬ (9223372036854775807 < (tx [p.disk]).length + (tx [p.size]).length) := by omega
              have hc3 : ¬ (9223372036854775807 < (tx [p.disk]).length + (tx [p.size]).length + (tx [p.root]).length) := by omega
              have b3 : Below wr.heap.size wr (wr.alloc (.cells #[.int .i64 p.id, .int .i64 p.disk, .int .i64 p.size, .int .i64 p.root] 60)) := ((Below.refl wr.heap.size wr).alloc (Nat.le_refl _) (.cells #[.int .i64 p.id, .int .i64 p.disk, .int .i64 p.size, .int .i64 p.root] 60))
              have e3 := heap_alloc_new wr (.cells #[.int .i64 p.id, .int .i64 p.disk, .int .i64 p.size, .int .i64 p.root] 60)
              clear hcell hpt hrow hh hpb hz1 hz2 hz3
              go_wp2_with fail
              generalize hW : wr.alloc (.cells #[.int .i64 p.id, .int .i64 p.disk, .int .i64 p.size, .int .i64 p.root] 60) = W at *
              have szW : wr.heap.size < W.heap.size := (Array.getElem?_eq_some_iff.1 e3).1
              have KW := Lib.hid (fun w' (hb : Below W.heap.size W w') => (show w'.cell? ⟨wr.heap.size, 0, none⟩ = some (.int .i64 p.id) ∧ w'.cell? ⟨wr.heap.size, 1, none⟩ = some (.int .i64 p.disk) ∧ w'.cell? ⟨wr.heap.size, 2, none⟩ = some (.int .i64 p.size) ∧ w'.cell? ⟨wr.heap.size, 3, none⟩ = some (.int .i64 p.root) from by
                have e := hb.block _ szW
                rw [e3] at e
                exact ⟨cell_of_row _ _ _ _ _ _ e, cell_of_row _ _ _ _ _ _ e, cell_of_row _ _ _ _ _ _ e, cell_of_row _ _ _ _ _ _ e⟩))
              have s1 := KW.out W (Below.refl _ _)
              have HOW := Lib.hid (fun w' (hb : Below W.heap.size W w') => own_below hO (belowThen b3 hb))
              have hbW := belowThen hb b3
              have HSZ := Lib.hid (fun w' (hb' : Below W.heap.size W w') => show w1.heap.size ≤ w'.heap.size from (belowThen hbW hb').size)
              have HFIN := Lib.hid (fun wX w' (hx : Below W.heap.size W wX) (hg : wX.grownBy w' u3.ownBlock) => (show (w'.cell? ⟨wr.heap.size, 0, none⟩ = some (.int .i64 p.id) ∧ w'.cell? ⟨wr.heap.size, 1, none⟩ = some (.int .i64 p.disk) ∧ w'.cell? ⟨wr.heap.size, 2, none⟩ = some (.int .i64 p.size) ∧ w'.cell? ⟨wr.heap.size, 3, none⟩ = some (.int .i64 p.root)) ∧ Below w1.heap.size w1 w' from by
                have hb1 := (belowThen hbW hx).grown hg (belowThen hbW hx).size (fun j hj => (hO.lt j hj).1)
                refine ⟨?_, hb1⟩
                have hne : wr.heap.size ≠ (u3.ownBlock).getD wr.heap.size.succ := by
                  rcases hu : u3.ownBlock with _ | j
                  · simp
                  · have := (hO.lt j hu).2; simp; omega
                have e := hg.block wr.heap.size (Nat.lt_of_lt_of_le szW hx.size) (fun e => by rw [← e] at hne; simp at hne)
                rw [World.cell?_of_block (a := ⟨wr.heap.size, 0, none⟩) e, World.cell?_of_block (a := ⟨wr.heap.size, 1, none⟩) e, World.cell?_of_block (a := ⟨wr.heap.size, 2, none⟩) e, World.cell?_of_block (a := ⟨wr.heap.size, 3, none⟩) e]
                exact KW.out wX hx))
              clear hO hb e3 b3 hW hbW c1 d0 d1 d2 d3
              --< three
              go_region_held3 (fun w' => w'.cell? ⟨wr.heap.size, 0, none⟩ = some (.int .i64 p.id) ∧ w'.cell? ⟨wr.heap.size, 1, none⟩ = some (.int .i64 p.disk) ∧ w'.cell? ⟨wr.heap.size, 2, none⟩ = some (.int .i64 p.size) ∧ w'.cell? ⟨wr.heap.size, 3, none⟩ = some (.int .i64 p.root)) (first | with_reducible exact s1 | with_reducible exact e9 | with_reducible exact KW.out _ (by (repeat (first | with_reducible exact Below.refl _ _ | with_reducible refine belowAlloc ?_ _ | with_reducible refine Below.drew ?_ | with_reducible refine belowThen ?_ hb5 | with_reducible refine belowThen ?_ hb4 | with_reducible refine belowThen ?_ hb3 | with_reducible refine belowThen ?_ hb2)); (first | done | fail)) | fail)
                (first
                  | (go_at_call 40; with_reducible refine (three_tx p.id (by omega) _).mono ?_; rintro e w2 ⟨rfl, hb2⟩)
                  | (go_at_call 40; with_reducible refine (three_tx p.disk (by omega) _).mono ?_; rintro e w3 ⟨rfl, hb3⟩)
                  | (go_at_call 40; with_reducible refine (three_tx p.size (by omega) _).mono ?_; rintro e w4 ⟨rfl, hb4⟩)
                  | (go_at_call 40; with_reducible refine (three_tx p.root (by omega) _).mono ?_; rintro e w5 ⟨rfl, hb5⟩)
                  | (refine appCh (by rfl) (.tmp 132) (.tmp 149) (by rfl) w1.heap.size u3 (U2 ++ (V.L.map rowP).take q) (m + q) (by rfl) ?ho _ _ (by rfl) _ _ _ _ (by (repeat (first | with_reducible exact newAt | with_reducible exact newAt1 | with_reducible refine oldAt ?_ | with_reducible refine drewAt ?_ | with_reducible refine belowAt hb5 ?_ | with_reducible refine belowAt hb4 ?_ | with_reducible refine belowAt hb3 ?_ | with_reducible refine belowAt hb2 ?_)); (first | done | fail)) ?hl ?hsz ?_; (case ho => exact HOW.out _ (by (repeat (first | with_reducible exact Below.refl _ _ | with_reducible refine belowAlloc ?_ _ | with_reducible refine Below.drew ?_ | with_reducible refine belowThen ?_ hb5 | with_reducible refine belowThen ?_ hb4 | with_reducible refine belowThen ?_ hb3 | with_reducible refine belowThen ?_ hb2)); (first | done | fail))); (case hl => omega); (case hsz => exact HSZ.out _ (by (repeat (first | with_reducible exact Below.refl _ _ | with_reducible refine belowAlloc ?_ _ | with_reducible refine Below.drew ?_ | with_reducible refine belowThen ?_ hb5 | with_reducible refine belowThen ?_ hb4 | with_reducible refine belowThen ?_ hb3 | with_reducible refine belowThen ?_ hb2)); (first | done | fail))); intro g9 c9 w9 hO9 hg9 _; obtain ⟨e9, hb9⟩ := HFIN.out _ _ (by (repeat (first | with_reducible exact Below.refl _ _ | with_reducible refine belowAlloc ?_ _ | with_reducible refine Below.drew ?_ | with_reducible refine belowThen ?_ hb5 | with_reducible refine belowThen ?_ hb4 | with_reducible refine belowThen ?_ hb3 | with_reducible refine belowThen ?_ hb2)); (first | done | fail)) hg9)
                  | fail)
              all_goals
                rw [rowP_form2, List.append_assoc, ← HROW.out] at hO9
                have HE := Lib.hid hO9
                have HB4 := Lib.hid hb9
                clear hO9 hg9 hb9 e9
                go_wp2
                go_roundw
                case rel => exact ⟨q + 1, hlt, by go_num, HE.out, HB4.out⟩
                case measure => simp [intOf]; omega
              --> three
            · obtain rfl : q = n3 := by omega
              rw [List.take_of_length_le (by have := HN3.out; simp; omega)] at hO
              have c2 := hh.cell2
              have HO4 := Lib.hid hO
              have HBB := Lib.hid hb
              have HTX := Lib.hid (three_tx V.next (by have := HNX.out; omega) wr)
              clear hO hb hh
              go_wp2_with fail
              ((with_reducible refine HTX.out.mono ?_); rintro e w5 ⟨rfl, hb5⟩)
              have hO6 := own_below HO4.out hb5
              have HB6 := Lib.hid (belowThen HBB.out hb5)
              have hs6 : w1.heap.size ≤ w5.heap.size := HB6.out.size
              obtain ⟨A6, k6, rfl⟩ := slice_form hO6
              clear HTX hb5
              obtain ⟨i0, hi, hz0, hz1, hz2⟩ := info_parts Tryz.infoChZ
              go_wp2_with (at_builtin; refine wpList_append_own _ rfl _ _ 23 rfl w1.heap.size 49 i0 (.agg #[.string ByteArray.empty, .string ByteArray.empty, .bool false]) 3 40 Tryz.underlying23 hi hz0 hz1 hz2 rfl (by decide) (.slice A6 (m + q) k6) (m + q) _ rfl (World.ownsRow.alloc hO6 _) ⟨w5.heap.size, 0, none⟩ 1 1 [.string ⟨#[120]⟩, .string ⟨(tx [V.next]).toArray⟩, .bool false] rfl rfl (World.news_of_block (cs := #[.string ⟨#[120]⟩, .string ⟨(tx [V.next]).toArray⟩, .bool false]) (t := 49) (fr := (0, 0)) (heap_alloc_new w5 _)) (by simp [Value.oneCell']) (by unfold maxLen; omega) (by omega) (by simp; omega) ?_; intro v' w7 hown' hg7 hnil7)
              have hb7 : Below w1.heap.size w1 w7 := (HB6.out.alloc hs6 _).grown hg7 (by simp; omega) (fun b hb' => (World.ownsRow.lt hO6 b hb').1)
              have HB7 := Lib.hid (belowThen HB1.out hb7)
              obtain ⟨C, c, rfl⟩ := slice_form hown'
              have hl := hown'.1
              have e : rowsM V = U2 ++ V.L.map rowP ++ [rowX V.next] := by unfold rowsM; rw [HL1.out, HL2.out, HU.out, HU2.out]
              have ec : chCells (U2 ++ V.L.map rowP ++ [rowX V.next]) = chCells (U2 ++ V.L.map rowP) ++ [.string ⟨#[120]⟩, .string ⟨(tx [V.next]).toArray⟩, .bool false] := chCells_snoc _ _
              have el : (rowsM V).length = m + q + 1 := by
                have := chCells_length (rowsM V)
                rw [e, ec] at this
                rw [e]
                omega
              have hW := ownMono hown' (show w.heap.size ≤ w1.heap.size from HB1.out.size)
              rw [← ec, ← e] at hW
              have HW := Lib.hid hW
              have HEL := Lib.hid el
              clear hb7 hl e ec el hW hown' hg7 hnil7 hO6
              go_wp2
              go_ret
              rw [HEL.out]
              exact ⟨C, c, rfl, HW.out, HB7.out⟩
end Go.Proofs.YtlgahdabhnhjgaaGreatDoor
