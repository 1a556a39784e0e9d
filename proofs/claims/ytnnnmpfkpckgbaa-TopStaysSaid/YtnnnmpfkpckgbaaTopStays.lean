/- TopStays: the walk. -/
import Derived.Test.YtnnnmpfkpckgbaaTexts
import Derived.Test.YtnnnmpfkpckgbaaVaulted
namespace Go.Proofs.Ytnnnmpfkpckgbaa
open Go.RowKit Go.Maps

theorem textsAt_len {V : VauM} (hV : V.Ok) {id : Int} {k : Nat} (hp : placeOf V.L id = some k) : (textsAt V k).length ≤ 16 := by
  obtain ⟨hk, _⟩ := placeOf_some hp
  have := hV.pts _ (List.getElem_mem hk)
  unfold textsAt
  simp only [getElem!_pos V.L k hk, List.length_map, List.length_range]
  omega

set_option maxHeartbeats 2000000 in
set_option maxRecDepth 100000 in
theorem topStays_walk (A M : Option Addr) (cA cM : Nat) (l more : List ActM) (id : Int) (w : World) (hA : ActsAt w w.heap.size A l) (hM : ActsAt w w.heap.size M more) :
    Calls Try.prog 6 #[.slice A l.length cA, .slice M more.length cM, .int .i64 id] w fun e w' => e = .returned (.bool true) ∧ Below w.heap.size w w' := by
  have hmm := hM.1
  unfold maxLen at hmm
  go_enter Try.func6, Try.ntmps6
  go_wp2_with fail
  ((with_reducible refine (vaulted_any _).mono ?_); rintro e w1 ⟨rfl, hb1⟩)
  have hA1 := hA.below hb1
  go_wp2_with fail
  ((with_reducible refine (filled_any _ _ _ _ hA1).mono ?_); rintro e w2 hret)
  rcases hret with ⟨rfl, hb2⟩ | ⟨u, V, rfl, hu, hV, _, _, hb2⟩
  · replace hb2 := belowThen hb1 hb2
    go_wp2
    go_ret
    exact ⟨rfl, hb2⟩
  replace hb2 := belowThen hb1 hb2
  have hM2 := hM.below hb2
  clear hA1 hb1
  go_wp2_with fail
  ((with_reducible refine (lightActs_any _ _ _ _ _ hM2).mono ?_); rintro e w3 ⟨r, rfl, hr, hb3⟩)
  have hu3 := hu.below hb3
  replace hb3 := belowThen hb2 hb3
  clear hr hM2 hu hb2
  cases r
  · go_wp2
    go_ret
    exact ⟨rfl, hb3⟩
  cases hp : placeOf V.L id with
  | none =>
    have HBL := Lib.hid (blocks_no w3 u V id hu3 hV hp)
    clear hp hu3
    go_wp2_with fail
    ((with_reducible refine HBL.out.mono ?_); rintro e w4 ⟨rfl, hb4⟩)
    replace hb4 := belowThen hb3 hb4
    go_wp2
    go_ret
    exact ⟨rfl, hb4⟩
  | some k0 =>
    obtain ⟨T, hT⟩ : ∃ T, textsAt V k0 = T := ⟨_, rfl⟩
    have hTl : T.length ≤ 16 := by rw [← hT]; exact textsAt_len hV hp
    have HBL := Lib.hid (blocks_yes w3 u V id hu3 hV k0 hp T hT)
    have HP := Lib.hid hp
    have HT := Lib.hid hT
    clear hp hT
    go_wp2_with fail
    ((with_reducible refine HBL.out.mono ?_); rintro e w4 ⟨tv, rfl, ht4, hb4⟩)
    have hu4 := hu3.below hb4
    replace hb4 := belowThen hb3 hb4
    obtain ⟨tA, tc, htv, _⟩ := ht4.cells
    subst htv
    clear hu3 hb3 HBL
    go_wp2
    go_loopw [8, 11] (fun p i w' => ∃ (k u q : Nat) (V : VauM), k ≤ more.length ∧ p = .pointer (some ⟨u, 0, none⟩) ∧ i = .int .i64 k ∧ VauIn w' u V ∧ V.Ok ∧ placeOf V.L id = some q ∧ textsAt V q = T ∧ TextRow w' w3.heap.size (.slice tA T.length tc) T ∧ Below w.heap.size w w') (fun _ i _ => more.length - (intOf i).toNat)
    case atStart => exact ⟨0, u, k0, V, Nat.zero_le _, rfl, rfl, hu4, hV, HP.out, HT.out, ht4, hb4⟩
    case round =>
      obtain ⟨k, u', q, V', hk, rfl, rfl, hu', hV', hp', hT', ht', hb'⟩ := hrel
      clear hu4 ht4 hb4
      by_cases hlt : k < more.length
      · obtain ⟨b, off, rfl, hact⟩ := (hM.below hb').2 k hlt
        obtain ⟨ps, hpl, hps⟩ := hact.puts
        have hc := hact.2.1
        have d0 : wr.cell? ⟨b, off + k * 9, none⟩ = some (.string more[k].kind) := hc 0 (by omega)
        have d1 : wr.cell? ⟨b, off + k * 9 + 1, none⟩ = some (.string more[k].s) := hc 1 (by omega)
        have d2 : wr.cell? ⟨b, off + k * 9 + 2, none⟩ = some (.int .i64 more[k].a) := hc 2 (by omega)
        have d3 : wr.cell? ⟨b, off + k * 9 + 3, none⟩ = some (.int .i64 more[k].b) := hc 3 (by omega)
        have d4 : wr.cell? ⟨b, off + k * 9 + 4, none⟩ = some (.int .i64 more[k].c) := hc 4 (by omega)
        have d5 : wr.cell? ⟨b, off + k * 9 + 5, none⟩ = some (.int .i64 more[k].d) := hc 5 (by omega)
        have d6 : wr.cell? ⟨b, off + k * 9 + 6, none⟩ = some (.int .u64 more[k].k) := hc 6 (by omega)
        have d7 : wr.cell? ⟨b, off + k * 9 + 7, none⟩ = some (.slice more[k].pA more[k].pL more[k].pC) := hc 7 (by omega)
        have d8 : wr.cell? ⟨b, off + k * 9 + 8, none⟩ = some (.slice more[k].cA more[k].cL more[k].cC) := hc 8 (by omega)
        have i1 : (k : Int) < (more.length : Int) := by omega
        have HC := Lib.hid (fill_any wr u' V' more[k] ps hu' hV' hps hpl)
        have HO := Lib.hid (fillV_ok hV' more[k] ps)
        have HST := Lib.hid (fun (hd : ¬ ((more[k].kind.toList == [100, 114, 111, 112]) = true ∧ more[k].a = id)) => fill_stay hV' more[k] ps hp' hd)
        have HT' := Lib.hid hT'
        have HP' := Lib.hid hp'
        generalize more[k] = m at *
        clear hc hact hps hpl hT' hp'
        have key : ¬ ((m.kind.toList == [100, 114, 111, 112]) = true ∧ m.a = id) → ∃ q3, placeOf (fillV V' m ps).L id = some q3 ∧ textsAt (fillV V' m ps) q3 = T := fun hd => by
          obtain ⟨q3, h3, h4⟩ := HST.out hd
          exact ⟨q3, h3, h4.trans HT'.out⟩
        have KEY := Lib.hid key
        clear key
        cases hkd : (m.kind.toList == [100, 114, 111, 112]) with
        | true =>
          by_cases hid : m.a = id
          · have hid' : (m.a == id) = true := by simpa using hid
            clear HC KEY HST
            go_wp2
            go_roundw
            case rel => exact ⟨k + 1, u', q, V', hlt, rfl, by go_num, hu', hV', HP'.out, HT'.out, ht', hb'⟩
            case measure => simp [intOf]; omega
          · obtain ⟨q3, hq3, hT3⟩ := KEY.out (fun h => hid h.2)
            have hid' : (m.a == id) = false := by simpa using hid
            have HQ3 := Lib.hid hq3
            have HT3 := Lib.hid hT3
            clear KEY HST hq3 hT3
            go_wp2_with fail
            (refine HC.out.mono ?_; rintro e w6 ⟨u6, rfl, hu6, hb6⟩)
            have ht6 := ht'.below hb6
            replace hb6 := belowThen hb' hb6
            have HB6 := Lib.hid (blocks_yes w6 u6 _ id hu6 HO.out q3 HQ3.out T HT3.out)
            clear d0 d1 d2 d3 d4 d5 d6 d7 d8 HC
            go_wp2_with fail
            ((with_reducible refine HB6.out.mono ?_); rintro e w7 ⟨tv7, rfl, ht7, hb7⟩)
            have hu7 := hu6.below hb7
            have ht67 := ht6.below hb7
            replace hb7 := belowThen hb6 hb7
            obtain ⟨tA7, tc7, htv, _⟩ := ht7.cells
            subst htv
            have HSA := Lib.hid (sameTexts_any w7 _ _ _ _ T ht67 ht7 (by omega))
            clear HB6
            go_wp2_with fail
            ((with_reducible refine HSA.out.mono ?_); rintro e w8 ⟨rfl, hb8⟩)
            have hu8 := hu7.below hb8
            have ht8 := ht67.below hb8
            replace hb8 := belowThen hb7 hb8
            go_wp2
            go_roundw
            case rel => exact ⟨k + 1, u6, q3, _, hlt, rfl, by go_num, hu8, HO.out, HQ3.out, HT3.out, ht8, hb8⟩
            case measure => simp [intOf]; omega
        | false =>
          obtain ⟨q3, hq3, hT3⟩ := KEY.out (fun h => by rw [hkd] at h; exact absurd h.1 (by simp))
          have HQ3 := Lib.hid hq3
          have HT3 := Lib.hid hT3
          clear KEY HST hq3 hT3
          go_wp2_with fail
          (refine HC.out.mono ?_; rintro e w6 ⟨u6, rfl, hu6, hb6⟩)
          have ht6 := ht'.below hb6
          replace hb6 := belowThen hb' hb6
          have HB6 := Lib.hid (blocks_yes w6 u6 _ id hu6 HO.out q3 HQ3.out T HT3.out)
          clear d0 d1 d2 d3 d4 d5 d6 d7 d8 HC
          go_wp2_with fail
          ((with_reducible refine HB6.out.mono ?_); rintro e w7 ⟨tv7, rfl, ht7, hb7⟩)
          have hu7 := hu6.below hb7
          have ht67 := ht6.below hb7
          replace hb7 := belowThen hb6 hb7
          obtain ⟨tA7, tc7, htv, _⟩ := ht7.cells
          subst htv
          have HSA := Lib.hid (sameTexts_any w7 _ _ _ _ T ht67 ht7 (by omega))
          clear HB6
          go_wp2_with fail
          ((with_reducible refine HSA.out.mono ?_); rintro e w8 ⟨rfl, hb8⟩)
          have hu8 := hu7.below hb8
          have ht8 := ht67.below hb8
          replace hb8 := belowThen hb7 hb8
          go_wp2
          go_roundw
          case rel => exact ⟨k + 1, u6, q3, _, hlt, rfl, by go_num, hu8, HO.out, HQ3.out, HT3.out, ht8, hb8⟩
          case measure => simp [intOf]; omega
      · go_wp2
        go_ret
        exact ⟨rfl, hb'⟩
end Go.Proofs.Ytnnnmpfkpckgbaa
