/- The walk of TopFree. -/
import Derived.Test.YtnnnmpfkpckgbaaTopSet
import Derived.Deep.RegionLaw
namespace Go.Proofs.Ytnnnmpfkpckgbaa
open Go.RowKit Go.Maps

/-- append onto a row of the call's own, as one step of a region that draws its order. -/
theorem step_append_own {P : Program} {ops : Array Oper} {o : Oper} {a : Act} {w : World} {K : Act → World → Prop} {Q : Exit → Act → World → Prop} {E : Prop} (hgd : o.guard = none) (s x : Operand) (t : TypeId)
    (ho : o.op = .call { callee := .builtin .append, args := #[s, x], argTypes := #[t, t] })
    (base : Nat) (e : TypeId) (i : TypeInfo) (z : Value) (size bytes : Nat) (ht : P.underlying t = some (.slice e)) (hi : P.info? e = some i) (hz : i.zero = some z)
    (hsize : i.size = size) (hby : i.bytes = bytes) (hzs : z.cells.size = size) (hsz : 0 < size)
    (v : Value) (n : Nat) (xs : List Value) (hs : a.eval s = v) (hown : w.ownsRow base e size v n xs)
    (ad : Addr) (m c : Nat) (news : List Value) (hx : a.eval x = .slice (some ad) m c) (hl : news.length = m * size) (hnews : ∀ j u, news[j]? = some u → w.cell? (ad.add j) = some u) (h1 : ∀ u ∈ news, u.oneCell' = true)
    (h63 : n + m ≤ maxLen) (hbytes : (n + m) * bytes ≤ 140737488355328) (hbase : base ≤ w.heap.size)
    (h : ∀ v' w', w'.ownsRow base e size v' (n + m) (xs ++ news) → w.grownBy w' v.ownBlock → (v' = .slice none 0 0 ↔ v = .slice none 0 0 ∧ m = 0) → K (a.put o.dst v') w') :
    if Region.wanted o (yielded ops a.tmps) = true then Oper.wp P o a w K Q else E := by
  have hw : Region.wanted o (yielded ops a.tmps) = true := by simp [Region.wanted, hgd]
  rw [if_pos hw]
  exact wp_append_own w s x t ho base e i z size bytes ht hi hz hsize hby hzs hsz v n xs hs hown ad m c news hx hl hnews h1 h63 hbytes hbase h

theorem rootsOf_perm {l l' : List Nat} (h : l.Perm l') : (rootsOf l).Perm (rootsOf l') := h.filter _
theorem rootsOf_cons (n : Nat) (l : List Nat) : rootsOf (n :: l) = opt n (rootsOf l) := by
  unfold rootsOf opt
  simp only [List.filter_cons]
  by_cases h : n = 0
  · simp [h]
  · simp [h]
theorem rootsOf_at (l : List Nat) (k : Nat) (hk : k < l.length) : (rootsOf l).Perm (opt l[k] (rootsOf (l.take k ++ l.drop (k + 1)))) := by
  rw [← rootsOf_cons]
  refine rootsOf_perm ?_
  have e : l = l.take k ++ l[k] :: l.drop (k + 1) := by
    rw [List.getElem_cons_drop]
    exact (List.take_append_drop k l).symm
  conv => lhs; rw [e]
  exact List.perm_middle

/-- A part of a row of numbers. -/
theorem row_part {w : World} {base gr n c : Nat} {L : List Int} (h : OwnInts w base (.slice (some ⟨gr, 0, none⟩) n c) L) (hn : L.length = n) (off m : Nat) (hoff : off + m ≤ n) {w' : World} (hw : w'.heap[gr]? = w.heap[gr]?) :
    ∀ j u, (((L.drop off).take m).map (Value.int .i64))[j]? = some u → w'.cell? ((⟨gr, off, none⟩ : Addr).add j) = some u := by
  intro j u hu
  subst hn
  have h' : w.ownsRow base 3 1 (.slice (some ⟨gr, 0, none⟩) L.length c) L.length (L.map (Value.int .i64)) := h
  rw [List.getElem?_map, List.getElem?_take] at hu
  split at hu
  · rw [List.getElem?_drop] at hu
    rw [add_lit', World.cell?_of_block (w := w) (a := ⟨gr, off + j, none⟩) hw, h'.cellAt _ (by omega), List.getElem?_map]
    exact hu
  · cases hu
theorem row_shape {w : World} {base : Nat} {v : Value} {L : List Int} (h : OwnInts w base v L) (hne : L ≠ []) : ∃ gr c, v = .slice (some ⟨gr, 0, none⟩) L.length c ∧ L.length ≤ c ∧ c ≤ maxLen ∧ base ≤ gr ∧ gr < w.heap.size := by
  rcases h.2 with ⟨_, h0⟩ | ⟨g, cap, cur, rfl, hb, hg, h1, h2, _⟩
  · exact absurd (List.length_eq_zero_iff.1 h0) hne
  · exact ⟨g, cap, rfl, h1, h2, hb, (Array.getElem?_eq_some_iff.1 hg).1⟩
theorem own_of {w : World} {base n : Nat} {v : Value} {xs : List Value} (L : List Int) (h : w.ownsRow base 3 1 v n xs) (hx : xs = L.map (Value.int .i64)) (hn : n = L.length) : OwnInts w base v L := by
  subst hx hn; exact h
/-- The list without one, out of its parts. -/
theorem parts_of (RL : List Nat) (n q : Nat) (hn : RL.length = n) (hq : q < n) : ([] ++ (((intsOf RL).drop 0).take q).map (Value.int .i64)) ++ (((intsOf RL).drop (q + 1)).take (n - (q + 1))).map (Value.int .i64) = (intsOf (RL.take q ++ RL.drop (q + 1))).map (Value.int .i64) ∧ 0 + q + (n - (q + 1)) = (intsOf (RL.take q ++ RL.drop (q + 1))).length := by
  refine ⟨?_, ?_⟩
  · rw [List.take_of_length_le (l := (intsOf RL).drop (q + 1)) (by simp [intsOf_len, hn])]
    simp [intsOf, List.map_take, List.map_drop]
  · rw [intsOf_len]; simp; omega
theorem ints_cells (L : List Int) : ∀ u ∈ L.map (Value.int .i64), u.oneCell' = true := by
  intro u hu
  obtain ⟨x, _, rfl⟩ := List.mem_map.1 hu
  rfl

theorem idxFree_e (w : World) (x gp bp bn K : Nat) (X X' : IdxM) (id : Nat) (h : IdxAt w x gp bp bn K X) (hid : id ≤ 1000) (hK : K ≤ 1000000) (hX : X.free id = X') :
    Calls Try.prog 18 #[.pointer (some ⟨x, 0, none⟩), .int .i64 id] w (IdxRet w x gp bp bn K X' (.tuple #[])) := by
  subst hX; exact idxFree_any w x gp bp bn K X id h hid hK

set_option maxHeartbeats 8000000 in
set_option maxRecDepth 100000 in
theorem topFree_walk (A O : Option Addr) (cA cO : Nat) (l : List ActM) (ord : List Int) (w : World) (hA : ActsAt w w.heap.size A l) (hOrd : IntsAt w O ord) (hlo : ord.length ≤ 9223372036854775807) :
    Calls Try.prog 5 #[.slice A l.length cA, .slice O ord.length cO] w fun e w' => e = .returned (.bool true) ∧ Below w.heap.size w w' := by
  obtain ⟨i0, hi, hz0, hz1, hz2⟩ := info_parts Try.infoInt
  go_enter Try.func5, Try.ntmps5
  go_wp2_with fail
  ((with_reducible refine (indexed_any _).mono ?_); rintro e w1 ⟨rfl, hb1⟩)
  go_wp2_with fail
  ((with_reducible refine (lightActs_any _ _ _ _ _ (hA.below hb1)).mono ?_); rintro e w2 ⟨r, rfl, hr, hb2⟩)
  replace hb2 := belowThen hb1 hb2
  clear hb1
  cases r
  · go_wp2
    go_ret
    exact ⟨rfl, hb2⟩
  have hl12 : l.length ≤ 60 := by have := hr rfl; omega
  clear hr
  by_cases ho40 : 40 < (ord.length : Int)
  · go_wp2
    go_ret
    exact ⟨rfl, hb2⟩
  have ho40' : decide (40 < (ord.length : Int)) = false := by simpa using ho40
  have ho40'' : decide (40 < ord.length) = false := by simp; omega
  go_wp2_with fail
  ((with_reducible refine (rooted_any _ _ _ _ (hA.below hb2) hl12).mono ?_); rintro e w3 (⟨rfl, hb3⟩ | ⟨x, gp, bp, bn, X, RL, v, rfl, hX, hI, hO, hne, hRL, hR24, hx, hgp, hbp, hbn, hb3⟩))
  · go_wp2
    go_ret
    exact ⟨rfl, belowThen hb2 hb3⟩
  have hw2 := hb2.size
  replace hb3 := belowThen hb2 hb3
  have hO' : OwnInts w3 w.heap.size v (intsOf RL) := by
    obtain ⟨a1, a2⟩ := hO
    refine ⟨a1, ?_⟩
    rcases a2 with a2 | ⟨g, cap, cur, hv, hg, rest⟩
    · exact .inl a2
    · exact .inr ⟨g, cap, cur, hv, by omega, rest⟩
  have HBL := Lib.hid (show ∀ y ∈ [bp, bn], w.heap.size ≤ y by simp; omega)
  clear hO hne hx hgp hbp hbn ho40
  go_wp2
  go_loopw [7, 8] (fun v i w' => ∃ (k : Nat) (X : IdxM) (RL : List Nat), k ≤ ord.length ∧ i = .int .i64 k ∧ RL.length ≤ 61 ∧ IdxAt w' x gp bp bn 1000 X ∧ Inv X (rootsOf RL) [] [] ∧ OwnInts w' w.heap.size v (intsOf RL) ∧ (∀ n ∈ RL, n ≤ 24) ∧ Below w.heap.size w w') (fun _ i _ => ord.length - (intOf i).toNat)
  case atStart => exact ⟨0, X, RL, Nat.zero_le _, rfl, hRL, hX, hI, hO', hR24, hb3⟩
  case round =>
    obtain ⟨k, X, RL, hk, rfl, hRL, hX, hI, hO, hR24, hb⟩ := hrel
    rename_i v0 _ _
    clear hO' hb3
    have hsz := hb.size
    by_cases hlt : k < ord.length
    · obtain ⟨go, oo, rfl, co⟩ := (hOrd.below hb) k hlt
      have j1 : (k : Int) < (ord.length : Int) := by omega
      generalize ord[k] = ok at co
      by_cases hne : RL = []
      · subst hne
        obtain ⟨vA, vc, hv, _, _⟩ := hO.at_
        have hv : _ = Value.slice vA 0 vc := hv
        subst hv
        go_wp2
        go_roundw
        case rel => exact ⟨k + 1, X, [], hlt, by go_num, by simp, hX, hI, hO, by simp, hb⟩
        case measure => simp [intOf]; omega
      · have hie : intsOf RL ≠ [] := fun e => hne (List.length_eq_zero_iff.1 (by rw [← intsOf_len, e]; rfl))
        obtain ⟨gr, c, hv, hnc, hcm, hgr1, hgr2⟩ := row_shape hO hie
        rw [intsOf_len] at hv hnc
        subst hv
        unfold maxLen at hcm
        obtain ⟨m, hm⟩ := Int.eq_ofNat_of_zero_le (andBig ok).1
        have hn0 : 0 < RL.length := List.length_pos_iff.2 hne
        obtain ⟨n, hn⟩ : ∃ n, RL.length = n := ⟨_, rfl⟩
        obtain ⟨q, hq⟩ : ∃ q, m % n = q := ⟨_, rfl⟩
        have hqn : q < n := by rw [← hq]; exact Nat.mod_lt _ (by omega)
        have hqR : q < RL.length := by omega
        have hq2 : (m : Int) % (n : Int) = (q : Int) := by rw [← hq]; exact (Int.natCast_emod m n).symm
        obtain ⟨root, hroot⟩ : ∃ r, RL[q] = r := ⟨_, rfl⟩
        have hr24 : root ≤ 24 := hR24 root (by rw [← hroot]; exact List.getElem_mem hqR)
        have cq : wr.cell? ⟨gr, q, none⟩ = some (.int .i64 root) := by
          have := row_part hO (by rw [intsOf_len]) q 1 (by omega) rfl 0 (.int .i64 root) (by simp [intsOf, hqR, hroot])
          simpa [add_lit'] using this
        obtain ⟨X', hX'⟩ : ∃ X', X.free root = X' := ⟨_, rfl⟩
        have hperm := rootsOf_at RL q hqR
        rw [hroot] at hperm
        have hI' : Inv X' (rootsOf (RL.take q ++ RL.drop (q + 1))) [] [] := by rw [← hX']; exact Inv.free root (hI.perm hperm)
        have hR24' : ∀ z ∈ RL.take q ++ RL.drop (q + 1), z ≤ 24 := fun z hz => by
          rcases List.mem_append.1 hz with h | h
          · exact hR24 z (List.mem_of_mem_take h)
          · exact hR24 z (List.mem_of_mem_drop h)
        have HI' := Lib.hid hI'
        have HR24' := Lib.hid hR24'
        have HFREE := Lib.hid (idxFree_e wr x gp bp bn 1000 X X' root hX (by omega) (by omega) hX')
        have hMAPS := Lib.hid hX.maps
        have HN := Lib.hid hn
        rw [hn] at hO hnc hn0 hRL ⊢
        have i1 : (0 : Int) ≤ (q : Int) := by omega
        have i2 : (q : Int) < (n : Int) := by omega
        have i3 : (0 : Int) < (n : Int) := by omega
        have i5 : ((n : Int) == 0) = false := by simp; omega
        have i6 : ¬ ((n : Int) = 0) := by omega
        have i7 : (0 : Int) ≤ (m : Int) := by omega
        clear hq hroot hX' hperm hI hI' hR24 hR24' hn hqR hie hne hX
        go_wp2_with fail
        rw [hq2]
        clear hq2 hm cq co
        ((with_reducible refine HFREE.out.mono ?_); rintro e w4 ⟨rfl, h4, t4⟩)
        have hO4 := hO.turn t4 hMAPS.out
        have hb4 : Below w.heap.size w w4 := hb.trans (t4.below hsz HBL.out)
        have hsz4 := hb4.size
        have hgr4 : gr < w4.heap.size := Nat.lt_of_lt_of_le hgr2 t4.size
        clear hO t4 hb HFREE hMAPS
        have k1 : (q : Int) ≤ (c : Int) := by omega
        have k2 : IntKind.i64.wrap ((q : Int) + 1) = (q : Int) + 1 := IntWalk.i64_in _ (by omega)
        have k3 : (0 : Int) ≤ (q : Int) + 1 := by omega
        have k4 : (q : Int) + 1 ≤ (n : Int) := by omega
        have k5 : ((q : Int) + 1).toNat = q + 1 := by omega
        have k6 : (n : Int) ≤ (c : Int) := by omega
        have hlen : (intsOf RL).length = n := by rw [intsOf_len]; exact HN.out
        have HC1 := Lib.hid (fun (w' : World) (hw : w'.heap[gr]? = w4.heap[gr]?) => row_part hO4 hlen 0 q (by omega) hw)
        have hl1 : ((((intsOf RL).drop 0).take q).map (Value.int .i64)).length = q * 1 := by simp [intsOf_len, HN.out]; omega
        have HL1 := Lib.hid hl1
        by_cases hcq : c = q + 1
        · subst hcq
          obtain rfl : n = q + 1 := by omega
          have k7 : (q : Int) ≤ (q : Int) + 1 := by omega
          clear hl1 hlen
          go_wp2_with fail
          go_region_law (first
            | (refine step_append_own rfl _ _ 26 rfl w.heap.size 3 i0 (.int .i64 0) 1 8 Try.underlying26 hi hz0 hz1 hz2 rfl (by decide) (.slice none 0 0) 0 [] (by simp [Act.eval]) (World.ownsRow_nil _ _ _ _) ⟨gr, 0, none⟩ q (q + 1) _ (by simp [Act.eval, Act.put]) HL1.out (HC1.out _ rfl) (ints_cells _) (by unfold maxLen; omega) (by omega) (by exact hsz4) ?_; intro v1 w5 hown1 hg1 hnil1)
            | (refine step_append_own rfl _ _ 26 rfl w.heap.size 3 i0 (.int .i64 0) 1 8 Try.underlying26 hi hz0 hz1 hz2 rfl (by decide) v1 _ _ (by simp [Act.eval]) hown1 ⟨gr, 0, none⟩ 0 0 [] (by simp [Act.eval]) rfl (by simp) (by simp) (by unfold maxLen; omega) (by omega) (by exact Nat.le_trans hsz4 hg1.size) ?_; intro v2 w6 hown2 hg2 hnil2))
          have hown1' : OwnInts w5 w.heap.size v1 (((intsOf RL).drop 0).take q) := own_of _ hown1 (by simp) (by rw [List.length_take, List.length_drop, intsOf_len, HN.out]; omega)
          have h5 := (h4.below (Below.refl _ _).drew).below ((Below.refl _ _).grown hg1 (Nat.le_refl _) (fun j hj => by cases hj))
          have h6 := h5.grownRow hg2 hown1' (fun _ _ => rfl)
          have hO6 := own_of _ hown2 (by rw [← (parts_of RL (q + 1) q HN.out hqn).1]; simp) (by rw [← (parts_of RL (q + 1) q HN.out hqn).2]; omega)
          have hb6 : Below w.heap.size w w6 := ((hb4.drew).grown hg1 (by exact hsz4) (fun j hj => by cases hj)).grown hg2 (by exact Nat.le_trans hsz4 hg1.size) (fun j hj => (World.ownsRow.lt hown1' j hj).1)
          clear hown1 hown2 hg1 hg2 hnil1 hnil2 h4 hO4 hb4 hown1' h5
          go_wp2
          go_roundw
          case rel => exact ⟨k + 1, X', RL.take q ++ RL.drop (q + 1), hlt, by go_num, by simp [HN.out]; omega, h6, HI'.out, hO6, HR24'.out, hb6⟩
          case measure => simp [intOf]; omega
        · have HC2 := Lib.hid (fun (w' : World) (hw : w'.heap[gr]? = w4.heap[gr]?) => row_part hO4 hlen (q + 1) (n - (q + 1)) (by omega) hw)
          have hl2 : ((((intsOf RL).drop (q + 1)).take (n - (q + 1))).map (Value.int .i64)).length = (n - (q + 1)) * 1 := by simp [intsOf_len, HN.out]
          have HL2 := Lib.hid hl2
          have hcq' : ¬ (c - (q + 1) = 0) := by omega
          clear hl1 hl2 hlen
          go_wp2_with fail
          go_region_law (first
            | (refine step_append_own rfl _ _ 26 rfl w.heap.size 3 i0 (.int .i64 0) 1 8 Try.underlying26 hi hz0 hz1 hz2 rfl (by decide) (.slice none 0 0) 0 [] (by simp [Act.eval]) (World.ownsRow_nil _ _ _ _) ⟨gr, 0, none⟩ q c _ (by simp [Act.eval, Act.put]) HL1.out (HC1.out _ rfl) (ints_cells _) (by unfold maxLen; omega) (by omega) (by exact hsz4) ?_; intro v1 w5 hown1 hg1 hnil1)
            | (refine step_append_own rfl _ _ 26 rfl w.heap.size 3 i0 (.int .i64 0) 1 8 Try.underlying26 hi hz0 hz1 hz2 rfl (by decide) v1 _ _ (by simp [Act.eval]) hown1 ⟨gr, q + 1, none⟩ (n - (q + 1)) (c - (q + 1)) _ (by simp [Act.eval]) HL2.out (HC2.out _ (hg1.block gr (by exact hgr4) (by simp [Value.ownBlock]))) (ints_cells _) (by unfold maxLen; omega) (by omega) (by exact Nat.le_trans hsz4 hg1.size) ?_; intro v2 w6 hown2 hg2 hnil2))
          have hown1' : OwnInts w5 w.heap.size v1 (((intsOf RL).drop 0).take q) := own_of _ hown1 (by simp) (by rw [List.length_take, List.length_drop, intsOf_len, HN.out]; omega)
          have h5 := (h4.below (Below.refl _ _).drew).below ((Below.refl _ _).grown hg1 (Nat.le_refl _) (fun j hj => by cases hj))
          have h6 := h5.grownRow hg2 hown1' (fun _ _ => rfl)
          have hO6 := own_of _ hown2 (parts_of RL n q HN.out hqn).1 (parts_of RL n q HN.out hqn).2
          have hb6 : Below w.heap.size w w6 := ((hb4.drew).grown hg1 (by exact hsz4) (fun j hj => by cases hj)).grown hg2 (by exact Nat.le_trans hsz4 hg1.size) (fun j hj => (World.ownsRow.lt hown1' j hj).1)
          clear hown1 hown2 hg1 hg2 hnil1 hnil2 h4 hO4 hb4 hown1' h5
          go_wp2
          go_roundw
          case rel => exact ⟨k + 1, X', RL.take q ++ RL.drop (q + 1), hlt, by go_num, by simp [HN.out]; omega, h6, HI'.out, hO6, HR24'.out, hb6⟩
          case measure => simp [intOf]; omega
    · obtain ⟨vA, vc, hv, hIA, hxA⟩ := hO.at_
      subst hv
      rw [intsOf_len]
      obtain ⟨n, hn⟩ : ∃ n, RL.length = n := ⟨_, rfl⟩
      have HN := Lib.hid hn
      rw [hn] at hRL ⊢
      clear hn hO
      go_wp2
      go_loopw [10] (fun i w' => ∃ (t : Nat) (X : IdxM), t ≤ n ∧ i = .int .i64 t ∧ IdxAt w' x gp bp bn 1000 X ∧ Inv X (rootsOf (RL.drop t)) [] [] ∧ IntsAt w' vA (intsOf RL) ∧ Below w.heap.size w w') (fun i _ => n - (intOf i).toNat)
      case atStart => exact ⟨0, X, Nat.zero_le _, rfl, hX, hI, hIA, hb⟩
      case round =>
        obtain ⟨t, X5, ht, rfl, hX5, hI5, hIA5, hb5⟩ := hrel
        clear hIA hb
        by_cases hlt2 : t < n
        · have htR : t < RL.length := by have := HN.out; omega
          obtain ⟨ga, oa, rfl, ca0⟩ := hIA5 t (by rw [intsOf_len]; exact htR)
          obtain ⟨root, hroot⟩ : ∃ r, RL[t] = r := ⟨_, rfl⟩
          have ca : wr.cell? ⟨ga, oa + t, none⟩ = some (.int .i64 root) := by rw [ca0]; simp [intsOf, hroot]
          clear ca0
          have hr24 : root ≤ 24 := hR24 root (by rw [← hroot]; exact List.getElem_mem htR)
          have hI6 : Inv (X5.free root) (rootsOf (RL.drop (t + 1))) [] [] := by
            refine Inv.free root ?_
            rw [← rootsOf_cons, ← hroot, List.getElem_cons_drop]
            exact hI5
          obtain ⟨X6, hX6⟩ : ∃ X', X5.free root = X' := ⟨_, rfl⟩
          rw [hX6] at hI6
          have HI6 := Lib.hid hI6
          have HFREE := Lib.hid (idxFree_e wr x gp bp bn 1000 X5 X6 root hX5 (by omega) (by omega) hX6)
          have hMAPS := Lib.hid hX5.maps
          have j1 : (t : Int) < (n : Int) := by omega
          have hsz5 := hb5.size
          have HIA := Lib.hid hIA5
          clear hI6 hX6 hroot hI5 hX5 hIA5
          go_wp2_with fail
          ((with_reducible refine HFREE.out.mono ?_); rintro e w6 ⟨rfl, h6, t6⟩)
          have hIA6 : IntsAt w6 (some ⟨ga, oa, none⟩) (intsOf RL) := fun i hi => by
            obtain ⟨b, off, e, hc⟩ := HIA.out i hi
            exact ⟨b, off, e, turn_cell t6 hMAPS.out hc⟩
          have hb6 := hb5.trans (t6.below hsz5 HBL.out)
          clear t6 HFREE hMAPS HIA ca hb5
          go_wp2
          go_roundw
          case rel => exact ⟨t + 1, X6, hlt2, by go_num, h6, HI6.out, hIA6, hb6⟩
          case measure => simp [intOf]; omega
        · rw [List.drop_of_length_le (by have := HN.out; omega)] at hI5
          obtain ⟨z1, z2⟩ := Inv.nothing hI5
          have hz3 : (nodsOf X5.N).length = 0 := by
            have := nodsOf_add (p := X5.N) (q := X5.N) 0 0 (fun n hn => .inl hn)
            rw [show nodsOf X5.N = [] by unfold nodsOf keysOf; rw [List.filter_eq_nil_iff.2 (fun m _ => by rw [nodMap_isSome]; simp [hasNod, z1])]]
            rfl
          have hz4 : (numsOf X5.P).length = 0 := by
            rw [show numsOf X5.P = [] by unfold numsOf keysOf; rw [List.filter_eq_nil_iff.2 (fun m _ => by rw [poolMap_isSome]; simp [hasBlk, z2])]]
            rfl
          have c0 := hX5.cell0
          have HZ3 := Lib.hid hz3
          have HZ4 := Lib.hid hz4
          clear hz3 hz4 z1 z2
          go_wp2_with fail
          ((with_reducible refine (idxNumbers_len _ _ _ _ _ _ X5 0 hX5 HZ3.out).mono ?_); rintro e w6 ⟨_, _, rfl, hb6⟩)
          have hX6 := hX5.below hb6
          have c6 := hX6.cell0
          replace hb6 := belowThen hb5 hb6
          clear hX5 hb5 c0
          go_wp2_with fail
          ((with_reducible refine (poolNumbers_len _ _ _ _ X5.P 0 hX6.pool HZ4.out).mono ?_); rintro e w7 ⟨_, _, rfl, hb7⟩)
          go_wp2
          go_ret
          exact ⟨rfl, belowThen hb6 hb7⟩
end Go.Proofs.Ytnnnmpfkpckgbaa
