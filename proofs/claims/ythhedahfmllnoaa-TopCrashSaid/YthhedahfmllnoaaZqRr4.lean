/- The document's rows: changes applied. -/
import Derived.Test.YthhedahfmllnoaaZqAp2
import Derived.Test.YthhedahfmllnoaaZqCmp
namespace Go.Proofs.Ythhedahfmllnoaa
open Go.RowKit

/-- What one change makes of rows, one row after the other. -/
def rgo (c : Ch) : List Ch → Bool → List Ch
  | [], b => if b then [] else [c]
  | y :: r, b => (if b then [] else if cmpB c.key y.key ≤ 0 then [c] else []) ++ ((if cmpB y.key c.key = 0 then [] else [y]) ++ rgo c r (b || decide (cmpB c.key y.key ≤ 0)))

theorem rgo_true (c : Ch) : ∀ r : List Ch, rgo c r true = r.filter fun y => decide (¬ cmpB y.key c.key = 0)
  | [] => rfl
  | y :: r => by
    rw [rgo, if_pos rfl, Bool.true_or, rgo_true c r, List.filter_cons, List.nil_append]
    by_cases h : cmpB y.key c.key = 0
    · rw [if_pos h, if_neg (by simp [h])]; rfl
    · rw [if_neg h, if_pos (by simp [h])]; rfl
theorem not_eq {r : List Ch} {k : ByteArray} (h : rHi r k = r) : (r.filter fun y => decide (¬ cmpB y.key k = 0)) = r := by
  rw [List.filter_eq_self]
  intro z hz
  rw [← h] at hz
  have := (List.mem_filter.1 hz).2
  simp only [decide_eq_true_eq] at this ⊢
  omega
/-- In sorted rows that is what a change makes of them. -/
theorem rgo_ap1 (c : Ch) : ∀ r : List Ch, SortedCh r → rgo c r c.gone = ap1 r c
  | [], _ => by cases hg : c.gone <;> simp [rgo, ap1, rLo, rHi, hg]
  | y :: r, h => by
    have hr := (List.pairwise_cons.1 h).2
    have ih := rgo_ap1 c r hr
    by_cases h1 : cmpB y.key c.key < 0
    · have e1 : rLo (y :: r) c.key = y :: rLo r c.key := by unfold rLo; rw [List.filter_cons, if_pos (by simpa using h1)]
      have e2 : rHi (y :: r) c.key = rHi r c.key := by unfold rHi; rw [List.filter_cons, if_neg (by simp; omega)]
      have e3 : ¬ cmpB c.key y.key ≤ 0 := by rw [cmp_swap]; omega
      rw [rgo, if_neg e3, ite_self, List.nil_append, if_neg (show ¬ cmpB y.key c.key = 0 by omega), show (c.gone || decide (cmpB c.key y.key ≤ 0)) = c.gone by simp [e3], ih]
      unfold ap1
      rw [e1, e2]
      simp
    · obtain ⟨e1, e2⟩ := hi_all h (by omega : 0 ≤ cmpB y.key c.key)
      have e3 : cmpB c.key y.key ≤ 0 := by rw [cmp_swap]; omega
      rw [rgo, if_pos e3, show (c.gone || decide (cmpB c.key y.key ≤ 0)) = true by simp [e3], rgo_true, not_eq e1]
      unfold ap1
      rw [e2, List.nil_append]
      congr 1
      unfold rHi at e1 ⊢
      rw [List.filter_cons, e1]
      by_cases h0 : cmpB y.key c.key = 0
      · rw [if_pos h0, if_neg (by simp [h0])]; rfl
      · rw [if_neg h0, if_pos (by simp; omega)]; rfl

theorem own_lower {w : World} {B B' : Nat} {e : TypeId} {size n : Nat} {v : Value} {xs : List Value} (h : w.ownsRow B e size v n xs) (hB : B' ≤ B) : w.ownsRow B' e size v n xs := by
  refine ⟨h.1, ?_⟩
  rcases h.2 with h1 | ⟨g, cap, cur, h1, h2, h3⟩
  · exact .inl h1
  · exact .inr ⟨g, cap, cur, h1, by omega, h3⟩
theorem own_slice {w : World} {B n c : Nat} {A : Option Addr} {r : List Ch} (h : w.ownsRow B 60 3 (.slice A n c) n (chCells r)) : n = r.length := by
  have := h.1
  rw [chCells_length] at this
  omega
/-- Rows that grow by one change at the end. -/
theorem own_snoc {w w' : World} {B g cap n : Nat} {A : Option Addr} {c : Nat} {r : List Ch} (x : Ch) {o : Obj} (hO : (w.alloc o).ownsRow B 60 3 (.slice A n c) n (chCells r)) (hB : B ≤ w.heap.size)
    (h1 : w'.ownsRow B 60 3 (.slice (some ⟨g, 0, none⟩) (n + 1) cap) (n + 1) (chCells r ++ [.string x.key, .string x.val, .bool x.gone])) (h2 : (w.alloc o).grownBy w' (Value.slice A n c).ownBlock) :
    w'.ownsRow B 60 3 (.slice (some ⟨g, 0, none⟩) (n + 1) cap) (n + 1) (chCells (r ++ [x])) ∧ Below B w w' :=
  ⟨by rw [chCells_snoc]; exact h1, ((Below.refl _ _).alloc hB _).grown h2 (by simp; omega) (fun k hk => (hO.lt k hk).1)⟩

set_option maxHeartbeats 8000000 in
set_option maxRecDepth 100000 in
theorem applied_any (w : World) (A : Option Addr) (cA : Nat) (m : List Ch) (A2 : Option Addr) (c2 : Nat) (l : List Ch) (hm : ChsAt w A m) (hA : A = none → cA = 0) (hl : ChsAt w A2 l) (hmn : m.length ≤ 1000) (hln : l.length ≤ 900) (hs : SortedCh m) :
    Calls Try.prog 22 #[.slice A m.length cA, .slice A2 l.length c2] w (ApplyRet w m l) := by
  obtain ⟨inf, hinf, hz0, hz1, hz2⟩ := info_parts Try.infoChZ
  have HM := Lib.hid (show ∀ x, x ∈ m ∨ x ∈ l → x.key.size ≤ maxLen ∧ x.val.size ≤ maxLen from fun x hx => hx.elim (hm.sizes x) (hl.sizes x))
  have HS := Lib.hid hs
  clear hs
  cases A with
  | none =>
    obtain rfl := hA rfl
    obtain rfl : m = [] := by
      rcases hm.form with h | ⟨b, off, e, _⟩
      · exact h
      · cases e
    have HO1 := Lib.hid (show w.ownsRow w.heap.size 60 3 (.slice none 0 0) 0 (chCells []) from World.ownsRow_nil _ _ _ _)
    have HB1 := Lib.hid (Below.refl w.heap.size w)
    clear hA hm
    go_enter Try.func22, Try.ntmps22
    go_wp2
    go_loopw [5, 6] (fun v i w' => ∃ (k : Nat) (A' : Option Addr) (c' : Nat), k ≤ l.length ∧ i = .int .i64 k ∧ v = .slice A' (apAll ([] : List Ch) (l.take k)).length c' ∧ w'.ownsRow w.heap.size 60 3 (.slice A' (apAll ([] : List Ch) (l.take k)).length c') (apAll ([] : List Ch) (l.take k)).length (chCells (apAll ([] : List Ch) (l.take k))) ∧ Below w.heap.size w w') (fun _ i _ => l.length - (intOf i).toNat)
    case atStart => exact ⟨0, none, 0, Nat.zero_le _, rfl, by simp [apAll], by simpa [apAll] using HO1.out, HB1.out⟩
    case round =>
      clear HO1 HB1
      obtain ⟨k, A', c', hk, rfl, rfl, hO, hb⟩ := hrel
      have hrl := apAll_len (l.take k) ([] : List Ch)
      rw [List.length_take, Nat.min_eq_left hk] at hrl
      have hrs : SortedCh (apAll ([] : List Ch) (l.take k)) := apAll_sorted _ HS.out
      have hrz : ∀ x ∈ apAll ([] : List Ch) (l.take k), x.key.size ≤ maxLen ∧ x.val.size ≤ maxLen := fun x hx => HM.out x ((apAll_mem hx).imp id (fun h => List.mem_of_mem_take h))
      by_cases hlt : k < l.length
      · obtain ⟨b, off, rfl, hblt, d0, d1, d2, s1, s2⟩ := (hl.below hb) k hlt
        have HNX := Lib.hid (show apAll ([] : List Ch) (l.take (k + 1)) = ap1 (apAll ([] : List Ch) (l.take k)) l[k] by rw [List.take_succ_eq_append_getElem hlt, apAll_snoc])
        generalize apAll ([] : List Ch) (l.take k) = r at *
        generalize l[k] = c at *
        have HRG := Lib.hid (show apAll ([] : List Ch) (l.take (k + 1)) = rgo c r c.gone by rw [HNX.out, rgo_ap1 c r hrs])
        have CH := Lib.hid (fun w2 (h : Below wr.heap.size wr w2) => (chs_own hO hrz).below h)
        obtain ⟨key, val, gone⟩ := c
        simp only [] at d0 d1 d2 HRG
        have KC := Lib.hid (fun w2 (h : Below wr.heap.size wr w2) => show w2.cell? ⟨b, off + k * 3, none⟩ = some (.string key) ∧ w2.cell? ⟨b, off + k * 3 + 1, none⟩ = some (.string val) ∧ w2.cell? ⟨b, off + k * 3 + 2, none⟩ = some (.bool gone) from ⟨(h.cell (p := ⟨b, off + k * 3, none⟩) hblt).trans d0, (h.cell (p := ⟨b, off + k * 3 + 1, none⟩) hblt).trans d1, (h.cell (p := ⟨b, off + k * 3 + 2, none⟩) hblt).trans d2⟩)
        have hszr := hb.size
        have HSR := Lib.hid hszr
        have HBW := Lib.hid hb
        have i1 : (k : Int) < (l.length : Int) := by omega
        have i0 : (0 : Int) ≤ (k : Int) := by omega
        have hr9 : r.length ≤ 1900 := by omega
        obtain ⟨wo, hwo⟩ : ∃ wo, wo = wr := ⟨_, rfl⟩
        subst hwo
        clear hO hrs hrz s1 s2 HNX hrl hb hszr
        go_wp2
        go_loopw [7, 8, 9] (fun nv lv i w' => ∃ (j : Nat) (nl : List Ch) (bb : Bool) (nA : Option Addr) (nc : Nat), j ≤ r.length ∧ i = .int .i64 j ∧ lv = .bool bb ∧ nv = .slice nA nl.length nc ∧ w'.ownsRow wo.heap.size 60 3 (.slice nA nl.length nc) nl.length (chCells nl) ∧ nl.length ≤ 2 * j ∧ Hid (nl ++ rgo ⟨key, val, gone⟩ (r.drop j) bb = rgo ⟨key, val, gone⟩ r gone) ∧ Below wo.heap.size wo w') (fun _ _ i _ => r.length - (intOf i).toNat)
        case atStart => exact ⟨0, [], gone, none, 0, Nat.zero_le _, rfl, rfl, rfl, World.ownsRow_nil _ _ _ _, by simp, Lib.hid (by simp), Below.refl _ _⟩
        case round =>
          clear d0 d1 d2
          obtain ⟨j, nl, bb, nA, nc, hj, rfl, rfl, rfl, hO2, hnl, HF, hb2⟩ := hrel
          obtain ⟨d0, d1, d2⟩ := KC.out _ (Below.refl _ _)
          have HO2 := Lib.hid hO2
          clear hO2
          by_cases hjl : j < r.length
          · obtain ⟨b3, off3, rfl, hblt3, e0, e1, e2, s1, s2⟩ := (CH.out _ (Below.refl _ _)) j hjl
            have hdr : r.drop j = r[j] :: r.drop (j + 1) := List.drop_eq_getElem_cons hjl
            have HFF := HF.out
            rw [hdr, rgo] at HFF
            have j1 : (j : Int) < (r.length : Int) := by omega
            have j0 : (0 : Int) ≤ (j : Int) := by omega
            generalize r[j] = y at *
            have L1 := leq_cmp key y.key
            have E1 := eq_cmp y.key key
            obtain ⟨yk, yv, yg⟩ := y
            simp only [] at e0 e1 e2 L1 E1 HFF
            clear hdr HF s1 s2
            have hbs := hb2.size
            have KALL := Lib.hid (fun w2 (h : Below wo.heap.size wo w2) => show w2.cell? ⟨b, off + k * 3, none⟩ = some (.string key) ∧ w2.cell? ⟨b, off + k * 3 + 1, none⟩ = some (.string val) ∧ w2.cell? ⟨b, off + k * 3 + 2, none⟩ = some (.bool gone) ∧ w2.cell? ⟨b3, off3 + j * 3, none⟩ = some (.string yk) ∧ w2.cell? ⟨b3, off3 + j * 3 + 1, none⟩ = some (.string yv) ∧ w2.cell? ⟨b3, off3 + j * 3 + 2, none⟩ = some (.bool yg) from ⟨(h.cell (p := ⟨b, off + k * 3, none⟩) hblt).trans d0, (h.cell (p := ⟨b, off + k * 3 + 1, none⟩) hblt).trans d1, (h.cell (p := ⟨b, off + k * 3 + 2, none⟩) hblt).trans d2, (h.cell (p := ⟨b3, off3 + j * 3, none⟩) hblt3).trans e0, (h.cell (p := ⟨b3, off3 + j * 3 + 1, none⟩) hblt3).trans e1, (h.cell (p := ⟨b3, off3 + j * 3 + 2, none⟩) hblt3).trans e2⟩)
            clear d0 d1 d2 e0 e1 e2
            obtain ⟨d0, d1, d2, e0, e1, e2⟩ := KALL.out wr hb2
            have OWN := Lib.hid (fun w2 (h : Below wr.heap.size wr w2) => own_below HO2.out h)
            have B2 := Lib.hid (fun w2 (h : Below wr.heap.size wr w2) => show Below wo.heap.size wo w2 ∧ wo.heap.size ≤ w2.heap.size from ⟨hb2.trans (h.mono hbs), Nat.le_trans hbs h.size⟩)
            cases bb with
            | true =>
              by_cases he : cmpB yk key = 0
              · skip
                rw [decide_eq_true he] at E1
                rw [if_pos rfl, if_pos he, Bool.true_or, List.nil_append, List.nil_append] at HFF
                have HG := Lib.hid HFF
                clear HFF L1 he
                go_wp2
                go_quiet (fail)
                have q_W1 : Below wr.heap.size wr (wr.drewN nq) := (Below.refl _ _).trans (below_drewN (Below.refl _ _) nq)
                generalize wr.drewN nq = W1 at *
                clear d0 d1 d2 e0 e1 e2
                obtain ⟨d0, d1, d2, e0, e1, e2⟩ := KALL.out W1 (B2.out _ q_W1).1
                go_wp2
                go_quiet (fail)
                have q_W2 : Below wr.heap.size wr (W1.drewN nq) := (q_W1).trans (below_drewN (Below.refl _ _) nq)
                generalize W1.drewN nq = W2 at *
                clear d0 d1 d2 e0 e1 e2
                obtain ⟨d0, d1, d2, e0, e1, e2⟩ := KALL.out W2 (B2.out _ q_W2).1
                go_wp2
                refine ⟨⟨j + 1, nl, true, nA, nc, by omega, by go_num, rfl, rfl, OWN.out _ q_W2, by omega, HG.out, (B2.out _ q_W2).1⟩, by simp [intOf]; omega⟩
              · skip
                rw [decide_eq_false he] at E1
                rw [if_pos rfl, if_neg he, Bool.true_or, List.nil_append, ← List.append_assoc] at HFF
                have HG := Lib.hid HFF
                clear HFF L1 he
                go_wp2
                go_quiet (fail)
                have q_W1 : Below wr.heap.size wr (wr.drewN nq) := (Below.refl _ _).trans (below_drewN (Below.refl _ _) nq)
                generalize wr.drewN nq = W1 at *
                clear d0 d1 d2 e0 e1 e2
                obtain ⟨d0, d1, d2, e0, e1, e2⟩ := KALL.out W1 (B2.out _ q_W1).1
                go_wp2
                go_quiet (fail)
                have q_W2 : Below wr.heap.size wr (W1.drewN nq) := (q_W1).trans (below_drewN (Below.refl _ _) nq)
                generalize W1.drewN nq = W2 at *
                clear d0 d1 d2 e0 e1 e2
                obtain ⟨d0, d1, d2, e0, e1, e2⟩ := KALL.out W2 (B2.out _ q_W2).1
                have hs_W2 := (B2.out W2 q_W2).2
                have HO_W2 := Lib.hid (OWN.out W2 q_W2)
                go_wp2_with (at_builtin; (refine wpList_append_lies _ rfl _ _ 36 rfl wo.heap.size 60 inf (.agg #[.string ByteArray.empty, .string ByteArray.empty, .bool false]) 3 40 Try.underlying36 hinf hz0 hz1 hz2 rfl (by decide) (.slice nA nl.length nc) nl.length (chCells (nl)) rfl (World.ownsRow.alloc HO_W2.out _) ⟨W2.heap.size, 0, none⟩ 1 1 [.string yk, .string yv, .bool yg] rfl rfl (World.news_of_block (cs := #[.string yk, .string yv, .bool yg]) (t := 60) (fr := (0, 0)) (heap_alloc_new W2 _)) (by simp [Value.oneCell']) (by omega) (by unfold maxLen; omega) (by omega) (by simp; omega) (W2.heap.size + 1) (by simp) ?_); intro ggw4 capw4 w4 hOw4 hgw4 hatw4 hltw4; have HFw4 := Lib.hid (own_snoc ⟨yk, yv, yg⟩ (World.ownsRow.alloc HO_W2.out _) hs_W2 hOw4 hgw4); clear hOw4 hgw4 hatw4 hltw4)
                go_wp2
                refine ⟨⟨j + 1, nl ++ [(⟨yk, yv, yg⟩ : Ch)], true, some ⟨ggw4, 0, none⟩, capw4, by omega, by go_num, rfl, by simp, ?_, by simp; omega, HG, (B2.out _ q_W2).1.trans HFw4.out.2⟩, by simp [intOf]; omega⟩
                have := HFw4.out.1
                simpa using this
            | false =>
              by_cases hle : cmpB key yk ≤ 0
              · by_cases he : cmpB yk key = 0
                · skip
                  rw [decide_eq_true hle] at L1
                  rw [decide_eq_true he] at E1
                  rw [if_neg (by simp), if_pos hle, if_pos he, decide_eq_true hle] at HFF
                  have HG : Hid (nl ++ [(⟨key, val, gone⟩ : Ch)] ++ rgo ⟨key, val, gone⟩ (r.drop (j + 1)) true = rgo ⟨key, val, gone⟩ r gone) := Lib.hid (by simpa using HFF)
                  clear HFF he hle
                  go_wp2
                  go_quiet (fail)
                  have q_W1 : Below wr.heap.size wr (wr.drewN nq) := (Below.refl _ _).trans (below_drewN (Below.refl _ _) nq)
                  generalize wr.drewN nq = W1 at *
                  clear d0 d1 d2 e0 e1 e2
                  obtain ⟨d0, d1, d2, e0, e1, e2⟩ := KALL.out W1 (B2.out _ q_W1).1
                  have hs_W1 := (B2.out W1 q_W1).2
                  have HO_W1 := Lib.hid (OWN.out W1 q_W1)
                  go_wp2_with (at_builtin; (refine wpList_append_lies _ rfl _ _ 36 rfl wo.heap.size 60 inf (.agg #[.string ByteArray.empty, .string ByteArray.empty, .bool false]) 3 40 Try.underlying36 hinf hz0 hz1 hz2 rfl (by decide) (.slice nA nl.length nc) nl.length (chCells (nl)) rfl (World.ownsRow.alloc HO_W1.out _) ⟨W1.heap.size, 0, none⟩ 1 1 [.string key, .string val, .bool gone] rfl rfl (World.news_of_block (cs := #[.string key, .string val, .bool gone]) (t := 60) (fr := (0, 0)) (heap_alloc_new W1 _)) (by simp [Value.oneCell']) (by omega) (by unfold maxLen; omega) (by omega) (by simp; omega) (W1.heap.size + 1) (by simp) ?_); intro ggw5 capw5 w5 hOw5 hgw5 hatw5 hltw5; have HFw5 := Lib.hid (own_snoc ⟨key, val, gone⟩ (World.ownsRow.alloc HO_W1.out _) hs_W1 hOw5 hgw5); clear hOw5 hgw5 hatw5 hltw5)
                  have hB5 : Below wo.heap.size wo w5 := (B2.out _ q_W1).1.trans HFw5.out.2
                  clear d0 d1 d2 e0 e1 e2
                  obtain ⟨d0, d1, d2, e0, e1, e2⟩ := KALL.out w5 hB5
                  go_wp2
                  go_quiet (fail)
                  have p_W6 : Below w5.heap.size w5 (w5.drewN nq) := below_drewN (Below.refl _ _) nq
                  generalize w5.drewN nq = W6 at *
                  clear d0 d1 d2 e0 e1 e2
                  have q_W6 : Below wo.heap.size wo W6 := hB5.trans (p_W6.mono hB5.size)
                  obtain ⟨d0, d1, d2, e0, e1, e2⟩ := KALL.out W6 q_W6
                  have HO_W6 := Lib.hid (own_below HFw5.out.1 p_W6)
                  have hs_W6 := q_W6.size
                  go_wp2
                  refine ⟨⟨j + 1, nl ++ [(⟨key, val, gone⟩ : Ch)], true, some ⟨ggw5, 0, none⟩, capw5, by omega, by go_num, rfl, by simp, ?_, by simp; omega, HG, q_W6⟩, by simp [intOf]; omega⟩
                  have := HO_W6.out
                  simpa using this
                · skip
                  rw [decide_eq_true hle] at L1
                  rw [decide_eq_false he] at E1
                  rw [if_neg (by simp), if_pos hle, if_neg he, decide_eq_true hle] at HFF
                  have HG : Hid (nl ++ [(⟨key, val, gone⟩ : Ch)] ++ [(⟨yk, yv, yg⟩ : Ch)] ++ rgo ⟨key, val, gone⟩ (r.drop (j + 1)) true = rgo ⟨key, val, gone⟩ r gone) := Lib.hid (by simpa using HFF)
                  clear HFF he hle
                  go_wp2
                  go_quiet (fail)
                  have q_W1 : Below wr.heap.size wr (wr.drewN nq) := (Below.refl _ _).trans (below_drewN (Below.refl _ _) nq)
                  generalize wr.drewN nq = W1 at *
                  clear d0 d1 d2 e0 e1 e2
                  obtain ⟨d0, d1, d2, e0, e1, e2⟩ := KALL.out W1 (B2.out _ q_W1).1
                  have hs_W1 := (B2.out W1 q_W1).2
                  have HO_W1 := Lib.hid (OWN.out W1 q_W1)
                  go_wp2_with (at_builtin; (refine wpList_append_lies _ rfl _ _ 36 rfl wo.heap.size 60 inf (.agg #[.string ByteArray.empty, .string ByteArray.empty, .bool false]) 3 40 Try.underlying36 hinf hz0 hz1 hz2 rfl (by decide) (.slice nA nl.length nc) nl.length (chCells (nl)) rfl (World.ownsRow.alloc HO_W1.out _) ⟨W1.heap.size, 0, none⟩ 1 1 [.string key, .string val, .bool gone] rfl rfl (World.news_of_block (cs := #[.string key, .string val, .bool gone]) (t := 60) (fr := (0, 0)) (heap_alloc_new W1 _)) (by simp [Value.oneCell']) (by omega) (by unfold maxLen; omega) (by omega) (by simp; omega) (W1.heap.size + 1) (by simp) ?_); intro ggw5 capw5 w5 hOw5 hgw5 hatw5 hltw5; have HFw5 := Lib.hid (own_snoc ⟨key, val, gone⟩ (World.ownsRow.alloc HO_W1.out _) hs_W1 hOw5 hgw5); clear hOw5 hgw5 hatw5 hltw5)
                  have hB5 : Below wo.heap.size wo w5 := (B2.out _ q_W1).1.trans HFw5.out.2
                  clear d0 d1 d2 e0 e1 e2
                  obtain ⟨d0, d1, d2, e0, e1, e2⟩ := KALL.out w5 hB5
                  go_wp2
                  go_quiet (fail)
                  have p_W6 : Below w5.heap.size w5 (w5.drewN nq) := below_drewN (Below.refl _ _) nq
                  generalize w5.drewN nq = W6 at *
                  clear d0 d1 d2 e0 e1 e2
                  have q_W6 : Below wo.heap.size wo W6 := hB5.trans (p_W6.mono hB5.size)
                  obtain ⟨d0, d1, d2, e0, e1, e2⟩ := KALL.out W6 q_W6
                  have HO_W6 := Lib.hid (own_below HFw5.out.1 p_W6)
                  have hs_W6 := q_W6.size
                  go_wp2_with (at_builtin; (refine wpList_append_lies _ rfl _ _ 36 rfl wo.heap.size 60 inf (.agg #[.string ByteArray.empty, .string ByteArray.empty, .bool false]) 3 40 Try.underlying36 hinf hz0 hz1 hz2 rfl (by decide) (.slice (some ⟨ggw5, 0, none⟩) (nl.length + 1) capw5) (nl.length + 1) (chCells (nl ++ [(⟨key, val, gone⟩ : Ch)])) rfl (World.ownsRow.alloc HO_W6.out _) ⟨W6.heap.size, 0, none⟩ 1 1 [.string yk, .string yv, .bool yg] rfl rfl (World.news_of_block (cs := #[.string yk, .string yv, .bool yg]) (t := 60) (fr := (0, 0)) (heap_alloc_new W6 _)) (by simp [Value.oneCell']) (by omega) (by unfold maxLen; omega) (by omega) (by simp; omega) (W6.heap.size + 1) (by simp) ?_); intro ggw7 capw7 w7 hOw7 hgw7 hatw7 hltw7; have HFw7 := Lib.hid (own_snoc ⟨yk, yv, yg⟩ (World.ownsRow.alloc HO_W6.out _) hs_W6 hOw7 hgw7); clear hOw7 hgw7 hatw7 hltw7)
                  go_wp2
                  refine ⟨⟨j + 1, nl ++ [(⟨key, val, gone⟩ : Ch)] ++ [(⟨yk, yv, yg⟩ : Ch)], true, some ⟨ggw7, 0, none⟩, capw7, by omega, by go_num, rfl, by simp, ?_, by simp; omega, HG, q_W6.trans HFw7.out.2⟩, by simp [intOf]; omega⟩
                  have := HFw7.out.1
                  simpa using this
              · skip
                have he : ¬ cmpB yk key = 0 := by rw [cmp_swap]; omega
                rw [decide_eq_false hle] at L1
                rw [decide_eq_false he] at E1
                rw [if_neg (by simp), if_neg hle, if_neg he, decide_eq_false hle] at HFF
                have HG : Hid (nl ++ [(⟨yk, yv, yg⟩ : Ch)] ++ rgo ⟨key, val, gone⟩ (r.drop (j + 1)) false = rgo ⟨key, val, gone⟩ r gone) := Lib.hid (by simpa using HFF)
                clear HFF he hle
                go_wp2
                go_quiet (fail)
                have q_W1 : Below wr.heap.size wr (wr.drewN nq) := (Below.refl _ _).trans (below_drewN (Below.refl _ _) nq)
                generalize wr.drewN nq = W1 at *
                clear d0 d1 d2 e0 e1 e2
                obtain ⟨d0, d1, d2, e0, e1, e2⟩ := KALL.out W1 (B2.out _ q_W1).1
                go_wp2
                go_quiet (fail)
                have q_W2 : Below wr.heap.size wr (W1.drewN nq) := (q_W1).trans (below_drewN (Below.refl _ _) nq)
                generalize W1.drewN nq = W2 at *
                clear d0 d1 d2 e0 e1 e2
                obtain ⟨d0, d1, d2, e0, e1, e2⟩ := KALL.out W2 (B2.out _ q_W2).1
                have hs_W2 := (B2.out W2 q_W2).2
                have HO_W2 := Lib.hid (OWN.out W2 q_W2)
                go_wp2_with (at_builtin; (refine wpList_append_lies _ rfl _ _ 36 rfl wo.heap.size 60 inf (.agg #[.string ByteArray.empty, .string ByteArray.empty, .bool false]) 3 40 Try.underlying36 hinf hz0 hz1 hz2 rfl (by decide) (.slice nA nl.length nc) nl.length (chCells (nl)) rfl (World.ownsRow.alloc HO_W2.out _) ⟨W2.heap.size, 0, none⟩ 1 1 [.string yk, .string yv, .bool yg] rfl rfl (World.news_of_block (cs := #[.string yk, .string yv, .bool yg]) (t := 60) (fr := (0, 0)) (heap_alloc_new W2 _)) (by simp [Value.oneCell']) (by omega) (by unfold maxLen; omega) (by omega) (by simp; omega) (W2.heap.size + 1) (by simp) ?_); intro ggw4 capw4 w4 hOw4 hgw4 hatw4 hltw4; have HFw4 := Lib.hid (own_snoc ⟨yk, yv, yg⟩ (World.ownsRow.alloc HO_W2.out _) hs_W2 hOw4 hgw4); clear hOw4 hgw4 hatw4 hltw4)
                go_wp2
                refine ⟨⟨j + 1, nl ++ [(⟨yk, yv, yg⟩ : Ch)], false, some ⟨ggw4, 0, none⟩, capw4, by omega, by go_num, rfl, by simp, ?_, by simp; omega, HG, (B2.out _ q_W2).1.trans HFw4.out.2⟩, by simp [intOf]; omega⟩
                have := HFw4.out.1
                simpa using this
          · skip
            obtain rfl : j = r.length := by omega
            have HFF := HF.out
            rw [List.drop_length, rgo] at HFF
            have hbs := hb2.size
            have hsw := HSR.out
            have hbw := Lib.hid (HBW.out.trans (hb2.mono hsw))
            obtain ⟨e0, e1, e2⟩ := KC.out _ hb2
            clear d0 d1 d2 HF
            cases bb with
            | true =>
              rw [if_pos rfl, List.append_nil] at HFF
              have HL := Lib.hid (show apAll ([] : List Ch) (l.take (k + 1)) = nl from HRG.out.trans HFF.symm)
              clear HFF
              go_wp2
              refine ⟨⟨k + 1, nA, nc, by omega, by go_num, by rw [HL.out], ?_, hbw.out⟩, by simp [intOf]; omega⟩
              rw [HL.out]; exact own_lower HO2.out hsw
            | false =>
              rw [if_neg (by simp)] at HFF
              have HL := Lib.hid (show apAll ([] : List Ch) (l.take (k + 1)) = nl ++ [⟨key, val, gone⟩] from HRG.out.trans HFF.symm)
              have HLN := Lib.hid (show (nl ++ [(⟨key, val, gone⟩ : Ch)]).length = nl.length + 1 by simp)
              clear HFF
              go_wp2_with (at_builtin; (refine wpList_append_lies _ rfl _ _ 36 rfl wo.heap.size 60 inf (.agg #[.string ByteArray.empty, .string ByteArray.empty, .bool false]) 3 40 Try.underlying36 hinf hz0 hz1 hz2 rfl (by decide) (.slice nA nl.length nc) nl.length (chCells (nl)) rfl (World.ownsRow.alloc HO2.out _) ⟨wr.heap.size, 0, none⟩ 1 1 [.string key, .string val, .bool gone] rfl rfl (World.news_of_block (cs := #[.string key, .string val, .bool gone]) (t := 60) (fr := (0, 0)) (heap_alloc_new wr _)) (by simp [Value.oneCell']) (by omega) (by unfold maxLen; omega) (by omega) (by simp; omega) (wr.heap.size + 1) (by simp) ?_); intro ggw8 capw8 w8 hOw8 hgw8 hatw8 hltw8; have HFw8 := Lib.hid (own_snoc ⟨key, val, gone⟩ (World.ownsRow.alloc HO2.out _) hbs hOw8 hgw8); clear hOw8 hgw8 hatw8 hltw8)
              go_wp2
              refine ⟨⟨k + 1, some ⟨ggw8, 0, none⟩, capw8, by omega, by go_num, by rw [HL.out, HLN.out], ?_, hbw.out.trans (HFw8.out.2.mono hsw)⟩, by simp [intOf]; omega⟩
              rw [HL.out, HLN.out]; exact own_lower HFw8.out.1 hsw
      · obtain rfl : k = l.length := by omega
        rw [List.take_length] at *
        have HO := Lib.hid hO
        clear hO hrl hrs hrz
        go_wp2
        go_ret
        exact ⟨_, _, rfl, HO.out, hb⟩
  | some ad =>
    have hnews : ∀ j u, (chCells m)[j]? = some u → w.cell? (ad.add j) = some u := by
      rcases hm.form with rfl | ⟨b, off, e, _⟩
      · intro j u hu; simp [chCells] at hu
      · simp only [Option.some.injEq] at e
        subst e
        exact hm.cells
    have HNEWS := Lib.hid hnews
    have H1 := Lib.hid (chCells_one m)
    clear hnews hm hA
    go_enter Try.func22, Try.ntmps22
    go_wp2_with (at_builtin; refine wpList_append_own _ rfl _ _ 36 rfl w.heap.size 60 inf _ 3 40 Try.underlying36 hinf hz0 hz1 hz2 rfl (by decide) _ _ _ rfl (World.ownsRow_nil w w.heap.size 60 3) ad m.length cA (chCells m) rfl (chCells_length m) HNEWS.out H1.out (by unfold maxLen; omega) (by omega) (Nat.le_refl _) ?_; intro v' w1 hown' hg1 hnil1)
    have hown2 : w1.ownsRow w.heap.size 60 3 v' m.length (chCells m) := by simpa using hown'
    have hb1 : Below w.heap.size w w1 := (Below.refl _ _).grown hg1 (Nat.le_refl _) (fun k hk => by cases hk)
    obtain ⟨A1, c1, hv⟩ := slice_form hown2
    subst hv
    have HO1 := Lib.hid hown2
    have HB1 := Lib.hid hb1
    clear hown' hown2 hg1 hnil1 hb1 HNEWS H1
    go_wp2
    go_loopw [5, 6] (fun v i w' => ∃ (k : Nat) (A' : Option Addr) (c' : Nat), k ≤ l.length ∧ i = .int .i64 k ∧ v = .slice A' (apAll m (l.take k)).length c' ∧ w'.ownsRow w.heap.size 60 3 (.slice A' (apAll m (l.take k)).length c') (apAll m (l.take k)).length (chCells (apAll m (l.take k))) ∧ Below w.heap.size w w') (fun _ i _ => l.length - (intOf i).toNat)
    case atStart => exact ⟨0, A1, c1, Nat.zero_le _, rfl, by simp [apAll], by simpa [apAll] using HO1.out, HB1.out⟩
    case round =>
      clear HO1 HB1
      obtain ⟨k, A', c', hk, rfl, rfl, hO, hb⟩ := hrel
      have hrl := apAll_len (l.take k) m
      rw [List.length_take, Nat.min_eq_left hk] at hrl
      have hrs : SortedCh (apAll m (l.take k)) := apAll_sorted _ HS.out
      have hrz : ∀ x ∈ apAll m (l.take k), x.key.size ≤ maxLen ∧ x.val.size ≤ maxLen := fun x hx => HM.out x ((apAll_mem hx).imp id (fun h => List.mem_of_mem_take h))
      by_cases hlt : k < l.length
      · obtain ⟨b, off, rfl, hblt, d0, d1, d2, s1, s2⟩ := (hl.below hb) k hlt
        have HNX := Lib.hid (show apAll m (l.take (k + 1)) = ap1 (apAll m (l.take k)) l[k] by rw [List.take_succ_eq_append_getElem hlt, apAll_snoc])
        generalize apAll m (l.take k) = r at *
        generalize l[k] = c at *
        have HRG := Lib.hid (show apAll m (l.take (k + 1)) = rgo c r c.gone by rw [HNX.out, rgo_ap1 c r hrs])
        have CH := Lib.hid (fun w2 (h : Below wr.heap.size wr w2) => (chs_own hO hrz).below h)
        obtain ⟨key, val, gone⟩ := c
        simp only [] at d0 d1 d2 HRG
        have KC := Lib.hid (fun w2 (h : Below wr.heap.size wr w2) => show w2.cell? ⟨b, off + k * 3, none⟩ = some (.string key) ∧ w2.cell? ⟨b, off + k * 3 + 1, none⟩ = some (.string val) ∧ w2.cell? ⟨b, off + k * 3 + 2, none⟩ = some (.bool gone) from ⟨(h.cell (p := ⟨b, off + k * 3, none⟩) hblt).trans d0, (h.cell (p := ⟨b, off + k * 3 + 1, none⟩) hblt).trans d1, (h.cell (p := ⟨b, off + k * 3 + 2, none⟩) hblt).trans d2⟩)
        have hszr := hb.size
        have HSR := Lib.hid hszr
        have HBW := Lib.hid hb
        have i1 : (k : Int) < (l.length : Int) := by omega
        have i0 : (0 : Int) ≤ (k : Int) := by omega
        have hr9 : r.length ≤ 1900 := by omega
        obtain ⟨wo, hwo⟩ : ∃ wo, wo = wr := ⟨_, rfl⟩
        subst hwo
        clear hO hrs hrz s1 s2 HNX hrl hb hszr
        go_wp2
        go_loopw [7, 8, 9] (fun nv lv i w' => ∃ (j : Nat) (nl : List Ch) (bb : Bool) (nA : Option Addr) (nc : Nat), j ≤ r.length ∧ i = .int .i64 j ∧ lv = .bool bb ∧ nv = .slice nA nl.length nc ∧ w'.ownsRow wo.heap.size 60 3 (.slice nA nl.length nc) nl.length (chCells nl) ∧ nl.length ≤ 2 * j ∧ Hid (nl ++ rgo ⟨key, val, gone⟩ (r.drop j) bb = rgo ⟨key, val, gone⟩ r gone) ∧ Below wo.heap.size wo w') (fun _ _ i _ => r.length - (intOf i).toNat)
        case atStart => exact ⟨0, [], gone, none, 0, Nat.zero_le _, rfl, rfl, rfl, World.ownsRow_nil _ _ _ _, by simp, Lib.hid (by simp), Below.refl _ _⟩
        case round =>
          clear d0 d1 d2
          obtain ⟨j, nl, bb, nA, nc, hj, rfl, rfl, rfl, hO2, hnl, HF, hb2⟩ := hrel
          obtain ⟨d0, d1, d2⟩ := KC.out _ (Below.refl _ _)
          have HO2 := Lib.hid hO2
          clear hO2
          by_cases hjl : j < r.length
          · obtain ⟨b3, off3, rfl, hblt3, e0, e1, e2, s1, s2⟩ := (CH.out _ (Below.refl _ _)) j hjl
            have hdr : r.drop j = r[j] :: r.drop (j + 1) := List.drop_eq_getElem_cons hjl
            have HFF := HF.out
            rw [hdr, rgo] at HFF
            have j1 : (j : Int) < (r.length : Int) := by omega
            have j0 : (0 : Int) ≤ (j : Int) := by omega
            generalize r[j] = y at *
            have L1 := leq_cmp key y.key
            have E1 := eq_cmp y.key key
            obtain ⟨yk, yv, yg⟩ := y
            simp only [] at e0 e1 e2 L1 E1 HFF
            clear hdr HF s1 s2
            have hbs := hb2.size
            have KALL := Lib.hid (fun w2 (h : Below wo.heap.size wo w2) => show w2.cell? ⟨b, off + k * 3, none⟩ = some (.string key) ∧ w2.cell? ⟨b, off + k * 3 + 1, none⟩ = some (.string val) ∧ w2.cell? ⟨b, off + k * 3 + 2, none⟩ = some (.bool gone) ∧ w2.cell? ⟨b3, off3 + j * 3, none⟩ = some (.string yk) ∧ w2.cell? ⟨b3, off3 + j * 3 + 1, none⟩ = some (.string yv) ∧ w2.cell? ⟨b3, off3 + j * 3 + 2, none⟩ = some (.bool yg) from ⟨(h.cell (p := ⟨b, off + k * 3, none⟩) hblt).trans d0, (h.cell (p := ⟨b, off + k * 3 + 1, none⟩) hblt).trans d1, (h.cell (p := ⟨b, off + k * 3 + 2, none⟩) hblt).trans d2, (h.cell (p := ⟨b3, off3 + j * 3, none⟩) hblt3).trans e0, (h.cell (p := ⟨b3, off3 + j * 3 + 1, none⟩) hblt3).trans e1, (h.cell (p := ⟨b3, off3 + j * 3 + 2, none⟩) hblt3).trans e2⟩)
            clear d0 d1 d2 e0 e1 e2
            obtain ⟨d0, d1, d2, e0, e1, e2⟩ := KALL.out wr hb2
            have OWN := Lib.hid (fun w2 (h : Below wr.heap.size wr w2) => own_below HO2.out h)
            have B2 := Lib.hid (fun w2 (h : Below wr.heap.size wr w2) => show Below wo.heap.size wo w2 ∧ wo.heap.size ≤ w2.heap.size from ⟨hb2.trans (h.mono hbs), Nat.le_trans hbs h.size⟩)
            cases bb with
            | true =>
              by_cases he : cmpB yk key = 0
              · skip
                rw [decide_eq_true he] at E1
                rw [if_pos rfl, if_pos he, Bool.true_or, List.nil_append, List.nil_append] at HFF
                have HG := Lib.hid HFF
                clear HFF L1 he
                go_wp2
                go_quiet (fail)
                have q_W1 : Below wr.heap.size wr (wr.drewN nq) := (Below.refl _ _).trans (below_drewN (Below.refl _ _) nq)
                generalize wr.drewN nq = W1 at *
                clear d0 d1 d2 e0 e1 e2
                obtain ⟨d0, d1, d2, e0, e1, e2⟩ := KALL.out W1 (B2.out _ q_W1).1
                go_wp2
                go_quiet (fail)
                have q_W2 : Below wr.heap.size wr (W1.drewN nq) := (q_W1).trans (below_drewN (Below.refl _ _) nq)
                generalize W1.drewN nq = W2 at *
                clear d0 d1 d2 e0 e1 e2
                obtain ⟨d0, d1, d2, e0, e1, e2⟩ := KALL.out W2 (B2.out _ q_W2).1
                go_wp2
                refine ⟨⟨j + 1, nl, true, nA, nc, by omega, by go_num, rfl, rfl, OWN.out _ q_W2, by omega, HG.out, (B2.out _ q_W2).1⟩, by simp [intOf]; omega⟩
              · skip
                rw [decide_eq_false he] at E1
                rw [if_pos rfl, if_neg he, Bool.true_or, List.nil_append, ← List.append_assoc] at HFF
                have HG := Lib.hid HFF
                clear HFF L1 he
                go_wp2
                go_quiet (fail)
                have q_W1 : Below wr.heap.size wr (wr.drewN nq) := (Below.refl _ _).trans (below_drewN (Below.refl _ _) nq)
                generalize wr.drewN nq = W1 at *
                clear d0 d1 d2 e0 e1 e2
                obtain ⟨d0, d1, d2, e0, e1, e2⟩ := KALL.out W1 (B2.out _ q_W1).1
                go_wp2
                go_quiet (fail)
                have q_W2 : Below wr.heap.size wr (W1.drewN nq) := (q_W1).trans (below_drewN (Below.refl _ _) nq)
                generalize W1.drewN nq = W2 at *
                clear d0 d1 d2 e0 e1 e2
                obtain ⟨d0, d1, d2, e0, e1, e2⟩ := KALL.out W2 (B2.out _ q_W2).1
                have hs_W2 := (B2.out W2 q_W2).2
                have HO_W2 := Lib.hid (OWN.out W2 q_W2)
                go_wp2_with (at_builtin; (refine wpList_append_lies _ rfl _ _ 36 rfl wo.heap.size 60 inf (.agg #[.string ByteArray.empty, .string ByteArray.empty, .bool false]) 3 40 Try.underlying36 hinf hz0 hz1 hz2 rfl (by decide) (.slice nA nl.length nc) nl.length (chCells (nl)) rfl (World.ownsRow.alloc HO_W2.out _) ⟨W2.heap.size, 0, none⟩ 1 1 [.string yk, .string yv, .bool yg] rfl rfl (World.news_of_block (cs := #[.string yk, .string yv, .bool yg]) (t := 60) (fr := (0, 0)) (heap_alloc_new W2 _)) (by simp [Value.oneCell']) (by omega) (by unfold maxLen; omega) (by omega) (by simp; omega) (W2.heap.size + 1) (by simp) ?_); intro ggw4 capw4 w4 hOw4 hgw4 hatw4 hltw4; have HFw4 := Lib.hid (own_snoc ⟨yk, yv, yg⟩ (World.ownsRow.alloc HO_W2.out _) hs_W2 hOw4 hgw4); clear hOw4 hgw4 hatw4 hltw4)
                go_wp2
                refine ⟨⟨j + 1, nl ++ [(⟨yk, yv, yg⟩ : Ch)], true, some ⟨ggw4, 0, none⟩, capw4, by omega, by go_num, rfl, by simp, ?_, by simp; omega, HG, (B2.out _ q_W2).1.trans HFw4.out.2⟩, by simp [intOf]; omega⟩
                have := HFw4.out.1
                simpa using this
            | false =>
              by_cases hle : cmpB key yk ≤ 0
              · by_cases he : cmpB yk key = 0
                · skip
                  rw [decide_eq_true hle] at L1
                  rw [decide_eq_true he] at E1
                  rw [if_neg (by simp), if_pos hle, if_pos he, decide_eq_true hle] at HFF
                  have HG : Hid (nl ++ [(⟨key, val, gone⟩ : Ch)] ++ rgo ⟨key, val, gone⟩ (r.drop (j + 1)) true = rgo ⟨key, val, gone⟩ r gone) := Lib.hid (by simpa using HFF)
                  clear HFF he hle
                  go_wp2
                  go_quiet (fail)
                  have q_W1 : Below wr.heap.size wr (wr.drewN nq) := (Below.refl _ _).trans (below_drewN (Below.refl _ _) nq)
                  generalize wr.drewN nq = W1 at *
                  clear d0 d1 d2 e0 e1 e2
                  obtain ⟨d0, d1, d2, e0, e1, e2⟩ := KALL.out W1 (B2.out _ q_W1).1
                  have hs_W1 := (B2.out W1 q_W1).2
                  have HO_W1 := Lib.hid (OWN.out W1 q_W1)
                  go_wp2_with (at_builtin; (refine wpList_append_lies _ rfl _ _ 36 rfl wo.heap.size 60 inf (.agg #[.string ByteArray.empty, .string ByteArray.empty, .bool false]) 3 40 Try.underlying36 hinf hz0 hz1 hz2 rfl (by decide) (.slice nA nl.length nc) nl.length (chCells (nl)) rfl (World.ownsRow.alloc HO_W1.out _) ⟨W1.heap.size, 0, none⟩ 1 1 [.string key, .string val, .bool gone] rfl rfl (World.news_of_block (cs := #[.string key, .string val, .bool gone]) (t := 60) (fr := (0, 0)) (heap_alloc_new W1 _)) (by simp [Value.oneCell']) (by omega) (by unfold maxLen; omega) (by omega) (by simp; omega) (W1.heap.size + 1) (by simp) ?_); intro ggw5 capw5 w5 hOw5 hgw5 hatw5 hltw5; have HFw5 := Lib.hid (own_snoc ⟨key, val, gone⟩ (World.ownsRow.alloc HO_W1.out _) hs_W1 hOw5 hgw5); clear hOw5 hgw5 hatw5 hltw5)
                  have hB5 : Below wo.heap.size wo w5 := (B2.out _ q_W1).1.trans HFw5.out.2
                  clear d0 d1 d2 e0 e1 e2
                  obtain ⟨d0, d1, d2, e0, e1, e2⟩ := KALL.out w5 hB5
                  go_wp2
                  go_quiet (fail)
                  have p_W6 : Below w5.heap.size w5 (w5.drewN nq) := below_drewN (Below.refl _ _) nq
                  generalize w5.drewN nq = W6 at *
                  clear d0 d1 d2 e0 e1 e2
                  have q_W6 : Below wo.heap.size wo W6 := hB5.trans (p_W6.mono hB5.size)
                  obtain ⟨d0, d1, d2, e0, e1, e2⟩ := KALL.out W6 q_W6
                  have HO_W6 := Lib.hid (own_below HFw5.out.1 p_W6)
                  have hs_W6 := q_W6.size
                  go_wp2
                  refine ⟨⟨j + 1, nl ++ [(⟨key, val, gone⟩ : Ch)], true, some ⟨ggw5, 0, none⟩, capw5, by omega, by go_num, rfl, by simp, ?_, by simp; omega, HG, q_W6⟩, by simp [intOf]; omega⟩
                  have := HO_W6.out
                  simpa using this
                · skip
                  rw [decide_eq_true hle] at L1
                  rw [decide_eq_false he] at E1
                  rw [if_neg (by simp), if_pos hle, if_neg he, decide_eq_true hle] at HFF
                  have HG : Hid (nl ++ [(⟨key, val, gone⟩ : Ch)] ++ [(⟨yk, yv, yg⟩ : Ch)] ++ rgo ⟨key, val, gone⟩ (r.drop (j + 1)) true = rgo ⟨key, val, gone⟩ r gone) := Lib.hid (by simpa using HFF)
                  clear HFF he hle
                  go_wp2
                  go_quiet (fail)
                  have q_W1 : Below wr.heap.size wr (wr.drewN nq) := (Below.refl _ _).trans (below_drewN (Below.refl _ _) nq)
                  generalize wr.drewN nq = W1 at *
                  clear d0 d1 d2 e0 e1 e2
                  obtain ⟨d0, d1, d2, e0, e1, e2⟩ := KALL.out W1 (B2.out _ q_W1).1
                  have hs_W1 := (B2.out W1 q_W1).2
                  have HO_W1 := Lib.hid (OWN.out W1 q_W1)
                  go_wp2_with (at_builtin; (refine wpList_append_lies _ rfl _ _ 36 rfl wo.heap.size 60 inf (.agg #[.string ByteArray.empty, .string ByteArray.empty, .bool false]) 3 40 Try.underlying36 hinf hz0 hz1 hz2 rfl (by decide) (.slice nA nl.length nc) nl.length (chCells (nl)) rfl (World.ownsRow.alloc HO_W1.out _) ⟨W1.heap.size, 0, none⟩ 1 1 [.string key, .string val, .bool gone] rfl rfl (World.news_of_block (cs := #[.string key, .string val, .bool gone]) (t := 60) (fr := (0, 0)) (heap_alloc_new W1 _)) (by simp [Value.oneCell']) (by omega) (by unfold maxLen; omega) (by omega) (by simp; omega) (W1.heap.size + 1) (by simp) ?_); intro ggw5 capw5 w5 hOw5 hgw5 hatw5 hltw5; have HFw5 := Lib.hid (own_snoc ⟨key, val, gone⟩ (World.ownsRow.alloc HO_W1.out _) hs_W1 hOw5 hgw5); clear hOw5 hgw5 hatw5 hltw5)
                  have hB5 : Below wo.heap.size wo w5 := (B2.out _ q_W1).1.trans HFw5.out.2
                  clear d0 d1 d2 e0 e1 e2
                  obtain ⟨d0, d1, d2, e0, e1, e2⟩ := KALL.out w5 hB5
                  go_wp2
                  go_quiet (fail)
                  have p_W6 : Below w5.heap.size w5 (w5.drewN nq) := below_drewN (Below.refl _ _) nq
                  generalize w5.drewN nq = W6 at *
                  clear d0 d1 d2 e0 e1 e2
                  have q_W6 : Below wo.heap.size wo W6 := hB5.trans (p_W6.mono hB5.size)
                  obtain ⟨d0, d1, d2, e0, e1, e2⟩ := KALL.out W6 q_W6
                  have HO_W6 := Lib.hid (own_below HFw5.out.1 p_W6)
                  have hs_W6 := q_W6.size
                  go_wp2_with (at_builtin; (refine wpList_append_lies _ rfl _ _ 36 rfl wo.heap.size 60 inf (.agg #[.string ByteArray.empty, .string ByteArray.empty, .bool false]) 3 40 Try.underlying36 hinf hz0 hz1 hz2 rfl (by decide) (.slice (some ⟨ggw5, 0, none⟩) (nl.length + 1) capw5) (nl.length + 1) (chCells (nl ++ [(⟨key, val, gone⟩ : Ch)])) rfl (World.ownsRow.alloc HO_W6.out _) ⟨W6.heap.size, 0, none⟩ 1 1 [.string yk, .string yv, .bool yg] rfl rfl (World.news_of_block (cs := #[.string yk, .string yv, .bool yg]) (t := 60) (fr := (0, 0)) (heap_alloc_new W6 _)) (by simp [Value.oneCell']) (by omega) (by unfold maxLen; omega) (by omega) (by simp; omega) (W6.heap.size + 1) (by simp) ?_); intro ggw7 capw7 w7 hOw7 hgw7 hatw7 hltw7; have HFw7 := Lib.hid (own_snoc ⟨yk, yv, yg⟩ (World.ownsRow.alloc HO_W6.out _) hs_W6 hOw7 hgw7); clear hOw7 hgw7 hatw7 hltw7)
                  go_wp2
                  refine ⟨⟨j + 1, nl ++ [(⟨key, val, gone⟩ : Ch)] ++ [(⟨yk, yv, yg⟩ : Ch)], true, some ⟨ggw7, 0, none⟩, capw7, by omega, by go_num, rfl, by simp, ?_, by simp; omega, HG, q_W6.trans HFw7.out.2⟩, by simp [intOf]; omega⟩
                  have := HFw7.out.1
                  simpa using this
              · skip
                have he : ¬ cmpB yk key = 0 := by rw [cmp_swap]; omega
                rw [decide_eq_false hle] at L1
                rw [decide_eq_false he] at E1
                rw [if_neg (by simp), if_neg hle, if_neg he, decide_eq_false hle] at HFF
                have HG : Hid (nl ++ [(⟨yk, yv, yg⟩ : Ch)] ++ rgo ⟨key, val, gone⟩ (r.drop (j + 1)) false = rgo ⟨key, val, gone⟩ r gone) := Lib.hid (by simpa using HFF)
                clear HFF he hle
                go_wp2
                go_quiet (fail)
                have q_W1 : Below wr.heap.size wr (wr.drewN nq) := (Below.refl _ _).trans (below_drewN (Below.refl _ _) nq)
                generalize wr.drewN nq = W1 at *
                clear d0 d1 d2 e0 e1 e2
                obtain ⟨d0, d1, d2, e0, e1, e2⟩ := KALL.out W1 (B2.out _ q_W1).1
                go_wp2
                go_quiet (fail)
                have q_W2 : Below wr.heap.size wr (W1.drewN nq) := (q_W1).trans (below_drewN (Below.refl _ _) nq)
                generalize W1.drewN nq = W2 at *
                clear d0 d1 d2 e0 e1 e2
                obtain ⟨d0, d1, d2, e0, e1, e2⟩ := KALL.out W2 (B2.out _ q_W2).1
                have hs_W2 := (B2.out W2 q_W2).2
                have HO_W2 := Lib.hid (OWN.out W2 q_W2)
                go_wp2_with (at_builtin; (refine wpList_append_lies _ rfl _ _ 36 rfl wo.heap.size 60 inf (.agg #[.string ByteArray.empty, .string ByteArray.empty, .bool false]) 3 40 Try.underlying36 hinf hz0 hz1 hz2 rfl (by decide) (.slice nA nl.length nc) nl.length (chCells (nl)) rfl (World.ownsRow.alloc HO_W2.out _) ⟨W2.heap.size, 0, none⟩ 1 1 [.string yk, .string yv, .bool yg] rfl rfl (World.news_of_block (cs := #[.string yk, .string yv, .bool yg]) (t := 60) (fr := (0, 0)) (heap_alloc_new W2 _)) (by simp [Value.oneCell']) (by omega) (by unfold maxLen; omega) (by omega) (by simp; omega) (W2.heap.size + 1) (by simp) ?_); intro ggw4 capw4 w4 hOw4 hgw4 hatw4 hltw4; have HFw4 := Lib.hid (own_snoc ⟨yk, yv, yg⟩ (World.ownsRow.alloc HO_W2.out _) hs_W2 hOw4 hgw4); clear hOw4 hgw4 hatw4 hltw4)
                go_wp2
                refine ⟨⟨j + 1, nl ++ [(⟨yk, yv, yg⟩ : Ch)], false, some ⟨ggw4, 0, none⟩, capw4, by omega, by go_num, rfl, by simp, ?_, by simp; omega, HG, (B2.out _ q_W2).1.trans HFw4.out.2⟩, by simp [intOf]; omega⟩
                have := HFw4.out.1
                simpa using this
          · skip
            obtain rfl : j = r.length := by omega
            have HFF := HF.out
            rw [List.drop_length, rgo] at HFF
            have hbs := hb2.size
            have hsw := HSR.out
            have hbw := Lib.hid (HBW.out.trans (hb2.mono hsw))
            obtain ⟨e0, e1, e2⟩ := KC.out _ hb2
            clear d0 d1 d2 HF
            cases bb with
            | true =>
              rw [if_pos rfl, List.append_nil] at HFF
              have HL := Lib.hid (show apAll m (l.take (k + 1)) = nl from HRG.out.trans HFF.symm)
              clear HFF
              go_wp2
              refine ⟨⟨k + 1, nA, nc, by omega, by go_num, by rw [HL.out], ?_, hbw.out⟩, by simp [intOf]; omega⟩
              rw [HL.out]; exact own_lower HO2.out hsw
            | false =>
              rw [if_neg (by simp)] at HFF
              have HL := Lib.hid (show apAll m (l.take (k + 1)) = nl ++ [⟨key, val, gone⟩] from HRG.out.trans HFF.symm)
              have HLN := Lib.hid (show (nl ++ [(⟨key, val, gone⟩ : Ch)]).length = nl.length + 1 by simp)
              clear HFF
              go_wp2_with (at_builtin; (refine wpList_append_lies _ rfl _ _ 36 rfl wo.heap.size 60 inf (.agg #[.string ByteArray.empty, .string ByteArray.empty, .bool false]) 3 40 Try.underlying36 hinf hz0 hz1 hz2 rfl (by decide) (.slice nA nl.length nc) nl.length (chCells (nl)) rfl (World.ownsRow.alloc HO2.out _) ⟨wr.heap.size, 0, none⟩ 1 1 [.string key, .string val, .bool gone] rfl rfl (World.news_of_block (cs := #[.string key, .string val, .bool gone]) (t := 60) (fr := (0, 0)) (heap_alloc_new wr _)) (by simp [Value.oneCell']) (by omega) (by unfold maxLen; omega) (by omega) (by simp; omega) (wr.heap.size + 1) (by simp) ?_); intro ggw8 capw8 w8 hOw8 hgw8 hatw8 hltw8; have HFw8 := Lib.hid (own_snoc ⟨key, val, gone⟩ (World.ownsRow.alloc HO2.out _) hbs hOw8 hgw8); clear hOw8 hgw8 hatw8 hltw8)
              go_wp2
              refine ⟨⟨k + 1, some ⟨ggw8, 0, none⟩, capw8, by omega, by go_num, by rw [HL.out, HLN.out], ?_, hbw.out.trans (HFw8.out.2.mono hsw)⟩, by simp [intOf]; omega⟩
              rw [HL.out, HLN.out]; exact own_lower HFw8.out.1 hsw
      · obtain rfl : k = l.length := by omega
        rw [List.take_length] at *
        have HO := Lib.hid hO
        clear hO hrl hrs hrz
        go_wp2
        go_ret
        exact ⟨_, _, rfl, HO.out, hb⟩
end Go.Proofs.Ythhedahfmllnoaa
