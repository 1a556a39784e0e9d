/- counterfoiltop.indexed, counterfoiltop.rooted. -/
import Derived.Test.YtnnnmpfkpckgbaaIdxF
import Derived.Test.YtnnnmpfkpckgbaaIdx6
import Derived.Test.YtnnnmpfkpckgbaaLight
namespace Go.Proofs.Ytnnnmpfkpckgbaa
open Go.RowKit Go.Maps

theorem andBig (x : Int) : 0 ≤ bits .and .i64 x 1023 ∧ bits .and .i64 x 1023 ≤ 1023 := by
  have h : (BitVec.ofInt 64 x &&& BitVec.ofInt 64 1023).toNat ≤ 1023 := by
    rw [BitVec.toNat_and]
    exact Nat.and_le_right
  have e : bits .and .i64 x 1023 = IntKind.i64.wrap ((BitVec.ofInt 64 x &&& BitVec.ofInt 64 1023).toNat : Int) := rfl
  rw [e, IntWalk.i64_in _ (by omega)]
  omega

/-- Roots as numbers. -/
def intsOf (l : List Nat) : List Int := l.map fun n => ((n : Nat) : Int)
theorem intsOf_len (l : List Nat) : (intsOf l).length = l.length := by simp [intsOf]
/-- The roots that are something. -/
def rootsOf (l : List Nat) : List Nat := l.filter fun n => decide (n ≠ 0)
theorem rootsOf_snoc (l : List Nat) (n : Nat) : (opt n (rootsOf l)).Perm (rootsOf (l ++ [n])) := by
  unfold rootsOf opt
  rw [List.filter_append]
  by_cases h : n = 0
  · subst h; simp
  · rw [if_neg h]
    simp only [List.filter_cons, List.filter_nil]
    rw [if_pos (by simpa using h)]
    exact (List.perm_append_singleton _ _).symm
theorem mem_rootsOf {l : List Nat} {n : Nat} (h : n ∈ l) : n = 0 ∨ n ∈ rootsOf l := by
  by_cases e : n = 0
  · exact .inl e
  · exact .inr (List.mem_filter.2 ⟨h, by simpa using e⟩)

theorem turn_cell {bs : List Nat} {w w' : World} (h : Turn bs w w') (hm : ∀ b ∈ bs, ∃ es c, w.heap[b]? = some (.map es c)) {a : Addr} {v : Value} (hc : w.cell? a = some v) : w'.cell? a = some v := by
  have hlt := World.block_lt_of_cell? w a hc
  rw [World.cell?_of_block (w := w) (h.block a.block hlt fun hb => ?_)]
  · exact hc
  · obtain ⟨es, c, e⟩ := hm _ hb
    simp [World.cell?, e] at hc

theorem OwnInts.turn {w w' : World} {base : Nat} {v : Value} {l : List Int} {bs : List Nat} (h : OwnInts w base v l) (ht : Turn bs w w') (hm : ∀ b ∈ bs, ∃ es c, w.heap[b]? = some (.map es c)) : OwnInts w' base v l := by
  obtain ⟨h1, h2⟩ := h
  refine ⟨h1, ?_⟩
  rcases h2 with h2 | ⟨g, cap, cur, hv, hg, hh, r⟩
  · exact .inl h2
  · exact .inr ⟨g, cap, cur, hv, hg, turn_row ht hh hm, r⟩
theorem ownInts_one (w : World) (base : Nat) (hb : base ≤ w.heap.size) (x : Int) : OwnInts (w.alloc (.cells #[.int .i64 x] 3)) base (.slice (some ⟨w.heap.size, 0, none⟩) 1 1) [x] := by
  refine ⟨rfl, .inr ⟨w.heap.size, 1, #[.int .i64 x], rfl, hb, heap_alloc_new w _, Nat.le_refl _, by unfold maxLen; omega, rfl, rfl⟩⟩

/-- An index stays while a row of numbers grows. -/
theorem IdxAt.grownRow {w w' : World} {x gp bp bn K : Nat} {X : IdxM} (h : IdxAt w x gp bp bn K X) {v : Value} (hg : w.grownBy w' v.ownBlock) {w0 : World} {base : Nat} {l : List Int} (hO : OwnInts w0 base v l) (hsame : ∀ g, v.ownBlock = some g → w.heap[g]? = w0.heap[g]?) : IdxAt w' x gp bp bn K X := by
  have ne : ∀ k, (∀ cur, w.heap[k]? ≠ some (.cells cur 3 (0, 0))) → some k ≠ v.ownBlock := fun k hk e => by
    rcases hO.2 with ⟨rfl, _⟩ | ⟨g, cap, cur, rfl, _, hh, _⟩
    · cases e
    · have e : k = g := by simpa [Value.ownBlock] using e
      subst e
      exact hk cur (by rw [hsame k rfl]; exact hh)
  refine ⟨(hg.block x h.lt (ne x fun cur e => by rw [h.row] at e; injection e with e; injection e with _ e _; exact absurd e (by decide))).trans h.row, h.pool.keep (hg.block gp h.pool.lt (ne gp fun cur e => by rw [h.pool.row] at e; injection e with e; injection e with _ e _; exact absurd e (by decide))) (hg.block bp h.pool.ltb (ne bp fun cur e => by obtain ⟨es, c, e'⟩ := h.pool.map.ismap; rw [e'] at e; cases e)), h.map.keep (hg.block bn h.ltn (ne bn fun cur e => by obtain ⟨es, c, e'⟩ := h.map.ismap; rw [e'] at e; cases e)), h.ne, h.ok⟩

/-- Set, its answers named. -/
theorem idxSet_e (w : World) (x gp bp bn K : Nat) (X : IdxM) (root at_ : Nat) (data : ByteArray) (X' : IdxM) (n : Nat) (ne : Int) (h : IdxAt w x gp bp bn K X) (hr : root ≤ 1000) (ha : at_ < 16) (hK : K ≤ 100000) (hdata : data.size ≤ 9223372036854775807) (hS : setX X root at_ data = (X', n, ne)) :
    Calls Try.prog 14 #[.pointer (some ⟨x, 0, none⟩), .int .i64 root, .int .i64 at_, .string data] w (IdxRet w x gp bp bn (K + 11) X' (.tuple #[.int .i64 n, errV ne])) := by
  have := idxSet_any w x gp bp bn K X root at_ data h hr ha hK hdata
  rw [hS] at this
  exact this
theorem trip {α β γ : Type} (s : α × β × γ) : ∃ a b c, s = (a, b, c) := ⟨s.1, s.2.1, s.2.2, rfl⟩

/-- What rooted answers. -/
def RootedRet (w : World) (e : Ending) (w' : World) : Prop :=
  (e = .returned (.tuple #[.pointer none, .slice none 0 0, .bool false]) ∧ Below w.heap.size w w') ∨
  ∃ x gp bp bn X RL v, e = .returned (.tuple #[.pointer (some ⟨x, 0, none⟩), v, .bool true]) ∧ IdxAt w' x gp bp bn 1000 X ∧ Inv X (rootsOf RL) [] [] ∧ OwnInts w' w.heap.size v (intsOf RL) ∧ RL ≠ [] ∧ RL.length ≤ 61 ∧ (∀ n ∈ RL, n ≤ 24) ∧
    w.heap.size ≤ x ∧ w.heap.size ≤ gp ∧ w.heap.size ≤ bp ∧ w.heap.size ≤ bn ∧ Below w.heap.size w w'

set_option maxHeartbeats 4000000 in
set_option maxRecDepth 100000 in
theorem rooted_any (A : Option Addr) (cA : Nat) (l : List ActM) (w : World) (hA : ActsAt w w.heap.size A l) (hl : l.length ≤ 60) :
    Calls Try.prog 10 #[.slice A l.length cA] w (RootedRet w) := by
  obtain ⟨i0, hi, hz0, hz1, hz2⟩ := info_parts Try.infoInt
  go_enter Try.func10, Try.ntmps10
  go_wp2_with fail
  ((with_reducible refine (idxNew_any _).mono ?_); rintro e w1 ⟨x, gp, bp, bn, rfl, h1, hx, hgp, hbp, hbn, hb1⟩)
  have hO1 := ownInts_one w1 w.heap.size hb1.size 0
  have b2 := (Below.refl w1.heap.size w1).alloc (Nat.le_refl _) (.cells #[.int .i64 0] 3)
  have h2 := h1.below b2
  replace b2 := belowThen hb1 b2
  clear h1 hb1
  go_wp2
  go_loopw [6, 7] (fun v i w' => ∃ (k : Nat) (X : IdxM) (RL : List Nat), k ≤ l.length ∧ i = .int .i64 k ∧ RL.length = k + 1 ∧ IdxAt w' x gp bp bn (k * 11) X ∧ Inv X (rootsOf RL) [] [] ∧ OwnInts w' w.heap.size v (intsOf RL) ∧ (∀ n ∈ RL, n ≤ 24) ∧ Below w.heap.size w w') (fun _ i _ => l.length - (intOf i).toNat)
  case atStart => exact ⟨0, emptyIdx, [0], Nat.zero_le _, rfl, rfl, h2, inv_empty, hO1, by simp, b2⟩
  case round =>
    obtain ⟨k, X, RL, hk, rfl, hRL, hX, hI, hO, hRb, hb⟩ := hrel
    clear h2 hO1 b2
    have hsz := hb.size
    by_cases hlt : k < l.length
    · obtain ⟨b, off, rfl, hact⟩ := (hA.below hb).2 k hlt
      obtain ⟨_, g1, g2, _, _⟩ := hact.cells
      have g3 : wr.cell? ⟨b, off + k * 9 + 3, none⟩ = some (.int .i64 l[k].b) := hact.2.1 3 (by omega)
      have hss := hact.2.2.2.2.2.2.1
      unfold maxLen at hss
      have j1 : (k : Int) < (l.length : Int) := by omega
      clear hact
      generalize l[k].b = lb at g3
      generalize l[k].a = la at g2
      generalize l[k].s = ls at g1 hss
      by_cases hB0 : lb < 0
      · go_wp2
        refine bodyPost_ret (v := .tuple #[.pointer none, .slice none 0 0, .bool false]) (by simp [results, go_sem]) rfl (.inl ⟨rfl, hb⟩)
      · have hB0' : decide (lb < 0) = false := by simpa using hB0
        by_cases hB1 : 16 ≤ lb
        · go_wp2
          refine bodyPost_ret (v := .tuple #[.pointer none, .slice none 0 0, .bool false]) (by simp [results, go_sem]) rfl (.inl ⟨rfl, hb⟩)
        · have hB1' : decide (16 ≤ lb) = false := by simpa using hB1
          obtain ⟨at_, rfl⟩ := Int.eq_ofNat_of_zero_le (show 0 ≤ lb by omega)
          obtain ⟨m, hm⟩ := Int.eq_ofNat_of_zero_le (andBig la).1
          have hm2 : m ≤ 1023 := by have := (andBig la).2; omega
          obtain ⟨q, hq⟩ : ∃ q, m % (k + 1) = q := ⟨_, rfl⟩
          have hq1 : q < k + 1 := by rw [← hq]; exact Nat.mod_lt _ (by omega)
          have hq2 : (m : Int).tmod ((k : Int) + 1) = (q : Int) := by rw [Int.tmod_eq_emod_of_nonneg (by omega), ← hq]; exact (Int.natCast_emod m (k + 1)).symm
          have hq3 : (0 : Int) ≤ (q : Int) := by omega
          have hq4 : (q : Int) < (k : Int) + 1 := by omega
          have hz : (((k : Int) + 1) == 0) = false := by simp; omega
          have hz' : ¬ ((k : Int) + 1 = 0) := by omega
          have hqR : q < RL.length := by omega
          obtain ⟨root, hroot⟩ : ∃ r, RL[q] = r := ⟨_, rfl⟩
          have hrm : root ∈ RL := by rw [← hroot]; exact List.getElem_mem hqR
          have hr24 := hRb root hrm
          obtain ⟨vA, vc, hv, hIA, _⟩ := hO.at_
          rw [intsOf_len, hRL] at hv
          obtain ⟨gr, go, e, cq0⟩ := hIA q (by rw [intsOf_len]; exact hqR)
          subst e
          have cq : wr.cell? ⟨gr, go + q, none⟩ = some (.int .i64 root) := by rw [cq0]; simp [intsOf, hroot]
          clear cq0
          subst hv
          have HKEEP := Lib.hid (fun w2 (t2 : Turn [bp, bn] wr.drew w2) => show w2.cell? ⟨b, off + k * 9 + 1, none⟩ = some (.string ls) ∧ w2.cell? ⟨b, off + k * 9 + 2, none⟩ = some (.int .i64 la) ∧ w2.cell? ⟨b, off + k * 9 + 3, none⟩ = some (.int .i64 (at_ : Int)) ∧ w2.cell? ⟨gr, go + q, none⟩ = some (.int .i64 root) from ⟨turn_cell t2 (w := wr.drew) hX.maps g1, turn_cell t2 (w := wr.drew) hX.maps g2, turn_cell t2 (w := wr.drew) hX.maps g3, turn_cell t2 (w := wr.drew) hX.maps cq⟩)
          have HO := Lib.hid hO
          obtain ⟨X', n', ne, hS⟩ := trip (setX X root at_ ls)
          have HS := Lib.hid hS
          have hn24 : n' ≤ 24 := by have := setX_id X root at_ ls; rw [hS] at this; exact this
          have HSET := Lib.hid (fun w' (hb : Below wr.heap.size wr w') => idxSet_e w' x gp bp bn (k * 11) X root at_ ls X' n' ne (hX.below hb) (by omega) (by omega) (by omega) (by omega) hS)
          have hMAPS := Lib.hid hX.maps
          clear hS
          have HRM := Lib.hid hrm
          clear hq hroot hIA hO hrm
          go_wp2_with fail
          go_region_held3 (fun w' => w'.cell? ⟨b, off + k * 9 + 1, none⟩ = some (.string ls) ∧ w'.cell? ⟨b, off + k * 9 + 2, none⟩ = some (.int .i64 la) ∧ w'.cell? ⟨b, off + k * 9 + 3, none⟩ = some (.int .i64 (at_ : Int)) ∧ w'.cell? ⟨gr, go + q, none⟩ = some (.int .i64 root)) (first | exact ⟨g1, g2, g3, cq⟩ | exact HKEEP.out _ t2)
            (first | (go_at_call 14; refine (HSET.out _ (Below.refl _ _).drew).mono ?_; rintro e w2 ⟨rfl, h2, t2⟩))
          have hb2 : Below w.heap.size w w2 := Below.trans (b := wr.drew) hb.drew (t2.below (by exact hsz) (by simp; omega))
          have hO2 := HO.out.turn (w := wr.drew) t2 hMAPS.out
          have hsz2 := hb2.size
          clear t2 HKEEP HSET g1 g2 g3 cq hX HO
          by_cases he0 : ne = 0
          rotate_left
          · have hv : errV ne = .iface 81 (.int .i64 ne) := by simp [errV, he0]
            rw [hv]
            clear hv he0
            go_wp2
            refine bodyPost_ret (v := .tuple #[.pointer none, .slice none 0 0, .bool false]) (by simp [results, go_sem]) rfl (.inl ⟨rfl, hb2⟩)
          · subst he0
            have hv0 : errV 0 = .nilIface := rfl
            rw [hv0]
            have hgood := setX_good (data := ls) (at_ := at_) hI (mem_rootsOf HRM.out) (by omega) (by rw [HS.out])
            rw [HS.out] at hgood
            have HI := Lib.hid (hgood.1.perm (rootsOf_snoc RL n'))
            have hRb' : ∀ n ∈ RL ++ [n'], n ≤ 24 := fun n hn => by
              rcases List.mem_append.1 hn with h | h
              · exact hRb n h
              · simp at h; omega
            have HRB := Lib.hid hRb'
            have HRL := Lib.hid hRL
            clear hgood hv0 hI hRb hRb' hRL hqR
            go_wp2_with (at_builtin; refine wpList_append_own _ rfl _ _ 26 rfl w.heap.size 3 i0 (.int .i64 0) 1 8 Try.underlying26 hi hz0 hz1 hz2 rfl (by decide) _ _ _ rfl (World.ownsRow.alloc hO2 _) ⟨w2.heap.size, 0, none⟩ 1 1 [.int .i64 (n' : Int)] rfl rfl (cell_one_new _ _ _) (by simp [Value.oneCell']) (by rw [intsOf_len, HRL.out]; unfold maxLen; omega) (by rw [intsOf_len, HRL.out]; omega) (by simp; omega) ?_; intro v' w3 hown' hg3 hnil3)
            have h3 := (h2.below ((Below.refl _ _).alloc (Nat.le_refl _) (.cells #[.int .i64 n'] 3))).grownRow hg3 hO2 (fun g hg' => Below.heap_alloc _ _ _ (World.ownsRow.lt hO2 g hg').2)
            go_wp2
            go_roundw
            case rel => exact ⟨k + 1, X', RL ++ [n'], hlt, by go_num, by simp [HRL.out], by rw [show (k + 1) * 11 = k * 11 + 11 by omega]; exact h3, HI.out, by unfold OwnInts intsOf at *; simpa using hown', HRB.out, (hb2.alloc hsz2 _).grown hg3 (by simp; omega) (fun j hj => (World.ownsRow.lt hO2 j hj).1)⟩
            case measure => simp [intOf]; omega
    · obtain rfl : k = l.length := by omega
      go_wp2
      refine bodyPost_ret (v := .tuple #[.pointer (some ⟨x, 0, none⟩), _, .bool true]) (by simp [results, go_sem]) rfl (.inr ⟨x, gp, bp, bn, X, RL, _, rfl, hX.mono (by omega), hI, hO, ?_, by omega, hRb, hx, hgp, hbp, hbn, hb⟩)
      intro e
      rw [e] at hRL
      simp at hRL
end Go.Proofs.Ytnnnmpfkpckgbaa
