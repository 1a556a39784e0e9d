/- Package vdisk: find (by slices.IndexFunc and a function literal). -/
import Derived.Test.YtmcoenndfbgdfaaVd1
namespace Go.Proofs.Ytmcoenndfbgdfaa
open Go.RowKit

theorem Try.infoSnap : (Try.prog.info? 105).map (·.size) = some 20 := by kernel_rfl
theorem Try.infoCont : (Try.prog.info? 95).map (·.size) = some 17 := by kernel_rfl

/-- The row that holds snapshots, laid open. -/
theorem row_open {w : World} {B gb n c : Nat} {LS : List (SnapM × Value)} (h : w.ownsRow B 105 20 (.slice (some ⟨gb, 0, none⟩) n c) n (sCells LS)) (hn : LS.length = n) :
    ∃ cur, w.heap[gb]? = some (.cells cur 105 (0, 0)) ∧ B ≤ gb ∧ cur.size = c * 20 ∧ n ≤ c ∧ c ≤ maxLen ∧ cur.toList.take (n * 20) = sCells LS ∧ ∀ i, (hi : i < LS.length) → i * 20 + 20 ≤ cur.size ∧ cut cur (i * 20) 20 = sArr LS[i].1 LS[i].2 := by
  rcases h.2 with ⟨h', _⟩ | ⟨g', cap', cur, h', hb, hg, hnc, hcm, hcs, htake⟩
  · simp at h'
  · simp only [Value.slice.injEq, Option.some.injEq, Addr.mk.injEq, and_true, true_and] at h'
    obtain ⟨rfl, rfl⟩ := h'
    refine ⟨cur, hg, hb, hcs, hnc, hcm, htake, fun i hi => ⟨by rw [hcs]; have : (i + 1) * 20 ≤ c * 20 := Nat.mul_le_mul_right _ (by omega); omega, ?_⟩⟩
    have e := sCells_at LS i hi
    rw [← htake, List.drop_take, List.take_take, Nat.min_eq_left (by have : (i + 1) * 20 ≤ n * 20 := Nat.mul_le_mul_right _ (by omega); omega)] at e
    unfold cut
    rw [e]

/-- At which place a snapshot is. -/
def posIn : List SnapM → Int → Option Nat
  | [], _ => none
  | s :: r, id => if (s.id : Int) = id then some 0 else (posIn r id).map (· + 1)
def posV : Option Nat → Int
  | some k => k
  | none => -1

theorem posIn_some {L : List SnapM} {id : Int} {k : Nat} (hk : k < L.length) (h : (L[k].id : Int) = id) (hb : ∀ j, (hj : j < L.length) → j < k → (L[j].id : Int) ≠ id) : posIn L id = some k := by
  induction L generalizing k with
  | nil => simp at hk
  | cons s r ih =>
    unfold posIn
    cases k with
    | zero => rw [if_pos (by simpa using h)]
    | succ k =>
      have h0 : ¬ (s.id : Int) = id := hb 0 (by simp) (by omega)
      rw [if_neg h0, ih (k := k) (by simpa using hk) (by simpa using h) (fun j hj hjk => hb (j + 1) (by simpa using hj) (by omega))]
      rfl
theorem posIn_none {L : List SnapM} {id : Int} (hb : ∀ j, (hj : j < L.length) → (L[j].id : Int) ≠ id) : posIn L id = none := by
  induction L with
  | nil => rfl
  | cons s r ih =>
    unfold posIn
    have h0 : ¬ (s.id : Int) = id := hb 0 (by simp)
    rw [if_neg h0, ih (fun j hj => hb (j + 1) (by simpa using hj))]
    rfl
theorem posIn_lt {L : List SnapM} {id : Int} {k : Nat} (h : posIn L id = some k) : ∃ hk : k < L.length, (L[k].id : Int) = id := by
  induction L generalizing k with
  | nil => simp [posIn] at h
  | cons s r ih =>
    unfold posIn at h
    by_cases c : (s.id : Int) = id
    · rw [if_pos c] at h
      injection h with h; subst h
      exact ⟨by simp, by simpa using c⟩
    · rw [if_neg c] at h
      cases e : posIn r id with
      | none => rw [e] at h; simp at h
      | some j =>
        rw [e] at h; simp at h; subst h
        obtain ⟨hj, hj2⟩ := ih e
        exact ⟨by simp; omega, by simpa using hj2⟩

/-- The function literal of find: has a snapshot this number? -/
theorem findLit_any (q : Nat) (s : SnapM) (tv : Value) (id : Int) (w : World) (h : w.cell? ⟨q, 0, none⟩ = some (.int .i64 id)) :
    Calls Try.prog 63 #[.agg (sArr s tv), .pointer (some ⟨q, 0, none⟩)] w fun e w' => e = .returned (.bool ((s.id : Int) == id)) ∧ Below w.heap.size w w' := by
  have hq := World.block_lt_of_cell? w _ h
  simp only at hq
  have h2 : (w.alloc (.cells (sArr s tv) 105)).cell? ⟨w.heap.size, 0, none⟩ = some (.int .i64 s.id) := cell_of_row _ _ _ _ _ _ (heap_alloc_new _ _)
  go_enter Try.func63, Try.ntmps63
  go_wp2
  go_ret
  exact ⟨rfl, (Below.refl _ _).alloc (Nat.le_refl _) _⟩

set_option maxRecDepth 100000 in
theorem indexFunc_any (gb n c B : Nat) (w : World) (q : Nat) (id : Int) (LS : List (SnapM × Value)) (hn : LS.length = n) (hn5 : n ≤ 5) (hO : w.ownsRow B 105 20 (.slice (some ⟨gb, 0, none⟩) n c) n (sCells LS)) (h : w.cell? ⟨q, 0, none⟩ = some (.int .i64 id)) :
    Calls Try.prog 62 #[.slice (some ⟨gb, 0, none⟩) n c, .func (.func 63) #[] #[.pointer (some ⟨q, 0, none⟩)]] w fun e w' => e = .returned (.int .i64 (posV (posIn (LS.map (·.1)) id))) ∧ Below w.heap.size w w' := by
  obtain ⟨cur, hg, hB, hcs, _, _, _, hcut⟩ := row_open hO hn
  have hq := World.block_lt_of_cell? w _ h
  simp only at hq
  have HC := Lib.hid hcut; clear hcut
  have HS := Lib.hid hcs; clear hcs
  have HN := Lib.hid hn; clear hn
  go_enter Try.func62, Try.ntmps62
  go_wp2_with fail
  go_loopw [8] (fun i w' => ∃ k : Nat, k ≤ n ∧ i = .int .i64 k ∧ Hid (∀ j, (hj : j < LS.length) → j < k → (LS[j].1.id : Int) ≠ id) ∧ Below w.heap.size w w') (fun i _ => n - (intOf i).toNat)
  case atStart => exact ⟨0, Nat.zero_le _, rfl, fun j _ hj => by omega, Below.refl _ _⟩
  case round =>
    obtain ⟨k, hk, rfl, HF, hb⟩ := hrel
    have hsz := hb.size
    have hcq : wr.cell? ⟨q, 0, none⟩ = some (.int .i64 id) := by rw [hb.cell (p := ⟨q, 0, none⟩) hq]; exact h
    have hgr : wr.heap[gb]? = some (.cells cur 105 (0, 0)) := (hb.block gb (Array.getElem?_eq_some_iff.1 hg).1).trans hg
    by_cases hlt : k < n
    · obtain ⟨f1, f2⟩ := HC.out k (by have := HN.out; omega)
      have F2 := Lib.hid f2; clear f2
      go_wp2_with ((with_reducible refine isLoad 15 ?_); refine wpList_load_at rfl 105 _ rfl gb (k * 20) 20 rfl 105 _ (0, 0) _ hgr Try.underlying105 rfl Try.infoSnap f1 _ F2.out ?_)
      ((with_reducible refine (findLit_any q _ _ id _ hcq).mono ?_); rintro e w1 ⟨rfl, hb1⟩)
      by_cases hid : (LS[k]'(by have := HN.out; omega)).1.id = id
      · have hid' : (((LS[k]'(by have := HN.out; omega)).1.id : Int) == id) = true := by simpa using hid
        have HI := Lib.hid hid; clear hid
        rw [hid']
        clear hid'
        go_wp2
        go_ret
        refine ⟨ret_int ?_, belowThen hb hb1⟩
        rw [posIn_some (k := k) (by simp; have := HN.out; omega) (by simpa using HI.out) (fun j hj hjk => by simpa using HF.out j (by simpa using hj) hjk)]; rfl
      · have hid' : (((LS[k]'(by have := HN.out; omega)).1.id : Int) == id) = false := by simpa using hid
        have HI := Lib.hid hid; clear hid
        rw [hid']
        clear hid'
        go_wp2
        go_roundw
        case rel => exact ⟨k + 1, hlt, by go_num, fun j hj hjk => by
          by_cases e : j = k
          · subst e; exact HI.out
          · exact HF.out j hj (by omega), belowThen hb hb1⟩
        case measure => simp [intOf]; omega
    · go_wp2
      go_ret
      refine ⟨ret_int ?_, hb⟩
      rw [posIn_none (fun j hj => by simpa using HF.out j (by simpa using hj) (by have := HN.out; simp at hj; omega))]; rfl

theorem indexFunc_nil (A : Option Addr) (c q : Nat) (w : World) : Calls Try.prog 62 #[.slice A 0 c, .func (.func 63) #[] #[.pointer (some ⟨q, 0, none⟩)]] w fun e w' => e = .returned (.int .i64 (-1)) ∧ w = w' := by
  go_enter Try.func62, Try.ntmps62
  go_wp2_with fail
  refine wp_loop_rounds 1 ?_
  rw [rounds_succ]
  go_wp2
  go_ret
  exact ⟨rfl, rfl⟩

set_option maxRecDepth 100000 in
theorem find_any (B g : Nat) (w : World) (D : DiskM) (id : Int) (hD : DiskAt B w g D) :
    Calls Try.prog 54 #[.pointer (some ⟨g, 0, none⟩), .int .i64 id] w fun e w' => e = .returned (.int .i64 (posV (posIn D.snaps id))) ∧ Below w.heap.size w w' := by
  obtain ⟨sv, hg, LS, hL, hO, hT⟩ := hD.mem
  have hlt := (Array.getElem?_eq_some_iff.1 hg).1
  have c18 : w.cell? ⟨g, 18, none⟩ = some sv := cell_of_row _ _ _ _ _ _ hg
  have hlen : LS.length = D.snaps.length := by rw [← hL]; simp
  have h5 := hD.ok.few
  rcases ownsRow_form hO with ⟨A, c, rfl, h0⟩ | ⟨gb, c, rfl, hp⟩
  · have hnil : D.snaps = [] := List.length_eq_zero_iff.1 h0
    have HN := Lib.hid hnil
    clear hg hL hO hT hlen h0 hnil
    go_enter Try.func54, Try.ntmps54
    go_wp2_with fail
    ((with_reducible refine (indexFunc_nil _ _ _ _).mono ?_); rintro e w1 ⟨rfl, rfl⟩)
    go_wp2
    go_ret
    exact ⟨ret_int (by rw [HN.out]; rfl), (Below.refl _ _).alloc (Nat.le_refl _) _⟩
  · have HL := Lib.hid hL
    have HE := Lib.hid hlen
    have hO' := World.ownsRow.alloc hO (.cells #[.int .i64 id] 3)
    clear hg hL hT hlen
    have hq : (w.alloc (.cells #[.int .i64 id] 3)).cell? ⟨w.heap.size, 0, none⟩ = some (.int .i64 id) := by simp
    go_enter Try.func54, Try.ntmps54
    go_wp2_with fail
    ((with_reducible refine (indexFunc_any gb _ c B _ w.heap.size id LS HE.out h5 hO' hq).mono ?_); rintro e w1 ⟨rfl, hb1⟩)
    rw [HL.out]
    go_wp2
    go_ret
    exact ⟨rfl, ((Below.refl _ _).alloc (Nat.le_refl _) _).trans (hb1.mono (by simp))⟩
end Go.Proofs.Ytmcoenndfbgdfaa
