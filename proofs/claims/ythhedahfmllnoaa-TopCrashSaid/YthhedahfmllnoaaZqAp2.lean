/- Package row: Apply. -/
import Derived.Test.YthhedahfmllnoaaZqRr3
import Derived.Test.YthhedahfmllnoaaZqCmp
import Derived.Test.YthhedahfmllnoaaZqChC
import Derived.Test.YthhedahfmllnoaaZqIns
/- Which rows an application of changes may hold; what it answers. -/
namespace Go.Proofs.Ythhedahfmllnoaa
open Go.RowKit

theorem ap1_mem {m : List Ch} {c x : Ch} (h : x ∈ ap1 m c) : x ∈ m ∨ x = c := by
  unfold ap1 at h
  rcases List.mem_append.1 h with h | h
  · exact .inl (List.mem_filter.1 h).1
  · rcases List.mem_append.1 h with h | h
    · cases hg : c.gone <;> simp [hg] at h; exact .inr h
    · exact .inl (List.mem_filter.1 h).1
theorem apAll_mem : ∀ {l m : List Ch} {x : Ch}, x ∈ apAll m l → x ∈ m ∨ x ∈ l
  | [], _, _, h => .inl h
  | c :: l, m, x, h => by
    rcases apAll_mem (l := l) (m := ap1 m c) h with h | h
    · rcases ap1_mem h with h | h
      · exact .inl h
      · exact .inr (by simp [h])
    · exact .inr (by simp [h])
def ApplyRet (w : World) (m l : List Ch) (e : Ending) (w' : World) : Prop :=
  ∃ A c, e = .returned (.slice A (apAll m l).length c) ∧ w'.ownsRow w.heap.size 60 3 (.slice A (apAll m l).length c) (apAll m l).length (chCells (apAll m l)) ∧ Below w.heap.size w w'
end Go.Proofs.Ythhedahfmllnoaa

/- Package row: Apply. -/
namespace Go.Proofs.Ythhedahfmllnoaa
open Go.RowKit

theorem sorted_mono {r : List Ch} (hs : SortedCh r) (key : ByteArray) : ∀ a b, a ≤ b → (ha : a < r.length) → (hb : b < r.length) → cmpB r[b].key key < 0 → cmpB r[a].key key < 0 := fun a b hab ha hb h => by
  by_cases e : a = b
  · subst e; exact h
  · exact cmp_trans (List.pairwise_iff_getElem.1 hs a b ha hb (by omega)) h
theorem parts_of {r : List Ch} {key : ByteArray} {i : Nat} (h1 : ∀ t, t < i → (h : t < r.length) → cmpB r[t].key key < 0) (h2 : ∀ t, i ≤ t → (h : t < r.length) → 0 ≤ cmpB r[t].key key) : (∀ x ∈ r.take i, cmpB x.key key < 0) ∧ ∀ x ∈ r.drop i, 0 ≤ cmpB x.key key := by
  refine ⟨fun x hx => ?_, fun x hx => ?_⟩
  · obtain ⟨t, ht, rfl⟩ := List.getElem_of_mem hx
    rw [List.length_take] at ht
    rw [List.getElem_take]
    exact h1 t (by omega) (by omega)
  · obtain ⟨t, ht, rfl⟩ := List.getElem_of_mem hx
    rw [List.length_drop] at ht
    rw [List.getElem_drop]
    exact h2 (i + t) (by omega) (by omega)
/-- The key is there: what Apply makes of the rows. -/
theorem ap_found {r : List Ch} {c : Ch} {i : Nat} (hs : SortedCh r) (h1 : ∀ t, t < i → (h : t < r.length) → cmpB r[t].key c.key < 0) (h2 : ∀ t, i ≤ t → (h : t < r.length) → 0 ≤ cmpB r[t].key c.key) (hk : hasKey r c.key i = true) :
    i < r.length ∧ (c.gone = true → ap1 r c = r.eraseIdx i) ∧ (c.gone = false → ap1 r c = r.set i c) := by
  have hlt : i < r.length := by
    by_cases h : i < r.length
    · exact h
    · unfold hasKey at hk; rw [List.getElem?_eq_none (by omega)] at hk; cases hk
  have h0 : cmpB r[i].key c.key = 0 := by unfold hasKey at hk; rw [List.getElem?_eq_getElem hlt] at hk; simpa using hk
  obtain ⟨p1, p2⟩ := parts_of h1 h2
  have e : r = r.take i ++ r[i] :: r.drop (i + 1) := by rw [← List.drop_eq_getElem_cons hlt, List.take_append_drop]
  have hap : ap1 r c = r.take i ++ ((if c.gone then [] else [c]) ++ r.drop (i + 1)) := by
    have := ap_some (p := r.take i) (r := r.drop (i + 1)) (y := r[i]) (c := c) p1 (by rw [← List.drop_eq_getElem_cons hlt]; exact p2) (by rw [← e]; exact hs) h0
    rw [← e] at this
    exact this
  refine ⟨hlt, fun hg => ?_, fun hg => ?_⟩
  · rw [hap, hg, List.eraseIdx_eq_take_drop_succ]; simp
  · rw [hap, hg, List.set_eq_take_append_cons_drop, if_pos hlt]; simp
theorem ap_absent {r : List Ch} {c : Ch} {i : Nat} (hs : SortedCh r) (h1 : ∀ t, t < i → (h : t < r.length) → cmpB r[t].key c.key < 0) (h2 : ∀ t, i ≤ t → (h : t < r.length) → 0 ≤ cmpB r[t].key c.key) (hk : hasKey r c.key i = false) :
    (c.gone = true → ap1 r c = r) ∧ (c.gone = false → ap1 r c = r.take i ++ c :: r.drop i) := by
  obtain ⟨p1, p2⟩ := parts_of h1 h2
  have hap := ap_none (p := r.take i) (q := r.drop i) (c := c) p1 p2 (by rw [List.take_append_drop]; exact hs) (fun y t e h0 => by
    have hlt : i < r.length := by
      by_cases h : i < r.length
      · exact h
      · rw [List.drop_eq_nil_of_le (by omega)] at e; cases e
    have hy : r[i] = y := by rw [List.drop_eq_getElem_cons hlt] at e; injection e
    unfold hasKey at hk
    rw [List.getElem?_eq_getElem hlt, hy] at hk
    simp [h0] at hk)
  rw [List.take_append_drop] at hap
  refine ⟨fun hg => ?_, fun hg => ?_⟩
  · rw [hap, hg]; simp
  · rw [hap, hg]; simp

theorem own_set {w : World} {B gb cap n i : Nat} {cur : Array Value} {r : List Ch} (c : Ch) (hB : B ≤ gb) (hg : w.heap[gb]? = some (.cells cur 60 (0, 0))) (hnc : n ≤ cap) (hcm : cap ≤ maxLen) (hcs : cur.size = cap * 3) (htake : cur.toList.take (n * 3) = chCells r) (hn : r.length = n) (hi : i < n) :
    (w.setRow gb (splice cur (i * 3) (chArr c))).ownsRow B 60 3 (.slice (some ⟨gb, 0, none⟩) n cap) n (chCells (r.set i c)) := by
  have e1 : cur.toList.take (i * 3) = chCells (r.take i) := by
    rw [← chCells_take r i (by omega), ← htake, List.take_take, Nat.min_eq_left (by omega)]
  have e2 : chCells (r.set i c) = chCells (r.take i) ++ ((chArr c).toList ++ chCells (r.drop (i + 1))) := by
    rw [List.set_eq_take_append_cons_drop, if_pos (by omega), chCells_append, chCells_cons]; rfl
  have hxl : (chArr c).toList.length = 3 := rfl
  have hxs : (chArr c).size = 3 := rfl
  have e3 : (cur.toList.drop (i * 3 + 3)).take (n * 3 - (i * 3 + 3)) = chCells (r.drop (i + 1)) := by
    rw [← List.drop_take, htake, ← chCells_drop r (i + 1) (by omega), show i * 3 + 3 = (i + 1) * 3 by omega]
  refine ⟨by rw [chCells_length, List.length_set, hn], .inr ⟨gb, cap, _, rfl, hB, setRow_heap _ _ _ _ _ _ hg, hnc, hcm, ?_, ?_⟩⟩
  · simp [splice, hcs, hxs]; omega
  · have hcl := chCells_length (r.take i)
    rw [List.length_take, Nat.min_eq_left (by omega)] at hcl
    simp only [splice]
    rw [e1, e2, hxs, List.append_assoc, List.take_append, hcl, List.take_of_length_le (l := chCells (r.take i)) (by omega), List.take_append, hxl, List.take_of_length_le (l := (chArr c).toList) (by omega), show n * 3 - i * 3 - 3 = n * 3 - (i * 3 + 3) by omega, e3]

set_option maxHeartbeats 4000000 in
set_option maxRecDepth 100000 in
theorem apply_any (w : World) (A : Option Addr) (cA : Nat) (m : List Ch) (A2 : Option Addr) (c2 : Nat) (l : List Ch) (hm : ChsAt w A m) (hA : A = none → cA = 0) (hl : ChsAt w A2 l) (hmn : m.length ≤ 1000) (hln : l.length ≤ 900) (hs : SortedCh m) :
    Calls Try.prog 29 #[.slice A m.length cA, .slice A2 l.length c2] w (ApplyRet w m l) := by
  have HCL := Lib.hid (cloneChs_any w A cA m hm hA (by omega))
  have HM := Lib.hid (show ∀ x, x ∈ m ∨ x ∈ l → x.key.size ≤ maxLen ∧ x.val.size ≤ maxLen from fun x hx => hx.elim (hm.sizes x) (hl.sizes x))
  have HS := Lib.hid hs
  clear hA hm hs
  go_enter Try.func29, Try.ntmps29
  go_wp2_with ((with_reducible refine HCL.out.mono ?_); rintro e w1 ⟨Am, cm, rfl, hO1, hb1⟩)
  go_loopw [5, 14] (fun v i w' => ∃ (k : Nat) (A' : Option Addr) (c' : Nat), k ≤ l.length ∧ i = .int .i64 k ∧ v = .slice A' (apAll m (l.take k)).length c' ∧ w'.ownsRow w.heap.size 60 3 (.slice A' (apAll m (l.take k)).length c') (apAll m (l.take k)).length (chCells (apAll m (l.take k))) ∧ Below w.heap.size w w') (fun _ i _ => l.length - (intOf i).toNat)
  case atStart => exact ⟨0, Am, cm, Nat.zero_le _, rfl, by simp [apAll], by simpa [apAll] using hO1, hb1⟩
  case round =>
    clear HCL hO1 hb1
    obtain ⟨k, A', c', hk, rfl, rfl, hO, hb⟩ := hrel
    have hrl := apAll_len (l.take k) m
    rw [List.length_take, Nat.min_eq_left hk] at hrl
    have hrs : SortedCh (apAll m (l.take k)) := apAll_sorted _ HS.out
    have hrz : ∀ x ∈ apAll m (l.take k), x.key.size ≤ maxLen ∧ x.val.size ≤ maxLen := fun x hx => HM.out x ((apAll_mem hx).imp id (fun h => List.mem_of_mem_take h))
    by_cases hlt : k < l.length
    · obtain ⟨b, off, rfl, hblt, d0, d1, d2, s1, s2⟩ := (hl.below hb) k hlt
      have HNX := Lib.hid (show apAll m (l.take (k + 1)) = ap1 (apAll m (l.take k)) l[k] by rw [List.take_succ_eq_append_getElem hlt, apAll_snoc])
      generalize apAll m (l.take k) = r at *
      generalize l[k] = c at *
      have HBS := Lib.hid (fun w2 (hb2 : Below wr.heap.size wr w2) => bsearch_any w2 A' c' r c.key ((chs_own hO hrz).below hb2) (by omega) (sorted_mono hrs c.key))
      have HO := Lib.hid hO
      have HRS := Lib.hid hrs
      obtain ⟨key, val, gone⟩ := c
      simp only [] at d0 d1 d2 HBS s1 s2
      have hszr := hb.size
      clear hO hrs hrz s1 s2
      go_wp2_with fail
      ((with_reducible refine (HBS.out _ ((Below.refl _ _).alloc (Nat.le_refl _) _)).mono ?_); rintro e w3 ⟨i, rfl, hi, hl1, hl2, hb3⟩)
      have hrow : w3.heap[wr.heap.size]? = some (.cells #[.string key, .string val, .bool gone] 60 (0, 0)) := by
        rw [hb3.block wr.heap.size (by simp)]; exact heap_alloc_new _ _
      have e0 : w3.cell? ⟨wr.heap.size, 0, none⟩ = some (.string key) := cell_of_row _ _ _ _ _ _ hrow
      have e1 : w3.cell? ⟨wr.heap.size, 1, none⟩ = some (.string val) := cell_of_row _ _ _ _ _ _ hrow
      have e2 : w3.cell? ⟨wr.heap.size, 2, none⟩ = some (.bool gone) := cell_of_row _ _ _ _ _ _ hrow
      have hO3 : w3.ownsRow w.heap.size 60 3 (.slice A' r.length c') r.length (chCells r) := own_below (own_below HO.out ((Below.refl _ _).alloc (Nat.le_refl _) _)) hb3
      have hb03 : Below w.heap.size w w3 := belowThen (hb.alloc hszr _) hb3
      have hsz3 := hb03.size
      have hlt3 : wr.heap.size < w3.heap.size := (Array.getElem?_eq_some_iff.1 hrow).1
      have HROW := Lib.hid hrow
      clear hrow hb3 HBS d0 d1 d2
      cases hkey : hasKey r key i with
      | true =>
        obtain ⟨hlt2, hE, hS⟩ := ap_found (c := ⟨key, val, gone⟩) HRS.out hl1 hl2 hkey
        have hnpos : 0 < r.length := by omega
        obtain ⟨gb, rfl⟩ : ∃ gb, A' = some ⟨gb, 0, none⟩ := by
          rcases hO3.2 with ⟨h1, h2⟩ | ⟨gb, cap, cur, h1, _⟩
          · omega
          · simp only [Value.slice.injEq, true_and] at h1; exact ⟨gb, h1.1⟩
        cases gone with
        | true =>
          have HE := Lib.hid (hE rfl)
          have HLEN := Lib.hid (show (r.eraseIdx i).length = r.length - 1 by rw [List.length_eraseIdx, if_pos hlt2])
          have HDEL := Lib.hid (deleteChs_any w.heap.size gb r.length c' i w3 r rfl (by omega) hlt2 hO3)
          have HLT := Lib.hid (fun q hq => (hO3.lt q hq).1)
          clear hO3 hl1 hl2 hkey hE hS HO
          go_wp2_with ((with_reducible refine HDEL.out.mono ?_); rintro e w4 ⟨rfl, hO4, hg4⟩)
          refine ⟨⟨k + 1, _, _, by omega, by go_num, by rw [HNX.out, HE.out, HLEN.out], ?_, ?_⟩, by simp [intOf]; omega⟩
          · rw [HNX.out, HE.out, HLEN.out]; exact hO4
          · exact hb03.grown hg4 hsz3 HLT.out
        | false =>
          obtain ⟨cur, hg, hB, hcs, hnc, hcm, htake⟩ := chsRow hO3
          have HE := Lib.hid (hS rfl)
          have HG := Lib.hid hg
          have HLEN := Lib.hid (show (r.set i ⟨key, val, false⟩).length = r.length from List.length_set)
          have HO4 := Lib.hid (own_set ⟨key, val, false⟩ hB hg hnc hcm hcs htake rfl hlt2)
          have HB4 := Lib.hid (fun cs => below_setRow hb03 hB (g := gb) cs)
          have HFIT := Lib.hid (show i * 3 + 3 ≤ cur.size by omega)
          have i0 : (0 : Int) ≤ (i : Int) := by omega
          have i1 : (i : Int) < (r.length : Int) := by omega
          clear hO3 hl1 hl2 hkey hE hS HO hg hcs htake
          go_wp2_with ((with_reducible refine isStore 60 ?_); refine wpList_store_at rfl 60 _ _ rfl gb (i * 3) 3 rfl 60 cur #[.string key, .string val, .bool false] rfl HG.out Try.infoChS HFIT.out rfl (by simp [Value.oneCell']) _ rfl ?_)
          refine ⟨⟨k + 1, _, _, by omega, by go_num, by rw [HNX.out, HE.out, HLEN.out], ?_, HB4.out _⟩, by simp [intOf]; omega⟩
          rw [HNX.out, HE.out, HLEN.out]; exact HO4.out
      | false =>
        cases gone with
        | true =>
          have HE := Lib.hid ((ap_absent (c := ⟨key, val, true⟩) HRS.out hl1 hl2 hkey).1 rfl)
          have HO3 := Lib.hid hO3
          clear hO3 hl1 hl2 hkey HO
          go_wp2
          refine ⟨⟨k + 1, _, _, by omega, by go_num, by rw [HNX.out, HE.out], ?_, hb03⟩, by simp [intOf]; omega⟩
          rw [HNX.out, HE.out]; exact HO3.out
        | false =>
          have HE := Lib.hid ((ap_absent (c := ⟨key, val, false⟩) HRS.out hl1 hl2 hkey).2 rfl)
          have HLEN := Lib.hid (show (r.take i ++ ⟨key, val, false⟩ :: r.drop i).length = r.length + 1 by simp; omega)
          have HINS := insert_any w.heap.size (w3.alloc (.cells #[.string key, .string val, .bool false] 60)) A' r.length c' w3.heap.size (r.take i) (r.drop i) ⟨key, val, false⟩ (by omega) (by simp; omega) (by simp; omega) (by rw [List.take_append_drop]; exact World.ownsRow.alloc hO3 _) (heap_alloc_new _ _) (fun q hq => by have := (hO3.lt q hq).2; omega)
          rw [List.length_take, Nat.min_eq_left hi] at HINS
          have HINS' := Lib.hid HINS
          clear HINS hO3 hl1 hl2 hkey HO
          go_wp2_with ((with_reducible refine HINS'.out.mono ?_); rintro e w4 ⟨A4, c4, rfl, hO4, hb4⟩)
          refine ⟨⟨k + 1, _, _, by omega, by go_num, by rw [HNX.out, HE.out, HLEN.out], ?_, ?_⟩, by simp [intOf]; omega⟩
          · rw [HNX.out, HE.out, HLEN.out]; exact hO4
          · exact (hb03.alloc hsz3 _).trans hb4
    · obtain rfl : k = l.length := by omega
      rw [List.take_length] at *
      have HO := Lib.hid hO
      clear hO hrl hrs hrz
      go_wp2
      go_ret
      exact ⟨_, _, rfl, HO.out, hb⟩
end Go.Proofs.Ythhedahfmllnoaa
