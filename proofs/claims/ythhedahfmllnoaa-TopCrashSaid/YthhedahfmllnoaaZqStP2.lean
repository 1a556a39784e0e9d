/- The store, pure: a slot's text and its header are read back; pieces lie one after the other. -/
import Derived.Test.YthhedahfmllnoaaZqSt14
/- The store, pure: what a log reads. -/
namespace Go.Proofs.Ythhedahfmllnoaa
open Go.PlainAid

theorem parse_fine {s : ByteArray} (h : parseE s = 0) : chErr (parseC s) = 0 := by
  unfold parseC
  rw [if_pos h]
  unfold parseE at h
  split at h
  · omega
  · split at h
    · assumption
    · omega
theorem lgRead_good (first : Nat) : ∀ (r : List ByteArray) (k : Nat) (cs : List Ch) (es : List (List Ch)) (e : Nat), (∀ x ∈ cs, chErr x = 0) → (∀ l ∈ es, ∀ x ∈ l, chErr x = 0) → ∀ l ∈ (lgRead first r k cs es e).1, ∀ x ∈ l, chErr x = 0
  | [], _, _, _, _, _, h => by simpa [lgRead] using h
  | s :: r, k, cs, es, e, h1, h2 => by
    rw [lgRead]
    split
    · rename_i hc
      refine lgRead_good first r _ _ _ _ (fun x hx => ?_) h2
      rcases List.mem_append.1 hx with hx | hx
      · exact h1 x hx
      · rw [List.mem_singleton.1 hx]; exact parse_fine hc.2
    · split
      · refine lgRead_good first r _ _ _ _ (by simp) (fun l hl => ?_)
        rcases List.mem_append.1 hl with hl | hl
        · exact h2 l hl
        · rw [List.mem_singleton.1 hl]; exact h1
      · exact h2
theorem deedsLen_snoc (es : List (List Ch)) (l : List Ch) : deedsLen (es ++ [l]) = deedsLen es + l.length := by simp [deedsLen]
theorem lgRead_count (first : Nat) : ∀ (r : List ByteArray) (k : Nat) (cs : List Ch) (es : List (List Ch)) (e : Nat), deedsLen es + es.length ≤ e → cs.length + e ≤ k → deedsLen (lgRead first r k cs es e).1 + (lgRead first r k cs es e).1.length ≤ (lgRead first r k cs es e).2
  | [], _, _, _, _, h, _ => by simpa [lgRead] using h
  | s :: r, k, cs, es, e, h1, h2 => by
    rw [lgRead]
    split
    · exact lgRead_count first r _ _ _ _ h1 (by simp; omega)
    · split
      · refine lgRead_count first r _ _ _ _ ?_ (by simp)
        rw [deedsLen_snoc]; simp; omega
      · exact h1
theorem lgRead_none {first : Nat} {r : List ByteArray} (h : (lgRead first r 0 [] [] 0).2 = 0) : lgRead first r 0 [] [] 0 = ([], 0) := by
  have hc := lgRead_count first r 0 [] [] 0 (by simp [deedsLen]) (by simp)
  rw [h] at hc
  have : (lgRead first r 0 [] [] 0).1 = [] := List.length_eq_zero_iff.1 (by omega)
  exact Prod.ext this h

theorem kind_other {n n' : Nat} {s : ByteArray} (h : ¬ ctKind n s = 0) (hn : n ≤ 255) (hn' : n' ≤ 255) (hne : n ≠ n') : ctKind n' s = 0 := by
  unfold ctKind at h ⊢
  by_cases h1 : ctOk n s = true
  · by_cases h2 : ctOk n' s = true
    · exfalso
      unfold ctOk at h1 h2
      simp only [Bool.and_eq_true, decide_eq_true_eq, beq_iff_eq] at h1 h2
      have e := h1.2.trans h2.2.symm
      rw [secB_list, secB_list] at e
      have e2 : secL n (byteAt s 0) (ctText s) = secL n' (byteAt s 0) (ctText s) := by
        rw [ByteArray.toList_eq, ByteArray.toList_eq] at e
        simpa using e
      unfold secL at e2
      simp only [List.cons.injEq, true_and] at e2
      obtain ⟨a, b, c, d, h4⟩ := lit4 n
      have ha : lit n 4 = UInt8.ofNat n :: (lit n 4).tail := by simp [lit, List.range, List.range.loop]
      have hb : lit n' 4 = UInt8.ofNat n' :: (lit n' 4).tail := by simp [lit, List.range, List.range.loop]
      rw [ha, hb] at e2
      simp only [List.cons_append, List.cons.injEq] at e2
      have := congrArg UInt8.toNat e2.1
      simp at this
      omega
    · rw [if_neg h2]
  · rw [if_neg h1] at h; exact absurd rfl h
theorem lgRead_first {first : Nat} {s : ByteArray} {r : List ByteArray} (h : ¬ (lgRead first (s :: r) 0 [] [] 0).2 = 0) : ¬ ctKind first s = 0 := fun hk => h (by
  rw [lgRead, Nat.add_zero, if_neg (by rw [hk]; omega), if_neg (by rw [hk]; omega)])
theorem lgRead_other {first first' : Nat} {r : List ByteArray} (h : ¬ (lgRead first r 0 [] [] 0).2 = 0) (hn : first ≤ 255) (hn' : first' ≤ 255) (hne : first ≠ first') : lgRead first' r 0 [] [] 0 = ([], 0) := by
  cases r with
  | nil => rfl
  | cons s r =>
    have hk := kind_other (lgRead_first h) hn hn' hne
    rw [lgRead, Nat.add_zero, if_neg (by rw [hk]; omega), if_neg (by rw [hk]; omega)]
end Go.Proofs.Ythhedahfmllnoaa

/- The store, pure: a slot's text and its header are read back; pieces lie one after the other. -/
namespace Go.Proofs.Ythhedahfmllnoaa
open Go.PlainAid

theorem stBs_fine {c : Ch} (h : chErr c = 0) : stBs c = chBytes c ∧ (stBs c).size ≤ 58 := by
  have e : stBs c = chBytes c := by unfold stBs; rw [if_pos h]
  exact ⟨e, by rw [e]; exact chBytes_size c h⟩
theorem stText_fine : ∀ {rows : List Ch}, (∀ x ∈ rows, chErr x = 0) → (stText rows).length ≤ rows.length * 59
  | [], _ => by simp [stText]
  | c :: r, h => by
    have ih := stText_fine (rows := r) (fun x hx => h x (by simp [hx]))
    have hc := (stBs_fine (h c (by simp))).2
    have e : (stBs c).data.toList.length = (stBs c).size := rfl
    unfold stText at ih ⊢
    rw [List.flatMap_cons, List.length_append]
    simp only [stRow, List.length_cons, e] at ih ⊢
    omega
theorem stParse_text : ∀ (rows : List Ch) (z : List UInt8) (acc : List Ch), (∀ x ∈ rows, chErr x = 0) → stParse rows.length ⟨(stText rows ++ z).toArray⟩ acc = (0, acc ++ rows)
  | [], z, acc, _ => by simp [stParse]
  | c :: r, z, acc, h => by
    obtain ⟨hb, hs⟩ := stBs_fine (h c (by simp))
    have hl : (stBs c).data.toList.length = (stBs c).size := rfl
    obtain ⟨t, ht⟩ : ∃ t, stText r ++ z = t := ⟨_, rfl⟩
    have he : stText (c :: r) ++ z = UInt8.ofNat (stBs c).size :: ((stBs c).data.toList ++ t) := by
      unfold stText
      rw [List.flatMap_cons]
      unfold stText at ht
      rw [List.append_assoc, ht]
      simp [stRow]
    have hbt : bt (⟨(stText (c :: r) ++ z).toArray⟩ : ByteArray) 0 = ((stBs c).size : Int) := by
      rw [bt_list, he]
      simp only [List.getD_cons_zero]
      simp
      omega
    have hsz : (⟨(stText (c :: r) ++ z).toArray⟩ : ByteArray).size = 1 + (stBs c).size + t.length := by
      show (stText (c :: r) ++ z).toArray.size = _
      rw [he]
      simp only [List.size_toArray, List.length_cons, List.length_append, hl]; omega
    have hx : (⟨(stText (c :: r) ++ z).toArray⟩ : ByteArray).extract 1 (1 + (stBs c).size) = stBs c := by
      rw [extract_list, he]
      simp only [List.drop_succ_cons, List.drop_zero, Nat.add_sub_cancel_left]
      rw [List.take_append_of_le_length (by omega), List.take_of_length_le (by omega)]
    have hy : (⟨(stText (c :: r) ++ z).toArray⟩ : ByteArray).extract (1 + (stBs c).size) (1 + (stBs c).size + t.length) = ⟨(stText r ++ z).toArray⟩ := by
      rw [extract_list, he, ht, Nat.add_comm 1]
      simp only [List.drop_succ_cons]
      rw [List.drop_append_of_le_length (by omega), List.drop_of_length_le (by omega), List.nil_append, List.take_of_length_le (by omega)]
    have hp := parse_bytes c (h c (by simp))
    show stParse (r.length + 1) _ acc = _
    rw [stParse, hsz, hbt, Int.toNat_natCast, hx, hy, if_neg (by omega), hb, if_pos hp.1, hp.2, stParse_text r z (acc ++ [c]) (fun x hx => h x (by simp [hx]))]
    simp

theorem hdText_list (h : Hd) : hdText h = ⟨(titleL ++ [UInt8.ofNat h.turn, UInt8.ofNat h.log, UInt8.ofNat h.rows]).toArray⟩ := by
  unfold hdText
  rw [show titleB = ⟨titleL.toArray⟩ from rfl, show (⟨#[UInt8.ofNat h.turn, UInt8.ofNat h.log, UInt8.ofNat h.rows]⟩ : ByteArray) = ⟨[UInt8.ofNat h.turn, UInt8.ofNat h.log, UInt8.ofNat h.rows].toArray⟩ from rfl, append_list]
theorem hdText_size (h : Hd) : (hdText h).size = 20 := by rw [hdText_list]; rfl
theorem hdParse_text (h : Hd) (h1 : h.turn ≤ 3) (h2 : h.log ≤ 1) (h3 : h.rows ≤ 80) : hdParse h.slot (onDisk (hdText h)) = h := by
  have hon : onDisk (hdText h) = ⟨(titleL ++ ([UInt8.ofNat h.turn, UInt8.ofNat h.log, UInt8.ofNat h.rows] ++ List.replicate 60 0)).toArray⟩ := by
    unfold onDisk pad80
    rw [hdText_size, hdText_list, List.append_assoc]
  have hsz : (onDisk (hdText h)).size = 80 := by rw [hon]; show List.length _ = 80; simp [titleL]
  have hr : hdRest (onDisk (hdText h)) = ⟨([UInt8.ofNat h.turn, UInt8.ofNat h.log, UInt8.ofNat h.rows] ++ List.replicate 60 0).toArray⟩ := by
    unfold hdRest
    rw [hsz, hon, extract_list, List.drop_append_of_le_length (by simp [titleL]), List.drop_of_length_le (by simp [titleL]), List.nil_append, List.take_of_length_le (by simp)]
  have b0 : bt (hdRest (onDisk (hdText h))) 0 = (h.turn : Int) := by rw [hr, bt_list]; simp; omega
  have b1 : bt (hdRest (onDisk (hdText h))) 1 = (h.log : Int) := by rw [hr, bt_list]; simp; omega
  have b2 : bt (hdRest (onDisk (hdText h))) 2 = (h.rows : Int) := by rw [hr, bt_list]; simp; omega
  have ht : ((onDisk (hdText h)).extract 0 17).toList = titleL := by
    rw [hon, extract_list, List.drop_zero, List.take_append_of_le_length (by simp [titleL]), List.take_of_length_le (by simp [titleL]), ByteArray.toList_eq]
  have hg : hdGood (onDisk (hdText h)) = true := by
    unfold hdGood
    rw [ht, b0, b1, b2]
    simp
    omega
  unfold hdParse
  rw [if_pos hg, b0, b1, b2]
  simp

theorem data_extract (T : ByteArray) (a b : Nat) : (T.extract a b).data.toList = (T.data.toList.drop a).take (b - a) := by
  conv => lhs; rw [list_eta T, extract_list]
theorem pcs_pad : ∀ (f k : Nat) (T : ByteArray), T.size ≤ f → ∃ z, (pcs f k T).flatMap (fun x => pad80 x.1.2) = T.data.toList ++ z
  | 0, _, T, h => ⟨[], by
    have : T.data.toList = [] := List.length_eq_zero_iff.1 (show T.data.toList.length = 0 from by show T.size = 0; omega)
    simp [pcs, this]⟩
  | f + 1, k, T, h => by
    have hl : T.data.toList.length = T.size := rfl
    unfold pcs
    by_cases h0 : T.size = 0
    · rw [if_pos h0]
      have : T.data.toList = [] := List.length_eq_zero_iff.1 (by omega)
      exact ⟨[], by simp [this]⟩
    · rw [if_neg h0, List.flatMap_cons]
      obtain ⟨z, hz⟩ := pcs_pad f (k + 1) (T.extract (min T.size 80) T.size) (by simp; omega)
      rw [hz, data_extract]
      have hp : pad80 (pc1 k T).1.2 = (T.data.toList.take (min T.size 80)) ++ List.replicate (80 - min T.size 80) 0 := by
        unfold pad80 pc1
        simp only [ByteArray.size_extract, data_extract, List.drop_zero, Nat.sub_zero]
        congr 2
        omega
      rw [hp]
      by_cases h8 : T.size ≤ 80
      · rw [Nat.min_eq_left h8]
        refine ⟨List.replicate (80 - T.size) 0 ++ z, ?_⟩
        rw [List.take_of_length_le (by omega), List.drop_of_length_le (by omega)]
        simp
      · rw [Nat.min_eq_right (by omega)]
        refine ⟨z, ?_⟩
        rw [List.take_of_length_le (l := T.data.toList.drop 80) (by rw [List.length_drop]; omega), ← List.append_assoc]
        congr 1
        simp
theorem pcs_count : ∀ (f k : Nat) (T : ByteArray), 80 * (pcs f k T).length ≤ T.size + 79
  | 0, _, _ => by simp [pcs]
  | f + 1, k, T => by
    unfold pcs
    split
    · simp
    · have := pcs_count f (k + 1) (T.extract (min T.size 80) T.size)
      simp only [ByteArray.size_extract, List.length_cons] at this ⊢
      omega
theorem pcs_at : ∀ (f k : Nat) (T : ByteArray), k + f ≤ 403000 → ∀ i, (h : i < (pcs f k T).length) → (pcs f k T)[i].1.1 = k + i
  | 0, k, T, _, i, h => by simp [pcs] at h
  | f + 1, k, T, hk, i, h => by
    by_cases h0 : T.size = 0
    · simp [pcs, h0] at h
    · have e : pcs (f + 1) k T = pc1 k T :: pcs f (k + 1) (T.extract (min T.size 80) T.size) := by
        rw [pcs, if_neg h0]
      have h' := h
      rw [e] at h'
      cases i with
      | zero => simp only [e, List.getElem_cons_zero]; unfold pc1; show min k 403000 = k + 0; omega
      | succ i =>
        simp only [e, List.getElem_cons_succ]
        rw [pcs_at f (k + 1) _ (by omega) i (by simpa using h')]
        omega
end Go.Proofs.Ythhedahfmllnoaa
