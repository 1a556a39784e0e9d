/- A log's sectors, read back: what was written is read, a blank sector ends the log. -/
import Derived.Test.YthhedahfmllnoaaZqLg10
namespace Go.Proofs.Ythhedahfmllnoaa
open Go.RowKit Go.PlainAid

/-! Bytes of a text that is given as a list. -/
theorem bt_list (l : List UInt8) (k : Nat) : bt (⟨l.toArray⟩ : ByteArray) k = ((l.getD k 0).toNat : Int) := by
  unfold bt
  have hs : (⟨l.toArray⟩ : ByteArray).size = l.length := rfl
  by_cases h : k < l.length
  · rw [dif_pos (by rw [hs]; exact h)]
    have : (⟨l.toArray⟩ : ByteArray)[k]'(by rw [hs]; exact h) = l[k] := rfl
    rw [this]
    simp [List.getD, List.getElem?_eq_getElem h]
  · rw [dif_neg (by rw [hs]; exact h)]
    simp [List.getD, List.getElem?_eq_none (by omega : l.length ≤ k)]
theorem extract_list (l : List UInt8) (a b : Nat) : (⟨l.toArray⟩ : ByteArray).extract a b = ⟨((l.drop a).take (b - a)).toArray⟩ := by
  apply ByteArray.ext
  rw [ByteArray.data_extract]
  simp
theorem list_eta (x : ByteArray) : x = ⟨x.data.toList.toArray⟩ := by cases x; simp
theorem append_list (a b : List UInt8) : (⟨a.toArray⟩ : ByteArray) ++ ⟨b.toArray⟩ = ⟨(a ++ b).toArray⟩ := by
  apply ByteArray.ext
  rw [ByteArray.data_append]
  simp

/-- A sector's bytes, as a list. -/
def secL (n : Nat) (kind : UInt8) (body : ByteArray) : List UInt8 := kind :: (lit n 4 ++ (lit body.size 2 ++ body.data.toList))
theorem secB_list (n : Nat) (kind : UInt8) (body : ByteArray) : secB n kind body = ⟨(secL n kind body).toArray⟩ := by
  unfold secB secL
  conv => lhs; rw [list_eta body]
  rw [append_list, append_list, append_list]
  simp only [List.append_assoc, List.cons_append, List.nil_append]
theorem secL_length (n : Nat) (kind : UInt8) (body : ByteArray) : (secL n kind body).length = 7 + body.size := by
  have : body.data.toList.length = body.size := rfl
  simp only [secL, List.length_cons, List.length_append, lit_length, this]; omega
/-- A sector as it lies on the disk. -/
def onDisk (x : ByteArray) : ByteArray := ⟨(pad80 x).toArray⟩
theorem lit4 (n : Nat) : ∃ a b c d, lit n 4 = [a, b, c, d] := ⟨_, _, _, _, rfl⟩
theorem lit2 (n : Nat) : lit n 2 = [UInt8.ofNat n, UInt8.ofNat (n / 256)] := by simp [lit, List.range, List.range.loop]

theorem sector_ok (n : Nat) (kind : UInt8) (body : ByteArray) (hb : body.size ≤ 73) :
    ctKind n (onDisk (secB n kind body)) = (kind.toNat : Int) ∧ ctBody n (onDisk (secB n kind body)) = body := by
  obtain ⟨z, hz⟩ : ∃ z, pad80 (secB n kind body) = secL n kind body ++ z := by
    refine ⟨List.replicate (80 - (secB n kind body).size) 0, ?_⟩
    unfold pad80
    rw [secB_list]
  obtain ⟨a, b, c, d, h4⟩ := lit4 n
  have h2 := lit2 body.size
  have hbl : body.data.toList.length = body.size := rfl
  have hsl : secL n kind body ++ z = kind :: a :: b :: c :: d :: UInt8.ofNat body.size :: UInt8.ofNat (body.size / 256) :: (body.data.toList ++ z) := by
    unfold secL; rw [h4, h2]; simp
  have hon : onDisk (secB n kind body) = ⟨(secL n kind body ++ z).toArray⟩ := by unfold onDisk; rw [hz]
  have hlen : ctLen (onDisk (secB n kind body)) = body.size := by
    unfold ctLen
    rw [hon, bt_list, bt_list, hsl]
    simp only [List.getD_cons_succ, List.getD_cons_zero]
    simp
    omega
  have htx : ctText (onDisk (secB n kind body)) = body := by
    unfold ctText
    rw [hlen, hon, extract_list, hsl]
    simp only [List.drop_succ_cons, List.drop_zero, Nat.add_sub_cancel_left]
    rw [List.take_append_of_le_length (by omega), List.take_of_length_le (by omega)]
  have h0 : bt (onDisk (secB n kind body)) 0 = (kind.toNat : Int) := by rw [hon, bt_list, hsl]; simp
  have hb0 : byteAt (onDisk (secB n kind body)) 0 = kind := by unfold byteAt; rw [h0]; simp
  have hok : ctOk n (onDisk (secB n kind body)) = true := by
    unfold ctOk
    rw [hlen, htx, hb0]
    have he : (onDisk (secB n kind body)).extract 0 (7 + body.size) = secB n kind body := by
      rw [hon, extract_list, secB_list]
      simp only [List.drop_zero, Nat.sub_zero]
      rw [List.take_append_of_le_length (by rw [secL_length]; omega), List.take_of_length_le (by rw [secL_length]; omega)]
    rw [he]
    simp [hb]
  unfold ctKind ctBody
  rw [if_pos hok, if_pos hok]
  exact ⟨h0, htx⟩

theorem blank_kind (n : Nat) : ctKind n (onDisk blankT) = 0 := by
  unfold ctKind
  split
  · have : onDisk blankT = ⟨(List.replicate 80 (0 : UInt8)).toArray⟩ := rfl
    rw [this, bt_list]; rfl
  · rfl

/-- A change's bytes are read back. -/
theorem parse_bytes (c : Ch) (h : chErr c = 0) : parseE (chBytes c) = 0 ∧ parseC (chBytes c) = c := by
  have h9 : 1 ≤ c.key.size ∧ c.key.size ≤ 8 ∧ c.val.size ≤ 48 := by
    have h' := h
    unfold chErr at h'
    split at h'
    · omega
    · split at h'
      · omega
      · omega
  have hkl : c.key.data.toList.length = c.key.size := rfl
  have hvl : c.val.data.toList.length = c.val.size := rfl
  have hcb : chBytes c = ⟨((if c.gone then 1 else 0) :: UInt8.ofNat c.key.size :: (c.key.data.toList ++ c.val.data.toList)).toArray⟩ := by
    unfold chBytes
    conv => lhs; rw [list_eta c.key, list_eta c.val]
    rw [append_list]
    have e : (⟨#[if c.gone then 1 else 0, UInt8.ofNat (ByteArray.mk c.key.data.toList.toArray).size]⟩ : ByteArray) = ⟨[if c.gone then (1 : UInt8) else 0, UInt8.ofNat c.key.size].toArray⟩ := rfl
    rw [e, append_list]
    simp
  have hsz : (chBytes c).size = 2 + c.key.size + c.val.size := by
    rw [hcb]
    show List.length _ = _
    simp only [List.length_cons, List.length_append, hkl, hvl]; omega
  have b0 : bt (chBytes c) 0 = if c.gone then 1 else 0 := by rw [hcb, bt_list]; cases c.gone <;> rfl
  have b1 : bt (chBytes c) 1 = (c.key.size : Int) := by
    rw [hcb, bt_list]
    simp only [List.getD_cons_succ, List.getD_cons_zero]
    simp
    omega
  have hbad : ¬ chBad (chBytes c) := by
    unfold chBad
    rw [hsz, b0, b1]
    split <;> omega
  have hcut : chCut (chBytes c) = c := by
    unfold chCut
    rw [b0, b1, hsz, Int.toNat_natCast, hcb, extract_list, extract_list]
    obtain ⟨key, val, gone⟩ := c
    simp only [] at *
    congr 1
    · simp only [List.drop_succ_cons, List.drop_zero, Nat.add_sub_cancel_left]
      rw [List.take_append_of_le_length (by omega), List.take_of_length_le (by omega)]
    · rw [show 2 + key.size = key.size + 1 + 1 by omega]
      simp only [List.drop_succ_cons]
      rw [List.drop_append_of_le_length (by omega), List.drop_of_length_le (by omega), List.nil_append, List.take_of_length_le (by omega)]
    · cases gone <;> rfl
  have hE : parseE (chBytes c) = 0 := by unfold parseE; rw [if_neg hbad, hcut, if_pos h]
  exact ⟨hE, by unfold parseC; rw [if_pos hE, hcut]⟩

/-! Reading. -/
theorem read_blank (first : Nat) (r : List ByteArray) (k : Nat) (cs : List Ch) (es : List (List Ch)) (e : Nat) : lgRead first (onDisk blankT :: r) k cs es e = (es, e) := by
  rw [lgRead, blank_kind, if_neg (by omega), if_neg (by omega)]

theorem read_end (first : Nat) : ∀ (r : List ByteArray) (k : Nat) (cs : List Ch) (es : List (List Ch)) (e : Nat), lgRead first r k cs es e = (es, e) ∨ k < (lgRead first r k cs es e).2
  | [], _, _, _, _ => .inl rfl
  | s :: r, k, cs, es, e => by
    rw [lgRead]
    split
    · rcases read_end first r (k + 1) (cs ++ [parseC (ctBody (first + k) s)]) es e with h | h
      · exact .inl h
      · exact .inr (by omega)
    · split
      · rcases read_end first r (k + 1) [] (es ++ [cs]) (k + 1) with h | h
        · exact .inr (by rw [h]; simp)
        · exact .inr (by omega)
      · exact .inl rfl

/-- What is read up to the end of the last entry does not hang on what lies behind it. -/
theorem read_split (first : Nat) : ∀ (a b b' : List ByteArray) (k : Nat) (cs : List Ch) (es es' : List (List Ch)) (e : Nat), e ≤ k → (e = k → cs = []) → lgRead first (a ++ b) k cs es e = (es', k + a.length) →
    lgRead first (a ++ b') k cs es e = lgRead first b' (k + a.length) [] es' (k + a.length)
  | [], b, b', k, cs, es, es', e, he, hcs, h => by
    simp only [List.nil_append, List.length_nil, Nat.add_zero] at h ⊢
    rcases read_end first b k cs es e with h1 | h1
    · rw [h1] at h
      injection h with h2 h3
      subst h2 h3
      rw [hcs rfl]
    · rw [h] at h1; simp at h1
  | s :: a, b, b', k, cs, es, es', e, he, hcs, h => by
    simp only [List.cons_append, List.length_cons] at h ⊢
    rw [show k + (a.length + 1) = k + 1 + a.length by omega] at h ⊢
    rw [lgRead] at h ⊢
    by_cases h1 : ctKind (first + k) s = 111 ∧ parseE (ctBody (first + k) s) = 0
    · rw [if_pos h1] at h ⊢
      exact read_split first a b b' (k + 1) _ es es' e (by omega) (fun h => by omega) h
    · rw [if_neg h1] at h ⊢
      by_cases h2 : ctKind (first + k) s = 99 ∧ (ctBody (first + k) s).toList = lit cs.length 4
      · rw [if_pos h2] at h ⊢
        exact read_split first a b b' (k + 1) [] _ es' (k + 1) (Nat.le_refl _) (fun _ => rfl) h
      · rw [if_neg h2] at h
        injection h with _ h3
        omega

/-- An entry is read. -/
theorem read_entry (first : Nat) : ∀ (l : List Ch) (b : List ByteArray) (k : Nat) (cs : List Ch) (es : List (List Ch)) (e : Nat), chsErr l = 0 →
    lgRead first ((secsOf (first + k) l).map onDisk ++ (onDisk (secB (first + k + l.length) 99 ⟨(lit (cs.length + l.length) 4).toArray⟩) :: b)) k cs es e = lgRead first b (k + l.length + 1) [] (es ++ [cs ++ l]) (k + l.length + 1)
  | [], b, k, cs, es, e, _ => by
    simp only [secsOf, List.map_nil, List.nil_append, List.length_nil, Nat.add_zero, List.append_nil]
    obtain ⟨h1, h2⟩ := sector_ok (first + k) 99 ⟨(lit cs.length 4).toArray⟩ (by rw [lit_size]; omega)
    rw [lgRead, h1, h2, if_neg (by simp), if_pos ⟨by simp, by rw [ByteArray.toList_eq]⟩]
  | c :: r, b, k, cs, es, e, h => by
    rw [chsErr] at h
    have h0 : chErr c = 0 := by
      by_cases h0 : chErr c = 0
      · exact h0
      · rw [if_neg h0] at h; exact h
    rw [if_pos h0] at h
    have hsz := chBytes_size c h0
    obtain ⟨h1, h2⟩ := sector_ok (first + k) 111 (chBytes c) (by omega)
    obtain ⟨h3, h4⟩ := parse_bytes c h0
    simp only [secsOf, List.map_cons, List.cons_append, List.length_cons]
    rw [lgRead, h1, h2, h3, h4, if_pos ⟨by simp, rfl⟩]
    have := read_entry first r b (k + 1) (cs ++ [c]) es e h
    simp only [List.length_append, List.length_singleton, List.append_assoc, List.singleton_append] at this
    rw [show first + k + 1 = first + (k + 1) by omega, show first + k + (r.length + 1) = first + (k + 1) + r.length by omega, show cs.length + (r.length + 1) = cs.length + 1 + r.length by omega, show k + (r.length + 1) + 1 = k + 1 + r.length + 1 by omega]
    exact this
end Go.Proofs.Ythhedahfmllnoaa
