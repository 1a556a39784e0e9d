/- The store, pure: what a disk holds as a store. -/
import Derived.Test.YthhedahfmllnoaaZqStP3
namespace Go.Proofs.Ythhedahfmllnoaa

def nHead (now : List (List UInt8)) (slot : Nat) : Hd := hdParse slot ⟨(now.getD (slot * 61) []).toArray⟩
def nNew (now : List (List UInt8)) : Hd := hdPick (nHead now 0) (nHead now 1)
def nSlot (now : List (List UInt8)) (slot : Nat) : List UInt8 := (List.range 60).flatMap fun j => now.getD (slot * 61 + (j + 1)) []
def nRead (now : List (List UInt8)) (h : Hd) : Int × List Ch := if h.turn = 0 then (4, []) else stParse h.rows ⟨(nSlot now h.slot).toArray⟩ []
def nLog (now : List (List UInt8)) (h : Hd) : List (List Ch) × Nat := lgRead (1 + h.log) (txt now 122 (now.length - 122)) 0 [] [] 0

theorem getD_same {a b : List (List UInt8)} {p : Nat} (h : a[p]? = b[p]?) : a.getD p [] = b.getD p [] := by
  rw [List.getD_eq_getElem?_getD, List.getD_eq_getElem?_getD, h]
theorem up_read {D : DkM} (hd : D.down = false) {k : Int} (h0 : 0 ≤ k) (hk : k < D.now.length) : dkRead D k = ⟨(D.now.getD k.toNat []).toArray⟩ := by
  have he : dkReadE D k = 0 := by unfold dkReadE; rw [if_neg (by rw [hd]; simp), if_pos ⟨h0, hk⟩]
  unfold dkRead; rw [if_pos he]
theorem nwH_now {D : DkM} (hd : D.down = false) (hn : 122 ≤ D.now.length) : nwH D = nNew D.now := by
  show hdPick (hdPick hd0 (hdParse 0 (dkRead D (((0 : Nat) : Int) * 61)))) (hdParse 1 (dkRead D (((1 : Nat) : Int) * 61))) = _
  rw [up_read hd (by omega) (by omega), up_read hd (by omega) (by omega)]
  rfl
theorem slot_now {D : DkM} (hd : D.down = false) (hn : 122 ≤ D.now.length) {slot : Nat} (hs : slot ≤ 1) : slotText D slot = ⟨(nSlot D.now slot).toArray⟩ := by
  unfold slotText slotBytes nSlot
  congr 2
  rw [List.flatMap_def, List.flatMap_def]
  congr 1
  apply List.map_congr_left
  intro j hj
  have hj' := List.mem_range.1 hj
  rw [up_read hd (by omega) (by omega), show ((slot : Int) * 61 + ((j : Int) + 1)).toNat = slot * 61 + (j + 1) by omega]
theorem hdRead_now {D : DkM} (hd : D.down = false) (hn : 122 ≤ D.now.length) {h : Hd} (hs : h.slot ≤ 1) : hdRead D h = nRead D.now h := by
  unfold hdRead nRead
  rw [slot_now hd hn hs]
theorem opLog_now {D : DkM} (hd : D.down = false) (hn : 122 ≤ D.now.length) : opLog D = nLog D.now (nNew D.now) := by
  unfold opLog
  rw [nwH_now hd hn]
  rfl
theorem stFin_now (D : DkM) (h : Hd) : stFin D h = (nLog D.now h).2 := rfl

/-- A store lies in sectors. -/
structure StOn (now : List (List UInt8)) (S : StM) : Prop where
  head : nNew now = S.head
  turn : ¬ S.head.turn = 0
  log : S.log = stLog now.length S.head (nLog now S.head).2
  rows : ∃ m, nRead now S.head = (0, m) ∧ SortedCh m ∧ m.length ≤ 80 ∧ (∀ x ∈ m, chErr x = 0) ∧ S.rows = stRows m (nLog now S.head).1
  len : S.rows.length ≤ 80

theorem nHead_small (now : List (List UInt8)) (k : Nat) : (nHead now k).turn ≤ 3 ∧ (nHead now k).log ≤ 1 ∧ (nHead now k).rows ≤ 80 ∧ (nHead now k).slot = k := hdParse_small k _
theorem nNew_cases (now : List (List UInt8)) : (nNew now = nHead now 0 ∧ ¬ (nHead now 0).turn = 0) ∨ nNew now = nHead now 1 := by
  unfold nNew hdPick
  by_cases h : (nHead now 0).turn = 0 ∨ (nHead now 1).turn = (nHead now 0).turn % 3 + 1
  · rw [if_pos h]; exact .inr rfl
  · rw [if_neg h]; exact .inl ⟨rfl, fun e => h (.inl e)⟩
theorem nNew_small (now : List (List UInt8)) : (nNew now).turn ≤ 3 ∧ (nNew now).log ≤ 1 ∧ (nNew now).rows ≤ 80 ∧ (nNew now).slot ≤ 1 := by
  rcases nNew_cases now with ⟨h, _⟩ | h
  · rw [h]; have := nHead_small now 0; omega
  · rw [h]; have := nHead_small now 1; omega
theorem nNew_own (now : List (List UInt8)) : nHead now (nNew now).slot = nNew now := by
  rcases nNew_cases now with ⟨h, _⟩ | h
  · rw [h, (nHead_small now 0).2.2.2]
  · rw [h, (nHead_small now 1).2.2.2]

theorem nHead_same {a b : List (List UInt8)} {k : Nat} (h : a[k * 61]? = b[k * 61]?) : nHead a k = nHead b k := by
  unfold nHead; rw [getD_same h]
theorem nNew_same {a b : List (List UInt8)} (h0 : a[0]? = b[0]?) (h1 : a[61]? = b[61]?) : nNew a = nNew b := by
  unfold nNew; rw [nHead_same (k := 0) h0, nHead_same (k := 1) h1]
theorem nRead_same {a b : List (List UInt8)} {h : Hd} (hs : ∀ j, j < 60 → a[h.slot * 61 + (j + 1)]? = b[h.slot * 61 + (j + 1)]?) : nRead a h = nRead b h := by
  have e : nSlot a h.slot = nSlot b h.slot := by
    unfold nSlot
    rw [List.flatMap_def, List.flatMap_def]
    congr 1
    apply List.map_congr_left
    intro j hj
    exact getD_same (hs j (List.mem_range.1 hj))
  unfold nRead; rw [e]
theorem nLog_same {a b : List (List UInt8)} {h : Hd} (hl : a.length = b.length) (hs : ∀ p, 122 ≤ p → a[p]? = b[p]?) : nLog a h = nLog b h := by
  have e : txt a 122 (a.length - 122) = txt b 122 (b.length - 122) := by
    unfold txt
    rw [hl]
    apply List.map_congr_left
    intro j _
    rw [getD_same (hs (122 + j) (by omega))]
  unfold nLog; rw [e]

/-- Only the rows of the slot that doesn't count are others. -/
theorem StOn.frame {now now' : List (List UInt8)} {S : StM} (h : StOn now S) (hl : now'.length = now.length) (hf : ∀ p, (p < (S.head.slot + 1) % 2 * 61 + 1 ∨ (S.head.slot + 1) % 2 * 61 + 61 ≤ p) → now'[p]? = now[p]?) : StOn now' S := by
  have hsm := nNew_small now
  rw [h.head] at hsm
  have e1 : nNew now' = nNew now := nNew_same (hf 0 (by omega)) (hf 61 (by omega))
  have e2 : nRead now' S.head = nRead now S.head := nRead_same fun j hj => hf _ (by omega)
  have e3 : nLog now' S.head = nLog now S.head := nLog_same hl fun p hp => hf p (by omega)
  obtain ⟨m, r1, r2⟩ := h.rows
  exact ⟨by rw [e1]; exact h.head, h.turn, by rw [e3, hl]; exact h.log, ⟨m, by rw [e2]; exact r1, by rw [e3]; exact r2⟩, h.len⟩

theorem range_prefix : ∀ (l : List (List UInt8)) (n : Nat) (f : Nat → List UInt8), l.length ≤ n → (∀ j, (hj : j < l.length) → f j = l[j]) → ∃ z, (List.range n).flatMap f = l.flatten ++ z
  | [], n, f, _, _ => ⟨(List.range n).flatMap f, by simp⟩
  | x :: l, 0, f, h, _ => by simp at h
  | x :: l, n + 1, f, h, hf => by
    obtain ⟨z, hz⟩ := range_prefix l n (fun j => f (j + 1)) (by simpa using h) (fun j hj => hf (j + 1) (by simpa using hj))
    refine ⟨z, ?_⟩
    rw [List.range_succ_eq_map, List.flatMap_cons, List.flatMap_map, hf 0 (by simp)]
    have : (List.range n).flatMap (fun a => f a.succ) = l.flatten ++ z := hz
    rw [this]
    simp

/-- A slot is written with its header. -/
theorem on_new {now now' : List (List UInt8)} {h : Hd} {rows : List Ch} (hh : nNew now = h) (hn : 122 ≤ now.length) (hr : rows.length ≤ 80) (hg : ∀ x ∈ rows, chErr x = 0) (hs : SortedCh rows) (h' : Hd) (hh' : hdNext h rows.length (decide ((nLog now h).2 = 0)) = h')
    (hy : ((pcsOf ⟨(stText rows).toArray⟩).map fun x => x.1.2).length ≤ 60) (hnow : now' = (setAll now (h'.slot * 61 + 1) ((pcsOf ⟨(stText rows).toArray⟩).map fun x => x.1.2)).set (h'.slot * 61) (pad80 (hdText h'))) :
    StOn now' ⟨h', stLog now.length h' 0, rows⟩ ∧ nLog now' h' = ([], 0) ∧ now'.length = now.length := by
  have hsm := nNew_small now
  have hown := nNew_own now
  rw [hh] at hsm hown
  have hsl : h'.slot = (h.slot + 1) % 2 := by rw [← hh']; rfl
  have htn : h'.turn = h.turn % 3 + 1 := by rw [← hh']; rfl
  have hrw : h'.rows = rows.length := by rw [← hh']; rfl
  have hlg : h'.log = if (nLog now h).2 = 0 then h.log else (h.log + 1) % 2 := by rw [← hh']; simp [hdNext]
  have hlen : now'.length = now.length := by rw [hnow, List.length_set, setAll_length]
  have out : ∀ p, (p < h'.slot * 61 ∨ h'.slot * 61 + 61 ≤ p) → now'[p]? = now[p]? := fun p hp => by
    rw [hnow, List.getElem?_set_ne (by omega), setAll_out _ _ _ _ (by omega)]
  have hat : now'[h'.slot * 61]? = some (pad80 (hdText h')) := by
    rw [hnow, List.getElem?_set_self (by rw [setAll_length]; omega)]
  have hpar : nHead now' h'.slot = h' := by
    unfold nHead
    rw [List.getD_eq_getElem?_getD, hat]
    exact hdParse_text h' (by omega) (by rw [hlg]; split <;> omega) (by omega)
  have hold : nHead now' h.slot = h := (nHead_same (out _ (by omega))).trans hown
  have hnew : nNew now' = h' := by
    unfold nNew
    by_cases h0 : h.slot = 0
    · have h1 : h'.slot = 1 := by omega
      rw [h0] at hold
      rw [h1] at hpar
      rw [hold, hpar]
      unfold hdPick
      rw [if_pos (.inr htn)]
    · have h1 : h.slot = 1 := by omega
      have h2 : h'.slot = 0 := by omega
      rw [h1] at hold
      rw [h2] at hpar
      rw [hold, hpar]
      unfold hdPick
      rw [if_neg (by omega)]
  have hlog : nLog now' h' = ([], 0) := by
    have e : nLog now' h' = nLog now h' := nLog_same hlen fun p hp => out p (by omega)
    rw [e]
    by_cases hz : (nLog now h).2 = 0
    · rw [if_pos hz] at hlg
      unfold nLog at hz ⊢
      rw [hlg]
      exact lgRead_none hz
    · rw [if_neg hz] at hlg
      unfold nLog at hz ⊢
      exact lgRead_other hz (by omega) (by omega) (by omega)
  have hread : nRead now' h' = (0, rows) := by
    unfold nRead
    rw [if_neg (by omega), hrw]
    obtain ⟨z, hz⟩ := pcs_pad (⟨(stText rows).toArray⟩ : ByteArray).size 0 ⟨(stText rows).toArray⟩ (Nat.le_refl _)
    obtain ⟨z2, hz2⟩ := range_prefix (((pcsOf ⟨(stText rows).toArray⟩).map fun x => x.1.2).map pad80) 60 (fun j => now'.getD (h'.slot * 61 + (j + 1)) []) (by rw [List.length_map]; exact hy) (fun j hj => by
      have hj' : j < ((pcsOf ⟨(stText rows).toArray⟩).map fun x => x.1.2).length := by simpa using hj
      rw [List.getD_eq_getElem?_getD, hnow, List.getElem?_set_ne (by omega), show h'.slot * 61 + (j + 1) = h'.slot * 61 + 1 + j by omega, setAll_in _ _ _ j hj' (by omega)]
      simp)
    have e : nSlot now' h'.slot = stText rows ++ (z ++ z2) := by
      unfold nSlot
      rw [hz2, List.map_map, ← List.flatMap_def]
      rw [show pcs (⟨(stText rows).toArray⟩ : ByteArray).size 0 ⟨(stText rows).toArray⟩ = pcsOf ⟨(stText rows).toArray⟩ from rfl] at hz
      rw [show (pcsOf ⟨(stText rows).toArray⟩).flatMap (pad80 ∘ fun x => x.1.2) = (pcsOf ⟨(stText rows).toArray⟩).flatMap (fun x => pad80 x.1.2) from rfl, hz]
      simp
    rw [e, stParse_text rows _ [] hg]
    rfl
  refine ⟨⟨hnew, ?_, ?_, ⟨rows, hread, hs, hr, hg, ?_⟩, hr⟩, hlog, hlen⟩
  · show ¬ h'.turn = 0; omega
  · show stLog now.length h' 0 = stLog now'.length h' (nLog now' h').2
    rw [hlog, hlen]
  · show rows = stRows rows (nLog now' h').1
    rw [hlog]; rfl
end Go.Proofs.Ythhedahfmllnoaa
