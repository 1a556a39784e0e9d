/- What put leaves on the disk, whether it fails or not. -/
import Derived.Test.YtllaohobmkcmfaaLgQ
namespace Go.Proofs.Ytllaohobmkcmfaa
open Go.RowKit Go.PlainAid

theorem rest_length {L : LgM} {l : List Ch} : (restOf (entSecs L l) (L.many - L.fin)).length = min (l.length + 1) (L.many - L.fin - 1) := by
  unfold restOf
  simp [entSecs_length]; omega
theorem rest_old {L : LgM} {l : List Ch} {j : Nat} (hj : j < l.length) (h : j < (restOf (entSecs L l) (L.many - L.fin)).length) (h2 : j + 1 < (entSecs L l).length) : (restOf (entSecs L l) (L.many - L.fin))[j] = (entSecs L l)[j + 1] := by
  have hr := h
  rw [rest_length] at hr
  apply Option.some.inj
  rw [← List.getElem?_eq_getElem h, ← List.getElem?_eq_getElem h2]
  unfold restOf
  rw [List.getElem?_take, if_pos (by omega), List.getElem?_append_left (by simp [entSecs_length]; omega), List.getElem?_tail]
theorem rest_last {L : LgM} {l : List Ch} (h : l.length < (restOf (entSecs L l) (L.many - L.fin)).length) : (restOf (entSecs L l) (L.many - L.fin))[l.length] = blankT := by
  have hr := h
  rw [rest_length] at hr
  apply Option.some.inj
  rw [← List.getElem?_eq_getElem h]
  unfold restOf
  rw [List.getElem?_take, if_pos (by omega), List.getElem?_append_right (by simp [entSecs_length])]
  simp [entSecs_length]
theorem ent_small {L : LgM} {l : List Ch} (h : chsErr l = 0) : ∀ x ∈ entSecs L l, x.size ≤ 80 := by
  intro x hx
  rcases List.mem_append.1 hx with hx | hx
  · have := secsOf_size l _ h x hx; omega
  · simp only [List.mem_singleton] at hx
    subst hx
    rw [secB_size, lit_size]; omega
theorem ent_head {L : LgM} {l : List Ch} (h : 0 < (entSecs L l).length) : (entSecs L l).headD blankT = (entSecs L l)[0] := by
  rw [List.headD_eq_head?_getD, List.head?_eq_getElem?, List.getElem?_eq_getElem h]
  rfl
theorem rest_small {L : LgM} {l : List Ch} (h : chsErr l = 0) : ∀ x ∈ restOf (entSecs L l) (L.many - L.fin), x.size ≤ 80 := by
  intro x hx
  unfold restOf at hx
  rcases List.mem_append.1 (List.mem_of_mem_take hx) with hx | hx
  · exact ent_small h x (List.mem_of_mem_tail hx)
  · simp only [List.mem_singleton] at hx
    subst hx; simp [blankT, ByteArray.size]

/-- What a log may read as behind a failure: as before, or with the entry. -/
def Either (now : List (List UInt8)) (L : LgM) (want : List (List Ch)) (l : List Ch) : Prop :=
  lgRead L.first (txt now L.frm L.many) 0 [] [] 0 = (want, L.fin) ∨ lgRead L.first (txt now L.frm L.many) 0 [] [] 0 = (want ++ [l], L.fin + l.length + 1)

theorem put_spec {D : DkM} {L : LgM} {want : List (List Ch)} (h : LInv D L want) (l : List Ch) (hl : chsErr l = 0) (hfit : L.fin + l.length + 1 ≤ L.many) :
    ((lgPut (entSecs L l) L D).2 = 0 ∧ LInv (lgPut (entSecs L l) L D).1 { L with fin := L.fin + l.length + 1 } (want ++ [l]) ∧ (lgPut (entSecs L l) L D).1.now.length = D.now.length) ∨
    ((lgPut (entSecs L l) L D).2 = 9 ∧ (lgPut (entSecs L l) L D).1.down = true ∧ ∀ keep, Either (dkRestart (lgPut (entSecs L l) L D).1 keep).now L want l ∧ (dkRestart (lgPut (entSecs L l) L D).1 keep).now.length = D.now.length) := by
  have hfits := h.fit
  have hSl := entSecs_length L l
  obtain ⟨N0, hN0⟩ : ∃ N0, D.now = N0 := ⟨_, rfl⟩
  have hlen0 : L.frm + L.many ≤ N0.length := by rw [← hN0]; exact h.fit
  have W1 := wrote [blankT] (L.frm + L.fin) D h.up (fun x hx => by simp at hx; subst hx; simp [blankT, ByteArray.size]) (by simp; omega)
  unfold lgPut
  generalize lgWrite [blankT] (L.frm + L.fin) D = P1 at *
  obtain ⟨D1, e1⟩ := P1
  simp only [] at W1 ⊢
  rcases W1 with ⟨rfl, h1n, h1d, h1w, h1u⟩ | ⟨rfl, h1u, h1d, i, h1w⟩
  · rw [if_pos rfl]
    have n1 : D1.now = N0.set (L.frm + L.fin) (pad80 blankT) := by rw [h1n, hN0]; rfl
    have W2 := wrote (restOf (entSecs L l) (L.many - L.fin)) (L.frm + (L.fin + 1)) D1 h1u (rest_small hl) (by rw [rest_length, n1, List.length_set]; omega)
    have hrl := @rest_length L l
    have lo1 : ∀ i, i < L.fin → D1.now[L.frm + i]? = D.now[L.frm + i]? := fun i hi => by rw [n1, hN0, List.getElem?_set_ne (by omega)]
    have at1 : D1.now[L.frm + L.fin]? = some (pad80 blankT) := by rw [n1, List.getElem?_set_self (by omega)]
    generalize lgWrite (restOf (entSecs L l) (L.many - L.fin)) (L.frm + (L.fin + 1)) D1 = P2 at *
    obtain ⟨D2, e2⟩ := P2
    simp only [] at W2 ⊢
    rcases W2 with ⟨rfl, h2n, h2d, h2w, h2u⟩ | ⟨rfl, h2u, h2d, i, h2w⟩
    · rw [if_pos rfl]
      have l2 : D2.now.length = N0.length := by rw [h2n, setAll_length, n1, List.length_set]
      have lo2 : ∀ i, i < L.fin → D2.now[L.frm + i]? = D.now[L.frm + i]? := fun i hi => by rw [h2n, setAll_out _ _ _ _ (by omega)]; exact lo1 i hi
      have at2 : D2.now[L.frm + L.fin]? = some (pad80 blankT) := by rw [h2n, setAll_out _ _ _ _ (by omega)]; exact at1
      have in2 : ∀ j, (hj : j < (restOf (entSecs L l) (L.many - L.fin)).length) → D2.now[L.frm + (L.fin + 1) + j]? = some (pad80 (restOf (entSecs L l) (L.many - L.fin))[j]) := fun j hj => by
        rw [h2n]; exact setAll_in _ _ _ j hj (by rw [n1, List.length_set, hrl]; omega)
      have hh : ((entSecs L l).headD blankT).size ≤ 80 := by
        rw [ent_head (by omega)]; exact ent_small hl _ (List.getElem_mem _)
      have W3 := wrote [(entSecs L l).headD blankT] (L.frm + L.fin) D2 h2u (fun x hx => by rw [List.mem_singleton.1 hx]; exact hh) (by simp; omega)
      have ENT : lgRead L.first (txt (D2.now.set (L.frm + L.fin) (pad80 ((entSecs L l).headD blankT))) L.frm L.many) 0 [] [] 0 = (want ++ [l], L.fin + l.length + 1) := by
        refine h.entry l hl hfit (fun i hi => by rw [List.getElem?_set_ne (by omega)]; exact lo2 i hi) (fun j hj => ?_) (fun hroom => ?_)
        · cases j with
          | zero => rw [Nat.add_zero, List.getElem?_set_self (by omega), ent_head (by omega)]
          | succ j =>
            rw [List.getElem?_set_ne (by omega), show L.frm + L.fin + (j + 1) = L.frm + (L.fin + 1) + j by omega, in2 j (by omega), rest_old (by omega) (by omega) (by omega)]
        · rw [List.getElem?_set_ne (by omega), show L.frm + (L.fin + l.length + 1) = L.frm + (L.fin + 1) + l.length by omega, in2 l.length (by omega), rest_last (by omega)]
      generalize lgWrite [(entSecs L l).headD blankT] (L.frm + L.fin) D2 = P3 at *
      obtain ⟨D3, e3⟩ := P3
      simp only [] at W3 ⊢
      rcases W3 with ⟨rfl, h3n, h3d, h3w, h3u⟩ | ⟨rfl, h3u, h3d, i, h3w⟩
      · have n3 : D3.now = D2.now.set (L.frm + L.fin) (pad80 ((entSecs L l).headD blankT)) := h3n
        refine .inl ⟨rfl, ⟨h3u, h3w, h3d, ?_, by simpa using hfit, ?_⟩, ?_⟩
        · show L.frm + L.many ≤ D3.now.length
          rw [n3, List.length_set, l2]; omega
        · show lgRead L.first (txt D3.now L.frm L.many) 0 [] [] 0 = _
          rw [n3]; exact ENT
        · rw [n3, List.length_set, l2, hN0]
      · refine .inr ⟨rfl, h3u, fun keep => ⟨?_, ?_⟩⟩
        · show Either (dkKeep keep 0 D3.wr D3.dur) L want l
          rw [h3w, h2w, List.nil_append, h3d, h2d]
          rcases keep_one keep 0 (L.frm + L.fin, pad80 ((entSecs L l).headD blankT)) i D2.now with hk | hk
          · rw [show wrs (L.frm + L.fin) [(entSecs L l).headD blankT] = [(L.frm + L.fin, pad80 ((entSecs L l).headD blankT))] from rfl, hk]
            exact .inl (h.blank (by omega) lo2 at2)
          · rw [show wrs (L.frm + L.fin) [(entSecs L l).headD blankT] = [(L.frm + L.fin, pad80 ((entSecs L l).headD blankT))] from rfl, hk]
            exact .inr ENT
        · show (dkKeep keep 0 D3.wr D3.dur).length = _
          rw [dkKeep_length, h3d, h2d, l2, hN0]
    · rw [if_neg (by omega)]
      refine .inr ⟨rfl, h2u, fun keep => ⟨.inl ?_, ?_⟩⟩
      · have hout : ∀ p, p ≤ L.frm + L.fin → (dkKeep keep 0 D2.wr D2.dur)[p]? = D1.now[p]? := fun p hp => by
          rw [h2w, h1w, List.nil_append, h2d, h1d]
          refine keep_out keep _ 0 _ p (fun q hq => ?_)
          have := wrs_at _ _ q (List.mem_of_mem_take hq)
          omega
        exact h.blank (by omega) (fun i hi => (hout _ (by omega)).trans (lo1 i hi)) ((hout _ (by omega)).trans at1)
      · show (dkKeep keep 0 D2.wr D2.dur).length = _
        rw [dkKeep_length, h2d, h1d, n1, List.length_set, hN0]
  · rw [if_neg (by omega)]
    refine .inr ⟨rfl, h1u, fun keep => ⟨.inl ?_, ?_⟩⟩
    · show lgRead L.first (txt (dkKeep keep 0 D1.wr D1.dur) L.frm L.many) 0 [] [] 0 = _
      rw [h1w, h.wr, List.nil_append, h1d, h.dur]
      rw [show wrs (L.frm + L.fin) [blankT] = [(L.frm + L.fin, pad80 blankT)] from rfl]
      rcases keep_one keep 0 (L.frm + L.fin, pad80 blankT) i D.now with hk | hk
      · rw [hk]; exact h.read
      · rw [hk]
        exact h.blank (by omega) (fun i hi => by rw [List.getElem?_set_ne (by omega)]) (by rw [List.getElem?_set_self (by omega)])
    · show (dkKeep keep 0 D1.wr D1.dur).length = _
      rw [dkKeep_length, h1d, h.dur]
end Go.Proofs.Ytllaohobmkcmfaa
