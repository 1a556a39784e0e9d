/- LogSays: Add on a disk that is not armed, whatever waits there. -/
import Derived.Test.YtllaohobmkcmfaaTl2
namespace Go.Proofs.Ytllaohobmkcmfaa
open Go.RowKit Go.PlainAid

/-- What is written and flushed does not depend on what waited. -/
theorem lgWrite_saved {n : Nat} : ∀ (xs : List ByteArray) (k : Nat) (D D2 : DkM), Calm n D → Calm n D2 → dkSaved D = dkSaved D2 → (∀ x ∈ xs, x.size ≤ 80) → k + xs.length ≤ n → lgWrite xs k D = lgWrite xs k D2
  | [], k, D, D2, h, h2, e, _, _ => by rw [lgWrite, lgWrite, h.flush, h2.flush, h.stepE, h2.stepE, e]
  | x :: r, k, D, D2, h, h2, e, hs, hk => by
    simp only [List.length_cons] at hk
    have hb : ¬ badAt n (k : Int) x := by unfold badAt; have := hs x (by simp); omega
    have e1 : D.now = D2.now := by
      have : (dkSaved D).now = (dkSaved D2).now := by rw [e]
      exact this
    have hw : dkSaved (dkWrite D k x) = dkSaved (dkWrite D2 k x) := by
      rw [h.write, h2.write, if_neg hb, if_neg hb]
      have e2 : D.left = D2.left := h.left.trans h2.left.symm
      have e3 : D.down = D2.down := h.down.trans h2.down.symm
      simp only [dkSaved, dkPut, e1, e2, e3]
    have ih := lgWrite_saved r (k + 1) _ _ (h.writes k x) (h2.writes k x) hw (fun y hy => hs y (by simp [hy])) (by omega)
    rw [lgWrite, lgWrite, h.writeE, h2.writeE, if_neg hb, if_pos rfl, if_pos rfl, ih]

theorem lgPut_saved {n : Nat} {D : DkM} {L : LgM} {l : List Ch} (h : Calm n D) (hfit : L.fin + l.length + 1 ≤ L.many) (hn : L.frm + L.many ≤ n) : lgPut (entSecs L l) L D = lgPut (entSecs L l) L (dkSaved D) := by
  have hb : ∀ x ∈ [blankT], x.size ≤ 80 := fun x hx => by rw [List.mem_singleton.1 hx]; simp [blankT, ByteArray.size]
  have e := lgWrite_saved [blankT] (L.frm + L.fin) D (dkSaved D) h h.saved rfl hb (by simp; omega)
  unfold lgPut
  rw [e]

theorem chsErr_nonneg : ∀ l : List Ch, 0 ≤ chsErr l
  | [] => by simp [chsErr]
  | c :: r => by
    rw [chsErr]; split
    · exact chsErr_nonneg r
    · exact chErr_nonneg c
/-- The number of Add's error where the disk does not fail. -/
def addE (L : LgM) (l : List Ch) : Int := if 72 < l.length then 2 else if L.many < L.fin + l.length + 1 then 8 else chsErr l
theorem addE_range (L : LgM) (l : List Ch) : 0 ≤ addE L l := by
  unfold addE; split
  · omega
  · split
    · omega
    · exact chsErr_nonneg l
theorem calm_add {n : Nat} {D : DkM} {L : LgM} {want : List (List Ch)} (hc : Calm n D) (h : LInv (dkSaved D) L want) (hn : L.frm + L.many ≤ n) (l : List Ch) :
    (addE L l = 0 ∧ ∃ D', lgAdd l L D = ({ L with fin := L.fin + l.length + 1 }, D', 0) ∧ Calm n D' ∧ D'.wr = [] ∧ LInv (dkSaved D') { L with fin := L.fin + l.length + 1 } (want ++ [l])) ∨ (addE L l ≠ 0 ∧ lgAdd l L D = (L, D, addE L l)) := by
  unfold addE lgAdd
  by_cases h72 : 72 < l.length
  · rw [if_pos h72, if_pos h72]; exact .inr ⟨by simp, rfl⟩
  · rw [if_neg h72, if_neg h72]
    by_cases hf : L.many < L.fin + l.length + 1
    · rw [if_pos hf, if_pos hf]; exact .inr ⟨by simp, rfl⟩
    · rw [if_neg hf, if_neg hf]
      by_cases hce : chsErr l = 0
      · left
        refine ⟨hce, ?_⟩
        have hfit : L.fin + l.length + 1 ≤ L.many := by omega
        obtain ⟨p1, p2⟩ := calm_put hc hce hfit hn
        rw [if_neg (by simp [hce]), if_neg (by simp [p1])]
        refine ⟨_, rfl, p2, ?_⟩
        rw [lgPut_saved hc hfit hn]
        have p1' := p1
        rw [lgPut_saved hc hfit hn] at p1'
        rcases put_spec h l hce hfit with ⟨_, h2, _⟩ | ⟨h1, _⟩
        · refine ⟨h2.wr, ⟨h2.up, rfl, rfl, h2.fit, h2.fin, h2.read⟩⟩
        · omega
      · right
        rw [if_pos hce]
        exact ⟨hce, rfl⟩
end Go.Proofs.Ytllaohobmkcmfaa
