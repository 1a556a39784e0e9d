/- The store: Format, Rows, Open. -/
import Derived.Test.YthhedahfmllnoaaZqLg4
import Derived.Test.YthhedahfmllnoaaZqSt11
import Derived.Test.YthhedahfmllnoaaZqChC
/- Entries that a call is handed. -/
namespace Go.Proofs.Ythhedahfmllnoaa
open Go.RowKit

/-- Entries that a call is handed. -/
def DeedsIn (w : World) (A : Option Addr) (L : List (List Ch)) : Prop := ∀ i, (hi : i < L.length) → ∃ b off Ai ci, A = some ⟨b, off, none⟩ ∧ b < w.heap.size ∧ w.cell? ⟨b, off + i, none⟩ = some (.slice Ai L[i].length ci) ∧ ChsAt w Ai L[i]
theorem DeedsIn.below {w w' : World} {A : Option Addr} {L : List (List Ch)} (h : DeedsIn w A L) (hb : Below w.heap.size w w') : DeedsIn w' A L := fun i hi => by
  obtain ⟨b, off, Ai, ci, e, hlt, hc, hA⟩ := h i hi
  have := hb.size
  exact ⟨b, off, Ai, ci, e, by omega, (hb.cell (p := ⟨b, off + i, none⟩) hlt).trans hc, hA.below hb⟩

/-- Entries out of the log, as a call is handed them. -/
theorem deeds_in {w : World} {B : Nat} {A : Option Addr} {n c : Nat} {L : List (List Ch)} (h : DeedsAt w B (.slice A n c) L) (hz : ∀ l ∈ L, ∀ x ∈ l, x.key.size ≤ maxLen ∧ x.val.size ≤ maxLen) : DeedsIn w A L := fun i hi => by
  obtain ⟨vs, h1, h2, h3⟩ := h
  have hr := h3 i hi (by omega)
  obtain ⟨Ai, ci, e⟩ := slice_form (show w.ownsRow B 60 3 vs[i] L[i].length (chCells L[i]) from hr)
  rcases h2.2 with ⟨_, h0⟩ | ⟨g, cap, cur, e2, hB, hg, hnc, hcm, hcs, htk⟩
  · omega
  · simp only [Value.slice.injEq] at e2
    obtain ⟨rfl, _, _⟩ := e2
    refine ⟨g, 0, Ai, ci, rfl, (Array.getElem?_eq_some_iff.1 hg).1, ?_, ?_⟩
    · rw [cell_of_row _ _ _ _ _ _ hg]
      have : vs[i]? = some (.slice Ai L[i].length ci) := by rw [List.getElem?_eq_getElem (by omega), e]
      rw [← htk, List.getElem?_take] at this
      split at this
      · simpa using this
      · cases this
    · have hr' : w.ownsRow B 60 3 vs[i] L[i].length (chCells L[i]) := hr
      rw [e] at hr'
      exact chs_own hr' (fun x hx => hz _ (List.getElem_mem hi) x hx)
end Go.Proofs.Ythhedahfmllnoaa

/- The store: Format, Rows, Open. -/
namespace Go.Proofs.Ythhedahfmllnoaa
open Go.RowKit

theorem nwH_slot (D : DkM) : (nwH D).slot ≤ 1 := by
  show (hdPick (hdPick hd0 (hdParse 0 (dkRead D ((0 : Nat) : Int)))) (hdParse 1 _)).slot ≤ 1
  have h0 := hdParse_small 0 (dkRead D (((0 : Nat) : Int) * 61))
  have h1 := hdParse_small 1 (dkRead D (((1 : Nat) : Int) * 61))
  show (hdPick (hdPick hd0 (hdParse 0 (dkRead D (((0 : Nat) : Int) * 61)))) (hdParse 1 (dkRead D (((1 : Nat) : Int) * 61)))).slot ≤ 1
  generalize hdParse 0 (dkRead D (((0 : Nat) : Int) * 61)) = a at *
  generalize hdParse 1 (dkRead D (((1 : Nat) : Int) * 61)) = b at *
  have ha := h0.2.2.2
  have hb := h1.2.2.2
  unfold hdPick
  repeat' split
  all_goals first | omega | simp [hd0]

set_option maxRecDepth 100000 in
theorem format_any (B g : Nat) (w : World) (D : DkM) (hD : DkAt B w g D) (hB : B ≤ w.heap.size) (hdn : D.down = false) (hn : 196 ≤ D.now.length) (hwr : D.wr.length ≤ 800000) (R : StM × DkM × Int) (hR : stCheck (opSt D []) D = R) (hfin : (opLog D).2 ≤ D.now.length - 122) :
    Calls Try.prog 10 #[.pointer (some ⟨g, 0, none⟩)] w fun e w' => e = .returned (errV R.2.2) ∧ DkAt B w' g R.2.1 ∧ Step B stTypes w w' := by
  have HSZ := Lib.hid (dkSectors_any B g w D hD)
  have HO := Lib.hid (open_any B g w D hD hB hdn (by omega))
  have hsm := nwF_small D 2
  have HCK := Lib.hid (fun w' (hb : Below w.heap.size w w') gs (hS : StAt B w' gs g (opSt D [])) => (stCheck_any B gs g w' (opSt D []) D hS (hD.below hb) (nwH_slot D) hsm.1 hsm.2.1 (by simp [opSt]) rfl hfin (by omega) hwr R hR).mono (R' := fun e w2 => e = .returned (errV R.2.2) ∧ DkAt B w2 g R.2.1 ∧ Step B stTypes w w2) (fun e w2 ⟨he, _, hd, hs⟩ => ⟨he, hd, (Step.of_below hb hB).trans hs⟩))
  have hn' : ¬ (D.now.length : Int) < 196 := by omega
  clear hsm hfin hn hD hwr
  go_enter Try.func10, Try.ntmps10
  go_wp2_with fail
  ((with_reducible refine HSZ.out.mono ?_); rintro e w1 ⟨rfl, rfl⟩)
  go_wp2_with fail
  ((with_reducible refine HO.out.mono ?_); rintro e w2 ⟨gs, gl, v, rfl, hde, hst, hgs, hb⟩)
  go_wp2_with fail
  have hSA : StAt B w2 gs g (opSt D []) := ⟨gl, _, _, hst⟩
  ((with_reducible refine (HCK.out w2 hb gs hSA).mono ?_); rintro e w3 ⟨rfl, hfin⟩)
  go_wp2_with fail
  go_ret
  exact ⟨rfl, hfin⟩

theorem format_few (B g : Nat) (w : World) (D : DkM) (hD : DkAt B w g D) (hn : D.now.length < 196) :
    Calls Try.prog 10 #[.pointer (some ⟨g, 0, none⟩)] w fun e w' => e = .returned (errV 8) ∧ Below w.heap.size w w' := by
  have HSZ := Lib.hid (dkSectors_any B g w D hD)
  have hn' : (D.now.length : Int) < 196 := by omega
  clear hn hD
  go_enter Try.func10, Try.ntmps10
  go_wp2_with fail
  ((with_reducible refine HSZ.out.mono ?_); rintro e w1 ⟨rfl, rfl⟩)
  go_wp2_with fail
  go_ret
  exact ⟨rfl, Below.refl _ _⟩

theorem stRows_any (B gs g : Nat) (w : World) (S : StM) (hS : StAt B w gs g S) (hr : S.rows.length ≤ 1000) :
    Calls Try.prog 16 #[.pointer (some ⟨gs, 0, none⟩)] w (CloneRet w S.rows) := by
  obtain ⟨gl, A, c, hS⟩ := hS
  have c6 : w.cell? ⟨gs, 6, none⟩ = some (.slice A S.rows.length c) := cell_of_row _ _ _ _ _ _ hS.row
  have HC := Lib.hid (cloneChs_any w A c S.rows hS.chs hS.none hr)
  clear hS
  go_enter Try.func16, Try.ntmps16
  go_wp2_with fail
  ((with_reducible refine HC.out.mono ?_); rintro e w1 ⟨A', c', rfl, ho, hb⟩)
  go_wp2_with fail
  go_ret
  exact ⟨A', c', rfl, ho, hb⟩
end Go.Proofs.Ythhedahfmllnoaa
