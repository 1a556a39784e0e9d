/- The store: Open. -/
import Derived.Test.YthhedahfmllnoaaZqLg4
import Derived.Test.YthhedahfmllnoaaZqSt11
import Derived.Test.YthhedahfmllnoaaZqChC
/- Entries that a call is handed. -/
namespace Go.Proofs.Ythhedahfmllnoaa
open Go.RowKit

/-- Entries that a call is handed. -/
def DeedsIn (w : World) (A : Option Addr) (L : List (List Ch)) : Prop := ∀ i, (hi : i < L.length) → ∃ b off Ai ci, A = some ⟨b, off, none⟩ ∧ b < w.heap.size ∧ w.cell? ⟨b, off + i, none⟩ = some (.slice Ai L[i].length ci) ∧ ChsAt w Ai L[i]
theorem DeedsIn.below {w w' : World} {A : Option Addr} {L : List (List Ch)} (h : DeedsIn w A L) (hb : Below w.heap.size w w') : DeedsIn w' A L := fun i hi => by
  obtain ⟨b, off, Ai, ci, e, hlt, hc, hA⟩ := h i hi
  have := hb.size
  exact ⟨b, off, Ai, ci, e, by omega, (hb.cell (p := ⟨b, off + i, none⟩) hlt).trans hc, hA.below hb⟩

/-- Entries out of the log, as a call is handed them. -/
theorem deeds_in {w : World} {B : Nat} {A : Option Addr} {n c : Nat} {L : List (List Ch)} (h : DeedsAt w B (.slice A n c) L) (hz : ∀ l ∈ L, ∀ x ∈ l, x.key.size ≤ maxLen ∧ x.val.size ≤ maxLen) : DeedsIn w A L := fun i hi => by
  obtain ⟨vs, h1, h2, h3⟩ := h
  have hr := h3 i hi (by omega)
  obtain ⟨Ai, ci, e⟩ := slice_form (show w.ownsRow B 60 3 vs[i] L[i].length (chCells L[i]) from hr)
  rcases h2.2 with ⟨_, h0⟩ | ⟨g, cap, cur, e2, hB, hg, hnc, hcm, hcs, htk⟩
  · omega
  · simp only [Value.slice.injEq] at e2
    obtain ⟨rfl, _, _⟩ := e2
    refine ⟨g, 0, Ai, ci, rfl, (Array.getElem?_eq_some_iff.1 hg).1, ?_, ?_⟩
    · rw [cell_of_row _ _ _ _ _ _ hg]
      have : vs[i]? = some (.slice Ai L[i].length ci) := by rw [List.getElem?_eq_getElem (by omega), e]
      rw [← htk, List.getElem?_take] at this
      split at this
      · simpa using this
      · cases this
    · have hr' : w.ownsRow B 60 3 vs[i] L[i].length (chCells L[i]) := hr
      rw [e] at hr'
      exact chs_own hr' (fun x hx => hz _ (List.getElem_mem hi) x hx)
end Go.Proofs.Ythhedahfmllnoaa

/- The store: Format, Rows, Open. -/
namespace Go.Proofs.Ythhedahfmllnoaa
open Go.RowKit

theorem nwH_slot (D : DkM) : (nwH D).slot ≤ 1 := by
  show (hdPick (hdPick hd0 (hdParse 0 (dkRead D ((0 : Nat) : Int)))) (hdParse 1 _)).slot ≤ 1
  have h0 := hdParse_small 0 (dkRead D (((0 : Nat) : Int) * 61))
  have h1 := hdParse_small 1 (dkRead D (((1 : Nat) : Int) * 61))
  show (hdPick (hdPick hd0 (hdParse 0 (dkRead D (((0 : Nat) : Int) * 61)))) (hdParse 1 (dkRead D (((1 : Nat) : Int) * 61)))).slot ≤ 1
  generalize hdParse 0 (dkRead D (((0 : Nat) : Int) * 61)) = a at *
  generalize hdParse 1 (dkRead D (((1 : Nat) : Int) * 61)) = b at *
  have ha := h0.2.2.2
  have hb := h1.2.2.2
  unfold hdPick
  repeat' split
  all_goals first | omega | simp [hd0]

set_option maxRecDepth 100000 in
theorem format_any (B g : Nat) (w : World) (D : DkM) (hD : DkAt B w g D) (hB : B ≤ w.heap.size) (hdn : D.down = false) (hn : 196 ≤ D.now.length) (hwr : D.wr.length ≤ 800000) (R : StM × DkM × Int) (hR : stCheck (opSt D []) D = R) (hfin : (opLog D).2 ≤ D.now.length - 122) :
    Calls Try.prog 10 #[.pointer (some ⟨g, 0, none⟩)] w fun e w' => e = .returned (errV R.2.2) ∧ DkAt B w' g R.2.1 ∧ Step B stTypes w w' := by
  have HSZ := Lib.hid (dkSectors_any B g w D hD)
  have HO := Lib.hid (open_any B g w D hD hB hdn (by omega))
  have hsm := nwF_small D 2
  have HCK := Lib.hid (fun w' (hb : Below w.heap.size w w') gs (hS : StAt B w' gs g (opSt D [])) => (stCheck_any B gs g w' (opSt D []) D hS (hD.below hb) (nwH_slot D) hsm.1 hsm.2.1 (by simp [opSt]) rfl hfin (by omega) hwr R hR).mono (R' := fun e w2 => e = .returned (errV R.2.2) ∧ DkAt B w2 g R.2.1 ∧ Step B stTypes w w2) (fun e w2 ⟨he, _, hd, hs⟩ => ⟨he, hd, (Step.of_below hb hB).trans hs⟩))
  have hn' : ¬ (D.now.length : Int) < 196 := by omega
  clear hsm hfin hn hD hwr
  go_enter Try.func10, Try.ntmps10
  go_wp2_with fail
  ((with_reducible refine HSZ.out.mono ?_); rintro e w1 ⟨rfl, rfl⟩)
  go_wp2_with fail
  ((with_reducible refine HO.out.mono ?_); rintro e w2 ⟨gs, gl, v, rfl, hde, hst, hgs, hb⟩)
  go_wp2_with fail
  have hSA : StAt B w2 gs g (opSt D []) := ⟨gl, _, _, hst⟩
  ((with_reducible refine (HCK.out w2 hb gs hSA).mono ?_); rintro e w3 ⟨rfl, hfin⟩)
  go_wp2_with fail
  go_ret
  exact ⟨rfl, hfin⟩

theorem format_few (B g : Nat) (w : World) (D : DkM) (hD : DkAt B w g D) (hn : D.now.length < 196) :
    Calls Try.prog 10 #[.pointer (some ⟨g, 0, none⟩)] w fun e w' => e = .returned (errV 8) ∧ Below w.heap.size w w' := by
  have HSZ := Lib.hid (dkSectors_any B g w D hD)
  have hn' : (D.now.length : Int) < 196 := by omega
  clear hn hD
  go_enter Try.func10, Try.ntmps10
  go_wp2_with fail
  ((with_reducible refine HSZ.out.mono ?_); rintro e w1 ⟨rfl, rfl⟩)
  go_wp2_with fail
  go_ret
  exact ⟨rfl, Below.refl _ _⟩

theorem stRows_any (B gs g : Nat) (w : World) (S : StM) (hS : StAt B w gs g S) (hr : S.rows.length ≤ 1000) :
    Calls Try.prog 16 #[.pointer (some ⟨gs, 0, none⟩)] w (CloneRet w S.rows) := by
  obtain ⟨gl, A, c, hS⟩ := hS
  have c6 : w.cell? ⟨gs, 6, none⟩ = some (.slice A S.rows.length c) := cell_of_row _ _ _ _ _ _ hS.row
  have HC := Lib.hid (cloneChs_any w A c S.rows hS.chs hS.none hr)
  clear hS
  go_enter Try.func16, Try.ntmps16
  go_wp2_with fail
  ((with_reducible refine HC.out.mono ?_); rintro e w1 ⟨A', c', rfl, ho, hb⟩)
  go_wp2_with fail
  go_ret
  exact ⟨A', c', rfl, ho, hb⟩
end Go.Proofs.Ythhedahfmllnoaa

/- The store: Open. -/
namespace Go.Proofs.Ythhedahfmllnoaa
open Go.RowKit

/-- What a walk through the entries keeps. -/
structure OpIn (B : Nat) (w wr : World) (gs g gl : Nat) (A : Option Addr) (c : Nat) (v : Value) (L : List (List Ch)) (S : StM) : Prop where
  st : StIn B wr gs g gl A c S
  deeds : DeedsAt wr w.heap.size v L
  below : Below w.heap.size w wr
  new : w.heap.size ≤ gs
theorem OpIn.up {B : Nat} {w wr w2 : World} {gs g gl : Nat} {A : Option Addr} {c : Nat} {v : Value} {L : List (List Ch)} {S : StM} (h : OpIn B w wr gs g gl A c v L S) (hb : Below wr.heap.size wr w2) : OpIn B w w2 gs g gl A c v L S :=
  ⟨h.st.below hb, deeds_belowS h.deeds hb, belowThen h.below hb, h.new⟩
theorem OpIn.put {B B' : Nat} {w wr : World} {gs g gl : Nat} {A A' : Option Addr} {c c' : Nat} {v : Value} {L : List (List Ch)} {h : Hd} {G : LgM} {m m' : List Ch} (hI : OpIn B w wr gs g gl A c v L ⟨h, G, m⟩) (ho : wr.ownsRow B' 60 3 (.slice A' m'.length c') m'.length (chCells m')) (hB : B ≤ B') (hs : ∀ x ∈ m', x.key.size ≤ 200 ∧ x.val.size ≤ 200) :
    OpIn B w (wr.setCell ⟨gs, 6, none⟩ (.slice A' m'.length c')) gs g gl A' c' v L ⟨h, G, m'⟩ := by
  obtain ⟨hst, hd, hb, hn⟩ := hI
  have hs1 : Step B [77] wr (wr.setCell ⟨gs, 6, none⟩ (.slice A' m'.length c')) := (Step.refl B _ wr).set hst.row hst.base (by simp) _
  obtain ⟨vs, h1, h2, h3⟩ := hd
  exact ⟨⟨hst.base, heap_setCell_same _ gs 6 _ _ _ hst.row, hst.log.step hs1 (by decide), own_step (own_weak ho hB) hs1 (by decide), hs⟩, ⟨vs, h1, own_step h2 hs1 (by decide), fun i hi hv => own_step (h3 i hi hv) hs1 (by decide)⟩, hb.setCell (p := ⟨gs, 6, none⟩) hn _, hn⟩

/-- Rows behind the first entries. -/
def stRows (m : List Ch) (L : List (List Ch)) : List Ch := L.foldl apAll m
theorem stRows_take {m : List Ch} {L : List (List Ch)} {k : Nat} (h : k < L.length) : stRows m (L.take (k + 1)) = apAll (stRows m (L.take k)) L[k] := by
  unfold stRows; rw [List.take_succ_eq_append_getElem h, List.foldl_append]; rfl
theorem stRows_sorted : ∀ (L : List (List Ch)) (m : List Ch), SortedCh m → SortedCh (stRows m L)
  | [], _, h => h
  | l :: L, m, h => stRows_sorted L (apAll m l) (apAll_sorted l h)
theorem stRows_mem : ∀ (L : List (List Ch)) (m : List Ch) (x : Ch), x ∈ stRows m L → x ∈ m ∨ ∃ l ∈ L, x ∈ l
  | [], _, _, h => .inl h
  | l :: L, m, x, h => by
    rcases stRows_mem L (apAll m l) x h with h | ⟨l', h1, h2⟩
    · rcases apAll_mem h with h | h
      · exact .inl h
      · exact .inr ⟨l, by simp, h⟩
    · exact .inr ⟨l', by simp [h1], h2⟩
def deedsLen (L : List (List Ch)) : Nat := (L.map List.length).sum
theorem stRows_len : ∀ (L : List (List Ch)) (m : List Ch), (stRows m L).length ≤ m.length + deedsLen L
  | [], m => by simp [stRows, deedsLen]
  | l :: L, m => by
    have h1 := stRows_len L (apAll m l)
    have h2 := apAll_len l m
    simp only [deedsLen, List.map_cons, List.sum_cons] at h1 ⊢
    show (stRows (apAll m l) L).length ≤ _
    omega
theorem deedsLen_take : ∀ (L : List (List Ch)) (k : Nat), deedsLen (L.take k) ≤ deedsLen L
  | [], k => by simp [deedsLen]
  | l :: L, 0 => by simp [deedsLen]
  | l :: L, k + 1 => by
    have := deedsLen_take L k
    simp only [deedsLen, List.take_succ_cons, List.map_cons, List.sum_cons] at this ⊢
    omega
theorem deedsLen_mem : ∀ {L : List (List Ch)} {l : List Ch}, l ∈ L → l.length ≤ deedsLen L
  | x :: L, l, h => by
    simp only [deedsLen, List.map_cons, List.sum_cons]
    rcases List.mem_cons.1 h with rfl | h
    · omega
    · have := deedsLen_mem h
      simp only [deedsLen] at this
      omega

def OpenSt (B : Nat) (w : World) (g : Nat) (S : StM) (e : Ending) (w' : World) : Prop :=
  ∃ gs, e = .returned (.tuple #[.pointer (some ⟨gs, 0, none⟩), .nilIface]) ∧ StAt B w' gs g S ∧ w.heap.size ≤ gs ∧ Below w.heap.size w w'

set_option maxHeartbeats 4000000 in
set_option maxRecDepth 100000 in
theorem stOpen_any (B g : Nat) (w : World) (D : DkM) (hD : DkAt B w g D) (hB : B ≤ w.heap.size) (hdn : D.down = false) (hn : 196 ≤ D.now.length) (m : List Ch) (hR : hdRead D (nwH D) = (0, m)) (hms : SortedCh m)
    (hm : m.length ≤ 80) (hz : ∀ x ∈ m, x.key.size ≤ 200 ∧ x.val.size ≤ 200) (hLz : ∀ l ∈ (opLog D).1, ∀ x ∈ l, x.key.size ≤ 200 ∧ x.val.size ≤ 200) (hLn : deedsLen (opLog D).1 ≤ 300) (hLl : (opLog D).1.length ≤ 300) :
    Calls Try.prog 9 #[.pointer (some ⟨g, 0, none⟩)] w (OpenSt B w g (opSt D (stRows m (opLog D).1))) := by
  have HDN := Lib.hid (dkDown_any B g w D hD)
  rw [hdn] at HDN
  have HSZ := Lib.hid (dkSectors_any B g w D hD)
  have HO := Lib.hid (open_any B g w D hD hB hdn (by omega))
  have hsm := nwF_small D 2
  have HRD := Lib.hid (fun w' (hb : Below w.heap.size w w') => hdRead_any B g w' D (nwH D) (hD.below hb) (by omega) hdn (nwH_slot D) hsm.2.2 _ hR)
  have hn' : ¬ (D.now.length : Int) < 196 := by omega
  obtain ⟨L, hL⟩ : ∃ L, (opLog D).1 = L := ⟨_, rfl⟩
  obtain ⟨h, hh⟩ : ∃ h, nwH D = h := ⟨_, rfl⟩
  obtain ⟨G, hG⟩ : ∃ G, stLog D.now.length (nwH D) (opLog D).2 = G := ⟨_, rfl⟩
  have hS : ∀ r, opSt D r = ⟨h, G, r⟩ := fun r => by unfold opSt; rw [hG, hh]
  unfold OpnRet at HO
  rw [hL] at hLz hLn hLl HO ⊢
  rw [hS] at HO ⊢
  rw [hh] at HRD
  have HSM := Lib.hid hms
  have HMZ := Lib.hid (show _ ∧ _ ∧ _ ∧ _ ∧ _ from ⟨hm, hz, hLz, hLn, hLl⟩)
  clear hsm hn hD hms hm hz hLz hLn hLl hS hL hh hG hdn hR
  go_enter Try.func9, Try.ntmps9
  go_wp2_with fail
  ((with_reducible refine HDN.out.mono ?_); rintro e w1 ⟨rfl, rfl⟩)
  go_wp2_with fail
  ((with_reducible refine HSZ.out.mono ?_); rintro e w1 ⟨rfl, rfl⟩)
  go_wp2_with fail
  ((with_reducible refine HO.out.mono ?_); rintro e w2 ⟨gs, gl, v, rfl, hde, hst, hgs, hb⟩)
  obtain ⟨vs, hv1, hvo, hv2⟩ := id hde
  obtain ⟨Aq, cq, rfl⟩ := slice_form hvo
  clear hv1 hv2 hvo vs
  have hO : OpIn B w w2 gs g gl none 0 (.slice Aq L.length cq) L ⟨h, G, []⟩ := ⟨hst, hde, hb, hgs⟩
  have c1 : w2.cell? ⟨gs, 1, none⟩ = some (.int .i64 h.slot) := cell_of_row _ _ _ _ _ _ hst.row
  have c2 : w2.cell? ⟨gs, 2, none⟩ = some (.int .i64 h.turn) := cell_of_row _ _ _ _ _ _ hst.row
  have c3 : w2.cell? ⟨gs, 3, none⟩ = some (.int .i64 h.log) := cell_of_row _ _ _ _ _ _ hst.row
  have c4 : w2.cell? ⟨gs, 4, none⟩ = some (.int .i64 h.rows) := cell_of_row _ _ _ _ _ _ hst.row
  clear hst hde hgs HO HSZ HDN hn'
  go_wp2_with fail
  ((with_reducible refine (HRD.out w2 hb).mono ?_); rintro e w3 ⟨hret, hb3⟩)
  obtain ⟨A, c, he, ho⟩ : ∃ A c, e = .returned (.tuple #[.slice A m.length c, .nilIface]) ∧ w3.ownsRow w2.heap.size 60 3 (.slice A m.length c) m.length (chCells m) := by
    rcases hret with ⟨h0, _⟩ | ⟨_, A, c, he, ho⟩
    · exact absurd rfl h0
    · exact ⟨A, c, he, ho⟩
  subst he
  have hO3 := (hO.up hb3).put ho (Nat.le_trans hB hb.size) HMZ.out.2.1
  have c6 : w3.cell? ⟨gs, 6, none⟩ = some (.slice none 0 0) := cell_of_row _ _ _ _ _ _ (hO.up hb3).st.row
  have f6 : w3.frozen? ⟨gs, 6, none⟩ = false := frozen_of_row _ _ _ _ _ (hO.up hb3).st.row
  have HO3 := Lib.hid hO3
  clear hO3 hO ho c1 c2 c3 c4 hb hb3 HRD
  go_wp2_with fail
  have hq : L.length ≤ 300 := HMZ.out.2.2.2.2
  go_loopw [42] (fun i wr => ∃ (k : Nat) (A' : Option Addr) (c' : Nat), k ≤ L.length ∧ i = .int .i64 k ∧ OpIn B w wr gs g gl A' c' (.slice Aq L.length cq) L ⟨h, G, stRows m (L.take k)⟩) (fun i _ => L.length - (intOf i).toNat)
  case atStart => exact ⟨0, A, c, Nat.zero_le _, rfl, HO3.out⟩
  case round =>
    obtain ⟨k, A', c', hk, rfl, hI⟩ := hrel
    clear HO3 c6 f6
    by_cases hlt : k < L.length
    · obtain ⟨bq, oq, Ai, ci, rfl, hbq, d1, hci⟩ := deeds_in hI.deeds (fun l hl x hx => by have := HMZ.out.2.2.1 l hl x hx; unfold maxLen; omega) k hlt
      have hsz : ∀ x ∈ stRows m (L.take (k + 1)), x.key.size ≤ 200 ∧ x.val.size ≤ 200 := fun x hx => by
        rcases stRows_mem _ _ _ hx with h1 | ⟨l, h1, h2⟩
        · exact HMZ.out.2.1 x h1
        · exact HMZ.out.2.2.1 l (List.mem_of_mem_take h1) x h2
      have hnx := stRows_take (m := m) hlt
      have hl1 : (stRows m (L.take k)).length ≤ 1000 := by
        have := stRows_len (L.take k) m
        have := deedsLen_take L k
        have := HMZ.out
        omega
      have hl2 : L[k].length ≤ 900 := by
        have := deedsLen_mem (List.getElem_mem hlt)
        have := HMZ.out
        omega
      have HA := Lib.hid (apply_any wr A' c' (stRows m (L.take k)) Ai ci L[k] hI.st.chs hI.st.none hci hl1 hl2 (stRows_sorted _ _ HSM.out))
      unfold ApplyRet at HA
      rw [← hnx] at HA
      have d6 : wr.cell? ⟨gs, 6, none⟩ = some (.slice A' (stRows m (L.take k)).length c') := cell_of_row _ _ _ _ _ _ hI.st.row
      have i1 : (k : Int) < (L.length : Int) := by omega
      have HI := Lib.hid hI
      have HSZ2 := Lib.hid hsz
      have HBB := Lib.hid (Nat.le_trans hB hI.below.size)
      clear hI hsz hnx hl1 hl2 hci
      go_wp2_with fail
      ((with_reducible refine HA.out.mono ?_); rintro e w5 ⟨A5, c5, rfl, ho5, hb5⟩)
      have hI5 := HI.out.up hb5
      have hI6 := hI5.put ho5 HBB.out HSZ2.out
      have e6 : w5.cell? ⟨gs, 6, none⟩ = some (.slice A' (stRows m (L.take k)).length c') := cell_of_row _ _ _ _ _ _ hI5.st.row
      have g6 : w5.frozen? ⟨gs, 6, none⟩ = false := frozen_of_row _ _ _ _ _ hI5.st.row
      have HI6 := Lib.hid hI6
      clear hI5 hI6 ho5 hb5 d6 d1 HA HI
      go_wp2_with fail
      go_roundw
      case rel => exact ⟨k + 1, A5, c5, by omega, by go_num, HI6.out⟩
      case measure => simp [intOf]; omega
    · obtain rfl : k = L.length := by omega
      rw [List.take_length] at hI
      have HFIN := Lib.hid (show OpenSt B w g ⟨h, G, stRows m L⟩ (.returned (.tuple #[.pointer (some ⟨gs, 0, none⟩), .nilIface])) wr from ⟨gs, rfl, ⟨gl, A', c', hI.st⟩, hI.new, hI.below⟩)
      clear hI
      go_wp2_with fail
      go_ret2
      exact HFIN.out

theorem stOpen_few (B g : Nat) (w : World) (D : DkM) (hD : DkAt B w g D) (hdn : D.down = false) (hn : D.now.length < 196) :
    Calls Try.prog 9 #[.pointer (some ⟨g, 0, none⟩)] w fun e w' => e = .returned (.tuple #[.pointer none, errV 4]) ∧ Below w.heap.size w w' := by
  have HDN := Lib.hid (dkDown_any B g w D hD)
  rw [hdn] at HDN
  have HSZ := Lib.hid (dkSectors_any B g w D hD)
  have hn' : (D.now.length : Int) < 196 := by omega
  clear hn hD hdn
  go_enter Try.func9, Try.ntmps9
  go_wp2_with fail
  ((with_reducible refine HDN.out.mono ?_); rintro e w1 ⟨rfl, rfl⟩)
  go_wp2_with fail
  ((with_reducible refine HSZ.out.mono ?_); rintro e w1 ⟨rfl, rfl⟩)
  go_wp2_with fail
  go_ret2
  exact ⟨rfl, Below.refl _ _⟩

set_option maxHeartbeats 1000000 in
set_option maxRecDepth 100000 in
theorem stOpen_none (B g : Nat) (w : World) (D : DkM) (hD : DkAt B w g D) (hB : B ≤ w.heap.size) (hdn : D.down = false) (hn : 196 ≤ D.now.length) (hR : ¬ (hdRead D (nwH D)).1 = 0) :
    Calls Try.prog 9 #[.pointer (some ⟨g, 0, none⟩)] w fun e w' => e = .returned (.tuple #[.pointer none, errV (hdRead D (nwH D)).1]) ∧ Below w.heap.size w w' := by
  have HDN := Lib.hid (dkDown_any B g w D hD)
  rw [hdn] at HDN
  have HSZ := Lib.hid (dkSectors_any B g w D hD)
  have HO := Lib.hid (open_any B g w D hD hB hdn (by omega))
  have hsm := nwF_small D 2
  have HRD := Lib.hid (fun w' (hb : Below w.heap.size w w') => hdRead_any B g w' D (nwH D) (hD.below hb) (by omega) hdn (nwH_slot D) hsm.2.2 _ rfl)
  have hn' : ¬ (D.now.length : Int) < 196 := by omega
  obtain ⟨h, hh⟩ : ∃ h, nwH D = h := ⟨_, rfl⟩
  unfold OpnRet at HO
  have hS : opSt D [] = ⟨h, stLog D.now.length (nwH D) (opLog D).2, []⟩ := by unfold opSt; rw [hh]
  rw [hS] at HO
  rw [hh] at HRD hR ⊢
  obtain ⟨E, hE⟩ : ∃ E, hdRead D h = E := ⟨_, rfl⟩
  rw [hE] at HRD hR ⊢
  have hv : errV E.1 = .iface 64 (.int .i64 E.1) := by unfold errV; rw [if_neg hR]
  have HV := Lib.hid hv
  have HE := Lib.hid hR
  clear hsm hn hD hS hh hdn hE hv hR
  go_enter Try.func9, Try.ntmps9
  go_wp2_with fail
  ((with_reducible refine HDN.out.mono ?_); rintro e w1 ⟨rfl, rfl⟩)
  go_wp2_with fail
  ((with_reducible refine HSZ.out.mono ?_); rintro e w1 ⟨rfl, rfl⟩)
  go_wp2_with fail
  ((with_reducible refine HO.out.mono ?_); rintro e w2 ⟨gs, gl, v, rfl, hde, hst, hgs, hb⟩)
  have c1 : w2.cell? ⟨gs, 1, none⟩ = some (.int .i64 h.slot) := cell_of_row _ _ _ _ _ _ hst.row
  have c2 : w2.cell? ⟨gs, 2, none⟩ = some (.int .i64 h.turn) := cell_of_row _ _ _ _ _ _ hst.row
  have c3 : w2.cell? ⟨gs, 3, none⟩ = some (.int .i64 h.log) := cell_of_row _ _ _ _ _ _ hst.row
  have c4 : w2.cell? ⟨gs, 4, none⟩ = some (.int .i64 h.rows) := cell_of_row _ _ _ _ _ _ hst.row
  have HROW := Lib.hid hst.row
  clear hst hde HO HSZ HDN hn'
  go_wp2_with fail
  ((with_reducible refine (HRD.out w2 hb).mono ?_); rintro e w3 hret)
  obtain ⟨rfl, hret2⟩ := hret.badE HE.out
  have hb3 := hret2.2
  clear hret hret2
  have hr3 := (hb3.block _ (Array.getElem?_eq_some_iff.1 HROW.out).1).trans HROW.out
  have c6 : w3.cell? ⟨gs, 6, none⟩ = some (.slice none 0 0) := cell_of_row _ _ _ _ _ _ hr3
  have f6 : w3.frozen? ⟨gs, 6, none⟩ = false := frozen_of_row _ _ _ _ _ hr3
  have HBE := Lib.hid ((belowThen hb hb3).setCell (p := ⟨gs, 6, none⟩) hgs (.slice none 0 0))
  rw [HV.out]
  clear c1 c2 c3 c4 hb hb3 HRD hr3 hgs
  go_wp2_with fail
  go_ret2
  exact ⟨by rw [HV.out]; rfl, HBE.out⟩
end Go.Proofs.Ythhedahfmllnoaa
