/- TopCrash: its closed check, what its rounds keep to. -/
import Derived.Test.YthhedahfmllnoaaZqCr1
namespace Go.Proofs.Ythhedahfmllnoaa
open Go.RowKit
set_option maxRecDepth 100000

set_option maxHeartbeats 4000000 in
theorem storedTop_any (w : World) : Calls Try.prog 17 #[] w fun e w' => e = .returned (.bool true) ∧ Below w.heap.size w w' := by
  have HS := Lib.hid (stored_any w)
  go_enter Try.func17, Try.ntmps17
  go_wp2_with fail
  ((with_reducible refine HS.out.mono ?_); rintro e w1 ⟨g, gs, D, S, rfl, hq, hr, hf, hb⟩)
  have hba := (Below.refl w1.heap.size w1).alloc (Nat.le_refl _) (.cells #[.string ⟨#[107]⟩, .string ⟨#[120]⟩, .bool false] 60)
  have HC0 := commitC w.heap.size gs g 200 _ S D (some ⟨w1.heap.size, 0, none⟩) 1 [kx] (hq.below hba) (fun w' hs => kx_new w1 _ _ _ hs (by decide)) (by simp)
  rw [kx_err hr, hr, hf] at HC0
  have HC := Lib.hid (show Calls Try.prog 11 #[.pointer (some ⟨gs, 0, none⟩), .slice (some ⟨w1.heap.size, 0, none⟩) 1 1] (w1.alloc (.cells #[.string ⟨#[107]⟩, .string ⟨#[120]⟩, .bool false] 60)) (fun e w' => e = .returned .nilIface ∧ Below w.heap.size w w' ∧ ∃ D1 S1, Hid (StQ w.heap.size w' g gs 200 D1 S1 ∧ S1.rows = [kx])) from HC0.mono (by
    rintro e w' ⟨rfl, h1, D1, S1, h2, _, h3⟩
    exact ⟨rfl, (hb.trans (hba.mono hb.size)).trans h1.below, D1, S1, Lib.hid ⟨h2, (h3 rfl).1⟩⟩))
  clear HC0 hba hq hr hf hb HS
  go_wp2_with fail
  ((with_reducible refine HC.out.mono ?_); rintro e w2 ⟨rfl, hb2, D1, S1, HQ⟩)
  have HO := Lib.hid (openC w.heap.size gs g 200 w2 S1 D1 HQ.out.1 hb2.size)
  have HB2 := Lib.hid hb2
  clear HC hb2
  go_wp2_with fail
  ((with_reducible refine HO.out.mono ?_); rintro e w3 ⟨gs2, rfl, hq2, hb3⟩)
  have HR := Lib.hid (stRows_any w.heap.size gs2 g w3 S1 hq2.st (by rw [HQ.out.2]; simp))
  rw [HQ.out.2] at HR
  unfold CloneRet at HR
  have HB3 := Lib.hid (HB2.out.trans (hb3.mono HB2.out.size))
  clear hq2 hb3 HO HB2 HQ
  go_wp2_with fail
  ((with_reducible refine HR.out.mono ?_); rintro e w4 ⟨A4, c4, rfl, ho4, hb4⟩)
  have HB4 := Lib.hid (HB3.out.trans (hb4.mono HB3.out.size))
  clear ho4 hb4 HR HB3
  simp only [List.length_cons, List.length_nil, Nat.zero_add]
  go_wp2_with fail
  go_ret
  exact ⟨rfl, HB4.out⟩

/-- What is committed, as the law keeps it: a row of its own. -/
def OwnCh (w : World) (B : Nat) (A : Option Addr) (c : Nat) (l : List Ch) : Prop := w.ownsRow B 60 3 (.slice A l.length c) l.length (chCells l) ∧ ∀ x ∈ l, x.key.size ≤ 200 ∧ x.val.size ≤ 200
theorem OwnCh.chs {w : World} {B : Nat} {A : Option Addr} {c : Nat} {l : List Ch} (h : OwnCh w B A c l) : ChsAt w A l := chs_own h.1 fun x hx => by have := h.2 x hx; unfold maxLen; omega
theorem OwnCh.none {w : World} {B : Nat} {A : Option Addr} {c : Nat} {l : List Ch} (h : OwnCh w B A c l) : A = Option.none → c = 0 := fun e => by
  rcases h.1.2 with ⟨h1, _⟩ | ⟨b, cap, cur, h1, _⟩
  · simp only [Value.slice.injEq] at h1; exact h1.2.2
  · simp only [Value.slice.injEq] at h1; rw [e] at h1; cases h1.1
theorem OwnCh.step {w w' : World} {B B' : Nat} {ts : List TypeId} {A : Option Addr} {c : Nat} {l : List Ch} (h : OwnCh w B A c l) (hs : Step B' ts w w') (ht : 60 ∉ ts) : OwnCh w' B A c l := ⟨own_step h.1 hs ht, h.2⟩
theorem OwnCh.below {w w' : World} {B : Nat} {A : Option Addr} {c : Nat} {l : List Ch} (h : OwnCh w B A c l) (hb : Below w.heap.size w w') : OwnCh w' B A c l := ⟨own_below h.1 hb, h.2⟩

structure CrSt (w wr : World) (g gs : Nat) (D : DkM) (S : StM) (A : Option Addr) (c : Nat) : Prop where
  dk : DkAt w.heap.size wr g D
  st : StAt w.heap.size wr gs g S
  inv : StInv D S
  len : D.now.length = 200
  own : OwnCh wr w.heap.size A c S.rows
  kept : Below w.heap.size w wr
structure CrEnd (w wr : World) (g : Nat) (D : DkM) (A : Option Addr) (c : Nat) (want : List Ch) (A' : Option Addr) (c' : Nat) (last : List Ch) : Prop where
  dk : DkAt w.heap.size wr g D
  own : OwnCh wr w.heap.size A c want
  own' : OwnCh wr w.heap.size A' c' last
  few : D.wr.length ≤ 1000000
  aft : ∀ keep, (dkRestart D keep).now.length = 200 ∧ ∃ S', StInv (dkRestart D keep) S' ∧ (S'.rows = want ∨ S'.rows = last)
  kept : Below w.heap.size w wr
theorem CrSt.stop {w wr : World} {g gs : Nat} {D : DkM} {S : StM} {A : Option Addr} {c : Nat} (h : CrSt w wr g gs D S A c) : CrEnd w wr g D A c S.rows A c S.rows := by
  refine ⟨h.dk, h.own, h.own, by rw [h.inv.wr]; simp, fun keep => ⟨?_, S, h.inv.restart keep, .inl rfl⟩, h.kept⟩
  have e : (dkRestart D keep).now = D.now := by show dkKeep keep 0 D.wr D.dur = _; rw [h.inv.wr, h.inv.dur]; rfl
  rw [e]; exact h.len

theorem cmErr_range (l : List Ch) (S : StM) (n : Nat) : 0 ≤ cmErr l S n ∧ cmErr l S n ≤ 8 := by
  have h : ∀ l : List Ch, 0 ≤ chsErr l ∧ chsErr l ≤ 3 := by
    intro l
    induction l with
    | nil => simp [chsErr]
    | cons c r ih =>
      unfold chsErr
      split
      · exact ih
      · unfold chErr
        split
        · omega
        · split <;> omega
  have := h l
  unfold cmErr
  split
  · omega
  · split
    · omega
    · split <;> omega

/-- A checkpoint in a round: it is done, or the disk has failed. -/
theorem CrSt.check {w wr : World} {g gs : Nat} {D : DkM} {S : StM} {A : Option Addr} {c : Nat} (h : CrSt w wr g gs D S A c) :
    Calls Try.prog 13 #[.pointer (some ⟨gs, 0, none⟩)] wr fun e w' => (e = .returned .nilIface ∧ ∃ D1 S1, S1.rows = S.rows ∧ Hid (CrSt w w' g gs D1 S1 A c)) ∨ (e = .returned (errV 9) ∧ ∃ D1, Hid (CrEnd w w' g D1 A c S.rows A c S.rows)) := by
  have hm := h.inv.on.mid
  have hfi := h.inv.on.fin
  have hfew := h.inv.few
  have hwr := wr_stCheck S D hm.2.1 h.inv.on.len
  rw [h.inv.wr] at hwr
  simp only [List.length_nil] at hwr
  refine (stCheck_any w.heap.size gs g wr S D h.st h.dk hm.2.2.1 hm.2.2.2.1 hm.2.2.2.2 h.inv.on.len hfi.2.1 hfi.2.2.2.2.1 (by omega) (by rw [h.inv.wr]; simp) _ rfl).mono ?_
  rintro e w' ⟨rfl, a1, a2, a3⟩
  have ho := h.own.step a3 (by decide)
  have hk := h.kept.trans a3.below
  rcases check_spec h.inv.up hfew h.inv.top h.inv.on.head hfi.1 hm.1 hm.2.1 h.inv.on.len with ⟨k0, k1, k2, k3, k4⟩ | ⟨k9, k1, k2⟩
  · exact .inl ⟨by rw [k0]; rfl, _, _, k2, Lib.hid ⟨a2, a1, k1, by rw [k4]; exact h.len, by rw [k2]; exact ho, hk⟩⟩
  · obtain ⟨_, k3⟩ := k2 h.inv
    refine .inr ⟨by rw [k9], _, Lib.hid ⟨a2, ho, ho, by omega, fun keep => ?_, hk⟩⟩
    obtain ⟨q1, S', q2, q3⟩ := k3 keep
    exact ⟨q1.trans h.len, S', q2, .inl q3⟩
/-- A commit in a round. -/
theorem CrSt.commit {w wr : World} {g gs : Nat} {D : DkM} {S : StM} {A : Option Addr} {c : Nat} (h : CrSt w wr g gs D S A c) {Al : Option Addr} {cl : Nat} {l : List Ch} (hl : ChsAt w Al l) (hln : l.length ≤ 14) :
    Calls Try.prog 11 #[.pointer (some ⟨gs, 0, none⟩), .slice Al l.length cl] wr fun e w' =>
      (∃ E, e = .returned (errV E) ∧ 0 < E ∧ E ≤ 8 ∧ Hid (CrSt w w' g gs D S A c)) ∨
      (e = .returned .nilIface ∧ ∃ D1 S1, S1.rows = apAll S.rows l ∧ Hid (∀ w2 A2 c2, Below w'.heap.size w' w2 → OwnCh w2 w.heap.size A2 c2 S1.rows → CrSt w w2 g gs D1 S1 A2 c2) ∧ Hid (OwnCh w' w.heap.size A c S.rows) ∧ Hid (Below w.heap.size w w') ∧ Hid (∀ x ∈ S1.rows, x.key.size ≤ 200 ∧ x.val.size ≤ 200)) ∨
      (e = .returned (errV 9) ∧ ∃ D1, Hid (∀ w2 A2 c2, Below w'.heap.size w' w2 → OwnCh w2 w.heap.size A2 c2 (apAll S.rows l) → CrEnd w w2 g D1 A c S.rows A2 c2 (apAll S.rows l)) ∧ Hid (OwnCh w' w.heap.size A c S.rows) ∧ Hid (Below w.heap.size w w') ∧ Hid (∀ x ∈ apAll S.rows l, x.key.size ≤ 200 ∧ x.val.size ≤ 200)) := by
  have hm := h.inv.on.mid
  have hfi := h.inv.on.fin
  have hfew := h.inv.few
  have hwr := wr_stCommit l S D hm.2.1 h.inv.on.len
  rw [h.inv.wr] at hwr
  simp only [List.length_nil] at hwr
  refine (stCommit_any w.heap.size gs g wr S D Al cl l h.st h.dk (fun w' hs => hl.below (h.kept.trans hs.below)) (by omega) hm.2.2.1 hm.2.2.2.1 hm.2.2.2.2 h.inv.on.len hm.1 hfi.2.2.2.2.2 hfi.2.2.2.2.1 (by omega) (by rw [h.inv.wr]; simp) _ rfl).mono ?_
  rintro e w' ⟨rfl, a1, a2, a3⟩
  have ho := h.own.step a3 (by decide)
  have hk := h.kept.trans a3.below
  have hr := cmErr_range l S D.now.length
  rcases commit_spec h.inv l with ⟨b, b2⟩ | ⟨b, ⟨b2, b3, b4, b5, b6⟩ | ⟨b2, b3, b4⟩⟩
  · refine .inl ⟨_, rfl, ?_, ?_, Lib.hid ?_⟩
    · rw [b2]; show 0 < cmErr l S D.now.length; omega
    · rw [b2]; show cmErr l S D.now.length ≤ 8; omega
    · rw [b2] at a1 a2
      exact ⟨a2, a1, h.inv, h.len, ho, hk⟩
  · have hz := b3.on.mid.2.1
    refine .inr (.inl ⟨by rw [b2]; rfl, (stCommit l S D).2.1, (stCommit l S D).1, b4, Lib.hid ?_, Lib.hid ho, Lib.hid hk, Lib.hid fun x hx => fine_small (hz x hx)⟩)
    intro w2 A2 c2 hb ho2
    exact ⟨a2.below hb, a1.below hb, b3, by rw [b6]; exact h.len, ho2, hk.trans (hb.mono hk.size)⟩
  · have hce : chsErr l = 0 := by
      unfold cmErr at b
      by_cases c1 : 72 < l.length
      · rw [if_pos c1] at b; omega
      · rw [if_neg c1] at b
        by_cases c2 : chsErr l = 0
        · exact c2
        · rw [if_pos c2] at b; exact absurd b c2
    refine .inr (.inr ⟨by rw [b2], (stCommit l S D).2.1, Lib.hid ?_, Lib.hid ho, Lib.hid hk, Lib.hid fun x hx => ?_⟩)
    · intro w2 A2 c2 hb ho2
      refine ⟨a2.below hb, ho.below hb, ho2, by omega, fun keep => ?_, hk.trans (hb.mono hk.size)⟩
      obtain ⟨q1, S', q2, q3⟩ := b4 keep
      exact ⟨q1.trans h.len, S', q2, q3⟩
    · rcases apAll_mem hx with hx | hx
      · exact fine_small (hm.2.1 x hx)
      · exact fine_small (chsErr_small hce x hx)
end Go.Proofs.Ythhedahfmllnoaa
