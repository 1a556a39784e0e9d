/- The law's Stored; its closed check. -/
import Derived.Test.YthhedahfmllnoaaZqSt15
import Derived.Test.YthhedahfmllnoaaZqCalm
/- The store on a disk that is not armed: Format, Open, Commit, Checkpoint; the law's Stored. -/
namespace Go.Proofs.Ythhedahfmllnoaa
open Go.RowKit
set_option maxRecDepth 100000

/-- Not armed, not down. -/
structure Quiet (D : DkM) : Prop where
  left : D.left = -1
  down : D.down = false
theorem Quiet.step {D : DkM} (h : Quiet D) : dkStep D = D ∧ dkStepE D = 0 := by
  have h1 := h.left
  refine ⟨?_, ?_⟩
  · unfold dkStep; rw [if_neg (by omega), if_neg (by rw [h.down]; simp), if_neg (by omega)]
  · unfold dkStepE; rw [if_neg (by rw [h.down]; simp; omega)]
theorem Quiet.write {D : DkM} (h : Quiet D) (k : Int) (x : ByteArray) : Quiet (dkWrite D k x) := by
  unfold dkWrite
  rw [h.step.1, h.step.2]
  split
  · exact h
  · rw [if_pos rfl]; exact ⟨h.left, h.down⟩
theorem Quiet.flush {D : DkM} (h : Quiet D) : Quiet (dkFlush D) := by
  unfold dkFlush
  rw [h.step.1, h.step.2, if_pos rfl]
  exact ⟨h.left, h.down⟩
theorem q_wrP {base : Int} : ∀ {xs : List Pc} {D : DkM}, Quiet D → Quiet (wrP base D xs).1
  | [], _, h => h
  | x :: r, D, h => by
    simp only [wrP]
    split
    · exact q_wrP (h.write _ _)
    · exact h.write _ _
theorem q_hdWrite {D : DkM} (hq : Quiet D) (h : Hd) (rows : List Ch) : Quiet (hdWrite D h rows).1 := by
  have h1 : Quiet (wrP ((h.slot : Int) * 61 + 1) D (pcsOf ⟨(stText rows).toArray⟩)).1 := q_wrP hq
  show Quiet (hdWr2 _ h).1
  unfold hdWr2
  split
  · exact h1
  · split
    · exact h1.flush
    · split
      · exact h1.flush.write _ _
      · exact (h1.flush.write _ _).flush
theorem q_lgWrite : ∀ {xs : List ByteArray} {k : Nat} {D : DkM}, Quiet D → Quiet (lgWrite xs k D).1
  | [], _, D, h => h.flush
  | x :: r, k, D, h => by
    rw [lgWrite]
    split
    · exact q_lgWrite (h.write _ _)
    · exact h.write _ _
theorem q_lgPut {D : DkM} (h : Quiet D) (S : List ByteArray) (L : LgM) : Quiet (lgPut S L D).1 := by
  unfold lgPut
  split
  · split
    · exact q_lgWrite (q_lgWrite (q_lgWrite h))
    · exact q_lgWrite (q_lgWrite h)
  · exact q_lgWrite h
theorem q_lgAdd {D : DkM} (h : Quiet D) (l : List Ch) (L : LgM) : Quiet (lgAdd l L D).2.1 := by
  unfold lgAdd
  split
  · exact h
  · split
    · exact h
    · split
      · exact h
      · split
        · exact q_lgPut h _ _
        · exact q_lgPut h _ _
theorem q_stCheck {D : DkM} (h : Quiet D) (S : StM) : Quiet (stCheck S D).2.1 := by
  unfold stCheck
  split
  · exact q_hdWrite h _ _
  · exact q_hdWrite h _ _
theorem q_stAdd {D : DkM} (h : Quiet D) (l : List Ch) (S : StM) : Quiet (stAdd l (S, D)).2.1 := by
  unfold stAdd
  split
  · exact q_lgAdd h _ _
  · exact q_lgAdd h _ _
theorem q_stCommit {D : DkM} (h : Quiet D) (l : List Ch) (S : StM) : Quiet (stCommit l S D).2.1 := by
  unfold stCommit
  split
  · exact h
  · split
    · exact h
    · split
      · exact h
      · split
        · exact q_stAdd h _ _
        · split
          · exact q_stCheck h _
          · exact q_stAdd (q_stCheck h _) _ _

/-- A checkpoint that cannot fail. -/
theorem checkQ {D : DkM} {S : StM} (hq : Quiet D) (hn : 196 ≤ D.now.length) (ht : D.now.length ≤ 260) (hh : nNew D.now = S.head) (hf : S.log.fin = (nLog D.now S.head).2) (hs : SortedCh S.rows) (hg : ∀ x ∈ S.rows, chErr x = 0) (hr : S.rows.length ≤ 80) :
    (stCheck S D).2.2 = 0 ∧ StInv (stCheck S D).2.1 (stCheck S D).1 ∧ (stCheck S D).1.rows = S.rows ∧ (stCheck S D).1.log.fin = 0 ∧ (stCheck S D).2.1.now.length = D.now.length ∧ Quiet (stCheck S D).2.1 := by
  have h2 := q_stCheck hq S
  rcases check_spec hq.down hn ht hh hf hs hg hr with ⟨a, b, c, d, e⟩ | ⟨_, a, _⟩
  · exact ⟨a, b, c, d, e, h2⟩
  · rw [h2.down] at a; cases a
theorem checkI {D : DkM} {S : StM} (h : StInv D S) (hq : Quiet D) : (stCheck S D).2.2 = 0 ∧ StInv (stCheck S D).2.1 (stCheck S D).1 ∧ (stCheck S D).1.rows = S.rows ∧ (stCheck S D).1.log.fin = 0 ∧ (stCheck S D).2.1.now.length = D.now.length ∧ Quiet (stCheck S D).2.1 :=
  checkQ hq h.few h.top h.on.head h.on.fin.1 h.on.mid.1 h.on.mid.2.1 h.on.len
/-- A commit that cannot fail. -/
theorem commitI {D : DkM} {S : StM} (h : StInv D S) (hq : Quiet D) (l : List Ch) :
    (stCommit l S D).2.2 = cmErr l S D.now.length ∧ StInv (stCommit l S D).2.1 (stCommit l S D).1 ∧ (stCommit l S D).2.1.now.length = D.now.length ∧ Quiet (stCommit l S D).2.1 ∧
    (¬ cmErr l S D.now.length = 0 → stCommit l S D = (S, D, cmErr l S D.now.length)) ∧
    (cmErr l S D.now.length = 0 → (stCommit l S D).1.rows = apAll S.rows l ∧ (stCommit l S D).1.log.fin = (if S.log.many - S.log.fin < l.length + 1 then 0 else S.log.fin) + l.length + 1) := by
  have h2 := q_stCommit hq l S
  rcases commit_spec h l with ⟨a, b⟩ | ⟨a, ⟨b, c, d, e, f⟩ | ⟨_, b, _⟩⟩
  · rw [b]; exact ⟨rfl, h, rfl, hq, fun _ => rfl, fun e => absurd e a⟩
  · exact ⟨by rw [a, b], c, f, h2, fun e => absurd a e, fun _ => ⟨d, e⟩⟩
  · rw [h2.down] at b; cases b

theorem fine_small {x : Ch} (h : chErr x = 0) : x.key.size ≤ 200 ∧ x.val.size ≤ 200 := by have := chErr_sizes h; omega
theorem stOpenI (B g : Nat) (w : World) (D : DkM) (S : StM) (hD : DkAt B w g D) (hB : B ≤ w.heap.size) (h : StInv D S) :
    Calls Try.prog 9 #[.pointer (some ⟨g, 0, none⟩)] w (OpenSt B w g S) := by
  have hn := h.few
  have ht := h.top
  obtain ⟨m, r1, r2, r3, r4, r5⟩ := h.on.rows
  obtain ⟨f1, f2, f3, f4, f5, f6⟩ := h.on.fin
  have e1 := nwH_now h.up (by omega)
  have e2 := opLog_now h.up (by omega)
  rw [h.on.head] at e1 e2
  have hsl := h.on.mid.2.2.1
  have hc := lgRead_count (1 + S.head.log) (txt D.now 122 (D.now.length - 122)) 0 [] [] 0 (by simp [deedsLen]) (by simp)
  rw [show lgRead (1 + S.head.log) (txt D.now 122 (D.now.length - 122)) 0 [] [] 0 = nLog D.now S.head from rfl] at hc
  have hle := nLog_le D.now S.head
  have hR : hdRead D (nwH D) = (0, m) := by rw [e1, hdRead_now h.up (by omega) hsl]; exact r1
  have hS : opSt D (stRows m (opLog D).1) = S := by
    unfold opSt
    rw [e1, e2, ← r5, ← f1, ← f6]
  have := stOpen_any B g w D hD hB h.up hn m hR r2 r3 (fun x hx => fine_small (r4 x hx)) (by
    rw [e2]
    exact fun l hl x hx => fine_small (lgRead_good _ _ 0 [] [] 0 (by simp) (by simp) l hl x hx)) (by rw [e2]; omega) (by rw [e2]; omega)
  rw [hS] at this
  exact this

theorem formatI (B g : Nat) (w : World) (D : DkM) (hD : DkAt B w g D) (hB : B ≤ w.heap.size) (hq : Quiet D) (hn : 196 ≤ D.now.length) (ht : D.now.length ≤ 260) (hwr : D.wr.length ≤ 800000) :
    Calls Try.prog 10 #[.pointer (some ⟨g, 0, none⟩)] w fun e w' => e = .returned .nilIface ∧ Step B stTypes w w' ∧ ∃ D' S', DkAt B w' g D' ∧ StInv D' S' ∧ Quiet D' ∧ S'.rows = [] ∧ S'.log.fin = 0 ∧ D'.now.length = D.now.length := by
  have e1 := nwH_now hq.down (by omega)
  have e2 := opLog_now hq.down (by omega)
  have hle : (opLog D).2 ≤ D.now.length - 122 := by rw [e2]; exact nLog_le _ _
  obtain ⟨k0, k1, k2, k3, k4, k5⟩ := checkQ (S := opSt D []) hq hn ht e1.symm (by show (opLog D).2 = (nLog D.now (nwH D)).2; rw [e1, e2]) List.Pairwise.nil (by simp [opSt]) (by simp [opSt])
  refine (format_any B g w D hD hB hq.down hn hwr _ rfl hle).mono ?_
  rintro e w' ⟨rfl, hd, hs⟩
  exact ⟨by rw [k0]; rfl, hs, _, _, hd, k1, k5, k2, k3, k4⟩
end Go.Proofs.Ythhedahfmllnoaa

/- The law's Stored; its closed check. -/
namespace Go.Proofs.Ythhedahfmllnoaa
open Go.RowKit
set_option maxRecDepth 100000

structure StQ (B : Nat) (w : World) (g gs n : Nat) (D : DkM) (S : StM) : Prop where
  dk : DkAt B w g D
  st : StAt B w gs g S
  inv : StInv D S
  quiet : Quiet D
  len : D.now.length = n
theorem StQ.below {B g gs n : Nat} {w w' : World} {D : DkM} {S : StM} (h : StQ B w g gs n D S) (hb : Below w.heap.size w w') : StQ B w' g gs n D S := ⟨h.dk.below hb, h.st.below hb, h.inv, h.quiet, h.len⟩
theorem StQ.step {B B' g gs n : Nat} {ts : List TypeId} {w w' : World} {D : DkM} {S : StM} (h : StQ B w g gs n D S) (hs : Step B' ts w w') (ht : ∀ t ∈ stTypes, t ∉ ts) (ha : 60 ∉ ts) : StQ B w' g gs n D S := by
  obtain ⟨gl, A, c, hI⟩ := h.st
  exact ⟨h.dk.step hs (ht _ (by decide)) (ht _ (by decide)) (ht _ (by decide)), ⟨gl, A, c, hI.step hs (ht _ (by decide)) (ht _ (by decide)) ha⟩, h.inv, h.quiet, h.len⟩
theorem commitC (B gs g n : Nat) (w : World) (S : StM) (D : DkM) (A : Option Addr) (cA : Nat) (l : List Ch) (h : StQ B w g gs n D S) (hl : ∀ w', Step B stTypes w w' → ChsAt w' A l) (hln : l.length ≤ 900) :
    Calls Try.prog 11 #[.pointer (some ⟨gs, 0, none⟩), .slice A l.length cA] w fun e w' => e = .returned (errV (cmErr l S n)) ∧ Step B stTypes w w' ∧ ∃ D1 S1, StQ B w' g gs n D1 S1 ∧ (¬ cmErr l S n = 0 → S1.rows = S.rows ∧ S1.log.fin = S.log.fin) ∧ (cmErr l S n = 0 → S1.rows = apAll S.rows l ∧ S1.log.fin = (if n - 122 - S.log.fin < l.length + 1 then 0 else S.log.fin) + l.length + 1) := by
  have hm := h.inv.on.mid
  have hfi := h.inv.on.fin
  have hfew := h.inv.few
  obtain ⟨q1, q2, q3, q4, q5, q6⟩ := commitI h.inv h.quiet l
  rw [h.len] at q1 q3 q5 q6
  refine (stCommit_any B gs g w S D A cA l h.st h.dk hl hln hm.2.2.1 hm.2.2.2.1 hm.2.2.2.2 h.inv.on.len hm.1 hfi.2.2.2.2.2 hfi.2.2.2.2.1 (by omega) (by rw [h.inv.wr]; simp) _ rfl).mono ?_
  rintro e w' ⟨rfl, a1, a2, a3⟩
  refine ⟨by rw [q1], a3, _, _, ⟨a2, a1, q2, q4, q3⟩, fun e => by rw [q5 e]; exact ⟨rfl, rfl⟩, fun e => ?_⟩
  obtain ⟨b1, b2⟩ := q6 e
  rw [hfi.2.1, h.len] at b2
  exact ⟨b1, b2⟩
theorem checkC (B gs g n : Nat) (w : World) (S : StM) (D : DkM) (h : StQ B w g gs n D S) :
    Calls Try.prog 13 #[.pointer (some ⟨gs, 0, none⟩)] w fun e w' => e = .returned .nilIface ∧ Step B stTypes w w' ∧ ∃ D1 S1, StQ B w' g gs n D1 S1 ∧ S1.rows = S.rows ∧ S1.log.fin = 0 := by
  have hm := h.inv.on.mid
  have hfi := h.inv.on.fin
  have hfew := h.inv.few
  obtain ⟨q1, q2, q3, q4, q5, q6⟩ := checkI h.inv h.quiet
  refine (stCheck_any B gs g w S D h.st h.dk hm.2.2.1 hm.2.2.2.1 hm.2.2.2.2 h.inv.on.len hfi.2.1 hfi.2.2.2.2.1 (by omega) (by rw [h.inv.wr]; simp) _ rfl).mono ?_
  rintro e w' ⟨rfl, a1, a2, a3⟩
  exact ⟨by rw [q1]; rfl, a3, _, _, ⟨a2, a1, q2, q6, by rw [q5]; exact h.len⟩, q3, q4⟩
theorem openC (B gs g n : Nat) (w : World) (S : StM) (D : DkM) (h : StQ B w g gs n D S) (hB : B ≤ w.heap.size) :
    Calls Try.prog 9 #[.pointer (some ⟨g, 0, none⟩)] w fun e w' => ∃ gs', e = .returned (.tuple #[.pointer (some ⟨gs', 0, none⟩), .nilIface]) ∧ StQ B w' g gs' n D S ∧ Below w.heap.size w w' := by
  refine (stOpenI B g w D S h.dk hB h.inv).mono ?_
  rintro e w' ⟨gs', rfl, a1, _, a2⟩
  exact ⟨gs', rfl, ⟨h.dk.below a2, a1, h.inv, h.quiet, h.len⟩, a2⟩
theorem roomC (B gs g n : Nat) (w : World) (S : StM) (D : DkM) (h : StQ B w g gs n D S) :
    Calls Try.prog 14 #[.pointer (some ⟨gs, 0, none⟩)] w fun e w' => e = .returned (.int .i64 ((n : Int) - 122 - (S.log.fin : Int))) ∧ Below w.heap.size w w' := by
  have hfi := h.inv.on.fin
  have hfew := h.inv.few
  have htop := h.inv.top
  have hlen := h.len
  refine (stRoom_any B gs g w S h.st (by omega) (by omega)).mono ?_
  rintro e w' ⟨rfl, hb⟩
  exact ⟨by rw [hfi.2.1, show ((D.now.length - 122 : Nat) : Int) = (n : Int) - 122 by omega], hb⟩
def StoredRet (w : World) (n : Nat) (e : Ending) (w' : World) : Prop :=
  ∃ g gs D S, e = .returned (.tuple #[.pointer (some ⟨g, 0, none⟩), .pointer (some ⟨gs, 0, none⟩), .bool true]) ∧ StQ w.heap.size w' g gs n D S ∧ S.rows = [] ∧ S.log.fin = 0 ∧ Below w.heap.size w w'

theorem quiet_new (n : Nat) : Quiet (dkNew n) := ⟨rfl, rfl⟩
theorem stStep_disk {B : Nat} {w w' : World} (h : Step B dkTypes w w') : Step B stTypes w w' := h.mono (Nat.le_refl _) (fun t ht => List.mem_cons_of_mem _ (lg_sub t ht))

theorem stored_any (w : World) : Calls Try.prog 18 #[.int .i64 200] w (StoredRet w 200) := by
  have HN := Lib.hid ((dkNew_any w 200).mono (R' := fun e w' => ∃ g, e = .returned (.tuple #[.pointer (some ⟨g, 0, none⟩), .nilIface]) ∧ DkAt w.heap.size w' g (dkNew 200) ∧ Below w.heap.size w w') (fun e w' h => by
    unfold DkNew at h
    rw [if_pos (by omega)] at h
    exact h))
  have HF := Lib.hid (fun w1 g (hD : DkAt w.heap.size w1 g (dkNew 200)) (hb : Below w.heap.size w w1) => formatI w.heap.size g w1 (dkNew 200) hD hb.size (quiet_new 200) (by simp [dkNew]) (by simp [dkNew]) (by simp [dkNew]))
  go_enter Try.func18, Try.ntmps18
  go_wp2_with fail
  ((with_reducible refine HN.out.mono ?_); rintro e w1 ⟨g, rfl, hD, hb⟩)
  have HF1 := Lib.hid (HF.out w1 g hD hb)
  have HB := Lib.hid hb
  clear HF HN hD hb
  go_wp2_with fail
  ((with_reducible refine HF1.out.mono ?_); rintro e w2 ⟨rfl, hs, D', S', hD', hI, hq, hr, hf, hl⟩)
  have HS2 := Lib.hid hs
  have HO := Lib.hid (stOpenI w.heap.size g w2 D' S' hD' (Nat.le_trans HB.out.size hs.size) hI)
  have HP := Lib.hid (show _ ∧ _ ∧ _ ∧ _ ∧ _ ∧ _ from ⟨hD', hI, hq, hr, hf, hl⟩)
  clear HF1 hs hD' hI hq hr hf hl
  go_wp2_with fail
  ((with_reducible refine HO.out.mono ?_); rintro e w3 ⟨gs, rfl, hst, hgs, hb3⟩)
  have HFIN := Lib.hid (show StoredRet w 200 (.returned (.tuple #[.pointer (some ⟨g, 0, none⟩), .pointer (some ⟨gs, 0, none⟩), .bool true])) w3 from by
    obtain ⟨p1, p2, p3, p4, p5, p6⟩ := HP.out
    exact ⟨g, gs, D', S', rfl, ⟨p1.below hb3, hst, p2, p3, by rw [p6]; simp [dkNew]⟩, p4, p5, HB.out.trans (HS2.out.below.trans (hb3.mono (Nat.le_trans HB.out.size HS2.out.size)))⟩)
  clear hst hgs hb3 HO HP HS2
  go_wp2_with fail
  go_ret3
  exact HFIN.out

def kx : Ch := ⟨⟨#[107]⟩, ⟨#[120]⟩, false⟩
theorem kx_fine : chErr kx = 0 := by decide
theorem kx_new (w : World) : ∀ B ts w', Step B ts (w.alloc (.cells #[.string ⟨#[107]⟩, .string ⟨#[120]⟩, .bool false] 60)) w' → 60 ∉ ts → ChsAt w' (some ⟨w.heap.size, 0, none⟩) [kx] := fun B ts w' hs ht i hi => by
  have hr := hs.other _ _ _ _ (heap_alloc_new w (.cells #[.string ⟨#[107]⟩, .string ⟨#[120]⟩, .bool false] 60)) ht
  have h0 : i = 0 := by simpa using hi
  subst h0
  exact ⟨w.heap.size, 0, rfl, (Array.getElem?_eq_some_iff.1 hr).1, cell_of_row _ _ _ _ _ _ hr, cell_of_row _ _ _ _ _ _ hr, cell_of_row _ _ _ _ _ _ hr, by show (1 : Nat) ≤ maxLen; decide, by show (1 : Nat) ≤ maxLen; decide⟩
theorem kx_rows : apAll [] [kx] = [kx] := by rfl
theorem kx_err {S : StM} (h : S.rows = []) : cmErr [kx] S 200 = 0 := by
  unfold cmErr
  rw [h, kx_rows, if_neg (by simp), if_neg (by simp [chsErr, kx_fine]), if_neg (by simp)]

set_option maxHeartbeats 4000000 in
theorem stores_any (w : World) : Calls Try.prog 5 #[] w fun e w' => e = .returned (.bool true) ∧ Below w.heap.size w w' := by
  have HS := Lib.hid (stored_any w)
  go_enter Try.func5, Try.ntmps5
  go_wp2_with fail
  ((with_reducible refine HS.out.mono ?_); rintro e w1 ⟨g, gs, D, S, rfl, hq, hr, hf, hb⟩)
  have hba := (Below.refl w1.heap.size w1).alloc (Nat.le_refl _) (.cells #[.string ⟨#[107]⟩, .string ⟨#[120]⟩, .bool false] 60)
  have HC0 := commitC w.heap.size gs g 200 _ S D (some ⟨w1.heap.size, 0, none⟩) 1 [kx] (hq.below hba) (fun w' hs => kx_new w1 _ _ _ hs (by decide)) (by simp)
  rw [kx_err hr, hr, hf] at HC0
  have HC := Lib.hid (show Calls Try.prog 11 #[.pointer (some ⟨gs, 0, none⟩), .slice (some ⟨w1.heap.size, 0, none⟩) 1 1] (w1.alloc (.cells #[.string ⟨#[107]⟩, .string ⟨#[120]⟩, .bool false] 60)) (fun e w' => e = .returned .nilIface ∧ Below w.heap.size w w' ∧ ∃ D1 S1, Hid (StQ w.heap.size w' g gs 200 D1 S1 ∧ S1.rows = [kx] ∧ S1.log.fin = 2)) from HC0.mono (by
    rintro e w' ⟨rfl, h1, D1, S1, h2, _, h3⟩
    obtain ⟨h3, h4⟩ := h3 rfl
    exact ⟨rfl, (hb.trans (hba.mono hb.size)).trans h1.below, D1, S1, Lib.hid ⟨h2, h3, h4⟩⟩))
  clear HC0 hba hq hr hf hb HS
  go_wp2_with fail
  ((with_reducible refine HC.out.mono ?_); rintro e w2 ⟨rfl, hb2, D1, S1, HQ⟩)
  have HO := Lib.hid (openC w.heap.size gs g 200 w2 S1 D1 HQ.out.1 hb2.size)
  have HB2 := Lib.hid hb2
  clear HC hb2
  go_wp2_with fail
  ((with_reducible refine HO.out.mono ?_); rintro e w3 ⟨gs2, rfl, hq2, hb3⟩)
  have HR := Lib.hid (stRows_any w.heap.size gs2 g w3 S1 hq2.st (by rw [HQ.out.2.1]; simp))
  rw [HQ.out.2.1] at HR
  unfold CloneRet at HR
  have HB3 := Lib.hid (HB2.out.trans (hb3.mono HB2.out.size))
  have HQ3 := Lib.hid (HQ.out.1.below hb3)
  have HF := Lib.hid HQ.out.2.2
  clear hq2 hb3 HO HB2 HQ
  go_wp2_with fail
  ((with_reducible refine HR.out.mono ?_); rintro e w4 ⟨A4, c4, rfl, ho4, hb4⟩)
  have HM := Lib.hid (roomC w.heap.size gs g 200 w4 S1 D1 (HQ3.out.below hb4))
  rw [HF.out] at HM
  have HB4 := Lib.hid (HB3.out.trans (hb4.mono HB3.out.size))
  clear ho4 hb4 HR HQ3 HF HB3
  simp only [List.length_cons, List.length_nil, Nat.zero_add]
  go_wp2_with fail
  ((with_reducible refine HM.out.mono ?_); rintro e w5 ⟨rfl, hb5⟩)
  have HB5 := Lib.hid (HB4.out.trans (hb5.mono HB4.out.size))
  clear hb5 HM HB4
  go_wp2_with fail
  go_ret
  exact ⟨rfl, HB5.out⟩
end Go.Proofs.Ythhedahfmllnoaa
