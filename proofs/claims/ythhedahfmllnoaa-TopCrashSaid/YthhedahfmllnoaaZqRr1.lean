/- The document's rows: the fault of a change. -/
import Derived.Test.YthhedahfmllnoaaZqStP4
import Derived.Test.YthhedahfmllnoaaZqRow2
import Derived.Test.YthhedahfmllnoaaZqCmp
/- The store, pure: checkpoint, commit, failing or not. -/
namespace Go.Proofs.Ythhedahfmllnoaa
set_option maxRecDepth 100000

/-- A durable disk that holds a store. -/
structure StInv (D : DkM) (S : StM) : Prop where
  up : D.down = false
  wr : D.wr = []
  dur : D.dur = D.now
  few : 196 ≤ D.now.length
  top : D.now.length ≤ 260
  on : StOn D.now S

theorem StOn.mid {now : List (List UInt8)} {S : StM} (h : StOn now S) : SortedCh S.rows ∧ (∀ x ∈ S.rows, chErr x = 0) ∧ S.head.slot ≤ 1 ∧ S.head.turn ≤ 3 ∧ S.head.log ≤ 1 := by
  obtain ⟨m, r1, r2, r3, r4, r5⟩ := h.rows
  have hsm := nNew_small now
  rw [h.head] at hsm
  refine ⟨by rw [r5]; exact stRows_sorted _ _ r2, fun x hx => ?_, by omega, by omega, by omega⟩
  rw [r5] at hx
  rcases stRows_mem _ _ _ hx with h1 | ⟨l, h1, h2⟩
  · exact r4 x h1
  · exact lgRead_good _ _ 0 [] [] 0 (by simp) (by simp) l h1 x h2
theorem nLog_le (now : List (List UInt8)) (h : Hd) : (nLog now h).2 ≤ now.length - 122 := by
  unfold nLog
  have := lgRead_end (1 + h.log) (txt now 122 (now.length - 122)) 0 [] [] 0 (by omega)
  rw [txt_length] at this
  omega
theorem StOn.fin {now : List (List UInt8)} {S : StM} (h : StOn now S) : S.log.fin = (nLog now S.head).2 ∧ S.log.many = now.length - 122 ∧ S.log.frm = 122 ∧ S.log.first = 1 + S.head.log ∧ S.log.fin ≤ S.log.many ∧ S.log = stLog now.length S.head S.log.fin := by
  have e := h.log
  have := nLog_le now S.head
  refine ⟨by rw [e]; rfl, by rw [e]; rfl, by rw [e]; rfl, by rw [e]; rfl, by rw [e]; exact this, ?_⟩
  conv => lhs; rw [e]
  rw [show S.log.fin = (nLog now S.head).2 from by rw [e]; rfl]
theorem StInv.lg {D : DkM} {S : StM} (h : StInv D S) : LInv D S.log (nLog D.now S.head).1 := by
  obtain ⟨f1, f2, f3, f4, f5, f6⟩ := h.on.fin
  refine ⟨h.up, h.wr, h.dur, by rw [f2, f3]; have := h.few; omega, f5, ?_⟩
  rw [f4, f3, f2, f1]
  rfl
theorem StInv.restart {D : DkM} {S : StM} (h : StInv D S) (keep : Nat) : StInv (dkRestart D keep) S := by
  have e : (dkRestart D keep).now = D.now := by show dkKeep keep 0 D.wr D.dur = _; rw [h.wr, h.dur]; rfl
  exact ⟨rfl, rfl, rfl, by rw [e]; exact h.few, by rw [e]; exact h.top, by rw [e]; exact h.on⟩

/-- What may be there behind a restart: a store with rows. -/
def After (R : DkM) (n : Nat) (P : List Ch → Prop) : Prop := R.down = true ∧ ∀ keep, (dkRestart R keep).now.length = n ∧ ∃ S', StInv (dkRestart R keep) S' ∧ P S'.rows

theorem check_spec {D : DkM} {S : StM} (hd : D.down = false) (hn : 196 ≤ D.now.length) (ht : D.now.length ≤ 260) (hh : nNew D.now = S.head) (hf : S.log.fin = (nLog D.now S.head).2) (hs : SortedCh S.rows) (hg : ∀ x ∈ S.rows, chErr x = 0) (hr : S.rows.length ≤ 80) :
    ((stCheck S D).2.2 = 0 ∧ StInv (stCheck S D).2.1 (stCheck S D).1 ∧ (stCheck S D).1.rows = S.rows ∧ (stCheck S D).1.log.fin = 0 ∧ (stCheck S D).2.1.now.length = D.now.length) ∨
    ((stCheck S D).2.2 = 9 ∧ (stCheck S D).2.1.down = true ∧ (StInv D S → After (stCheck S D).2.1 D.now.length (fun r => r = S.rows))) := by
  have hsm := nNew_small D.now
  rw [hh] at hsm
  have hsl : (stHead S).slot = (S.head.slot + 1) % 2 := rfl
  obtain ⟨⟨ho⟩, hy⟩ := hdWrite_out D (stHead S) S.rows hd (by omega) (by omega) hr hg
  have hnew := fun now' h => on_new (now' := now') hh (by omega) hr hg hs (stHead S) (by unfold stHead; rw [hf]) hy h
  unfold stCheck
  obtain ⟨R, hR⟩ : ∃ R, hdWrite D (stHead S) S.rows = R := ⟨_, rfl⟩
  rw [hR] at ho ⊢
  rcases ho with ⟨e0, u1, u2, u3, u4⟩ | ⟨e9, u1, u2⟩
  · left
    rw [if_pos e0]
    obtain ⟨n1, n2, n3⟩ := hnew _ u4
    refine ⟨rfl, ⟨u1, u2, u3, by rw [n3]; exact hn, by rw [n3]; exact ht, ?_⟩, rfl, ?_, n3⟩
    · show StOn R.1.now ⟨stHead S, stLog D.now.length (stHead S) (stFin R.1 (stHead S)), S.rows⟩
      rw [stFin_now, n2]
      exact n1
    · show stFin R.1 (stHead S) = 0
      rw [stFin_now, n2]
  · right
    rw [if_neg (by omega)]
    refine ⟨e9, u1, fun hI => ⟨u1, fun keep => ?_⟩⟩
    rcases u2 ⟨hI.dur, hI.wr⟩ keep with ⟨w1, w2⟩ | w1
    · exact ⟨w1, S, ⟨rfl, rfl, rfl, by rw [w1]; exact hn, by rw [w1]; exact ht, hI.on.frame w1 (fun p hp => w2 p (by omega))⟩, rfl⟩
    · obtain ⟨n1, n2, n3⟩ := hnew _ w1
      exact ⟨n3, _, ⟨rfl, rfl, rfl, by rw [n3]; exact hn, by rw [n3]; exact ht, n1⟩, rfl⟩

/-- Sectors before some sector are as they were. -/
def Fore (N : List (List UInt8)) (f : Nat) (D : DkM) : Prop := (∀ p, p < f → D.dur[p]? = N[p]?) ∧ ∀ q ∈ D.wr, f ≤ q.1
theorem wrote_fore {D R : DkM} {k : Nat} {xs : List ByteArray} {e : Int} {N : List (List UInt8)} {f : Nat} (h : Wrote D R k xs e) (hk : f ≤ k) (hD : Fore N f D) (hN : ∀ p, p < f → D.now[p]? = N[p]?) : Fore N f R ∧ (e = 0 → ∀ p, p < f → R.now[p]? = N[p]?) := by
  rcases h with ⟨e0, h1, h2, h3, h4⟩ | ⟨e9, h1, h2, i, h3⟩
  · have hn : ∀ p, p < f → R.now[p]? = N[p]? := fun p hp => by rw [h1, setAll_out _ _ _ _ (by omega)]; exact hN p hp
    exact ⟨⟨fun p hp => by rw [h2]; exact hn p hp, by rw [h3]; simp⟩, fun _ => hn⟩
  · refine ⟨⟨fun p hp => by rw [h2]; exact hD.1 p hp, fun q hq => ?_⟩, fun h0 => by omega⟩
    rw [h3] at hq
    rcases List.mem_append.1 hq with hq | hq
    · exact hD.2 q hq
    · have := wrs_at _ _ q (List.mem_of_mem_take hq)
      omega
theorem fore_restart {R : DkM} {N : List (List UInt8)} {f : Nat} (h : Fore N f R) (keep : Nat) : ∀ p, p < f → (dkRestart R keep).now[p]? = N[p]? := fun p hp => by
  show (dkKeep keep 0 R.wr R.dur)[p]? = _
  rw [keep_out keep _ 0 _ p (fun q hq => by have := h.2 q hq; omega)]
  exact h.1 p hp
theorem put_fore {D : DkM} {L : LgM} {want : List (List Ch)} (h : LInv D L want) (l : List Ch) (hl : chsErr l = 0) (hfit : L.fin + l.length + 1 ≤ L.many) : Fore D.now L.frm (lgPut (entSecs L l) L D).1 := by
  have hfits := h.fit
  have hSl := entSecs_length L l
  have hrl := @rest_length L l
  have hD : Fore D.now L.frm D := ⟨fun p _ => by rw [h.dur], by rw [h.wr]; simp⟩
  have W1 := wrote [blankT] (L.frm + L.fin) D h.up (fun x hx => by simp at hx; subst hx; simp [blankT, ByteArray.size]) (by simp; omega)
  have F1 := wrote_fore W1 (by omega) hD (fun _ _ => rfl)
  have n1 : (lgWrite [blankT] (L.frm + L.fin) D).2 = 0 → (lgWrite [blankT] (L.frm + L.fin) D).1.now.length = D.now.length ∧ (lgWrite [blankT] (L.frm + L.fin) D).1.down = false := fun e => by
    rcases W1 with ⟨_, q1, _, _, q2⟩ | ⟨q1, _⟩
    · exact ⟨by rw [q1, setAll_length], q2⟩
    · omega
  unfold lgPut
  generalize lgWrite [blankT] (L.frm + L.fin) D = P1 at *
  by_cases e1 : P1.2 = 0
  · rw [if_pos e1]
    obtain ⟨l1, u1⟩ := n1 e1
    have W2 := wrote (restOf (entSecs L l) (L.many - L.fin)) (L.frm + (L.fin + 1)) P1.1 u1 (rest_small hl) (by rw [rest_length, l1]; omega)
    have F2 := wrote_fore W2 (by omega) F1.1 (F1.2 e1)
    generalize lgWrite (restOf (entSecs L l) (L.many - L.fin)) (L.frm + (L.fin + 1)) P1.1 = P2 at *
    by_cases e2 : P2.2 = 0
    · rw [if_pos e2]
      have hh : ((entSecs L l).headD blankT).size ≤ 80 := by
        rw [ent_head (by omega)]; exact ent_small hl _ (List.getElem_mem _)
      rcases W2 with ⟨_, q1, _, _, q2⟩ | ⟨q1, _⟩
      · have W3 := wrote [(entSecs L l).headD blankT] (L.frm + L.fin) P2.1 q2 (fun x hx => by rw [List.mem_singleton.1 hx]; exact hh) (by rw [q1, setAll_length, l1]; simp; omega)
        exact (wrote_fore W3 (by omega) F2.1 (F2.2 e2)).1
      · omega
    · rw [if_neg e2]; exact F2.1
  · rw [if_neg e1]; exact F1.1

theorem stRows_snoc (m : List Ch) (W : List (List Ch)) (l : List Ch) : stRows m (W ++ [l]) = apAll (stRows m W) l := by
  unfold stRows; rw [List.foldl_append]; rfl

/-- Sectors before the log are as they were, and the log reads so. -/
theorem StOn.log_new {now now' : List (List UInt8)} {S : StM} (h : StOn now S) (hl : now'.length = now.length) (hf : ∀ p, p < 122 → now'[p]? = now[p]?) (W : List (List Ch)) (fin : Nat) (hr : nLog now' S.head = (W, fin)) (rows : List Ch) (hw : ∀ m, S.rows = stRows m (nLog now S.head).1 → rows = stRows m W) (hlen : rows.length ≤ 80) :
    StOn now' ⟨S.head, { S.log with fin := fin }, rows⟩ := by
  have hsm := nNew_small now
  rw [h.head] at hsm
  have e1 : nNew now' = nNew now := nNew_same (hf 0 (by omega)) (hf 61 (by omega))
  have e2 : nRead now' S.head = nRead now S.head := nRead_same fun j hj => hf _ (by omega)
  obtain ⟨m, r1, r2, r3, r4, r5⟩ := h.rows
  refine ⟨by rw [e1]; exact h.head, h.turn, ?_, ⟨m, by rw [e2]; exact r1, r2, r3, r4, ?_⟩, hlen⟩
  · show { S.log with fin := fin } = stLog now'.length S.head (nLog now' S.head).2
    rw [hr, hl, h.log]
    rfl
  · show rows = stRows m (nLog now' S.head).1
    rw [hr]; exact hw m r5

theorem add_spec {D : DkM} {S : StM} (h : StInv D S) (l : List Ch) (hl : chsErr l = 0) (hln : l.length ≤ 72) (hfit : S.log.fin + l.length + 1 ≤ S.log.many) (hr : (apAll S.rows l).length ≤ 80) :
    ((stAdd l (S, D)).2.2 = 0 ∧ StInv (stAdd l (S, D)).2.1 (stAdd l (S, D)).1 ∧ (stAdd l (S, D)).1.rows = apAll S.rows l ∧ (stAdd l (S, D)).1.log.fin = S.log.fin + l.length + 1 ∧ (stAdd l (S, D)).2.1.now.length = D.now.length) ∨
    ((stAdd l (S, D)).2.2 = 9 ∧ After (stAdd l (S, D)).2.1 D.now.length (fun r => r = S.rows ∨ r = apAll S.rows l)) := by
  have hlg := h.lg
  obtain ⟨f1, f2, f3, f4, f5, f6⟩ := h.on.fin
  have hpf := put_fore hlg l hl hfit
  rw [f3] at hpf
  have hps := put_spec hlg l hl hfit
  have hadd : lgAdd l S.log D = if ¬ (lgPut (entSecs S.log l) S.log D).2 = 0 then (S.log, (lgPut (entSecs S.log l) S.log D).1, (lgPut (entSecs S.log l) S.log D).2) else ({ S.log with fin := S.log.fin + l.length + 1 }, (lgPut (entSecs S.log l) S.log D).1, 0) := by
    unfold lgAdd
    rw [if_neg (by omega), if_neg (by omega), if_neg (by simp [hl])]
  have hlogeq : ∀ now' : List (List UInt8), now'.length = D.now.length → nLog now' S.head = lgRead S.log.first (txt now' S.log.frm S.log.many) 0 [] [] 0 := fun now' e => by
    unfold nLog; rw [f4, f3, f2, e]
  unfold stAdd
  rw [show (S, D).1 = S from rfl, show (S, D).2 = D from rfl]
  generalize lgPut (entSecs S.log l) S.log D = P at *
  have hfew := h.few
  have htop := h.top
  rcases hps with ⟨p0, p1, p2⟩ | ⟨p9, p1, p2⟩
  · left
    have ha : lgAdd l S.log D = ({ S.log with fin := S.log.fin + l.length + 1 }, P.1, 0) := by rw [hadd]; exact if_neg (by simpa using p0)
    rw [ha, if_pos rfl]
    have hre : ∀ p, p < 122 → P.1.now[p]? = D.now[p]? := fun p hp => by
      have := fore_restart hpf 0 p hp
      rwa [show (dkRestart P.1 0).now = P.1.now from by show dkKeep 0 0 P.1.wr P.1.dur = _; rw [p1.wr, p1.dur]; rfl] at this
    refine ⟨rfl, ⟨p1.up, p1.wr, p1.dur, by rw [p2]; exact hfew, by rw [p2]; exact htop, ?_⟩, rfl, rfl, p2⟩
    refine h.on.log_new p2 hre ((nLog D.now S.head).1 ++ [l]) _ ?_ (apAll S.rows l) (fun m e => by rw [stRows_snoc, ← e]) hr
    rw [hlogeq _ p2]
    exact p1.read
  · right
    have ha : lgAdd l S.log D = (S.log, P.1, P.2) := by rw [hadd]; exact if_pos (by omega)
    rw [ha, if_neg (by show ¬ P.2 = 0; omega)]
    refine ⟨p9, p1, fun keep => ?_⟩
    obtain ⟨q1, q2⟩ := p2 keep
    refine ⟨q2, ?_⟩
    have hre := fore_restart hpf keep
    rcases q1 with q1 | q1
    · exact ⟨_, ⟨rfl, rfl, rfl, by rw [q2]; exact hfew, by rw [q2]; exact htop, h.on.log_new q2 hre _ _ ((hlogeq _ q2).trans q1) S.rows (fun m e => e) h.on.len⟩, .inl rfl⟩
    · exact ⟨_, ⟨rfl, rfl, rfl, by rw [q2]; exact hfew, by rw [q2]; exact htop, h.on.log_new q2 hre _ _ ((hlogeq _ q2).trans q1) (apAll S.rows l) (fun m e => by rw [stRows_snoc, ← e]) hr⟩, .inr rfl⟩

/-- A commit that is refused without a step. -/
def cmErr (l : List Ch) (S : StM) (n : Nat) : Int :=
  if 72 < l.length then 2 else if ¬ chsErr l = 0 then chsErr l else if 80 < (apAll S.rows l).length ∨ n - 122 < l.length + 1 then 8 else 0
theorem commit_spec {D : DkM} {S : StM} (h : StInv D S) (l : List Ch) :
    (¬ cmErr l S D.now.length = 0 ∧ stCommit l S D = (S, D, cmErr l S D.now.length)) ∨
    (cmErr l S D.now.length = 0 ∧
      (((stCommit l S D).2.2 = 0 ∧ StInv (stCommit l S D).2.1 (stCommit l S D).1 ∧ (stCommit l S D).1.rows = apAll S.rows l ∧ (stCommit l S D).1.log.fin = (if S.log.many - S.log.fin < l.length + 1 then 0 else S.log.fin) + l.length + 1 ∧ (stCommit l S D).2.1.now.length = D.now.length) ∨
      ((stCommit l S D).2.2 = 9 ∧ After (stCommit l S D).2.1 D.now.length (fun r => r = S.rows ∨ r = apAll S.rows l)))) := by
  obtain ⟨f1, f2, f3, f4, f5, f6⟩ := h.on.fin
  obtain ⟨m1, m2, m3⟩ := h.on.mid
  have hfew := h.few
  unfold cmErr stCommit
  by_cases c1 : 72 < l.length
  · rw [if_pos c1, if_pos c1]; exact .inl ⟨by omega, rfl⟩
  rw [if_neg c1, if_neg c1]
  by_cases c2' : ¬ chsErr l = 0
  · rw [if_pos c2', if_pos c2']; exact .inl ⟨c2', rfl⟩
  rw [if_neg c2', if_neg c2']
  have c2 : chsErr l = 0 := by simpa using c2'
  by_cases c3 : 80 < (apAll S.rows l).length ∨ D.now.length - 122 < l.length + 1
  · rw [if_pos c3, if_pos c3]; exact .inl ⟨by omega, rfl⟩
  rw [if_neg c3, if_neg c3]
  refine .inr ⟨rfl, ?_⟩
  by_cases c4 : S.log.many - S.log.fin < l.length + 1
  · rw [if_neg (by simpa using c4), if_pos c4]
    rcases check_spec h.up h.few h.top h.on.head f1 m1 m2 h.on.len with ⟨k0, k1, k2, k3, k4⟩ | ⟨k9, k1, k2⟩
    · rw [if_neg (by simpa using k0)]
      obtain ⟨g1, g2, _⟩ := k1.on.fin
      rcases add_spec k1 l c2 (by omega) (by rw [k3, g2, k4]; omega) (by rw [k2]; omega) with ⟨a0, a1, a2, a3, a4⟩ | ⟨a9, a1⟩
      · exact .inl ⟨a0, a1, by rw [a2, k2], by rw [a3, k3], by rw [a4, k4]⟩
      · rw [k2, k4] at a1
        exact .inr ⟨a9, a1⟩
    · rw [if_pos (by omega)]
      obtain ⟨b1, b2⟩ := k2 h
      exact .inr ⟨k9, b1, fun keep => ⟨(b2 keep).1, by obtain ⟨S', s1, s2⟩ := (b2 keep).2; exact ⟨S', s1, .inl s2⟩⟩⟩
  · rw [if_pos c4, if_neg c4]
    exact add_spec h l c2 (by omega) (by omega) (by omega)
end Go.Proofs.Ythhedahfmllnoaa

/- The document's rows: the fault of a change. -/
namespace Go.Proofs.Ythhedahfmllnoaa
open Go.RowKit Go.PlainAid

theorem rfault_any (c : Ch) (w : World) (hk : c.key.size ≤ maxLen) (hv : c.val.size ≤ maxLen) :
    Calls Try.prog 33 #[.agg #[.string c.key, .string c.val, .bool c.gone]] w fun e w' => e = .returned (.int .i64 (chErr c)) ∧ Below w.heap.size w w' := by
  unfold maxLen at hk hv
  obtain ⟨key, val, gone⟩ := c
  simp only [] at *
  by_cases h0 : key.size = 0
  · have t1 := toList_nil h0
    rw [show chErr ⟨key, val, gone⟩ = 3 from by unfold chErr; rw [if_pos (.inl h0)]]
    clear h0 hk hv
    go_enter Try.func33, Try.ntmps33
    go_wp2
    go_ret
    exact ⟨rfl, (Below.refl _ _).alloc (Nat.le_refl _) _⟩
  · have t1 := toList_not h0
    have t2 := empty_no h0
    cases gone with
    | false =>
      have c1 : ¬ (key.size = 0 ∨ false = true ∧ ¬ val.size = 0) := by simp [h0]
      by_cases k8 : 8 < key.size
      · have k8' : (8 : Int) < (key.size : Int) := by omega
        rw [show chErr ⟨key, val, false⟩ = 2 from by unfold chErr; rw [if_neg c1, if_pos (.inl k8)]]
        clear c1 k8 h0
        go_enter Try.func33, Try.ntmps33
        go_wp2
        go_ret
        exact ⟨rfl, (Below.refl _ _).alloc (Nat.le_refl _) _⟩
      · have k8' : ¬ (8 : Int) < (key.size : Int) := by omega
        by_cases v48 : 48 < val.size
        · have v48' : (48 : Int) < (val.size : Int) := by omega
          rw [show chErr ⟨key, val, false⟩ = 2 from by unfold chErr; rw [if_neg c1, if_pos (.inr v48)]]
          clear c1 k8 v48 h0
          go_enter Try.func33, Try.ntmps33
          go_wp2
          go_ret
          exact ⟨rfl, (Below.refl _ _).alloc (Nat.le_refl _) _⟩
        · have v48' : ¬ (48 : Int) < (val.size : Int) := by omega
          rw [show chErr ⟨key, val, false⟩ = 0 from by unfold chErr; rw [if_neg c1, if_neg (by simp only []; omega)]]
          clear c1 k8 v48 h0
          go_enter Try.func33, Try.ntmps33
          go_wp2
          go_ret
          exact ⟨rfl, (Below.refl _ _).alloc (Nat.le_refl _) _⟩
    | true =>
      by_cases v0 : val.size = 0
      · have t3 := empty_yes v0
        have c1 : ¬ (key.size = 0 ∨ true = true ∧ ¬ val.size = 0) := by simp [h0, v0]
        by_cases k8 : 8 < key.size
        · have k8' : (8 : Int) < (key.size : Int) := by omega
          rw [show chErr ⟨key, val, true⟩ = 2 from by unfold chErr; rw [if_neg c1, if_pos (.inl k8)]]
          clear v0 c1 k8 h0
          go_enter Try.func33, Try.ntmps33
          go_wp2
          go_ret
          exact ⟨rfl, (Below.refl _ _).alloc (Nat.le_refl _) _⟩
        · have k8' : ¬ (8 : Int) < (key.size : Int) := by omega
          by_cases v48 : 48 < val.size
          · have v48' : (48 : Int) < (val.size : Int) := by omega
            rw [show chErr ⟨key, val, true⟩ = 2 from by unfold chErr; rw [if_neg c1, if_pos (.inr v48)]]
            clear v0 c1 k8 v48 h0
            go_enter Try.func33, Try.ntmps33
            go_wp2
            go_ret
            exact ⟨rfl, (Below.refl _ _).alloc (Nat.le_refl _) _⟩
          · have v48' : ¬ (48 : Int) < (val.size : Int) := by omega
            rw [show chErr ⟨key, val, true⟩ = 0 from by unfold chErr; rw [if_neg c1, if_neg (by simp only []; omega)]]
            clear v0 c1 k8 v48 h0
            go_enter Try.func33, Try.ntmps33
            go_wp2
            go_ret
            exact ⟨rfl, (Below.refl _ _).alloc (Nat.le_refl _) _⟩
      · have t3 := empty_no v0
        rw [show chErr ⟨key, val, true⟩ = 3 from by unfold chErr; rw [if_pos (.inr ⟨rfl, v0⟩)]]
        clear h0 v0
        go_enter Try.func33, Try.ntmps33
        go_wp2
        go_ret
        exact ⟨rfl, (Below.refl _ _).alloc (Nat.le_refl _) _⟩
end Go.Proofs.Ythhedahfmllnoaa
