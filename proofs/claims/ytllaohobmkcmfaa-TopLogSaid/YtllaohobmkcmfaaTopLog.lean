/- TopLog: the walk. -/
import Derived.Test.YtllaohobmkcmfaaTl2
import Derived.Test.YtllaohobmkcmfaaNumber
import Derived.Deep.DeepCutAuto
import Derived.Deep.CutBlock
namespace Go.Proofs.Ytllaohobmkcmfaa
open Go.RowKit Go.PlainAid

def Lm (f : Nat) : LgM := ⟨1, 59, 5, f⟩
theorem new_inv : LInv (dkNew 60) (Lm 0) [] := by
  refine ⟨rfl, rfl, rfl, by simp [Lm, dkNew], by simp [Lm], ?_⟩
  have e : txt (dkNew 60).now 1 59 = onDisk blankT :: (txt (dkNew 60).now 1 59).drop 1 := by rfl
  show lgRead 5 (txt (dkNew 60).now 1 59) 0 [] [] 0 = ([], 0)
  rw [e]
  exact read_blank _ _ _ _ _ _
theorem arm_inv {D : DkM} {L : LgM} {want : List (List Ch)} (h : LInv D L want) (n : Int) : LInv (dkArm D n) L want := ⟨h.up, h.wr, h.dur, h.fit, h.fin, h.read⟩

theorem own_lower2 {w : World} {B B' : Nat} {e : TypeId} {size n : Nat} {v : Value} {xs : List Value} (h : w.ownsRow B e size v n xs) (hB : B' ≤ B) : w.ownsRow B' e size v n xs := by
  refine ⟨h.1, ?_⟩
  rcases h.2 with h1 | ⟨g, cap, cur, h1, h2, h3⟩
  · exact .inl h1
  · exact .inr ⟨g, cap, cur, h1, by omega, h3⟩
theorem deeds_keep {w w' : World} {B : Nat} {v : Value} {L : List (List Ch)} (h : DeedsAt w B v L) (hk : ∀ (k : Nat) (cs : Array Value) (t : TypeId), t = 45 ∨ t = 50 → w.heap[k]? = some (.cells cs t (0, 0)) → w'.heap[k]? = some (.cells cs t (0, 0))) : DeedsAt w' B v L := by
  have go : ∀ (t : TypeId) (size n : Nat) (u : Value) (xs : List Value), t = 45 ∨ t = 50 → w.ownsRow B t size u n xs → w'.ownsRow B t size u n xs := fun t size n u xs ht ho => by
    refine ⟨ho.1, ?_⟩
    rcases ho.2 with h4 | ⟨g, cap, cur, e, hB, hg, r⟩
    · exact .inl h4
    · exact .inr ⟨g, cap, cur, e, hB, hk g cur t ht hg, r⟩
  obtain ⟨vs, h1, h2, h3⟩ := h
  exact ⟨vs, h1, go _ _ _ _ _ (.inl rfl) h2, fun i hi hv => go _ _ _ _ _ (.inr rfl) (h3 i hi hv)⟩
theorem wpList_want {P : Program} {ops : Array Oper} {Q : Exit → Act → World → Prop} {a : Act} {w : World} {rest : List Oper} {o : Oper} (hw : Region.wanted o (yielded ops a.tmps) = true) (h : o.wp P a w (wpList P ops Q rest) Q) : wpList P ops Q (o :: rest) a w := by
  show if Region.wanted o (yielded ops a.tmps) then _ else _
  rw [if_pos hw]
  exact .inl h
theorem chsErr_range : ∀ l : List Ch, 0 ≤ chsErr l ∧ chsErr l ≤ 3
  | [] => by simp [chsErr]
  | c :: r => by
    rw [chsErr]
    split
    · exact chsErr_range r
    · unfold chErr; split
      · omega
      · split <;> omega
theorem lgPut_wr (S : List ByteArray) (L : LgM) (D : DkM) : (lgPut S L D).1.wr.length ≤ D.wr.length + S.length + 3 := by
  have hr : (restOf S (L.many - L.fin)).length ≤ S.length + 1 := by unfold restOf; simp; omega
  have h1 := lgWrite_wr [blankT] (L.frm + L.fin) D
  simp only [List.length_singleton] at h1
  unfold lgPut
  by_cases e1 : (lgWrite [blankT] (L.frm + L.fin) D).2 = 0
  · rw [if_pos e1]
    have h2 := lgWrite_wr (restOf S (L.many - L.fin)) (L.frm + (L.fin + 1)) (lgWrite [blankT] (L.frm + L.fin) D).1
    by_cases e2 : (lgWrite (restOf S (L.many - L.fin)) (L.frm + (L.fin + 1)) (lgWrite [blankT] (L.frm + L.fin) D).1).2 = 0
    · rw [if_pos e2]
      have h3 := lgWrite_wr [S.headD blankT] (L.frm + L.fin) (lgWrite (restOf S (L.many - L.fin)) (L.frm + (L.fin + 1)) (lgWrite [blankT] (L.frm + L.fin) D).1).1
      simp only [List.length_singleton] at h3
      omega
    · rw [if_neg e2]; omega
  · rw [if_neg e1]; omega

def oc : Ch := ⟨⟨#[122]⟩, ⟨#[122]⟩, false⟩
theorem last_add {D : DkM} {f : Nat} {got : List (List Ch)} (h : LInv D (Lm f) got) (hc : Calm 60 D) (hf : f + 2 ≤ 59) :
    lgAdd [oc] (Lm f) D = (Lm (f + 2), (lgPut (entSecs (Lm f) [oc]) (Lm f) D).1, 0) ∧ LInv (lgPut (entSecs (Lm f) [oc]) (Lm f) D).1 (Lm (f + 2)) (got ++ [[oc]]) ∧ (lgPut (entSecs (Lm f) [oc]) (Lm f) D).1.now.length = 60 := by
  have hce : chsErr [oc] = 0 := by decide
  have hfit : (Lm f).fin + [oc].length + 1 ≤ (Lm f).many := by simp [Lm]; omega
  obtain ⟨p1, p2⟩ := calm_put (l := [oc]) hc hce hfit (by simp [Lm])
  rcases put_spec h [oc] hce hfit with ⟨h1, h2, h3⟩ | ⟨h1, _⟩
  · refine ⟨?_, h2, h3.trans hc.size⟩
    unfold lgAdd
    rw [if_neg (by simp), if_neg (by simp [Lm]; omega), if_neg (by simp [hce]), if_neg (by simp [h1])]
    rfl
  · omega

/-- What Add comes to. -/
def AddCase (want : List (List Ch)) (l : List Ch) (f : Nat) (D : DkM) (R : LgM × DkM × Int) : Prop :=
  (∃ n : Int, n ≠ 0 ∧ n ≠ 9 ∧ 0 ≤ n ∧ n ≤ 100 ∧ R = (Lm f, D, n)) ∨
  (R.2.2 = 0 ∧ R.1 = Lm (f + l.length + 1) ∧ LInv R.2.1 R.1 (want ++ [l]) ∧ R.2.1.now.length = 60) ∨
  (R.2.2 = 9 ∧ R.2.1.wr.length ≤ 100000 ∧ ∀ keep, ∃ got f', (got = want ∨ got = want ++ [l]) ∧ f' ≤ 59 ∧ (dkRestart R.2.1 keep).now.length = 60 ∧ lgRead 5 (txt (dkRestart R.2.1 keep).now 1 59) 0 [] [] 0 = (got, f'))
theorem add_case {D : DkM} {f : Nat} {want : List (List Ch)} (h : LInv D (Lm f) want) (h60 : D.now.length = 60) (l : List Ch) (hl : l.length ≤ 14) : AddCase want l f D (lgAdd l (Lm f) D) := by
  have hf : f ≤ 59 := h.fin
  unfold lgAdd
  rw [if_neg (by omega)]
  by_cases hfull : (Lm f).many < (Lm f).fin + l.length + 1
  · rw [if_pos hfull]
    exact .inl ⟨8, by omega, by omega, by omega, by omega, rfl⟩
  · rw [if_neg hfull]
    have hfit : f + l.length + 1 ≤ 59 := by simp only [Lm] at hfull; omega
    by_cases hce : chsErr l = 0
    · rw [if_neg (by simp [hce])]
      have hwr := lgPut_wr (entSecs (Lm f) l) (Lm f) D
      rw [h.wr, entSecs_length] at hwr
      rcases put_spec h l hce hfit with ⟨h1, h2, h3⟩ | ⟨h1, h2, h3⟩
      · rw [if_neg (by simp [h1])]
        exact .inr (.inl ⟨rfl, rfl, h2, h3.trans h60⟩)
      · rw [if_pos (by omega)]
        refine .inr (.inr ⟨h1, by simp at hwr; show (lgPut _ _ _).1.wr.length ≤ _; omega, fun keep => ?_⟩)
        obtain ⟨h4, h5⟩ := h3 keep
        rcases h4 with h4 | h4
        · exact ⟨want, f, .inl rfl, hf, h5.trans h60, h4⟩
        · exact ⟨want ++ [l], f + l.length + 1, .inr rfl, hfit, h5.trans h60, h4⟩
    · rw [if_pos hce]
      have := chsErr_range l
      exact .inl ⟨chsErr l, hce, by omega, by omega, by omega, rfl⟩

set_option maxHeartbeats 4000000 in
set_option maxRecDepth 100000 in
theorem topLog_walk (A : Option Addr) (cA : Nat) (L : List (List Ch)) (fuse : Int) (keep : Nat) (w : World) (hl : DeedsIn w A L) (hn : L.length ≤ maxLen) (hs : ∀ x ∈ L, x.length ≤ maxLen) (hf1 : -9223372036854775808 ≤ fuse) (hf2 : fuse ≤ 9223372036854775807) (hk : keep < 18446744073709551616) :
    Calls Try.prog 4 #[.slice A L.length cA, .int .i64 fuse, .int .u64 (keep : Int)] w fun e w' => e = .returned (.bool true) ∧ Below w.heap.size w w' := by
  have HNEW := Lib.hid (dkNew_any w 60)
  have HOP := Lib.hid (fun w' g D (h1 : DkAt w.heap.size w' g D) (h2 : w.heap.size ≤ w'.heap.size) (h3 : D.down = false) (h4 : D.now.length = 60) => show Calls Try.prog 9 #[.pointer (some ⟨g, 0, none⟩), .int .i64 1, .int .i64 59, .int .i64 5] w' (OpenRet w.heap.size w' g (Lm 0) (lgRead 5 (txt D.now 1 59) 0 [] [] 0)) from lgOpen_good w.heap.size g w' D (Lm 0) h1 h2 h3 (by simp [Lm]) (by simp [Lm]) (by simp [Lm, h4]) (by simp [Lm]))
  have HLD := Lib.hid (fun w' (h : Below w.heap.size w w') => lightDeeds_any w' A cA L 8 (hl.below h) hn hs)
  unfold maxLen at hn
  go_enter Try.func4, Try.ntmps4
  go_wp2_with fail
  (with_reducible refine HNEW.out.mono ?_)
  rintro e w1 h1
  unfold DkNew at h1
  rw [if_pos (by omega)] at h1
  obtain ⟨g, rfl, hD1, hb1⟩ := h1
  have HO1 := Lib.hid (HOP.out w1 g _ hD1 hb1.size rfl (by simp [dkNew]))
  rw [show lgRead 5 (txt (dkNew (Int.toNat 60)).now 1 59) 0 [] [] 0 = ([], 0) from new_inv.read] at HO1
  clear HNEW
  go_wp2_with fail
  ((with_reducible refine HO1.out.mono ?_); rintro e w2 ⟨gl, v, rfl, hE2, hL2, hb2⟩)
  obtain ⟨vA, vc, rfl⟩ : ∃ A c, v = .slice A 0 c := by
    obtain ⟨vs, _, h2, _⟩ := hE2
    exact slice_form h2
  have hB2 := belowThen hb1 hb2
  have hD2 := hD1.below hb2
  have HRM := Lib.hid (show Calls Try.prog 15 #[.pointer (some ⟨gl, 0, none⟩)] w2 fun e w' => e = .returned (.int .i64 59) ∧ ∃ n, w' = w2.drewN n from room_any w.heap.size gl g w2 (Lm 0) hL2 (by simp [Lm]) (by simp [Lm]))
  clear HO1 hE2 hD1 hb1 hb2
  go_wp2_with fail
  ((with_reducible refine HRM.out.mono ?_); rintro e w3 ⟨rfl, hr3⟩)
  have hb3 : Below w2.heap.size w2 w3 := by obtain ⟨n, rfl⟩ := hr3; exact below_drewN (Below.refl _ _) n
  have hB3 := belowThen hB2 hb3
  have hD3 := hD2.below hb3
  have hL3 : LgAt w.heap.size w3 gl g (Lm 0) := hL2.step (B' := w2.heap.size) (ts := []) ⟨hb3, fun k cs t fr e _ => by rw [hb3.block k (Array.getElem?_eq_some_iff.1 e).1]; exact e⟩ (by simp)
  clear HRM hr3 hD2 hL2 hb3 hB2
  go_wp2_with fail
  ((with_reducible refine (HLD.out _ hB3).mono ?_); rintro e w4 ⟨r, rfl, hr, hb4⟩)
  have hB4 := belowThen hB3 hb4
  have hD4 := hD3.below hb4
  have hL4 : LgAt w.heap.size w4 gl g (Lm 0) := hL3.step (B' := w3.heap.size) (ts := []) ⟨hb4, fun k cs t fr e _ => by rw [hb4.block k (Array.getElem?_eq_some_iff.1 e).1]; exact e⟩ (by simp)
  clear HLD hD3 hL3 hb4 hB3
  cases r with
  | false =>
    go_wp2
    go_ret
    exact ⟨rfl, hB4⟩
  | true =>
    obtain ⟨h8, h14⟩ := hr rfl
    have HAR := Lib.hid (fun q h1 h2 => dkArm_any w.heap.size g w4 (dkNew 60) q hD4 h1 h2)
    clear hr
    go_upto_region 9 with (fail)
    go_cut [59] (fun _ wx => ∃ D5 w5, wx = w5 ∧ DkAt w.heap.size w5 g D5 ∧ LgAt w.heap.size w5 gl g (Lm 0) ∧ Below w.heap.size w w5 ∧ LInv D5 (Lm 0) [] ∧ D5.now.length = 60)
    case first =>
      by_cases f1 : fuse < -1
      · have f2 : ¬ -1 ≤ fuse := by omega
        go_wp2_with ((with_reducible refine (HAR.out _ (by omega) (by omega)).mono ?_); rintro e w5 ⟨rfl, hD5, hs5⟩)
        go_meet
        exact ⟨_, w5, rfl, hD5, hL4.step hs5 not_mem_lg.1, hB4.trans (hs5.below.mono (Nat.le_refl _)), arm_inv new_inv _, by simp [dkArm, dkNew]⟩
      · by_cases f3 : 200 < fuse
        · have f4 : ¬ fuse ≤ 200 := by omega
          go_wp2_with ((with_reducible refine (HAR.out _ (by omega) (by omega)).mono ?_); rintro e w5 ⟨rfl, hD5, hs5⟩)
          go_meet
          exact ⟨_, w5, rfl, hD5, hL4.step hs5 not_mem_lg.1, hB4.trans (hs5.below.mono (Nat.le_refl _)), arm_inv new_inv _, by simp [dkArm, dkNew]⟩
        · have f4 : fuse ≤ 200 := by omega
          go_wp2_with ((with_reducible refine (HAR.out _ (by omega) (by omega)).mono ?_); rintro e w5 ⟨rfl, hD5, hs5⟩)
          go_meet
          exact ⟨_, w5, rfl, hD5, hL4.step hs5 not_mem_lg.1, hB4.trans (hs5.below.mono (Nat.le_refl _)), arm_inv new_inv _, by simp [dkArm, dkNew]⟩
    case rest =>
      obtain ⟨D5, w5, ex, hD5, hL5, hB5, hI5, h605⟩ := hcut
      rw [ex]
      clear ex HAR hD4 hL4 hB4
      go_upto_block 0 with (fail)
      go_cut [11, 12] (fun v11 v12 wx => ∃ want last D w6, wx = w6 ∧ WantAt w w6 w.heap.size v11 want ∧ WantAt w w6 w.heap.size v12 last ∧ DkAt w.heap.size w6 g D ∧ Below w.heap.size w w6 ∧ D.wr.length ≤ 100000 ∧ (∀ keep, ∃ got f, (got = want ∨ got = last) ∧ f ≤ 59 ∧ (dkRestart D keep).now.length = 60 ∧ lgRead 5 (txt (dkRestart D keep).now 1 59) 0 [] [] 0 = (got, f)) ∧ (∀ l ∈ want, l ∈ L) ∧ (∀ l ∈ last, l ∈ L) ∧ want.length ≤ 8 ∧ last.length ≤ 9)
      case first =>
        go_wp2
        go_loopw [11, 12, 13] (fun v11 v12 i wr => ∃ (k : Nat) (want : List (List Ch)) (D : DkM) (f : Nat), k ≤ L.length ∧ i = .int .i64 k ∧ WantAt w wr w.heap.size v11 want ∧ WantAt w wr w.heap.size v12 want ∧ DkAt w.heap.size wr g D ∧ LgAt w.heap.size wr gl g (Lm f) ∧ Below w.heap.size w wr ∧ LInv D (Lm f) want ∧ D.now.length = 60 ∧ (∀ l ∈ want, l ∈ L) ∧ want.length ≤ k) (fun _ _ i _ => L.length - (intOf i).toNat)
        case atStart => exact ⟨0, [], D5, 0, Nat.zero_le _, rfl, WantAt.nil _ _ _, WantAt.nil _ _ _, hD5, hL5, hB5, hI5, h605, by simp, by simp⟩
        case round =>
          clear hD5 hL5 hB5 hI5 h605
          obtain ⟨k, want, D, f, hkk, rfl, hw1, hw2, hD, hL, hB, hI, h60, hin, hwk⟩ := hrel
          obtain ⟨A1, c1, rfl⟩ := hw1.form
          obtain ⟨A2, c2, rfl⟩ := hw2.form
          by_cases hlt : k < L.length
          · obtain ⟨b, off, Ai, ci, rfl, hblt, d1, hci⟩ := (hl.below hB) k hlt
            obtain ⟨b0, off0, Ai0, ci0, e0, hblt0, d0, hci0⟩ := hl k hlt
            have hAA : Ai0 = Ai ∧ ci0 = ci := by
              simp only [Option.some.injEq, Addr.mk.injEq, and_true] at e0
              obtain ⟨rfl, rfl⟩ := e0
              have := (hB.cell (p := ⟨b, off + k, none⟩) hblt0).trans d0
              rw [d1] at this
              simp only [Option.some.injEq, Value.slice.injEq, true_and] at this
              exact ⟨this.1.symm, this.2.symm⟩
            obtain ⟨rfl, rfl⟩ := hAA
            have h14k := h14 _ (List.getElem_mem hlt)
            have HAD := Lib.hid (add_any w.heap.size gl g wr D (Lm f) Ai0 ci0 L[k] hL hD hci (by omega) (by rw [hI.wr]; simp) (by simp [Lm]) (by simp [Lm]) (by have := hI.fin; simpa [Lm] using this) (by simp [Lm]))
            have HMEM := Lib.hid (List.getElem_mem hlt)
            have i1 : (k : Int) < (L.length : Int) := by omega
            have i0 : (0 : Int) ≤ (k : Int) := by omega
            have hbw : b < w.heap.size := by
              simp only [Option.some.injEq, Addr.mk.injEq, and_true] at e0
              obtain ⟨rfl, rfl⟩ := e0
              exact hblt0
            generalize L[k] = l at *
            clear hci hblt d0 e0 hblt0
            go_wp2_with fail
            ((with_reducible refine HAD.out.mono ?_); rintro e w6 ⟨rfl, hL6, hD6, hs6⟩)
            have hB6 : Below w.heap.size w w6 := hB.trans (hs6.below.mono (Nat.le_refl _))
            have hw16 := hw1.step hs6 (by decide)
            have d6 : w6.cell? ⟨b, off + k, none⟩ = some (.slice Ai0 l.length ci0) := (hs6.below.cell (p := ⟨b, off + k, none⟩) hbw).trans d1
            clear HAD hD hL hs6 d1 hw2 hB
            go_upto_region 16 with (fail)
            go_cut [12] (fun v12 wx => ∃ w7, wx = w7 ∧ WantAt w w7 w.heap.size v12 (want ++ [l]) ∧ Below w6.heap.size w6 w7)
            case first =>
              obtain ⟨inf, hin0, hz0, hz1, hz2⟩ := info_parts Try.infoDeedZ
              have hsz6 := hB6.size
              have hlen8 : want.length ≤ 1000 := by omega
              obtain ⟨vs, hvs, hOv, h3v⟩ := hw16.own
              have d6a : (w6.alloc (.cells #[.slice Ai0 l.length ci0] 45)).cell? ⟨b, off + k, none⟩ = some (.slice Ai0 l.length ci0) := Lib.cell?_alloc_some _ d6
              have BAL := Lib.hid (show Below w6.heap.size w6 (w6.alloc (.cells #[.slice Ai0 l.length ci0] 45)) from (Below.refl _ _).alloc (Nat.le_refl _) _)
              cases hwe : want with
              | nil =>
                subst hwe
                have hv := hw16.empty rfl
                simp only [List.length_nil, Value.slice.injEq, true_and] at hv
                obtain ⟨rfl, rfl⟩ := hv
                have FIN := Lib.hid (fun v8 w8 (hO : w8.ownsRow w6.heap.size 45 1 v8 (0 + 1) ([] ++ [.slice Ai0 l.length ci0])) => show WantAt w w8 w.heap.size v8 ([] ++ [l]) from WantAt.snoc (vs := []) (Ai := Ai0) (ci := ci0) rfl (fun i h => by simp at h) hci0 (own_lower2 hO hsz6))
                clear hw16 hOv h3v hw1 hI
                go_wp2_with fail
                go_region_law (first | (refine step_append_lies _ (by rfl) _ _ 33 (by rfl) w6.heap.size 45 inf (.slice none 0 0) 1 24 Try.underlying33 hin0 hz0 hz1 hz2 rfl (by decide) (.slice none 0 0) 0 [] (by rfl) (World.ownsRow_nil _ _ _ _) ⟨w6.heap.size, 0, none⟩ 1 1 [.slice Ai0 l.length ci0] (by rfl) rfl (cell_one_new _ _ _) (by simp [Value.oneCell']) (by omega) (by unfold maxLen; omega) (by omega) (by simp) (w6.heap.size + 1) (by simp) ?_; intro gg cap w8 hO8 hg8 hat8 hlt8; have HF8 := Lib.hid (FIN.out _ w8 hO8); have HB8 := Lib.hid (show Below w6.heap.size w6 w8 from BAL.out.drew.grown hg8 (by simp) (fun k hk => by cases hk)); clear hO8 hg8 hat8) | fail)
                all_goals
                  go_wp2
                  go_meet
                  exact ⟨w8, rfl, HF8.out, HB8.out⟩
              | cons y r =>
                have hwl : 0 < want.length := by rw [hwe]; simp
                obtain ⟨gw, rfl, hgw6, HCV⟩ : ∃ gw, A1 = some ⟨gw, 0, none⟩ ∧ gw < w6.heap.size ∧ ∀ w', Below w6.heap.size w6 w' → ∀ j u, vs[j]? = some u → w'.cell? ((⟨gw, 0, none⟩ : Addr).add j) = some u := by
                  rcases hOv.2 with ⟨_, h0⟩ | ⟨gw, cap, cur, e2, hB2, hg2, hnc2, hcm2, hcs2, htk2⟩
                  · omega
                  · simp only [Value.slice.injEq, true_and] at e2
                    have hlt2 := (Array.getElem?_eq_some_iff.1 hg2).1
                    refine ⟨gw, e2.1, hlt2, fun w' hb' j u hu => ?_⟩
                    rw [add_lit, hb'.cell (p := ⟨gw, 0 + j, none⟩) hlt2, cell_of_row _ _ _ _ _ _ hg2]
                    rw [← htk2, List.getElem?_take] at hu
                    split at hu
                    · simpa using hu
                    · cases hu
                rw [← hwe]
                have hone : ∀ u ∈ vs, u.oneCell' = true := fun u hu => by
                  obtain ⟨i, hi, rfl⟩ := List.getElem_of_mem hu
                  obtain ⟨A9, c9, e9, _⟩ := h3v i (by omega) hi
                  rw [e9]; rfl
                have FIN := Lib.hid (fun v8 w8 (hO : w8.ownsRow w6.heap.size 45 1 v8 (want.length + 1) (vs ++ [.slice Ai0 l.length ci0])) => show WantAt w w8 w.heap.size v8 (want ++ [l]) from WantAt.snoc (vs := vs) (Ai := Ai0) (ci := ci0) hvs h3v hci0 (own_lower2 hO hsz6))
                have HCV' := Lib.hid HCV
                have HWL := Lib.hid hwl
                have HBL := Lib.hid (show b < w6.heap.size by omega)
                have HONE := Lib.hid hone
                have HVL := Lib.hid (show vs.length = want.length * 1 by omega)
                have B0 := Lib.hid (show Below w6.heap.size w6 w6.drew from (Below.refl _ _).drew)
                clear hw16 hOv h3v hw1 hI HCV hone hwe hwl
                go_wp2_with fail
                go_region_law (first
                  | (refine step_append_lies _ (by rfl) _ _ 33 (by rfl) w6.heap.size 45 inf (.slice none 0 0) 1 24 Try.underlying33 hin0 hz0 hz1 hz2 rfl (by decide) (.slice none 0 0) 0 [] (by rfl) (World.ownsRow_nil _ _ _ _) ⟨gw, 0, none⟩ want.length c1 vs (by rfl) HVL.out (HCV'.out _ (by first | exact B0.out | exact BAL.out.drew)) HONE.out HWL.out (by unfold maxLen; omega) (by omega) (by simp) _ rfl ?_; intro g7 cap7 w7 hO7 hg7 hat7 hlt7; have hb7 : Below w6.heap.size w6 w7 := (by first | exact B0.out.grown hg7 (by simp) (fun k hk => by cases hk) | exact BAL.out.drew.grown hg7 (by simp) (fun k hk => by cases hk)); have c7 := (hb7.cell (p := ⟨b, off + k, none⟩) HBL.out).trans d6; have HO7 := Lib.hid (show w7.ownsRow w6.heap.size 45 1 (.slice (some ⟨g7, 0, none⟩) want.length cap7) want.length vs from by simpa using hO7); have HG7 := Lib.hid hg7; clear hO7 hg7 hat7)
                  | (refine step_append_lies _ (by rfl) _ _ 33 (by rfl) w6.heap.size 45 inf (.slice none 0 0) 1 24 Try.underlying33 hin0 hz0 hz1 hz2 rfl (by decide) (.slice (some ⟨g7, 0, none⟩) want.length cap7) want.length vs (by rfl) (World.ownsRow.alloc HO7.out _) ⟨w7.heap.size, 0, none⟩ 1 1 [.slice Ai0 l.length ci0] (by rfl) rfl (cell_one_new _ _ _) (by simp [Value.oneCell']) (by omega) (by unfold maxLen; omega) (by omega) (by have := hb7.size; simp; omega) _ rfl ?_; intro gg cap w8 hO8 hg8 hat8 hlt8; have HF8 := Lib.hid (FIN.out _ w8 hO8); have HB8 := Lib.hid (show Below w6.heap.size w6 w8 from (hb7.alloc hb7.size _).grown hg8 (by have := hb7.size; simp; omega) (fun k hk => (HO7.out.lt k hk).1)); clear hO8 hg8 hat8)
                  | (refine step_append_lies _ (by rfl) _ _ 33 (by rfl) w6.heap.size 45 inf (.slice none 0 0) 1 24 Try.underlying33 hin0 hz0 hz1 hz2 rfl (by decide) (.slice (some ⟨g7, 0, none⟩) want.length cap7) want.length vs (by rfl) HO7.out ⟨w6.heap.size, 0, none⟩ 1 1 [.slice Ai0 l.length ci0] (by rfl) rfl (World.news_of_block (cs := #[.slice Ai0 l.length ci0]) (t := 45) (fr := (0, 0)) ((HG7.out.block w6.heap.size (by simp) (fun h => by cases h)).trans (heap_alloc_new w6 _))) (by simp [Value.oneCell']) (by omega) (by unfold maxLen; omega) (by omega) hb7.size _ rfl ?_; intro gg cap w8 hO8 hg8 hat8 hlt8; have HF8 := Lib.hid (FIN.out _ w8 hO8); have HB8 := Lib.hid (show Below w6.heap.size w6 w8 from hb7.grown hg8 hb7.size (fun k hk => (HO7.out.lt k hk).1)); clear hO8 hg8 hat8)
                  | fail)
                all_goals
                  go_wp2
                  go_meet
                  exact ⟨w8, rfl, HF8.out, HB8.out⟩
            case rest =>
              obtain ⟨w7, ex, hw27, hb7⟩ := hcut
              rw [ex]
              clear ex d6
              have hw17 := hw16.below hb7
              have hB7 := belowThen hB6 hb7
              have hD7 := hD6.below hb7
              have hL7 : LgAt w.heap.size w7 gl g (lgAdd l (Lm f) D).1 := hL6.step (B' := w6.heap.size) (ts := []) ⟨hb7, fun k cs t fr e _ => by rw [hb7.block k (Array.getElem?_eq_some_iff.1 e).1]; exact e⟩ (by simp)
              have hac := add_case hI h60 l h14k
              generalize lgAdd l (Lm f) D = R at *
              obtain ⟨L9, D9, n⟩ := R
              simp only [] at hD7 hL7
              clear hw16 hB6 hD6 hL6 hb7
              have hin9 : ∀ x ∈ want ++ [l], x ∈ L := fun x hx => by
                rcases List.mem_append.1 hx with hx | hx
                · exact hin x hx
                · rw [List.mem_singleton.1 hx]; exact HMEM.out
              rcases hac with ⟨n', hn0, hn9, hnl, hnh, e9⟩ | ⟨he, hLe, hIe, h60e⟩ | ⟨he, hwre, hrde⟩
              · injection e9 with e9a e9b
                injection e9b with e9b e9c
                subst e9a e9b e9c
                have hne : errV n = .iface 61 (.int .i64 n) := by unfold errV; rw [if_neg hn0]
                have HNU := num_any n w7 ⟨hnl, hnh⟩
                rw [hne] at HNU ⊢
                have HNU' := Lib.hid HNU
                have hq9 : (n == 9) = false := by simpa using hn9
                clear HNU hne
                go_wp2_with ((with_reducible refine HNU'.out.mono ?_); rintro e w8 ⟨rfl, rfl⟩)
                refine ⟨⟨k + 1, want, D9, f, by omega, by go_num, hw17, hw17, hD7, hL7, hB7, hI, h60, hin, by omega⟩, by simp [intOf]; omega⟩
              · simp only [] at he hLe hIe h60e
                subst he hLe
                rw [show errV 0 = .nilIface from rfl]
                go_wp2
                refine ⟨⟨k + 1, want ++ [l], D9, f + l.length + 1, by omega, by go_num, hw27, hw27, hD7, hL7, hB7, hIe, h60e, hin9, by simp; omega⟩, by simp [intOf]; omega⟩
              · simp only [] at he hwre hrde
                subst he
                have HNU := num_any 9 w7 (by omega)
                rw [show errV 9 = .iface 61 (.int .i64 9) from rfl] at HNU ⊢
                have HNU' := Lib.hid HNU
                clear HNU
                go_wp2_with ((with_reducible refine HNU'.out.mono ?_); rintro e w8 ⟨rfl, rfl⟩)
                go_meet
                exact ⟨want, want ++ [l], D9, _, rfl, hw17, hw27, hD7, hB7, hwre, hrde, hin, hin9, by omega, by simp; omega⟩
          · go_wp2
            go_meet
            exact ⟨want, want, D, wr, rfl, hw1, hw2, hD, hB, by rw [hI.wr]; simp, fun keep => ⟨want, f, .inl rfl, hI.fin, (hI.same keep).2.trans h60, (hI.same keep).1⟩, hin, hin, by omega, by omega⟩
      case rest =>
        obtain ⟨want, last, D, w6, ex, hw1, hw2, hD6, hB6, hwr, hrd, hi1, hi2, hn1, hn2⟩ := hcut
        rw [ex]
        clear ex hD5 hL5 hB5 hI5 h605
        obtain ⟨A1, c1, rfl⟩ := hw1.form
        obtain ⟨A2, c2, rfl⟩ := hw2.form
        obtain ⟨got, f, hgot, hf, hlen, hread⟩ := hrd keep
        have HRS := Lib.hid (dkRestart_any w.heap.size g w6 D keep hD6 hk (by omega))
        have HZ := Lib.hid (show ∀ l ∈ L, ∀ x ∈ l, x.key.size ≤ maxLen ∧ x.val.size ≤ maxLen from fun l hll => by
          obtain ⟨i, hi, rfl⟩ := List.getElem_of_mem hll
          obtain ⟨_, _, _, _, _, _, _, hc⟩ := hl i hi
          exact hc.sizes)
        have hgL : ∀ l ∈ got, l ∈ L := fun l hll => by
          rcases hgot with rfl | rfl
          · exact hi1 l hll
          · exact hi2 l hll
        have hg9 : got.length ≤ 9 := by
          rcases hgot with rfl | rfl <;> omega
        obtain ⟨hI7, hC7⟩ := LInv.restart (L := Lm 0) keep got f hlen (by simp [Lm]) (by simpa [Lm] using hf) hread
        generalize hD7e : dkRestart D keep = D7 at *
        have HGOT := Lib.hid hgot
        have HI7 := Lib.hid hI7
        have HC7 := Lib.hid hC7
        clear hgot hrd hD7e hI7 hC7
        go_wp2_with fail
        ((with_reducible refine HRS.out.mono ?_); rintro e w7 ⟨rfl, hD7, hs7⟩)
        have hB7 : Below w.heap.size w w7 := hB6.trans (hs7.below.mono (Nat.le_refl _))
        have hw17 := hw1.step hs7 (by decide)
        have hw27 := hw2.step hs7 (by decide)
        have HO7 := Lib.hid (HOP.out w7 g D7 hD7 hB7.size HC7.out.down HC7.out.size)
        rw [hread] at HO7
        clear HRS hw1 hw2 hD6 hs7 hB6
        go_wp2_with fail
        ((with_reducible refine HO7.out.mono ?_); rintro e w8 ⟨gl8, v8, rfl, hE8, hL8, hb8⟩)
        obtain ⟨A8, c8, rfl⟩ : ∃ A c, v8 = .slice A got.length c := by
          obtain ⟨vs, _, h2, _⟩ := hE8
          exact slice_form h2
        have hB8 := belowThen hB7 hb8
        have hD8 := hD7.below hb8
        have hw18 := (hw17.below hb8).deeds hB8
        have hw28 := (hw27.below hb8).deeds hB8
        have hE8i := deeds_in hE8 (fun l hll => HZ.out l (hgL l hll))
        have HS1 := fun w' (h : Below w8.heap.size w8 w') => sameDeeds_any w' A8 A1 c8 c1 got want (hE8i.below h) (hw18.below h) (by omega) (fun x hx => by have := h14 x (hgL x hx); omega)
        have HS2 := fun w' (h : Below w8.heap.size w8 w') => sameDeeds_any w' A8 A2 c8 c2 got last (hE8i.below h) (hw28.below h) (by omega) (fun x hx => by have := h14 x (hgL x hx); omega)
        clear HO7 hw17 hw27 hD7 hB7 hb8
        go_upto_region 25 with (fail)
        go_cut [111] (fun s111 wx => ∃ w9, wx = w9 ∧ s111 = .bool false ∧ Below w8.heap.size w8 w9)
        case first =>
          by_cases hgw : got = want
          · have HS1' := Lib.hid (HS1 w8 (Below.refl _ _))
            rw [decide_eq_true hgw] at HS1'
            clear HS1 HS2 hgw
            go_wp2_with ((with_reducible refine HS1'.out.mono ?_); rintro e w9 ⟨rfl, hb9⟩)
            go_meet
            exact ⟨w9, rfl, rfl, hb9⟩
          · have hgl : got = last := HGOT.out.resolve_left hgw
            have HS1' := Lib.hid (HS1 w8 (Below.refl _ _))
            rw [decide_eq_false hgw] at HS1'
            have HS2' := Lib.hid HS2
            rw [decide_eq_true hgl] at HS2'
            clear HS1 HS2 hgw hgl
            go_wp2_with fail
            ((with_reducible refine HS1'.out.mono ?_); rintro e w9 ⟨rfl, hb9⟩)
            go_wp2_with fail
            ((with_reducible refine (HS2'.out _ hb9).mono ?_); rintro e w10 ⟨rfl, hb10⟩)
            go_wp2
            go_meet
            exact ⟨w10, rfl, rfl, belowThen hb9 hb10⟩
        case rest =>
          obtain ⟨w9, ex, rfl, hb9⟩ := hcut
          rw [ex]
          clear ex HS1 HS2 hw18 hw28
          have hB9 := belowThen hB8 hb9
          have hD9 := hD8.below hb9
          have LGK := Lib.hid (fun (wa wb : World) (hb : Below wa.heap.size wa wb) (h : LgAt w.heap.size wa gl8 g (Lm f)) => show LgAt w.heap.size wb gl8 g (Lm f) from h.step (B' := wa.heap.size) (ts := []) ⟨hb, fun k cs t fr e _ => by rw [hb.block k (Array.getElem?_eq_some_iff.1 e).1]; exact e⟩ (by simp))
          have hL9 := LGK.out w8 w9 hb9 hL8
          have hE9 := hE8i.below hb9
          have hba : Below w9.heap.size w9 (w9.alloc (.cells #[.string ⟨#[122]⟩, .string ⟨#[122]⟩, .bool false] 50)) := (Below.refl _ _).alloc (Nat.le_refl _) _
          have hrow : (w9.alloc (.cells #[.string ⟨#[122]⟩, .string ⟨#[122]⟩, .bool false] 50)).heap[w9.heap.size]? = some (.cells #[.string ⟨#[122]⟩, .string ⟨#[122]⟩, .bool false] 50 (0, 0)) := heap_alloc_new _ _
          obtain ⟨wa, hwa⟩ : ∃ wa, w9.alloc (.cells #[.string ⟨#[122]⟩, .string ⟨#[122]⟩, .bool false] 50) = wa := ⟨_, rfl⟩
          rw [hwa] at hba hrow
          have hLa := LGK.out w9 wa hba hL9
          have HRM := Lib.hid (show Calls Try.prog 15 #[.pointer (some ⟨gl8, 0, none⟩)] wa fun e w' => e = .returned (.int .i64 (59 - (f : Int))) ∧ ∃ n, w' = wa.drewN n from room_any w.heap.size gl8 g wa (Lm f) hLa (by simp [Lm]) (by simp [Lm]; omega))
          have HWA := Lib.hid hwa
          have HRW := Lib.hid hrow
          have hBa := belowThen hB9 hba
          have hDa := hD9.below hba
          clear hwa hrow hB9 hD9 hL9 hL8 hD8 hB8
          go_wp2_with fail
          rw [HWA.out]
          ((with_reducible refine HRM.out.mono ?_); rintro e wc ⟨rfl, hrc⟩)
          have hbc : Below wa.heap.size wa wc := by obtain ⟨n, rfl⟩ := hrc; exact below_drewN (Below.refl _ _) n
          have hBc := belowThen hBa hbc
          have hDc := hDa.below hbc
          have hLc := LGK.out wa wc hbc hLa
          have hrowc := (hbc.block _ (Array.getElem?_eq_some_iff.1 HRW.out).1).trans HRW.out
          clear HRM hrc hBa hDa hLa
          by_cases hroom : 59 - (f : Int) < 2
          · go_wp2
            go_ret
            exact ⟨rfl, hBc⟩
          · have hch : ChsAt wc (some ⟨w9.heap.size, 0, none⟩) [oc] := fun i hi => by
              obtain rfl : i = 0 := by simp at hi; omega
              exact ⟨w9.heap.size, 0, rfl, (Array.getElem?_eq_some_iff.1 hrowc).1, cell_of_row _ _ _ _ _ _ hrowc, cell_of_row _ _ _ _ _ _ hrowc, cell_of_row _ _ _ _ _ _ hrowc, by simp [oc, maxLen, ByteArray.size], by simp [oc, maxLen, ByteArray.size]⟩
            have HAD := Lib.hid (add_any w.heap.size gl8 g wc D7 (Lm f) (some ⟨w9.heap.size, 0, none⟩) 1 [oc] hLc hDc hch (by simp) (by rw [HI7.out.wr]; simp) (by simp [Lm]) (by simp [Lm]) (by simp [Lm]; omega) (by simp [Lm]))
            obtain ⟨ea, hIa, h60a⟩ := last_add HI7.out HC7.out (by omega)
            rw [ea, show [oc].length = 1 from rfl] at HAD
            generalize (lgPut (entSecs (Lm f) [oc]) (Lm f) D7).1 = De at *
            go_wp2_with fail
            ((with_reducible refine HAD.out.mono ?_); rintro e wd ⟨rfl, hLd, hDd, hsd⟩)
            have hBd : Below w.heap.size w wd := hBc.trans (hsd.below.mono (Nat.le_refl _))
            have HO8 := Lib.hid (HOP.out wd g De hDd hBd.size hIa.up h60a)
            rw [show lgRead 5 (txt De.now 1 59) 0 [] [] 0 = (got ++ [[oc]], f + 2) from hIa.read] at HO8
            rw [show errV ((Lm (f + 2), De, (0 : Int)).2.2) = .nilIface from rfl]
            clear HAD hLd hDd hLc hDc hBc
            go_wp2_with fail
            ((with_reducible refine HO8.out.mono ?_); rintro e we ⟨gl9, v9, rfl, hE9b, hL9b, hbe⟩)
            have hBe := belowThen hBd hbe
            obtain ⟨A9, c9, rfl⟩ : ∃ A c, v9 = .slice A (got ++ [[oc]]).length c := by
              obtain ⟨vs, _, h2, _⟩ := hE9b
              exact slice_form h2
            have KEEP : ∀ (k : Nat) (cs : Array Value) (t : TypeId), t = 45 ∨ t = 50 → w8.heap[k]? = some (.cells cs t (0, 0)) → we.heap[k]? = some (.cells cs t (0, 0)) := fun k cs t ht e => by
              have e1 := (hb9.block k (Array.getElem?_eq_some_iff.1 e).1).trans e
              have e2 := (hba.block k (Array.getElem?_eq_some_iff.1 e1).1).trans e1
              have e3 := (hbc.block k (Array.getElem?_eq_some_iff.1 e2).1).trans e2
              have e4 := hsd.other _ _ _ _ e3 (by rcases ht with rfl | rfl <;> decide)
              exact (hbe.block k (Array.getElem?_eq_some_iff.1 e4).1).trans e4
            have hoe : ChsAt we (some ⟨w9.heap.size, 0, none⟩) [oc] := fun i hi => by
              obtain rfl : i = 0 := by simp at hi; omega
              have r1 := hsd.other _ _ _ _ hrowc (by decide)
              have r2 := (hbe.block _ (Array.getElem?_eq_some_iff.1 r1).1).trans r1
              exact ⟨w9.heap.size, 0, rfl, (Array.getElem?_eq_some_iff.1 r2).1, cell_of_row _ _ _ _ _ _ r2, cell_of_row _ _ _ _ _ _ r2, cell_of_row _ _ _ _ _ _ r2, by simp [oc, maxLen, ByteArray.size], by simp [oc, maxLen, ByteArray.size]⟩
            obtain ⟨vs, hvs, hOv, h3v⟩ := deeds_keep hE8 KEEP
            have h3w : ∀ i, (h1 : i < got.length) → (h2 : i < vs.length) → ∃ Ai ci, vs[i] = .slice Ai got[i].length ci ∧ ChsAt we Ai got[i] := fun i h1 h2 => by
              have hr : we.ownsRow w7.heap.size 50 3 vs[i] got[i].length (chCells got[i]) := h3v i h1 h2
              obtain ⟨Ai, ci, e⟩ := slice_form hr
              rw [e] at hr
              exact ⟨Ai, ci, e, chs_own hr (fun x hx => HZ.out _ (hgL _ (List.getElem_mem h1)) x hx)⟩
            have hmore : DeedsIn we A9 (got ++ [[oc]]) := deeds_in hE9b (fun l hll x hx => by
              rcases List.mem_append.1 hll with h' | h'
              · exact HZ.out l (hgL l h') x hx
              · rw [List.mem_singleton.1 h'] at hx
                rw [List.mem_singleton.1 hx]; simp [oc, maxLen, ByteArray.size])
            have hone : ∀ u ∈ vs, u.oneCell' = true := fun u hu => by
              obtain ⟨i, hi, rfl⟩ := List.getElem_of_mem hu
              obtain ⟨_, _, e9, _⟩ := h3w i (by omega) hi
              rw [e9]; rfl
            obtain ⟨inf, hin0, hz0, hz1, hz2⟩ := info_parts Try.infoDeedZ
            have FIN := Lib.hid (fun w8' A' c' (hO : w8'.ownsRow we.heap.size 45 1 (.slice A' (got.length + 1) c') (got.length + 1) (vs ++ [.slice (some ⟨w9.heap.size, 0, none⟩) [oc].length 1])) (hb : Below we.heap.size we w8') => by
              have W := WantAt.snoc (w0 := we) (vs := vs) (Ai := some ⟨w9.heap.size, 0, none⟩) (ci := 1) hvs h3w hoe hO
              have hS := sameDeeds_any w8' A9 A' c9 c' (got ++ [[oc]]) (got ++ [[oc]]) (hmore.below hb) (W.deeds hb) (by simp; omega) (fun x hx => by
                rcases List.mem_append.1 hx with h' | h'
                · have := h14 x (hgL x h'); omega
                · rw [List.mem_singleton.1 h']; simp)
              rw [decide_eq_true rfl] at hS
              rw [show (got ++ [[oc]]).length = got.length + 1 by simp] at hS
              exact hS)
            rw [show (got ++ [[oc]]).length = got.length + 1 by simp]
            have HOV := Lib.hid hOv
            have HONE := Lib.hid hone
            have HVS := Lib.hid hvs
            clear KEEP hoe h3v h3w hmore hone HO8 hE9b hE8 hE8i hE9
            cases A8 with
            | none =>
              obtain ⟨hg0, rfl⟩ : got.length = 0 ∧ c8 = 0 := by
                rcases HOV.out.2 with ⟨e, h0⟩ | ⟨g', cap, cur, e, _⟩
                · simp only [Value.slice.injEq, true_and] at e
                  exact ⟨h0, e.2⟩
                · simp at e
              obtain rfl : got = [] := List.length_eq_zero_iff.1 hg0
              obtain rfl : vs = [] := List.length_eq_zero_iff.1 (by have := HVS.out; simpa using this)
              simp only [List.length_nil, Nat.zero_add] at FIN
              go_wp2_with (first
                | (at_builtin; (refine wpList_want rfl (wp_append_lies _ _ _ 33 rfl we.heap.size 45 inf (.slice none 0 0) 1 24 Try.underlying33 hin0 hz0 hz1 hz2 rfl (by decide) (.slice none 0 0) 0 [] rfl (World.ownsRow_nil _ _ _ _) ⟨we.heap.size, 0, none⟩ 1 1 [.slice (some ⟨w9.heap.size, 0, none⟩) 1 1] rfl rfl (cell_one_new _ _ _) (by simp [Value.oneCell']) (by omega) (by unfold maxLen; omega) (by omega) (by simp) (we.heap.size + 1) (by simp) ?_)); intro gg cap wf hOf hgf hatf hltf; have hbf : Below we.heap.size we wf := ((Below.refl _ _).alloc (Nat.le_refl _) _).grown hgf (by simp) (fun k hk => by cases hk); have HSF := Lib.hid (FIN.out wf (some ⟨gg, 0, none⟩) cap hOf hbf); clear hOf hgf hatf)
                | ((with_reducible refine HSF.out.mono ?_); rintro e wh ⟨rfl, hbh⟩))
              go_ret
              exact ⟨rfl, belowThen (belowThen hBe hbf) hbh⟩
            | some ad =>
              have HCV := Lib.hid (show ∀ j u, vs[j]? = some u → we.cell? (ad.add j) = some u from fun j u hu => by
                rcases HOV.out.2 with ⟨e, h0⟩ | ⟨g', cap, cur, e, hB2, hg2, hnc2, hcm2, hcs2, htk2⟩
                · simp at e
                · simp only [Value.slice.injEq, Option.some.injEq] at e
                  obtain ⟨rfl, _, _⟩ := e
                  rw [add_lit, cell_of_row _ _ _ _ _ _ hg2]
                  rw [← htk2, List.getElem?_take] at hu
                  split at hu
                  · simpa using hu
                  · cases hu)
              have HVL := Lib.hid (show vs.length = got.length * 1 by have := HVS.out; omega)
              go_wp2_with (first
                | (at_builtin; refine wpList_want rfl (wp_append_own _ _ _ 33 rfl we.heap.size 45 inf (.slice none 0 0) 1 24 Try.underlying33 hin0 hz0 hz1 hz2 rfl (by decide) (.slice none 0 0) 0 [] rfl (World.ownsRow_nil _ _ _ _) ad got.length c8 vs rfl HVL.out HCV.out HONE.out (by unfold maxLen; omega) (by omega) (Nat.le_refl _) ?_); intro v14 wg hOg hgg hng; have hbg : Below we.heap.size we wg := (Below.refl _ _).grown hgg (Nat.le_refl _) (fun k hk => by cases hk); have HOG := Lib.hid (show wg.ownsRow we.heap.size 45 1 v14 got.length vs from by simpa using hOg); clear hOg hgg hng)
                | (at_builtin; (refine wpList_want rfl (wp_append_lies _ _ _ 33 rfl we.heap.size 45 inf (.slice none 0 0) 1 24 Try.underlying33 hin0 hz0 hz1 hz2 rfl (by decide) v14 got.length vs rfl (World.ownsRow.alloc HOG.out _) ⟨wg.heap.size, 0, none⟩ 1 1 [.slice (some ⟨w9.heap.size, 0, none⟩) 1 1] rfl rfl (cell_one_new _ _ _) (by simp [Value.oneCell']) (by omega) (by unfold maxLen; omega) (by omega) (by have := hbg.size; simp; omega) (wg.heap.size + 1) (by simp) ?_)); intro gg cap wf hOf hgf hatf hltf; have hbf : Below we.heap.size we wf := (hbg.alloc hbg.size _).grown hgf (by have := hbg.size; simp; omega) (fun k hk => (HOG.out.lt k hk).1); have HSF := Lib.hid (FIN.out wf (some ⟨gg, 0, none⟩) cap hOf hbf); clear hOf hgf hatf)
                | ((with_reducible refine HSF.out.mono ?_); rintro e wh ⟨rfl, hbh⟩))
              go_ret
              exact ⟨rfl, belowThen (belowThen hBe hbf) hbh⟩
end Go.Proofs.Ytllaohobmkcmfaa
