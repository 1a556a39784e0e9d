/- slices.Clone at changes. -/
import Derived.Test.YthhedahfmllnoaaZqLgQ
import Derived.Test.YthhedahfmllnoaaZqCmp
import Derived.Test.YthhedahfmllnoaaZqRow2
import Derived.Deep.LoopGhost
/- What put leaves on the disk, whether it fails or not. -/
namespace Go.Proofs.Ythhedahfmllnoaa
open Go.RowKit Go.PlainAid

theorem rest_length {L : LgM} {l : List Ch} : (restOf (entSecs L l) (L.many - L.fin)).length = min (l.length + 1) (L.many - L.fin - 1) := by
  unfold restOf
  simp [entSecs_length]; omega
theorem rest_old {L : LgM} {l : List Ch} {j : Nat} (hj : j < l.length) (h : j < (restOf (entSecs L l) (L.many - L.fin)).length) (h2 : j + 1 < (entSecs L l).length) : (restOf (entSecs L l) (L.many - L.fin))[j] = (entSecs L l)[j + 1] := by
  have hr := h
  rw [rest_length] at hr
  apply Option.some.inj
  rw [← List.getElem?_eq_getElem h, ← List.getElem?_eq_getElem h2]
  unfold restOf
  rw [List.getElem?_take, if_pos (by omega), List.getElem?_append_left (by simp [entSecs_length]; omega), List.getElem?_tail]
theorem rest_last {L : LgM} {l : List Ch} (h : l.length < (restOf (entSecs L l) (L.many - L.fin)).length) : (restOf (entSecs L l) (L.many - L.fin))[l.length] = blankT := by
  have hr := h
  rw [rest_length] at hr
  apply Option.some.inj
  rw [← List.getElem?_eq_getElem h]
  unfold restOf
  rw [List.getElem?_take, if_pos (by omega), List.getElem?_append_right (by simp [entSecs_length])]
  simp [entSecs_length]
theorem ent_small {L : LgM} {l : List Ch} (h : chsErr l = 0) : ∀ x ∈ entSecs L l, x.size ≤ 80 := by
  intro x hx
  rcases List.mem_append.1 hx with hx | hx
  · have := secsOf_size l _ h x hx; omega
  · simp only [List.mem_singleton] at hx
    subst hx
    rw [secB_size, lit_size]; omega
theorem ent_head {L : LgM} {l : List Ch} (h : 0 < (entSecs L l).length) : (entSecs L l).headD blankT = (entSecs L l)[0] := by
  rw [List.headD_eq_head?_getD, List.head?_eq_getElem?, List.getElem?_eq_getElem h]
  rfl
theorem rest_small {L : LgM} {l : List Ch} (h : chsErr l = 0) : ∀ x ∈ restOf (entSecs L l) (L.many - L.fin), x.size ≤ 80 := by
  intro x hx
  unfold restOf at hx
  rcases List.mem_append.1 (List.mem_of_mem_take hx) with hx | hx
  · exact ent_small h x (List.mem_of_mem_tail hx)
  · simp only [List.mem_singleton] at hx
    subst hx; simp [blankT, ByteArray.size]

/-- What a log may read as behind a failure: as before, or with the entry. -/
def Either (now : List (List UInt8)) (L : LgM) (want : List (List Ch)) (l : List Ch) : Prop :=
  lgRead L.first (txt now L.frm L.many) 0 [] [] 0 = (want, L.fin) ∨ lgRead L.first (txt now L.frm L.many) 0 [] [] 0 = (want ++ [l], L.fin + l.length + 1)

theorem put_spec {D : DkM} {L : LgM} {want : List (List Ch)} (h : LInv D L want) (l : List Ch) (hl : chsErr l = 0) (hfit : L.fin + l.length + 1 ≤ L.many) :
    ((lgPut (entSecs L l) L D).2 = 0 ∧ LInv (lgPut (entSecs L l) L D).1 { L with fin := L.fin + l.length + 1 } (want ++ [l]) ∧ (lgPut (entSecs L l) L D).1.now.length = D.now.length) ∨
    ((lgPut (entSecs L l) L D).2 = 9 ∧ (lgPut (entSecs L l) L D).1.down = true ∧ ∀ keep, Either (dkRestart (lgPut (entSecs L l) L D).1 keep).now L want l ∧ (dkRestart (lgPut (entSecs L l) L D).1 keep).now.length = D.now.length) := by
  have hfits := h.fit
  have hSl := entSecs_length L l
  obtain ⟨N0, hN0⟩ : ∃ N0, D.now = N0 := ⟨_, rfl⟩
  have hlen0 : L.frm + L.many ≤ N0.length := by rw [← hN0]; exact h.fit
  have W1 := wrote [blankT] (L.frm + L.fin) D h.up (fun x hx => by simp at hx; subst hx; simp [blankT, ByteArray.size]) (by simp; omega)
  unfold lgPut
  generalize lgWrite [blankT] (L.frm + L.fin) D = P1 at *
  obtain ⟨D1, e1⟩ := P1
  simp only [] at W1 ⊢
  rcases W1 with ⟨rfl, h1n, h1d, h1w, h1u⟩ | ⟨rfl, h1u, h1d, i, h1w⟩
  · rw [if_pos rfl]
    have n1 : D1.now = N0.set (L.frm + L.fin) (pad80 blankT) := by rw [h1n, hN0]; rfl
    have W2 := wrote (restOf (entSecs L l) (L.many - L.fin)) (L.frm + (L.fin + 1)) D1 h1u (rest_small hl) (by rw [rest_length, n1, List.length_set]; omega)
    have hrl := @rest_length L l
    have lo1 : ∀ i, i < L.fin → D1.now[L.frm + i]? = D.now[L.frm + i]? := fun i hi => by rw [n1, hN0, List.getElem?_set_ne (by omega)]
    have at1 : D1.now[L.frm + L.fin]? = some (pad80 blankT) := by rw [n1, List.getElem?_set_self (by omega)]
    generalize lgWrite (restOf (entSecs L l) (L.many - L.fin)) (L.frm + (L.fin + 1)) D1 = P2 at *
    obtain ⟨D2, e2⟩ := P2
    simp only [] at W2 ⊢
    rcases W2 with ⟨rfl, h2n, h2d, h2w, h2u⟩ | ⟨rfl, h2u, h2d, i, h2w⟩
    · rw [if_pos rfl]
      have l2 : D2.now.length = N0.length := by rw [h2n, setAll_length, n1, List.length_set]
      have lo2 : ∀ i, i < L.fin → D2.now[L.frm + i]? = D.now[L.frm + i]? := fun i hi => by rw [h2n, setAll_out _ _ _ _ (by omega)]; exact lo1 i hi
      have at2 : D2.now[L.frm + L.fin]? = some (pad80 blankT) := by rw [h2n, setAll_out _ _ _ _ (by omega)]; exact at1
      have in2 : ∀ j, (hj : j < (restOf (entSecs L l) (L.many - L.fin)).length) → D2.now[L.frm + (L.fin + 1) + j]? = some (pad80 (restOf (entSecs L l) (L.many - L.fin))[j]) := fun j hj => by
        rw [h2n]; exact setAll_in _ _ _ j hj (by rw [n1, List.length_set, hrl]; omega)
      have hh : ((entSecs L l).headD blankT).size ≤ 80 := by
        rw [ent_head (by omega)]; exact ent_small hl _ (List.getElem_mem _)
      have W3 := wrote [(entSecs L l).headD blankT] (L.frm + L.fin) D2 h2u (fun x hx => by rw [List.mem_singleton.1 hx]; exact hh) (by simp; omega)
      have ENT : lgRead L.first (txt (D2.now.set (L.frm + L.fin) (pad80 ((entSecs L l).headD blankT))) L.frm L.many) 0 [] [] 0 = (want ++ [l], L.fin + l.length + 1) := by
        refine h.entry l hl hfit (fun i hi => by rw [List.getElem?_set_ne (by omega)]; exact lo2 i hi) (fun j hj => ?_) (fun hroom => ?_)
        · cases j with
          | zero => rw [Nat.add_zero, List.getElem?_set_self (by omega), ent_head (by omega)]
          | succ j =>
            rw [List.getElem?_set_ne (by omega), show L.frm + L.fin + (j + 1) = L.frm + (L.fin + 1) + j by omega, in2 j (by omega), rest_old (by omega) (by omega) (by omega)]
        · rw [List.getElem?_set_ne (by omega), show L.frm + (L.fin + l.length + 1) = L.frm + (L.fin + 1) + l.length by omega, in2 l.length (by omega), rest_last (by omega)]
      generalize lgWrite [(entSecs L l).headD blankT] (L.frm + L.fin) D2 = P3 at *
      obtain ⟨D3, e3⟩ := P3
      simp only [] at W3 ⊢
      rcases W3 with ⟨rfl, h3n, h3d, h3w, h3u⟩ | ⟨rfl, h3u, h3d, i, h3w⟩
      · have n3 : D3.now = D2.now.set (L.frm + L.fin) (pad80 ((entSecs L l).headD blankT)) := h3n
        refine .inl ⟨rfl, ⟨h3u, h3w, h3d, ?_, by simpa using hfit, ?_⟩, ?_⟩
        · show L.frm + L.many ≤ D3.now.length
          rw [n3, List.length_set, l2]; omega
        · show lgRead L.first (txt D3.now L.frm L.many) 0 [] [] 0 = _
          rw [n3]; exact ENT
        · rw [n3, List.length_set, l2, hN0]
      · refine .inr ⟨rfl, h3u, fun keep => ⟨?_, ?_⟩⟩
        · show Either (dkKeep keep 0 D3.wr D3.dur) L want l
          rw [h3w, h2w, List.nil_append, h3d, h2d]
          rcases keep_one keep 0 (L.frm + L.fin, pad80 ((entSecs L l).headD blankT)) i D2.now with hk | hk
          · rw [show wrs (L.frm + L.fin) [(entSecs L l).headD blankT] = [(L.frm + L.fin, pad80 ((entSecs L l).headD blankT))] from rfl, hk]
            exact .inl (h.blank (by omega) lo2 at2)
          · rw [show wrs (L.frm + L.fin) [(entSecs L l).headD blankT] = [(L.frm + L.fin, pad80 ((entSecs L l).headD blankT))] from rfl, hk]
            exact .inr ENT
        · show (dkKeep keep 0 D3.wr D3.dur).length = _
          rw [dkKeep_length, h3d, h2d, l2, hN0]
    · rw [if_neg (by omega)]
      refine .inr ⟨rfl, h2u, fun keep => ⟨.inl ?_, ?_⟩⟩
      · have hout : ∀ p, p ≤ L.frm + L.fin → (dkKeep keep 0 D2.wr D2.dur)[p]? = D1.now[p]? := fun p hp => by
          rw [h2w, h1w, List.nil_append, h2d, h1d]
          refine keep_out keep _ 0 _ p (fun q hq => ?_)
          have := wrs_at _ _ q (List.mem_of_mem_take hq)
          omega
        exact h.blank (by omega) (fun i hi => (hout _ (by omega)).trans (lo1 i hi)) ((hout _ (by omega)).trans at1)
      · show (dkKeep keep 0 D2.wr D2.dur).length = _
        rw [dkKeep_length, h2d, h1d, n1, List.length_set, hN0]
  · rw [if_neg (by omega)]
    refine .inr ⟨rfl, h1u, fun keep => ⟨.inl ?_, ?_⟩⟩
    · show lgRead L.first (txt (dkKeep keep 0 D1.wr D1.dur) L.frm L.many) 0 [] [] 0 = _
      rw [h1w, h.wr, List.nil_append, h1d, h.dur]
      rw [show wrs (L.frm + L.fin) [blankT] = [(L.frm + L.fin, pad80 blankT)] from rfl]
      rcases keep_one keep 0 (L.frm + L.fin, pad80 blankT) i D.now with hk | hk
      · rw [hk]; exact h.read
      · rw [hk]
        exact h.blank (by omega) (fun i hi => by rw [List.getElem?_set_ne (by omega)]) (by rw [List.getElem?_set_self (by omega)])
    · show (dkKeep keep 0 D1.wr D1.dur).length = _
      rw [dkKeep_length, h1d, h.dur]
end Go.Proofs.Ythhedahfmllnoaa

/- Package row: how keys are compared. -/
namespace Go.Proofs.Ythhedahfmllnoaa
open Go.RowKit

theorem compareString_any (a b : ByteArray) (w : World) : Calls Try.prog 62 #[.string a, .string b] w fun e w' => e = .returned (.int .i64 (cmpB a b)) ∧ w' = w := by
  have hr : (callFunc 75 #[.string a, .string b]).run Try.prog w = .ok (.value (.int .i64 (cmpB a b))) w := by
    rw [run_callFunc_extern Try.func75 (by kernel_rfl) (by kernel_rfl) (by kernel_rfl) (e := Extern.BytealgCompare.compare) (by kernel_rfl), Lib.run_compareString]
    rfl
  go_enter Try.func62, Try.ntmps62
  go_wp2_with (simp only [hr])
  go_ret
  exact ⟨rfl, rfl⟩

theorem compare_any (a b : ByteArray) (w : World) : Calls Try.prog 47 #[.string a, .string b] w fun e w' => e = .returned (.int .i64 (cmpB a b)) ∧ w' = w := by
  have HC := Lib.hid (compareString_any a b)
  go_enter Try.func47, Try.ntmps47
  go_wp2_with ((with_reducible refine (HC.out _).mono ?_); rintro e w1 ⟨rfl, rfl⟩)
  go_ret
  exact ⟨rfl, rfl⟩

/-- What Apply hands to the search. -/
theorem applyCmp_any (c : Ch) (k : ByteArray) (w : World) : Calls Try.prog 46 #[.agg (chArr c), .string k] w fun e w' => e = .returned (.int .i64 (cmpB c.key k)) ∧ Below w.heap.size w w' := by
  have HC := Lib.hid (compare_any c.key k)
  rw [show chArr c = #[.string c.key, .string c.val, .bool c.gone] from rfl]
  obtain ⟨key, val, gone⟩ := c
  simp only [] at *
  have HB := Lib.hid (show Below w.heap.size w (w.alloc (.cells #[.string key, .string val, .bool gone] 60)) from (Below.refl _ _).alloc (Nat.le_refl _) _)
  go_enter Try.func46, Try.ntmps46
  go_wp2_with ((with_reducible refine (HC.out _).mono ?_); rintro e w1 ⟨rfl, rfl⟩)
  go_ret
  exact ⟨rfl, HB.out⟩
end Go.Proofs.Ythhedahfmllnoaa

/- slices.BinarySearchFunc at changes, by their keys. -/
namespace Go.Proofs.Ythhedahfmllnoaa
open Go.RowKit

/-- Does the change at a place have this key? -/
def hasKey (m : List Ch) (key : ByteArray) (i : Nat) : Bool := match m[i]? with | some c => decide (cmpB c.key key = 0) | none => false
def BsRet (w : World) (m : List Ch) (key : ByteArray) (e : Ending) (w' : World) : Prop :=
  ∃ i : Nat, e = .returned (.tuple #[.int .i64 i, .bool (hasKey m key i)]) ∧ i ≤ m.length ∧ (∀ t, t < i → (h : t < m.length) → cmpB m[t].key key < 0) ∧ (∀ t, i ≤ t → (h : t < m.length) → 0 ≤ cmpB m[t].key key) ∧ Below w.heap.size w w'

set_option maxHeartbeats 4000000 in
set_option maxRecDepth 100000 in
theorem bsearch_any (w : World) (A : Option Addr) (cA : Nat) (m : List Ch) (key : ByteArray) (hm : ChsAt w A m) (hn : m.length ≤ 2000)
    (hmono : ∀ a b, a ≤ b → (ha : a < m.length) → (hb : b < m.length) → cmpB m[b].key key < 0 → cmpB m[a].key key < 0) :
    Calls Try.prog 45 #[.slice A m.length cA, .string key, .func (.func 46) #[] #[]] w (BsRet w m key) := by
  have HC := Lib.hid (fun (c : Ch) (w' : World) => applyCmp_any c key w')
  have M := Lib.hid hmono
  clear hmono
  go_enter Try.func45, Try.ntmps45
  go_wp2
  go_loopw [9, 10] (fun s9 s10 w' => ∃ lo hi : Nat, s9 = .int .i64 lo ∧ s10 = .int .i64 hi ∧ lo ≤ hi ∧ hi ≤ m.length ∧ Hid ((∀ t, t < lo → (h : t < m.length) → cmpB m[t].key key < 0) ∧ (∀ t, hi ≤ t → (h : t < m.length) → 0 ≤ cmpB m[t].key key)) ∧ Below w.heap.size w w') (fun s9 s10 _ => (intOf s10).toNat - (intOf s9).toNat)
  case atStart => exact ⟨0, m.length, rfl, rfl, Nat.zero_le _, Nat.le_refl _, Lib.hid ⟨fun t ht => absurd ht (Nat.not_lt_zero _), fun t h1 h2 => by omega⟩, Below.refl _ _⟩
  case round =>
    obtain ⟨lo, hi, rfl, rfl, hlh, hin, I, hb⟩ := hrel
    by_cases hlt : lo < hi
    · have hk : (lo + hi) / 2 < m.length := by omega
      obtain ⟨b, off, rfl, hblt, d0, d1, d2, s1, s2⟩ := (hm.below hb) ((lo + hi) / 2) hk
      have MM := Lib.hid (fun (t : Nat) (h1 : t ≤ (lo + hi) / 2) (h2 : t < m.length) (h3 : cmpB m[(lo + hi) / 2].key key < 0) => M.out t ((lo + hi) / 2) h1 h2 hk h3)
      have MN := Lib.hid (fun (t : Nat) (h1 : (lo + hi) / 2 ≤ t) (h2 : t < m.length) (h3 : cmpB m[t].key key < 0) => M.out ((lo + hi) / 2) t h1 hk h2 h3)
      generalize m[(lo + hi) / 2] = c at *
      have HCC := Lib.hid (fun w' => HC.out c w')
      obtain ⟨n, hn⟩ : ∃ n, cmpB c.key key = n := ⟨_, rfl⟩
      rw [hn] at HCC MM MN
      unfold chArr at HCC
      obtain ⟨ck, cv, cg⟩ := c
      simp only [] at d0 d1 d2 HCC s1 s2
      clear hn s1 s2
      by_cases hneg : n < 0
      · go_wp2_with ((with_reducible refine (HCC.out _).mono ?_); rintro e w1 ⟨rfl, hb1⟩)
        refine ⟨⟨(lo + hi) / 2 + 1, hi, by go_num, rfl, by omega, hin, Lib.hid ⟨fun t ht h => MM.out t (by omega) h hneg, I.out.2⟩, belowThen hb hb1⟩, by simp [intOf]; omega⟩
      · go_wp2_with ((with_reducible refine (HCC.out _).mono ?_); rintro e w1 ⟨rfl, hb1⟩)
        refine ⟨⟨lo, (lo + hi) / 2, rfl, by go_num, by omega, by omega, Lib.hid ⟨I.out.1, fun t ht h => Int.not_lt.1 fun h3 => by have := MN.out t ht h h3; omega⟩, belowThen hb hb1⟩, by simp [intOf]; omega⟩
    · obtain rfl : hi = lo := by omega
      by_cases hk : hi < m.length
      · obtain ⟨b, off, rfl, hblt, d0, d1, d2, s1, s2⟩ := (hm.below hb) hi hk
        have HR := Lib.hid (fun (n : Int) (w' : World) (hn : cmpB m[hi].key key = n) (h : Below w.heap.size w w') => show BsRet w m key (.returned (.tuple #[.int .i64 hi, .bool (decide (n = 0))])) w' from ⟨hi, by unfold hasKey; rw [List.getElem?_eq_getElem hk]; simp only []; rw [hn], hin, I.out.1, I.out.2, h⟩)
        have HCC := Lib.hid (fun w' => HC.out m[hi] w')
        generalize m[hi] = c at *
        obtain ⟨n, hn⟩ : ∃ n, cmpB c.key key = n := ⟨_, rfl⟩
        have HN := Lib.hid hn
        rw [hn] at HCC
        unfold chArr at HCC
        obtain ⟨ck, cv, cg⟩ := c
        simp only [] at d0 d1 d2 HCC s1 s2
        clear hn s1 s2
        have FIN := Lib.hid (fun w' h => HR.out n w' HN.out h)
        by_cases h0 : n = 0
        · go_wp2_with ((with_reducible refine (HCC.out _).mono ?_); rintro e w1 ⟨rfl, hb1⟩)
          go_ret2
          have := FIN.out w1 (belowThen hb hb1)
          simpa [h0] using this
        · go_wp2_with ((with_reducible refine (HCC.out _).mono ?_); rintro e w1 ⟨rfl, hb1⟩)
          go_ret2
          have := FIN.out w1 (belowThen hb hb1)
          rw [show (n == 0) = decide (n = 0) from rfl]
          exact this
      · obtain rfl : hi = m.length := by omega
        have HR := Lib.hid (show BsRet w m key (.returned (.tuple #[.int .i64 (m.length : Nat), .bool false])) wr from ⟨m.length, by unfold hasKey; rw [List.getElem?_eq_none (Nat.le_refl _)], hin, I.out.1, I.out.2, hb⟩)
        go_wp2
        go_ret2
        exact HR.out
end Go.Proofs.Ythhedahfmllnoaa

/- slices.Clone at changes. -/
namespace Go.Proofs.Ythhedahfmllnoaa
open Go.RowKit

def CloneRet (w : World) (l : List Ch) (e : Ending) (w' : World) : Prop := ∃ A c, e = .returned (.slice A l.length c) ∧ w'.ownsRow w.heap.size 60 3 (.slice A l.length c) l.length (chCells l) ∧ Below w.heap.size w w'

set_option maxHeartbeats 1000000 in
set_option maxRecDepth 100000 in
theorem cloneChs_any (w : World) (A : Option Addr) (cA : Nat) (l : List Ch) (h : ChsAt w A l) (hA : A = none → cA = 0) (hn : l.length ≤ 1000) :
    Calls Try.prog 38 #[.slice A l.length cA] w (CloneRet w l) := by
  obtain ⟨i0, hi, hz0, hz1, hz2⟩ := info_parts Try.infoChZ
  have q22 : ∀ (w : World) (a : Option Addr) (n c n' c' : Nat), (binOp .eql 36 (.slice a n c) (.slice none n' c')).run Try.prog w = .ok (.bool a.isNone) w := fun w a n c n' c' => Lib.run_eql_slice_nil w _ _ a n c n' c' Try.underlying36
  cases A with
  | none =>
    obtain rfl := hA rfl
    rcases h.form with rfl | ⟨b, off, e, _⟩
    · go_enter Try.func38, Try.ntmps38
      go_wp2
      go_ret
      exact ⟨none, 0, rfl, World.ownsRow_nil _ _ _ _, Below.refl _ _⟩
    · cases e
  | some ad =>
    have hnews : ∀ j u, (chCells l)[j]? = some u → w.cell? (ad.add j) = some u := by
      rcases h.form with rfl | ⟨b, off, e, _⟩
      · intro j u hu; simp [chCells] at hu
      · simp only [Option.some.injEq] at e
        subst e
        exact h.cells
    have HNEWS := Lib.hid hnews
    have hlen := chCells_length l
    have h1 := chCells_one l
    clear hnews h hA
    generalize hxs : chCells l = xs at *
    have HXS := Lib.hid hxs
    clear hxs
    unfold CloneRet
    rw [HXS.out]
    generalize l.length = n at *
    go_enter Try.func38, Try.ntmps38
    go_wp2_with (at_builtin; refine wpList_append_own _ rfl _ _ 36 rfl w.heap.size 60 i0 _ 3 40 Try.underlying36 hi hz0 hz1 hz2 rfl (by decide) _ _ _ rfl (World.ownsRow_made w #[] 0 (Nat.le_refl _) (Nat.zero_le _) rfl) ad n cA xs rfl hlen (fun j u hj => Lib.cell?_alloc_some _ (HNEWS.out j u hj)) h1 (by unfold maxLen; omega) (by omega) (by simp) ?_; intro v' w3 hown' hg3 hnil3)
    go_wp2
    go_ret
    have hown2 : w3.ownsRow w.heap.size 60 3 v' n xs := by simpa using hown'
    obtain ⟨A, c, hv⟩ := slice_form hown2
    subst hv
    exact ⟨A, c, rfl, hown2, ((Below.refl _ w).alloc (Nat.le_refl _) _).grown hg3 (by simp) (fun j hj => by
      have h0 : (w.alloc (.cells #[] 60)).ownsRow w.heap.size 60 3 (.slice (some ⟨w.heap.size, 0, none⟩) 0 0) 0 [] := World.ownsRow_made w #[] 0 (Nat.le_refl _) (Nat.zero_le _) rfl
      exact (World.ownsRow.lt h0 j hj).1)⟩
end Go.Proofs.Ythhedahfmllnoaa
