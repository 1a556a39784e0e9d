/- What an act does to a vault, plainly: error, number, vault. -/
import Derived.Test.YtkjnipjomfbalaaZqVau5
import Derived.Test.YtkjnipjomfbalaaZqLight
import Derived.Test.YtkjnipjomfbalaaZqVau4
import Derived.Test.YtkjnipjomfbalaaZqBase
/- A vault behind one act, plainly. -/
namespace Go.Proofs.Ytkjnipjomfbalaa
open Go.RowKit Go.Maps

/-- A vault lies somewhere. -/
def VauIn (w : World) (u : Nat) (V : VauM) : Prop := ∃ x gp bp bn B lv, VauAt w u x gp bp bn B lv V
theorem VauIn.below {w w' : World} {u : Nat} {V : VauM} (h : VauIn w u V) (hb : Below w.heap.size w w') : VauIn w' u V := by
  obtain ⟨x, gp, bp, bn, B, lv, h⟩ := h
  exact ⟨x, gp, bp, bn, B, lv, h.below hb⟩

/-- A vault behind one act. -/
def fillV (V : VauM) (m : ActM) (ps : List (Int × ByteArray)) : VauM :=
  if (m.kind.toList == [105, 110, 103, 101, 115, 116]) = true then (if ingestErr V m.a m.b m.c ps = 0 then ingestV V m.a m.b m.c ps else V)
  else if (m.kind.toList == [97, 103, 97, 105, 110]) = true then (if againErr V m.a = 0 then againV V m.a else V)
  else if (m.kind.toList == [100, 114, 111, 112]) = true then (if dropErr V m.a = 0 then dropV V m.a else V)
  else V
theorem fillV_ok {V : VauM} (h : V.Ok) (m : ActM) (ps : List (Int × ByteArray)) : (fillV V m ps).Ok := by
  unfold fillV
  split
  · split
    · rename_i he; exact (ingest_good h he).1
    · exact h
  · split
    · split
      · rename_i he
        obtain ⟨_, _, _, h1, _⟩ := again_good h he
        exact h1
      · exact h
    · split
      · split
        · rename_i he
          obtain ⟨_, _, _, h1, _⟩ := drop_good h he
          exact h1
        · exact h
      · exact h

/-- No point has a text from its size on. -/
def Short (V : VauM) : Prop := ∀ p ∈ V.L, ∀ i, p.size ≤ i → i < 16 → V.X.get p.root i = ByteArray.empty
theorem short_empty : Short emptyVau := by intro p hp; simp [emptyVau] at hp
theorem overlay_out : ∀ (ps : List (Int × ByteArray)) (f : Nat → ByteArray) (i : Nat), (∀ p ∈ ps, p.1 ≠ (i : Int)) → overlay f ps i = f i
  | [], _, _, _ => rfl
  | p :: ps, f, i, h => by
    show overlay (fun i => if (i : Int) = p.1 then p.2 else f i) ps i = _
    rw [overlay_out ps _ i fun q hq => h q (List.mem_cons_of_mem _ hq), if_neg fun e => h p (by simp) e.symm]
theorem fillV_short {V : VauM} (h : V.Ok) (hs : Short V) (m : ActM) (ps : List (Int × ByteArray)) : Short (fillV V m ps) := by
  unfold fillV
  split
  · split
    · rename_i he
      obtain ⟨_, _, hL, hg, hov, hbd, hin⟩ := ingest_good h he
      intro p hp i hi h16
      rw [hL] at hp
      rcases List.mem_append.1 hp with hp | hp
      · rw [hg _ (heldOf_mem hp) i]; exact hs p hp i hi h16
      · simp only [List.mem_cons, List.not_mem_nil, or_false] at hp
        subst hp
        simp only at hi ⊢
        rw [hov i h16, overlay_out _ _ _ fun q hq => by have := hin q hq; omega]
        unfold baseText
        cases hb : placeOf V.L m.a with
        | none => rfl
        | some k =>
          obtain ⟨hk, _⟩ := placeOf_some hb
          simp only [getElem!_pos V.L k hk]
          split
          · rfl
          · exact hs _ (List.getElem_mem hk) i (by omega) h16
    · exact hs
  · split
    · split
      · rename_i he
        obtain ⟨k, hk, _, _, heq, _, hg⟩ := again_good h he
        intro p hp i hi h16
        have hp' : p ∈ V.L ++ [⟨V.next, V.L[k].disk, V.L[k].size, V.L[k].root⟩] := by rw [heq] at hp; exact hp
        rcases List.mem_append.1 hp' with hp | hp
        · rw [hg _ (heldOf_mem hp) i]; exact hs p hp i hi h16
        · simp only [List.mem_cons, List.not_mem_nil, or_false] at hp
          subst hp
          rw [hg _ (heldOf_mem (List.getElem_mem hk)) i]
          exact hs _ (List.getElem_mem hk) i hi h16
      · exact hs
    · split
      · split
        · rename_i he
          obtain ⟨k, hk, _, _, heq, hg⟩ := drop_good h he
          intro p hp i hi h16
          have hp' : p ∈ V.L.eraseIdx k := by rw [heq] at hp; exact hp
          rw [hg _ (heldOf_mem hp') i]
          exact hs p (List.mem_of_mem_eraseIdx hp') i hi h16
        · exact hs
      · exact hs

/-- What fill leaves. -/
def FillRet (w : World) (V : VauM) (e : Ending) (w' : World) : Prop := ∃ u, e = .returned (.pointer (some ⟨u, 0, none⟩)) ∧ VauIn w' u V ∧ Below w.heap.size w w'

theorem ret_below {w1 w2 w3 : World} {v x gp bp bn B : Nat} {lv : Value} {V V' : VauM} {ne : Int} {u : Value} {e : Ending} (h : VauAt w2 v x gp bp bn B lv V) (hf : From B v x gp bp bn) (hB : B ≤ w1.heap.size) (hb : Below B w1 w2) (hr : VauRet w2 v x gp bp bn B lv V' ne u e w3) : Below B w1 w3 :=
  hb.trans (hr.2.2.below (Nat.le_trans hB hb.size) (vbs_from hf h.pts))

theorem ActAt.puts {w : World} {N b off : Nat} {m : ActM} (h : ActAt w N b off m) : ∃ ps, ps.length = m.pL ∧ PutList w m.pA ps := by
  obtain ⟨_, _, h3, _⟩ := h
  exact h3.list
end Go.Proofs.Ytkjnipjomfbalaa

/- A small vault: closed facts. -/
namespace Go.Proofs.Ytkjnipjomfbalaa
open Go.RowKit Go.Maps

def vtPuts : List (Int × ByteArray) := [(2, ⟨#[120]⟩)]
def vtV : VauM := ingestV emptyVau 0 1 4 vtPuts
theorem vt_err : ingestErr emptyVau 0 1 4 vtPuts = 0 := by decide +kernel
theorem vt_ok : vtV.Ok := (ingest_good vau_empty vt_err).1
theorem vt_read : readText vtV 1 2 = ⟨#[120]⟩ := by decide +kernel
theorem vt_rerr : readErr vtV 1 2 = 0 := by decide +kernel
end Go.Proofs.Ytkjnipjomfbalaa

/- The law's same: an error, told by its number. -/
namespace Go.Proofs.Ytkjnipjomfbalaa
open Go.RowKit

theorem assertErrno2 (n : Int) (w : World) : (Instr.typeAssert (.iface 81 (.int .i64 n)) 35 81 true).run Try.prog w = .ok (.tuple #[.int .i64 n, .bool true]) w := by kernel_rfl

set_option maxRecDepth 100000 in
theorem said_any (n f : Int) (w : World) (hn : 0 ≤ n) :
    Calls Try.prog 12 #[errV n, .int .i64 f] w fun e w' => e = .returned (.bool (decide (n = f))) ∧ w = w' := by
  by_cases h0 : n = 0
  · subst h0
    show Calls _ _ #[.nilIface, _] _ _
    go_enter Try.func12, Try.ntmps12
    go_wp2
    go_ret
    refine ⟨ret_bool ?_, rfl⟩
    rw [Bool.eq_iff_iff]; simp; omega
  · have e : errV n = .iface 81 (.int .i64 n) := by simp [errV, h0]
    rw [e]
    have hta := assertErrno2 n w
    by_cases hf : 0 < f
    · go_enter Try.func12, Try.ntmps12
      go_wp2
      go_ret
      refine ⟨ret_bool ?_, rfl⟩
      rw [Bool.eq_iff_iff]; simp
    · have hf' : decide (0 < f) = false := by simpa using hf
      go_enter Try.func12, Try.ntmps12
      go_wp2
      go_ret
      refine ⟨ret_bool ?_, rfl⟩
      symm; simp; omega

theorem said_yes (n : Int) (w : World) (hn : 0 ≤ n) : Calls Try.prog 12 #[errV n, .int .i64 n] w fun e w' => e = .returned (.bool true) ∧ w = w' :=
  (said_any n n w hn).mono fun _ _ ⟨he, hw⟩ => ⟨by rw [he]; simp, hw⟩
theorem said_nil (w : World) : Calls Try.prog 12 #[.nilIface, .int .i64 0] w fun e w' => e = .returned (.bool true) ∧ w = w' := said_yes 0 w (by omega)
end Go.Proofs.Ytkjnipjomfbalaa

/- counterfoillaw.vaults: a closed fact. -/
namespace Go.Proofs.Ytkjnipjomfbalaa
open Go.RowKit Go.Maps

set_option maxHeartbeats 1000000 in
set_option maxRecDepth 100000 in
theorem vaults_any (w : World) : Calls Try.prog 4 #[] w fun e w' => e = .returned (.bool true) ∧ Below w.heap.size w w' := by
  go_enter Try.func4, Try.ntmps4
  go_wp2_with fail
  ((with_reducible refine (vauNew_any _).mono ?_); rintro e w1 ⟨v, x, gp, bp, bn, rfl, h1, hf, hb1⟩)
  have b2 := (Below.refl w1.heap.size w1).alloc (Nat.le_refl _) (.cells #[.int .i64 2, .string ⟨#[120]⟩] 56)
  have e2 := heap_alloc_new w1 (.cells #[.int .i64 2, .string ⟨#[120]⟩] 56)
  have h2 := h1.below b2
  have hb2 := belowThen hb1 b2
  have hps : PutList (w1.alloc (.cells #[.int .i64 2, .string ⟨#[120]⟩] 56)) (some ⟨w1.heap.size, 0, none⟩) vtPuts := by
    refine ⟨by decide, fun i hi => ?_⟩
    obtain rfl : i = 0 := by simp [vtPuts] at hi; omega
    exact ⟨w1.heap.size, 0, rfl, cell_of_row _ _ _ _ _ _ e2, cell_of_row _ _ _ _ _ _ e2, by show 1 ≤ maxLen; decide⟩
  have hs1 : w.heap.size ≤ w1.heap.size := hb1.size
  have hi := ingest_any _ v x gp bp bn w.heap.size (.slice none 0 0) emptyVau vtV 0 1 4 _ 1 vtPuts h2 vau_empty hb2.size hps 0 1 vt_err rfl rfl
  rw [show vtPuts.length = 1 from rfl] at hi
  have HI := Lib.hid hi
  clear hi
  have H2 := Lib.hid h2
  clear h1 hps e2 hb1 b2 h2
  go_wp2_with fail
  ((with_reducible refine HI.out.mono ?_); rintro e w3 hret)
  have hb3 := ret_below H2.out hf (Nat.le_refl _) hb2 hret
  obtain ⟨rfl, hv3, _⟩ := hret
  obtain ⟨lv3, h3, _⟩ := hv3 rfl
  have hv0 : errV 0 = .nilIface := rfl
  rw [hv0]
  have HR := Lib.hid (read_any w3 v x gp bp bn _ lv3 vtV 1 2 h3 vt_ok ⟨#[120]⟩ 0 vt_read vt_rerr)
  clear HI hv3 h3 hb2 hv0 H2
  go_wp2_with fail
  ((with_reducible refine HR.out.mono ?_); rintro e w4 ⟨rfl, hb4⟩)
  have hv0 : errV 0 = .nilIface := rfl
  rw [hv0]
  clear HR
  go_wp2_with fail
  ((with_reducible refine (said_nil _).mono ?_); rintro e w5 ⟨rfl, rfl⟩)
  go_wp2_with fail
  ((with_reducible refine (said_nil _).mono ?_); rintro e w5 ⟨rfl, rfl⟩)
  go_wp2
  go_ret
  exact ⟨rfl, belowThen hb3 hb4⟩
end Go.Proofs.Ytkjnipjomfbalaa

/- What an act does to a vault, plainly: error, number, vault. -/
namespace Go.Proofs.Ytkjnipjomfbalaa
open Go.RowKit Go.Maps

def kIngest (m : ActM) : Bool := m.kind.toList == [105, 110, 103, 101, 115, 116]
def kAgain (m : ActM) : Bool := m.kind.toList == [97, 103, 97, 105, 110]
def kDrop (m : ActM) : Bool := m.kind.toList == [100, 114, 111, 112]
def keptE (V : VauM) (m : ActM) (ps : List (Int × ByteArray)) : Int :=
  if kIngest m = true then ingestErr V m.a m.b m.c ps else if kAgain m = true then againErr V m.a else if kDrop m = true then dropErr V m.a else 0
def keptN (V : VauM) (m : ActM) (ps : List (Int × ByteArray)) : Nat :=
  if kIngest m = true then (if ingestErr V m.a m.b m.c ps = 0 then V.next else 0) else if kAgain m = true then (if againErr V m.a = 0 then V.next else 0) else 0
def keptV (V : VauM) (m : ActM) (ps : List (Int × ByteArray)) : VauM :=
  if kIngest m = true then ingestV V m.a m.b m.c ps else if kAgain m = true then againV V m.a else if kDrop m = true then dropV V m.a else V

theorem addErr_nonneg (V : VauM) : 0 ≤ addErr V := by unfold addErr; split <;> omega
theorem trimX_err : ∀ (k : Nat) (X : IdxM) (root at_ : Nat), 0 ≤ (trimX X root at_ k).2.2
  | 0, _, _, _ => by simp [trimX]
  | k + 1, X, root, at_ => by
    unfold trimX
    split
    · exact trimX_err k _ _ _
    · exact (replace_err (X := X) (root := root) (at_ := at_) (data := ByteArray.empty) rfl).1
theorem putsX_err (size : Nat) : ∀ (l : List (Int × ByteArray)) (X : IdxM) (root : Nat), 0 ≤ (putsX X root size l).2.2
  | [], _, _ => by simp [putsX]
  | p :: l, X, root => by
    unfold putsX
    split
    · simp
    · split
      · exact putsX_err size l _ _
      · split
        · exact putsX_err size l _ _
        · exact (replace_err (X := X) (root := root) (at_ := p.1.toNat) (data := p.2) rfl).1
theorem startX_err (V : VauM) (base disk : Int) (size : Nat) : 0 ≤ (startX V base disk size).2.2 := by
  unfold startX
  split
  · simp
  · split
    · simp
    · split
      · simp
      · exact trimX_err _ _ _ _
theorem ingestErr_nonneg (V : VauM) (base disk size : Int) (l : List (Int × ByteArray)) : 0 ≤ ingestErr V base disk size l := by
  unfold ingestErr
  split
  · omega
  · split
    · exact startX_err _ _ _ _
    · split
      · exact putsX_err _ _ _ _
      · exact addErr_nonneg V
theorem againErr_nonneg (V : VauM) (id : Int) : 0 ≤ againErr V id := by
  unfold againErr
  split
  · omega
  · exact addErr_nonneg V
theorem dropErr_nonneg (V : VauM) (id : Int) : 0 ≤ dropErr V id := by unfold dropErr; split <;> omega
theorem keptE_nonneg (V : VauM) (m : ActM) (ps : List (Int × ByteArray)) : 0 ≤ keptE V m ps := by
  unfold keptE
  split
  · exact ingestErr_nonneg _ _ _ _ _
  · split
    · exact againErr_nonneg _ _
    · split
      · exact dropErr_nonneg _ _
      · omega
theorem kept_ok {V : VauM} (h : V.Ok) (m : ActM) (ps : List (Int × ByteArray)) (he : keptE V m ps = 0) : (keptV V m ps).Ok := by
  unfold keptE at he
  unfold keptV
  split at he
  · rename_i h0; rw [if_pos h0]; exact (ingest_good h he).1
  · rename_i h0; rw [if_neg h0]
    split at he
    · rename_i h1; rw [if_pos h1]
      obtain ⟨_, _, _, q, _⟩ := again_good h he
      exact q
    · rename_i h1; rw [if_neg h1]
      split at he
      · rename_i h2; rw [if_pos h2]
        obtain ⟨_, _, _, q, _⟩ := drop_good h he
        exact q
      · rename_i h2; rw [if_neg h2]; exact h
end Go.Proofs.Ytkjnipjomfbalaa
