/- counterfoillaw.kept: an act on a vault. -/
import Derived.Test.YtlgahdabhnhjgaaGreatDoorZqPar
import Derived.Test.YtlgahdabhnhjgaaGreatDoorZqNums
import Derived.Test.YtlgahdabhnhjgaaGreatDoorZqAp3
import Derived.Test.YtlgahdabhnhjgaaGreatDoorZqLight
import Derived.Test.YtlgahdabhnhjgaaGreatDoorZqGv
import Derived.Test.YtlgahdabhnhjgaaGreatDoorZqGrow
import Derived.Test.YtlgahdabhnhjgaaGreatDoorZqRng
/- Which rows may be read: just those of a vault. Pure. -/
namespace Go.Proofs.YtlgahdabhnhjgaaGreatDoor
open Go.RowKit Go.Maps

theorem inc_k {l : List Ch} (h : Inc l) : IncK l l.length := fun j hj _ => (List.pairwise_iff_getElem.1 h) j (j + 1) (by omega) hj (by omega)
theorem k_inc {l : List Ch} (h : IncK l l.length) : Inc l := by
  refine List.pairwise_iff_getElem.2 fun i j hi hj hij => ?_
  have key : ∀ d : Nat, (hd : i + (d + 1) < l.length) → cmpB l[i].key l[i + (d + 1)].key < 0 := by
    intro d
    induction d with
    | zero => intro hd; exact h i hd hd
    | succ d ih => intro hd; exact cmp_trans (ih (by omega)) (h (i + (d + 1)) hd hd)
  obtain ⟨d, rfl⟩ : ∃ d, j = i + (d + 1) := ⟨j - i - 1, by omega⟩
  exact key d hj
/-- The rows of a vault in order may be read. -/
theorem good_own {V : VauM} (h : V.Ok) (hF : Full V.X) (hS : Small V.X.P) (hsh : Short V) : Good (rowsM V) := by
  have h0 := h.ok0
  refine ⟨inc_k (rows_inc h), ?_, ?_⟩
  · rw [read_own h0]; exact ofV_cons h0 hF hS hsh
  · rw [read_own h0]; exact rows_toV h0 hF hS hsh
/-- What may be read is a vault in order, and these are its rows. -/
theorem good_ok {l : List Ch} (h : Good l) : (toV (readAll l)).Ok ∧ Full (toV (readAll l)).X ∧ Small (toV (readAll l)).X.P ∧ Short (toV (readAll l)) ∧ rowsM (toV (readAll l)) = l := by
  obtain ⟨h1, h2, h3⟩ := h
  have hw := (readAll_rd l).wf
  have h0 := toV_ok0 hw h2
  exact ⟨h0.ok (inc_points h0 (by rw [h3]; exact k_inc h1)), toV_full hw h2, toV_small h2, toV_short hw h2, h3⟩
end Go.Proofs.YtlgahdabhnhjgaaGreatDoor

/- The law's same: an error, told by its number. -/
namespace Go.Proofs.YtlgahdabhnhjgaaGreatDoor
open Go.RowKit

theorem assertErrno2 (n : Int) (w : World) : (Instr.typeAssert (.iface 93 (.int .i64 n)) 32 93 true).run Tryz.prog w = .ok (.tuple #[.int .i64 n, .bool true]) w := by kernel_rfl

set_option maxRecDepth 100000 in
theorem said_any (n f : Int) (w : World) (hn : 0 ≤ n) :
    Calls Tryz.prog 15 #[errV n, .int .i64 f] w fun e w' => e = .returned (.bool (decide (n = f))) ∧ w = w' := by
  by_cases h0 : n = 0
  · subst h0
    show Calls _ _ #[.nilIface, _] _ _
    go_enter Tryz.func15, Tryz.ntmps15
    go_wp2
    go_ret
    refine ⟨ret_bool ?_, rfl⟩
    rw [Bool.eq_iff_iff]; simp; omega
  · have e : errV n = .iface 93 (.int .i64 n) := by simp [errV, h0]
    rw [e]
    have hta := assertErrno2 n w
    by_cases hf : 0 < f
    · go_enter Tryz.func15, Tryz.ntmps15
      go_wp2
      go_ret
      refine ⟨ret_bool ?_, rfl⟩
      rw [Bool.eq_iff_iff]; simp
    · have hf' : decide (0 < f) = false := by simpa using hf
      go_enter Tryz.func15, Tryz.ntmps15
      go_wp2
      go_ret
      refine ⟨ret_bool ?_, rfl⟩
      symm; simp; omega

theorem said_yes (n : Int) (w : World) (hn : 0 ≤ n) : Calls Tryz.prog 15 #[errV n, .int .i64 n] w fun e w' => e = .returned (.bool true) ∧ w = w' :=
  (said_any n n w hn).mono fun _ _ ⟨he, hw⟩ => ⟨by rw [he]; simp, hw⟩
theorem said_nil (w : World) : Calls Tryz.prog 15 #[.nilIface, .int .i64 0] w fun e w' => e = .returned (.bool true) ∧ w = w' := said_yes 0 w (by omega)
end Go.Proofs.YtlgahdabhnhjgaaGreatDoor

/- counterfoillaw.images: a closed fact. -/
namespace Go.Proofs.YtlgahdabhnhjgaaGreatDoor
open Go.RowKit Go.Maps

theorem rows_empty : rowsM emptyVau = [⟨⟨#[120]⟩, ⟨#[48, 48, 49]⟩, false⟩] := by decide +kernel
theorem good_empty : Good [(⟨⟨#[120]⟩, ⟨#[48, 48, 49]⟩, false⟩ : Ch)] := by
  rw [← rows_empty]
  exact good_own vau_empty full_empty small_empty short_empty

set_option maxHeartbeats 1000000 in
set_option maxRecDepth 100000 in
theorem images_any (w : World) (htab : Tab w) (herr : Errs w) : Calls Tryz.prog 6 #[] w fun e w' => e = .returned (.bool true) ∧ Below w.heap.size w w' := by
  have HT := Lib.hid (fun w' (hb : Below w.heap.size w w') => htab.below hb)
  have HE := Lib.hid (fun w' (hb : Below w.heap.size w w') => herr.below hb)
  clear htab herr
  go_enter Tryz.func6, Tryz.ntmps6
  go_wp2_with fail
  ((with_reducible refine (vauNew_any _).mono ?_); rintro e w1 ⟨v, x, gp, bp, bn, rfl, h1, hf, hb1⟩)
  have HR := Lib.hid (rows_chs w1 v x gp bp bn _ _ emptyVau h1 vau_empty.ok0 small_empty (HT.out _ hb1) _ rows_empty)
  clear h1 hf
  go_wp2_with fail
  ((with_reducible refine HR.out.mono ?_); rintro e w2 ⟨C, c, rfl, _, hC, hb2⟩)
  have hb2 := belowThen hb1 hb2
  have HP := Lib.hid (parse_any w2 C c _ hC (by simp) (by simp; decide) (HE.out _ hb2) (HT.out _ hb2))
  have HC := Lib.hid hC
  simp only [List.length_cons, List.length_nil, Nat.zero_add] at HP
  clear hC HR hb1
  go_wp2_with fail
  ((with_reducible refine HP.out.mono ?_); rintro e w3 ⟨hpr, hb3⟩)
  rcases hpr with ⟨_, y, x2, gp2, bp2, bn2, lv2, rfl, _, _⟩ | ⟨hno, _⟩
  case inr => exact absurd good_empty hno
  have hb03 := belowThen hb2 hb3
  have HC3 := Lib.hid (HC.out.below hb3)
  clear HP hb3 hb2 HC
  go_wp2_with fail
  ((with_reducible refine (said_nil _).mono ?_); rintro e w4 ⟨rfl, rfl⟩)
  have ha := (Below.refl w3.heap.size w3).alloc (Nat.le_refl _) (.cells #[.string ⟨#[120]⟩, .string ⟨#[48, 48, 49]⟩, .bool false] 49)
  have hn := heap_alloc_new w3 (.cells #[.string ⟨#[120]⟩, .string ⟨#[48, 48, 49]⟩, .bool false] 49)
  have hone : ChsAt (w3.alloc (.cells #[.string ⟨#[120]⟩, .string ⟨#[48, 48, 49]⟩, .bool false] 49)) (some ⟨w3.heap.size, 0, none⟩) [⟨⟨#[120]⟩, ⟨#[48, 48, 49]⟩, false⟩] := fun i hi => by
    obtain rfl : i = 0 := by simp at hi; omega
    exact ⟨w3.heap.size, 0, rfl, (Array.getElem?_eq_some_iff.1 hn).1, cell_of_row _ _ _ _ _ _ hn, cell_of_row _ _ _ _ _ _ hn, cell_of_row _ _ _ _ _ _ hn, by show 1 ≤ maxLen; decide, by show 3 ≤ maxLen; decide⟩
  have hsc := sameChs_any _ C (some ⟨w3.heap.size, 0, none⟩) c 1 [⟨⟨#[120]⟩, ⟨#[48, 48, 49]⟩, false⟩] [⟨⟨#[120]⟩, ⟨#[48, 48, 49]⟩, false⟩] (HC3.out.below ha) hone (by simp)
  simp only [List.length_cons, List.length_nil, Nat.zero_add, decide_true] at hsc
  have HSC := Lib.hid hsc
  have HB4 := Lib.hid (belowThen hb03 ha)
  clear hsc hone hn ha hb03
  go_wp2_with fail
  ((with_reducible refine HSC.out.mono ?_); rintro e w5 ⟨rfl, hb5⟩)
  have hb6 := belowThen HB4.out hb5
  clear hb5
  go_wp2
  go_ret
  exact ⟨rfl, hb6⟩
end Go.Proofs.YtlgahdabhnhjgaaGreatDoor

/- LightActs: what it lets pass is small. -/
namespace Go.Proofs.YtlgahdabhnhjgaaGreatDoor
open Go.RowKit

structure LightA (m : ActM) : Prop where
  s : m.s.size ≤ 100
  p : m.pL ≤ 24
  c : m.cL ≤ 90

set_option maxHeartbeats 400000 in
theorem lightChanges2_any (A : Option Addr) (n c : Nat) (most : Int) (w : World) (N : Nat) (hN : N ≤ w.heap.size) (hA : ChangesAt w N A n) :
    Calls Tryz.prog 8 #[.slice A n c, .int .i64 most] w (BoolRet w fun r => r = true → (n : Int) ≤ most) := by
  obtain ⟨hm, hA⟩ := hA
  unfold maxLen at hm
  go_enter Tryz.func8, Tryz.ntmps8
  by_cases h0 : most < (n : Int)
  · go_wp2
    go_ret
    exact ⟨_, rfl, by simp, Below.refl _ _⟩
  · go_wp2
    go_loopw [5] (fun i w' => ∃ k : Nat, k ≤ n ∧ i = .int .i64 k ∧ Below w.heap.size w w') (fun i _ => n - (intOf i).toNat)
    case atStart => exact ⟨0, Nat.zero_le _, rfl, Below.refl _ _⟩
    case round =>
      obtain ⟨k, hk, rfl, hb⟩ := hrel
      by_cases hlt : k < n
      · obtain ⟨b, off, s, t, rfl, hbN, h1, h2, _⟩ := hA k hlt
        rw [← hb.cell (p := ⟨b, off + k * 3, none⟩) (show b < _ by omega)] at h1
        rw [← hb.cell (p := ⟨b, off + k * 3 + 1, none⟩) (show b < _ by omega)] at h2
        have i1 : (k : Int) < (n : Int) := by omega
        by_cases c1 : 20 < (s.size : Int)
        · go_wp2
          go_ret
          exact ⟨_, rfl, by simp, by first | exact hb | exact hb.drew | exact below_drewN hb _⟩
        · by_cases c2 : 60 < (t.size : Int)
          · go_wp2
            go_ret
            exact ⟨_, rfl, by simp, by first | exact hb | exact hb.drew | exact below_drewN hb _⟩
          · go_wp2
            go_roundw
            case rel => exact ⟨k + 1, hlt, by go_num, by first | exact hb | exact hb.drew | exact below_drewN hb _⟩
            case measure => simp [intOf]; omega
      · go_wp2
        go_ret
        exact ⟨_, rfl, fun _ => by omega, hb⟩

set_option maxHeartbeats 2000000 in
set_option maxRecDepth 100000 in
theorem lightActs2_any (A : Option Addr) (l : List ActM) (c : Nat) (most : Int) (w : World) (hA : ActsAt w w.heap.size A l) :
    Calls Tryz.prog 7 #[.slice A l.length c, .int .i64 most] w (BoolRet w fun r => r = true → (l.length : Int) ≤ most ∧ ∀ m ∈ l, LightA m) := by
  have hm := hA.1
  unfold maxLen at hm
  go_enter Tryz.func7, Tryz.ntmps7
  by_cases h0 : most < (l.length : Int)
  · go_wp2
    go_ret
    exact ⟨_, rfl, by simp, Below.refl _ _⟩
  · go_wp2
    go_loopw [5] (fun i w' => ∃ k : Nat, k ≤ l.length ∧ i = .int .i64 k ∧ Hid (∀ m ∈ l.take k, LightA m) ∧ Below w.heap.size w w') (fun i _ => l.length - (intOf i).toNat)
    case atStart => exact ⟨0, Nat.zero_le _, rfl, Lib.hid (by simp), Below.refl _ _⟩
    case round =>
      obtain ⟨k, hk, rfl, HL, hb⟩ := hrel
      by_cases hlt : k < l.length
      · obtain ⟨b, off, rfl, hact⟩ := (hA.below hb).2 k hlt
        obtain ⟨_, g1, _, g7, g8⟩ := hact.cells
        have i1 : (k : Int) < (l.length : Int) := by omega
        by_cases c1 : 100 < ((l[k].s).size : Int)
        · go_wp2
          go_ret
          exact ⟨_, rfl, by simp, hb⟩
        · by_cases c2 : 24 < (l[k].pL : Int)
          · go_wp2
            go_ret
            exact ⟨_, rfl, by simp, hb⟩
          · go_wp2_with fail
            obtain ⟨_, _, hP, hC, _, _, _⟩ := hact
            ((with_reducible refine (lightChanges2_any _ _ _ _ _ _ (Nat.le_refl _) hC).mono ?_); rintro e w1 ⟨r, rfl, hcl, hb1⟩)
            have hb2 := belowThen hb hb1
            obtain ⟨b', off', e', hact⟩ := (hA.below hb2).2 k hlt
            injection e' with e'
            injection e' with e1 e2 _
            subst e1 e2
            obtain ⟨_, _, _, g7, _⟩ := hact.cells
            obtain ⟨_, _, hP, _, _, _, _⟩ := hact
            cases r
            · go_wp2
              go_ret
              exact ⟨_, rfl, by simp, hb2⟩
            · have HK := Lib.hid (show ∀ m ∈ l.take (k + 1), LightA m from fun m hm' => by
                rw [List.take_succ_eq_append_getElem hlt] at hm'
                rcases List.mem_append.1 hm' with h' | h'
                · exact HL.out m h'
                · rw [List.mem_singleton.1 h']; exact ⟨by omega, by omega, by have := hcl rfl; omega⟩)
              clear hcl
              go_wp2
              go_loopw [6] (fun i w' => ∃ j : Nat, j ≤ l[k].pL ∧ i = .int .i64 j ∧ Below w1.heap.size w1 w') (fun i _ => l[k].pL - (intOf i).toNat)
              case atStart => exact ⟨0, Nat.zero_le _, rfl, Below.refl _ _⟩
              case round =>
                obtain ⟨j, hj, rfl, hb3⟩ := hrel
                have hb4 := belowThen hb2 hb3
                have g7' : wr.cell? ⟨b, off + k * 9 + 7, none⟩ = some (.slice l[k].pA l[k].pL l[k].pC) := by
                  rw [hb3.cell (p := ⟨b, off + k * 9 + 7, none⟩) (World.block_lt_of_cell? w1 _ g7)]; exact g7
                clear g7
                by_cases hjl : j < l[k].pL
                · obtain ⟨b5, off5, s5, e5, hlt5, h5, _⟩ := (hP.up hb3 (Nat.le_refl _) hb3.size).2 j hjl
                  rw [e5] at g7'
                  have i2 : (j : Int) < (l[k].pL : Int) := by omega
                  by_cases c3 : 20 < (s5.size : Int)
                  · go_wp2
                    go_ret
                    exact ⟨_, rfl, by simp, hb4⟩
                  · go_wp2
                    go_roundw
                    case rel => exact ⟨j + 1, hjl, by go_num, hb3⟩
                    case measure => simp [intOf]; omega
                · go_wp2
                  go_roundw
                  case rel => exact ⟨k + 1, hlt, by go_num, HK, hb4⟩
                  case measure => simp [intOf]; omega
      · go_wp2
        go_ret
        have h9 := HL.out
        rw [List.take_of_length_le (by omega)] at h9
        exact ⟨_, rfl, fun _ => ⟨by omega, h9⟩, hb⟩
end Go.Proofs.YtlgahdabhnhjgaaGreatDoor

/- LightChanges, and what it says of each change. -/
namespace Go.Proofs.YtlgahdabhnhjgaaGreatDoor
open Go.RowKit

def LightS (w : World) (l : List Ch) (most : Int) (e : Ending) (w' : World) : Prop := ∃ r, e = .returned (.bool r) ∧ (r = true → (l.length : Int) ≤ most ∧ ∀ x ∈ l, x.key.size ≤ 20 ∧ x.val.size ≤ 60) ∧ Below w.heap.size w w'

set_option maxHeartbeats 400000 in
theorem lightChsS_any (A : Option Addr) (l : List Ch) (c : Nat) (most : Int) (w : World) (hm : l.length ≤ maxLen) (hA : ChsAt w A l) :
    Calls Tryz.prog 8 #[.slice A l.length c, .int .i64 most] w (LightS w l most) := by
  unfold maxLen at hm
  go_enter Tryz.func8, Tryz.ntmps8
  by_cases h0 : most < (l.length : Int)
  · go_wp2
    go_ret
    exact ⟨_, rfl, by simp, Below.refl _ _⟩
  · go_wp2
    go_loopw [5] (fun i w' => ∃ k : Nat, k ≤ l.length ∧ i = .int .i64 k ∧ Hid (∀ j, (hj : j < l.length) → j < k → l[j].key.size ≤ 20 ∧ l[j].val.size ≤ 60) ∧ Below w.heap.size w w') (fun i _ => l.length - (intOf i).toNat)
    case atStart => exact ⟨0, Nat.zero_le _, rfl, fun j _ hj => by omega, Below.refl _ _⟩
    case round =>
      obtain ⟨k, hk, rfl, HF, hb⟩ := hrel
      by_cases hlt : k < l.length
      · obtain ⟨b, off, rfl, hbN, h1, h2, h3, s1, s2⟩ := (hA.below hb) k hlt
        have i1 : (k : Int) < (l.length : Int) := by omega
        obtain ⟨s, hs⟩ : ∃ s, l[k].key = s := ⟨_, rfl⟩
        obtain ⟨t, ht⟩ : ∃ t, l[k].val = t := ⟨_, rfl⟩
        have HST := Lib.hid (show l[k].key = s ∧ l[k].val = t from ⟨hs, ht⟩)
        rw [hs] at h1 s1
        rw [ht] at h2 s2
        clear hs ht
        by_cases c1 : 20 < (s.size : Int)
        · go_wp2
          go_ret
          exact ⟨_, rfl, by simp, by first | exact hb | exact hb.drew | exact below_drewN hb _⟩
        · by_cases c2 : 60 < (t.size : Int)
          · go_wp2
            go_ret
            exact ⟨_, rfl, by simp, by first | exact hb | exact hb.drew | exact below_drewN hb _⟩
          · have HN := Lib.hid (show l[k].key.size ≤ 20 ∧ l[k].val.size ≤ 60 from by rw [HST.out.1, HST.out.2]; omega)
            go_wp2
            go_roundw
            case rel => exact ⟨k + 1, hlt, by go_num, (fun j hj hjk => by
              by_cases e : j = k
              · subst e; exact HN.out
              · exact HF.out j hj (by omega)), by first | exact hb | exact hb.drew | exact below_drewN hb _⟩
            case measure => simp [intOf]; omega
      · go_wp2
        go_ret
        exact ⟨_, rfl, fun _ => ⟨by omega, fun x hx => by
          obtain ⟨j, hj, rfl⟩ := List.getElem_of_mem hx
          exact HF.out j hj (by omega)⟩, hb⟩

end Go.Proofs.YtlgahdabhnhjgaaGreatDoor

/- What an act does to a vault, plainly: error, number, vault. -/
namespace Go.Proofs.YtlgahdabhnhjgaaGreatDoor
open Go.RowKit Go.Maps

def kIngest (m : ActM) : Bool := m.kind.toList == [105, 110, 103, 101, 115, 116]
def kAgain (m : ActM) : Bool := m.kind.toList == [97, 103, 97, 105, 110]
def kDrop (m : ActM) : Bool := m.kind.toList == [100, 114, 111, 112]
def keptE (V : VauM) (m : ActM) (ps : List (Int × ByteArray)) : Int :=
  if kIngest m = true then ingestErr V m.a m.b m.c ps else if kAgain m = true then againErr V m.a else if kDrop m = true then dropErr V m.a else 0
def keptN (V : VauM) (m : ActM) (ps : List (Int × ByteArray)) : Nat :=
  if kIngest m = true then (if ingestErr V m.a m.b m.c ps = 0 then V.next else 0) else if kAgain m = true then (if againErr V m.a = 0 then V.next else 0) else 0
def keptV (V : VauM) (m : ActM) (ps : List (Int × ByteArray)) : VauM :=
  if kIngest m = true then ingestV V m.a m.b m.c ps else if kAgain m = true then againV V m.a else if kDrop m = true then dropV V m.a else V

theorem addErr_nonneg (V : VauM) : 0 ≤ addErr V := by unfold addErr; split <;> omega
theorem trimX_err : ∀ (k : Nat) (X : IdxM) (root at_ : Nat), 0 ≤ (trimX X root at_ k).2.2
  | 0, _, _, _ => by simp [trimX]
  | k + 1, X, root, at_ => by
    unfold trimX
    split
    · exact trimX_err k _ _ _
    · exact (replace_err (X := X) (root := root) (at_ := at_) (data := ByteArray.empty) rfl).1
theorem putsX_err (size : Nat) : ∀ (l : List (Int × ByteArray)) (X : IdxM) (root : Nat), 0 ≤ (putsX X root size l).2.2
  | [], _, _ => by simp [putsX]
  | p :: l, X, root => by
    unfold putsX
    split
    · simp
    · split
      · exact putsX_err size l _ _
      · split
        · exact putsX_err size l _ _
        · exact (replace_err (X := X) (root := root) (at_ := p.1.toNat) (data := p.2) rfl).1
theorem startX_err (V : VauM) (base disk : Int) (size : Nat) : 0 ≤ (startX V base disk size).2.2 := by
  unfold startX
  split
  · simp
  · split
    · simp
    · split
      · simp
      · exact trimX_err _ _ _ _
theorem ingestErr_nonneg (V : VauM) (base disk size : Int) (l : List (Int × ByteArray)) : 0 ≤ ingestErr V base disk size l := by
  unfold ingestErr
  split
  · omega
  · split
    · exact startX_err _ _ _ _
    · split
      · exact putsX_err _ _ _ _
      · exact addErr_nonneg V
theorem againErr_nonneg (V : VauM) (id : Int) : 0 ≤ againErr V id := by
  unfold againErr
  split
  · omega
  · exact addErr_nonneg V
theorem dropErr_nonneg (V : VauM) (id : Int) : 0 ≤ dropErr V id := by unfold dropErr; split <;> omega
theorem keptE_nonneg (V : VauM) (m : ActM) (ps : List (Int × ByteArray)) : 0 ≤ keptE V m ps := by
  unfold keptE
  split
  · exact ingestErr_nonneg _ _ _ _ _
  · split
    · exact againErr_nonneg _ _
    · split
      · exact dropErr_nonneg _ _
      · omega
theorem kept_ok {V : VauM} (h : V.Ok) (m : ActM) (ps : List (Int × ByteArray)) (he : keptE V m ps = 0) : (keptV V m ps).Ok := by
  unfold keptE at he
  unfold keptV
  split at he
  · rename_i h0; rw [if_pos h0]; exact (ingest_good h he).1
  · rename_i h0; rw [if_neg h0]
    split at he
    · rename_i h1; rw [if_pos h1]
      obtain ⟨_, _, _, q, _⟩ := again_good h he
      exact q
    · rename_i h1; rw [if_neg h1]
      split at he
      · rename_i h2; rw [if_pos h2]
        obtain ⟨_, _, _, q, _⟩ := drop_good h he
        exact q
      · rename_i h2; rw [if_neg h2]; exact h
end Go.Proofs.YtlgahdabhnhjgaaGreatDoor

/- counterfoillaw.kept: an act on a vault. -/
namespace Go.Proofs.YtlgahdabhnhjgaaGreatDoor
open Go.RowKit Go.Maps

set_option maxHeartbeats 4000000 in
set_option maxRecDepth 100000 in
theorem kept_any (w : World) (v x gp bp bn B : Nat) (lv : Value) (V V' : VauM) (m : ActM) (ps : List (Int × ByteArray)) (h : VauAt w v x gp bp bn B lv V) (hB : B ≤ w.heap.size) (hV : V.Ok) (hps : PutList w m.pA ps) (hpl : ps.length = m.pL) (ne : Int) (n : Nat) (he : keptE V m ps = ne) (hn : keptN V m ps = n) (hV' : keptV V m ps = V') :
    Calls Tryz.prog 13 #[.pointer (some ⟨v, 0, none⟩), .agg (actArr m)] w fun e w' => e = .returned (.tuple #[.int .i64 n, errV ne]) ∧ (ne = 0 → ∃ lv', VauAt w' v x gp bp bn B lv' V' ∧ Lies w lv lv') ∧ Turn (vbs v bp bn lv) w w' := by
  have hb0 : Below w.heap.size w (w.alloc (.cells (actArr m) 38)) := (Below.refl _ _).alloc (Nat.le_refl _) _
  have e0 : (w.alloc (.cells (actArr m) 38)).cell? ⟨w.heap.size, 0, none⟩ = some (.string m.kind) := cell_of_row _ _ _ _ _ _ (heap_alloc_new _ _)
  have e2 : (w.alloc (.cells (actArr m) 38)).cell? ⟨w.heap.size, 2, none⟩ = some (.int .i64 m.a) := cell_of_row _ _ _ _ _ _ (heap_alloc_new _ _)
  have e3 : (w.alloc (.cells (actArr m) 38)).cell? ⟨w.heap.size, 3, none⟩ = some (.int .i64 m.b) := cell_of_row _ _ _ _ _ _ (heap_alloc_new _ _)
  have e4 : (w.alloc (.cells (actArr m) 38)).cell? ⟨w.heap.size, 4, none⟩ = some (.int .i64 m.c) := cell_of_row _ _ _ _ _ _ (heap_alloc_new _ _)
  have e7 : (w.alloc (.cells (actArr m) 38)).cell? ⟨w.heap.size, 7, none⟩ = some (.slice m.pA m.pL m.pC) := cell_of_row _ _ _ _ _ _ (heap_alloc_new _ _)
  generalize hw1 : w.alloc (.cells (actArr m) 38) = w1 at hb0 e0 e2 e3 e4 e7
  have H2 := Lib.hid (h.below hb0)
  have HPS := Lib.hid (hps.below hb0)
  have HB0 := Lib.hid (Turn.of_below (bs := vbs v bp bn lv) hb0)
  obtain ⟨gz, hgz⟩ : ∃ gz, w.heap.size = gz := ⟨_, rfl⟩
  rw [hgz] at e0 e2 e3 e4 e7
  have hs1 : w.heap.size ≤ w1.heap.size := hb0.size
  have hB1 : B ≤ w1.heap.size := Nat.le_trans hB hs1
  clear hps h hb0
  cases hk0 : (m.kind.toList == [105, 110, 103, 101, 115, 116]) with
  | true =>
    have hk0' : kIngest m = true := hk0
    have he' : ingestErr V m.a m.b m.c ps = ne := by rw [← he]; unfold keptE; rw [if_pos hk0']
    have hn' : (if ne = 0 then V.next else 0) = n := by rw [← hn]; unfold keptN; rw [if_pos hk0', he']
    have hv' : ingestV V m.a m.b m.c ps = V' := by rw [← hV']; unfold keptV; rw [if_pos hk0']
    have hi := ingest_any w1 v x gp bp bn B lv V V' m.a m.b m.c m.pA m.pC ps H2.out hV hB1 HPS.out ne n he' hn' hv'
    rw [hpl] at hi
    have HI := Lib.hid hi
    clear hi he hn hV' he' hn' hv' hk0'
    go_enter Tryz.func13, Tryz.ntmps13
    go_wp2_with fail
    ((with_reducible refine HI.out.mono ?_); rintro e w3 hret)
    obtain ⟨rfl, hv3, t3⟩ := hret
    clear HI e0 e2 e3 e4 e7
    go_wp2
    go_ret2
    exact ⟨rfl, fun h0 => by obtain ⟨lv3, h3, l3⟩ := hv3 h0; exact ⟨lv3, h3, l3.down hs1⟩, HB0.out.trans t3⟩
  | false =>
  cases hk1 : (m.kind.toList == [97, 103, 97, 105, 110]) with
  | true =>
    have hk0' : ¬ kIngest m = true := by unfold kIngest; simp [hk0]
    have hk1' : kAgain m = true := hk1
    have he' : againErr V m.a = ne := by rw [← he]; unfold keptE; rw [if_neg hk0', if_pos hk1']
    have hn' : (if ne = 0 then V.next else 0) = n := by rw [← hn]; unfold keptN; rw [if_neg hk0', if_pos hk1', he']
    have hv' : againV V m.a = V' := by rw [← hV']; unfold keptV; rw [if_neg hk0', if_pos hk1']
    have HI := Lib.hid (again_any w1 v x gp bp bn B lv V V' m.a H2.out hV hB1 ne n he' hn' hv')
    clear he hn hV' he' hn' hv' hk0' hk1'
    go_enter Tryz.func13, Tryz.ntmps13
    go_wp2_with fail
    ((with_reducible refine HI.out.mono ?_); rintro e w3 hret)
    obtain ⟨rfl, hv3, t3⟩ := hret
    clear HI e0 e2 e3 e4 e7
    go_wp2
    go_ret2
    exact ⟨rfl, fun h0 => by obtain ⟨lv3, h3, l3⟩ := hv3 h0; exact ⟨lv3, h3, l3.down hs1⟩, HB0.out.trans t3⟩
  | false =>
  cases hk2 : (m.kind.toList == [100, 114, 111, 112]) with
  | true =>
    have hk0' : ¬ kIngest m = true := by unfold kIngest; simp [hk0]
    have hk1' : ¬ kAgain m = true := by unfold kAgain; simp [hk1]
    have hk2' : kDrop m = true := hk2
    have he' : dropErr V m.a = ne := by rw [← he]; unfold keptE; rw [if_neg hk0', if_neg hk1', if_pos hk2']
    have hn' : n = 0 := by rw [← hn]; unfold keptN; rw [if_neg hk0', if_neg hk1']
    have hv' : dropV V m.a = V' := by rw [← hV']; unfold keptV; rw [if_neg hk0', if_neg hk1', if_pos hk2']
    subst hn'
    have HI := Lib.hid (drop_any w1 v x gp bp bn B lv V V' m.a H2.out hV ne he' hv')
    clear he hn hV' he' hv' hk0' hk1' hk2'
    go_enter Tryz.func13, Tryz.ntmps13
    go_wp2_with fail
    ((with_reducible refine HI.out.mono ?_); rintro e w3 hret)
    obtain ⟨rfl, hv3, t3⟩ := hret
    clear HI e0 e2 e3 e4 e7
    go_wp2
    go_ret2
    exact ⟨rfl, fun h0 => by obtain ⟨lv3, h3, l3⟩ := hv3 h0; exact ⟨lv3, h3, l3.down hs1⟩, HB0.out.trans t3⟩
  | false =>
    have hk0' : ¬ kIngest m = true := by unfold kIngest; simp [hk0]
    have hk1' : ¬ kAgain m = true := by unfold kAgain; simp [hk1]
    have hk2' : ¬ kDrop m = true := by unfold kDrop; simp [hk2]
    have he' : ne = 0 := by rw [← he]; unfold keptE; rw [if_neg hk0', if_neg hk1', if_neg hk2']
    have hn' : n = 0 := by rw [← hn]; unfold keptN; rw [if_neg hk0', if_neg hk1']
    have hv' : V = V' := by rw [← hV']; unfold keptV; rw [if_neg hk0', if_neg hk1', if_neg hk2']
    subst he' hn' hv'
    clear he hn hV' hk0' hk1' hk2'
    go_enter Tryz.func13, Tryz.ntmps13
    go_wp2
    go_ret2
    exact ⟨rfl, fun _ => ⟨lv, H2.out, fun b hb => .inl hb⟩, HB0.out⟩
end Go.Proofs.YtlgahdabhnhjgaaGreatDoor
