/- The walk of TopFold. -/
import Derived.Test.YtdgmmmjhajbbeaaFoldM
import Derived.Test.YtdgmmmjhajbbeaaTopCover
import Derived.Test.YtdgmmmjhajbbeaaVd8t
namespace Go.Proofs.Ytdgmmmjhajbbeaa
open Go.RowKit

def strArr (f : Nat → ByteArray) : Array Value := #[.string (f 0), .string (f 1), .string (f 2), .string (f 3), .string (f 4), .string (f 5), .string (f 6), .string (f 7), .string (f 8), .string (f 9), .string (f 10), .string (f 11), .string (f 12), .string (f 13), .string (f 14), .string (f 15)]
theorem strArr_size (f : Nat → ByteArray) : (strArr f).size = 16 := rfl
theorem strArr_set (f : Nat → ByteArray) {k : Nat} (hk : k < 16) (s : ByteArray) : (strArr f).setIfInBounds k (.string s) = strArr (setText f k s) := by
  rcases cases16 hk with h | h | h | h | h | h | h | h | h | h | h | h | h | h | h | h <;> subst h <;> rfl
theorem strArr_get (f : Nat → ByteArray) {k : Nat} (hk : k < 16) : (strArr f)[k]? = some (.string (f k)) := by
  rcases cases16 hk with h | h | h | h | h | h | h | h | h | h | h | h | h | h | h | h <;> subst h <;> rfl

theorem changed_te (B g : Nat) (w : World) (D : DiskM) (a b n : Int) (l : List Ar) (hD : DiskAt B w g D) (h1 : chgErr D a b = n) (h2 : chgAr D a b = l) :
    Calls Try.prog 39 #[.pointer (some ⟨g, 0, none⟩), .int .i64 a, .int .i64 b] w (AnsChgT w l n) := by
  subst h1 h2; exact changed_typed B g w D a b hD

def ReadRet (w : World) (t : ByteArray) (e : Ending) (w' : World) : Prop := ∃ v n, e = .returned (.tuple #[.string t, .int .i64 v, errV n]) ∧ Below w.heap.size w w'
theorem read_e (B g : Nat) (w : World) (D : DiskM) (a k : Int) (t : ByteArray) (hD : DiskAt B w g D) (ht : readText D a k = t) :
    Calls Try.prog 35 #[.pointer (some ⟨g, 0, none⟩), .int .i64 a, .int .i64 k] w (ReadRet w t) := by
  subst ht; exact (read_any B g w D a k hD).mono fun _ _ ⟨h1, h2⟩ => ⟨_, _, h1, h2⟩

/-- One text stored. -/
theorem str_store {B g G k : Nat} {w w6 : World} {D : DiskM} {X : Option Addr} {x : List Ar} {f : Nat → ByteArray} (t : ByteArray) (hw : w.heap.size ≤ G) (hb : Below w.heap.size w w6) (hk : k < 16) (hg : w6.heap[G]? = some (.cells (strArr f) 57 (0, 0))) (hX : TAr w6 X x) (hD : DiskAt B w6 g D) :
    (w6.setCell ⟨G, k, none⟩ (.string t)).heap[G]? = some (.cells (strArr (setText f k t)) 57 (0, 0)) ∧ TAr (w6.setCell ⟨G, k, none⟩ (.string t)) X x ∧ DiskAt B (w6.setCell ⟨G, k, none⟩ (.string t)) g D ∧ Below w.heap.size w (w6.setCell ⟨G, k, none⟩ (.string t)) := by
  have hs : Step w.heap.size [57] w6 (w6.setCell ⟨G, k, none⟩ (.string t)) := (Step.refl _ _ _).set hg hw (by simp) _
  have h := heap_setCell_same w6 G k _ _ (.string t) hg
  rw [strArr_set _ hk] at h
  exact ⟨h, hX.step hs (by decide), hD.other hs (by decide) (by decide) (by decide), hb.trans hs.below⟩

set_option maxHeartbeats 2000000 in
set_option maxRecDepth 100000 in
theorem topFold_walk (A : Option Addr) (cA : Nat) (l : List ActM) (size a b c : Int) (w : World) (hA : ActsAt w w.heap.size A l) :
    Calls Try.prog 9 #[.int .i64 size, .slice A l.length cA, .int .i64 a, .int .i64 b, .int .i64 c] w fun e w' => e = .returned (.bool true) ∧ Below w.heap.size w w' := by
  go_enter Try.func9, Try.ntmps9
  go_wp2_with fail
  ((with_reducible refine (tracked_any _).mono ?_); rintro e w1 ⟨rfl, hb1⟩)
  go_wp2_with fail
  ((with_reducible refine (changed_acts _ _ _ _ _ (hA.below hb1)).mono ?_); rintro e w2 (⟨rfl, hb2⟩ | ⟨hsz, h80, g, rfl, hD2, hb2⟩))
  · go_wp2
    go_ret
    exact ⟨rfl, belowThen hb1 hb2⟩
  have hB : w.heap.size ≤ w1.heap.size := hb1.size
  replace hb1 := belowThen hb1 hb2
  clear hb2 hsz h80
  generalize runM (emptyDisk size.toNat) l = D at hD2
  by_cases hca : c = a
  · have t1 : (c == a) = true := by simpa using hca
    go_wp2
    go_ret
    exact ⟨rfl, hb1⟩
  by_cases hcb : c = b
  · have t1 : (c == a) = false := by simpa using hca
    have t2 : (c == b) = true := by simpa using hcb
    go_wp2
    go_ret
    exact ⟨rfl, hb1⟩
  have t1 : (c == a) = false := by simpa using hca
  have t2 : (c == b) = false := by simpa using hcb
  obtain ⟨n, hn⟩ : ∃ n, chgErr D a b = n := ⟨_, rfl⟩
  obtain ⟨x, hx⟩ : ∃ x, chgAr D a b = x := ⟨_, rfl⟩
  have FIN := Lib.hid (fold_fin D a b c hca hcb)
  have HN := Lib.hid hn
  have HX := Lib.hid hx
  have hsm : 0 ≤ n ∧ n ≤ 100 := hn ▸ chgErr_small D a b
  have hok : ValidFrom 0 x ∧ x.length ≤ 16 := hx ▸ chgAr_ok D a b
  have hlen := hok.2
  clear hok hca hcb
  go_wp2_with fail
  ((with_reducible refine (changed_te _ _ _ D a b n x hD2 hn hx).mono ?_); rintro e w3 ⟨X, cx, rfl, hX, hb3⟩)
  replace hb1 := belowThen hb1 hb3
  replace hD2 := hD2.below hb3
  clear hb3 hn hx
  have hG : w.heap.size ≤ w3.heap.size := hb1.size
  have hg0 : ∀ z : Array Value, (w3.alloc (.cells z 57)).heap[w3.heap.size]? = some (.cells z 57 (0, 0)) := fun z => heap_alloc_new _ _
  have HG0 := Lib.hid hg0
  clear hg0
  have hba : ∀ z : Array Value, Below w3.heap.size w3 (w3.alloc (.cells z 57)) := fun z => (Below.refl _ _).alloc (Nat.le_refl _) _
  have HBA := Lib.hid hba
  clear hba
  go_wp2
  go_loopw [16] (fun i w' => ∃ (k : Nat) (f : Nat → ByteArray), k ≤ 16 ∧ i = .int .i64 k ∧ w'.heap[w3.heap.size]? = some (.cells (strArr f) 57 (0, 0)) ∧ Hid (∀ j : Nat, j < k → f j = readText D a j) ∧ TAr w' X x ∧ DiskAt w1.heap.size w' g D ∧ Below w.heap.size w w') (fun i _ => 16 - (intOf i).toNat)
  case atStart => exact ⟨0, fun _ => ⟨#[]⟩, Nat.zero_le _, rfl, HG0.out _, fun j hj => absurd hj (by omega), hX.up (HBA.out _), hD2.below (HBA.out _), belowThen hb1 (HBA.out _)⟩
  case round =>
    obtain ⟨k, f, hk, rfl, hg, HF, hXk, hD, hb⟩ := hrel
    clear hX hD2 hb1 HG0 HBA
    by_cases hlt : k < 16
    · have i1 : (k : Int) < 16 := by omega
      obtain ⟨t, ht⟩ : ∃ t, readText D a k = t := ⟨_, rfl⟩
      have HT := Lib.hid ht
      have HGG := Lib.hid hg
      clear hg
      go_wp2_with fail
      ((with_reducible refine (read_e _ _ _ D a k t hD ht).mono ?_); rintro e w6 ⟨v, m, rfl, hb6⟩)
      have hg6 : w6.heap[w3.heap.size]? = some (.cells (strArr f) 57 (0, 0)) := (hb6.block _ (Array.getElem?_eq_some_iff.1 HGG.out).1).trans HGG.out
      have c6 : w6.cell? ⟨w3.heap.size, k, none⟩ = some (.string (f k)) := by rw [cell_of_row _ _ _ _ _ _ hg6]; exact strArr_get f hlt
      have f6 : w6.frozen? ⟨w3.heap.size, k, none⟩ = false := frozen_of_row _ _ _ _ _ hg6
      have ST := Lib.hid (str_store t hG (belowThen hb hb6) hlt hg6 (hXk.up hb6) (hD.below hb6))
      clear hg6 ht
      go_wp2
      go_roundw
      case rel =>
        obtain ⟨q1, q2, q3, q4⟩ := ST.out
        refine ⟨k + 1, _, hlt, by go_num, q1, fun j hj => ?_, q2, q3, q4⟩
        unfold setText
        split
        · rename_i he; subst he; exact HT.out.symm
        · exact HF.out j (by omega)
      case measure => simp [intOf]; omega
    · obtain rfl : k = 16 := by omega
      have HGG := Lib.hid hg
      clear hg hlt
      go_wp2_with fail
      ((with_reducible refine (drop_any _ _ _ D c hD).mono ?_); rintro e w6 ⟨rfl, hD6, hs6⟩)
      have hg6 := Lib.hid (hs6.other _ _ _ _ HGG.out (by decide))
      have hX6 := hXk.step hs6 (by decide)
      replace hb := hb.trans (hs6.below.mono hB)
      clear hs6 hXk hD HGG
      go_wp2_with fail
      ((with_reducible refine (changed_te _ _ _ _ a b n x hD6 (FIN.out.1.trans HN.out) (FIN.out.2.1.trans HX.out)).mono ?_); rintro e w7 ⟨Y, cy, rfl, hY, hb7⟩)
      have hg7 := (hb7.block _ (Array.getElem?_eq_some_iff.1 hg6.out).1).trans hg6.out
      replace hX6 := hX6.up hb7
      replace hD6 := hD6.below hb7
      replace hb := belowThen hb hb7
      clear hb7 hg6
      have HG7 := Lib.hid hg7
      clear hg7
      go_wp2
      go_loopw [19] (fun i w' => ∃ k : Nat, k ≤ 16 ∧ i = .int .i64 k ∧ Hid (w'.heap[w3.heap.size]? = some (.cells (strArr f) 57 (0, 0))) ∧ TAr w' X x ∧ TAr w' Y x ∧ DiskAt w1.heap.size w' g (dropM D c) ∧ Below w.heap.size w w') (fun i _ => 16 - (intOf i).toNat)
      case atStart => exact ⟨0, Nat.zero_le _, rfl, HG7, hX6, hY, hD6, hb⟩
      case round =>
        obtain ⟨k, hk, rfl, HG8, hX8, hY8, hD8, hb8⟩ := hrel
        clear hX6 hY hD6 hb HG7
        by_cases hlt : k < 16
        · have i1 : (k : Int) < 16 := by omega
          have htx : readText (dropM D c) a k = f k := (FIN.out.2.2 k).trans (HF.out k hlt).symm
          go_wp2_with fail
          ((with_reducible refine (read_e _ _ _ _ a k (f k) hD8 htx).mono ?_); rintro e w9 ⟨v, m, rfl, hb9⟩)
          have hg9 := (hb9.block _ (Array.getElem?_eq_some_iff.1 HG8.out).1).trans HG8.out
          have c9 : w9.cell? ⟨w3.heap.size, k, none⟩ = some (.string (f k)) := by rw [cell_of_row _ _ _ _ _ _ hg9]; exact strArr_get f hlt
          have HG9 := Lib.hid hg9
          clear hg9 htx
          go_wp2
          go_roundw
          case rel => exact ⟨k + 1, hlt, by go_num, HG9, hX8.up hb9, hY8.up hb9, hD8.below hb9, belowThen hb8 hb9⟩
          case measure => simp [intOf]; omega
        · have hXa := hX8.1
          have hYa := hY8.1
          go_wp2_with fail
          ((with_reducible refine (number_any n _ hsm).mono ?_); rintro e w9 ⟨rfl, rfl⟩)
          go_wp2_with fail
          ((with_reducible refine (number_any n _ hsm).mono ?_); rintro e w9 ⟨rfl, rfl⟩)
          go_wp2_with fail
          ((with_reducible refine (sameAreas_yes X Y cx cy x x _ hXa hYa (by omega) rfl).mono ?_); rintro e w9 ⟨rfl, hb9⟩)
          go_wp2
          go_ret
          exact ⟨rfl, belowThen hb8 hb9⟩
end Go.Proofs.Ytdgmmmjhajbbeaa
