/- slices.BinarySearchFunc at changes, by their keys. -/
import Derived.Test.YtimbdomkpdmehaaChs
import Derived.Test.YtimbdomkpdmehaaAp1
import Derived.Deep.LoopGhost
namespace Go.Proofs.Ytimbdomkpdmehaa
open Go.RowKit

/-- Does the change at a place have this key? -/
def hasKey (m : List Ch) (key : ByteArray) (i : Nat) : Bool := match m[i]? with | some c => decide (cmpB c.key key = 0) | none => false
def BsRet (w : World) (m : List Ch) (key : ByteArray) (e : Ending) (w' : World) : Prop :=
  ∃ i : Nat, e = .returned (.tuple #[.int .i64 i, .bool (hasKey m key i)]) ∧ i ≤ m.length ∧ (∀ t, t < i → (h : t < m.length) → cmpB m[t].key key < 0) ∧ (∀ t, i ≤ t → (h : t < m.length) → 0 ≤ cmpB m[t].key key) ∧ Below w.heap.size w w'

set_option maxHeartbeats 4000000 in
set_option maxRecDepth 100000 in
theorem bsearch_any (w : World) (A : Option Addr) (cA : Nat) (m : List Ch) (key : ByteArray) (hm : ChsAt w A m) (hn : m.length ≤ 2000)
    (hmono : ∀ a b, a ≤ b → (ha : a < m.length) → (hb : b < m.length) → cmpB m[b].key key < 0 → cmpB m[a].key key < 0) :
    Calls Try.prog 39 #[.slice A m.length cA, .string key, .func (.func 40) #[] #[]] w (BsRet w m key) := by
  have HC := Lib.hid (fun (c : Ch) (w' : World) => applyCmp_any c key w')
  have M := Lib.hid hmono
  clear hmono
  go_enter Try.func39, Try.ntmps39
  go_wp2
  go_loopw [9, 10] (fun s9 s10 w' => ∃ lo hi : Nat, s9 = .int .i64 lo ∧ s10 = .int .i64 hi ∧ lo ≤ hi ∧ hi ≤ m.length ∧ Hid ((∀ t, t < lo → (h : t < m.length) → cmpB m[t].key key < 0) ∧ (∀ t, hi ≤ t → (h : t < m.length) → 0 ≤ cmpB m[t].key key)) ∧ Below w.heap.size w w') (fun s9 s10 _ => (intOf s10).toNat - (intOf s9).toNat)
  case atStart => exact ⟨0, m.length, rfl, rfl, Nat.zero_le _, Nat.le_refl _, Lib.hid ⟨fun t ht => absurd ht (Nat.not_lt_zero _), fun t h1 h2 => by omega⟩, Below.refl _ _⟩
  case round =>
    obtain ⟨lo, hi, rfl, rfl, hlh, hin, I, hb⟩ := hrel
    by_cases hlt : lo < hi
    · have hk : (lo + hi) / 2 < m.length := by omega
      obtain ⟨b, off, rfl, hblt, d0, d1, d2, s1, s2⟩ := (hm.below hb) ((lo + hi) / 2) hk
      have MM := Lib.hid (fun (t : Nat) (h1 : t ≤ (lo + hi) / 2) (h2 : t < m.length) (h3 : cmpB m[(lo + hi) / 2].key key < 0) => M.out t ((lo + hi) / 2) h1 h2 hk h3)
      have MN := Lib.hid (fun (t : Nat) (h1 : (lo + hi) / 2 ≤ t) (h2 : t < m.length) (h3 : cmpB m[t].key key < 0) => M.out ((lo + hi) / 2) t h1 hk h2 h3)
      generalize m[(lo + hi) / 2] = c at *
      have HCC := Lib.hid (fun w' => HC.out c w')
      obtain ⟨n, hn⟩ : ∃ n, cmpB c.key key = n := ⟨_, rfl⟩
      rw [hn] at HCC MM MN
      unfold chArr at HCC
      obtain ⟨ck, cv, cg⟩ := c
      simp only [] at d0 d1 d2 HCC s1 s2
      clear hn s1 s2
      by_cases hneg : n < 0
      · go_wp2_with ((with_reducible refine (HCC.out _).mono ?_); rintro e w1 ⟨rfl, hb1⟩)
        refine ⟨⟨(lo + hi) / 2 + 1, hi, by go_num, rfl, by omega, hin, Lib.hid ⟨fun t ht h => MM.out t (by omega) h hneg, I.out.2⟩, belowThen hb hb1⟩, by simp [intOf]; omega⟩
      · go_wp2_with ((with_reducible refine (HCC.out _).mono ?_); rintro e w1 ⟨rfl, hb1⟩)
        refine ⟨⟨lo, (lo + hi) / 2, rfl, by go_num, by omega, by omega, Lib.hid ⟨I.out.1, fun t ht h => Int.not_lt.1 fun h3 => by have := MN.out t ht h h3; omega⟩, belowThen hb hb1⟩, by simp [intOf]; omega⟩
    · obtain rfl : hi = lo := by omega
      by_cases hk : hi < m.length
      · obtain ⟨b, off, rfl, hblt, d0, d1, d2, s1, s2⟩ := (hm.below hb) hi hk
        have HR := Lib.hid (fun (n : Int) (w' : World) (hn : cmpB m[hi].key key = n) (h : Below w.heap.size w w') => show BsRet w m key (.returned (.tuple #[.int .i64 hi, .bool (decide (n = 0))])) w' from ⟨hi, by unfold hasKey; rw [List.getElem?_eq_getElem hk]; simp only []; rw [hn], hin, I.out.1, I.out.2, h⟩)
        have HCC := Lib.hid (fun w' => HC.out m[hi] w')
        generalize m[hi] = c at *
        obtain ⟨n, hn⟩ : ∃ n, cmpB c.key key = n := ⟨_, rfl⟩
        have HN := Lib.hid hn
        rw [hn] at HCC
        unfold chArr at HCC
        obtain ⟨ck, cv, cg⟩ := c
        simp only [] at d0 d1 d2 HCC s1 s2
        clear hn s1 s2
        have FIN := Lib.hid (fun w' h => HR.out n w' HN.out h)
        by_cases h0 : n = 0
        · go_wp2_with ((with_reducible refine (HCC.out _).mono ?_); rintro e w1 ⟨rfl, hb1⟩)
          go_ret2
          have := FIN.out w1 (belowThen hb hb1)
          simpa [h0] using this
        · go_wp2_with ((with_reducible refine (HCC.out _).mono ?_); rintro e w1 ⟨rfl, hb1⟩)
          go_ret2
          have := FIN.out w1 (belowThen hb hb1)
          rw [show (n == 0) = decide (n = 0) from rfl]
          exact this
      · obtain rfl : hi = m.length := by omega
        have HR := Lib.hid (show BsRet w m key (.returned (.tuple #[.int .i64 (m.length : Nat), .bool false])) wr from ⟨m.length, by unfold hasKey; rw [List.getElem?_eq_none (Nat.le_refl _)], hin, I.out.1, I.out.2, hb⟩)
        go_wp2
        go_ret2
        exact HR.out
end Go.Proofs.Ytimbdomkpdmehaa
