/- The document's rows: the fault of a change. -/
import Derived.Test.YtllaohobmkcmfaaRow2
import Derived.Test.YtllaohobmkcmfaaChs
namespace Go.Proofs.Ytllaohobmkcmfaa
open Go.RowKit Go.PlainAid

theorem rfault_any (c : Ch) (w : World) (hk : c.key.size ≤ maxLen) (hv : c.val.size ≤ maxLen) :
    Calls Try.prog 17 #[.agg #[.string c.key, .string c.val, .bool c.gone]] w fun e w' => e = .returned (.int .i64 (chErr c)) ∧ Below w.heap.size w w' := by
  unfold maxLen at hk hv
  obtain ⟨key, val, gone⟩ := c
  simp only [] at *
  by_cases h0 : key.size = 0
  · have t1 := toList_nil h0
    rw [show chErr ⟨key, val, gone⟩ = 3 from by unfold chErr; rw [if_pos (.inl h0)]]
    clear h0 hk hv
    go_enter Try.func17, Try.ntmps17
    go_wp2
    go_ret
    exact ⟨rfl, (Below.refl _ _).alloc (Nat.le_refl _) _⟩
  · have t1 := toList_not h0
    have t2 := empty_no h0
    cases gone with
    | false =>
      have c1 : ¬ (key.size = 0 ∨ false = true ∧ ¬ val.size = 0) := by simp [h0]
      by_cases k8 : 8 < key.size
      · have k8' : (8 : Int) < (key.size : Int) := by omega
        rw [show chErr ⟨key, val, false⟩ = 2 from by unfold chErr; rw [if_neg c1, if_pos (.inl k8)]]
        clear c1 k8 h0
        go_enter Try.func17, Try.ntmps17
        go_wp2
        go_ret
        exact ⟨rfl, (Below.refl _ _).alloc (Nat.le_refl _) _⟩
      · have k8' : ¬ (8 : Int) < (key.size : Int) := by omega
        by_cases v48 : 48 < val.size
        · have v48' : (48 : Int) < (val.size : Int) := by omega
          rw [show chErr ⟨key, val, false⟩ = 2 from by unfold chErr; rw [if_neg c1, if_pos (.inr v48)]]
          clear c1 k8 v48 h0
          go_enter Try.func17, Try.ntmps17
          go_wp2
          go_ret
          exact ⟨rfl, (Below.refl _ _).alloc (Nat.le_refl _) _⟩
        · have v48' : ¬ (48 : Int) < (val.size : Int) := by omega
          rw [show chErr ⟨key, val, false⟩ = 0 from by unfold chErr; rw [if_neg c1, if_neg (by simp only []; omega)]]
          clear c1 k8 v48 h0
          go_enter Try.func17, Try.ntmps17
          go_wp2
          go_ret
          exact ⟨rfl, (Below.refl _ _).alloc (Nat.le_refl _) _⟩
    | true =>
      by_cases v0 : val.size = 0
      · have t3 := empty_yes v0
        have c1 : ¬ (key.size = 0 ∨ true = true ∧ ¬ val.size = 0) := by simp [h0, v0]
        by_cases k8 : 8 < key.size
        · have k8' : (8 : Int) < (key.size : Int) := by omega
          rw [show chErr ⟨key, val, true⟩ = 2 from by unfold chErr; rw [if_neg c1, if_pos (.inl k8)]]
          clear v0 c1 k8 h0
          go_enter Try.func17, Try.ntmps17
          go_wp2
          go_ret
          exact ⟨rfl, (Below.refl _ _).alloc (Nat.le_refl _) _⟩
        · have k8' : ¬ (8 : Int) < (key.size : Int) := by omega
          by_cases v48 : 48 < val.size
          · have v48' : (48 : Int) < (val.size : Int) := by omega
            rw [show chErr ⟨key, val, true⟩ = 2 from by unfold chErr; rw [if_neg c1, if_pos (.inr v48)]]
            clear v0 c1 k8 v48 h0
            go_enter Try.func17, Try.ntmps17
            go_wp2
            go_ret
            exact ⟨rfl, (Below.refl _ _).alloc (Nat.le_refl _) _⟩
          · have v48' : ¬ (48 : Int) < (val.size : Int) := by omega
            rw [show chErr ⟨key, val, true⟩ = 0 from by unfold chErr; rw [if_neg c1, if_neg (by simp only []; omega)]]
            clear v0 c1 k8 v48 h0
            go_enter Try.func17, Try.ntmps17
            go_wp2
            go_ret
            exact ⟨rfl, (Below.refl _ _).alloc (Nat.le_refl _) _⟩
      · have t3 := empty_no v0
        rw [show chErr ⟨key, val, true⟩ = 3 from by unfold chErr; rw [if_pos (.inr ⟨rfl, v0⟩)]]
        clear h0 v0
        go_enter Try.func17, Try.ntmps17
        go_wp2
        go_ret
        exact ⟨rfl, (Below.refl _ _).alloc (Nat.le_refl _) _⟩
end Go.Proofs.Ytllaohobmkcmfaa
