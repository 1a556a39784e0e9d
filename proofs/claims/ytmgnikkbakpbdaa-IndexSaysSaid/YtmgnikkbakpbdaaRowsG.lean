/- Rows of numbers: one added, one taken out; append as a step of a region that draws its order. -/
import Derived.Test.YtmgnikkbakpbdaaRefW
import Derived.Test.YtmgnikkbakpbdaaLight
import Derived.Test.YtmgnikkbakpbdaaApO
namespace Go.Proofs.Ytmgnikkbakpbdaa
open Go.RowKit Go.Maps

theorem rowPart {w : World} {base gr n c : Nat} {L : List Int} (h : OwnInts w base (.slice (some ⟨gr, 0, none⟩) n c) L) (hn : L.length = n) (off m : Nat) (hoff : off + m ≤ n) {w' : World} (hw : w'.heap[gr]? = w.heap[gr]?) :
    ∀ j u, (((L.drop off).take m).map (Value.int .i64))[j]? = some u → w'.cell? ((⟨gr, off, none⟩ : Addr).add j) = some u := by
  intro j u hu
  subst hn
  have h' : w.ownsRow base 3 1 (.slice (some ⟨gr, 0, none⟩) L.length c) L.length (L.map (Value.int .i64)) := h
  rw [List.getElem?_map, List.getElem?_take] at hu
  split at hu
  · rw [List.getElem?_drop] at hu
    rw [add_lit', World.cell?_of_block (w := w) (a := ⟨gr, off + j, none⟩) hw, h'.cellAt _ (by omega), List.getElem?_map]
    exact hu
  · cases hu
theorem rowShape {w : World} {base : Nat} {v : Value} {L : List Int} (h : OwnInts w base v L) (hne : L ≠ []) : ∃ gr c, v = .slice (some ⟨gr, 0, none⟩) L.length c ∧ L.length ≤ c ∧ c ≤ maxLen ∧ base ≤ gr ∧ gr < w.heap.size := by
  rcases h.2 with ⟨_, h0⟩ | ⟨g, cap, cur, rfl, hb, hg, h1, h2, _⟩
  · exact absurd (List.length_eq_zero_iff.1 h0) hne
  · exact ⟨g, cap, rfl, h1, h2, hb, (Array.getElem?_eq_some_iff.1 hg).1⟩
theorem ownOf {w : World} {base n : Nat} {v : Value} {xs : List Value} (L : List Int) (h : w.ownsRow base 3 1 v n xs) (hx : xs = L.map (Value.int .i64)) (hn : n = L.length) : OwnInts w base v L := by
  subst hx hn; exact h
theorem partsOf (RL : List Nat) (n q : Nat) (hn : RL.length = n) (hq : q < n) : ([] ++ (((numsR RL).drop 0).take q).map (Value.int .i64)) ++ (((numsR RL).drop (q + 1)).take (n - (q + 1))).map (Value.int .i64) = (numsR (RL.take q ++ RL.drop (q + 1))).map (Value.int .i64) ∧ 0 + q + (n - (q + 1)) = (numsR (RL.take q ++ RL.drop (q + 1))).length := by
  refine ⟨?_, ?_⟩
  · rw [List.take_of_length_le (l := (numsR RL).drop (q + 1)) (by simp [numsR_len, hn])]
    simp [numsR, List.map_take, List.map_drop]
  · rw [numsR_len]; simp; omega
theorem intsCells (L : List Int) : ∀ u ∈ L.map (Value.int .i64), u.oneCell' = true := by
  intro u hu
  obtain ⟨x, _, rfl⟩ := List.mem_map.1 hu
  rfl

theorem andBits (x : Int) : 0 ≤ bits .and .i64 x 1023 ∧ bits .and .i64 x 1023 ≤ 1023 := by
  have h : (BitVec.ofInt 64 x &&& BitVec.ofInt 64 1023).toNat ≤ 1023 := by
    rw [BitVec.toNat_and]
    exact Nat.and_le_right
  have e : bits .and .i64 x 1023 = IntKind.i64.wrap ((BitVec.ofInt 64 x &&& BitVec.ofInt 64 1023).toNat : Int) := rfl
  rw [e, IntWalk.i64_in _ (by omega)]
  omega

theorem ownInts_unit (w : World) (base : Nat) (hb : base ≤ w.heap.size) (x : Int) : OwnInts (w.alloc (.cells #[.int .i64 x] 3)) base (.slice (some ⟨w.heap.size, 0, none⟩) 1 1) [x] := by
  refine ⟨rfl, .inr ⟨w.heap.size, 1, #[.int .i64 x], rfl, hb, heap_alloc_new w _, Nat.le_refl _, by unfold maxLen; omega, rfl, rfl⟩⟩

end Go.Proofs.Ytmgnikkbakpbdaa
