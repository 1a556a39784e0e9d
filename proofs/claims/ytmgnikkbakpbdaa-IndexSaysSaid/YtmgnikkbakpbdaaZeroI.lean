/- The reference's empty index. -/
import Derived.Test.YtmgnikkbakpbdaaRefQ
namespace Go.Proofs.Ytmgnikkbakpbdaa
open Go.RowKit Go.Maps

theorem zeroIdx_cells : Try.zeroCells36.toList.take 82 = (List.replicate 41 [Value.string ByteArray.empty, Value.int .i64 0]).flatten := by kernel_rfl
theorem zeroIdx_at (i : Nat) (hi : i < 82) : Try.zeroCells36[i]? = if i % 2 = 0 then some (.string ByteArray.empty) else some (.int .i64 0) := by
  have h1 : Try.zeroCells36[i]? = (Try.zeroCells36.toList.take 82)[i]? := by
    rw [List.getElem?_take_of_lt hi, Array.getElem?_toList]
  rw [h1, zeroIdx_cells]
  have : ∀ (k i : Nat), i < k * 2 → ((List.replicate k [Value.string ByteArray.empty, Value.int .i64 0]).flatten)[i]? = if i % 2 = 0 then some (.string ByteArray.empty) else some (.int .i64 0) := by
    intro k
    induction k with
    | zero => intro i hi; omega
    | succ k ih =>
      intro i hi
      rw [List.replicate_succ, List.flatten_cons]
      match i with
      | 0 => rfl
      | 1 => rfl
      | i + 2 =>
        have := ih i (by omega)
        rw [show (i + 2) % 2 = i % 2 by omega, ← this]
        rfl
  exact this 41 i (by omega)
theorem blks_new (w : World) : BlksAt (w.alloc (.cells Try.zeroCells36 36)) w.heap.size emptyPool := by
  refine ⟨fun n hn => ?_, fun n hn => ?_, fun i => World.frozen?_alloc_at _ _ _ _ rfl⟩
  · rw [World.cell?_alloc_at _ _ _ _ rfl, zeroIdx_at _ (by omega), if_pos (by omega)]; rfl
  · rw [World.cell?_alloc_at _ _ _ _ rfl, zeroIdx_at _ (by omega), if_neg (by omega)]; rfl
end Go.Proofs.Ytmgnikkbakpbdaa
