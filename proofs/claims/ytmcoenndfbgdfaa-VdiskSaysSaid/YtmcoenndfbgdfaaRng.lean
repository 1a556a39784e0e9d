/- A range of cells of a block. -/
import Derived.Test.YtmcoenndfbgdfaaLaws
import Derived.Deep.MidRow
namespace Go.Proofs.Ytmcoenndfbgdfaa
open Go.RowKit

theorem range_of_row {w : World} {g o : Nat} {cs : List Value} {cur : Array Value} {t : TypeId} {fr : Nat × Nat} (hg : w.heap[g]? = some (.cells cur t fr)) (h : ∀ j v, cs[j]? = some v → cur[o + j]? = some v) : w.rangeAt g o cs := fun j v hj => by
  rw [cell_of_row w g _ cur t fr hg]; exact h j v hj
end Go.Proofs.Ytmcoenndfbgdfaa
