/- The table of powers out of the laid variables. -/
import Derived.Test.YtbmlkpgagbhblaaGreatDoorZqShelf
import Derived.LaidSub
namespace Go.Proofs.YtbmlkpgagbhblaaGreatDoor

theorem tab_of_head {W : World} (h : laidMet Tryz.prog [("internal/strconv.uint64pow10", Lib.tabData .u64 Lib.pow10Tab)] W) : Tab W :=
  Lib.tabIs_of_head (g := 0) (t := 152) (e := 59) (n := 20) (by kernel_rfl) (by kernel_rfl) (by kernel_rfl) (by kernel_rfl) (by kernel_rfl) (by kernel_rfl) h
theorem tab_of_laid {W : World} {l : List (String × DataW Unit)} (h : laidMetH Tryz.prog l W) (e : l.filter (fun x => x.1 == "internal/strconv.uint64pow10") = [("internal/strconv.uint64pow10", Lib.tabData .u64 Lib.pow10Tab)]) : Tab W := by
  have h1 := h.filter (fun x => x.1 == "internal/strconv.uint64pow10")
  rw [e] at h1
  exact tab_of_head h1
end Go.Proofs.YtbmlkpgagbhblaaGreatDoor
