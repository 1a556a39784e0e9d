/- RowSays: LightChanges, rows. -/
import Derived.Test.YtimbdomkpdmehaaRs1
import Derived.Test.YtimbdomkpdmehaaLiC
import Derived.Test.YtimbdomkpdmehaaSaid
namespace Go.Proofs.Ytimbdomkpdmehaa
open Go.RowKit

def kx : Ch := ⟨⟨#[107]⟩, ⟨#[120]⟩, false⟩
theorem kx_err : chErr kx = 0 := by decide
theorem kx_bytes : (chBytes kx).toList = [0, 1, 107, 120] := by decide +kernel

set_option maxRecDepth 100000 in
theorem rows_any (w : World) :
    Calls Try.prog 22 #[] w fun e w' => e = .returned (.bool true) ∧ Below w.heap.size w w' := by
  have HB := fun w' => bytes_any kx w' (by decide) (by decide)
  rw [kx_err, if_pos rfl, show errV 0 = .nilIface from rfl] at HB
  have hbt := kx_bytes
  generalize chBytes kx = bs at *
  rw [show kx.key = (⟨#[107]⟩ : ByteArray) from rfl, show kx.val = (⟨#[120]⟩ : ByteArray) from rfl, show kx.gone = false from rfl] at HB
  have HB' := Lib.hid HB
  have HSD := Lib.hid said_nil
  clear HB
  go_enter Try.func22, Try.ntmps22
  go_wp2_with (first
    | ((with_reducible refine (HB'.out _).mono ?_); rintro e w1 ⟨rfl, hb1⟩)
    | ((with_reducible refine (HSD.out _).mono ?_); rintro e w2 ⟨rfl, rfl⟩))
  go_ret
  exact ⟨rfl, hb1⟩
end Go.Proofs.Ytimbdomkpdmehaa
