/- A small vault: closed facts. -/
import Derived.Test.YtnnnmpfkpckgbaaVau4
namespace Go.Proofs.Ytnnnmpfkpckgbaa
open Go.RowKit Go.Maps

def vtPuts : List (Int × ByteArray) := [(2, ⟨#[120]⟩)]
def vtV : VauM := ingestV emptyVau 0 1 4 vtPuts
theorem vt_err : ingestErr emptyVau 0 1 4 vtPuts = 0 := by decide +kernel
theorem vt_ok : vtV.Ok := (ingest_good vau_empty vt_err).1
theorem vt_read : readText vtV 1 2 = ⟨#[120]⟩ := by decide +kernel
theorem vt_rerr : readErr vtV 1 2 = 0 := by decide +kernel
end Go.Proofs.Ytnnnmpfkpckgbaa
