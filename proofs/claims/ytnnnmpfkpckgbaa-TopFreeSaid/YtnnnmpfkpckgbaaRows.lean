/-
  No cell of these rows narrows 'for every input' (looked for: loops, veiled, ifaces, maps, wideKeys, modest, calm, conditions, laid).
  DERIVED. THE GIVEN ROWS OF THIS SEAT. 5 by the template 'for every input the law returns true; each argument reads behind the call as it read before'; 0 by the template 'total and deterministic' (their statements: YtnnnmpfkpckgbaaTotals.lean).
  GIVEN WITH THE SEED: the statements are not yours to turn. If you find one false, say at which input.
  Laid BY PROGRAM, IN A SANDBOX (cutbox-rows.mjs): the forced cells as the released guide's own fill.sh prints them over the translation bc10d3da92e7ea37… (all of the seat's roots in one cut). By AI agents, Wed Nov 11 2026. No macro, syntax, notation, axiom, sorry.
-/
import Derived.Test.YtnnnmpfkpckgbaaChecked
import GoSem.Claim
import GoSem.ClaimJoined
import GoSem.ClaimMapViews
import Derived.JoinedTies
import Derived.KernelRfl
namespace Go.Proofs.Ytnnnmpfkpckgbaa
/- THE CELL 'sum', in the pinned program and in every row, IS THE sha256 OF THE DUMP (.gsa) THAT YtnnnmpfkpckgbaaProg.lean LOADS. Nothing in Lean hashes anything: it is a label: what it is worth is what the hold of that sum in a sandbox is worth. -/
noncomputable def Try.pinned : Pinned := { name := "ytnnnmpfkpckgbaa", sum := "bc10d3da92e7ea37258f0729e26ecdca89c9e82788e6a1641ce3db29a738a886", checked := Try.checked }
namespace Rows
def none {H : Type} : Left H := { results := [], args := [] }

/-- 'counterfoiltop.TopSet': WHATEVER THE INPUT: true; the input reads as it did. -/
def topSetSpec : ChangeSpec := { name := "topSet", fn := fun _ => fun
  | [d1, d2, d3, d4] => { results := [.lit (.bool true)], args := [d1, d2, d3, d4] }
  | _ => none }
def topSetRow : OpenClaim := { program := "ytnnnmpfkpckgbaa", sum := "bc10d3da92e7ea37258f0729e26ecdca89c9e82788e6a1641ce3db29a738a886", func := "counterfoil/counterfoiltop.TopSet", spec := "topSet", unfollowed := true, recurses := true, apart := false }
def TopSetSaid : Prop := topSetRow.holds Try.pinned (OpenSpec.ofChange topSetSpec)

/-- ITS FALSE NEIGHBOUR: 'it returns false'. Refute it at one input. -/
def topSetWrong : ChangeSpec := { name := "topSet", fn := fun _ => fun
  | [d1, d2, d3, d4] => { results := [.lit (.bool false)], args := [d1, d2, d3, d4] }
  | _ => none }
def TopSetWrongFalsely : Prop := topSetRow.holds Try.pinned (OpenSpec.ofChange topSetWrong)

/-- 'counterfoiltop.TopDiff': WHATEVER THE INPUT: true; the input reads as it did. -/
def topDiffSpec : ChangeSpec := { name := "topDiff", fn := fun _ => fun
  | [d1, d2, d3] => { results := [.lit (.bool true)], args := [d1, d2, d3] }
  | _ => none }
def topDiffRow : OpenClaim := { program := "ytnnnmpfkpckgbaa", sum := "bc10d3da92e7ea37258f0729e26ecdca89c9e82788e6a1641ce3db29a738a886", func := "counterfoil/counterfoiltop.TopDiff", spec := "topDiff", unfollowed := true, recurses := true, apart := false }
def TopDiffSaid : Prop := topDiffRow.holds Try.pinned (OpenSpec.ofChange topDiffSpec)

/-- ITS FALSE NEIGHBOUR: 'it returns false'. Refute it at one input. -/
def topDiffWrong : ChangeSpec := { name := "topDiff", fn := fun _ => fun
  | [d1, d2, d3] => { results := [.lit (.bool false)], args := [d1, d2, d3] }
  | _ => none }
def TopDiffWrongFalsely : Prop := topDiffRow.holds Try.pinned (OpenSpec.ofChange topDiffWrong)

/-- 'counterfoiltop.TopFree': WHATEVER THE INPUT: true; the input reads as it did. -/
def topFreeSpec : ChangeSpec := { name := "topFree", fn := fun _ => fun
  | [d1, d2] => { results := [.lit (.bool true)], args := [d1, d2] }
  | _ => none }
def topFreeRow : OpenClaim := { program := "ytnnnmpfkpckgbaa", sum := "bc10d3da92e7ea37258f0729e26ecdca89c9e82788e6a1641ce3db29a738a886", func := "counterfoil/counterfoiltop.TopFree", spec := "topFree", unfollowed := true, recurses := true, apart := false }
def TopFreeSaid : Prop := topFreeRow.holds Try.pinned (OpenSpec.ofChange topFreeSpec)

/-- ITS FALSE NEIGHBOUR: 'it returns false'. Refute it at one input. -/
def topFreeWrong : ChangeSpec := { name := "topFree", fn := fun _ => fun
  | [d1, d2] => { results := [.lit (.bool false)], args := [d1, d2] }
  | _ => none }
def TopFreeWrongFalsely : Prop := topFreeRow.holds Try.pinned (OpenSpec.ofChange topFreeWrong)

/-- 'counterfoiltop.TopStays': WHATEVER THE INPUT: true; the input reads as it did. -/
def topStaysSpec : ChangeSpec := { name := "topStays", fn := fun _ => fun
  | [d1, d2, d3] => { results := [.lit (.bool true)], args := [d1, d2, d3] }
  | _ => none }
def topStaysRow : OpenClaim := { program := "ytnnnmpfkpckgbaa", sum := "bc10d3da92e7ea37258f0729e26ecdca89c9e82788e6a1641ce3db29a738a886", func := "counterfoil/counterfoiltop.TopStays", spec := "topStays", inPlace := ["maps.clone"], unfollowed := true, recurses := true, apart := false }
def TopStaysSaid : Prop := topStaysRow.holds Try.pinned (OpenSpec.ofChange topStaysSpec)

/-- ITS FALSE NEIGHBOUR: 'it returns false'. Refute it at one input. -/
def topStaysWrong : ChangeSpec := { name := "topStays", fn := fun _ => fun
  | [d1, d2, d3] => { results := [.lit (.bool false)], args := [d1, d2, d3] }
  | _ => none }
def TopStaysWrongFalsely : Prop := topStaysRow.holds Try.pinned (OpenSpec.ofChange topStaysWrong)

/-- 'counterfoiltop.TopIngest': WHATEVER THE INPUT: true; the input reads as it did. -/
def topIngestSpec : ChangeSpec := { name := "topIngest", fn := fun _ => fun
  | [d1, d2, d3, d4, d5] => { results := [.lit (.bool true)], args := [d1, d2, d3, d4, d5] }
  | _ => none }
def topIngestRow : OpenClaim := { program := "ytnnnmpfkpckgbaa", sum := "bc10d3da92e7ea37258f0729e26ecdca89c9e82788e6a1641ce3db29a738a886", func := "counterfoil/counterfoiltop.TopIngest", spec := "topIngest", inPlace := ["maps.clone"], unfollowed := true, recurses := true, apart := false }
def TopIngestSaid : Prop := topIngestRow.holds Try.pinned (OpenSpec.ofChange topIngestSpec)

/-- ITS FALSE NEIGHBOUR: 'it returns false'. Refute it at one input. -/
def topIngestWrong : ChangeSpec := { name := "topIngest", fn := fun _ => fun
  | [d1, d2, d3, d4, d5] => { results := [.lit (.bool false)], args := [d1, d2, d3, d4, d5] }
  | _ => none }
def TopIngestWrongFalsely : Prop := topIngestRow.holds Try.pinned (OpenSpec.ofChange topIngestWrong)

/- THE SECOND FORM. 'bulk': how many values and letters a reading holds, each counted each time it is reached (what is shared counts as often as it is met; a slice's spare places count too). A statement '..UptoSaid' is the law's where the arguments, and the package variables that the reading takes, are together of bulk at most 1048576: NARROWER than '..Said'. Prove '..Said' where nothing that the law and all that it calls make is longer than what came in: it says more and counts as full. Else prove '..UptoSaid'. A law counts once. -/
mutual
def uptoBulk {H : Type} : DataW H → Nat
  | .lit (.string bytes) => bytes.length + 1
  | .lit _ => 1
  | .nil => 1
  | .ptr d => uptoBulk d + 1
  | .slice elems spare => uptoBulkAll elems + uptoBulkAll spare + 1
  | .agg parts => uptoBulkAll parts + 1
  | .iface _ d => uptoBulk d + 1
  | .map entries => uptoBulkEntries entries + 1
  | .held _ => 1
def uptoBulkAll {H : Type} : List (DataW H) → Nat
  | [] => 0
  | d :: r => uptoBulk d + uptoBulkAll r
def uptoBulkEntries {H : Type} : List (Lit × DataW H) → Nat
  | [] => 0
  | x :: r => uptoBulkEntry x + uptoBulkEntries r
def uptoBulkEntry {H : Type} : Lit × DataW H → Nat
  | (.string bytes, d) => bytes.length + uptoBulk d + 1
  | (_, d) => uptoBulk d + 1
 end
def uptoSmall : (H : Type) → List (DataW H) → Bool := fun _ ds => decide (uptoBulkAll ds ≤ 1048576)
def OpenSpec.upto (s : _root_.Go.ChangeSpec) : _root_.Go.OpenSpec := { _root_.Go.OpenSpec.ofChange s with cond := some uptoSmall }

/-- 'counterfoiltop.TopSet', WHERE WHAT IT READS IS OF BULK AT MOST 1048576: true; the input reads as it did. -/
def topSetUptoRow : OpenClaim := { program := "ytnnnmpfkpckgbaa", sum := "bc10d3da92e7ea37258f0729e26ecdca89c9e82788e6a1641ce3db29a738a886", func := "counterfoil/counterfoiltop.TopSet", spec := "topSet", unfollowed := true, recurses := true, apart := false, narrowed := true }
def TopSetUptoSaid : Prop := topSetUptoRow.holds Try.pinned (OpenSpec.upto topSetSpec)

/-- 'counterfoiltop.TopDiff', WHERE WHAT IT READS IS OF BULK AT MOST 1048576: true; the input reads as it did. -/
def topDiffUptoRow : OpenClaim := { program := "ytnnnmpfkpckgbaa", sum := "bc10d3da92e7ea37258f0729e26ecdca89c9e82788e6a1641ce3db29a738a886", func := "counterfoil/counterfoiltop.TopDiff", spec := "topDiff", unfollowed := true, recurses := true, apart := false, narrowed := true }
def TopDiffUptoSaid : Prop := topDiffUptoRow.holds Try.pinned (OpenSpec.upto topDiffSpec)

/-- 'counterfoiltop.TopFree', WHERE WHAT IT READS IS OF BULK AT MOST 1048576: true; the input reads as it did. -/
def topFreeUptoRow : OpenClaim := { program := "ytnnnmpfkpckgbaa", sum := "bc10d3da92e7ea37258f0729e26ecdca89c9e82788e6a1641ce3db29a738a886", func := "counterfoil/counterfoiltop.TopFree", spec := "topFree", unfollowed := true, recurses := true, apart := false, narrowed := true }
def TopFreeUptoSaid : Prop := topFreeUptoRow.holds Try.pinned (OpenSpec.upto topFreeSpec)

/-- 'counterfoiltop.TopStays', WHERE WHAT IT READS IS OF BULK AT MOST 1048576: true; the input reads as it did. -/
def topStaysUptoRow : OpenClaim := { program := "ytnnnmpfkpckgbaa", sum := "bc10d3da92e7ea37258f0729e26ecdca89c9e82788e6a1641ce3db29a738a886", func := "counterfoil/counterfoiltop.TopStays", spec := "topStays", inPlace := ["maps.clone"], unfollowed := true, recurses := true, apart := false, narrowed := true }
def TopStaysUptoSaid : Prop := topStaysUptoRow.holds Try.pinned (OpenSpec.upto topStaysSpec)

/-- 'counterfoiltop.TopIngest', WHERE WHAT IT READS IS OF BULK AT MOST 1048576: true; the input reads as it did. -/
def topIngestUptoRow : OpenClaim := { program := "ytnnnmpfkpckgbaa", sum := "bc10d3da92e7ea37258f0729e26ecdca89c9e82788e6a1641ce3db29a738a886", func := "counterfoil/counterfoiltop.TopIngest", spec := "topIngest", inPlace := ["maps.clone"], unfollowed := true, recurses := true, apart := false, narrowed := true }
def TopIngestUptoSaid : Prop := topIngestUptoRow.holds Try.pinned (OpenSpec.upto topIngestSpec)

end Rows
end Go.Proofs.Ytnnnmpfkpckgbaa
