/-
  No cell of these rows narrows 'for every input' (looked for: loops, veiled, ifaces, maps, wideKeys, modest, calm, conditions, laid).
  DERIVED. THE GIVEN ROWS OF THIS SEAT. 4 by the template 'for every input the law returns true; each argument reads behind the call as it read before'; 0 by the template 'total and deterministic' (their statements: YtmcoenndfbgdfaaTotals.lean).
  GIVEN WITH THE SEED: the statements are not yours to turn. If you find one false, say at which input.
  Laid BY PROGRAM, IN A SANDBOX (cutbox-rows.mjs): the forced cells as the released guide's own fill.sh prints them over the translation c27b3cc7163b5b37… (all of the seat's roots in one cut). By AI agents, Wed Nov 11 2026. No macro, syntax, notation, axiom, sorry.
-/
import Derived.Test.YtmcoenndfbgdfaaChecked
import GoSem.Claim
import GoSem.ClaimJoined
import GoSem.ClaimMapViews
import Derived.JoinedTies
import Derived.KernelRfl
namespace Go.Proofs.Ytmcoenndfbgdfaa
/- THE CELL 'sum', in the pinned program and in every row, IS THE sha256 OF THE DUMP (.gsa) THAT YtmcoenndfbgdfaaProg.lean LOADS. Nothing in Lean hashes anything: it is a label: what it is worth is what the hold of that sum in a sandbox is worth. -/
noncomputable def Try.pinned : Pinned := { name := "ytmcoenndfbgdfaa", sum := "c27b3cc7163b5b378173a7161b3a6c409be2e7525c9f0146cae82bae2b2d6f68", checked := Try.checked }
namespace Rows
def none {H : Type} : Left H := { results := [], args := [] }

/-- 'counterfoillaw.AreaSays': WHATEVER THE INPUT: true; the input reads as it did. -/
def areaSaysSpec : ChangeSpec := { name := "areaSays", fn := fun _ => fun
  | [d1, d2, d3, d4] => { results := [.lit (.bool true)], args := [d1, d2, d3, d4] }
  | _ => none }
def areaSaysRow : OpenClaim := { program := "ytmcoenndfbgdfaa", sum := "c27b3cc7163b5b378173a7161b3a6c409be2e7525c9f0146cae82bae2b2d6f68", func := "counterfoil/counterfoillaw.AreaSays", spec := "areaSays", apart := false }
def AreaSaysSaid : Prop := areaSaysRow.holds Try.pinned (OpenSpec.ofChange areaSaysSpec)

/-- ITS FALSE NEIGHBOUR: 'it returns false'. Refute it at one input. -/
def areaSaysWrong : ChangeSpec := { name := "areaSays", fn := fun _ => fun
  | [d1, d2, d3, d4] => { results := [.lit (.bool false)], args := [d1, d2, d3, d4] }
  | _ => none }
def AreaSaysWrongFalsely : Prop := areaSaysRow.holds Try.pinned (OpenSpec.ofChange areaSaysWrong)

/-- 'counterfoillaw.VdiskSays': WHATEVER THE INPUT: true; the input reads as it did. -/
def vdiskSaysSpec : ChangeSpec := { name := "vdiskSays", fn := fun _ => fun
  | [d1, d2] => { results := [.lit (.bool true)], args := [d1, d2] }
  | _ => none }
def vdiskSaysRow : OpenClaim := { program := "ytmcoenndfbgdfaa", sum := "c27b3cc7163b5b378173a7161b3a6c409be2e7525c9f0146cae82bae2b2d6f68", func := "counterfoil/counterfoillaw.VdiskSays", spec := "vdiskSays", unfollowed := true, recurses := true, apart := false }
def VdiskSaysSaid : Prop := vdiskSaysRow.holds Try.pinned (OpenSpec.ofChange vdiskSaysSpec)

/-- ITS FALSE NEIGHBOUR: 'it returns false'. Refute it at one input. -/
def vdiskSaysWrong : ChangeSpec := { name := "vdiskSays", fn := fun _ => fun
  | [d1, d2] => { results := [.lit (.bool false)], args := [d1, d2] }
  | _ => none }
def VdiskSaysWrongFalsely : Prop := vdiskSaysRow.holds Try.pinned (OpenSpec.ofChange vdiskSaysWrong)

/-- 'counterfoiltop.TopArea': WHATEVER THE INPUT: true; the input reads as it did. -/
def topAreaSpec : ChangeSpec := { name := "topArea", fn := fun _ => fun
  | [d1, d2, d3, d4, d5] => { results := [.lit (.bool true)], args := [d1, d2, d3, d4, d5] }
  | _ => none }
def topAreaRow : OpenClaim := { program := "ytmcoenndfbgdfaa", sum := "c27b3cc7163b5b378173a7161b3a6c409be2e7525c9f0146cae82bae2b2d6f68", func := "counterfoil/counterfoiltop.TopArea", spec := "topArea", apart := false }
def TopAreaSaid : Prop := topAreaRow.holds Try.pinned (OpenSpec.ofChange topAreaSpec)

/-- ITS FALSE NEIGHBOUR: 'it returns false'. Refute it at one input. -/
def topAreaWrong : ChangeSpec := { name := "topArea", fn := fun _ => fun
  | [d1, d2, d3, d4, d5] => { results := [.lit (.bool false)], args := [d1, d2, d3, d4, d5] }
  | _ => none }
def TopAreaWrongFalsely : Prop := topAreaRow.holds Try.pinned (OpenSpec.ofChange topAreaWrong)

/-- 'counterfoiltop.TopCover': WHATEVER THE INPUT: true; the input reads as it did. -/
def topCoverSpec : ChangeSpec := { name := "topCover", fn := fun _ => fun
  | [d1, d2, d3, d4] => { results := [.lit (.bool true)], args := [d1, d2, d3, d4] }
  | _ => none }
def topCoverRow : OpenClaim := { program := "ytmcoenndfbgdfaa", sum := "c27b3cc7163b5b378173a7161b3a6c409be2e7525c9f0146cae82bae2b2d6f68", func := "counterfoil/counterfoiltop.TopCover", spec := "topCover", unfollowed := true, recurses := true, apart := false }
def TopCoverSaid : Prop := topCoverRow.holds Try.pinned (OpenSpec.ofChange topCoverSpec)

/-- ITS FALSE NEIGHBOUR: 'it returns false'. Refute it at one input. -/
def topCoverWrong : ChangeSpec := { name := "topCover", fn := fun _ => fun
  | [d1, d2, d3, d4] => { results := [.lit (.bool false)], args := [d1, d2, d3, d4] }
  | _ => none }
def TopCoverWrongFalsely : Prop := topCoverRow.holds Try.pinned (OpenSpec.ofChange topCoverWrong)

/- THE SECOND FORM. 'bulk': how many values and letters a reading holds, each counted each time it is reached (what is shared counts as often as it is met; a slice's spare places count too). A statement '..UptoSaid' is the law's where the arguments, and the package variables that the reading takes, are together of bulk at most 1048576: NARROWER than '..Said'. Prove '..Said' where nothing that the law and all that it calls make is longer than what came in: it says more and counts as full. Else prove '..UptoSaid'. A law counts once. -/
mutual
def uptoBulk {H : Type} : DataW H → Nat
  | .lit (.string bytes) => bytes.length + 1
  | .lit _ => 1
  | .nil => 1
  | .ptr d => uptoBulk d + 1
  | .slice elems spare => uptoBulkAll elems + uptoBulkAll spare + 1
  | .agg parts => uptoBulkAll parts + 1
  | .iface _ d => uptoBulk d + 1
  | .map entries => uptoBulkEntries entries + 1
  | .held _ => 1
def uptoBulkAll {H : Type} : List (DataW H) → Nat
  | [] => 0
  | d :: r => uptoBulk d + uptoBulkAll r
def uptoBulkEntries {H : Type} : List (Lit × DataW H) → Nat
  | [] => 0
  | x :: r => uptoBulkEntry x + uptoBulkEntries r
def uptoBulkEntry {H : Type} : Lit × DataW H → Nat
  | (.string bytes, d) => bytes.length + uptoBulk d + 1
  | (_, d) => uptoBulk d + 1
 end
def uptoSmall : (H : Type) → List (DataW H) → Bool := fun _ ds => decide (uptoBulkAll ds ≤ 1048576)
def OpenSpec.upto (s : _root_.Go.ChangeSpec) : _root_.Go.OpenSpec := { _root_.Go.OpenSpec.ofChange s with cond := some uptoSmall }

/-- 'counterfoillaw.AreaSays', WHERE WHAT IT READS IS OF BULK AT MOST 1048576: true; the input reads as it did. -/
def areaSaysUptoRow : OpenClaim := { program := "ytmcoenndfbgdfaa", sum := "c27b3cc7163b5b378173a7161b3a6c409be2e7525c9f0146cae82bae2b2d6f68", func := "counterfoil/counterfoillaw.AreaSays", spec := "areaSays", apart := false, narrowed := true }
def AreaSaysUptoSaid : Prop := areaSaysUptoRow.holds Try.pinned (OpenSpec.upto areaSaysSpec)

/-- 'counterfoillaw.VdiskSays', WHERE WHAT IT READS IS OF BULK AT MOST 1048576: true; the input reads as it did. -/
def vdiskSaysUptoRow : OpenClaim := { program := "ytmcoenndfbgdfaa", sum := "c27b3cc7163b5b378173a7161b3a6c409be2e7525c9f0146cae82bae2b2d6f68", func := "counterfoil/counterfoillaw.VdiskSays", spec := "vdiskSays", unfollowed := true, recurses := true, apart := false, narrowed := true }
def VdiskSaysUptoSaid : Prop := vdiskSaysUptoRow.holds Try.pinned (OpenSpec.upto vdiskSaysSpec)

/-- 'counterfoiltop.TopArea', WHERE WHAT IT READS IS OF BULK AT MOST 1048576: true; the input reads as it did. -/
def topAreaUptoRow : OpenClaim := { program := "ytmcoenndfbgdfaa", sum := "c27b3cc7163b5b378173a7161b3a6c409be2e7525c9f0146cae82bae2b2d6f68", func := "counterfoil/counterfoiltop.TopArea", spec := "topArea", apart := false, narrowed := true }
def TopAreaUptoSaid : Prop := topAreaUptoRow.holds Try.pinned (OpenSpec.upto topAreaSpec)

/-- 'counterfoiltop.TopCover', WHERE WHAT IT READS IS OF BULK AT MOST 1048576: true; the input reads as it did. -/
def topCoverUptoRow : OpenClaim := { program := "ytmcoenndfbgdfaa", sum := "c27b3cc7163b5b378173a7161b3a6c409be2e7525c9f0146cae82bae2b2d6f68", func := "counterfoil/counterfoiltop.TopCover", spec := "topCover", unfollowed := true, recurses := true, apart := false, narrowed := true }
def TopCoverUptoSaid : Prop := topCoverUptoRow.holds Try.pinned (OpenSpec.upto topCoverSpec)

end Rows
end Go.Proofs.Ytmcoenndfbgdfaa
