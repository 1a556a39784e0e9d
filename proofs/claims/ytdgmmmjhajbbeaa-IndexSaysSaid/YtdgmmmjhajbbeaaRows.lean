/-
  No cell of these rows narrows 'for every input' (looked for: loops, veiled, ifaces, maps, wideKeys, modest, calm, conditions, laid).
  DERIVED. THE GIVEN ROWS OF THIS SEAT. 11 by the template 'for every input the law returns true; each argument reads behind the call as it read before'; 0 by the template 'total and deterministic' (their statements: YtdgmmmjhajbbeaaTotals.lean).
  GIVEN WITH THE SEED: the statements are not yours to turn. If you find one false, say at which input.
  Laid BY PROGRAM, IN A SANDBOX (cutbox-rows.mjs): the forced cells as the released guide's own fill.sh prints them over the translation 5d30d4a9bbd5b53e… (all of the seat's roots in one cut). By AI agents, Wed Nov 11 2026. No macro, syntax, notation, axiom, sorry.
-/
import Derived.Test.YtdgmmmjhajbbeaaChecked
import GoSem.Claim
import GoSem.ClaimJoined
import GoSem.ClaimMapViews
import Derived.JoinedTies
import Derived.KernelRfl
namespace Go.Proofs.Ytdgmmmjhajbbeaa
/- THE CELL 'sum', in the pinned program and in every row, IS THE sha256 OF THE DUMP (.gsa) THAT YtdgmmmjhajbbeaaProg.lean LOADS. Nothing in Lean hashes anything: it is a label: what it is worth is what the hold of that sum in a sandbox is worth. -/
noncomputable def Try.pinned : Pinned := { name := "ytdgmmmjhajbbeaa", sum := "5d30d4a9bbd5b53ebddfe7ad15ab4cb9c2271d592ddabb5f6e3ed0b7aada1d31", checked := Try.checked }
namespace Rows
def none {H : Type} : Left H := { results := [], args := [] }

/-- 'counterfoillaw.AreaSays': WHATEVER THE INPUT: true; the input reads as it did. -/
def areaSaysSpec : ChangeSpec := { name := "areaSays", fn := fun _ => fun
  | [d1, d2, d3, d4] => { results := [.lit (.bool true)], args := [d1, d2, d3, d4] }
  | _ => none }
def areaSaysRow : OpenClaim := { program := "ytdgmmmjhajbbeaa", sum := "5d30d4a9bbd5b53ebddfe7ad15ab4cb9c2271d592ddabb5f6e3ed0b7aada1d31", func := "counterfoil/counterfoillaw.AreaSays", spec := "areaSays", apart := false }
def AreaSaysSaid : Prop := areaSaysRow.holds Try.pinned (OpenSpec.ofChange areaSaysSpec)

/-- ITS FALSE NEIGHBOUR: 'it returns false'. Refute it at one input. -/
def areaSaysWrong : ChangeSpec := { name := "areaSays", fn := fun _ => fun
  | [d1, d2, d3, d4] => { results := [.lit (.bool false)], args := [d1, d2, d3, d4] }
  | _ => none }
def AreaSaysWrongFalsely : Prop := areaSaysRow.holds Try.pinned (OpenSpec.ofChange areaSaysWrong)

/-- 'counterfoillaw.VdiskSays': WHATEVER THE INPUT: true; the input reads as it did. -/
def vdiskSaysSpec : ChangeSpec := { name := "vdiskSays", fn := fun _ => fun
  | [d1, d2] => { results := [.lit (.bool true)], args := [d1, d2] }
  | _ => none }
def vdiskSaysRow : OpenClaim := { program := "ytdgmmmjhajbbeaa", sum := "5d30d4a9bbd5b53ebddfe7ad15ab4cb9c2271d592ddabb5f6e3ed0b7aada1d31", func := "counterfoil/counterfoillaw.VdiskSays", spec := "vdiskSays", unfollowed := true, recurses := true, apart := false }
def VdiskSaysSaid : Prop := vdiskSaysRow.holds Try.pinned (OpenSpec.ofChange vdiskSaysSpec)

/-- ITS FALSE NEIGHBOUR: 'it returns false'. Refute it at one input. -/
def vdiskSaysWrong : ChangeSpec := { name := "vdiskSays", fn := fun _ => fun
  | [d1, d2] => { results := [.lit (.bool false)], args := [d1, d2] }
  | _ => none }
def VdiskSaysWrongFalsely : Prop := vdiskSaysRow.holds Try.pinned (OpenSpec.ofChange vdiskSaysWrong)

/-- 'counterfoiltop.TopArea': WHATEVER THE INPUT: true; the input reads as it did. -/
def topAreaSpec : ChangeSpec := { name := "topArea", fn := fun _ => fun
  | [d1, d2, d3, d4, d5] => { results := [.lit (.bool true)], args := [d1, d2, d3, d4, d5] }
  | _ => none }
def topAreaRow : OpenClaim := { program := "ytdgmmmjhajbbeaa", sum := "5d30d4a9bbd5b53ebddfe7ad15ab4cb9c2271d592ddabb5f6e3ed0b7aada1d31", func := "counterfoil/counterfoiltop.TopArea", spec := "topArea", apart := false }
def TopAreaSaid : Prop := topAreaRow.holds Try.pinned (OpenSpec.ofChange topAreaSpec)

/-- ITS FALSE NEIGHBOUR: 'it returns false'. Refute it at one input. -/
def topAreaWrong : ChangeSpec := { name := "topArea", fn := fun _ => fun
  | [d1, d2, d3, d4, d5] => { results := [.lit (.bool false)], args := [d1, d2, d3, d4, d5] }
  | _ => none }
def TopAreaWrongFalsely : Prop := topAreaRow.holds Try.pinned (OpenSpec.ofChange topAreaWrong)

/-- 'counterfoiltop.TopPages': WHATEVER THE INPUT: true; the input reads as it did. -/
def topPagesSpec : ChangeSpec := { name := "topPages", fn := fun _ => fun
  | [d1, d2] => { results := [.lit (.bool true)], args := [d1, d2] }
  | _ => none }
def topPagesRow : OpenClaim := { program := "ytdgmmmjhajbbeaa", sum := "5d30d4a9bbd5b53ebddfe7ad15ab4cb9c2271d592ddabb5f6e3ed0b7aada1d31", func := "counterfoil/counterfoiltop.TopPages", spec := "topPages", apart := false }
def TopPagesSaid : Prop := topPagesRow.holds Try.pinned (OpenSpec.ofChange topPagesSpec)

/-- ITS FALSE NEIGHBOUR: 'it returns false'. Refute it at one input. -/
def topPagesWrong : ChangeSpec := { name := "topPages", fn := fun _ => fun
  | [d1, d2] => { results := [.lit (.bool false)], args := [d1, d2] }
  | _ => none }
def TopPagesWrongFalsely : Prop := topPagesRow.holds Try.pinned (OpenSpec.ofChange topPagesWrong)

/-- 'counterfoiltop.TopCover': WHATEVER THE INPUT: true; the input reads as it did. -/
def topCoverSpec : ChangeSpec := { name := "topCover", fn := fun _ => fun
  | [d1, d2, d3, d4] => { results := [.lit (.bool true)], args := [d1, d2, d3, d4] }
  | _ => none }
def topCoverRow : OpenClaim := { program := "ytdgmmmjhajbbeaa", sum := "5d30d4a9bbd5b53ebddfe7ad15ab4cb9c2271d592ddabb5f6e3ed0b7aada1d31", func := "counterfoil/counterfoiltop.TopCover", spec := "topCover", unfollowed := true, recurses := true, apart := false }
def TopCoverSaid : Prop := topCoverRow.holds Try.pinned (OpenSpec.ofChange topCoverSpec)

/-- ITS FALSE NEIGHBOUR: 'it returns false'. Refute it at one input. -/
def topCoverWrong : ChangeSpec := { name := "topCover", fn := fun _ => fun
  | [d1, d2, d3, d4] => { results := [.lit (.bool false)], args := [d1, d2, d3, d4] }
  | _ => none }
def TopCoverWrongFalsely : Prop := topCoverRow.holds Try.pinned (OpenSpec.ofChange topCoverWrong)

/-- 'counterfoiltop.TopTouched': WHATEVER THE INPUT: true; the input reads as it did. -/
def topTouchedSpec : ChangeSpec := { name := "topTouched", fn := fun _ => fun
  | [d1, d2, d3] => { results := [.lit (.bool true)], args := [d1, d2, d3] }
  | _ => none }
def topTouchedRow : OpenClaim := { program := "ytdgmmmjhajbbeaa", sum := "5d30d4a9bbd5b53ebddfe7ad15ab4cb9c2271d592ddabb5f6e3ed0b7aada1d31", func := "counterfoil/counterfoiltop.TopTouched", spec := "topTouched", unfollowed := true, recurses := true, apart := false }
def TopTouchedSaid : Prop := topTouchedRow.holds Try.pinned (OpenSpec.ofChange topTouchedSpec)

/-- ITS FALSE NEIGHBOUR: 'it returns false'. Refute it at one input. -/
def topTouchedWrong : ChangeSpec := { name := "topTouched", fn := fun _ => fun
  | [d1, d2, d3] => { results := [.lit (.bool false)], args := [d1, d2, d3] }
  | _ => none }
def TopTouchedWrongFalsely : Prop := topTouchedRow.holds Try.pinned (OpenSpec.ofChange topTouchedWrong)

/-- 'counterfoiltop.TopFold': WHATEVER THE INPUT: true; the input reads as it did. -/
def topFoldSpec : ChangeSpec := { name := "topFold", fn := fun _ => fun
  | [d1, d2, d3, d4, d5] => { results := [.lit (.bool true)], args := [d1, d2, d3, d4, d5] }
  | _ => none }
def topFoldRow : OpenClaim := { program := "ytdgmmmjhajbbeaa", sum := "5d30d4a9bbd5b53ebddfe7ad15ab4cb9c2271d592ddabb5f6e3ed0b7aada1d31", func := "counterfoil/counterfoiltop.TopFold", spec := "topFold", unfollowed := true, recurses := true, apart := false }
def TopFoldSaid : Prop := topFoldRow.holds Try.pinned (OpenSpec.ofChange topFoldSpec)

/-- ITS FALSE NEIGHBOUR: 'it returns false'. Refute it at one input. -/
def topFoldWrong : ChangeSpec := { name := "topFold", fn := fun _ => fun
  | [d1, d2, d3, d4, d5] => { results := [.lit (.bool false)], args := [d1, d2, d3, d4, d5] }
  | _ => none }
def TopFoldWrongFalsely : Prop := topFoldRow.holds Try.pinned (OpenSpec.ofChange topFoldWrong)

/-- 'counterfoiltop.TopStale': WHATEVER THE INPUT: true; the input reads as it did. -/
def topStaleSpec : ChangeSpec := { name := "topStale", fn := fun _ => fun
  | [d1, d2, d3, d4] => { results := [.lit (.bool true)], args := [d1, d2, d3, d4] }
  | _ => none }
def topStaleRow : OpenClaim := { program := "ytdgmmmjhajbbeaa", sum := "5d30d4a9bbd5b53ebddfe7ad15ab4cb9c2271d592ddabb5f6e3ed0b7aada1d31", func := "counterfoil/counterfoiltop.TopStale", spec := "topStale", unfollowed := true, recurses := true, apart := false }
def TopStaleSaid : Prop := topStaleRow.holds Try.pinned (OpenSpec.ofChange topStaleSpec)

/-- ITS FALSE NEIGHBOUR: 'it returns false'. Refute it at one input. -/
def topStaleWrong : ChangeSpec := { name := "topStale", fn := fun _ => fun
  | [d1, d2, d3, d4] => { results := [.lit (.bool false)], args := [d1, d2, d3, d4] }
  | _ => none }
def TopStaleWrongFalsely : Prop := topStaleRow.holds Try.pinned (OpenSpec.ofChange topStaleWrong)

/-- 'counterfoillaw.PoolSays': WHATEVER THE INPUT: true; the input reads as it did. -/
def poolSaysSpec : ChangeSpec := { name := "poolSays", fn := fun _ => fun
  | [d] => { results := [.lit (.bool true)], args := [d] }
  | _ => none }
def poolSaysRow : OpenClaim := { program := "ytdgmmmjhajbbeaa", sum := "5d30d4a9bbd5b53ebddfe7ad15ab4cb9c2271d592ddabb5f6e3ed0b7aada1d31", func := "counterfoil/counterfoillaw.PoolSays", spec := "poolSays", inPlace := ["maps.clone"], recurses := true, apart := false }
def PoolSaysSaid : Prop := poolSaysRow.holds Try.pinned (OpenSpec.ofChange poolSaysSpec)

/-- ITS FALSE NEIGHBOUR: 'it returns false'. Refute it at one input. -/
def poolSaysWrong : ChangeSpec := { name := "poolSays", fn := fun _ => fun
  | [d] => { results := [.lit (.bool false)], args := [d] }
  | _ => none }
def PoolSaysWrongFalsely : Prop := poolSaysRow.holds Try.pinned (OpenSpec.ofChange poolSaysWrong)

/-- 'counterfoillaw.IndexSays': WHATEVER THE INPUT: true; the input reads as it did. -/
def indexSaysSpec : ChangeSpec := { name := "indexSays", fn := fun _ => fun
  | [d] => { results := [.lit (.bool true)], args := [d] }
  | _ => none }
def indexSaysRow : OpenClaim := { program := "ytdgmmmjhajbbeaa", sum := "5d30d4a9bbd5b53ebddfe7ad15ab4cb9c2271d592ddabb5f6e3ed0b7aada1d31", func := "counterfoil/counterfoillaw.IndexSays", spec := "indexSays", inPlace := ["maps.clone"], unfollowed := true, recurses := true, apart := false }
def IndexSaysSaid : Prop := indexSaysRow.holds Try.pinned (OpenSpec.ofChange indexSaysSpec)

/-- ITS FALSE NEIGHBOUR: 'it returns false'. Refute it at one input. -/
def indexSaysWrong : ChangeSpec := { name := "indexSays", fn := fun _ => fun
  | [d] => { results := [.lit (.bool false)], args := [d] }
  | _ => none }
def IndexSaysWrongFalsely : Prop := indexSaysRow.holds Try.pinned (OpenSpec.ofChange indexSaysWrong)

/-- 'counterfoiltop.TopPool': WHATEVER THE INPUT: true; the input reads as it did. -/
def topPoolSpec : ChangeSpec := { name := "topPool", fn := fun _ => fun
  | [d1, d2, d3] => { results := [.lit (.bool true)], args := [d1, d2, d3] }
  | _ => none }
def topPoolRow : OpenClaim := { program := "ytdgmmmjhajbbeaa", sum := "5d30d4a9bbd5b53ebddfe7ad15ab4cb9c2271d592ddabb5f6e3ed0b7aada1d31", func := "counterfoil/counterfoiltop.TopPool", spec := "topPool", recurses := true, apart := false }
def TopPoolSaid : Prop := topPoolRow.holds Try.pinned (OpenSpec.ofChange topPoolSpec)

/-- ITS FALSE NEIGHBOUR: 'it returns false'. Refute it at one input. -/
def topPoolWrong : ChangeSpec := { name := "topPool", fn := fun _ => fun
  | [d1, d2, d3] => { results := [.lit (.bool false)], args := [d1, d2, d3] }
  | _ => none }
def TopPoolWrongFalsely : Prop := topPoolRow.holds Try.pinned (OpenSpec.ofChange topPoolWrong)

/- THE SECOND FORM. 'bulk': how many values and letters a reading holds, each counted each time it is reached (what is shared counts as often as it is met; a slice's spare places count too). A statement '..UptoSaid' is the law's where the arguments, and the package variables that the reading takes, are together of bulk at most 1048576: NARROWER than '..Said'. Prove '..Said' where nothing that the law and all that it calls make is longer than what came in: it says more and counts as full. Else prove '..UptoSaid'. A law counts once. -/
mutual
def uptoBulk {H : Type} : DataW H → Nat
  | .lit (.string bytes) => bytes.length + 1
  | .lit _ => 1
  | .nil => 1
  | .ptr d => uptoBulk d + 1
  | .slice elems spare => uptoBulkAll elems + uptoBulkAll spare + 1
  | .agg parts => uptoBulkAll parts + 1
  | .iface _ d => uptoBulk d + 1
  | .map entries => uptoBulkEntries entries + 1
  | .held _ => 1
def uptoBulkAll {H : Type} : List (DataW H) → Nat
  | [] => 0
  | d :: r => uptoBulk d + uptoBulkAll r
def uptoBulkEntries {H : Type} : List (Lit × DataW H) → Nat
  | [] => 0
  | x :: r => uptoBulkEntry x + uptoBulkEntries r
def uptoBulkEntry {H : Type} : Lit × DataW H → Nat
  | (.string bytes, d) => bytes.length + uptoBulk d + 1
  | (_, d) => uptoBulk d + 1
 end
def uptoSmall : (H : Type) → List (DataW H) → Bool := fun _ ds => decide (uptoBulkAll ds ≤ 1048576)
def OpenSpec.upto (s : _root_.Go.ChangeSpec) : _root_.Go.OpenSpec := { _root_.Go.OpenSpec.ofChange s with cond := some uptoSmall }

/-- 'counterfoillaw.AreaSays', WHERE WHAT IT READS IS OF BULK AT MOST 1048576: true; the input reads as it did. -/
def areaSaysUptoRow : OpenClaim := { program := "ytdgmmmjhajbbeaa", sum := "5d30d4a9bbd5b53ebddfe7ad15ab4cb9c2271d592ddabb5f6e3ed0b7aada1d31", func := "counterfoil/counterfoillaw.AreaSays", spec := "areaSays", apart := false, narrowed := true }
def AreaSaysUptoSaid : Prop := areaSaysUptoRow.holds Try.pinned (OpenSpec.upto areaSaysSpec)

/-- 'counterfoillaw.VdiskSays', WHERE WHAT IT READS IS OF BULK AT MOST 1048576: true; the input reads as it did. -/
def vdiskSaysUptoRow : OpenClaim := { program := "ytdgmmmjhajbbeaa", sum := "5d30d4a9bbd5b53ebddfe7ad15ab4cb9c2271d592ddabb5f6e3ed0b7aada1d31", func := "counterfoil/counterfoillaw.VdiskSays", spec := "vdiskSays", unfollowed := true, recurses := true, apart := false, narrowed := true }
def VdiskSaysUptoSaid : Prop := vdiskSaysUptoRow.holds Try.pinned (OpenSpec.upto vdiskSaysSpec)

/-- 'counterfoiltop.TopArea', WHERE WHAT IT READS IS OF BULK AT MOST 1048576: true; the input reads as it did. -/
def topAreaUptoRow : OpenClaim := { program := "ytdgmmmjhajbbeaa", sum := "5d30d4a9bbd5b53ebddfe7ad15ab4cb9c2271d592ddabb5f6e3ed0b7aada1d31", func := "counterfoil/counterfoiltop.TopArea", spec := "topArea", apart := false, narrowed := true }
def TopAreaUptoSaid : Prop := topAreaUptoRow.holds Try.pinned (OpenSpec.upto topAreaSpec)

/-- 'counterfoiltop.TopPages', WHERE WHAT IT READS IS OF BULK AT MOST 1048576: true; the input reads as it did. -/
def topPagesUptoRow : OpenClaim := { program := "ytdgmmmjhajbbeaa", sum := "5d30d4a9bbd5b53ebddfe7ad15ab4cb9c2271d592ddabb5f6e3ed0b7aada1d31", func := "counterfoil/counterfoiltop.TopPages", spec := "topPages", apart := false, narrowed := true }
def TopPagesUptoSaid : Prop := topPagesUptoRow.holds Try.pinned (OpenSpec.upto topPagesSpec)

/-- 'counterfoiltop.TopCover', WHERE WHAT IT READS IS OF BULK AT MOST 1048576: true; the input reads as it did. -/
def topCoverUptoRow : OpenClaim := { program := "ytdgmmmjhajbbeaa", sum := "5d30d4a9bbd5b53ebddfe7ad15ab4cb9c2271d592ddabb5f6e3ed0b7aada1d31", func := "counterfoil/counterfoiltop.TopCover", spec := "topCover", unfollowed := true, recurses := true, apart := false, narrowed := true }
def TopCoverUptoSaid : Prop := topCoverUptoRow.holds Try.pinned (OpenSpec.upto topCoverSpec)

/-- 'counterfoiltop.TopTouched', WHERE WHAT IT READS IS OF BULK AT MOST 1048576: true; the input reads as it did. -/
def topTouchedUptoRow : OpenClaim := { program := "ytdgmmmjhajbbeaa", sum := "5d30d4a9bbd5b53ebddfe7ad15ab4cb9c2271d592ddabb5f6e3ed0b7aada1d31", func := "counterfoil/counterfoiltop.TopTouched", spec := "topTouched", unfollowed := true, recurses := true, apart := false, narrowed := true }
def TopTouchedUptoSaid : Prop := topTouchedUptoRow.holds Try.pinned (OpenSpec.upto topTouchedSpec)

/-- 'counterfoiltop.TopFold', WHERE WHAT IT READS IS OF BULK AT MOST 1048576: true; the input reads as it did. -/
def topFoldUptoRow : OpenClaim := { program := "ytdgmmmjhajbbeaa", sum := "5d30d4a9bbd5b53ebddfe7ad15ab4cb9c2271d592ddabb5f6e3ed0b7aada1d31", func := "counterfoil/counterfoiltop.TopFold", spec := "topFold", unfollowed := true, recurses := true, apart := false, narrowed := true }
def TopFoldUptoSaid : Prop := topFoldUptoRow.holds Try.pinned (OpenSpec.upto topFoldSpec)

/-- 'counterfoiltop.TopStale', WHERE WHAT IT READS IS OF BULK AT MOST 1048576: true; the input reads as it did. -/
def topStaleUptoRow : OpenClaim := { program := "ytdgmmmjhajbbeaa", sum := "5d30d4a9bbd5b53ebddfe7ad15ab4cb9c2271d592ddabb5f6e3ed0b7aada1d31", func := "counterfoil/counterfoiltop.TopStale", spec := "topStale", unfollowed := true, recurses := true, apart := false, narrowed := true }
def TopStaleUptoSaid : Prop := topStaleUptoRow.holds Try.pinned (OpenSpec.upto topStaleSpec)

/-- 'counterfoillaw.PoolSays', WHERE WHAT IT READS IS OF BULK AT MOST 1048576: true; the input reads as it did. -/
def poolSaysUptoRow : OpenClaim := { program := "ytdgmmmjhajbbeaa", sum := "5d30d4a9bbd5b53ebddfe7ad15ab4cb9c2271d592ddabb5f6e3ed0b7aada1d31", func := "counterfoil/counterfoillaw.PoolSays", spec := "poolSays", inPlace := ["maps.clone"], recurses := true, apart := false, narrowed := true }
def PoolSaysUptoSaid : Prop := poolSaysUptoRow.holds Try.pinned (OpenSpec.upto poolSaysSpec)

/-- 'counterfoillaw.IndexSays', WHERE WHAT IT READS IS OF BULK AT MOST 1048576: true; the input reads as it did. -/
def indexSaysUptoRow : OpenClaim := { program := "ytdgmmmjhajbbeaa", sum := "5d30d4a9bbd5b53ebddfe7ad15ab4cb9c2271d592ddabb5f6e3ed0b7aada1d31", func := "counterfoil/counterfoillaw.IndexSays", spec := "indexSays", inPlace := ["maps.clone"], unfollowed := true, recurses := true, apart := false, narrowed := true }
def IndexSaysUptoSaid : Prop := indexSaysUptoRow.holds Try.pinned (OpenSpec.upto indexSaysSpec)

/-- 'counterfoiltop.TopPool', WHERE WHAT IT READS IS OF BULK AT MOST 1048576: true; the input reads as it did. -/
def topPoolUptoRow : OpenClaim := { program := "ytdgmmmjhajbbeaa", sum := "5d30d4a9bbd5b53ebddfe7ad15ab4cb9c2271d592ddabb5f6e3ed0b7aada1d31", func := "counterfoil/counterfoiltop.TopPool", spec := "topPool", recurses := true, apart := false, narrowed := true }
def TopPoolUptoSaid : Prop := topPoolUptoRow.holds Try.pinned (OpenSpec.upto topPoolSpec)

end Rows
end Go.Proofs.Ytdgmmmjhajbbeaa
