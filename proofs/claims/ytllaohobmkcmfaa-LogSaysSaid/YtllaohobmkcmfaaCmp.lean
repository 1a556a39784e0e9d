/- Two texts compared. -/
import Derived.Test.YtllaohobmkcmfaaRow1
import Derived.Lib.Bytealg
namespace Go.Proofs.Ytllaohobmkcmfaa

/-- Two texts compared. -/
def cmpB (a b : ByteArray) : Int := Lib.compareBytes a.data.toList b.data.toList

end Go.Proofs.Ytllaohobmkcmfaa
