/- Two texts compared. -/
import Derived.Test.YtimbdomkpdmehaaRow1
import Derived.Lib.Bytealg
namespace Go.Proofs.Ytimbdomkpdmehaa

/-- Two texts compared. -/
def cmpB (a b : ByteArray) : Int := Lib.compareBytes a.data.toList b.data.toList

end Go.Proofs.Ytimbdomkpdmehaa
