/- What num.Put answers, size by size: a new slice of so many bytes, the highest ahead; nothing that was there is written. -/
import Derived.Test.YtpaidekocooliaaNumWalks
import Derived.Handy
namespace Go.Proofs.Ytpaidekocooliaa
open Go.RowKit NumMath
set_option linter.unusedVariables false

/-- the bytes of a number, the highest ahead, as cells -/
def putCells (u : Int) (n : Nat) : List Value := (putL u n).map (Value.int .u8)

end Go.Proofs.Ytpaidekocooliaa
