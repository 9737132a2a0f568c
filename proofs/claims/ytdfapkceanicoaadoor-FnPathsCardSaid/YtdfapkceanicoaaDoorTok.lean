/- TOKENS, one at a time: laws.eqToken, szToken, toToken; TokenText. -/
import Derived.Test.YtdfapkceanicoaaDoorQuote
set_option linter.unusedVariables false
set_option linter.unusedSimpArgs false
namespace Go.Proofs.YtdfapkceanicoaaDoor
open Go.RowKit

/-- what TokenText says -/
def tokS (k : Int) (t : ByteArray) : ByteArray := if k = 3 then quoteS t else t
end Go.Proofs.YtdfapkceanicoaaDoor
