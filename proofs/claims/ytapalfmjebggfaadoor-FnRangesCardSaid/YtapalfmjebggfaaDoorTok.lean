/- TOKENS, one at a time: laws.eqToken, szToken, toToken; TokenText. -/
import Derived.Test.YtapalfmjebggfaaDoorQuote
namespace Go.Proofs.YtapalfmjebggfaaDoor
open Go.RowKit

/-- what TokenText says -/
def tokS (k : Int) (t : ByteArray) : ByteArray := if k = 3 then quoteS t else t
end Go.Proofs.YtapalfmjebggfaaDoor
