/- spec.l1In -/
import Derived.Test.YtapalfmjebggfaaDoorBase
namespace Go.Proofs.YtapalfmjebggfaaDoor
open Go.RowKit

end Go.Proofs.YtapalfmjebggfaaDoor
