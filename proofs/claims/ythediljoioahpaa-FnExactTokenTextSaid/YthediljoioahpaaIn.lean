/- spec.l1In -/
import Derived.Test.YthediljoioahpaaBase
namespace Go.Proofs.Ythediljoioahpaa
open Go.RowKit

end Go.Proofs.Ythediljoioahpaa
