/- CHAPTER 9, impl: walk's iterator, walked. -/
import Derived.Test.YthmjffijhlkgcaaWkU
import Derived.WideMake
set_option linter.unusedVariables false
set_option linter.unusedSimpArgs false
namespace Go.Proofs.Ythmjffijhlkgcaa
open Go.RowKit Go.Shelf
attribute [local go_sem] Oper.semAt_some run_makeMap_plain
set_option maxRecDepth 100000

end Go.Proofs.Ythmjffijhlkgcaa
