/- CHAPTER 7: marks of steps with tests: what was told is there; the same of paths. -/
import Derived.Test.YtdkpleghpnflhaaPthN
set_option linter.unusedVariables false
set_option linter.unusedSimpArgs false
namespace Go.Proofs.Ytdkpleghpnflhaa
open Go.RowKit NumP

def endPth (p : Pth) : Nat := endStps 1 p.st
def mkPth (p : Pth) : Pth := ⟨p.root, p.ups, mkStps 1 p.st⟩
end Go.Proofs.Ytdkpleghpnflhaa
