/- CHAPTER 5, spec: MatchText (the alternative's reader is asked for as a premise). -/
import Derived.Test.YtnpgeneahjlkpaaMatZ
import Derived.Test.YtnpgeneahjlkpaaMatA
import Derived.Test.YtnpgeneahjlkpaaPatV
set_option linter.unusedVariables false
set_option linter.unusedSimpArgs false
namespace Go.Proofs.Ytnpgeneahjlkpaa
open Go.RowKit

/-- whether s is a text of the pattern that p is read as -/
def TextOf (p s : ByteArray) : Prop := ∃ t, patS p.data.toList = some t ∧ Mt s 124 t 0 s.size
end Go.Proofs.Ytnpgeneahjlkpaa
