/- CHAPTER 7: laws.toStepS, toPath. -/
import Derived.Test.YtdfapkceanicoaaDoorPthB
set_option linter.unusedVariables false
set_option linter.unusedSimpArgs false
namespace Go.Proofs.YtdfapkceanicoaaDoor
open Go.RowKit

theorem OwnS.below {B : Nat} {w w' : World} {v : Value} {l : List Stp} {S : Nat → Prop} (h : OwnS B w v l S) (hb : Below w.heap.size w w') : OwnS B w' v l S := OwL.below h hb
theorem OwnS.has {B : Nat} {w : World} {v : Value} {l : List Stp} {S : Nat → Prop} (h : OwnS B w v l S) : HasS w v l := OwL.rd h
theorem rowX_lt {B : Nat} {w : World} {v : Value} {l : List Tst} (h : RowX B w v l) {b : Nat} (hb : v.ownBlock = some b) : B ≤ b ∧ b < w.heap.size := RowR.lt h hb
end Go.Proofs.YtdfapkceanicoaaDoor
