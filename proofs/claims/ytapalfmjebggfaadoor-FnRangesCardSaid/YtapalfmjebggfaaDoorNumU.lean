/- CONTRACTS OF CHAPTER 1, THIRD PART: spec.FormatInt. -/
import Derived.Test.YtapalfmjebggfaaDoorNumV
namespace Go.Proofs.YtapalfmjebggfaaDoor
open Go.RowKit NumP

theorem tdiv_neg (q : Nat) : (-(q : Int)).tdiv 10 = -((q / 10 : Nat) : Int) := by rw [Int.neg_tdiv]; rfl
theorem tmod_neg (q : Nat) : (-(q : Int)).tmod 10 = -((q % 10 : Nat) : Int) := by rw [Int.neg_tmod]; rfl
end Go.Proofs.YtapalfmjebggfaaDoor
