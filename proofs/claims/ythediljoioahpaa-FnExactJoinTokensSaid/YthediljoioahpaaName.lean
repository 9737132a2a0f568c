/- CHAPTER 2, FIRST PART: IsName and IsText. -/
import Derived.Test.YthediljoioahpaaIn
namespace Go.Proofs.Ythediljoioahpaa
open Go.RowKit

/-- a letter; a digit; a byte of a name; a byte of a text -/
def letB (c : UInt8) : Bool := decide (97 ≤ c.toNat ∧ c.toNat ≤ 122)
def digB (c : UInt8) : Bool := decide (48 ≤ c.toNat ∧ c.toNat ≤ 57)
def nbB (c : UInt8) : Bool := letB c || digB c || c == 45
def txB (c : UInt8) : Bool := decide (32 ≤ c.toNat ∧ c.toNat ≤ 126)
def escB (c : UInt8) : Bool := c == 34 || c == 92
theorem byte_beq (c d : UInt8) : ((c.toNat : Int) == (d.toNat : Int)) = (c == d) := by
  by_cases h : c = d
  · subst h; simp
  · rw [byte_ne h, beq_eq_false_iff_ne.2 h]

end Go.Proofs.Ythediljoioahpaa
