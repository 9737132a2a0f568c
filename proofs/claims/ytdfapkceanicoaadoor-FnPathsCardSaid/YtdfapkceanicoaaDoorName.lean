/- CHAPTER 2, FIRST PART: IsName and IsText. -/
import Derived.Test.YtdfapkceanicoaaDoorIn
set_option linter.unusedVariables false
set_option linter.unusedSimpArgs false
namespace Go.Proofs.YtdfapkceanicoaaDoor
open Go.RowKit

/-- a letter; a digit; a byte of a name; a byte of a text -/
def letB (c : UInt8) : Bool := decide (97 ≤ c.toNat ∧ c.toNat ≤ 122)
def digB (c : UInt8) : Bool := decide (48 ≤ c.toNat ∧ c.toNat ≤ 57)
def nbB (c : UInt8) : Bool := letB c || digB c || c == 45
def txB (c : UInt8) : Bool := decide (32 ≤ c.toNat ∧ c.toNat ≤ 126)
def escB (c : UInt8) : Bool := c == 34 || c == 92
theorem byte_beq (c d : UInt8) : ((c.toNat : Int) == (d.toNat : Int)) = (c == d) := by
  by_cases h : c = d
  · subst h; simp
  · rw [byte_ne h, beq_eq_false_iff_ne.2 h]

set_option maxRecDepth 100000 in
theorem iLet_any (c : UInt8) (w : World) : Calls Tryd.prog 66 #[.int .u8 c.toNat] w fun e w' => e = .returned (.bool (letB c)) ∧ w = w' := by
  by_cases h : 97 ≤ (c.toNat : Int) <;> by_cases h' : (c.toNat : Int) ≤ 122
  all_goals
    go_enter Tryd.func66, Tryd.ntmps66
    go_wp2
    go_ret
    exact ⟨ret_bool (by simp only [letB]; first | (symm; exact decide_eq_true (by omega)) | (symm; exact decide_eq_false (by omega))), rfl⟩
set_option maxRecDepth 100000 in
theorem iDigB_any (c : UInt8) (w : World) : Calls Tryd.prog 68 #[.int .u8 c.toNat] w fun e w' => e = .returned (.bool (digB c)) ∧ w = w' := by
  by_cases h : 48 ≤ (c.toNat : Int) <;> by_cases h' : (c.toNat : Int) ≤ 57
  all_goals
    go_enter Tryd.func68, Tryd.ntmps68
    go_wp2
    go_ret
    exact ⟨ret_bool (by simp only [digB]; first | (symm; exact decide_eq_true (by omega)) | (symm; exact decide_eq_false (by omega))), rfl⟩
set_option maxRecDepth 100000 in
theorem iNb_any (c : UInt8) (w : World) : Calls Tryd.prog 89 #[.int .u8 c.toNat] w fun e w' => e = .returned (.bool (nbB c)) ∧ w = w' := by
  cases h : letB c <;> cases h' : digB c
  all_goals
    go_enter Tryd.func89, Tryd.ntmps89
    go_wp2_with (first
      | (go_at_call 66; refine (iLet_any _ _).mono ?_; rw [h]; rintro e w' ⟨rfl, rfl⟩)
      | (go_at_call 68; refine (iDigB_any _ _).mono ?_; rw [h']; rintro e w' ⟨rfl, rfl⟩))
    go_ret
    exact ⟨ret_bool (by unfold nbB; rw [h, h']; first | rfl | (rw [← byte_beq]; simp)), rfl⟩
end Go.Proofs.YtdfapkceanicoaaDoor
