/- CONTRACTS OF CHAPTER 1: what spec's and impl's functions on numbers return, and what becomes of the world. -/
import Derived.Test.YtnpgeneahjlkpaaBase
import Derived.Test.YtnpgeneahjlkpaaNumPlain
import Derived.Test.YtnpgeneahjlkpaaIn
set_option linter.unusedVariables false
set_option linter.unusedSimpArgs false
namespace Go.Proofs.Ytnpgeneahjlkpaa
open Go.RowKit NumP

set_option maxRecDepth 100000 in
theorem sMax_any (a b : Int) (w : World) :
    Calls Try.prog 67 #[.int .i64 a, .int .i64 b] w fun e w' => e = .returned (.int .i64 (max a b)) ∧ w = w' := by
  by_cases h : a < b
  all_goals
    go_enter Try.func67, Try.ntmps67
    go_wp2
    go_ret
    exact ⟨ret_int (by omega), rfl⟩
theorem u64_of_pos {n : Int} (h : 0 ≤ n) (hh : n ≤ 9223372036854775807) : IntKind.u64.wrap n = n.natAbs := by
  simp [IntKind.wrap, IntKind.signed, IntKind.bits]; omega
theorem u64_of_neg {n : Int} (h : n < 0) (hl : -9223372036854775808 ≤ n) : IntKind.u64.wrap (-(IntKind.u64.wrap n)) = n.natAbs := by
  simp [IntKind.wrap, IntKind.signed, IntKind.bits]; omega
end Go.Proofs.Ytnpgeneahjlkpaa
