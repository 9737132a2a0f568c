/- spec's l3Letter, l3Digit. -/
import Derived.Test.YtnpgeneahjlkpaaNameB
set_option linter.unusedVariables false
set_option linter.unusedSimpArgs false
namespace Go.Proofs.Ytnpgeneahjlkpaa
open Go.RowKit

set_option maxRecDepth 100000 in
theorem s3Let_any (c : UInt8) (w : World) : Calls Try.prog 155 #[.int .u8 c.toNat] w fun e w' => e = .returned (.bool (letB c)) ∧ w = w' := by
  have hby : (c.toNat : Int) ≤ 255 := by have := c.toNat_lt; omega
  have h : ∀ w, Calls Try.prog 68 #[.int .i64 c.toNat, .int .i64 97, .int .i64 122] w fun e w' => e = .returned (.bool (letB c)) ∧ w = w' := fun w =>
    (sIn_any _ _ _ w).mono fun _ _ ⟨he, hw⟩ => ⟨by rw [he]; exact ret_bool (by unfold letB; congr 1; exact propext ⟨fun h => by omega, fun h => by omega⟩), hw⟩
  go_enter Try.func155, Try.ntmps155
  go_wp2_with (go_at_call 68; refine (h _).mono ?_; rintro e w' ⟨rfl, rfl⟩)
  go_ret
  exact ⟨rfl, rfl⟩
set_option maxRecDepth 100000 in
theorem s3Dig_any (c : UInt8) (w : World) : Calls Try.prog 156 #[.int .u8 c.toNat] w fun e w' => e = .returned (.bool (digB c)) ∧ w = w' := by
  have hby : (c.toNat : Int) ≤ 255 := by have := c.toNat_lt; omega
  have h : ∀ w, Calls Try.prog 68 #[.int .i64 c.toNat, .int .i64 48, .int .i64 57] w fun e w' => e = .returned (.bool (digB c)) ∧ w = w' := fun w =>
    (sIn_any _ _ _ w).mono fun _ _ ⟨he, hw⟩ => ⟨by rw [he]; exact ret_bool (by unfold digB; congr 1; exact propext ⟨fun h => by omega, fun h => by omega⟩), hw⟩
  go_enter Try.func156, Try.ntmps156
  go_wp2_with (go_at_call 68; refine (h _).mono ?_; rintro e w' ⟨rfl, rfl⟩)
  go_ret
  exact ⟨rfl, rfl⟩
end Go.Proofs.Ytnpgeneahjlkpaa
