/- ARGUMENTS OPENED: a list of ranges; what szRangeS says of it. -/
import Derived.Test.YthmjffijhlkgcaaTreeO
import Derived.Test.YthmjffijhlkgcaaRng
set_option linter.unusedVariables false
set_option linter.unusedSimpArgs false
namespace Go.Proofs.Ythmjffijhlkgcaa
open Go.RowKit Go.ChangeShapes Go.WideShapes Go.Deep Go.Joins

/-- both ends are ints of 64 bits -/
def RgWf (x : Rg) : Prop := -9223372036854775808 ≤ x.lo ∧ x.lo ≤ 9223372036854775807 ∧ -9223372036854775808 ≤ x.hi ∧ x.hi ≤ 9223372036854775807
theorem wf_i64 {n : Int} (h : (Lit.int .i64 n).wf = true) : -9223372036854775808 ≤ n ∧ n ≤ 9223372036854775807 := by
  simp [Lit.wf, IntKind.min, IntKind.max, IntKind.signed, IntKind.bits] at h; omega
theorem amgm {a b : Nat} (h : a + b ≤ 1048576) : a * b ≤ 274877906944 := by
  have h1 : a * b ≤ a * (1048576 - a) := Nat.mul_le_mul_left a (by omega)
  refine Nat.le_trans h1 ?_
  rcases Nat.le_total a 524288 with h2 | h2
  · obtain ⟨d, hd⟩ : ∃ d, a + d = 524288 := ⟨524288 - a, by omega⟩
    have h3 := Nat.mul_self_sub_mul_self_eq 524288 d
    have e1 : a = 524288 - d := by omega
    have e2 : 1048576 - a = 524288 + d := by omega
    rw [e2, e1, Nat.mul_comm, ← h3]; omega
  · obtain ⟨d, hd⟩ : ∃ d, a = 524288 + d := ⟨a - 524288, by omega⟩
    have h3 := Nat.mul_self_sub_mul_self_eq 524288 d
    have e2 : 1048576 - a = 524288 - d := by omega
    rw [e2, hd, ← h3]; omega
theorem meetS_length (a b : List Rg) (ha : a.length ≤ 1048576) (hb : b.length ≤ 1048576) (hab : a.length * b.length ≤ 274877906944) : (meetS a b).length ≤ 274877906944 := by
  unfold meetS
  split
  · exact Nat.le_trans (normS_length _) (by omega)
  · split
    · exact Nat.le_trans (normS_length _) (by omega)
    · exact Nat.le_trans (normS_length _) (by rw [meets_length]; exact hab)
end Go.Proofs.Ythmjffijhlkgcaa
