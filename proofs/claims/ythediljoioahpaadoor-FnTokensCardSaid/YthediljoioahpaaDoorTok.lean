/- TOKENS, one at a time: laws.eqToken, szToken, toToken; TokenText. -/
import Derived.Test.YthediljoioahpaaDoorQuote
namespace Go.Proofs.YthediljoioahpaaDoor
open Go.RowKit

theorem eqTok_same (k : Int) (t : ByteArray) (p : Int) (w : World) :
    Calls Tryd.prog 26 #[.agg #[.int .i64 k, .string t, .int .i64 p], .agg #[.int .i64 k, .string t, .int .i64 p]] w fun e w' => e = .returned (.bool true) ∧ Below w.heap.size w w' := by
  go_enter Tryd.func26, Tryd.ntmps26
  go_wp2
  go_ret
  exact ⟨rfl, ((Below.refl _ _).alloc (Nat.le_refl _) _).alloc (by simp) _⟩
/-- what TokenText says -/
def tokS (k : Int) (t : ByteArray) : ByteArray := if k = 3 then quoteS t else t
theorem iTokText_any (k : Int) (t : ByteArray) (p : Int) (ht : t.size ≤ 1048576) (w : World) :
    Calls Tryd.prog 9 #[.agg #[.int .i64 k, .string t, .int .i64 p]] w fun e w' => e = .returned (.string (tokS k t)) ∧ Below w.heap.size w w' := by
  by_cases h : k = 3
  · subst h
    rw [show tokS 3 t = quoteS t from if_pos rfl]
    go_enter Tryd.func9, Tryd.ntmps9
    go_wp2_with (go_at_call 19; refine (iQuote_any t ht _).mono ?_; rintro e w1 ⟨rfl, hb1⟩)
    go_ret
    exact ⟨rfl, below_step ((Below.refl _ _).alloc (Nat.le_refl _) _) hb1⟩
  · have hk : (k == 3) = false := by simpa using h
    rw [show tokS k t = t from if_neg h]
    clear h
    go_enter Tryd.func9, Tryd.ntmps9
    go_wp2
    go_ret
    exact ⟨rfl, (Below.refl _ _).alloc (Nat.le_refl _) _⟩
end Go.Proofs.YthediljoioahpaaDoor
