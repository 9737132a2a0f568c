/- TOKENS, one at a time: laws.eqToken, szToken, toToken; TokenText. -/
import Derived.Test.YthediljoioahpaaQuote
namespace Go.Proofs.Ythediljoioahpaa
open Go.RowKit

theorem eqTok_same (k : Int) (t : ByteArray) (p : Int) (w : World) :
    Calls Try.prog 17 #[.agg #[.int .i64 k, .string t, .int .i64 p], .agg #[.int .i64 k, .string t, .int .i64 p]] w fun e w' => e = .returned (.bool true) ∧ Below w.heap.size w w' := by
  go_enter Try.func17, Try.ntmps17
  go_wp2
  go_ret
  exact ⟨rfl, ((Below.refl _ _).alloc (Nat.le_refl _) _).alloc (by simp) _⟩
/-- what szToken leaves -/
def szI (left : Int) (t : ByteArray) : Int := if left < t.size then -1 else left - t.size
theorem szI_bd {left : Int} {t : ByteArray} (h1 : left ≤ 1048576) : szI left t < 0 ∨ (0 ≤ szI left t ∧ szI left t ≤ 1048576 ∧ (t.size : Int) ≤ left) := by unfold szI; split <;> omega
theorem szTok_any (k : Int) (t : ByteArray) (p left : Int) (h0 : 0 ≤ left) (h1 : left ≤ 1048576) (ht : t.size ≤ 9223372036854775807) (w : World) :
    Calls Try.prog 5 #[.agg #[.int .i64 k, .string t, .int .i64 p], .int .i64 left] w fun e w' => e = .returned (.int .i64 (szI left t)) ∧ Below w.heap.size w w' := by
  by_cases h : left < t.size
  · have e : szI left t = -1 := if_pos h
    rw [e]
    clear e
    go_enter Try.func5, Try.ntmps5
    go_wp2
    go_ret
    exact ⟨rfl, (Below.refl _ _).alloc (Nat.le_refl _) _⟩
  · have e : szI left t = left - t.size := if_neg h
    rw [e]
    clear e
    go_enter Try.func5, Try.ntmps5
    go_wp2
    go_ret
    exact ⟨rfl, (Below.refl _ _).alloc (Nat.le_refl _) _⟩
theorem toTok_any (k : Int) (t : ByteArray) (p : Int) (w : World) :
    Calls Try.prog 7 #[.agg #[.int .i64 k, .string t, .int .i64 p]] w fun e w' => e = .returned (.agg #[.int .i64 k, .string t, .int .i64 p]) ∧ Below w.heap.size w w' := by
  go_enter Try.func7, Try.ntmps7
  go_wp2
  exact bodyPost_ret (v := .agg #[.int .i64 k, .string t, .int .i64 p]) (by simp [results, Try.results7, go_sem]) rfl ⟨rfl, below_al (below_al (below_al (Below.refl _ _) _) _) _⟩
/-- what TokenText says -/
def tokS (k : Int) (t : ByteArray) : ByteArray := if k = 3 then quoteS t else t
theorem sTokText_any (k : Int) (t : ByteArray) (p : Int) (ht : t.size ≤ 1048576) (w : World) :
    Calls Try.prog 6 #[.agg #[.int .i64 k, .string t, .int .i64 p]] w fun e w' => e = .returned (.string (tokS k t)) ∧ Below w.heap.size w w' := by
  by_cases h : k = 3
  · subst h
    rw [show tokS 3 t = quoteS t from if_pos rfl]
    go_enter Try.func6, Try.ntmps6
    go_wp2_with (go_at_call 14; refine (sQuote_any t ht _).mono ?_; rintro e w1 ⟨rfl, hb1⟩)
    go_ret
    exact ⟨rfl, below_step ((Below.refl _ _).alloc (Nat.le_refl _) _) hb1⟩
  · have hk : (k == 3) = false := by simpa using h
    rw [show tokS k t = t from if_neg h]
    clear h
    go_enter Try.func6, Try.ntmps6
    go_wp2
    go_ret
    exact ⟨rfl, (Below.refl _ _).alloc (Nat.le_refl _) _⟩
theorem iTokText_any (k : Int) (t : ByteArray) (p : Int) (ht : t.size ≤ 1048576) (w : World) :
    Calls Try.prog 8 #[.agg #[.int .i64 k, .string t, .int .i64 p]] w fun e w' => e = .returned (.string (tokS k t)) ∧ Below w.heap.size w w' := by
  by_cases h : k = 3
  · subst h
    rw [show tokS 3 t = quoteS t from if_pos rfl]
    go_enter Try.func8, Try.ntmps8
    go_wp2_with (go_at_call 15; refine (iQuote_any t ht _).mono ?_; rintro e w1 ⟨rfl, hb1⟩)
    go_ret
    exact ⟨rfl, below_step ((Below.refl _ _).alloc (Nat.le_refl _) _) hb1⟩
  · have hk : (k == 3) = false := by simpa using h
    rw [show tokS k t = t from if_neg h]
    clear h
    go_enter Try.func8, Try.ntmps8
    go_wp2
    go_ret
    exact ⟨rfl, (Below.refl _ _).alloc (Nat.le_refl _) _⟩
end Go.Proofs.Ythediljoioahpaa
