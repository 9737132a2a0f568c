/- CONTRACTS OF CHAPTER 1: what spec's and impl's functions on numbers return, and what becomes of the world. -/
import Derived.Test.YtapalfmjebggfaaDoorBase
import Derived.Test.YtapalfmjebggfaaDoorNumPlain
import Derived.Test.YtapalfmjebggfaaDoorIn
namespace Go.Proofs.YtapalfmjebggfaaDoor
open Go.RowKit NumP

set_option maxRecDepth 100000 in
theorem sMin_any (a b : Int) (w : World) :
    Calls Tryd.prog 44 #[.int .i64 a, .int .i64 b] w fun e w' => e = .returned (.int .i64 (min a b)) ∧ w = w' := by
  by_cases h : b < a
  all_goals
    go_enter Tryd.func44, Tryd.ntmps44
    go_wp2
    go_ret
    exact ⟨ret_int (by omega), rfl⟩
set_option maxRecDepth 100000 in
theorem iMin_any (a b : Int) (w : World) :
    Calls Tryd.prog 18 #[.int .i64 a, .int .i64 b] w fun e w' => e = .returned (.int .i64 (min a b)) ∧ w = w' := by
  by_cases h : a < b
  all_goals
    go_enter Tryd.func18, Tryd.ntmps18
    go_wp2
    go_ret
    exact ⟨ret_int (by omega), rfl⟩
set_option maxRecDepth 100000 in
theorem sMax_any (a b : Int) (w : World) :
    Calls Tryd.prog 45 #[.int .i64 a, .int .i64 b] w fun e w' => e = .returned (.int .i64 (max a b)) ∧ w = w' := by
  by_cases h : a < b
  all_goals
    go_enter Tryd.func45, Tryd.ntmps45
    go_wp2
    go_ret
    exact ⟨ret_int (by omega), rfl⟩
set_option maxRecDepth 100000 in
theorem iMax_any (a b : Int) (w : World) :
    Calls Tryd.prog 17 #[.int .i64 a, .int .i64 b] w fun e w' => e = .returned (.int .i64 (max a b)) ∧ w = w' := by
  by_cases h : b < a
  all_goals
    go_enter Tryd.func17, Tryd.ntmps17
    go_wp2
    go_ret
    exact ⟨ret_int (by omega), rfl⟩
theorem u64_of_pos {n : Int} (h : 0 ≤ n) (hh : n ≤ 9223372036854775807) : IntKind.u64.wrap n = n.natAbs := by
  simp [IntKind.wrap, IntKind.signed, IntKind.bits]; omega
theorem u64_of_neg {n : Int} (h : n < 0) (hl : -9223372036854775808 ≤ n) : IntKind.u64.wrap (-(IntKind.u64.wrap n)) = n.natAbs := by
  simp [IntKind.wrap, IntKind.signed, IntKind.bits]; omega
set_option maxRecDepth 100000 in
theorem iMag_any (n : Int) (hl : -9223372036854775808 ≤ n) (hh : n ≤ 9223372036854775807) (w : World) :
    Calls Tryd.prog 64 #[.int .i64 n] w fun e w' => e = .returned (.int .u64 n.natAbs) ∧ w = w' := by
  by_cases h : n < 0
  all_goals
    go_enter Tryd.func64, Tryd.ntmps64
    go_wp2
    go_ret
    first | exact ⟨ret_int (u64_of_neg h hl), rfl⟩ | exact ⟨ret_int (u64_of_pos (by omega) hh), rfl⟩ | exact ⟨ret_int (by omega), rfl⟩
set_option maxRecDepth 100000 in
theorem iCount_any (m : Nat) (hm : m < 18446744073709551616) (w : World) :
    Calls Tryd.prog 66 #[.int .u64 m] w fun e w' => e = .returned (.int .i64 (ndig m)) ∧ w = w' := by
  go_enter Tryd.func66, Tryd.ntmps66
  go_wp2
  go_loop [0, 3] (fun s c => ∃ k q : Nat, q < 18446744073709551616 ∧ k + ndig q = ndig m + 1 ∧ 1 ≤ k ∧ k ≤ 21 ∧ s = .int .u64 q ∧ c = .int .i64 k) (fun s _ => (intOf s).toNat)
  case atStart => exact ⟨1, m, hm, by omega, by omega, by omega, rfl, rfl⟩
  case round =>
    obtain ⟨k, q, hq, hk, hk1, hk2, rfl, rfl⟩ := hrel
    have hb := ndig_le20 hm
    have hp := ndig_pos q
    by_cases h : 10 ≤ q
    · have HS : Hid (ndig q = ndig (q / 10) + 1) := Lib.hid (ndig_big h)
      have hp' := ndig_pos (q / 10)
      have hk' : Hid (k + ndig q = ndig m + 1) := Lib.hid hk
      have hk3 : k ≤ 19 := by rw [HS.out] at hk; omega
      clear hk
      go_wp2
      go_round
      case rel => exact ⟨k + 1, q / 10, by omega, by have := hk'.out; rw [HS.out] at this; omega, by omega, by omega, by go_num, by go_num⟩
      case measure => simp [intOf]; omega
    · have HS : Hid (ndig q = 1) := Lib.hid (ndig_small (by omega))
      have hk' : Hid (k + ndig q = ndig m + 1) := Lib.hid hk
      clear hk
      go_wp2
      go_ret
      exact ⟨ret_int (by have := hk'.out; rw [HS.out] at this; omega), rfl⟩
end Go.Proofs.YtapalfmjebggfaaDoor
