/- CONTRACTS OF CHAPTER 1, THIRD PART: spec.FormatInt. -/
import Derived.Test.YtldjkjdmadoaoaaDoorNumV
namespace Go.Proofs.YtldjkjdmadoaoaaDoor
open Go.RowKit NumP

set_option maxRecDepth 100000 in
set_option maxHeartbeats 400000 in
theorem sFmt_pos (n : Int) (hl : 0 < n) (hh : n ≤ 9223372036854775807) (w : World) :
    Calls Tryd.prog 105 #[.int .i64 n] w fun e w' => e = .returned (.string (fmtS n)) ∧ Below w.heap.size w w' := by
  obtain ⟨m, rfl⟩ : ∃ m : Nat, n = m := ⟨n.toNat, by omega⟩
  have HE : Hid (fmtS m = _) := Lib.hid (fmtS_pos (n := m) (by omega))
  go_enter Tryd.func105, Tryd.ntmps105
  go_wp2
  go_loopw [3, 4] (fun s x wr => ∃ (q : Nat) (l : List UInt8), q ≤ 9223372036854775807 ∧ l.length ≤ 20 ∧ x = .int .i64 q ∧ s = .string ⟨l.toArray⟩ ∧ SF m q l ∧ Below w.heap.size w wr) (fun _ x _ => (intOf x).toNat)
  case atStart => exact ⟨m, [], by omega, by simp, rfl, rfl, ⟨fun h => by omega, fun _ => by simp⟩, Below.refl _ _⟩
  case round =>
    obtain ⟨q, l, hq, hll, rfl, rfl, hsf, hbel⟩ := hrel
    by_cases h0 : 0 < q
    · obtain ⟨b, hb⟩ : ∃ b, b = UInt8.ofNat (48 + q % 10) := ⟨_, rfl⟩
      have hcv := conv_one wr b
      have hs := SF_step (by omega) h0 hsf
      rw [hb, digit_byte, ← hb] at hcv
      rw [← hb] at hs
      clear hb
      go_wp2
      go_roundw
      case rel =>
        exact ⟨q / 10, _, by omega, hs.2, by go_num, val_str (str_cons _ _), hs.1, hbel.alloc hbel.size _⟩
      case measure => simp [intOf]; omega
    · go_wp2
      go_ret
      exact ⟨ret_str (by rw [HE.out, hsf.1 (by omega)]; rfl), hbel⟩
theorem tdiv_neg (q : Nat) : (-(q : Int)).tdiv 10 = -((q / 10 : Nat) : Int) := by rw [Int.neg_tdiv]; rfl
theorem tmod_neg (q : Nat) : (-(q : Int)).tmod 10 = -((q % 10 : Nat) : Int) := by rw [Int.neg_tmod]; rfl
set_option maxRecDepth 100000 in
set_option maxHeartbeats 400000 in
theorem sFmt_neg (n : Int) (hl : -9223372036854775808 ≤ n) (hh : n < 0) (w : World) :
    Calls Tryd.prog 105 #[.int .i64 n] w fun e w' => e = .returned (.string (fmtS n)) ∧ Below w.heap.size w w' := by
  obtain ⟨m, rfl⟩ : ∃ m : Nat, n = -(m : Int) := ⟨n.natAbs, by omega⟩
  have HE : Hid (fmtS (-(m : Int)) = _) := Lib.hid (fmtS_neg (n := -(m : Int)) (by omega))
  go_enter Tryd.func105, Tryd.ntmps105
  go_wp2
  go_loopw [3, 4] (fun s x wr => ∃ (q : Nat) (l : List UInt8), q ≤ 9223372036854775808 ∧ l.length ≤ 20 ∧ x = .int .i64 (-(q : Int)) ∧ s = .string ⟨l.toArray⟩ ∧ SF m q l ∧ Below w.heap.size w wr) (fun _ x _ => (intOf x).natAbs)
  case atStart => exact ⟨m, [], by omega, by simp, rfl, rfl, ⟨fun h => by omega, fun _ => by simp⟩, Below.refl _ _⟩
  case round =>
    obtain ⟨q, l, hq, hll, rfl, rfl, hsf, hbel⟩ := hrel
    by_cases h0 : 0 < q
    · obtain ⟨b, hb⟩ : ∃ b, b = UInt8.ofNat (48 + q % 10) := ⟨_, rfl⟩
      have hcv := conv_one wr b
      have hs := SF_step (by omega) h0 hsf
      rw [hb, digit_byte, ← hb] at hcv
      rw [← hb] at hs
      clear hb
      have ht1 := tdiv_neg q
      have ht2 := tmod_neg q
      by_cases h1 : 0 < q % 10
      · go_wp2
        go_roundw
        case rel =>
          exact ⟨q / 10, _, by omega, hs.2, by go_num, val_str (str_cons _ _), hs.1, hbel.alloc hbel.size _⟩
        case measure => simp [intOf]; omega
      · rw [show (48 + (q : Int) % 10) = 48 + -((q : Int) % 10) by omega] at hcv
        go_wp2
        go_roundw
        case rel =>
          exact ⟨q / 10, _, by omega, hs.2, by go_num, val_str (str_cons _ _), hs.1, hbel.alloc hbel.size _⟩
        case measure => simp [intOf]; omega
    · have hs : Hid (l = dec m) := Lib.hid (hsf.1 (by omega))
      go_wp2
      go_ret
      exact ⟨ret_str (by rw [HE.out, hs.out, Int.natAbs_neg, Int.natAbs_natCast]; exact ByteArray.mk_append_mk [45] _), hbel⟩
set_option maxRecDepth 100000 in
theorem sFmt_any (n : Int) (hl : -9223372036854775808 ≤ n) (hh : n ≤ 9223372036854775807) (w : World) :
    Calls Tryd.prog 105 #[.int .i64 n] w fun e w' => e = .returned (.string (fmtS n)) ∧ Below w.heap.size w w' := by
  by_cases h : n < 0
  · exact sFmt_neg n hl h w
  · by_cases h0 : 0 < n
    · exact sFmt_pos n h0 hh w
    · obtain rfl : n = 0 := by omega
      go_enter Tryd.func105, Tryd.ntmps105
      go_wp2
      go_ret
      exact ⟨ret_str (by rw [fmtS_pos (by omega), show (0 : Int).natAbs = 0 from rfl, dec_small (by omega)]; rfl), Below.refl _ _⟩
end Go.Proofs.YtldjkjdmadoaoaaDoor
