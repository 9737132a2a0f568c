/- MERGED for a claim: NumW NumV NumU. -/
import Derived.Test.YtkifdbeklagelaaGreatDoorBase
import Derived.Test.YtkifdbeklagelaaGreatDoorNumPlain
import Derived.Test.YtkifdbeklagelaaGreatDoorIn
import Derived.Test.YtkifdbeklagelaaGreatDoorDig
set_option linter.unusedVariables false
set_option linter.unusedSimpArgs false
/- CONTRACTS OF CHAPTER 1: what spec's and impl's functions on numbers return, and what becomes of the world. -/
namespace Go.Proofs.YtkifdbeklagelaaGreatDoor
open Go.RowKit NumP

set_option maxRecDepth 100000 in
theorem sMax_any (a b : Int) (w : World) :
    Calls Tryz.prog 112 #[.int .i64 a, .int .i64 b] w fun e w' => e = .returned (.int .i64 (max a b)) ∧ w = w' := by
  by_cases h : a < b
  all_goals
    go_enter Tryz.func112, Tryz.ntmps112
    go_wp2
    go_ret
    exact ⟨ret_int (by omega), rfl⟩
theorem u64_of_pos {n : Int} (h : 0 ≤ n) (hh : n ≤ 9223372036854775807) : IntKind.u64.wrap n = n.natAbs := by
  simp [IntKind.wrap, IntKind.signed, IntKind.bits]; omega
theorem u64_of_neg {n : Int} (h : n < 0) (hl : -9223372036854775808 ≤ n) : IntKind.u64.wrap (-(IntKind.u64.wrap n)) = n.natAbs := by
  simp [IntKind.wrap, IntKind.signed, IntKind.bits]; omega
set_option maxRecDepth 100000 in
theorem iMag_any (n : Int) (hl : -9223372036854775808 ≤ n) (hh : n ≤ 9223372036854775807) (w : World) :
    Calls Tryz.prog 129 #[.int .i64 n] w fun e w' => e = .returned (.int .u64 n.natAbs) ∧ w = w' := by
  by_cases h : n < 0
  all_goals
    go_enter Tryz.func129, Tryz.ntmps129
    go_wp2
    go_ret
    first | exact ⟨ret_int (u64_of_neg h hl), rfl⟩ | exact ⟨ret_int (u64_of_pos (by omega) hh), rfl⟩ | exact ⟨ret_int (by omega), rfl⟩
set_option maxRecDepth 100000 in
theorem iCount_any (m : Nat) (hm : m < 18446744073709551616) (w : World) :
    Calls Tryz.prog 131 #[.int .u64 m] w fun e w' => e = .returned (.int .i64 (ndig m)) ∧ w = w' := by
  go_enter Tryz.func131, Tryz.ntmps131
  go_wp2
  go_loop [0, 3] (fun s c => ∃ k q : Nat, q < 18446744073709551616 ∧ k + ndig q = ndig m + 1 ∧ 1 ≤ k ∧ k ≤ 21 ∧ s = .int .u64 q ∧ c = .int .i64 k) (fun s _ => (intOf s).toNat)
  case atStart => exact ⟨1, m, hm, by omega, by omega, by omega, rfl, rfl⟩
  case round =>
    obtain ⟨k, q, hq, hk, hk1, hk2, rfl, rfl⟩ := hrel
    have hb := ndig_le20 hm
    have hp := ndig_pos q
    by_cases h : 10 ≤ q
    · have HS : Hid (ndig q = ndig (q / 10) + 1) := Lib.hid (ndig_big h)
      have hp' := ndig_pos (q / 10)
      have hk' : Hid (k + ndig q = ndig m + 1) := Lib.hid hk
      have hk3 : k ≤ 19 := by rw [HS.out] at hk; omega
      clear hk
      go_wp2
      go_round
      case rel => exact ⟨k + 1, q / 10, by omega, by have := hk'.out; rw [HS.out] at this; omega, by omega, by omega, by go_num, by go_num⟩
      case measure => simp [intOf]; omega
    · have HS : Hid (ndig q = 1) := Lib.hid (ndig_small (by omega))
      have hk' : Hid (k + ndig q = ndig m + 1) := Lib.hid hk
      clear hk
      go_wp2
      go_ret
      exact ⟨ret_int (by have := hk'.out; rw [HS.out] at this; omega), rfl⟩
end Go.Proofs.YtkifdbeklagelaaGreatDoor

/- CONTRACTS OF CHAPTER 1, SECOND PART: the functions that make a text. -/
namespace Go.Proofs.YtkifdbeklagelaaGreatDoor
open Go.RowKit NumP

theorem drop_set_at {l : List UInt8} {j : Nat} {x : UInt8} (h : j < l.length) : (l.set j x).drop j = x :: l.drop (j + 1) := by
  rw [List.drop_eq_getElem_cons (by simpa using h), List.getElem_set_self, List.drop_set]
  simp
/-- the digits from place c - k on stand; the rest is to come -/
theorem fill_step {c k q m : Nat} {l : List UInt8} (hl : l.length = c) (hk : k < c) (h : pad (c - k) q ++ l.drop (c - k) = dec m) :
    (l.set (c - 1 - k) (UInt8.ofNat (48 + q % 10))).length = c ∧ pad (c - (k + 1)) (q / 10) ++ (l.set (c - 1 - k) (UInt8.ofNat (48 + q % 10))).drop (c - (k + 1)) = dec m := by
  refine ⟨by simpa using hl, ?_⟩
  rw [← h]
  have e1 : c - k = (c - (k + 1)) + 1 := by omega
  have e2 : c - 1 - k = c - (k + 1) := by omega
  rw [e1, pad, e2, drop_set_at (by omega), List.append_assoc]; rfl
theorem fill_done {c m q : Nat} {l : List UInt8} (h : pad (c - c) q ++ l.drop (c - c) = dec m) : l = dec m := by
  simpa [pad] using h
set_option maxRecDepth 100000 in
set_option maxHeartbeats 400000 in
theorem iDigits_any (m : Nat) (hm : m < 18446744073709551616) (w : World) :
    Calls Tryz.prog 130 #[.int .u64 m, .int .i64 (ndig m)] w fun e w' => e = .returned (.string ⟨(dec m).toArray⟩) ∧ Below w.heap.size w w' := by
  obtain ⟨i0, hi, hz0, hz1, hz2⟩ := info_parts infoU8
  obtain ⟨c, hc⟩ : ∃ c, c = ndig m := ⟨_, rfl⟩
  have hb := ndig_le20 hm
  have hp := ndig_pos m
  have hpad := pad_ndig m
  have hlen := dec_length m
  rw [← hc] at hb hp hpad hlen ⊢
  have HP : Hid (pad c m = dec m) := Lib.hid hpad
  have HL : Hid ((dec m).length = c) := Lib.hid hlen
  have HC : Hid (c = ndig m) := Lib.hid hc
  clear hpad hlen hc
  go_enter Tryz.func130, Tryz.ntmps130
  have hb2 : i0.bytes * c ≤ 281474976710656 := by rw [hz2]; omega
  have hb3 : c ≤ maxLen := by unfold maxLen; omega
  have HZ : Hid (i0.bytes = 1) := Lib.hid hz2
  clear hz2
  go_wp2_with (at_make; go_loud (refine wpList_make_full _ rfl _ _ 84 rfl w.heap.size 5 i0 (.int .u8 0) 1 Tryz.underlying84 hi hz0 hz1 _ _ _ _ c rfl rfl rfl rfl hb2 hb3 (Nat.le_refl _) ?_); intro w1 hown1 hg1)
  have hown0 : w1.ownsRow w.heap.size 5 1 (.slice (some ⟨w.heap.size, 0, none⟩) c c) c ((List.replicate c (0 : UInt8)).map u8v) := by
    have := hown1
    rw [show (Value.int .u8 0).cells = #[.int .u8 0] from rfl, toList_madeCells_one, Nat.mul_one] at this
    simpa [u8v] using this
  have hbel1 : Below w.heap.size w w1 := (Below.refl _ _).grown hg1 (Nat.le_refl _) (by simp)
  clear hown1 hg1
  go_loopw [0, 10] (fun s i wr => ∃ (k q : Nat) (l : List UInt8), q < 18446744073709551616 ∧ k ≤ c ∧ s = .int .u64 q ∧ i = .int .i64 k ∧ l.length = c ∧ pad (c - k) q ++ l.drop (c - k) = dec m ∧
      wr.ownsRow w.heap.size 5 1 (.slice (some ⟨w.heap.size, 0, none⟩) c c) c (l.map u8v) ∧ Below w.heap.size w wr) (fun _ i _ => c - (intOf i).toNat)
  case atStart => exact ⟨0, m, List.replicate c 0, hm, Nat.zero_le _, rfl, rfl, by simp, by rw [Nat.sub_zero, HP.out]; simp, hown0, hbel1⟩
  case round =>
    obtain ⟨k, q, l, hq, hk, rfl, rfl, hl, hpd, hown, hbel⟩ := hrel
    have HLL : Hid (l.length = c) := Lib.hid hl
    have HPD : Hid (pad (c - k) q ++ l.drop (c - k) = dec m) := Lib.hid hpd
    clear hl hpd
    by_cases hlt : k < c
    · have hfr := hown.frozenAt (c - 1 - k)
      have hcell : wr.cell? ⟨w.heap.size, c - 1 - k, none⟩ = some (u8v (l[c - 1 - k]'(by have := HLL.out; omega))) := by
        rw [hown.cellAt _ (by omega), List.getElem?_map, List.getElem?_eq_getElem (by have := HLL.out; omega)]; rfl
      have hst := hown.stored (c - 1 - k) (u8v (UInt8.ofNat (48 + q % 10)))
      have HST : Hid _ := Lib.hid hst
      clear hst
      go_wp2
      go_roundw
      case rel =>
        have hs := HST.out
        have hd := digit_byte q
        have hf := fill_step HLL.out hlt HPD.out
        refine ⟨k + 1, q / 10, l.set (c - 1 - k) (UInt8.ofNat (48 + q % 10)), by omega, by omega, by go_num, by go_num, hf.1, hf.2, ?_, ?_⟩
        · rw [List.map_set]; rw [hd] at hs; rw [hd]; exact hs.1
        · exact hbel.setCell (by simp) _
      case measure => simp [intOf]; omega
    · obtain rfl : k = c := by omega
      have hcv := run_convert_bytes_back (P := Tryz.prog) wr 84 9 5 ⟨w.heap.size, 0, none⟩ k l Tryz.underlying84 Tryz.underlying5 Tryz.underlying9 (fun j hj => hown.cells (g := w.heap.size) rfl j _ (by rw [List.getElem?_map, List.getElem?_eq_getElem hj]; rfl))
      rw [HLL.out] at hcv
      go_wp2
      go_ret
      exact ⟨ret_str (by rw [fill_done HPD.out]), hbel⟩

set_option maxRecDepth 100000 in
set_option maxHeartbeats 400000 in
theorem iFmt_any (n : Int) (hl : -9223372036854775808 ≤ n) (hh : n ≤ 9223372036854775807) (w : World) :
    Calls Tryz.prog 92 #[.int .i64 n] w fun e w' => e = .returned (.string (fmtS n)) ∧ Below w.heap.size w w' := by
  have hsz : (dec n.natAbs).length ≤ 20 := by rw [dec_length]; exact ndig_le20 (by omega)
  by_cases h : n < 0
  · have e1 := fmtS_neg h
    have HE : Hid (fmtS n = _) := Lib.hid e1
    clear e1
    go_enter Tryz.func92, Tryz.ntmps92
    go_wp2_with (first
      | (go_at_call 129; refine (iMag_any n hl hh _).mono ?_; rintro e w' ⟨rfl, rfl⟩)
      | (go_at_call 131; refine (iCount_any n.natAbs (by omega) _).mono ?_; rintro e w' ⟨rfl, rfl⟩)
      | (go_at_call 130; refine (iDigits_any n.natAbs (by omega) _).mono ?_; rintro e w' ⟨rfl, hb⟩))
    go_ret
    exact ⟨ret_str (by rw [HE.out]; exact ByteArray.mk_append_mk [45] _), hb⟩
  · have e1 := fmtS_pos (n := n) (by omega)
    have HE : Hid (fmtS n = _) := Lib.hid e1
    clear e1
    go_enter Tryz.func92, Tryz.ntmps92
    go_wp2_with (first
      | (go_at_call 129; refine (iMag_any n hl hh _).mono ?_; rintro e w' ⟨rfl, rfl⟩)
      | (go_at_call 131; refine (iCount_any n.natAbs (by omega) _).mono ?_; rintro e w' ⟨rfl, rfl⟩)
      | (go_at_call 130; refine (iDigits_any n.natAbs (by omega) _).mono ?_; rintro e w' ⟨rfl, hb⟩))
    go_ret
    exact ⟨ret_str (by rw [HE.out]), hb⟩

end Go.Proofs.YtkifdbeklagelaaGreatDoor

/- CONTRACTS OF CHAPTER 1, THIRD PART: spec.FormatInt. -/
namespace Go.Proofs.YtkifdbeklagelaaGreatDoor
open Go.RowKit NumP

set_option maxRecDepth 100000 in
set_option maxHeartbeats 400000 in
theorem sFmt_pos (n : Int) (hl : 0 < n) (hh : n ≤ 9223372036854775807) (w : World) :
    Calls Tryz.prog 57 #[.int .i64 n] w fun e w' => e = .returned (.string (fmtS n)) ∧ Below w.heap.size w w' := by
  obtain ⟨m, rfl⟩ : ∃ m : Nat, n = m := ⟨n.toNat, by omega⟩
  have HE : Hid (fmtS m = _) := Lib.hid (fmtS_pos (n := m) (by omega))
  go_enter Tryz.func57, Tryz.ntmps57
  go_wp2
  go_loopw [3, 4] (fun s x wr => ∃ (q : Nat) (l : List UInt8), q ≤ 9223372036854775807 ∧ l.length ≤ 20 ∧ x = .int .i64 q ∧ s = .string ⟨l.toArray⟩ ∧ SF m q l ∧ Below w.heap.size w wr) (fun _ x _ => (intOf x).toNat)
  case atStart => exact ⟨m, [], by omega, by simp, rfl, rfl, ⟨fun h => by omega, fun _ => by simp⟩, Below.refl _ _⟩
  case round =>
    obtain ⟨q, l, hq, hll, rfl, rfl, hsf, hbel⟩ := hrel
    by_cases h0 : 0 < q
    · obtain ⟨b, hb⟩ : ∃ b, b = UInt8.ofNat (48 + q % 10) := ⟨_, rfl⟩
      have hcv := conv_one wr b
      have hs := SF_step (by omega) h0 hsf
      rw [hb, digit_byte, ← hb] at hcv
      rw [← hb] at hs
      clear hb
      go_wp2
      go_roundw
      case rel =>
        exact ⟨q / 10, _, by omega, hs.2, by go_num, val_str (str_cons _ _), hs.1, hbel.alloc hbel.size _⟩
      case measure => simp [intOf]; omega
    · go_wp2
      go_ret
      exact ⟨ret_str (by rw [HE.out, hsf.1 (by omega)]; rfl), hbel⟩
theorem tdiv_neg (q : Nat) : (-(q : Int)).tdiv 10 = -((q / 10 : Nat) : Int) := by rw [Int.neg_tdiv]; rfl
theorem tmod_neg (q : Nat) : (-(q : Int)).tmod 10 = -((q % 10 : Nat) : Int) := by rw [Int.neg_tmod]; rfl
set_option maxRecDepth 100000 in
set_option maxHeartbeats 400000 in
theorem sFmt_neg (n : Int) (hl : -9223372036854775808 ≤ n) (hh : n < 0) (w : World) :
    Calls Tryz.prog 57 #[.int .i64 n] w fun e w' => e = .returned (.string (fmtS n)) ∧ Below w.heap.size w w' := by
  obtain ⟨m, rfl⟩ : ∃ m : Nat, n = -(m : Int) := ⟨n.natAbs, by omega⟩
  have HE : Hid (fmtS (-(m : Int)) = _) := Lib.hid (fmtS_neg (n := -(m : Int)) (by omega))
  go_enter Tryz.func57, Tryz.ntmps57
  go_wp2
  go_loopw [3, 4] (fun s x wr => ∃ (q : Nat) (l : List UInt8), q ≤ 9223372036854775808 ∧ l.length ≤ 20 ∧ x = .int .i64 (-(q : Int)) ∧ s = .string ⟨l.toArray⟩ ∧ SF m q l ∧ Below w.heap.size w wr) (fun _ x _ => (intOf x).natAbs)
  case atStart => exact ⟨m, [], by omega, by simp, rfl, rfl, ⟨fun h => by omega, fun _ => by simp⟩, Below.refl _ _⟩
  case round =>
    obtain ⟨q, l, hq, hll, rfl, rfl, hsf, hbel⟩ := hrel
    by_cases h0 : 0 < q
    · obtain ⟨b, hb⟩ : ∃ b, b = UInt8.ofNat (48 + q % 10) := ⟨_, rfl⟩
      have hcv := conv_one wr b
      have hs := SF_step (by omega) h0 hsf
      rw [hb, digit_byte, ← hb] at hcv
      rw [← hb] at hs
      clear hb
      have ht1 := tdiv_neg q
      have ht2 := tmod_neg q
      by_cases h1 : 0 < q % 10
      · go_wp2
        go_roundw
        case rel =>
          exact ⟨q / 10, _, by omega, hs.2, by go_num, val_str (str_cons _ _), hs.1, hbel.alloc hbel.size _⟩
        case measure => simp [intOf]; omega
      · rw [show (48 + (q : Int) % 10) = 48 + -((q : Int) % 10) by omega] at hcv
        go_wp2
        go_roundw
        case rel =>
          exact ⟨q / 10, _, by omega, hs.2, by go_num, val_str (str_cons _ _), hs.1, hbel.alloc hbel.size _⟩
        case measure => simp [intOf]; omega
    · have hs : Hid (l = dec m) := Lib.hid (hsf.1 (by omega))
      go_wp2
      go_ret
      exact ⟨ret_str (by rw [HE.out, hs.out, Int.natAbs_neg, Int.natAbs_natCast]; exact ByteArray.mk_append_mk [45] _), hbel⟩
set_option maxRecDepth 100000 in
theorem sFmt_any (n : Int) (hl : -9223372036854775808 ≤ n) (hh : n ≤ 9223372036854775807) (w : World) :
    Calls Tryz.prog 57 #[.int .i64 n] w fun e w' => e = .returned (.string (fmtS n)) ∧ Below w.heap.size w w' := by
  by_cases h : n < 0
  · exact sFmt_neg n hl h w
  · by_cases h0 : 0 < n
    · exact sFmt_pos n h0 hh w
    · obtain rfl : n = 0 := by omega
      go_enter Tryz.func57, Tryz.ntmps57
      go_wp2
      go_ret
      exact ⟨ret_str (by rw [fmtS_pos (by omega), show (0 : Int).natAbs = 0 from rfl, dec_small (by omega)]; rfl), Below.refl _ _⟩
end Go.Proofs.YtkifdbeklagelaaGreatDoor
