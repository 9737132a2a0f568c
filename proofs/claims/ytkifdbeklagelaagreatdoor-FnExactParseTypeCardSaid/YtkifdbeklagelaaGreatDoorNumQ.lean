/- MERGED for a claim: NumW NumV NumU NumR NumQ. -/
import Derived.Test.YtkifdbeklagelaaGreatDoorBase
import Derived.Test.YtkifdbeklagelaaGreatDoorNumPlain
import Derived.Test.YtkifdbeklagelaaGreatDoorIn
import Derived.Test.YtkifdbeklagelaaGreatDoorDig
import Derived.Lib.Strings
set_option linter.unusedVariables false
set_option linter.unusedSimpArgs false
/- CONTRACTS OF CHAPTER 1: what spec's and impl's functions on numbers return, and what becomes of the world. -/
namespace Go.Proofs.YtkifdbeklagelaaGreatDoor
open Go.RowKit NumP

set_option maxRecDepth 100000 in
theorem sMax_any (a b : Int) (w : World) :
    Calls Tryz.prog 112 #[.int .i64 a, .int .i64 b] w fun e w' => e = .returned (.int .i64 (max a b)) ∧ w = w' := by
  by_cases h : a < b
  all_goals
    go_enter Tryz.func112, Tryz.ntmps112
    go_wp2
    go_ret
    exact ⟨ret_int (by omega), rfl⟩
theorem u64_of_pos {n : Int} (h : 0 ≤ n) (hh : n ≤ 9223372036854775807) : IntKind.u64.wrap n = n.natAbs := by
  simp [IntKind.wrap, IntKind.signed, IntKind.bits]; omega
theorem u64_of_neg {n : Int} (h : n < 0) (hl : -9223372036854775808 ≤ n) : IntKind.u64.wrap (-(IntKind.u64.wrap n)) = n.natAbs := by
  simp [IntKind.wrap, IntKind.signed, IntKind.bits]; omega
set_option maxRecDepth 100000 in
theorem iMag_any (n : Int) (hl : -9223372036854775808 ≤ n) (hh : n ≤ 9223372036854775807) (w : World) :
    Calls Tryz.prog 129 #[.int .i64 n] w fun e w' => e = .returned (.int .u64 n.natAbs) ∧ w = w' := by
  by_cases h : n < 0
  all_goals
    go_enter Tryz.func129, Tryz.ntmps129
    go_wp2
    go_ret
    first | exact ⟨ret_int (u64_of_neg h hl), rfl⟩ | exact ⟨ret_int (u64_of_pos (by omega) hh), rfl⟩ | exact ⟨ret_int (by omega), rfl⟩
set_option maxRecDepth 100000 in
theorem iCount_any (m : Nat) (hm : m < 18446744073709551616) (w : World) :
    Calls Tryz.prog 131 #[.int .u64 m] w fun e w' => e = .returned (.int .i64 (ndig m)) ∧ w = w' := by
  go_enter Tryz.func131, Tryz.ntmps131
  go_wp2
  go_loop [0, 3] (fun s c => ∃ k q : Nat, q < 18446744073709551616 ∧ k + ndig q = ndig m + 1 ∧ 1 ≤ k ∧ k ≤ 21 ∧ s = .int .u64 q ∧ c = .int .i64 k) (fun s _ => (intOf s).toNat)
  case atStart => exact ⟨1, m, hm, by omega, by omega, by omega, rfl, rfl⟩
  case round =>
    obtain ⟨k, q, hq, hk, hk1, hk2, rfl, rfl⟩ := hrel
    have hb := ndig_le20 hm
    have hp := ndig_pos q
    by_cases h : 10 ≤ q
    · have HS : Hid (ndig q = ndig (q / 10) + 1) := Lib.hid (ndig_big h)
      have hp' := ndig_pos (q / 10)
      have hk' : Hid (k + ndig q = ndig m + 1) := Lib.hid hk
      have hk3 : k ≤ 19 := by rw [HS.out] at hk; omega
      clear hk
      go_wp2
      go_round
      case rel => exact ⟨k + 1, q / 10, by omega, by have := hk'.out; rw [HS.out] at this; omega, by omega, by omega, by go_num, by go_num⟩
      case measure => simp [intOf]; omega
    · have HS : Hid (ndig q = 1) := Lib.hid (ndig_small (by omega))
      have hk' : Hid (k + ndig q = ndig m + 1) := Lib.hid hk
      clear hk
      go_wp2
      go_ret
      exact ⟨ret_int (by have := hk'.out; rw [HS.out] at this; omega), rfl⟩
end Go.Proofs.YtkifdbeklagelaaGreatDoor

/- CONTRACTS OF CHAPTER 1, SECOND PART: the functions that make a text. -/
namespace Go.Proofs.YtkifdbeklagelaaGreatDoor
open Go.RowKit NumP

theorem drop_set_at {l : List UInt8} {j : Nat} {x : UInt8} (h : j < l.length) : (l.set j x).drop j = x :: l.drop (j + 1) := by
  rw [List.drop_eq_getElem_cons (by simpa using h), List.getElem_set_self, List.drop_set]
  simp
/-- the digits from place c - k on stand; the rest is to come -/
theorem fill_step {c k q m : Nat} {l : List UInt8} (hl : l.length = c) (hk : k < c) (h : pad (c - k) q ++ l.drop (c - k) = dec m) :
    (l.set (c - 1 - k) (UInt8.ofNat (48 + q % 10))).length = c ∧ pad (c - (k + 1)) (q / 10) ++ (l.set (c - 1 - k) (UInt8.ofNat (48 + q % 10))).drop (c - (k + 1)) = dec m := by
  refine ⟨by simpa using hl, ?_⟩
  rw [← h]
  have e1 : c - k = (c - (k + 1)) + 1 := by omega
  have e2 : c - 1 - k = c - (k + 1) := by omega
  rw [e1, pad, e2, drop_set_at (by omega), List.append_assoc]; rfl
theorem fill_done {c m q : Nat} {l : List UInt8} (h : pad (c - c) q ++ l.drop (c - c) = dec m) : l = dec m := by
  simpa [pad] using h
set_option maxRecDepth 100000 in
set_option maxHeartbeats 400000 in
theorem iDigits_any (m : Nat) (hm : m < 18446744073709551616) (w : World) :
    Calls Tryz.prog 130 #[.int .u64 m, .int .i64 (ndig m)] w fun e w' => e = .returned (.string ⟨(dec m).toArray⟩) ∧ Below w.heap.size w w' := by
  obtain ⟨i0, hi, hz0, hz1, hz2⟩ := info_parts infoU8
  obtain ⟨c, hc⟩ : ∃ c, c = ndig m := ⟨_, rfl⟩
  have hb := ndig_le20 hm
  have hp := ndig_pos m
  have hpad := pad_ndig m
  have hlen := dec_length m
  rw [← hc] at hb hp hpad hlen ⊢
  have HP : Hid (pad c m = dec m) := Lib.hid hpad
  have HL : Hid ((dec m).length = c) := Lib.hid hlen
  have HC : Hid (c = ndig m) := Lib.hid hc
  clear hpad hlen hc
  go_enter Tryz.func130, Tryz.ntmps130
  have hb2 : i0.bytes * c ≤ 281474976710656 := by rw [hz2]; omega
  have hb3 : c ≤ maxLen := by unfold maxLen; omega
  have HZ : Hid (i0.bytes = 1) := Lib.hid hz2
  clear hz2
  go_wp2_with (at_make; go_loud (refine wpList_make_full _ rfl _ _ 84 rfl w.heap.size 5 i0 (.int .u8 0) 1 Tryz.underlying84 hi hz0 hz1 _ _ _ _ c rfl rfl rfl rfl hb2 hb3 (Nat.le_refl _) ?_); intro w1 hown1 hg1)
  have hown0 : w1.ownsRow w.heap.size 5 1 (.slice (some ⟨w.heap.size, 0, none⟩) c c) c ((List.replicate c (0 : UInt8)).map u8v) := by
    have := hown1
    rw [show (Value.int .u8 0).cells = #[.int .u8 0] from rfl, toList_madeCells_one, Nat.mul_one] at this
    simpa [u8v] using this
  have hbel1 : Below w.heap.size w w1 := (Below.refl _ _).grown hg1 (Nat.le_refl _) (by simp)
  clear hown1 hg1
  go_loopw [0, 10] (fun s i wr => ∃ (k q : Nat) (l : List UInt8), q < 18446744073709551616 ∧ k ≤ c ∧ s = .int .u64 q ∧ i = .int .i64 k ∧ l.length = c ∧ pad (c - k) q ++ l.drop (c - k) = dec m ∧
      wr.ownsRow w.heap.size 5 1 (.slice (some ⟨w.heap.size, 0, none⟩) c c) c (l.map u8v) ∧ Below w.heap.size w wr) (fun _ i _ => c - (intOf i).toNat)
  case atStart => exact ⟨0, m, List.replicate c 0, hm, Nat.zero_le _, rfl, rfl, by simp, by rw [Nat.sub_zero, HP.out]; simp, hown0, hbel1⟩
  case round =>
    obtain ⟨k, q, l, hq, hk, rfl, rfl, hl, hpd, hown, hbel⟩ := hrel
    have HLL : Hid (l.length = c) := Lib.hid hl
    have HPD : Hid (pad (c - k) q ++ l.drop (c - k) = dec m) := Lib.hid hpd
    clear hl hpd
    by_cases hlt : k < c
    · have hfr := hown.frozenAt (c - 1 - k)
      have hcell : wr.cell? ⟨w.heap.size, c - 1 - k, none⟩ = some (u8v (l[c - 1 - k]'(by have := HLL.out; omega))) := by
        rw [hown.cellAt _ (by omega), List.getElem?_map, List.getElem?_eq_getElem (by have := HLL.out; omega)]; rfl
      have hst := hown.stored (c - 1 - k) (u8v (UInt8.ofNat (48 + q % 10)))
      have HST : Hid _ := Lib.hid hst
      clear hst
      go_wp2
      go_roundw
      case rel =>
        have hs := HST.out
        have hd := digit_byte q
        have hf := fill_step HLL.out hlt HPD.out
        refine ⟨k + 1, q / 10, l.set (c - 1 - k) (UInt8.ofNat (48 + q % 10)), by omega, by omega, by go_num, by go_num, hf.1, hf.2, ?_, ?_⟩
        · rw [List.map_set]; rw [hd] at hs; rw [hd]; exact hs.1
        · exact hbel.setCell (by simp) _
      case measure => simp [intOf]; omega
    · obtain rfl : k = c := by omega
      have hcv := run_convert_bytes_back (P := Tryz.prog) wr 84 9 5 ⟨w.heap.size, 0, none⟩ k l Tryz.underlying84 Tryz.underlying5 Tryz.underlying9 (fun j hj => hown.cells (g := w.heap.size) rfl j _ (by rw [List.getElem?_map, List.getElem?_eq_getElem hj]; rfl))
      rw [HLL.out] at hcv
      go_wp2
      go_ret
      exact ⟨ret_str (by rw [fill_done HPD.out]), hbel⟩

set_option maxRecDepth 100000 in
set_option maxHeartbeats 400000 in
theorem iFmt_any (n : Int) (hl : -9223372036854775808 ≤ n) (hh : n ≤ 9223372036854775807) (w : World) :
    Calls Tryz.prog 92 #[.int .i64 n] w fun e w' => e = .returned (.string (fmtS n)) ∧ Below w.heap.size w w' := by
  have hsz : (dec n.natAbs).length ≤ 20 := by rw [dec_length]; exact ndig_le20 (by omega)
  by_cases h : n < 0
  · have e1 := fmtS_neg h
    have HE : Hid (fmtS n = _) := Lib.hid e1
    clear e1
    go_enter Tryz.func92, Tryz.ntmps92
    go_wp2_with (first
      | (go_at_call 129; refine (iMag_any n hl hh _).mono ?_; rintro e w' ⟨rfl, rfl⟩)
      | (go_at_call 131; refine (iCount_any n.natAbs (by omega) _).mono ?_; rintro e w' ⟨rfl, rfl⟩)
      | (go_at_call 130; refine (iDigits_any n.natAbs (by omega) _).mono ?_; rintro e w' ⟨rfl, hb⟩))
    go_ret
    exact ⟨ret_str (by rw [HE.out]; exact ByteArray.mk_append_mk [45] _), hb⟩
  · have e1 := fmtS_pos (n := n) (by omega)
    have HE : Hid (fmtS n = _) := Lib.hid e1
    clear e1
    go_enter Tryz.func92, Tryz.ntmps92
    go_wp2_with (first
      | (go_at_call 129; refine (iMag_any n hl hh _).mono ?_; rintro e w' ⟨rfl, rfl⟩)
      | (go_at_call 131; refine (iCount_any n.natAbs (by omega) _).mono ?_; rintro e w' ⟨rfl, rfl⟩)
      | (go_at_call 130; refine (iDigits_any n.natAbs (by omega) _).mono ?_; rintro e w' ⟨rfl, hb⟩))
    go_ret
    exact ⟨ret_str (by rw [HE.out]), hb⟩

end Go.Proofs.YtkifdbeklagelaaGreatDoor

/- CONTRACTS OF CHAPTER 1, THIRD PART: spec.FormatInt. -/
namespace Go.Proofs.YtkifdbeklagelaaGreatDoor
open Go.RowKit NumP

set_option maxRecDepth 100000 in
set_option maxHeartbeats 400000 in
theorem sFmt_pos (n : Int) (hl : 0 < n) (hh : n ≤ 9223372036854775807) (w : World) :
    Calls Tryz.prog 57 #[.int .i64 n] w fun e w' => e = .returned (.string (fmtS n)) ∧ Below w.heap.size w w' := by
  obtain ⟨m, rfl⟩ : ∃ m : Nat, n = m := ⟨n.toNat, by omega⟩
  have HE : Hid (fmtS m = _) := Lib.hid (fmtS_pos (n := m) (by omega))
  go_enter Tryz.func57, Tryz.ntmps57
  go_wp2
  go_loopw [3, 4] (fun s x wr => ∃ (q : Nat) (l : List UInt8), q ≤ 9223372036854775807 ∧ l.length ≤ 20 ∧ x = .int .i64 q ∧ s = .string ⟨l.toArray⟩ ∧ SF m q l ∧ Below w.heap.size w wr) (fun _ x _ => (intOf x).toNat)
  case atStart => exact ⟨m, [], by omega, by simp, rfl, rfl, ⟨fun h => by omega, fun _ => by simp⟩, Below.refl _ _⟩
  case round =>
    obtain ⟨q, l, hq, hll, rfl, rfl, hsf, hbel⟩ := hrel
    by_cases h0 : 0 < q
    · obtain ⟨b, hb⟩ : ∃ b, b = UInt8.ofNat (48 + q % 10) := ⟨_, rfl⟩
      have hcv := conv_one wr b
      have hs := SF_step (by omega) h0 hsf
      rw [hb, digit_byte, ← hb] at hcv
      rw [← hb] at hs
      clear hb
      go_wp2
      go_roundw
      case rel =>
        exact ⟨q / 10, _, by omega, hs.2, by go_num, val_str (str_cons _ _), hs.1, hbel.alloc hbel.size _⟩
      case measure => simp [intOf]; omega
    · go_wp2
      go_ret
      exact ⟨ret_str (by rw [HE.out, hsf.1 (by omega)]; rfl), hbel⟩
theorem tdiv_neg (q : Nat) : (-(q : Int)).tdiv 10 = -((q / 10 : Nat) : Int) := by rw [Int.neg_tdiv]; rfl
theorem tmod_neg (q : Nat) : (-(q : Int)).tmod 10 = -((q % 10 : Nat) : Int) := by rw [Int.neg_tmod]; rfl
set_option maxRecDepth 100000 in
set_option maxHeartbeats 400000 in
theorem sFmt_neg (n : Int) (hl : -9223372036854775808 ≤ n) (hh : n < 0) (w : World) :
    Calls Tryz.prog 57 #[.int .i64 n] w fun e w' => e = .returned (.string (fmtS n)) ∧ Below w.heap.size w w' := by
  obtain ⟨m, rfl⟩ : ∃ m : Nat, n = -(m : Int) := ⟨n.natAbs, by omega⟩
  have HE : Hid (fmtS (-(m : Int)) = _) := Lib.hid (fmtS_neg (n := -(m : Int)) (by omega))
  go_enter Tryz.func57, Tryz.ntmps57
  go_wp2
  go_loopw [3, 4] (fun s x wr => ∃ (q : Nat) (l : List UInt8), q ≤ 9223372036854775808 ∧ l.length ≤ 20 ∧ x = .int .i64 (-(q : Int)) ∧ s = .string ⟨l.toArray⟩ ∧ SF m q l ∧ Below w.heap.size w wr) (fun _ x _ => (intOf x).natAbs)
  case atStart => exact ⟨m, [], by omega, by simp, rfl, rfl, ⟨fun h => by omega, fun _ => by simp⟩, Below.refl _ _⟩
  case round =>
    obtain ⟨q, l, hq, hll, rfl, rfl, hsf, hbel⟩ := hrel
    by_cases h0 : 0 < q
    · obtain ⟨b, hb⟩ : ∃ b, b = UInt8.ofNat (48 + q % 10) := ⟨_, rfl⟩
      have hcv := conv_one wr b
      have hs := SF_step (by omega) h0 hsf
      rw [hb, digit_byte, ← hb] at hcv
      rw [← hb] at hs
      clear hb
      have ht1 := tdiv_neg q
      have ht2 := tmod_neg q
      by_cases h1 : 0 < q % 10
      · go_wp2
        go_roundw
        case rel =>
          exact ⟨q / 10, _, by omega, hs.2, by go_num, val_str (str_cons _ _), hs.1, hbel.alloc hbel.size _⟩
        case measure => simp [intOf]; omega
      · rw [show (48 + (q : Int) % 10) = 48 + -((q : Int) % 10) by omega] at hcv
        go_wp2
        go_roundw
        case rel =>
          exact ⟨q / 10, _, by omega, hs.2, by go_num, val_str (str_cons _ _), hs.1, hbel.alloc hbel.size _⟩
        case measure => simp [intOf]; omega
    · have hs : Hid (l = dec m) := Lib.hid (hsf.1 (by omega))
      go_wp2
      go_ret
      exact ⟨ret_str (by rw [HE.out, hs.out, Int.natAbs_neg, Int.natAbs_natCast]; exact ByteArray.mk_append_mk [45] _), hbel⟩
set_option maxRecDepth 100000 in
theorem sFmt_any (n : Int) (hl : -9223372036854775808 ≤ n) (hh : n ≤ 9223372036854775807) (w : World) :
    Calls Tryz.prog 57 #[.int .i64 n] w fun e w' => e = .returned (.string (fmtS n)) ∧ Below w.heap.size w w' := by
  by_cases h : n < 0
  · exact sFmt_neg n hl h w
  · by_cases h0 : 0 < n
    · exact sFmt_pos n h0 hh w
    · obtain rfl : n = 0 := by omega
      go_enter Tryz.func57, Tryz.ntmps57
      go_wp2
      go_ret
      exact ⟨ret_str (by rw [fmtS_pos (by omega), show (0 : Int).natAbs = 0 from rfl, dec_small (by omega)]; rfl), Below.refl _ _⟩
end Go.Proofs.YtkifdbeklagelaaGreatDoor

/- CONTRACTS OF CHAPTER 1, FOURTH PART: the functions that read a text. -/
namespace Go.Proofs.YtkifdbeklagelaaGreatDoor
open Go.RowKit NumP

/-- what a reader returns: the number and true; 0 and false where there is none -/
def tupI : Option Int → Value
  | none => .tuple #[.int .i64 0, .bool false]
  | some n => .tuple #[.int .i64 n, .bool true]
def tupN (o : Option Nat) : Value := tupI (o.map Int.ofNat)
theorem tupN_none {l : List UInt8} (h : rdL l = none) : tupN (rdL l) = .tuple #[.int .i64 0, .bool false] := by rw [h]; rfl
theorem tupN_some {l : List UInt8} {m : Nat} (h : rdL l = some m) : tupN (rdL l) = .tuple #[.int .i64 m, .bool true] := by rw [h]; rfl

theorem rdGo_dig {n : Nat} {c : UInt8} {r : List UInt8} (h1 : 48 ≤ c.toNat) (h2 : c.toNat ≤ 57) (h3 : n * 10 + (c.toNat - 48) ≤ 1000000000) : rdGo n (c :: r) = rdGo (n * 10 + (c.toNat - 48)) r := by
  rw [rdGo, if_pos ⟨h1, h2⟩, if_pos h3]
theorem rdGo_big {n : Nat} {c : UInt8} {r : List UInt8} (h3 : 1000000000 < n * 10 + (c.toNat - 48)) : rdGo n (c :: r) = none := by
  rw [rdGo]; split
  · rw [if_neg (by omega)]
  · rfl
theorem rdGo_bad {n : Nat} {c : UInt8} {r : List UInt8} (h : c.toNat < 48 ∨ 57 < c.toNat) : rdGo n (c :: r) = none := by
  rw [rdGo, if_neg (by omega)]
theorem rdL_of {l : List UInt8} {o : Option Nat} (h : l ≠ []) (e : rdGo 0 l = o) : rdL l = o := by unfold rdL; rw [if_neg h, e]
theorem end_none {l : List UInt8} (h : l ≠ []) (e : rdGo 0 l = none) : Value.tuple #[.int .i64 0, .bool false] = tupN (rdL l) := by rw [rdL_of h e]; rfl
theorem end_some {l : List UInt8} {m : Nat} (h : l ≠ []) (e : rdGo 0 l = some m) : Value.tuple #[.int .i64 m, .bool true] = tupN (rdL l) := by rw [rdL_of h e]; rfl

set_option maxRecDepth 100000 in
set_option maxHeartbeats 400000 in
theorem iDig_any (s : ByteArray) (hs : s.size ≤ maxLen) (w : World) :
    Calls Tryz.prog 192 #[.string s] w fun e w' => e = .returned (tupN (rdL s.data.toList)) ∧ w = w' := by
  unfold maxLen at hs
  by_cases h0 : s.size = 0
  · have he : s = ⟨#[]⟩ := by apply ByteArray.ext; exact Array.eq_empty_of_size_eq_zero h0
    subst he
    go_enter Tryz.func192, Tryz.ntmps192
    go_wp2
    go_ret2
    exact ⟨ret_val rfl, rfl⟩
  · have hne : s.toList.isEmpty = false := not_empty (by omega)
    have HN : Hid (s.data.toList ≠ []) := Lib.hid (data_ne (by omega))
    go_enter Tryz.func192, Tryz.ntmps192
    go_wp2
    go_loop [4, 10] (fun x i => ∃ k n : Nat, k ≤ s.size ∧ n ≤ 1000000000 ∧ x = .int .i64 n ∧ i = .int .i64 k ∧ rdGo 0 s.data.toList = rdGo n (s.data.toList.drop k)) (fun _ i => s.size - (intOf i).toNat)
    case atStart => exact ⟨0, 0, by omega, by omega, rfl, rfl, rfl⟩
    case round =>
      obtain ⟨k, n, hk, hn, rfl, rfl, hr⟩ := hrel
      have HR := Lib.hid hr
      clear hr
      by_cases hlt : k < s.size
      · have HD := Lib.hid (data_drop s k hlt)
        go_wp2
        all_goals first
          | (go_round
             case rel => exact ⟨k + 1, n * 10 + (s[k].toNat - 48), by omega, by omega, by go_num, by go_num, HR.out.trans (by rw [HD.out, rdGo_dig (by omega) (by omega) (by omega)])⟩
             case measure => simp [intOf]; omega)
          | (go_ret2
             exact ⟨ret_val (end_none HN.out (HR.out.trans (by rw [HD.out]; first | exact rdGo_bad (by omega) | exact rdGo_big (by omega)))), rfl⟩)
      · go_wp2
        go_ret2
        exact ⟨ret_val (end_some HN.out (HR.out.trans (by rw [List.drop_eq_nil_of_le (by simp; omega), rdGo]))), rfl⟩

set_option maxRecDepth 100000 in
set_option maxHeartbeats 400000 in
theorem sDig_any (s : ByteArray) (hs : s.size ≤ maxLen) (w : World) :
    Calls Tryz.prog 159 #[.string s] w fun e w' => e = .returned (tupN (rdL s.data.toList)) ∧ w = w' := by
  unfold maxLen at hs
  by_cases h0 : s.size = 0
  · have he : s = ⟨#[]⟩ := by apply ByteArray.ext; exact Array.eq_empty_of_size_eq_zero h0
    subst he
    go_enter Tryz.func159, Tryz.ntmps159
    go_wp2
    go_loop [4, 5] (fun x i => x = .int .i64 0 ∧ i = .int .i64 0) (fun _ i => 0)
    case atStart => exact ⟨rfl, rfl⟩
    case round =>
      obtain ⟨rfl, rfl⟩ := hrel
      go_wp2
      go_ret2
      exact ⟨ret_val rfl, rfl⟩
  · have HN : Hid (s.data.toList ≠ []) := Lib.hid (data_ne (by omega))
    go_enter Tryz.func159, Tryz.ntmps159
    go_wp2
    go_loop [4, 5] (fun x i => ∃ k n : Nat, k ≤ s.size ∧ n ≤ 1000000000 ∧ x = .int .i64 n ∧ i = .int .i64 k ∧ rdGo 0 s.data.toList = rdGo n (s.data.toList.drop k)) (fun _ i => s.size - (intOf i).toNat)
    case atStart => exact ⟨0, 0, by omega, by omega, rfl, rfl, rfl⟩
    case round =>
      obtain ⟨k, n, hk, hn, rfl, rfl, hr⟩ := hrel
      have HR := Lib.hid hr
      clear hr
      by_cases hlt : k < s.size
      · have HD := Lib.hid (data_drop s k hlt)
        by_cases hin : 48 ≤ (s[k].toNat : Int) ∧ (s[k].toNat : Int) ≤ 57
        · obtain ⟨hi1, hi2⟩ := hin
          go_wp2_with (go_at_call 55; refine (sIn_yes _ _ _ _ (by omega) (by omega)).mono ?_; rintro e w' ⟨rfl, rfl⟩)
          · go_ret2
            exact ⟨ret_val (end_none HN.out (HR.out.trans (by rw [HD.out]; exact rdGo_big (by omega)))), rfl⟩
          · go_round
            case rel => exact ⟨k + 1, n * 10 + (s[k].toNat - 48), by omega, by omega, by go_num, by go_num, HR.out.trans (by rw [HD.out, rdGo_dig (by omega) (by omega) (by omega)])⟩
            case measure => simp [intOf]; omega
        · have hi' : Hid (s[k].toNat < 48 ∨ 57 < s[k].toNat) := Lib.hid (by omega)
          clear hin
          have hby : (s[k].toNat : Int) ≤ 255 := by have := s[k].toNat_lt; omega
          go_wp2_with (go_at_call 55; refine (sIn_no _ _ _ _ (by have := hi'.out; omega)).mono ?_; rintro e w' ⟨rfl, rfl⟩)
          go_ret2
          exact ⟨ret_val (end_none HN.out (HR.out.trans (by rw [HD.out]; exact rdGo_bad hi'.out))), rfl⟩
      · have hlt' : s.size ≤ k := by omega
        clear hlt
        have hd0 : decide (0 < s.size) = true := by simp; omega
        go_wp2
        go_ret2
        exact ⟨ret_val (end_some HN.out (HR.out.trans (by rw [List.drop_eq_nil_of_le (by simp; omega), rdGo]))), rfl⟩

def unS (s : ByteArray) : ByteArray := ⟨(unsign s.data.toList).toArray⟩
theorem unS_data (s : ByteArray) : (unS s).data.toList = unsign s.data.toList := by simp [unS]
theorem unS_size (s : ByteArray) : (unS s).size ≤ s.size := by
  have e : (unS s).size = (unsign s.data.toList).length := by simp [unS, ByteArray.size]
  have e2 : s.size = s.data.toList.length := by simp
  rw [e, e2]
  cases s.data.toList with
  | nil => simp [unsign]
  | cons c r => simp only [unsign]; split <;> simp
theorem unS_sign {s : ByteArray} (h : 0 < s.size) (h' : s[0] = 45 ∨ s[0] = 43) : s.extract 1 s.size = unS s := by
  apply ByteArray.ext
  apply Array.toList_inj.1
  rw [unS_data, Lib.extract_data, data_cons s h, unsign, if_pos h']
  simp
  exact List.take_of_length_le (by simp)
theorem unS_plain {s : ByteArray} (h : 0 < s.size) (h' : ¬ (s[0] = 45 ∨ s[0] = 43)) : s = unS s := by
  apply ByteArray.ext
  apply Array.toList_inj.1
  rw [unS_data, data_cons s h, unsign, if_neg h']
theorem minus_of {s : ByteArray} (h : 0 < s.size) : minus s.data.toList = (s[0] == 45) := by rw [data_cons s h]; rfl
set_option maxRecDepth 100000 in
set_option maxHeartbeats 400000 in
theorem iUn_any (s : ByteArray) (hs : s.size ≤ maxLen) (w : World) :
    Calls Tryz.prog 193 #[.string s] w fun e w' => e = .returned (.string (unS s)) ∧ w = w' := by
  unfold maxLen at hs
  by_cases h0 : s.size = 0
  · have he : s = ⟨#[]⟩ := by apply ByteArray.ext; exact Array.eq_empty_of_size_eq_zero h0
    subst he
    go_enter Tryz.func193, Tryz.ntmps193
    go_wp2
    go_ret
    exact ⟨ret_str rfl, rfl⟩
  · have hp : 0 < s.size := by omega
    have hne : s.toList.isEmpty = false := not_empty hp
    go_enter Tryz.func193, Tryz.ntmps193
    go_wp2
    · go_ret
      exact ⟨ret_str (unS_sign hp (Or.inl (byte_eq (d := 45) ‹_›))), rfl⟩
    · go_ret
      have h : ((s[0].toNat : Int) == 45) = true ∨ ((s[0].toNat : Int) == 43) = true := by assumption
      exact ⟨ret_str (unS_sign hp (h.elim (fun h => .inl (byte_eq (d := 45) (by simpa using h))) (fun h => .inr (byte_eq (d := 43) (by simpa using h))))), rfl⟩
    · go_ret
      have h : ((s[0].toNat : Int) == 45) = false ∧ ((s[0].toNat : Int) == 43) = false := by assumption
      exact ⟨ret_str (unS_plain hp (by rintro (e | e) <;> simp [e] at h)), rfl⟩

/-! the two readers at what stands behind the sign -/
theorem iDig_none (s : ByteArray) (hs : s.size ≤ maxLen) (w : World) (h : rdL s.data.toList = none) :
    Calls Tryz.prog 192 #[.string s] w fun e w' => e = .returned (.tuple #[.int .i64 0, .bool false]) ∧ w = w' :=
  (iDig_any s hs w).mono fun _ _ ⟨he, hw⟩ => ⟨by rw [he, tupN_none h], hw⟩
theorem iDig_some (s : ByteArray) (hs : s.size ≤ maxLen) (w : World) (m : Nat) (h : rdL s.data.toList = some m) :
    Calls Tryz.prog 192 #[.string s] w fun e w' => e = .returned (.tuple #[.int .i64 m, .bool true]) ∧ w = w' :=
  (iDig_any s hs w).mono fun _ _ ⟨he, hw⟩ => ⟨by rw [he, tupN_some h], hw⟩
theorem sDig_none (s : ByteArray) (hs : s.size ≤ maxLen) (w : World) (h : rdL s.data.toList = none) :
    Calls Tryz.prog 159 #[.string s] w fun e w' => e = .returned (.tuple #[.int .i64 0, .bool false]) ∧ w = w' :=
  (sDig_any s hs w).mono fun _ _ ⟨he, hw⟩ => ⟨by rw [he, tupN_none h], hw⟩
theorem sDig_some (s : ByteArray) (hs : s.size ≤ maxLen) (w : World) (m : Nat) (h : rdL s.data.toList = some m) :
    Calls Tryz.prog 159 #[.string s] w fun e w' => e = .returned (.tuple #[.int .i64 m, .bool true]) ∧ w = w' :=
  (sDig_any s hs w).mono fun _ _ ⟨he, hw⟩ => ⟨by rw [he, tupN_some h], hw⟩

theorem read_none {s : ByteArray} (h : rdL (unS s).data.toList = none) : Value.tuple #[.int .i64 0, .bool false] = tupI (readL s.data.toList) := by
  rw [unS_data] at h; unfold readL; rw [h]; rfl
theorem read_neg {s : ByteArray} {m : Nat} (h : rdL (unS s).data.toList = some m) (h0 : 0 < s.size) (h1 : s[0] = 45) : Value.tuple #[.int .i64 (-(m : Int)), .bool true] = tupI (readL s.data.toList) := by
  rw [unS_data] at h; unfold readL; rw [h, minus_of h0, h1]; rfl
theorem read_pos {s : ByteArray} {m : Nat} (h : rdL (unS s).data.toList = some m) (h0 : 0 < s.size) (h1 : s[0] ≠ 45) : Value.tuple #[.int .i64 (m : Int), .bool true] = tupI (readL s.data.toList) := by
  rw [unS_data] at h; unfold readL; rw [h, minus_of h0, beq_eq_false_iff_ne.2 h1]; rfl
theorem some_size {s : ByteArray} {m : Nat} (h : rdL (unS s).data.toList = some m) : 0 < s.size := by
  have := unS_size s
  have : (unS s).size ≠ 0 := by
    intro e
    have he : unS s = ⟨#[]⟩ := by apply ByteArray.ext; exact Array.eq_empty_of_size_eq_zero e
    rw [he] at h; simp [rdL] at h
  omega

set_option maxRecDepth 100000 in
set_option maxHeartbeats 400000 in
theorem iRead_any (s : ByteArray) (hs : s.size ≤ maxLen) (w : World) :
    Calls Tryz.prog 179 #[.string s] w fun e w' => e = .returned (tupI (readL s.data.toList)) ∧ w = w' := by
  have hu : (unS s).size ≤ maxLen := Nat.le_trans (unS_size s) hs
  cases h : rdL (unS s).data.toList with
  | none =>
    have H := Lib.hid h
    clear h
    go_enter Tryz.func179, Tryz.ntmps179
    go_wp2_with (first
      | (go_at_call 193; refine (iUn_any _ hs _).mono ?_; rintro e w' ⟨rfl, rfl⟩)
      | (go_at_call 192; refine (iDig_none _ hu _ H.out).mono ?_; rintro e w' ⟨rfl, rfl⟩))
    go_ret2
    exact ⟨ret_val (read_none H.out), rfl⟩
  | some m =>
    have h0 := some_size h
    have hm := rdL_le h
    have H := Lib.hid h
    clear h
    by_cases h1 : s[0] = 45
    · have h1' : ((s[0].toNat : Int) == 45) = true := by rw [h1]; rfl
      have H1 := Lib.hid h1
      clear h1
      go_enter Tryz.func179, Tryz.ntmps179
      go_wp2_with (first
        | (go_at_call 193; refine (iUn_any _ hs _).mono ?_; rintro e w' ⟨rfl, rfl⟩)
        | (go_at_call 192; refine (iDig_some _ hu _ m H.out).mono ?_; rintro e w' ⟨rfl, rfl⟩))
      go_ret2
      exact ⟨ret_val (read_neg H.out h0 H1.out), rfl⟩
    · have h1' : ((s[0].toNat : Int) == 45) = false := byte_ne (d := 45) h1
      have H1 := Lib.hid h1
      clear h1
      go_enter Tryz.func179, Tryz.ntmps179
      go_wp2_with (first
        | (go_at_call 193; refine (iUn_any _ hs _).mono ?_; rintro e w' ⟨rfl, rfl⟩)
        | (go_at_call 192; refine (iDig_some _ hu _ m H.out).mono ?_; rintro e w' ⟨rfl, rfl⟩))
      go_ret2
      exact ⟨ret_val (read_pos H.out h0 H1.out), rfl⟩
end Go.Proofs.YtkifdbeklagelaaGreatDoor

/- CONTRACTS OF CHAPTER 1, FIFTH PART: spec.ReadInt; ParseInt of both. -/
namespace Go.Proofs.YtkifdbeklagelaaGreatDoor
open Go.RowKit NumP

theorem plain_data {s : ByteArray} (h : 0 < s.size) (h' : ¬ (s[0] = 45 ∨ s[0] = 43)) : unsign s.data.toList = s.data.toList := by
  rw [← unS_data, ← unS_plain h h']
theorem iRead_none (s : ByteArray) (hs : s.size ≤ maxLen) (w : World) (h : readL s.data.toList = none) :
    Calls Tryz.prog 179 #[.string s] w fun e w' => e = .returned (.tuple #[.int .i64 0, .bool false]) ∧ w = w' :=
  (iRead_any s hs w).mono fun _ _ ⟨he, hw⟩ => ⟨by rw [he, h]; rfl, hw⟩
theorem iRead_some (s : ByteArray) (hs : s.size ≤ maxLen) (w : World) (n : Int) (h : readL s.data.toList = some n) :
    Calls Tryz.prog 179 #[.string s] w fun e w' => e = .returned (.tuple #[.int .i64 n, .bool true]) ∧ w = w' :=
  (iRead_any s hs w).mono fun _ _ ⟨he, hw⟩ => ⟨by rw [he, h]; rfl, hw⟩
theorem fmt_eq {n : Int} {s : ByteArray} (h : fmtL n = s.data.toList) : fmtS n = s := by
  apply ByteArray.ext; apply Array.toList_inj.1; simp [fmtS, h]
theorem fmt_ne {n : Int} {s : ByteArray} (h : fmtL n ≠ s.data.toList) : fmtS n ≠ s := by
  intro e; apply h; rw [← e]; simp [fmtS]
theorem fmt_neB {n : Int} {s : ByteArray} (h : fmtL n ≠ s.data.toList) : (!(fmtS n).toList == s.toList) = true := by
  rw [ByteArray.toList_eq, ByteArray.toList_eq]
  have : ((fmtS n).data.toList == s.data.toList) = false := beq_eq_false_iff_ne.2 (by simpa [fmtS] using h)
  rw [this]; rfl
theorem parse_ok {l : List UInt8} {n : Int} (h : readL l = some n) (hf : fmtL n = l) : Value.tuple #[.int .i64 n, .bool true] = tupI (parseL l) := by
  unfold parseL; rw [h]; simp only [Option.bind_some]; rw [if_pos hf]; rfl
theorem parse_fail {l : List UInt8} {n : Int} (h : readL l = some n) (hf : fmtL n ≠ l) : Value.tuple #[.int .i64 0, .bool false] = tupI (parseL l) := by
  unfold parseL; rw [h]; simp only [Option.bind_some]; rw [if_neg hf]; rfl
theorem parse_none {l : List UInt8} (h : readL l = none) : Value.tuple #[.int .i64 0, .bool false] = tupI (parseL l) := by
  unfold parseL; rw [h]; rfl
set_option maxRecDepth 100000 in
set_option maxHeartbeats 400000 in
theorem iParse_any (s : ByteArray) (hs : s.size ≤ maxLen) (w : World) :
    Calls Tryz.prog 165 #[.string s] w fun e w' => e = .returned (tupI (parseL s.data.toList)) ∧ Below w.heap.size w w' := by
  cases h : readL s.data.toList with
  | none =>
    have H := Lib.hid h
    clear h
    go_enter Tryz.func165, Tryz.ntmps165
    go_wp2_with (go_at_call 179; refine (iRead_none _ hs _ H.out).mono ?_; rintro e w' ⟨rfl, rfl⟩)
    go_ret2
    exact ⟨ret_val (by unfold parseL; rw [H.out]; rfl), Below.refl _ _⟩
  | some n =>
    have hb := readL_bd h
    have H := Lib.hid h
    clear h
    by_cases hf : fmtL n = s.data.toList
    · have HF := Lib.hid hf
      have e1 := fmt_eq hf
      clear hf
      go_enter Tryz.func165, Tryz.ntmps165
      go_wp2_with (first
        | (go_at_call 179; refine (iRead_some _ hs _ n H.out).mono ?_; rintro e w' ⟨rfl, rfl⟩)
        | (go_at_call 92; refine (iFmt_any n (by omega) (by omega) _).mono ?_; rintro e w' ⟨rfl, hb⟩))
      go_ret2
      exact ⟨ret_val (parse_ok H.out HF.out), hb⟩
    · have HF := Lib.hid hf
      have e1 := fmt_neB hf
      clear hf
      go_enter Tryz.func165, Tryz.ntmps165
      go_wp2_with (first
        | (go_at_call 179; refine (iRead_some _ hs _ n H.out).mono ?_; rintro e w' ⟨rfl, rfl⟩)
        | (go_at_call 92; refine (iFmt_any n (by omega) (by omega) _).mono ?_; rintro e w' ⟨rfl, hb⟩))
      go_ret2
      exact ⟨ret_val (parse_fail H.out HF.out), hb⟩

theorem str_none {s : ByteArray} (h : ¬ 0 < s.size) : s = ⟨#[]⟩ := by apply ByteArray.ext; exact Array.eq_empty_of_size_eq_zero (by show s.size = 0; omega)
theorem readL_neg {s : ByteArray} {m : Nat} (h : rdL (unS s).data.toList = some m) (h0 : 0 < s.size) (h1 : s[0] = 45) : readL s.data.toList = some (-(m : Int)) := by
  rw [unS_data] at h; unfold readL; rw [h, minus_of h0, h1]; rfl
theorem readL_pos {s : ByteArray} {m : Nat} (h : rdL s.data.toList = some m) (h0 : 0 < s.size) : s[0] ≠ 45 ∧ s[0] ≠ 43 ∧ readL s.data.toList = some (m : Int) := by
  have hd := data_cons s h0
  have hn : s[0] ≠ 45 ∧ s[0] ≠ 43 := by
    rw [hd] at h
    unfold rdL at h
    rw [if_neg (by simp), rdGo] at h
    split at h
    · rename_i hc
      constructor <;> intro e <;> rw [e] at hc <;> simp at hc
    · cases h
  refine ⟨hn.1, hn.2, ?_⟩
  unfold readL
  rw [plain_data h0 (by simp [hn.1, hn.2]), h, minus_of h0, beq_eq_false_iff_ne.2 hn.1]; rfl
theorem parse_bad {s : ByteArray} (h : rdL s.data.toList = none) (h0 : 0 < s.size) (h1 : s[0] ≠ 45) : Value.tuple #[.int .i64 0, .bool false] = tupI (parseL s.data.toList) := by
  by_cases h2 : s[0] = 43
  · cases hr : readL s.data.toList with
    | none => rw [← parse_none hr]
    | some n =>
      refine parse_fail hr ?_
      rw [data_cons s h0, h2]
      exact fmtL_plus n _
  · refine parse_none ?_
    unfold readL
    rw [plain_data h0 (by simp [h1, h2]), h]; rfl

set_option maxRecDepth 100000 in
set_option maxHeartbeats 1000000 in
theorem sParse_any (s : ByteArray) (hs : s.size ≤ maxLen) (w : World) :
    Calls Tryz.prog 134 #[.string s] w fun e w' => e = .returned (tupI (parseL s.data.toList)) ∧ Below w.heap.size w w' := by
  have hu : (unS s).size ≤ maxLen := Nat.le_trans (unS_size s) hs
  by_cases h0 : 0 < s.size
  · by_cases h45 : s[0] = 45
    · have h1' : ((s[0].toNat : Int) == 45) = true := by rw [h45]; rfl
      have hx := unS_sign h0 (.inl h45)
      have H1 := Lib.hid h45
      clear h45
      cases h : rdL (unS s).data.toList with
      | none =>
        have H := Lib.hid h
        clear h
        go_enter Tryz.func134, Tryz.ntmps134
        go_wp2_with (go_at_call 159; refine (sDig_none _ hu _ H.out).mono ?_; rintro e w' ⟨rfl, rfl⟩)
        go_ret2
        exact ⟨ret_val (parse_none (by have := H.out; rw [unS_data] at this; unfold readL; rw [this]; rfl)), Below.refl _ _⟩
      | some m =>
        have hm := rdL_le h
        have HR := Lib.hid (readL_neg h h0 H1.out)
        have H := Lib.hid h
        clear h
        by_cases hf : fmtL (-(m : Int)) = s.data.toList
        · have HF := Lib.hid hf
          have e1 := fmt_eq hf
          clear hf
          go_enter Tryz.func134, Tryz.ntmps134
          go_wp2_with (first
            | (go_at_call 159; refine (sDig_some _ hu _ m H.out).mono ?_; rintro e w' ⟨rfl, rfl⟩)
            | (go_at_call 57; refine (sFmt_any (-(m : Int)) (by omega) (by omega) _).mono ?_; rintro e w' ⟨rfl, hb⟩))
          go_ret2
          exact ⟨ret_val (parse_ok HR.out HF.out), hb⟩
        · have HF := Lib.hid hf
          have e1 := fmt_neB hf
          clear hf
          go_enter Tryz.func134, Tryz.ntmps134
          go_wp2_with (first
            | (go_at_call 159; refine (sDig_some _ hu _ m H.out).mono ?_; rintro e w' ⟨rfl, rfl⟩)
            | (go_at_call 57; refine (sFmt_any (-(m : Int)) (by omega) (by omega) _).mono ?_; rintro e w' ⟨rfl, hb⟩))
          go_ret2
          exact ⟨ret_val (parse_fail HR.out HF.out), hb⟩
    · have h1' : ((s[0].toNat : Int) == 45) = false := byte_ne (d := 45) h45
      have H1 := Lib.hid h45
      clear h45
      cases h : rdL s.data.toList with
      | none =>
        have H := Lib.hid h
        clear h
        go_enter Tryz.func134, Tryz.ntmps134
        go_wp2_with (go_at_call 159; refine (sDig_none _ hs _ H.out).mono ?_; rintro e w' ⟨rfl, rfl⟩)
        go_ret2
        exact ⟨ret_val (parse_bad H.out h0 H1.out), Below.refl _ _⟩
      | some m =>
        have hm := rdL_le h
        have HR := Lib.hid (readL_pos h h0).2.2
        have H := Lib.hid h
        clear h
        by_cases hf : fmtL (m : Int) = s.data.toList
        · have HF := Lib.hid hf
          have e1 := fmt_eq hf
          clear hf
          go_enter Tryz.func134, Tryz.ntmps134
          go_wp2_with (first
            | (go_at_call 159; refine (sDig_some _ hs _ m H.out).mono ?_; rintro e w' ⟨rfl, rfl⟩)
            | (go_at_call 57; refine (sFmt_any (m : Int) (by omega) (by omega) _).mono ?_; rintro e w' ⟨rfl, hb⟩))
          go_ret2
          exact ⟨ret_val (parse_ok HR.out HF.out), hb⟩
        · have HF := Lib.hid hf
          have e1 := fmt_neB hf
          clear hf
          go_enter Tryz.func134, Tryz.ntmps134
          go_wp2_with (first
            | (go_at_call 159; refine (sDig_some _ hs _ m H.out).mono ?_; rintro e w' ⟨rfl, rfl⟩)
            | (go_at_call 57; refine (sFmt_any (m : Int) (by omega) (by omega) _).mono ?_; rintro e w' ⟨rfl, hb⟩))
          go_ret2
          exact ⟨ret_val (parse_fail HR.out HF.out), hb⟩
  · obtain rfl := str_none h0
    go_enter Tryz.func134, Tryz.ntmps134
    go_wp2_with (go_at_call 159; refine (sDig_none ⟨#[]⟩ hs _ rfl).mono ?_; rintro e w' ⟨rfl, rfl⟩)
    go_ret2
    exact ⟨ret_val rfl, Below.refl _ _⟩
end Go.Proofs.YtkifdbeklagelaaGreatDoor
