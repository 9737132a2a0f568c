/- CONTRACTS OF CHAPTER 1, SECOND PART: the functions that make a text. -/
import Derived.Test.YtapalfmjebggfaaDoorNumW
import Derived.Test.YtapalfmjebggfaaDoorDig
namespace Go.Proofs.YtapalfmjebggfaaDoor
open Go.RowKit NumP

theorem drop_set_at {l : List UInt8} {j : Nat} {x : UInt8} (h : j < l.length) : (l.set j x).drop j = x :: l.drop (j + 1) := by
  rw [List.drop_eq_getElem_cons (by simpa using h), List.getElem_set_self, List.drop_set]
  simp
/-- the digits from place c - k on stand; the rest is to come -/
theorem fill_step {c k q m : Nat} {l : List UInt8} (hl : l.length = c) (hk : k < c) (h : pad (c - k) q ++ l.drop (c - k) = dec m) :
    (l.set (c - 1 - k) (UInt8.ofNat (48 + q % 10))).length = c ∧ pad (c - (k + 1)) (q / 10) ++ (l.set (c - 1 - k) (UInt8.ofNat (48 + q % 10))).drop (c - (k + 1)) = dec m := by
  refine ⟨by simpa using hl, ?_⟩
  rw [← h]
  have e1 : c - k = (c - (k + 1)) + 1 := by omega
  have e2 : c - 1 - k = c - (k + 1) := by omega
  rw [e1, pad, e2, drop_set_at (by omega), List.append_assoc]; rfl
theorem fill_done {c m q : Nat} {l : List UInt8} (h : pad (c - c) q ++ l.drop (c - c) = dec m) : l = dec m := by
  simpa [pad] using h
set_option maxRecDepth 100000 in
set_option maxHeartbeats 400000 in
theorem iDigits_any (m : Nat) (hm : m < 18446744073709551616) (w : World) :
    Calls Tryd.prog 65 #[.int .u64 m, .int .i64 (ndig m)] w fun e w' => e = .returned (.string ⟨(dec m).toArray⟩) ∧ Below w.heap.size w w' := by
  obtain ⟨i0, hi, hz0, hz1, hz2⟩ := info_parts infoU8
  obtain ⟨c, hc⟩ : ∃ c, c = ndig m := ⟨_, rfl⟩
  have hb := ndig_le20 hm
  have hp := ndig_pos m
  have hpad := pad_ndig m
  have hlen := dec_length m
  rw [← hc] at hb hp hpad hlen ⊢
  have HP : Hid (pad c m = dec m) := Lib.hid hpad
  have HL : Hid ((dec m).length = c) := Lib.hid hlen
  have HC : Hid (c = ndig m) := Lib.hid hc
  clear hpad hlen hc
  go_enter Tryd.func65, Tryd.ntmps65
  have hb2 : i0.bytes * c ≤ 281474976710656 := by rw [hz2]; omega
  have hb3 : c ≤ maxLen := by unfold maxLen; omega
  have HZ : Hid (i0.bytes = 1) := Lib.hid hz2
  clear hz2
  go_wp2_with (at_make; go_loud (refine wpList_make_full _ rfl _ _ 22 rfl w.heap.size 5 i0 (.int .u8 0) 1 Tryd.underlying22 hi hz0 hz1 _ _ _ _ c rfl rfl rfl rfl hb2 hb3 (Nat.le_refl _) ?_); intro w1 hown1 hg1)
  have hown0 : w1.ownsRow w.heap.size 5 1 (.slice (some ⟨w.heap.size, 0, none⟩) c c) c ((List.replicate c (0 : UInt8)).map u8v) := by
    have := hown1
    rw [show (Value.int .u8 0).cells = #[.int .u8 0] from rfl, toList_madeCells_one, Nat.mul_one] at this
    simpa [u8v] using this
  have hbel1 : Below w.heap.size w w1 := (Below.refl _ _).grown hg1 (Nat.le_refl _) (by simp)
  clear hown1 hg1
  go_loopw [0, 10] (fun s i wr => ∃ (k q : Nat) (l : List UInt8), q < 18446744073709551616 ∧ k ≤ c ∧ s = .int .u64 q ∧ i = .int .i64 k ∧ l.length = c ∧ pad (c - k) q ++ l.drop (c - k) = dec m ∧
      wr.ownsRow w.heap.size 5 1 (.slice (some ⟨w.heap.size, 0, none⟩) c c) c (l.map u8v) ∧ Below w.heap.size w wr) (fun _ i _ => c - (intOf i).toNat)
  case atStart => exact ⟨0, m, List.replicate c 0, hm, Nat.zero_le _, rfl, rfl, by simp, by rw [Nat.sub_zero, HP.out]; simp, hown0, hbel1⟩
  case round =>
    obtain ⟨k, q, l, hq, hk, rfl, rfl, hl, hpd, hown, hbel⟩ := hrel
    have HLL : Hid (l.length = c) := Lib.hid hl
    have HPD : Hid (pad (c - k) q ++ l.drop (c - k) = dec m) := Lib.hid hpd
    clear hl hpd
    by_cases hlt : k < c
    · have hfr := hown.frozenAt (c - 1 - k)
      have hcell : wr.cell? ⟨w.heap.size, c - 1 - k, none⟩ = some (u8v (l[c - 1 - k]'(by have := HLL.out; omega))) := by
        rw [hown.cellAt _ (by omega), List.getElem?_map, List.getElem?_eq_getElem (by have := HLL.out; omega)]; rfl
      have hst := hown.stored (c - 1 - k) (u8v (UInt8.ofNat (48 + q % 10)))
      have HST : Hid _ := Lib.hid hst
      clear hst
      go_wp2
      go_roundw
      case rel =>
        have hs := HST.out
        have hd := digit_byte q
        have hf := fill_step HLL.out hlt HPD.out
        refine ⟨k + 1, q / 10, l.set (c - 1 - k) (UInt8.ofNat (48 + q % 10)), by omega, by omega, by go_num, by go_num, hf.1, hf.2, ?_, ?_⟩
        · rw [List.map_set]; rw [hd] at hs; rw [hd]; exact hs.1
        · exact hbel.setCell (by simp) _
      case measure => simp [intOf]; omega
    · obtain rfl : k = c := by omega
      have hcv := run_convert_bytes_back (P := Tryd.prog) wr 22 9 5 ⟨w.heap.size, 0, none⟩ k l Tryd.underlying22 Tryd.underlying5 Tryd.underlying9 (fun j hj => hown.cells (g := w.heap.size) rfl j _ (by rw [List.getElem?_map, List.getElem?_eq_getElem hj]; rfl))
      rw [HLL.out] at hcv
      go_wp2
      go_ret
      exact ⟨ret_str (by rw [fill_done HPD.out]), hbel⟩

set_option maxRecDepth 100000 in
set_option maxHeartbeats 400000 in
theorem iFmt_any (n : Int) (hl : -9223372036854775808 ≤ n) (hh : n ≤ 9223372036854775807) (w : World) :
    Calls Tryd.prog 40 #[.int .i64 n] w fun e w' => e = .returned (.string (fmtS n)) ∧ Below w.heap.size w w' := by
  have hsz : (dec n.natAbs).length ≤ 20 := by rw [dec_length]; exact ndig_le20 (by omega)
  by_cases h : n < 0
  · have e1 := fmtS_neg h
    have HE : Hid (fmtS n = _) := Lib.hid e1
    clear e1
    go_enter Tryd.func40, Tryd.ntmps40
    go_wp2_with (first
      | (go_at_call 64; refine (iMag_any n hl hh _).mono ?_; rintro e w' ⟨rfl, rfl⟩)
      | (go_at_call 66; refine (iCount_any n.natAbs (by omega) _).mono ?_; rintro e w' ⟨rfl, rfl⟩)
      | (go_at_call 65; refine (iDigits_any n.natAbs (by omega) _).mono ?_; rintro e w' ⟨rfl, hb⟩))
    go_ret
    exact ⟨ret_str (by rw [HE.out]; exact ByteArray.mk_append_mk [45] _), hb⟩
  · have e1 := fmtS_pos (n := n) (by omega)
    have HE : Hid (fmtS n = _) := Lib.hid e1
    clear e1
    go_enter Tryd.func40, Tryd.ntmps40
    go_wp2_with (first
      | (go_at_call 64; refine (iMag_any n hl hh _).mono ?_; rintro e w' ⟨rfl, rfl⟩)
      | (go_at_call 66; refine (iCount_any n.natAbs (by omega) _).mono ?_; rintro e w' ⟨rfl, rfl⟩)
      | (go_at_call 65; refine (iDigits_any n.natAbs (by omega) _).mono ?_; rintro e w' ⟨rfl, hb⟩))
    go_ret
    exact ⟨ret_str (by rw [HE.out]), hb⟩

end Go.Proofs.YtapalfmjebggfaaDoor
