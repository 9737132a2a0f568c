/- CHAPTER 5: impl's isPatternChar, bytesBetween, readSpan. -/
import Derived.Test.YtnpgeneahjlkpaaPatP
import Derived.Test.YtnpgeneahjlkpaaBuf
import Derived.Deep.RegionHeld3
import Derived.Deep.QuietTactic
import Derived.BigQuiet
set_option linter.unusedVariables false
set_option linter.unusedSimpArgs false
namespace Go.Proofs.Ytnpgeneahjlkpaa
open Go.RowKit

theorem betw_length (a b : UInt8) : (betw a b).length = b.toNat - a.toNat + 1 := by simp [betw]
theorem betw_take {a b : UInt8} {k : Nat} (hk : k < b.toNat - a.toNat + 1) : (betw a b).take (k + 1) = (betw a b).take k ++ [UInt8.ofNat (a.toNat + k)] := by
  rw [List.take_succ_eq_append_getElem (by rw [betw_length]; exact hk)]
  simp [betw]
theorem any_betw : betw 32 126 = anyL := by decide
set_option maxRecDepth 100000 in
theorem iPc_any (c : UInt8) (w : World) : Calls Try.prog 165 #[.int .u8 c.toNat] w fun e w' => e = .returned (.bool (pcB c)) ∧ w = w' := by
  unfold pcB
  cases h : nbB c
  · have HB := Lib.hid h
    clear h
    by_cases h1 : c = 95
    · have h1' : ((c.toNat : Int) == 95) = true := by rw [h1]; rfl
      have e : (c == 95) = true := by rw [h1]; rfl
      rw [e]
      clear e h1
      go_enter Try.func165, Try.ntmps165
      go_wp2_with (go_at_call 132; ((with_reducible refine (iNb_any _ _).mono ?_); rw [HB.out]; rintro e w' ⟨rfl, rfl⟩))
      go_ret
      exact ⟨rfl, rfl⟩
    · have h1' : ((c.toNat : Int) == 95) = false := byte_ne (d := 95) h1
      have e : (c == 95) = false := beq_eq_false_iff_ne.2 h1
      rw [e]
      clear e h1
      have h2 : ((c.toNat : Int) == 46) = (c == 46) := byte_beq c 46
      have H2 := Lib.hid h2
      clear h2
      go_enter Try.func165, Try.ntmps165
      go_wp2_with (go_at_call 132; ((with_reducible refine (iNb_any _ _).mono ?_); rw [HB.out]; rintro e w' ⟨rfl, rfl⟩))
      go_ret
      exact ⟨ret_bool (by rw [H2.out]; rfl), rfl⟩
  · have HB := Lib.hid h
    clear h
    go_enter Try.func165, Try.ntmps165
    go_wp2_with (go_at_call 132; ((with_reducible refine (iNb_any _ _).mono ?_); rw [HB.out]; rintro e w' ⟨rfl, rfl⟩))
    go_ret
    exact ⟨rfl, rfl⟩
set_option maxRecDepth 100000 in
set_option maxHeartbeats 1000000 in
theorem iBetw_any (a b : UInt8) (hab : a.toNat ≤ b.toNat) (w : World) :
    Calls Try.prog 160 #[.int .u8 a.toNat, .int .u8 b.toNat] w fun e w' => ∃ v, e = .returned v ∧ Buf w.heap.size v (betw a b) w w' := by
  have ha := a.toNat_lt
  have hb := b.toNat_lt
  obtain ⟨x, hx⟩ : ∃ x, x = a.toNat := ⟨_, rfl⟩
  obtain ⟨y, hy⟩ : ∃ y, y = b.toNat := ⟨_, rfl⟩
  rw [← hx] at ha hab ⊢
  rw [← hy] at hb hab ⊢
  have hxy : (x : Int) ≤ (y : Int) := by omega
  have hy1 : (y : Int) ≤ 255 := by omega
  have HN : Hid ((betw a b).length = y - x + 1) := Lib.hid (by rw [betw_length, hx, hy])
  have HT : Hid (∀ k, k < y - x + 1 → (betw a b).take (k + 1) = (betw a b).take k ++ [UInt8.ofNat (x + k)]) := Lib.hid fun k hk => by
    rw [betw_take (by rw [← hx, ← hy]; exact hk), hx]
  generalize betw a b = L at HN HT ⊢
  have hb0 : Buf w.heap.size (.slice (some ⟨w.heap.size, 0, none⟩) 0 0) [] w (w.alloc (.cells #[] 5)) := buf_none (Below.refl _ _)
  clear hx hy
  go_enter Try.func160, Try.ntmps160
  go_wp2
  go_loopw [5, 13] (fun v i wr => ∃ k : Nat, k ≤ y - x + 1 ∧ i = .int .i64 k ∧ Buf w.heap.size v (L.take k) w wr) (fun _ i _ => y - x + 1 - (intOf i).toNat)
  case atStart => exact ⟨0, by omega, rfl, by rw [List.take_zero]; exact hb0⟩
  case round =>
    obtain ⟨k, hk, rfl, hb⟩ := hrel
    clear hb0
    by_cases hlt : k < y - x + 1
    · have hlt2 : (k : Int) < (y : Int) - (x : Int) + 1 := by omega
      have hcv : (((UInt8.ofNat (x + k)).toNat : Nat) : Int) = (x : Int) + (k : Int) := by
        simp only [UInt8.toNat_ofNat']; omega
      have hlen : (L.take k).length ≤ 300 := by rw [List.length_take]; omega
      have HCV := Lib.hid hcv
      have HNX := Lib.hid (HT.out k hlt)
      clear hcv
      go_wp2_with (at_builtin; refine buf_append rfl _ _ rfl _ _ _ rfl _ _ _ hb rfl (UInt8.ofNat (x + k)) (HCV.out) (by omega) ?_; clear hb; intro v1 w1 hb)
      go_roundw
      case rel => exact ⟨k + 1, by omega, by go_num, by rw [HNX.out]; exact hb⟩
      case measure => simp [intOf]; omega
    · have hge : ¬ (k : Int) < (y : Int) - (x : Int) + 1 := by omega
      go_wp2
      go_ret
      rw [List.take_of_length_le (by have := HN.out; omega)] at hb
      exact ⟨_, rfl, hb⟩
theorem spanL_char {c : UInt8} {r : List UInt8} (h : pcB c = false) : spanL (c :: r) = none := by unfold spanL; simp [h]
theorem spanL_one {c : UInt8} (h : pcB c = true) : spanL [c] = some ([c], []) := by unfold spanL; simp [h]
theorem spanL_solo {c t : UInt8} {r : List UInt8} (h : pcB c = true) (h1 : t ≠ 126) : spanL (c :: t :: r) = some ([c], t :: r) := by unfold spanL; simp [h, h1]
theorem spanL_cut {c : UInt8} (h : pcB c = true) : spanL [c, 126] = none := by unfold spanL; simp [h]
theorem spanL_bad {c d : UInt8} {r : List UInt8} (h : pcB c = true) (hd : ¬ (pcB d = true ∧ c.toNat ≤ d.toNat)) : spanL (c :: 126 :: d :: r) = none := by
  show (if pcB c = true then (if (126 : UInt8) = 126 then (if pcB d = true ∧ c.toNat ≤ d.toNat then some (betw c d, r) else none) else some ([c], 126 :: d :: r)) else none) = none
  rw [if_pos h, if_pos rfl, if_neg hd]
theorem spanL_row {c d : UInt8} {r : List UInt8} (h : pcB c = true) (hd : pcB d = true ∧ c.toNat ≤ d.toNat) : spanL (c :: 126 :: d :: r) = some (betw c d, r) := by
  show (if pcB c = true then (if (126 : UInt8) = 126 then (if pcB d = true ∧ c.toNat ≤ d.toNat then some (betw c d, r) else none) else some ([c], 126 :: d :: r)) else none) = some (betw c d, r)
  rw [if_pos h, if_pos rfl, if_pos hd]
theorem data_len1 {s : ByteArray} (h : s.size = 1) : s.data.toList = [s[0]] := by
  rw [data_cons s (by omega), List.drop_eq_nil_of_le (by simp; omega)]
theorem data_two (s : ByteArray) (h : 1 < s.size) : s.data.toList = s[0] :: s[1] :: s.data.toList.drop 2 := by
  rw [data_cons s (by omega), data_drop s 1 h]
  simp
theorem data_three (s : ByteArray) (h : 2 < s.size) : s.data.toList = s[0] :: s[1] :: s[2] :: s.data.toList.drop 3 := by
  rw [data_two s (by omega), data_drop s 2 h]
  simp
theorem Buf.lift {v : Value} {l : List UInt8} {w W w1 : World} (h : Buf W.heap.size v l W w1) (hb : Below w.heap.size w W) : Buf w.heap.size v l w w1 :=
  ⟨⟨h.1.1, by
    rcases h.1.2 with hn | ⟨g, cap, cur, fz, h1, h2, h3⟩
    · exact .inl hn
    · exact .inr ⟨g, cap, cur, fz, h1, Nat.le_trans hb.size h2, h3⟩⟩, below_step hb h.2.1, Nat.le_trans hb.size h.2.2⟩
theorem tup_int {a : Value} {x y : Int} (h : x = y) : Ending.returned (.tuple #[a, .int .i64 x]) = .returned (.tuple #[a, .int .i64 y]) := by rw [h]
/-- the bytes of a span and how many it takes -/
def SpanOut (o : Option (List UInt8 × List UInt8)) (n : Nat) (w : World) (e : Ending) (w' : World) : Prop := match o with
  | none => ∃ v, e = .returned (.tuple #[v, .int .i64 0]) ∧ Buf w.heap.size v [] w w'
  | some (b, r) => ∃ v, e = .returned (.tuple #[v, .int .i64 ((n - r.length : Nat) : Int)]) ∧ Buf w.heap.size v b w w'
theorem iPc_q (c : UInt8) (b : Bool) (h : pcB c = b) (w : World) : Calls Try.prog 165 #[.int .u8 c.toNat] w fun e w' => e = .returned (.bool b) ∧ w' = w :=
  (iPc_any c w).mono fun _ _ ⟨he, hw⟩ => ⟨by rw [he, h], hw.symm⟩
set_option maxRecDepth 100000 in
set_option maxHeartbeats 1000000 in
theorem iSpan_any (s : ByteArray) (hs : s.size ≤ 1048576) (w : World) :
    Calls Try.prog 162 #[.string s] w (SpanOut (spanL s.data.toList) s.size w) := by
  have hb0 : Buf w.heap.size (.slice (some ⟨w.heap.size, 0, none⟩) 0 0) [] w (w.alloc (.cells #[] 5)) := buf_none (Below.refl _ _)
  by_cases h0 : s.size = 0
  · have he : s.data.toList = [] := by rw [str_empty h0]
    have hem : s.toList.isEmpty = true := by rw [ByteArray.toList_eq, he]; rfl
    have hem2 : s.toList = [] := by rw [ByteArray.toList_eq, he]
    rw [he]
    have HB := Lib.hid hb0
    clear he hb0 h0
    go_enter Try.func162, Try.ntmps162
    go_wp2
    go_ret2
    exact ⟨_, rfl, HB.out⟩
  · have h0' : 0 < s.size := by omega
    have hne := not_empty h0'
    have hne2 : ¬ s.toList = [] := by rw [ByteArray.toList_eq]; exact data_ne h0'
    have hs9 : s.size ≤ 9223372036854775807 := by omega
    have hx0 : (s[0].toNat : Int) ≤ 255 := by have := s[0].toNat_lt; omega
    have HB := Lib.hid hb0
    clear hb0 h0
    cases h1 : pcB s[0]
    · rw [data_cons s h0', spanL_char h1]
      have H1 := Lib.hid h1
      clear h1
      go_enter Try.func162, Try.ntmps162
      go_wp2_with (go_at_call 165; ((with_reducible refine (iPc_any _ _).mono ?_); rw [H1.out]; rintro e w' ⟨rfl, rfl⟩))
      go_ret2
      exact ⟨_, rfl, HB.out⟩
    · have H1 := Lib.hid h1
      by_cases h2 : s.size = 1
      · rw [data_len1 h2, spanL_one h1]
        have hq : ((s.size : Int) == 1) = true := by simp; omega
        have HB1 := Lib.hid (buf_one (Below.refl w.heap.size w) s[0] rfl)
        have HL : Hid (s.size = 1) := Lib.hid h2
        clear h1 h2
        go_enter Try.func162, Try.ntmps162
        go_wp2_with (go_at_call 165; ((with_reducible refine (iPc_any _ _).mono ?_); rw [H1.out]; rintro e w' ⟨rfl, rfl⟩))
        go_ret2
        exact ⟨_, tup_int (by have := HL.out; simp; omega), HB1.out⟩
      · have h3 : 1 < s.size := by omega
        have hq : ((s.size : Int) == 1) = false := by simp only [beq_eq_false_iff_ne, ne_eq]; omega
        have hi1 : (1 : Int) < (s.size : Int) := by omega
        clear h2
        by_cases h4 : s[1] = 126
        · have h4' : ((s[1].toNat : Int) != 126) = false := by rw [h4]; rfl
          by_cases h5 : s.size = 2
          · have hq2 : ((s.size : Int) == 2) = true := by simp; omega
            have he : s.data.toList = [s[0], 126] := by
              rw [data_two s h3, h4, List.drop_eq_nil_of_le (by simp; omega)]
            rw [he, spanL_cut h1]
            have HL := Lib.hid h5
            clear he h1 h4 h5
            go_enter Try.func162, Try.ntmps162
            go_wp2_with (go_at_call 165; ((with_reducible refine (iPc_any _ _).mono ?_); rw [H1.out]; rintro e w' ⟨rfl, rfl⟩))
            go_quiet (fail)
            go_wp2
            go_ret2
            exact ⟨_, rfl, HB.out.drewN _⟩
          · have h6 : 2 < s.size := by omega
            have hq2 : ((s.size : Int) == 2) = false := by simp only [beq_eq_false_iff_ne, ne_eq]; omega
            have hi2 : (2 : Int) < (s.size : Int) := by omega
            have hd3 : s.data.toList = s[0] :: 126 :: s[2] :: s.data.toList.drop 3 := by rw [data_three s h6, h4]; simp
            have hx2 : (s[2].toNat : Int) ≤ 255 := by have := s[2].toNat_lt; omega
            clear h5
            by_cases h7 : pcB s[2] = true ∧ s[0].toNat ≤ s[2].toNat
            · rw [hd3, spanL_row h1 h7]
              obtain ⟨h8, h9⟩ := h7
              have H8 := Lib.hid h8
              have h9' : ¬ (s[2].toNat : Int) < (s[0].toNat : Int) := by omega
              have hdd : decide ((s[2].toNat : Int) < (s[0].toNat : Int)) = false := by simpa using h9'
              have H9 := Lib.hid h9
              have HL : Hid ((s.size - (s.data.toList.drop 3).length : Nat) = 3) := Lib.hid (by simp; omega)
              clear h1 h4 h8 h9 hd3
              go_enter Try.func162, Try.ntmps162
              go_wp2_with (go_at_call 165; ((with_reducible refine (iPc_any _ _).mono ?_); rw [H1.out]; rintro e w' ⟨rfl, rfl⟩))
              go_quiet ((go_at_call 165; exact Calls.quiet_of_same (iPc_q _ true H8.out _)))
              go_wp2
              go_region_held3 (fun w' => Below w.heap.size w w') (first | exact (below_drewN (Below.refl _ _) _) | exact (below_drewN (below_drewN (Below.refl _ _) _) _) | exact hbuf2.below | assumption | go_keep) (first | (go_at_call 160; refine (iBetw_any s[0] s[2] H9.out _).mono ?_; rintro e w1 ⟨v, rfl, hbuf⟩; have hbuf2 := Buf.lift hbuf (by assumption : Below w.heap.size w _)))
              all_goals
                go_wp2
                go_ret2
                exact ⟨_, tup_int (by rw [HL.out]; rfl), hbuf2⟩
            · rw [hd3, spanL_bad h1 h7]
              cases h8 : pcB s[2]
              · have H8 := Lib.hid h8
                clear h1 h4 h8 hd3 h7
                go_enter Try.func162, Try.ntmps162
                go_wp2_with (go_at_call 165; ((with_reducible refine (iPc_any _ _).mono ?_); rw [H1.out]; rintro e w' ⟨rfl, rfl⟩))
                go_quiet ((go_at_call 165; exact Calls.quiet_of_same (iPc_q _ false H8.out _)))
                go_wp2
                go_ret2
                exact ⟨_, rfl, buf_none (below_drewN (Below.refl _ _) _)⟩
              · have h9' : (s[2].toNat : Int) < (s[0].toNat : Int) := by
                  have : ¬ s[0].toNat ≤ s[2].toNat := fun h => h7 ⟨h8, h⟩
                  omega
                have hdd : decide ((s[2].toNat : Int) < (s[0].toNat : Int)) = true := by simpa using h9'
                have H8 := Lib.hid h8
                clear h1 h4 h8 hd3 h7
                go_enter Try.func162, Try.ntmps162
                go_wp2_with (go_at_call 165; ((with_reducible refine (iPc_any _ _).mono ?_); rw [H1.out]; rintro e w' ⟨rfl, rfl⟩))
                go_quiet ((go_at_call 165; exact Calls.quiet_of_same (iPc_q _ true H8.out _)))
                go_wp2
                go_ret2
                exact ⟨_, rfl, buf_none (below_drewN (Below.refl _ _) _)⟩
        · have h4' : ((s[1].toNat : Int) != 126) = true := by rw [bne, show ((s[1].toNat : Int) == 126) = false from byte_ne (d := 126) h4]; rfl
          rw [data_two s h3, spanL_solo h1 h4]
          have HL : Hid ((s.size - (s[1] :: s.data.toList.drop 2).length : Nat) = 1) := Lib.hid (by simp; omega)
          have HB1 := Lib.hid (buf_one (Below.refl w.heap.size w) s[0] rfl)
          clear h1 h4
          go_enter Try.func162, Try.ntmps162
          go_wp2_with (go_at_call 165; ((with_reducible refine (iPc_any _ _).mono ?_); rw [H1.out]; rintro e w' ⟨rfl, rfl⟩))
          go_ret2
          exact ⟨_, tup_int (by rw [HL.out]; rfl), HB1.out⟩
end Go.Proofs.Ytnpgeneahjlkpaa
