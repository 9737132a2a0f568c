/- CHAPTER 2, FOURTH PART: QuoteText. -/
import Derived.Test.YtdfapkceanicoaaDoorName
import Derived.Test.YtdfapkceanicoaaDoorBuf
set_option linter.unusedVariables false
set_option linter.unusedSimpArgs false
namespace Go.Proofs.YtdfapkceanicoaaDoor
open Go.RowKit

/-- the bytes with '\' ahead of each quote and each '\' -/
def escL : List UInt8 → List UInt8
  | [] => []
  | c :: r => if escB c then 92 :: c :: escL r else c :: escL r
def quoteL (l : List UInt8) : List UInt8 := 34 :: (escL l ++ [34])
def quoteS (s : ByteArray) : ByteArray := ⟨(quoteL s.data.toList).toArray⟩
theorem escL_esc {c : UInt8} {r : List UInt8} (h : escB c = true) : escL (c :: r) = 92 :: c :: escL r := by rw [escL, if_pos h]
theorem escL_plain {c : UInt8} {r : List UInt8} (h : escB c = false) : escL (c :: r) = c :: escL r := by rw [escL, if_neg (by rw [h]; decide)]
theorem escB_cases {c : UInt8} (h : escB c = true) : c = 34 ∨ c = 92 := by
  unfold escB at h; rcases Bool.or_eq_true_iff.1 h with h | h
  · exact .inl (eq_of_beq h)
  · exact .inr (eq_of_beq h)
theorem escB_not {c : UInt8} (h : escB c = false) : c ≠ 34 ∧ c ≠ 92 := by
  unfold escB at h; rw [Bool.or_eq_false_iff, beq_eq_false_iff_ne, beq_eq_false_iff_ne] at h; exact h
theorem esc_not {c : UInt8} (h : c ≠ 34) (h' : c ≠ 92) : escB c = false := by unfold escB; rw [beq_eq_false_iff_ne.2 h, beq_eq_false_iff_ne.2 h']; rfl
set_option maxRecDepth 100000 in
theorem iEsc_any (c : UInt8) (w : World) : Calls Tryd.prog 91 #[.int .u8 c.toNat] w fun e w' => e = .returned (.bool (escB c)) ∧ w = w' := by
  have h1 := byte_beq c 34
  have h2 := byte_beq c 92
  cases h : (c == 34) <;> cases h' : (c == 92)
  all_goals
    rw [h] at h1
    rw [h'] at h2
    have H1 : ((c.toNat : Int) == 34) = _ := h1
    have H2 : ((c.toNat : Int) == 92) = _ := h2
    clear h1 h2
    go_enter Tryd.func91, Tryd.ntmps91
    go_wp2
    go_ret
    exact ⟨ret_bool (by unfold escB; rw [h, h']; rfl), rfl⟩
theorem quote_end {s : ByteArray} {l : List UInt8} {k : Nat} (hk : s.size ≤ k) (h : l ++ escL (s.data.toList.drop k) = 34 :: escL s.data.toList) : (⟨(l ++ [34]).toArray⟩ : ByteArray) = quoteS s := by
  rw [List.drop_eq_nil_of_le (by simp; omega), escL, List.append_nil] at h
  unfold quoteS quoteL; rw [h]; rfl
theorem quote_esc {s : ByteArray} {l : List UInt8} {k : Nat} (hk : k < s.size) (hc : escB s[k] = true) (h : l ++ escL (s.data.toList.drop k) = 34 :: escL s.data.toList) : (l ++ [92] ++ [s[k]]) ++ escL (s.data.toList.drop (k + 1)) = 34 :: escL s.data.toList := by
  rw [← h, data_drop s k hk, escL_esc hc]; simp
theorem quote_plain {s : ByteArray} {l : List UInt8} {k : Nat} (hk : k < s.size) (hc : escB s[k] = false) (h : l ++ escL (s.data.toList.drop k) = 34 :: escL s.data.toList) : (l ++ [s[k]]) ++ escL (s.data.toList.drop (k + 1)) = 34 :: escL s.data.toList := by
  rw [← h, data_drop s k hk, escL_plain hc]; simp
set_option maxRecDepth 100000 in
set_option maxHeartbeats 1000000 in
theorem iQuote_any (s : ByteArray) (hs : s.size ≤ 1048576) (w : World) :
    Calls Tryd.prog 100 #[.string s] w fun e w' => e = .returned (.string (quoteS s)) ∧ Below w.heap.size w w' := by
  go_enter Tryd.func100, Tryd.ntmps100
  go_wp2
  go_loopw [8, 3] (fun i v wr => ∃ (k : Nat) (l : List UInt8), k ≤ s.size ∧ l.length ≤ 2 * k + 1 ∧ i = .int .i64 k ∧ Buf w.heap.size v l w wr ∧ Hid (l ++ escL (s.data.toList.drop k) = 34 :: escL s.data.toList)) (fun i _ _ => s.size - (intOf i).toNat)
  case atStart => exact ⟨0, [34], by omega, by simp, rfl, buf_one (Below.refl _ _) 34 rfl, Lib.hid rfl⟩
  case round =>
    obtain ⟨k, l, hk, hl, rfl, hb, HR⟩ := hrel
    by_cases hlt : k < s.size
    · cases hc : escB s[k]
      · have HC := Lib.hid hc
        clear hc
        go_wp2_with (first
          | (go_at_call 91; refine (iEsc_any _ _).mono ?_; rw [HC.out]; rintro e w' ⟨rfl, rfl⟩)
          | (at_builtin; refine buf_append rfl _ _ rfl _ _ _ rfl _ _ _ hb rfl s[k] rfl (by omega) ?_; clear hb; intro v1 w1 hb))
        go_roundw
        case rel => exact ⟨k + 1, _, by omega, by simp; omega, by go_num, hb, Lib.hid (quote_plain hlt HC.out HR.out)⟩
        case measure => simp [intOf]; omega
      · have HC := Lib.hid hc
        clear hc
        go_wp2_with (first
          | (go_at_call 91; refine (iEsc_any _ _).mono ?_; rw [HC.out]; rintro e w' ⟨rfl, rfl⟩)
          | (at_builtin; refine buf_append rfl _ _ rfl _ _ _ rfl _ _ _ hb rfl 92 rfl (by omega) ?_; clear hb; intro v1 w1 hb1)
          | (at_builtin; refine buf_append rfl _ _ rfl _ _ _ rfl _ _ _ hb1 rfl s[k] rfl (by simp; omega) ?_; clear hb1; intro v2 w2 hb2))
        go_roundw
        case rel => exact ⟨k + 1, _, by omega, by simp; omega, by go_num, hb2, Lib.hid (quote_esc hlt HC.out HR.out)⟩
        case measure => simp [intOf]; omega
    · go_wp2_with (at_builtin; refine buf_append rfl _ _ rfl _ _ _ rfl _ _ _ hb rfl 34 rfl (by omega) ?_; clear hb; intro v1 w1 hb1; have hcv := buf_str hb1)
      go_ret
      exact ⟨ret_str (quote_end (by omega) HR.out), hb1.below⟩
theorem escB_or {c : UInt8} (h : ((c.toNat : Int) == 34) = true ∨ ((c.toNat : Int) == 92) = true) : escB c = true := by
  unfold escB; rw [← byte_beq, ← byte_beq]; rcases h with h | h
  · rw [show (((34 : UInt8).toNat : Int)) = 34 from rfl, h]; rfl
  · rw [show (((92 : UInt8).toNat : Int)) = 92 from rfl, h]; simp
theorem byte_val {c d : UInt8} (h : c = d) {n : Int} (hn : (d.toNat : Int) = n) : Hid ((c.toNat : Int) = n) := Lib.hid (by rw [h]; exact hn)
theorem byte_bne {c d : UInt8} (h : c = d) : ((c.toNat : Int) != (d.toNat : Int)) = false := by subst h; simp
theorem byte_nbne {c d : UInt8} (h : c ≠ d) : ((c.toNat : Int) != (d.toNat : Int)) = true := by rw [bne, byte_ne h]; rfl
theorem byte_is {c d : UInt8} (h : c = d) : ((c.toNat : Int) == (d.toNat : Int)) = true := by subst h; simp
end Go.Proofs.YtdfapkceanicoaaDoor
