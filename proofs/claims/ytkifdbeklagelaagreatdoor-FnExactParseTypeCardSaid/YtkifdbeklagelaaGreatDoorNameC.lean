/- CHAPTER 2, THIRD PART: spec's IsName. -/
import Derived.Test.YtkifdbeklagelaaGreatDoorNameB
set_option linter.unusedVariables false
set_option linter.unusedSimpArgs false
namespace Go.Proofs.YtkifdbeklagelaaGreatDoor
open Go.RowKit

def NameUpTo (s : ByteArray) (k : Nat) : Prop := (∀ j (h : j < s.size), j < k → nbB s[j] = true) ∧ (0 < k → ∀ h : 0 < s.size, letB s[0] = true)
theorem name_step {s : ByteArray} {k : Nat} (h : NameUpTo s k) (hk : k < s.size) (h1 : nbB s[k] = true) (h0 : k = 0 → letB s[k] = true) : NameUpTo s (k + 1) :=
  ⟨fun j hj hjk => if he : j < k then h.1 j hj he else by
    obtain rfl : j = k := by omega
    exact h1, fun _ hs => if he : 0 < k then h.2 he hs else by
    obtain rfl : k = 0 := by omega
    exact h0 rfl⟩
theorem nb_let {c : UInt8} (h : letB c = true) : nbB c = true := by unfold nbB; rw [h]; rfl
theorem nb_dig {c : UInt8} (h : digB c = true) : nbB c = true := by unfold nbB; rw [h]; simp
theorem nb_dash {c : UInt8} (h : c = 45) : nbB c = true := by unfold nbB; rw [h]; simp
theorem nb_no {c : UInt8} (h : letB c = false) (h' : digB c = false) (h'' : c ≠ 45) : nbB c = false := by unfold nbB; rw [h, h', beq_eq_false_iff_ne.2 h'']; rfl
set_option maxRecDepth 100000 in
set_option maxHeartbeats 400000 in
theorem sIsName_any (s : ByteArray) (hs : s.size ≤ maxLen) (w : World) :
    Calls Tryz.prog 52 #[.string s] w fun e w' => e = .returned (.bool (nameB s)) ∧ w = w' := by
  unfold maxLen at hs
  go_enter Tryz.func52, Tryz.ntmps52
  go_wp2
  go_loop [3] (fun i => ∃ k : Nat, k ≤ s.size ∧ i = .int .i64 k ∧ NameUpTo s k) (fun i => s.size - (intOf i).toNat)
  case atStart => exact ⟨0, by omega, rfl, fun _ _ h => by omega, fun h => by omega⟩
  case round =>
    obtain ⟨k, hk, rfl, hr⟩ := hrel
    have HR := Lib.hid hr
    clear hr
    by_cases hlt : k < s.size
    · have hby : (s[k].toNat : Int) ≤ 255 := by have := s[k].toNat_lt; omega
      cases hl : letB s[k]
      · have HL := Lib.hid hl
        clear hl
        by_cases hk0 : k = 0
        · subst hk0
          go_wp2_with (go_at_call 55; ((with_reducible refine (sLet_any _ _).mono ?_)); rw [HL.out]; rintro e w' ⟨rfl, rfl⟩)
          go_ret
          exact ⟨ret_bool (name_no fun h => by have := h.2.2.1 hlt; rw [HL.out] at this; cases this), rfl⟩
        · have hk1 : ((k : Int) == 0) = false := by simp only [beq_eq_false_iff_ne, ne_eq]; omega
          cases hd : digB s[k]
          · have HD := Lib.hid hd
            clear hd
            by_cases h2 : s[k] = 45
            · have h2' : ((s[k].toNat : Int) == 45) = true := by rw [h2]; rfl
              have H2 := Lib.hid h2
              clear h2
              go_wp2_with (first
                | (go_at_call 55; ((with_reducible refine (sLet_any _ _).mono ?_)); rw [HL.out]; rintro e w' ⟨rfl, rfl⟩)
                | (go_at_call 55; ((with_reducible refine (sDig_any' _ _).mono ?_)); rw [HD.out]; rintro e w' ⟨rfl, rfl⟩))
              go_round
              case rel => exact ⟨k + 1, by omega, by go_num, name_step HR.out hlt (nb_dash H2.out) fun h => absurd h hk0⟩
              case measure => simp [intOf]; omega
            · have h2' : ((s[k].toNat : Int) == 45) = false := byte_ne (d := 45) h2
              have H2 := Lib.hid h2
              clear h2
              go_wp2_with (first
                | (go_at_call 55; ((with_reducible refine (sLet_any _ _).mono ?_)); rw [HL.out]; rintro e w' ⟨rfl, rfl⟩)
                | (go_at_call 55; ((with_reducible refine (sDig_any' _ _).mono ?_)); rw [HD.out]; rintro e w' ⟨rfl, rfl⟩))
              go_ret
              exact ⟨ret_bool (name_no fun h => by have := h.2.2.2.2 k hlt; rw [nb_no HL.out HD.out H2.out] at this; cases this), rfl⟩
          · have HD := Lib.hid hd
            clear hd
            go_wp2_with (first
              | (go_at_call 55; ((with_reducible refine (sLet_any _ _).mono ?_)); rw [HL.out]; rintro e w' ⟨rfl, rfl⟩)
              | (go_at_call 55; ((with_reducible refine (sDig_any' _ _).mono ?_)); rw [HD.out]; rintro e w' ⟨rfl, rfl⟩))
            go_round
            case rel => exact ⟨k + 1, by omega, by go_num, name_step HR.out hlt (nb_dig HD.out) fun h => absurd h hk0⟩
            case measure => simp [intOf]; omega
      · have HL := Lib.hid hl
        clear hl
        go_wp2_with (go_at_call 55; ((with_reducible refine (sLet_any _ _).mono ?_)); rw [HL.out]; rintro e w' ⟨rfl, rfl⟩)
        go_round
        case rel => exact ⟨k + 1, by omega, by go_num, name_step HR.out hlt (nb_let HL.out) fun _ => HL.out⟩
        case measure => simp [intOf]; omega
    · by_cases h1 : 1 ≤ s.size ∧ s.size ≤ 16
      · obtain ⟨h1, h16⟩ := h1
        by_cases h2 : s[s.size - 1] = 45
        · have h2' : ((s[s.size - 1].toNat : Int) == 45) = true := by rw [h2]; rfl
          have H2 := Lib.hid h2
          clear h2
          go_wp2_with (go_at_call 55; refine (sIn_yes _ _ _ _ (by omega) (by omega)).mono ?_; rintro e w' ⟨rfl, rfl⟩)
          go_ret
          exact ⟨ret_bool (by rw [bne, h2']; exact name_no fun h => h.2.2.2.1 (by omega) H2.out), rfl⟩
        · have h2' : ((s[s.size - 1].toNat : Int) == 45) = false := byte_ne (d := 45) h2
          have H2 := Lib.hid h2
          clear h2
          go_wp2_with (go_at_call 55; refine (sIn_yes _ _ _ _ (by omega) (by omega)).mono ?_; rintro e w' ⟨rfl, rfl⟩)
          go_ret
          exact ⟨ret_bool (by rw [bne, h2']; exact name_yes ⟨by omega, by omega, HR.out.2 (by omega), fun _ => H2.out, fun j h => HR.out.1 j h (by omega)⟩), rfl⟩
      · go_wp2_with (go_at_call 55; refine (sIn_no _ _ _ _ (by omega)).mono ?_; rintro e w' ⟨rfl, rfl⟩)
        go_ret
        exact ⟨ret_bool (name_no fun h => h1 ⟨h.1, h.2.1⟩), rfl⟩
end Go.Proofs.YtkifdbeklagelaaGreatDoor
