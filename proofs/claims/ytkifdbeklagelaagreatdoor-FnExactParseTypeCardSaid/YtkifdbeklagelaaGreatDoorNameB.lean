/- CHAPTER 2, SECOND PART: IsName and IsText, the walks. -/
import Derived.Test.YtkifdbeklagelaaGreatDoorName
set_option linter.unusedVariables false
set_option linter.unusedSimpArgs false
namespace Go.Proofs.YtkifdbeklagelaaGreatDoor
open Go.RowKit

theorem sLet_any (c : UInt8) (w : World) : Calls Tryz.prog 55 #[.int .i64 c.toNat, .int .i64 97, .int .i64 122] w fun e w' => e = .returned (.bool (letB c)) ∧ w = w' :=
  (sIn_any _ _ _ w).mono fun _ _ ⟨he, hw⟩ => ⟨by rw [he]; exact ret_bool (by unfold letB; congr 1; exact propext ⟨fun h => by omega, fun h => by omega⟩), hw⟩
theorem sDig_any' (c : UInt8) (w : World) : Calls Tryz.prog 55 #[.int .i64 c.toNat, .int .i64 48, .int .i64 57] w fun e w' => e = .returned (.bool (digB c)) ∧ w = w' :=
  (sIn_any _ _ _ w).mono fun _ _ ⟨he, hw⟩ => ⟨by rw [he]; exact ret_bool (by unfold digB; congr 1; exact propext ⟨fun h => by omega, fun h => by omega⟩), hw⟩
theorem sTx_any (c : UInt8) (w : World) : Calls Tryz.prog 55 #[.int .i64 c.toNat, .int .i64 32, .int .i64 126] w fun e w' => e = .returned (.bool (txB c)) ∧ w = w' :=
  (sIn_any _ _ _ w).mono fun _ _ ⟨he, hw⟩ => ⟨by rw [he]; exact ret_bool (by unfold txB; congr 1; exact propext ⟨fun h => by omega, fun h => by omega⟩), hw⟩

/-- a name of chapter 2 -/
def NameP (s : ByteArray) : Prop :=
  0 < s.size ∧ s.size ≤ 16 ∧ (∀ h : 0 < s.size, letB s[0] = true) ∧ (∀ h : s.size - 1 < s.size, s[s.size - 1] ≠ 45) ∧ ∀ k (h : k < s.size), nbB s[k] = true
noncomputable def nameB (s : ByteArray) : Bool := @decide (NameP s) (Classical.propDecidable _)
theorem name_yes {s : ByteArray} (h : NameP s) : true = nameB s := (@decide_eq_true _ (Classical.propDecidable _) h).symm
theorem name_no {s : ByteArray} (h : ¬ NameP s) : false = nameB s := (@decide_eq_false _ (Classical.propDecidable _) h).symm
/-- a text of chapter 2 -/
def TextP (s : ByteArray) : Prop := s.size ≤ 40 ∧ ∀ k (h : k < s.size), txB s[k] = true
noncomputable def textB (s : ByteArray) : Bool := @decide (TextP s) (Classical.propDecidable _)
theorem text_yes {s : ByteArray} (h : TextP s) : true = textB s := (@decide_eq_true _ (Classical.propDecidable _) h).symm
theorem text_no {s : ByteArray} (h : ¬ TextP s) : false = textB s := (@decide_eq_false _ (Classical.propDecidable _) h).symm

set_option maxRecDepth 100000 in
set_option maxHeartbeats 400000 in
theorem iIsText_any (s : ByteArray) (hs : s.size ≤ maxLen) (w : World) :
    Calls Tryz.prog 148 #[.string s] w fun e w' => e = .returned (.bool (textB s)) ∧ w = w' := by
  unfold maxLen at hs
  by_cases hl : 40 < s.size
  · go_enter Tryz.func148, Tryz.ntmps148
    go_wp2
    go_ret
    exact ⟨ret_bool (text_no fun h => by have := h.1; omega), rfl⟩
  · go_enter Tryz.func148, Tryz.ntmps148
    go_wp2
    go_loop [9] (fun i => ∃ k : Nat, k ≤ s.size ∧ i = .int .i64 k ∧ ∀ j (h : j < s.size), j < k → txB s[j] = true) (fun i => s.size - (intOf i).toNat)
    case atStart => exact ⟨0, by omega, rfl, fun _ _ h => by omega⟩
    case round =>
      obtain ⟨k, hk, rfl, hr⟩ := hrel
      have HR := Lib.hid hr
      clear hr
      by_cases hlt : k < s.size
      · go_wp2
        all_goals first
          | (go_round
             case rel => exact ⟨k + 1, by omega, by go_num, fun j h hj => if he : j < k then HR.out j h he else by
               obtain rfl : j = k := by omega
               exact decide_eq_true (by omega)⟩
             case measure => simp [intOf]; omega)
          | (go_ret
             exact ⟨ret_bool (text_no fun h => by have := h.2 k hlt; have := of_decide_eq_true this; omega), rfl⟩)
      · go_wp2
        go_ret
        exact ⟨ret_bool (text_yes ⟨by omega, fun j h => HR.out j h (by omega)⟩), rfl⟩

set_option maxRecDepth 100000 in
set_option maxHeartbeats 400000 in
theorem sIsText_any (s : ByteArray) (hs : s.size ≤ maxLen) (w : World) :
    Calls Tryz.prog 56 #[.string s] w fun e w' => e = .returned (.bool (textB s)) ∧ w = w' := by
  unfold maxLen at hs
  go_enter Tryz.func56, Tryz.ntmps56
  go_wp2
  go_loop [3] (fun i => ∃ k : Nat, k ≤ s.size ∧ i = .int .i64 k ∧ ∀ j (h : j < s.size), j < k → txB s[j] = true) (fun i => s.size - (intOf i).toNat)
  case atStart => exact ⟨0, by omega, rfl, fun _ _ h => by omega⟩
  case round =>
    obtain ⟨k, hk, rfl, hr⟩ := hrel
    have HR := Lib.hid hr
    clear hr
    by_cases hlt : k < s.size
    · have hby : (s[k].toNat : Int) ≤ 255 := by have := s[k].toNat_lt; omega
      cases ht : txB s[k]
      all_goals
        have HT := Lib.hid ht
        clear ht
        go_wp2_with (go_at_call 55; refine (sTx_any _ _).mono ?_; rw [HT.out]; rintro e w' ⟨rfl, rfl⟩)
        first
          | (go_round
             case rel => exact ⟨k + 1, by omega, by go_num, fun j h hj => if he : j < k then HR.out j h he else by
               obtain rfl : j = k := by omega
               exact HT.out⟩
             case measure => simp [intOf]; omega)
          | (go_ret
             exact ⟨ret_bool (text_no fun h => by have := h.2 k hlt; rw [HT.out] at this; cases this), rfl⟩)
    · by_cases h40 : (s.size : Int) ≤ 40
      all_goals
        go_wp2
        go_ret
        first
          | exact ⟨ret_bool (text_yes ⟨by omega, fun j h => HR.out j h (by omega)⟩), rfl⟩
          | exact ⟨ret_bool (text_no fun h => by have := h.1; omega), rfl⟩

set_option maxRecDepth 100000 in
set_option maxHeartbeats 400000 in
theorem iIsName_any (s : ByteArray) (hs : s.size ≤ maxLen) (w : World) :
    Calls Tryz.prog 157 #[.string s] w fun e w' => e = .returned (.bool (nameB s)) ∧ w = w' := by
  unfold maxLen at hs
  by_cases h0 : s.size = 0
  · obtain rfl := str_empty h0
    go_enter Tryz.func157, Tryz.ntmps157
    go_wp2
    go_ret
    exact ⟨ret_bool (name_no fun h => absurd h.1 (by decide)), rfl⟩
  · have hp : 0 < s.size := by omega
    have hne : s.toList.isEmpty = false := not_empty hp
    by_cases hl : 16 < s.size
    · go_enter Tryz.func157, Tryz.ntmps157
      go_wp2
      go_ret
      exact ⟨ret_bool (name_no fun h => by have := h.2.1; omega), rfl⟩
    · cases h1 : letB s[0]
      · go_enter Tryz.func157, Tryz.ntmps157
        go_wp2_with (go_at_call 103; refine (iLet_any _ _).mono ?_; rw [h1]; rintro e w' ⟨rfl, rfl⟩)
        go_ret
        exact ⟨ret_bool (name_no fun h => by have := h.2.2.1 hp; rw [h1] at this; cases this), rfl⟩
      · have H1 := Lib.hid h1
        clear h1
        by_cases h2 : s[s.size - 1] = 45
        · have h2' : ((s[s.size - 1].toNat : Int) == 45) = true := by rw [h2]; rfl
          have H2 := Lib.hid h2
          clear h2
          go_enter Tryz.func157, Tryz.ntmps157
          go_wp2_with (go_at_call 103; refine (iLet_any _ _).mono ?_; rw [H1.out]; rintro e w' ⟨rfl, rfl⟩)
          go_ret
          exact ⟨ret_bool (name_no fun h => h.2.2.2.1 (by omega) H2.out), rfl⟩
        · have h2' : ((s[s.size - 1].toNat : Int) == 45) = false := byte_ne (d := 45) h2
          have H2 := Lib.hid h2
          clear h2
          go_enter Tryz.func157, Tryz.ntmps157
          go_wp2_with (go_at_call 103; refine (iLet_any _ _).mono ?_; rw [H1.out]; rintro e w' ⟨rfl, rfl⟩)
          go_loop [27] (fun i => ∃ k : Nat, k ≤ s.size ∧ i = .int .i64 k ∧ ∀ j (h : j < s.size), j < k → nbB s[j] = true) (fun i => s.size - (intOf i).toNat)
          case atStart => exact ⟨0, by omega, rfl, fun _ _ h => by omega⟩
          case round =>
            obtain ⟨k, hk, rfl, hr⟩ := hrel
            have HR := Lib.hid hr
            clear hr
            by_cases hlt : k < s.size
            · cases ht : nbB s[k]
              all_goals
                have HT := Lib.hid ht
                clear ht
                go_wp2_with (go_at_call 135; refine (iNb_any _ _).mono ?_; rw [HT.out]; rintro e w' ⟨rfl, rfl⟩)
                first
                  | (go_round
                     case rel => exact ⟨k + 1, by omega, by go_num, fun j h hj => if he : j < k then HR.out j h he else by
                       obtain rfl : j = k := by omega
                       exact HT.out⟩
                     case measure => simp [intOf]; omega)
                  | (go_ret
                     exact ⟨ret_bool (name_no fun h => by have := h.2.2.2.2 k hlt; rw [HT.out] at this; cases this), rfl⟩)
            · go_wp2
              go_ret
              exact ⟨ret_bool (name_yes ⟨hp, by omega, fun _ => H1.out, fun _ => H2.out, fun j h => HR.out j h (by omega)⟩), rfl⟩
end Go.Proofs.YtkifdbeklagelaaGreatDoor
