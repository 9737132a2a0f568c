/- CHAPTER 2, SECOND PART: IsName and IsText, the walks. -/
import Derived.Test.YtoldfejclimhgaaName
namespace Go.Proofs.Ytoldfejclimhgaa
open Go.RowKit

theorem sLet_any (c : UInt8) (w : World) : Calls Try.prog 73 #[.int .i64 c.toNat, .int .i64 97, .int .i64 122] w fun e w' => e = .returned (.bool (letB c)) ∧ w = w' :=
  (sIn_any _ _ _ w).mono fun _ _ ⟨he, hw⟩ => ⟨by rw [he]; exact ret_bool (by unfold letB; congr 1; exact propext ⟨fun h => by omega, fun h => by omega⟩), hw⟩
theorem sDig_any' (c : UInt8) (w : World) : Calls Try.prog 73 #[.int .i64 c.toNat, .int .i64 48, .int .i64 57] w fun e w' => e = .returned (.bool (digB c)) ∧ w = w' :=
  (sIn_any _ _ _ w).mono fun _ _ ⟨he, hw⟩ => ⟨by rw [he]; exact ret_bool (by unfold digB; congr 1; exact propext ⟨fun h => by omega, fun h => by omega⟩), hw⟩
theorem sTx_any (c : UInt8) (w : World) : Calls Try.prog 73 #[.int .i64 c.toNat, .int .i64 32, .int .i64 126] w fun e w' => e = .returned (.bool (txB c)) ∧ w = w' :=
  (sIn_any _ _ _ w).mono fun _ _ ⟨he, hw⟩ => ⟨by rw [he]; exact ret_bool (by unfold txB; congr 1; exact propext ⟨fun h => by omega, fun h => by omega⟩), hw⟩

/-- a name of chapter 2 -/
def NameP (s : ByteArray) : Prop :=
  0 < s.size ∧ s.size ≤ 16 ∧ (∀ h : 0 < s.size, letB s[0] = true) ∧ (∀ h : s.size - 1 < s.size, s[s.size - 1] ≠ 45) ∧ ∀ k (h : k < s.size), nbB s[k] = true
noncomputable def nameB (s : ByteArray) : Bool := @decide (NameP s) (Classical.propDecidable _)
theorem name_yes {s : ByteArray} (h : NameP s) : true = nameB s := (@decide_eq_true _ (Classical.propDecidable _) h).symm
theorem name_no {s : ByteArray} (h : ¬ NameP s) : false = nameB s := (@decide_eq_false _ (Classical.propDecidable _) h).symm
/-- a text of chapter 2 -/
def TextP (s : ByteArray) : Prop := s.size ≤ 40 ∧ ∀ k (h : k < s.size), txB s[k] = true
noncomputable def textB (s : ByteArray) : Bool := @decide (TextP s) (Classical.propDecidable _)
theorem text_yes {s : ByteArray} (h : TextP s) : true = textB s := (@decide_eq_true _ (Classical.propDecidable _) h).symm
theorem text_no {s : ByteArray} (h : ¬ TextP s) : false = textB s := (@decide_eq_false _ (Classical.propDecidable _) h).symm

end Go.Proofs.Ytoldfejclimhgaa
