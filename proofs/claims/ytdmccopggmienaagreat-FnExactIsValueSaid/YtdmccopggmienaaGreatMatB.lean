/- CHAPTER 5, spec: MatchText (the alternative's reader is asked for as a premise). -/
import Derived.Test.YtdmccopggmienaaGreatMatZ
import Derived.Test.YtdmccopggmienaaGreatMatA
import Derived.Test.YtdmccopggmienaaGreatPatAA
set_option linter.unusedVariables false
set_option linter.unusedSimpArgs false
namespace Go.Proofs.YtdmccopggmienaaGreat
open Go.RowKit

/-- whether s is a text of the pattern that p is read as -/
def TextOf (p s : ByteArray) : Prop := ∃ t, patS p.data.toList = some t ∧ Mt s 124 t 0 s.size
set_option maxRecDepth 100000 in
set_option maxHeartbeats 2000000 in
theorem smatchText (hA : ∀ n, SAltC n) (p s : ByteArray) (hp : p.size ≤ maxLen) (hs : s.size ≤ 1048576) (w : World) : Calls Tryz.prog 26 #[.string p, .string s] w fun e w' => ∃ b : Bool, e = .returned (.bool b) ∧ Hid (b = true ↔ TextOf p s) ∧ Below w.heap.size w w' := by
  have HC := Lib.hid (fun w => sParsePat_any hA p hp w)
  have HM := Lib.hid (fun d r t w => smatch s hs d r t w)
  cases ho : patS p.data.toList with
  | none =>
    have HT : Hid (¬ TextOf p s) := Lib.hid (by rintro ⟨t, h, _⟩; rw [ho] at h; cases h)
    rw [ho] at HC
    clear ho
    go_enter Tryz.func26, Tryz.ntmps26
    go_wp2_with (first
      | (go_at_call 51; ((refine (HC.out _).mono ?_); rintro e w1 ⟨rfl, hb⟩)))
    go_ret
    exact ⟨false, rfl, Lib.hid ⟨fun h => absurd h (by simp), fun h => absurd h HT.out⟩, below_al hb _⟩
  | some t =>
    have HT : Hid (TextOf p s ↔ Mt s 124 t 0 s.size) := Lib.hid ⟨fun ⟨t', h, h'⟩ => by rw [ho] at h; cases h; exact h', fun h => ⟨t, ho, h⟩⟩
    have HX := Lib.hid (tx_patS ho)
    rw [ho] at HC
    clear ho
    go_enter Tryz.func26, Tryz.ntmps26
    go_wp2_with (first
      | (go_at_call 51; ((refine (HC.out _).mono ?_); rintro e w1 ⟨A, c, S, rfl, hown, hb⟩; have HR := Lib.hid (OwN.rd hown); clear hown))
      | (go_at_call 52; (go_loud (refine (HM.out 124 ⟨t.x.op, t.x.text, .slice A t.kids.length c⟩ t _ (RdN.below HR.out (below_al (Below.refl _ _) _)) (HX.out.2 124) HX.out.1).mono ?_); rintro e w2 ⟨b, rfl, hB, hb2⟩)))
    go_ret
    exact ⟨b, rfl, Lib.hid (hB.out.trans HT.out.symm), below_step (below_al hb _) hb2⟩
end Go.Proofs.YtdmccopggmienaaGreat
