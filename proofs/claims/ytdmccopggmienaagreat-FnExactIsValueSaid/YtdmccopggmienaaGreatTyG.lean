/- CHAPTER 6: what CanonValue answers (plain). -/
import Derived.Test.YtdmccopggmienaaGreatTyD
import Derived.Test.YtdmccopggmienaaGreatRngB
import Derived.Test.YtdmccopggmienaaGreatNumQ
import Derived.Test.YtdmccopggmienaaGreatMacO
set_option linter.unusedVariables false
set_option linter.unusedSimpArgs false
namespace Go.Proofs.YtdmccopggmienaaGreat
open Go.RowKit NumP

abbrev trueS : ByteArray := ⟨#[116, 114, 117, 101]⟩
abbrev falseS : ByteArray := ⟨#[102, 97, 108, 115, 101]⟩
abbrev oneS : ByteArray := ⟨#[49]⟩
abbrev zeroS : ByteArray := ⟨#[48]⟩
/-- the two ways of writing each truth -/
inductive BoolIs (s : ByteArray) : Option ByteArray → Prop where
  | t (h : s = trueS) : BoolIs s (some trueS)
  | t1 (h : s = oneS) : BoolIs s (some trueS)
  | f (h : s = falseS) : BoolIs s (some falseS)
  | f0 (h : s = zeroS) : BoolIs s (some falseS)
  | none (h1 : (s.toList == [116, 114, 117, 101]) = false) (h2 : (s.toList == [49]) = false) (h3 : (s.toList == [102, 97, 108, 115, 101]) = false) (h4 : (s.toList == [48]) = false) : BoolIs s none
theorem str_nl {s : ByteArray} {l : List UInt8} (h : s ≠ ⟨l.toArray⟩) : (s.toList == l) = false := by
  have := str_ne h
  rwa [ByteArray.toList_eq ⟨l.toArray⟩, List.toList_toArray] at this
theorem boolIs_ex (s : ByteArray) : ∃ o, BoolIs s o := by
  by_cases h1 : s = trueS
  · exact ⟨_, .t h1⟩
  by_cases h2 : s = oneS
  · exact ⟨_, .t1 h2⟩
  by_cases h3 : s = falseS
  · exact ⟨_, .f h3⟩
  by_cases h4 : s = zeroS
  · exact ⟨_, .f0 h4⟩
  exact ⟨_, .none (str_nl h1) (str_nl h2) (str_nl h3) (str_nl h4)⟩
noncomputable def boolO (s : ByteArray) : Option ByteArray := Classical.choose (boolIs_ex s)
theorem boolO_is (s : ByteArray) : BoolIs s (boolO s) := Classical.choose_spec (boolIs_ex s)
/-- a text as a number in the ranges -/
noncomputable def intO (l : List Rg) (s : ByteArray) : Option ByteArray :=
  match readL s.data.toList with
  | some n => if inB l n = true then some (fmtS n) else none
  | none => none
noncomputable def canO (t : Ty) (s : ByteArray) : Option ByteArray :=
  if t.k = 1 then intO t.rg s
  else if t.k = 2 then if (textB s && inB t.rg s.size && (emB t.pt || textOfB t.pt s)) = true then some s else none
  else if t.k = 3 then boolO s
  else if t.k = 4 then if memB s t.nm = true then some s else none
  else if t.k = 5 then if (!emB s && textB s) = true then some s else none
  else if t.k = 6 then if emB s = true then some s else none
  else none
noncomputable def canonT (t : Ty) (s : ByteArray) : Option ByteArray := if isTyB t = true then canO t s else none
def tupS : Option ByteArray → Value
  | some x => .tuple #[.string x, .bool true]
  | none => .tuple #[.string ⟨#[]⟩, .bool false]
end Go.Proofs.YtdmccopggmienaaGreat
