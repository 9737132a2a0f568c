/- THE PARSER OF SPEC OVER TOKENS: l3Want. -/
import Derived.Test.YtdfapkceanicoaaDoorParX
set_option linter.unusedVariables false
set_option linter.unusedSimpArgs false
namespace Go.Proofs.YtdfapkceanicoaaDoor
open Go.RowKit NumP
set_option maxRecDepth 100000

theorem results_no {P : Program} {fn : Func} (h : fn.results = #[]) (tmps : Array Value) (w : World) : (results fn tmps).run P w = .ok (.tuple #[]) w := by
  simp [results, h]
section
variable {B b n cap i : Nat} {A : Option Addr} {T : List Tok} {bad : Bool} {w : World}
theorem sWant_yes (m : ByteArray) (hm : m.toList.isEmpty = false) (h : Par B b A n cap T i false w) (hk : mkB (T.drop i) m = true) :
    Calls Tryd.prog 56 #[.pointer (some ⟨b, 0, none⟩), .string m] w fun e w' => e = .returned (.tuple #[]) ∧ Par B b A n cap T (i + 1) false w' ∧ w.grownBy w' (some b) := by
  have HE := Lib.hid (sEat_yes m hm h hk)
  clear h hk
  go_enter Tryd.func56, Tryd.ntmps56
  go_wp2_with fail
  refine HE.out.mono ?_
  rintro e w1 ⟨rfl, hP, hG⟩
  have HP := Lib.hid hP
  have HG := Lib.hid hG
  clear hP hG
  go_wp2
  go_end0
  exact ⟨rfl, HP.out, HG.out⟩
theorem sWant_no (m : ByteArray) (hm : m.toList.isEmpty = false) (h : Par B b A n cap T i bad w) (hk : (!bad && mkB (T.drop i) m) = false) :
    Calls Tryd.prog 56 #[.pointer (some ⟨b, 0, none⟩), .string m] w fun e w' => e = .returned (.tuple #[]) ∧ Par B b A n cap T i true w' ∧ w.grownBy w' (some b) := by
  have HE : Hid (Calls Tryd.prog 53 #[.pointer (some ⟨b, 0, none⟩), .string m] w fun e w' => e = .returned (.bool false) ∧ Par B b A n cap T i bad w' ∧ w.grownBy w' (some b)) := Lib.hid (by
    cases bad with
    | true => exact sEat_bad m h
    | false => exact sEat_no m hm h (by simpa using hk))
  clear h hk
  go_enter Tryd.func56, Tryd.ntmps56
  go_wp2_with fail
  refine HE.out.mono ?_
  rintro e w1 ⟨rfl, hP, hG⟩
  have HP := Lib.hid hP
  have HG := Lib.hid hG
  have c2 := hP.c2
  have f2 := hP.f2
  have HS := Lib.hid hP.setBad
  have HG2 := Lib.hid (grownBy_set w1 b 2 (.bool true))
  clear hP hG
  go_wp2
  go_end0
  exact ⟨rfl, HS.out, grown_trans HG.out HG2.out⟩
end
end Go.Proofs.YtdfapkceanicoaaDoor
