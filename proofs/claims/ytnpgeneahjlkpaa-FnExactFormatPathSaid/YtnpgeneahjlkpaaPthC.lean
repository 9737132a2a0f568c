/- CHAPTER 7, impl: SamePath (slices.EqualFunc, slices.Equal at tests, Step.isSame). -/
import Derived.Test.YtnpgeneahjlkpaaPthB
import Derived.Laws.StructEq
import Derived.BigQuiet
set_option linter.unusedVariables false
set_option linter.unusedSimpArgs false
namespace Go.Proofs.Ytnpgeneahjlkpaa
open Go.RowKit

/-- whether something holds, as a truth -/
noncomputable def dB (P : Prop) : Bool := @decide P (Classical.propDecidable _)
theorem dB_yes {P : Prop} (h : P) : dB P = true := @decide_eq_true _ (Classical.propDecidable _) h
theorem dB_no {P : Prop} (h : ¬ P) : dB P = false := @decide_eq_false _ (Classical.propDecidable _) h
theorem dB_true {P : Prop} (h : dB P = true) : P := @of_decide_eq_true _ (Classical.propDecidable _) h
theorem dB_false {P : Prop} (h : dB P = false) : ¬ P := @of_decide_eq_false _ (Classical.propDecidable _) h
theorem dB_same {P Q : Prop} (h : P ↔ Q) : dB P = dB Q := by
  by_cases hp : P
  · rw [dB_yes hp, dB_yes (h.1 hp)]
  · rw [dB_no hp, dB_no (fun q => hp (h.2 q))]
theorem str_ne7 {s x : ByteArray} (h : s ≠ x) : (s.toList == x.toList) = false := by
  rw [beq_eq_false_iff_ne]
  intro e
  rw [ByteArray.toList_eq, ByteArray.toList_eq] at e
  exact h (ByteArray.ext (Array.toList_inj.1 e))
theorem tst_ne {x y : Tst} (h : x ≠ y) : (x.n.toList == y.n.toList && x.v.toList == y.v.toList) = false := by
  by_cases h1 : x.n = y.n
  · have h2 : x.v ≠ y.v := fun e => h (by cases x; cases y; simp_all)
    rw [str_ne7 h2, Bool.and_false]
  · rw [str_ne7 h1, Bool.false_and]
theorem tstNe (x y : Tst) (w : World) : (binOp .neq 116 (.agg #[.string x.n, .string x.v]) (.agg #[.string y.n, .string y.v])).run Try.prog w = .ok (.bool (!(x.n.toList == y.n.toList && x.v.toList == y.v.toList))) w := by
  have u := Try.underlying9
  have a := Try.isAgg9
  have z := Try.sizeOf9
  have hS : Try.prog.underlying 116 = some (.struct (Try.prog.fieldsOf 116)) := by kernel_rfl
  have hp : Try.prog.stoodInHeld 116 = false := by kernel_rfl
  rw [run_neq_struct, show (10000 : Nat) = 9999 + 1 from rfl, run_equalIn_agg w 9999 116 _ _ hS hp]
  simp only [Program.fieldsOf, Try.underlying116]
  go_simp
  by_cases h1 : x.n.toList = y.n.toList <;> by_cases h2 : x.v.toList = y.v.toList <;> simp [h1, h2]
theorem tstGd (op : BinOp) (a b : Operand) (x y : Tst) (w : World) : (eqGuard op 116 a b (.agg #[.string x.n, .string x.v]) (.agg #[.string y.n, .string y.v])).run Try.prog w = .ok () w := run_eqGuard_agg w op 116 a b _ _ (by kernel_rfl)
/-- the first k of both lists are the same -/
def SameTo {α : Type} (l l' : List α) (k : Nat) : Prop := ∀ j (h : j < l.length) (h' : j < l'.length), j < k → l[j] = l'[j]
theorem sameTo_0 {α : Type} (l l' : List α) : SameTo l l' 0 := fun _ _ _ h => absurd h (by omega)
theorem sameTo_next {α : Type} {l l' : List α} {k : Nat} (h : SameTo l l' k) (h1 : k < l.length) (h2 : k < l'.length) (e : l[k] = l'[k]) : SameTo l l' (k + 1) := fun j a b hj => by
  by_cases hk : j = k
  · subst hk; exact e
  · exact h j a b (by omega)
theorem sameTo_all {α : Type} {l l' : List α} (h : l.length = l'.length) (hs : SameTo l l' l.length) : l = l' := List.ext_getElem h fun i h1 h2 => hs i h1 h2 h1
theorem same_ne {α : Type} {l l' : List α} {k : Nat} (h1 : k < l.length) (h2 : k < l'.length) (e : l[k] ≠ l'[k]) : l ≠ l' := fun h => by subst h; exact e rfl
end Go.Proofs.Ytnpgeneahjlkpaa
