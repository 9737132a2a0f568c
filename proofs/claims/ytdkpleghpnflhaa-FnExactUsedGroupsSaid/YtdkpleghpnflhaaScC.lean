/- CHAPTER 9: spec.CountSchema. -/
import Derived.Test.YtdkpleghpnflhaaScA
set_option linter.unusedVariables false
set_option linter.unusedSimpArgs false
namespace Go.Proofs.Ytdkpleghpnflhaa
open Go.RowKit
set_option maxRecDepth 100000

/-- a sum over a list, by recursion -/
def sumI {α : Type} (f : α → Int) : List α → Int
  | [] => 0
  | x :: l => f x + sumI f l
theorem sumI_step {α : Type} (f : α → Int) : ∀ (l : List α) (k : Nat) (h : k < l.length), sumI f (l.take (k + 1)) = sumI f (l.take k) + f l[k]
  | [], k, h => by simp at h
  | x :: l, 0, _ => by simp [sumI]
  | x :: l, k + 1, h => by
    simp only [List.take_succ_cons, sumI, List.getElem_cons_succ]
    rw [sumI_step f l k (by simpa using h)]
    omega
/-- how many nodes the trees l have -/
def cntS : Nat → List Sc → Int
  | 0, l => l.length
  | d + 1, l => l.length + sumI (fun t => cntS d t.kids) l
theorem cntS_eq {d : Nat} {l : List Sc} (h : d = 0 → l = []) : cntS d l = l.length + sumI (fun t => cntS (d - 1) t.kids) l := by
  cases d with
  | zero => rw [h rfl]; rfl
  | succ d => rfl
end Go.Proofs.Ytdkpleghpnflhaa
