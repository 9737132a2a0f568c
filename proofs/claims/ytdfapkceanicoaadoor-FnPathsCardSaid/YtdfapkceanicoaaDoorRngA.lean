/- CHAPTER 4, FIRST PART: AreRanges, isRange, InRanges. -/
import Derived.Test.YtdfapkceanicoaaDoorRng
import Derived.Test.YtdfapkceanicoaaDoorIn
import Derived.IntWalk
set_option linter.unusedVariables false
set_option linter.unusedSimpArgs false
namespace Go.Proofs.YtdfapkceanicoaaDoor
open Go.RowKit

/-- valid ranges -/
def Are (l : List Rg) : Prop := l.length ≤ 6 ∧ Nrm l
noncomputable def areB (l : List Rg) : Bool := @decide (Are l) (Classical.propDecidable _)
theorem areB_yes {l : List Rg} (h : Are l) : areB l = true := @decide_eq_true _ (Classical.propDecidable _) h
theorem areB_no {l : List Rg} (h : ¬ Are l) : areB l = false := @decide_eq_false _ (Classical.propDecidable _) h
/-- the next one stands well behind those before -/
def NextOk (l : List Rg) (k : Nat) (h : k < l.length) : Prop := l[k].ok ∧ ∀ (h0 : 0 < k), l[k - 1].bef l[k]
theorem nrm_take {l : List Rg} (h : Nrm l) (k : Nat) : Nrm (l.take k) := ⟨h.1.sublist (List.take_sublist _ _), fun x hx => h.2 x (List.mem_of_mem_take hx)⟩
theorem nrm_next {l : List Rg} {k : Nat} (hk : k < l.length) (h : Nrm (l.take k)) (hn : NextOk l k hk) : Nrm (l.take (k + 1)) := by
  rw [List.take_succ_eq_append_getElem hk]
  refine nrm_snoc h hn.1 fun z hz => ?_
  obtain ⟨j, hj, rfl⟩ := List.getElem_of_mem hz
  rw [List.length_take] at hj
  rw [List.getElem_take]
  have h1 := hn.2 (by omega)
  by_cases e : j = k - 1
  · subst e; exact h1
  · have hlen : (l.take k).length = k := by rw [List.length_take]; omega
    have := (List.pairwise_iff_getElem.1 h.1) j (k - 1) (by omega) (by omega) (by omega)
    rw [List.getElem_take, List.getElem_take] at this
    exact bef_trans this (by have := h.2 (l.take k)[k - 1] (List.getElem_mem (by omega)); rwa [List.getElem_take] at this) h1
theorem nrm_nextOk {l : List Rg} {k : Nat} (hk : k < l.length) (h : Nrm l) : NextOk l k hk :=
  ⟨h.2 _ (List.getElem_mem hk), fun h0 => (List.pairwise_iff_getElem.1 h.1) (k - 1) k (by omega) hk (by omega)⟩
theorem nextNo {l : List Rg} {k : Nat} (hk : k < l.length) (h : ¬ NextOk l k hk) : areB l = false := areB_no fun ha => h (nrm_nextOk hk ha.2)

theorem take_prev {l : List Rg} {k : Nat} (h : Nrm (l.take k)) (hk : k ≤ l.length) (h0 : 0 < k) : (l[k - 1]'(by omega)).ok := by
  have hl : k - 1 < (l.take k).length := by rw [List.length_take]; omega
  have := h.2 (l.take k)[k - 1] (List.getElem_mem hl)
  rwa [List.getElem_take] at this
end Go.Proofs.YtdfapkceanicoaaDoor
