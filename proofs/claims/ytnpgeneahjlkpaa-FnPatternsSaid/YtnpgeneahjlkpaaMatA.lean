/- CHAPTER 5, PLAIN MATHEMATICS: what is read as a pattern bears short texts alone. No function is spoken of. -/
import Derived.Test.YtnpgeneahjlkpaaMatY
import Derived.Test.YtnpgeneahjlkpaaPatF
set_option linter.unusedVariables false
set_option linter.unusedSimpArgs false
namespace Go.Proofs.Ytnpgeneahjlkpaa
open Go.RowKit

def TxAll (t : Pat) : Prop := t.x.text.size ≤ 9223372036854775807 ∧ ∀ d, TxFit d t.kids
theorem txfit_of {l : List Pat} (h : ∀ p, p ∈ l → TxAll p) : ∀ d, TxFit d l
  | 0 => trivial
  | d + 1 => fun p hp => ⟨(h p hp).1, (h p hp).2 d⟩
theorem tx_op {op : Int} {l : List Pat} (h : ∀ p, p ∈ l → TxAll p) : TxAll (opP op l) := ⟨by show (0 : Nat) ≤ _; omega, txfit_of h⟩
theorem tx_one {p : Pat} (h : TxAll p) : ∀ q, q ∈ [p] → TxAll q := fun q hq => by rw [List.mem_singleton.1 hq]; exact h
theorem tx_chars {l : List UInt8} (h : l.length ≤ 256) : TxAll (charsP l) := ⟨by show l.toArray.size ≤ _; rw [List.size_toArray]; omega, txfit_of (fun p hp => absurd hp (List.not_mem_nil))⟩
theorem tx_rep {p : Pat} (h : TxAll p) (l : List UInt8) : TxAll (repT p l).1 := by
  unfold repT
  split
  · exact h
  · split
    · exact tx_op (tx_one h)
    · split
      · exact tx_op (tx_one h)
      · split
        · refine tx_op fun q hq => ?_
          rcases List.mem_cons.1 hq with rfl | hq
          · exact h
          · rw [List.mem_singleton.1 hq]; exact tx_op (tx_one h)
        · exact h
theorem tx_join (op : Int) {l : List Pat} (h : ∀ p, p ∈ l → TxAll p) : TxAll (joinP op l) := by
  unfold joinP
  split
  · exact h _ (by simp)
  · exact tx_op h
def TxA (A : List UInt8 → Option (Pat × List UInt8)) : Prop := ∀ l p r, A l = some (p, r) → TxAll p
theorem tx_repL {A : List UInt8 → Option (Pat × List UInt8)} (h : TxA A) : TxA (repL A) := by
  intro l p r e
  unfold repL at e
  cases hA : A l with
  | none => rw [hA] at e; cases e
  | some x =>
    obtain ⟨q, t⟩ := x
    rw [hA] at e
    have e2 : repT q t = (p, r) := Option.some.inj e
    have := tx_rep (h l q t hA) t
    rw [e2] at this
    exact this
theorem tx_seqL {A : List UInt8 → Option (Pat × List UInt8)} (h : TxA A) : ∀ (m : Nat) (l : List UInt8), ∀ t ∈ (seqL A m l).1, TxAll t
  | 0, l => fun t ht => absurd ht (by simp [seqL])
  | m + 1, l => by
    rw [seqL]
    split
    · exact fun t ht => absurd ht (by simp)
    · rename_i p r e
      intro t ht
      rcases List.mem_cons.1 ht with rfl | ht
      · exact tx_repL h l _ r e
      · exact tx_seqL h m r t ht
theorem tx_seqP {A : List UInt8 → Option (Pat × List UInt8)} (h : TxA A) (l : List UInt8) : TxAll (seqP A l).1 := tx_join 2 (tx_seqL h l.length l)
theorem tx_altL {A : List UInt8 → Option (Pat × List UInt8)} (h : TxA A) : ∀ (m : Nat) (l : List UInt8), ∀ t ∈ (altL A m l).1, TxAll t
  | 0, l => tx_one (tx_seqP h l)
  | m + 1, l => by
    rw [altL]
    split
    · exact tx_one (tx_seqP h l)
    · split
      · rename_i c r _ _
        intro t ht
        rcases List.mem_cons.1 ht with rfl | ht
        · exact tx_seqP h l
        · exact tx_altL h m r t ht
      · exact tx_one (tx_seqP h l)
theorem tx_altP {A : List UInt8 → Option (Pat × List UInt8)} (h : TxA A) (l : List UInt8) : TxAll (altP A l).1 := tx_join 3 (tx_altL h l.length l)
theorem clsL_len (l : List UInt8) : (clsL l).length ≤ 256 := by
  unfold clsL
  exact Nat.le_trans (List.length_filter_le _ _) (by simp)
theorem tx_classL : TxA classL := by
  intro l p r h
  unfold classL at h
  split at h
  · cases h
  · split at h
    · cases h; exact tx_chars (clsL_len _)
    · cases h
theorem tx_atomF : ∀ n, TxA (atomF n)
  | 0 => fun l p r e => by cases e
  | n + 1 => fun l p r e => by
    have ih := tx_altP (tx_atomF n)
    have e' : atomL (altP (atomF n)) l = some (p, r) := e
    unfold atomL at e'
    split at e'
    · cases e'
    · rename_i c t
      split at e'
      · split at e'
        · cases e'
        · split at e'
          · cases e'; exact ih t
          · cases e'
      · split at e'
        · exact tx_classL _ _ _ e'
        · split at e'
          · cases e'; exact tx_chars (by unfold anyL; simp)
          · split at e'
            · cases e'; exact tx_chars (by simp)
            · cases e'
theorem tx_patS {l : List UInt8} {p : Pat} (h : patS l = some p) : TxAll p := by
  unfold patS at h
  split at h
  · cases h
  · split at h
    · cases h; exact tx_altP (tx_atomF _) l
    · cases h
end Go.Proofs.Ytnpgeneahjlkpaa
