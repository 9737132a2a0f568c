/- CHAPTER 5, PLAIN MATHEMATICS of matching: how deep one looks does not matter once it is deep enough. No function is spoken of. -/
import Derived.Test.YtnpgeneahjlkpaaMatP
import Derived.Test.YtnpgeneahjlkpaaPatF
set_option linter.unusedVariables false
set_option linter.unusedSimpArgs false
namespace Go.Proofs.Ytnpgeneahjlkpaa
open Go.RowKit

theorem seqR_congr {R R' : Pat → Nat → Nat → Prop} : ∀ (l : List Pat) (_ : ∀ k, k ∈ l → R k = R' k), SeqR R l = SeqR R' l
  | [], _ => rfl
  | p :: l, h => by
    funext i j
    unfold SeqR
    rw [h p (by simp), seqR_congr l (fun k hk => h k (by simp [hk]))]
theorem stepM_congr {s : ByteArray} {R R' : Pat → Nat → Nat → Prop} {t : Pat} (h : ∀ k, k ∈ t.kids → R k = R' k) : StepM s R t = StepM s R' t := by
  funext i j
  unfold StepM
  rw [seqR_congr t.kids h]
  have h3 : (∃ k, k ∈ t.kids ∧ R k i j) = ∃ k, k ∈ t.kids ∧ R' k i j := by
    apply propext
    constructor
    · rintro ⟨k, hk, hr⟩; exact ⟨k, hk, by rw [← h k hk]; exact hr⟩
    · rintro ⟨k, hk, hr⟩; exact ⟨k, hk, by rw [h k hk]; exact hr⟩
  rw [h3]
  generalize t.kids = l at h
  cases l with
  | nil => rfl
  | cons k r =>
    cases r with
    | nil => dsimp only; rw [h k (by simp)]
    | cons _ _ => rfl
theorem mt_deep (s : ByteArray) : ∀ (d : Nat) (t : Pat) (e : Nat), Few d t.kids → d ≤ e → Mt s e t = Mt s d t
  | 0, t, e, hf, _ => by
    rw [mt_step, mt_step]
    have hk : t.kids = [] := hf
    exact stepM_congr (fun k h => by rw [hk] at h; cases h)
  | d + 1, t, e, hf, he => by
    obtain ⟨e', rfl⟩ : ∃ e', e = e' + 1 := ⟨e - 1, by omega⟩
    rw [mt_step, mt_step]
    exact stepM_congr (fun k h => mt_deep s d k e' (hf.2 k h) (by omega))
end Go.Proofs.Ytnpgeneahjlkpaa
