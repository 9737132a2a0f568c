/- CHAPTER 5, spec: l5Ends of every pattern, by how deep it is. -/
import Derived.Test.YtnpgeneahjlkpaaMatV
import Derived.Test.YtnpgeneahjlkpaaMatW
import Derived.Test.YtnpgeneahjlkpaaMatX
set_option linter.unusedVariables false
set_option linter.unusedSimpArgs false
namespace Go.Proofs.Ytnpgeneahjlkpaa
open Go.RowKit

/-- every text in the trees l is short enough to be a text -/
def TxFit : Nat → List Pat → Prop
  | 0, _ => True
  | d + 1, l => ∀ p, p ∈ l → p.x.text.size ≤ 9223372036854775807 ∧ TxFit d p.kids
theorem ends_c (s : ByteArray) (d : Nat) (t : Pat) : EndsC s d t := by
  by_cases h1 : t.x.op = 1
  · exact ends_chars s d t h1
  · by_cases h2 : t.x.op = 2
    · exact ends_seq s d t h2
    · by_cases h3 : t.x.op = 3
      · exact ends_alts s d t h3
      · by_cases h4 : t.x.op = 4
        · exact ends_of_star s d t h4
        · by_cases h5 : t.x.op = 5
          · exact ends_of_maybe s d t h5
          · exact ends_other s d t h1 h2 h3 h4 h5
/-- the contract of l5Ends at patterns of depth d -/
def EndsD (s : ByteArray) (d : Nat) : Prop := ∀ (r : PatR) (t : Pat) (w : World) (v : Value) (A : List Bool), RdN patK d w r t → TxFit d t.kids → t.x.text.size ≤ 9223372036854775807 → HasB w v A → A.length = s.size + 1 →
  Calls Try.prog 56 #[.agg #[.int .i64 r.op, .string r.text, r.kv], .string s, v] w (EndsPost s (Mt s d t) A w)
theorem ends_tree (s : ByteArray) (hs : s.size ≤ 1048576) : ∀ d, EndsD s d
  | 0 => by
    rintro ⟨op, text, kv⟩ ⟨⟨xo, xt⟩, l⟩ w v A ⟨⟨h1, h2⟩, hk⟩ _ ht hA hl
    obtain rfl : op = xo := h1
    obtain rfl : text = xt := h2
    obtain ⟨hl0, C, cap, hkv, _, _⟩ := hk
    obtain rfl : l = [] := hl0
    obtain rfl : kv = .slice C 0 cap := hkv
    rw [mt_step]
    exact ends_c s 0 ⟨⟨op, text⟩, []⟩ C 0 cap v A w (fun i h => absurd h (Nat.not_lt_zero i)) rfl hA hl hs ht (by omega)
  | d + 1 => by
    rintro ⟨op, text, kv⟩ ⟨⟨xo, xt⟩, l⟩ w v A ⟨⟨h1, h2⟩, hk⟩ hf ht hA hl
    obtain rfl : op = xo := h1
    obtain rfl : text = xt := h2
    obtain ⟨R, ⟨C, cap, hkv, hn, hc⟩, hRl, hRk⟩ := hk
    obtain rfl : kv = .slice C R.length cap := hkv
    rw [mt_step]
    refine ends_c s (d + 1) ⟨⟨op, text⟩, l⟩ C R.length cap v A w (fun i h => ?_) hRl hA hl hs ht hn
    have h1 : i < R.length := Nat.lt_of_lt_of_eq h hRl.symm
    obtain ⟨a, e1, e2, e3⟩ := HasP.pk hc i h1
    exact ⟨a, R[i], e1, e2, e3, fun v A W hb hA hl => ends_tree s hs d _ _ W v A (RdN.below (hRk i h1 h) hb) (hf _ (List.getElem_mem h)).2 (hf _ (List.getElem_mem h)).1 hA hl⟩
end Go.Proofs.Ytnpgeneahjlkpaa
