/- CHAPTER 7: PATHS READ FROM TOKENS: plain mathematics: what is read is one; a step read from a place on, said from the head; what ParsePath answers. -/
import Derived.Test.YtdfapkceanicoaaDoorPpB
import Derived.Test.YtdfapkceanicoaaDoorPthA
set_option linter.unusedVariables false
set_option linter.unusedSimpArgs false
namespace Go.Proofs.YtdfapkceanicoaaDoor
open NumP

theorem Tsr.uniq {T : List Tok} {p : Nat} {L : List Tst} {a b : Option (List Tst × Nat)} (h : Tsr T p L a) (k : Tsr T p L b) : a = b := by
  induction h with
  | bad h1 h2 =>
    rcases k.inv with ⟨k1, _⟩ | ⟨_, _, k3⟩ | ⟨t, _, k2, _⟩
    · rw [h1] at k1; cases k1
    · exact k3.symm
    · rw [h2] at k2; cases k2
  | stop h1 =>
    rcases k.inv with ⟨_, k2⟩ | ⟨k1, _⟩ | ⟨t, k1, _⟩
    · exact k2.symm
    · rw [h1] at k1; cases k1
    · rw [h1] at k1; cases k1
  | more h1 h2 ih =>
    rcases k.inv with ⟨k1, _⟩ | ⟨_, k2, _⟩ | ⟨t, _, k2, k3⟩
    · rw [(testT_inv h1).2.1] at k1; cases k1
    · rw [h1] at k2; cases k2
    · rw [h1] at k2; cases k2; exact ih k3
theorem Spr.uniq {T : List Tok} {p : Nat} {a b : Option (Stp × Nat)} (h : Spr T p a) (k : Spr T p b) : a = b := by
  cases h with
  | no h1 =>
    cases k with
    | no => rfl
    | bad k1 => rfl
    | yes k1 => rw [h1] at k1; cases k1
  | bad h1 h2 =>
    cases k with
    | no k1 => rfl
    | bad => rfl
    | yes k1 k2 => cases h2.uniq k2
  | yes h1 h2 =>
    cases k with
    | no k1 => rw [h1] at k1; cases k1
    | bad k1 k2 => cases h2.uniq k2
    | yes k1 k2 => cases h2.uniq k2; rfl
theorem Spr.head {T : List Tok} {d : Nat} {res : Option (Stp × Nat)} (h : Spr T d res) : ∃ res', Spr (T.drop d) 0 res' ∧ res = res'.map fun q => (q.1, q.2 + d) := by
  obtain ⟨res', hr⟩ := Spr.exists (T.drop d) 0
  refine ⟨res', hr, h.uniq ?_⟩
  have := hr.shift d
  rwa [Nat.zero_add] at this
theorem Spr.head_none {T : List Tok} {d : Nat} (h : Spr T d none) : Spr (T.drop d) 0 none := by
  obtain ⟨res', h1, h2⟩ := h.head
  cases res' with
  | none => exact h1
  | some q => cases h2
theorem Spr.head_some {T : List Tok} {d q : Nat} {s : Stp} (h : Spr T d (some (s, q))) : ∃ q', Spr (T.drop d) 0 (some (s, q')) ∧ q = q' + d := by
  obtain ⟨res', h1, h2⟩ := h.head
  cases res' with
  | none => cases h2
  | some q =>
    obtain ⟨s', q'⟩ := q
    cases h2
    exact ⟨q', h1, rfl⟩
theorem upB_head {T : List Tok} {root : Bool} {st : List Stp} {p : Nat} : upB (T.drop p) root st 0 = upB T root st p := by unfold upB; rw [List.drop_zero]
theorem Ptr.inv {T : List Tok} {root : Bool} {p u : Nat} {st : List Stp} {res : Option (Nat × List Stp × Nat)} (h : Ptr T root p u st res) :
    (upB T root st p = true ∧ mkB (T.drop (p + 1)) slashT = false ∧ res = some (u + 1, st, p + 1)) ∨ (upB T root st p = true ∧ mkB (T.drop (p + 1)) slashT = true ∧ Ptr T root (p + 2) (u + 1) st res) ∨
    (upB T root st p = false ∧ Spr T p none ∧ res = none) ∨ (∃ s q, upB T root st p = false ∧ Spr T p (some (s, q)) ∧ mkB (T.drop q) slashT = false ∧ res = some (u, st ++ [s], q)) ∨
    (∃ s q, upB T root st p = false ∧ Spr T p (some (s, q)) ∧ mkB (T.drop q) slashT = true ∧ Ptr T root (q + 1) u (st ++ [s]) res) := by
  cases h with
  | upStop h1 h2 => exact .inl ⟨h1, h2, rfl⟩
  | upMore h1 h2 h3 => exact .inr (.inl ⟨h1, h2, h3⟩)
  | bad h1 h2 => exact .inr (.inr (.inl ⟨h1, h2, rfl⟩))
  | stStop h1 h2 h3 => exact .inr (.inr (.inr (.inl ⟨_, _, h1, h2, h3, rfl⟩)))
  | stMore h1 h2 h3 h4 => exact .inr (.inr (.inr (.inr ⟨_, _, h1, h2, h3, h4⟩)))
/- sizes -/
theorem textAt_sz {T : List Tok} (hs : ∀ x ∈ T, x.t.size ≤ 1048576) (d : Nat) : (textAt (T.drop d)).size ≤ 1048576 := by
  cases h : T.drop d with
  | nil => exact Nat.zero_le _
  | cons x r =>
    refine hs x ?_
    have : x ∈ T.drop d := by rw [h]; exact List.mem_cons_self
    exact List.mem_of_mem_drop this
theorem Tsr.sz {T : List Tok} {p : Nat} {L : List Tst} {res : Option (List Tst × Nat)} (h : Tsr T p L res) (hs : ∀ x ∈ T, x.t.size ≤ 1048576) (hL : ∀ t ∈ L, TstSz t) : ∀ Q n, res = some (Q, n) → ∀ t ∈ Q, TstSz t := by
  induction h with
  | bad h1 h2 => intro Q n e; cases e
  | stop h1 => intro Q n e; cases e; exact hL
  | @more p L t res h1 h2 ih =>
    refine ih fun t' ht' => ?_
    rcases List.mem_append.1 ht' with h | h
    · exact hL t' h
    · rw [List.mem_singleton.1 h, (testT_inv h1).2.2.2.2.2.2, List.drop_drop, List.drop_drop]
      exact ⟨textAt_sz hs _, textAt_sz hs _⟩
theorem Spr.sz {T : List Tok} {p q : Nat} {s : Stp} (h : Spr T p (some (s, q))) (hs : ∀ x ∈ T, x.t.size ≤ 1048576) (hl : T.length ≤ 1048576) : StpSz s := by
  cases h with
  | @yes L q h1 h2 =>
    have hp := kB_len h1
    have hb := h2.bd (by omega) (Nat.zero_le _) _ _ rfl
    have hL : L.length ≤ 1048576 := by omega
    exact ⟨textAt_sz hs _, hL, h2.sz hs (fun _ h => by cases h) _ _ rfl⟩
theorem Ptr.sz {T : List Tok} {root : Bool} {p u : Nat} {st : List Stp} {res : Option (Nat × List Stp × Nat)} (h : Ptr T root p u st res) (hs : ∀ x ∈ T, x.t.size ≤ 1048576) (hl : T.length ≤ 1048576)
    (hp : p ≤ T.length) (hn : st.length ≤ p ∧ u ≤ p) (hz : ∀ s ∈ st, StpSz s) : ∀ u' st' q, res = some (u', st', q) → (st'.length ≤ q ∧ u' ≤ q ∧ q ≤ T.length) ∧ ∀ s ∈ st', StpSz s := by
  induction h with
  | @upStop p u st h1 h2 =>
    intro u' st' q e; cases e
    have := mkB_len (show mkB (T.drop p) dotsT = true by unfold upB at h1; simp at h1; exact h1.1.1)
    exact ⟨by omega, hz⟩
  | @upMore p u st res h1 h2 h3 ih => have := mkB_len h2; exact ih (by omega) (by omega) hz
  | bad h1 h2 => intro u' st' q e; cases e
  | @stStop p u q st s h1 h2 h3 =>
    intro u' st' q' e; cases e
    have := h2.bd
    refine ⟨by rw [List.length_append]; simp; omega, fun s' h => ?_⟩
    rcases List.mem_append.1 h with h | h
    · exact hz s' h
    · rw [List.mem_singleton.1 h]; exact h2.sz hs hl
  | @stMore p u q st s res h1 h2 h3 h4 ih =>
    have := h2.bd
    have := mkB_len h3
    refine ih (by omega) (by rw [List.length_append]; simp; omega) fun s' h => ?_
    rcases List.mem_append.1 h with h | h
    · exact hz s' h
    · rw [List.mem_singleton.1 h]; exact h2.sz hs hl
theorem Pthr.sz {T : List Tok} {p : Pth} {q : Nat} (h : Pthr T (Option.some (p, q))) (hs : ∀ x ∈ T, x.t.size ≤ 1048576) (hl : T.length ≤ 1048576) : PthSz p ∧ q ≤ T.length ∧ 0 ≤ p.ups ∧ p.ups ≤ 1048576 := by
  cases h with
  | root h1 h2 =>
    have h1' : mkB (T.drop 0) slashT = true := h1
    have := mkB_len h1'
    exact ⟨⟨by simp, fun s h => by cases h⟩, by omega, by show (0 : Int) ≤ 0; omega, by show (0 : Int) ≤ _; omega⟩
  | rootMore h1 h2 h3 =>
    have := kB_len h2
    have := h3.sz hs hl (by omega) ⟨by simp, by simp⟩ (fun s h => by cases h) _ _ _ rfl
    have h3 := this.1
    exact ⟨⟨Nat.le_trans h3.1 (Nat.le_trans h3.2.2 hl), this.2⟩, h3.2.2, Int.natCast_nonneg _, by have := h3.2.1; have := h3.2.2; show ((_ : Nat) : Int) ≤ 1048576; omega⟩
  | some h1 h2 =>
    have := h2.sz hs hl (by omega) ⟨by simp, by simp⟩ (fun s h => by cases h) _ _ _ rfl
    have h3 := this.1
    exact ⟨⟨Nat.le_trans h3.1 (Nat.le_trans h3.2.2 hl), this.2⟩, h3.2.2, Int.natCast_nonneg _, by have := h3.2.1; have := h3.2.2; show ((_ : Nat) : Int) ≤ 1048576; omega⟩
end Go.Proofs.YtdfapkceanicoaaDoor
