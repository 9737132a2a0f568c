/- CHAPTER 5, PLAIN MATHEMATICS: which texts a pattern has: 'Mt s d p i j': the bytes of s from i to j are a text of p (d: how deep p is at most). No function is spoken of. -/
import Derived.Test.YtnpgeneahjlkpaaPat
set_option linter.unusedVariables false
set_option linter.unusedSimpArgs false
namespace Go.Proofs.Ytnpgeneahjlkpaa
open Go.RowKit

inductive Rtc (R : Nat → Nat → Prop) : Nat → Nat → Prop
  | refl (i : Nat) : Rtc R i i
  | step {i j k : Nat} (h : R i j) (t : Rtc R j k) : Rtc R i k
theorem Rtc.one {R : Nat → Nat → Prop} {i j : Nat} (h : R i j) : Rtc R i j := .step h (.refl _)
theorem Rtc.trans {R : Nat → Nat → Prop} {i j k : Nat} (h : Rtc R i j) (h' : Rtc R j k) : Rtc R i k := by
  induction h with
  | refl _ => exact h'
  | step h _ ih => exact .step h (ih h')
def SeqR (R : Pat → Nat → Nat → Prop) : List Pat → Nat → Nat → Prop
  | [], i, j => i = j
  | p :: l, i, j => ∃ k, R p i k ∧ SeqR R l k j
/-- a byte of p's text stands at i -/
def ChAt (s : ByteArray) (t : ByteArray) (i : Nat) : Prop := ∃ h : i < s.size, s[i] ∈ t.data.toList
/-- by what a pattern is, given what its kids have -/
def StepM (s : ByteArray) (R : Pat → Nat → Nat → Prop) (p : Pat) (i j : Nat) : Prop :=
  if p.x.op = 1 then ChAt s p.x.text i ∧ j = i + 1
  else if p.x.op = 2 then SeqR R p.kids i j
  else if p.x.op = 3 then ∃ k, k ∈ p.kids ∧ R k i j
  else if p.x.op = 4 then (match p.kids with
    | [k] => Rtc (R k) i j
    | _ => i = j)
  else if p.x.op = 5 then (match p.kids with
    | [k] => i = j ∨ R k i j
    | _ => i = j)
  else False
def Mt (s : ByteArray) : Nat → Pat → Nat → Nat → Prop
  | 0, p => StepM s (fun _ _ _ => False) p
  | d + 1, p => StepM s (Mt s d) p
def kidM (s : ByteArray) : Nat → Pat → Nat → Nat → Prop
  | 0 => fun _ _ _ => False
  | d + 1 => Mt s d
theorem mt_step (s : ByteArray) (d : Nat) (p : Pat) : Mt s d p = StepM s (kidM s d) p := by cases d <;> rfl
/-- the places of l that hold true -/
def On (l : List Bool) (i : Nat) : Prop := l[i]? = some true
theorem on_lt {l : List Bool} {i : Nat} (h : On l i) : i < l.length := (List.getElem?_eq_some_iff.1 h).1
/-- O: the places at which what R has can end that begins at a place of A -/
def EndsOf (R : Nat → Nat → Prop) (A O : List Bool) : Prop := ∀ j, j < O.length → (On O j ↔ ∃ i, On A i ∧ R i j)
theorem on_rep (n i : Nat) : ¬ On (List.replicate n false) i := by
  unfold On; rw [List.getElem?_replicate]; split <;> simp
theorem on_set {l : List Bool} {i j : Nat} (hi : i < l.length) (b : Bool) : On (l.set i b) j ↔ (j = i ∧ b = true) ∨ (j ≠ i ∧ On l j) := by
  unfold On
  rw [List.getElem?_set]
  by_cases e : i = j
  · subst e
    rw [if_pos rfl, if_pos hi]
    simp
  · rw [if_neg e]
    constructor
    · intro h; exact .inr ⟨fun h' => e h'.symm, h⟩
    · rintro (⟨h, _⟩ | ⟨_, h⟩)
      · exact absurd h.symm e
      · exact h
theorem on_get {l : List Bool} {i : Nat} (h : i < l.length) : On l i ↔ l[i] = true := by unfold On; rw [List.getElem?_eq_getElem h]; simp
theorem on_ext {l m : List Bool} (hl : l.length = m.length) (h : ∀ i, i < l.length → (On l i ↔ On m i)) : l = m := by
  apply List.ext_getElem hl
  intro i h1 h2
  have := h i h1
  rw [on_get h1, on_get h2] at this
  cases a : l[i] <;> cases b : m[i] <;> simp_all
/-- how many hold true -/
def cntB (l : List Bool) : Nat := (l.filter fun b => b).length
theorem cntB_le (l : List Bool) : cntB l ≤ l.length := List.length_filter_le _ _
theorem cnt_grows : ∀ {l m : List Bool}, l.length = m.length → (∀ i, On l i → On m i) → l ≠ m → cntB l < cntB m
  | [], [], _, _, h => absurd rfl h
  | a :: l, b :: m, hl, h, hne => by
    have hl' : l.length = m.length := by simpa using hl
    have h0 : a = true → b = true := fun e => by have := h 0 (by simp [On, e]); simpa [On] using this
    have h1 : ∀ i, On l i → On m i := fun i hi => by have := h (i + 1) (by simpa [On] using hi); simpa [On] using this
    unfold cntB
    by_cases e : l = m
    · subst e
      have hab : a ≠ b := fun e' => hne (by rw [e'])
      cases a
      · cases b
        · exact absurd rfl hab
        · simp
      · exact absurd (h0 rfl).symm hab
    · have ih := cnt_grows hl' h1 e
      unfold cntB at ih
      cases a
      · cases b <;> simp <;> omega
      · rw [h0 rfl]; simp; omega
  | [], _ :: _, hl, _, _ => by simp at hl
  | _ :: _, [], hl, _, _ => by simp at hl
end Go.Proofs.Ytnpgeneahjlkpaa
