/- CHAPTER 4, RANGES READ: plain mathematics over tokens. No function is spoken of. -/
import Derived.Test.YtdfapkceanicoaaDoorToks
import Derived.Test.YtdfapkceanicoaaDoorRngA
import Derived.Test.YtdfapkceanicoaaDoorNumPlain
set_option linter.unusedVariables false
set_option linter.unusedSimpArgs false
namespace Go.Proofs.YtdfapkceanicoaaDoor
open NumP

/-- l begins with the mark m -/
def mkB (l : List Tok) (m : ByteArray) : Bool := match l with
  | [] => false
  | x :: _ => decide (x.k = 4) && decide (x.t = m)
theorem mkB_nil (m : ByteArray) : mkB [] m = false := rfl
theorem mkB_kind {x : Tok} {r : List Tok} {m : ByteArray} (h : ¬ x.k = 4) : mkB (x :: r) m = false := by unfold mkB; simp [h]
theorem mkB_text {x : Tok} {r : List Tok} {m : ByteArray} (h : x.k = 4) : mkB (x :: r) m = decide (x.t = m) := by unfold mkB; simp [h]
def minusT : ByteArray := ⟨#[45]⟩
def barT : ByteArray := ⟨#[124]⟩
def dotsT : ByteArray := ⟨#[46, 46]⟩
/-- a number token at the head, read with a sign in front -/
def numT (sign : List UInt8) (l : List Tok) : Option Int := match l with
  | [] => none
  | x :: _ => if x.k = 2 then parseL (sign ++ x.t.data.toList) else none
/-- a bound at the head, and how many tokens it takes -/
def rdB (l : List Tok) : Option (Int × Nat) :=
  if mkB l minusT then (numT [45] (l.drop 1)).map fun n => (n, 2) else (numT [] l).map fun n => (n, 1)
/-- a range at the head -/
def rdR (l : List Tok) : Option (Rg × Nat) := (rdB l).bind fun (lo, k) =>
  if mkB (l.drop k) dotsT then (rdB (l.drop (k + 1))).map fun (hi, j) => (⟨lo, hi⟩, k + 1 + j) else some (⟨lo, lo⟩, k)
theorem rdB_len {l : List Tok} {n : Int} {k : Nat} (h : rdB l = some (n, k)) : 1 ≤ k ∧ k ≤ l.length := by
  unfold rdB at h
  split at h
  · cases hn : numT [45] (l.drop 1) with
    | none => rw [hn] at h; cases h
    | some x =>
      rw [hn] at h; cases h
      have : l.drop 1 ≠ [] := by intro e; rw [e] at hn; cases hn
      have h1 : 0 < (l.drop 1).length := List.length_pos_iff.2 this
      rw [List.length_drop] at h1; omega
  · cases hn : numT [] l with
    | none => rw [hn] at h; cases h
    | some x =>
      rw [hn] at h; cases h
      have : l ≠ [] := by intro e; rw [e] at hn; cases hn
      have h1 : 0 < l.length := List.length_pos_iff.2 this
      omega
theorem rdR_len {l : List Tok} {x : Rg} {k : Nat} (h : rdR l = some (x, k)) : 1 ≤ k ∧ k ≤ l.length := by
  unfold rdR at h
  cases hb : rdB l with
  | none => rw [hb] at h; cases h
  | some p =>
    obtain ⟨lo, j⟩ := p
    have h1 := rdB_len hb
    rw [hb, Option.bind_some] at h
    simp only at h
    split at h
    · cases hb2 : rdB (l.drop (j + 1)) with
      | none => rw [hb2] at h; cases h
      | some q =>
        obtain ⟨hi, j2⟩ := q
        have h2 := rdB_len hb2
        rw [hb2] at h; cases h
        rw [List.length_drop] at h2
        omega
    · cases h; exact h1
/-- ranges from a place on: none, or the ranges and where they end -/
inductive Run (T : List Tok) : Nat → List Rg → Option (List Rg × Nat) → Prop
  | bad {p : Nat} {R : List Rg} : rdR (T.drop p) = none → Run T p R none
  | stop {p k : Nat} {R : List Rg} {x : Rg} : rdR (T.drop p) = some (x, k) → mkB (T.drop (p + k)) barT = false → Run T p R (some (R ++ [x], p + k))
  | more {p k : Nat} {R : List Rg} {x : Rg} {res : Option (List Rg × Nat)} : rdR (T.drop p) = some (x, k) → mkB (T.drop (p + k)) barT = true → Run T (p + k + 1) (R ++ [x]) res → Run T p R res
theorem Run.exists (T : List Tok) : ∀ (n p : Nat) (R : List Rg), T.length - p ≤ n → ∃ res, Run T p R res
  | n, p, R, hn => by
    cases h : rdR (T.drop p) with
    | none => exact ⟨none, .bad h⟩
    | some q =>
      obtain ⟨x, k⟩ := q
      have hk := rdR_len h
      rw [List.length_drop] at hk
      cases hm : mkB (T.drop (p + k)) barT with
      | false => exact ⟨_, .stop h hm⟩
      | true =>
        match n, hn with
        | 0, hn => omega
        | n + 1, hn =>
          obtain ⟨res, hr⟩ := Run.exists T n (p + k + 1) (R ++ [x]) (by omega)
          exact ⟨res, .more h hm hr⟩
theorem Run.inv {T : List Tok} {p : Nat} {R : List Rg} {res : Option (List Rg × Nat)} (h : Run T p R res) :
    (rdR (T.drop p) = none ∧ res = none) ∨ ∃ x k, rdR (T.drop p) = some (x, k) ∧ ((mkB (T.drop (p + k)) barT = false ∧ res = some (R ++ [x], p + k)) ∨ (mkB (T.drop (p + k)) barT = true ∧ Run T (p + k + 1) (R ++ [x]) res)) := by
  cases h with
  | bad h => exact .inl ⟨h, rfl⟩
  | stop h hm => exact .inr ⟨_, _, h, .inl ⟨hm, rfl⟩⟩
  | more h hm hr => exact .inr ⟨_, _, h, .inr ⟨hm, hr⟩⟩
theorem mkB_len {T : List Tok} {p : Nat} {m : ByteArray} (h : mkB (T.drop p) m = true) : p < T.length := by
  rcases Nat.lt_or_ge p T.length with h1 | h1
  · exact h1
  · rw [List.drop_eq_nil_of_le h1] at h; cases h
theorem Run.bd {T : List Tok} {p : Nat} {R : List Rg} {res : Option (List Rg × Nat)} (h : Run T p R res) (hR : R.length ≤ p) : ∀ Q n, res = some (Q, n) → n ≤ T.length ∧ 1 ≤ n ∧ Q.length ≤ n := by
  induction h with
  | bad h => intro Q n e; cases e
  | @stop p k R x h hm =>
    intro Q n e; cases e
    have hk := rdR_len h
    rw [List.length_drop] at hk
    rw [List.length_append]; simp; omega
  | @more p k R x res h hm hr ih =>
    have hk := rdR_len h
    exact ih (by rw [List.length_append]; simp; omega)
open Classical in
/-- what ParseRanges says: T the tokens, e the place at which none begins -/
noncomputable def parS (e : Option Nat) (n : Nat) (res : Option (List Rg × Nat)) : Option (List Rg) :=
  match e, res with
  | none, some (R, m) => if m = n ∧ Are R then some R else none
  | _, _ => none
end Go.Proofs.YtdfapkceanicoaaDoor
