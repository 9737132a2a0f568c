/- CHAPTER 5, PLAIN MATHEMATICS: what is read as a pattern. No function is spoken of. -/
import Derived.Test.YtkifdbeklagelaaGreatDoorPat
import Derived.Test.YtkifdbeklagelaaGreatDoorName
set_option linter.unusedVariables false
set_option linter.unusedSimpArgs false
namespace Go.Proofs.YtkifdbeklagelaaGreatDoor
open Go.RowKit

/-- may stand in a class -/
def pcB (c : UInt8) : Bool := nbB c || c == 95 || c == 46
def betw (a b : UInt8) : List UInt8 := (List.range (b.toNat - a.toNat + 1)).map fun i => UInt8.ofNat (a.toNat + i)
/-- the span at the head of the bytes, and what stands behind it -/
def spanL : List UInt8 → Option (List UInt8 × List UInt8)
  | [] => none
  | c :: r => if pcB c = true then (match r with
      | [] => some ([c], [])
      | t :: r' => if t = 126 then (match r' with
          | [] => none
          | d :: r'' => if pcB d = true ∧ c.toNat ≤ d.toNat then some (betw c d, r'') else none)
        else some ([c], t :: r')) else none
def spansL : Nat → List UInt8 → List UInt8 × List UInt8
  | 0, l => ([], l)
  | m + 1, l => match spanL l with
    | none => ([], l)
    | some (b, r) => (b ++ (spansL m r).1, (spansL m r).2)
/-- ascending, each once -/
def clsL (l : List UInt8) : List UInt8 := ((List.range 256).map UInt8.ofNat).filter fun c => l.contains c
def charsP (l : List UInt8) : Pat := .mk ⟨1, ⟨l.toArray⟩⟩ []
def opP (op : Int) (kids : List Pat) : Pat := .mk ⟨op, ⟨#[]⟩⟩ kids
def joinP (op : Int) : List Pat → Pat
  | [p] => p
  | l => opP op l
def anyL : List UInt8 := (List.range 95).map fun i => UInt8.ofNat (32 + i)
/-- the class behind '[' -/
def classL (l : List UInt8) : Option (Pat × List UInt8) := match (spansL l.length l).2 with
  | [] => none
  | c :: r => if c = 93 ∧ (spansL l.length l).1 ≠ [] then some (charsP (clsL (spansL l.length l).1), r) else none
def atomL (alt : List UInt8 → Pat × List UInt8) : List UInt8 → Option (Pat × List UInt8)
  | [] => none
  | c :: r =>
    if c = 40 then (match (alt r).2 with
      | [] => none
      | d :: r' => if d = 41 then some ((alt r).1, r') else none)
    else if c = 91 then classL r
    else if c = 46 then some (charsP anyL, r)
    else if nbB c = true then some (charsP [c], r)
    else none
/-- what a sign behind an atom makes of it -/
def repT (p : Pat) : List UInt8 → Pat × List UInt8
  | [] => (p, [])
  | c :: r => if c = 42 then (opP 4 [p], r) else if c = 63 then (opP 5 [p], r) else if c = 43 then (opP 2 [p, opP 4 [p]], r) else (p, c :: r)
def repL (A : List UInt8 → Option (Pat × List UInt8)) (l : List UInt8) : Option (Pat × List UInt8) := (A l).map fun x => repT x.1 x.2
def seqL (A : List UInt8 → Option (Pat × List UInt8)) : Nat → List UInt8 → List Pat × List UInt8
  | 0, l => ([], l)
  | m + 1, l => match repL A l with
    | none => ([], l)
    | some (p, r) => (p :: (seqL A m r).1, (seqL A m r).2)
def seqP (A : List UInt8 → Option (Pat × List UInt8)) (l : List UInt8) : Pat × List UInt8 := (joinP 2 (seqL A l.length l).1, (seqL A l.length l).2)
def altL (A : List UInt8 → Option (Pat × List UInt8)) : Nat → List UInt8 → List Pat × List UInt8
  | 0, l => ([(seqP A l).1], (seqP A l).2)
  | m + 1, l => match (seqP A l).2 with
    | [] => ([(seqP A l).1], [])
    | c :: r => if c = 124 then ((seqP A l).1 :: (altL A m r).1, (altL A m r).2) else ([(seqP A l).1], c :: r)
def altP (A : List UInt8 → Option (Pat × List UInt8)) (l : List UInt8) : Pat × List UInt8 := (joinP 3 (altL A l.length l).1, (altL A l.length l).2)
def atomF : Nat → List UInt8 → Option (Pat × List UInt8)
  | 0, _ => none
  | n + 1, l => atomL (altP (atomF n)) l
/-- what ParsePattern says -/
def patS (l : List UInt8) : Option Pat := if 30 < l.length then none else if (altP (atomF l.length) l).2 = [] then some (altP (atomF l.length) l).1 else none

/-- r is what is left of l behind some bytes -/
def Suf (l r : List UInt8) : Prop := ∃ k, k ≤ l.length ∧ r = l.drop k
theorem Suf.refl (l : List UInt8) : Suf l l := ⟨0, by omega, rfl⟩
theorem Suf.trans {l r t : List UInt8} (h : Suf l r) (h' : Suf r t) : Suf l t := by
  obtain ⟨k, hk, rfl⟩ := h
  obtain ⟨j, hj, rfl⟩ := h'
  rw [List.length_drop] at hj
  exact ⟨k + j, by omega, by rw [List.drop_drop]⟩
theorem Suf.cons (c : UInt8) (r : List UInt8) : Suf (c :: r) r := ⟨1, by simp, rfl⟩
theorem Suf.len {l r : List UInt8} (h : Suf l r) : r.length ≤ l.length := by
  obtain ⟨k, hk, rfl⟩ := h
  rw [List.length_drop]; omega
theorem Suf.drop {l r : List UInt8} (h : Suf l r) : r = l.drop (l.length - r.length) := by
  obtain ⟨k, hk, rfl⟩ := h
  rw [List.length_drop, show l.length - (l.length - k) = k by omega]
theorem spanL_suf {l b r : List UInt8} (h : spanL l = some (b, r)) : Suf l r ∧ r.length < l.length ∧ b ≠ [] := by
  unfold spanL at h
  split at h
  · cases h
  · rename_i c r0
    split at h
    · split at h
      · cases h; exact ⟨Suf.cons _ _, by simp, by simp⟩
      · rename_i t r'
        split at h
        · split at h
          · cases h
          · split at h
            · cases h
              exact ⟨((Suf.cons _ _).trans (Suf.cons _ _)).trans (Suf.cons _ _), by simp; omega, by unfold betw; simp⟩
            · cases h
        · cases h; exact ⟨Suf.cons _ _, by simp, by simp⟩
    · cases h
theorem spansL_suf : ∀ (m : Nat) (l : List UInt8), Suf l (spansL m l).2
  | 0, l => Suf.refl l
  | m + 1, l => by
    rw [spansL]
    split
    · exact Suf.refl l
    · rename_i b r h
      exact (spanL_suf h).1.trans (spansL_suf m r)
theorem spansL_more : ∀ (m m' : Nat) (l : List UInt8), l.length ≤ m → l.length ≤ m' → spansL m l = spansL m' l
  | 0, m', l, h, _ => by
    obtain rfl := List.length_eq_zero_iff.1 (Nat.le_zero.1 h)
    cases m' <;> rfl
  | m + 1, 0, l, _, h => by
    obtain rfl := List.length_eq_zero_iff.1 (Nat.le_zero.1 h)
    rfl
  | m + 1, m' + 1, l, h, h' => by
    rw [spansL, spansL]
    split
    · rfl
    · rename_i b r e
      have := (spanL_suf e).2.1
      rw [spansL_more m m' r (by omega) (by omega)]
theorem classL_suf {l : List UInt8} {p : Pat} {r : List UInt8} (h : classL l = some (p, r)) : Suf l r := by
  unfold classL at h
  have hs := spansL_suf l.length l
  split at h
  · cases h
  · rename_i c r0 e
    split at h
    · cases h; rw [e] at hs; exact hs.trans (Suf.cons _ _)
    · cases h
/-- what an atom's reader must do: leave fewer bytes -/
def Sh (A : List UInt8 → Option (Pat × List UInt8)) : Prop := ∀ l p r, A l = some (p, r) → Suf l r ∧ r.length < l.length
theorem repT_suf (p : Pat) (l : List UInt8) : Suf l (repT p l).2 := by
  unfold repT
  split
  · exact Suf.refl _
  · split
    · exact Suf.cons _ _
    · split
      · exact Suf.cons _ _
      · split
        · exact Suf.cons _ _
        · exact Suf.refl _
theorem repL_sh {A : List UInt8 → Option (Pat × List UInt8)} (h : Sh A) : Sh (repL A) := by
  intro l p r e
  unfold repL at e
  cases hA : A l with
  | none => rw [hA] at e; cases e
  | some x =>
    obtain ⟨q, t⟩ := x
    rw [hA] at e
    have h1 := h l q t hA
    have h2 := repT_suf q t
    have e2 : repT q t = (p, r) := Option.some.inj e
    rw [e2] at h2
    exact ⟨h1.1.trans h2, Nat.lt_of_le_of_lt h2.len h1.2⟩
theorem seqL_suf {A : List UInt8 → Option (Pat × List UInt8)} (h : Sh A) : ∀ (m : Nat) (l : List UInt8), Suf l (seqL A m l).2
  | 0, l => Suf.refl l
  | m + 1, l => by
    rw [seqL]
    split
    · exact Suf.refl l
    · rename_i p r e
      exact (repL_sh h l p r e).1.trans (seqL_suf h m r)
theorem seqL_more {A : List UInt8 → Option (Pat × List UInt8)} (h : Sh A) (h0 : A [] = none) : ∀ (m m' : Nat) (l : List UInt8), l.length ≤ m → l.length ≤ m' → seqL A m l = seqL A m' l
  | 0, m', l, hm, _ => by
    obtain rfl := List.length_eq_zero_iff.1 (Nat.le_zero.1 hm)
    cases m' with
    | zero => rfl
    | succ m' => rw [seqL, seqL]; unfold repL; rw [h0]; rfl
  | m + 1, 0, l, _, hm => by
    obtain rfl := List.length_eq_zero_iff.1 (Nat.le_zero.1 hm)
    rw [seqL, seqL]; unfold repL; rw [h0]; rfl
  | m + 1, m' + 1, l, hm, hm' => by
    rw [seqL, seqL]
    split
    · rfl
    · rename_i p r e
      have := (repL_sh h l p r e).2
      rw [seqL_more h h0 m m' r (by omega) (by omega)]
theorem seqP_suf {A : List UInt8 → Option (Pat × List UInt8)} (h : Sh A) (l : List UInt8) : Suf l (seqP A l).2 := seqL_suf h l.length l
theorem altL_suf {A : List UInt8 → Option (Pat × List UInt8)} (h : Sh A) : ∀ (m : Nat) (l : List UInt8), Suf l (altL A m l).2
  | 0, l => seqP_suf h l
  | m + 1, l => by
    have hs := seqP_suf h l
    rw [altL]
    split
    · rename_i e; rw [e] at hs; exact hs
    · rename_i c r e
      rw [e] at hs
      split
      · exact (hs.trans (Suf.cons _ _)).trans (altL_suf h m r)
      · exact hs
theorem altL_more {A : List UInt8 → Option (Pat × List UInt8)} (h : Sh A) : ∀ (m m' : Nat) (l : List UInt8), l.length ≤ m → l.length ≤ m' → altL A m l = altL A m' l
  | 0, m', l, hm, _ => by
    obtain rfl := List.length_eq_zero_iff.1 (Nat.le_zero.1 hm)
    cases m' with
    | zero => rfl
    | succ m' =>
      have hs := (seqP_suf h []).len
      have e : (seqP A []).2 = [] := List.length_eq_zero_iff.1 (by simpa using hs)
      rw [altL, altL, e]
  | m + 1, 0, l, _, hm => by
    obtain rfl := List.length_eq_zero_iff.1 (Nat.le_zero.1 hm)
    have hs := (seqP_suf h []).len
    have e : (seqP A []).2 = [] := List.length_eq_zero_iff.1 (by simpa using hs)
    rw [altL, altL, e]
  | m + 1, m' + 1, l, hm, hm' => by
    have hs := (seqP_suf h l).len
    rw [altL, altL]
    split
    · rfl
    · rename_i c r e
      rw [e, List.length_cons] at hs
      rw [altL_more h m m' r (by omega) (by omega)]
theorem altP_suf {A : List UInt8 → Option (Pat × List UInt8)} (h : Sh A) (l : List UInt8) : Suf l (altP A l).2 := altL_suf h l.length l
theorem atomL_sh {alt : List UInt8 → Pat × List UInt8} (h : ∀ l, Suf l (alt l).2) : Sh (atomL alt) := by
  intro l p r e
  unfold atomL at e
  split at e
  · cases e
  · rename_i c t
    have key : Suf t r → Suf (c :: t) r ∧ r.length < (c :: t).length := fun hs => ⟨(Suf.cons _ _).trans hs, by have := hs.len; rw [List.length_cons]; omega⟩
    split at e
    · have hs := h t
      split at e
      · cases e
      · rename_i d r' e2
        split at e
        · cases e; rw [e2] at hs; exact key (hs.trans (Suf.cons _ _))
        · cases e
    · split at e
      · exact key (classL_suf e)
      · split at e
        · cases e; exact key (Suf.refl _)
        · split at e
          · cases e; exact key (Suf.refl _)
          · cases e
theorem atomF_sh : ∀ n, Sh (atomF n)
  | 0 => fun l p r e => by cases e
  | n + 1 => atomL_sh (fun l => altP_suf (atomF_sh n) l)
theorem atomF_nil (n : Nat) : atomF n [] = none := by cases n <;> rfl
end Go.Proofs.YtkifdbeklagelaaGreatDoor
