/- CHAPTER 4, WHAT laws.FnRanges ASKS OF WRITTEN RANGES: the tokens of the written form, and that they are read as the ranges: plain mathematics. No function is spoken of. -/
import Derived.Test.YtapalfmjebggfaaDoorLexP
import Derived.Test.YtapalfmjebggfaaDoorParP
import Derived.Test.YtapalfmjebggfaaDoorRngFp
namespace Go.Proofs.YtapalfmjebggfaaDoor
open Go.RowKit NumP

theorem digit_plain {c : UInt8} (h : 48 ≤ c.toNat ∧ c.toNat ≤ 57) : digB c = true ∧ letB c = false ∧ c ≠ 32 ∧ c ≠ 10 ∧ c ≠ 35 := by
  refine ⟨decide_eq_true h, decide_eq_false (by omega), ?_, ?_, ?_⟩ <;> (rintro rfl; simp at h)
/-- what may follow digits -/
def NoDig (R : List UInt8) : Prop := ∀ c r, R = c :: r → digB c = false
theorem tw_digits {A R : List UInt8} (hA : ∀ c ∈ A, 48 ≤ c.toNat ∧ c.toNat ≤ 57) (hR : NoDig R) : (A ++ R).takeWhile digB = A := by
  rw [List.takeWhile_append_of_pos fun c hc => (digit_plain (hA c hc)).1]
  cases R with
  | nil => simp
  | cons c r => rw [List.takeWhile_cons, if_neg (by rw [hR c r rfl]; decide), List.append_nil]
/-- digits ahead: one token -/
theorem lx_digits {N : Nat} (m : Nat) {R : List UInt8} (hR : NoDig R) {T : List Tok} (h : Lx N R T none) : ∃ p : Int, Lx N (dec m ++ R) (⟨2, ⟨(dec m).toArray⟩, p⟩ :: T) none := by
  have hd := dec_digit m
  have hl : dgLen (dec m ++ R) = (dec m).length := by unfold dgLen; rw [tw_digits hd hR]
  cases e : dec m with
  | nil => exact absurd e (dec_ne_nil m)
  | cons c r =>
    rw [e] at hl
    obtain ⟨h1, h2, h3, h4, h5⟩ := digit_plain (hd c (by rw [e]; simp))
    have ht : tokL ((c :: r) ++ R) = some (2, c :: r, (c :: r).length) := by
      rw [List.cons_append, tokL_dig h2 h1, ← List.cons_append, hl, List.take_left]
    refine ⟨_, .tok (c := c) (r := r ++ R) (by rw [List.cons_append]; exact skip_stop h3 h4 h5) ht ?_⟩
    rw [← List.cons_append, List.drop_left]; exact h
/-- a mark ahead: one token -/
theorem lx_mark {N : Nat} {c : UInt8} {m R : List UInt8} (h1 : letB c = false) (h2 : digB c = false) (h3 : c ≠ 34) (h4 : c ≠ 32 ∧ c ≠ 10 ∧ c ≠ 35) (hm : mkLen (c :: m ++ R) = (c :: m).length) {T : List Tok} (h : Lx N R T none) :
    ∃ p : Int, Lx N (c :: m ++ R) (⟨4, ⟨(c :: m).toArray⟩, p⟩ :: T) none := by
  have ht : tokL (c :: m ++ R) = some (4, c :: m, (c :: m).length) := by
    have : mkLen (c :: (m ++ R)) ≠ 0 := by rw [← List.cons_append, hm]; simp
    rw [List.cons_append, tokL_mrk h1 h2 h3 this, ← List.cons_append, hm, List.take_left]
  refine ⟨_, .tok (c := c) (r := m ++ R) (by rw [List.cons_append]; exact skip_stop h4.1 h4.2.1 h4.2.2) ht ?_⟩
  rw [← List.cons_append, List.drop_left]; exact h
theorem mk_minus {c : UInt8} {r : List UInt8} : mkLen ([45] ++ c :: r) = 1 := by simp [mkLen, mk2, marks1]
theorem mk_dots {R : List UInt8} : mkLen ([46, 46] ++ R) = 2 := by simp [mkLen, mk2]
theorem mk_bar {R : List UInt8} : mkLen ([124] ++ R) = 1 := by
  cases R <;> simp [mkLen, mk2, marks1]
def Num (n : Int) : Prop := -1000000000 ≤ n ∧ n ≤ 1000000000
/-- a bound -/
theorem lx_bound {N : Nat} {n : Int} (hn : Num n) {R : List UInt8} (hR : NoDig R) {T : List Tok} (h : Lx N R T none) : ∃ T1, Lx N (fmtL n ++ R) (T1 ++ T) none ∧ ∀ T', rdB (T1 ++ T') = some (n, T1.length) := by
  have hp := parseL_fmt hn.1 hn.2
  unfold fmtL at hp ⊢
  split at hp
  · obtain ⟨p, h1⟩ := lx_digits n.natAbs hR h
    cases e : dec n.natAbs with
    | nil => exact absurd e (dec_ne_nil _)
    | cons c r =>
      rw [e] at h1 hp
      obtain ⟨q, h2⟩ := lx_mark (c := 45) (m := []) (R := c :: r ++ R) (by decide) (by decide) (by decide) (by decide) (by rw [List.cons_append]; exact mk_minus) h1
      rw [if_pos (by assumption)]
      refine ⟨[⟨4, ⟨[45].toArray⟩, q⟩, ⟨2, ⟨(c :: r).toArray⟩, p⟩], by simpa using h2, fun T' => ?_⟩
      unfold rdB
      rw [if_pos (by simp [mkB, minusT])]
      simp [numT, hp]
  · obtain ⟨p, h1⟩ := lx_digits n.natAbs hR h
    rw [if_neg (by assumption)]
    refine ⟨[⟨2, ⟨(dec n.natAbs).toArray⟩, p⟩], by simpa using h1, fun T' => ?_⟩
    unfold rdB
    rw [if_neg (by simp [mkB])]
    simp [numT, hp]
def rangeL (x : Rg) : List UInt8 := (rangeS x).data.toList
theorem rangeL_one {x : Rg} (h : x.lo = x.hi) : rangeL x = fmtL x.lo := by unfold rangeL; rw [rangeS_same h]; simp [fmtS]
theorem rangeL_two {x : Rg} (h : ¬ x.lo = x.hi) : rangeL x = fmtL x.lo ++ ([46, 46] ++ fmtL x.hi) := by
  unfold rangeL rangeS; rw [if_neg h]; simp [fmtS, dots]
/-- a range, and what may follow it -/
def After (R : List UInt8) (T : List Tok) : Prop := NoDig R ∧ mkB T dotsT = false
theorem lx_range {N : Nat} {x : Rg} (h1 : Num x.lo) (h2 : Num x.hi) {R : List UInt8} {T : List Tok} (hR : After R T) (h : Lx N R T none) : ∃ T1, Lx N (rangeL x ++ R) (T1 ++ T) none ∧ rdR (T1 ++ T) = some (x, T1.length) := by
  by_cases e : x.lo = x.hi
  · obtain ⟨T1, h3, h4⟩ := lx_bound h1 hR.1 h
    refine ⟨T1, by rw [rangeL_one e]; exact h3, ?_⟩
    unfold rdR
    rw [h4 T, Option.bind_some]
    simp only [List.drop_left]
    rw [if_neg (by rw [hR.2]; decide)]
    obtain ⟨lo, hi⟩ := x
    simp only at e; subst e; rfl
  · obtain ⟨T2, h3, h4⟩ := lx_bound h2 hR.1 h
    obtain ⟨p, h5⟩ := lx_mark (N := N) (c := 46) (m := [46]) (R := fmtL x.hi ++ R) (by decide) (by decide) (by decide) (by decide) mk_dots h3
    obtain ⟨T1, h6, h7⟩ := lx_bound (N := N) h1 (R := [46, 46] ++ (fmtL x.hi ++ R)) (fun c r e => by cases e; decide) h5
    refine ⟨T1 ++ (⟨4, ⟨[46, 46].toArray⟩, p⟩ :: T2), by rw [rangeL_two e]; simpa using h6, ?_⟩
    unfold rdR
    rw [show T1 ++ (⟨4, ⟨[46, 46].toArray⟩, p⟩ :: T2) ++ T = T1 ++ (⟨4, ⟨[46, 46].toArray⟩, p⟩ :: (T2 ++ T)) by simp, h7, Option.bind_some]
    simp only [List.drop_left]
    rw [if_pos (by simp [mkB, dotsT])]
    rw [show (T1 ++ (⟨4, ⟨[46, 46].toArray⟩, p⟩ :: (T2 ++ T))).drop (T1.length + 1) = T2 ++ T by rw [← List.drop_drop, List.drop_left]; rfl, h4 T]
    simp; omega
/-- ranges written, one after the other -/
def rangesL : List Rg → List UInt8
  | [] => []
  | [x] => rangeL x
  | x :: r => rangeL x ++ 124 :: rangesL r
theorem format_bytes (l : List Rg) : (formatS l).data.toList = rangesL l := by
  have h : ∀ l, Lib.join ((rngsT l).map (·.data.toList)) [124] = rangesL l := fun l => by
    induction l with
    | nil => rfl
    | cons x r ih =>
      cases r with
      | nil => simp [rngsT, rangesL, Lib.join_one, rangeL]
      | cons y r =>
        have e1 : (rngsT (x :: y :: r)).map (·.data.toList) = rangeL x :: rangeL y :: (rngsT r).map (·.data.toList) := rfl
        have e2 : (rngsT (y :: r)).map (·.data.toList) = rangeL y :: (rngsT r).map (·.data.toList) := rfl
        rw [e2, Lib.join_cons] at ih
        rw [e1, Lib.join_cons, rangesL, ← ih]
        · simp [Lib.joinTail]
        · simp
  exact h l
theorem lx_ranges {N : Nat} : ∀ {l : List Rg}, l ≠ [] → (∀ x ∈ l, Num x.lo ∧ Num x.hi) → ∃ T, Lx N (rangesL l) T none ∧ ∀ (T0 : List Tok) (R : List Rg), Run (T0 ++ T) T0.length R (some (R ++ l, T0.length + T.length))
  | [], h, _ => absurd rfl h
  | [x], _, hn => by
    obtain ⟨h1, h2⟩ := hn x (by simp)
    obtain ⟨T1, h3, h4⟩ := lx_range (N := N) h1 h2 (R := []) (T := []) ⟨(fun c r e => by cases e), rfl⟩ (.fin (skip_nil _))
    simp only [List.append_nil] at h3 h4
    refine ⟨T1, h3, fun T0 R => .stop (x := x) (k := T1.length) (by rw [List.drop_left]; exact h4) ?_⟩
    rw [List.drop_eq_nil_of_le (by simp)]; rfl
  | x :: y :: r, _, hn => by
    obtain ⟨h1, h2⟩ := hn x (by simp)
    obtain ⟨T, h3, h4⟩ := lx_ranges (N := N) (l := y :: r) (by simp) (fun z hz => hn z (List.mem_cons_of_mem _ hz))
    obtain ⟨p, h5⟩ := lx_mark (N := N) (c := 124) (m := []) (by decide) (by decide) (by decide) (by decide) mk_bar h3
    obtain ⟨T1, h6, h7⟩ := lx_range (N := N) h1 h2 (R := [124] ++ rangesL (y :: r)) ⟨(fun c r e => by cases e; decide), by simp [mkB, dotsT]⟩ h5
    refine ⟨T1 ++ ((⟨4, ⟨[124].toArray⟩, p⟩ : Tok) :: T), by rw [rangesL]; exact h6; simp, fun T0 R => ?_⟩
    have e : (T0 ++ (T1 ++ ((⟨4, ⟨[124].toArray⟩, p⟩ : Tok) :: T))) = (T0 ++ (T1 ++ [(⟨4, ⟨[124].toArray⟩, p⟩ : Tok)])) ++ T := by simp
    have h8 := h4 (T0 ++ (T1 ++ [(⟨4, ⟨[124].toArray⟩, p⟩ : Tok)])) (R ++ [x])
    refine .more (x := x) (k := T1.length) (by rw [List.drop_left]; exact h7) ?_ ?_
    · rw [← List.append_assoc, show T0.length + T1.length = (T0 ++ T1).length by simp, List.drop_left]; simp [mkB, barT]
    · rw [e]
      have e1 : (T0 ++ (T1 ++ [(⟨4, ⟨[124].toArray⟩, p⟩ : Tok)])).length = T0.length + T1.length + 1 := by simp; omega
      rw [e1] at h8
      have e2 : T0.length + (T1 ++ ((⟨4, ⟨[124].toArray⟩, p⟩ : Tok) :: T)).length = T0.length + T1.length + 1 + T.length := by simp; omega
      rw [e2]
      simpa using h8
/-- written ranges are read -/
theorem back_ranges {l : List Rg} (h0 : l ≠ []) (h : Are l) (N : Nat) : ∃ T, Lx N (formatS l).data.toList T none ∧ Run T 0 [] (some (l, T.length)) ∧ parS none T.length (some (l, T.length)) = some l := by
  obtain ⟨T, h1, h2⟩ := lx_ranges (N := N) h0 (fun x hx => by have := h.2.2 x hx; unfold Rg.ok at this; unfold Num; omega)
  refine ⟨T, by rw [format_bytes]; exact h1, by simpa using h2 [] [], ?_⟩
  unfold parS; simp [h]
theorem back_none (N : Nat) : ∃ T, Lx N (formatS []).data.toList T none ∧ Run T 0 [] none ∧ parS none T.length none = none :=
  ⟨[], .fin rfl, .bad rfl, rfl⟩
end Go.Proofs.YtapalfmjebggfaaDoor
