/- MERGED for a claim: PatH MatH. -/
import Derived.Test.YtnpgeneahjlkpaaPatF
import Derived.Test.YtnpgeneahjlkpaaMatC
import Derived.Test.YtnpgeneahjlkpaaMatB
set_option linter.unusedVariables false
set_option linter.unusedSimpArgs false
/- CHAPTER 5, PLAIN MATHEMATICS: a pattern that is read whole is read the same in brackets; two in brackets side by side, parted by '|', with a star behind. No function is spoken of. -/
namespace Go.Proofs.Ytnpgeneahjlkpaa
open Go.RowKit

theorem pc_41 : pcB 41 = false := by decide
theorem spanL_ext (l e : List UInt8) : spanL (l ++ 41 :: e) = (spanL l).map fun x => (x.1, x.2 ++ 41 :: e) := by
  match l with
  | [] => unfold spanL; simp [pc_41]
  | [c] =>
    show spanL (c :: 41 :: e) = _
    unfold spanL
    by_cases h : pcB c = true <;> simp [h]
  | [c, t] =>
    show spanL (c :: t :: 41 :: e) = _
    unfold spanL
    by_cases h : pcB c = true <;> by_cases ht : t = 126 <;> simp [h, ht, pc_41]
  | c :: t :: d :: r =>
    show spanL (c :: t :: d :: (r ++ 41 :: e)) = _
    unfold spanL
    by_cases h : pcB c = true
    · by_cases ht : t = 126
      · by_cases hd : pcB d = true ∧ c.toNat ≤ d.toNat
        · simp [h, ht, hd]
        · simp only [h, ht, if_true, if_neg hd]
          rfl
      · simp [h, ht]
    · simp [h]
theorem spansL_ext (e : List UInt8) : ∀ (m : Nat) (l : List UInt8), spansL m (l ++ 41 :: e) = ((spansL m l).1, (spansL m l).2 ++ 41 :: e)
  | 0, l => rfl
  | m + 1, l => by
    rw [spansL, spansL, spanL_ext]
    cases spanL l with
    | none => rfl
    | some x =>
      obtain ⟨b, r⟩ := x
      show (b ++ (spansL m (r ++ 41 :: e)).1, (spansL m (r ++ 41 :: e)).2) = _
      rw [spansL_ext e m r]
theorem classL_ext {l r e : List UInt8} {p : Pat} (h : classL l = some (p, r)) : classL (l ++ 41 :: e) = some (p, r ++ 41 :: e) := by
  unfold classL at h ⊢
  rw [spansL_ext, ← spansL_more l.length (l ++ 41 :: e).length l (Nat.le_refl _) (by simp)]
  generalize spansL l.length l = y at h
  obtain ⟨b, t⟩ := y
  dsimp only at h ⊢
  cases t with
  | nil => cases h
  | cons c r0 =>
    dsimp only [List.cons_append] at h ⊢
    split at h
    · rename_i hc
      rw [if_pos hc]
      cases h; rfl
    · cases h
/-- what stands behind a sequence, behind an alternative -/
def EndS (r : List UInt8) : Prop := r = [] ∨ (∃ t, r = 41 :: t) ∨ ∃ t, r = 124 :: t
def EndA (r : List UInt8) : Prop := r = [] ∨ ∃ t, r = 41 :: t
theorem EndA.s {r : List UInt8} (h : EndA r) : EndS r := h.elim .inl fun h => .inr (.inl h)
/-- what is read stays read with ')' and more behind it -/
def Loc (A : List UInt8 → Option (Pat × List UInt8)) : Prop := ∀ l p r e, A l = some (p, r) → A (l ++ 41 :: e) = some (p, r ++ 41 :: e)
def Stop (A : List UInt8 → Option (Pat × List UInt8)) : Prop := A [] = none ∧ (∀ t, A (41 :: t) = none) ∧ ∀ t, A (124 :: t) = none
theorem Stop.ends {A : List UInt8 → Option (Pat × List UInt8)} (h : Stop A) {r : List UInt8} (he : EndS r) (e : List UInt8) : A (r ++ 41 :: e) = none := by
  rcases he with rfl | ⟨t, rfl⟩ | ⟨t, rfl⟩
  · exact h.2.1 e
  · exact h.2.1 _
  · exact h.2.2 _
theorem repT_ext (p : Pat) (l e : List UInt8) : repT p (l ++ 41 :: e) = ((repT p l).1, (repT p l).2 ++ 41 :: e) := by
  cases l with
  | nil => rfl
  | cons c r =>
    show repT p (c :: (r ++ 41 :: e)) = _
    unfold repT
    dsimp only
    split
    · rfl
    split
    · rfl
    split
    · rfl
    · rfl
theorem repL_loc {A : List UInt8 → Option (Pat × List UInt8)} (h : Loc A) : Loc (repL A) := by
  intro l p r e hr
  unfold repL at hr ⊢
  cases hA : A l with
  | none => rw [hA] at hr; cases hr
  | some x =>
    obtain ⟨q, t⟩ := x
    rw [hA] at hr
    have e2 : repT q t = (p, r) := Option.some.inj hr
    rw [h l q t e hA]
    show some (repT q (t ++ 41 :: e)) = _
    rw [repT_ext, e2]
theorem repL_stop {A : List UInt8 → Option (Pat × List UInt8)} (h : Stop A) : Stop (repL A) :=
  ⟨by unfold repL; rw [h.1]; rfl, fun t => by unfold repL; rw [h.2.1]; rfl, fun t => by unfold repL; rw [h.2.2]; rfl⟩
theorem seqL_loc {A : List UInt8 → Option (Pat × List UInt8)} (h : Loc A) (hs : Sh A) (hp : Stop A) (e : List UInt8) : ∀ (m m' : Nat) (l : List UInt8), l.length ≤ m → l.length ≤ m' → EndS (seqL A m l).2 → seqL A m' (l ++ 41 :: e) = ((seqL A m l).1, (seqL A m l).2 ++ 41 :: e)
  | 0, m', l, h1, _, _ => by
    obtain rfl := List.length_eq_zero_iff.1 (Nat.le_zero.1 h1)
    cases m' with
    | zero => rfl
    | succ m' => show seqL A (m' + 1) (41 :: e) = _; rw [seqL, seqL, (repL_stop hp).2.1]; rfl
  | m + 1, 0, l, _, h2, _ => by
    obtain rfl := List.length_eq_zero_iff.1 (Nat.le_zero.1 h2)
    rw [seqL, seqL, (repL_stop hp).1]
  | m + 1, m' + 1, l, h1, h2, he => by
    rw [seqL] at he
    rw [seqL, seqL]
    cases hr : repL A l with
    | none =>
      rw [hr] at he
      rw [(repL_stop hp).ends he e]
    | some x =>
      obtain ⟨p, r⟩ := x
      rw [hr] at he
      have hl := (repL_sh hs l p r hr).2
      rw [repL_loc h l p r e hr]
      show (p :: (seqL A m' (r ++ 41 :: e)).1, (seqL A m' (r ++ 41 :: e)).2) = _
      rw [seqL_loc h hs hp e m m' r (by omega) (by omega) he]
theorem seqP_loc {A : List UInt8 → Option (Pat × List UInt8)} (h : Loc A) (hs : Sh A) (hp : Stop A) (e l : List UInt8) (he : EndS (seqP A l).2) : seqP A (l ++ 41 :: e) = ((seqP A l).1, (seqP A l).2 ++ 41 :: e) := by
  unfold seqP at he ⊢
  rw [seqL_loc h hs hp e l.length (l ++ 41 :: e).length l (Nat.le_refl _) (by simp) he]
theorem altL_loc {A : List UInt8 → Option (Pat × List UInt8)} (h : Loc A) (hs : Sh A) (hp : Stop A) (e : List UInt8) : ∀ (m m' : Nat) (l : List UInt8), l.length ≤ m → l.length ≤ m' → EndA (altL A m l).2 → altL A m' (l ++ 41 :: e) = ((altL A m l).1, (altL A m l).2 ++ 41 :: e)
  | 0, m', l, h1, _, _ => by
    obtain rfl := List.length_eq_zero_iff.1 (Nat.le_zero.1 h1)
    have hsuf := (seqP_suf hs []).len
    have h0 : (seqP A []).2 = [] := List.length_eq_zero_iff.1 (Nat.le_zero.1 hsuf)
    have hq := seqP_loc h hs hp e [] (by rw [h0]; exact .inl rfl)
    rw [h0] at hq
    cases m' with
    | zero =>
      rw [altL, altL, hq, h0]
    | succ m' =>
      rw [altL, altL, hq, h0]
      rfl
  | m + 1, 0, l, _, h2, _ => by
    obtain rfl := List.length_eq_zero_iff.1 (Nat.le_zero.1 h2)
    have hsuf := (seqP_suf hs []).len
    have h0 : (seqP A []).2 = [] := List.length_eq_zero_iff.1 (Nat.le_zero.1 hsuf)
    have hq := seqP_loc h hs hp e [] (by rw [h0]; exact .inl rfl)
    rw [h0] at hq
    rw [altL, altL, hq, h0]
  | m + 1, m' + 1, l, h1, h2, he => by
    have hsuf := (seqP_suf hs l).len
    rw [altL] at he
    rw [altL, altL]
    cases hr : (seqP A l).2 with
    | nil =>
      have hq := seqP_loc h hs hp e l (by rw [hr]; exact .inl rfl)
      rw [hr] at hq
      rw [hq]
      rfl
    | cons c r =>
      rw [hr] at he hsuf
      dsimp only at he
      by_cases hc : c = 124
      · subst hc
        rw [if_pos rfl] at he
        have hq := seqP_loc h hs hp e l (by rw [hr]; exact .inr (.inr ⟨r, rfl⟩))
        rw [hr] at hq
        rw [hq]
        show (if (124 : UInt8) = 124 then ((seqP A l).1 :: (altL A m' (r ++ 41 :: e)).1, (altL A m' (r ++ 41 :: e)).2) else _) = _
        rw [if_pos rfl]
        simp only [List.length_cons] at hsuf
        rw [altL_loc h hs hp e m m' r (by omega) (by omega) he]
        dsimp only
        rw [if_pos rfl]
      · rw [if_neg hc] at he
        rcases he with he | ⟨t, he⟩
        · cases he
        · cases he
          have hq := seqP_loc h hs hp e l (by rw [hr]; exact .inr (.inl ⟨r, rfl⟩))
          rw [hr] at hq
          rw [hq]
          rfl
theorem altP_loc {A : List UInt8 → Option (Pat × List UInt8)} (h : Loc A) (hs : Sh A) (hp : Stop A) (e l : List UInt8) (he : EndA (altP A l).2) : altP A (l ++ 41 :: e) = ((altP A l).1, (altP A l).2 ++ 41 :: e) := by
  unfold altP at he ⊢
  rw [altL_loc h hs hp e l.length (l ++ 41 :: e).length l (Nat.le_refl _) (by simp) he]
theorem atomF_halt : ∀ n, Stop (atomF n)
  | 0 => ⟨rfl, fun _ => rfl, fun _ => rfl⟩
  | n + 1 => ⟨rfl, fun t => by
      show atomL _ (41 :: t) = none
      unfold atomL
      simp [show nbB 41 = false by decide], fun t => by
      show atomL _ (124 :: t) = none
      unfold atomL
      simp [show nbB 124 = false by decide]⟩
theorem atomF_loc : ∀ n, Loc (atomF n)
  | 0 => fun l p r e h => by cases h
  | n + 1 => fun l p r e h => by
    have ih := atomF_loc n
    have h' : atomL (altP (atomF n)) l = some (p, r) := h
    show atomL (altP (atomF n)) (l ++ 41 :: e) = some (p, r ++ 41 :: e)
    cases l with
    | nil => cases h'
    | cons c t =>
      show atomL (altP (atomF n)) (c :: (t ++ 41 :: e)) = _
      unfold atomL at h' ⊢
      dsimp only at h' ⊢
      by_cases c1 : c = 40
      · rw [if_pos c1] at h' ⊢
        cases hr : (altP (atomF n) t).2 with
        | nil => rw [hr] at h'; cases h'
        | cons d r' =>
          rw [hr] at h'
          dsimp only at h'
          by_cases hd : d = 41
          · rw [if_pos hd] at h'
            cases h'
            have hq := altP_loc ih (atomF_sh n) (atomF_halt n) e t (by rw [hr, hd]; exact .inr ⟨_, rfl⟩)
            rw [hr] at hq
            rw [hq]
            show (if d = 41 then _ else _) = _
            rw [if_pos hd]
            rfl
          · rw [if_neg hd] at h'; cases h'
      · rw [if_neg c1] at h' ⊢
        by_cases c2 : c = 91
        · rw [if_pos c2] at h' ⊢; exact classL_ext h'
        · rw [if_neg c2] at h' ⊢
          by_cases c3 : c = 46
          · rw [if_pos c3] at h' ⊢; cases h'; rfl
          · rw [if_neg c3] at h' ⊢
            by_cases c4 : nbB c = true
            · rw [if_pos c4] at h' ⊢; cases h'; rfl
            · rw [if_neg c4] at h'; cases h'
/-! more fuel gives the same -/
theorem seqL_eq {A B : List UInt8 → Option (Pat × List UInt8)} (hs : Sh A) : ∀ (m : Nat) (l : List UInt8), (∀ l', l'.length ≤ l.length → A l' = B l') → seqL A m l = seqL B m l
  | 0, l, _ => rfl
  | m + 1, l, h => by
    rw [seqL, seqL]
    have h1 : repL A l = repL B l := by unfold repL; rw [h l (Nat.le_refl _)]
    rw [← h1]
    cases hr : repL A l with
    | none => rfl
    | some x =>
      obtain ⟨p, r⟩ := x
      have := (repL_sh hs l p r hr).2
      show (p :: (seqL A m r).1, _) = _
      rw [seqL_eq hs m r fun l' hl => h l' (by omega)]
theorem seqP_eq {A B : List UInt8 → Option (Pat × List UInt8)} (hs : Sh A) (l : List UInt8) (h : ∀ l', l'.length ≤ l.length → A l' = B l') : seqP A l = seqP B l := by
  unfold seqP; rw [seqL_eq hs l.length l h]
theorem altL_eq {A B : List UInt8 → Option (Pat × List UInt8)} (hs : Sh A) : ∀ (m : Nat) (l : List UInt8), (∀ l', l'.length ≤ l.length → A l' = B l') → altL A m l = altL B m l
  | 0, l, h => by rw [altL, altL, seqP_eq hs l h]
  | m + 1, l, h => by
    have hsuf := (seqP_suf hs l).len
    rw [altL, altL, ← seqP_eq hs l h]
    cases hr : (seqP A l).2 with
    | nil => rfl
    | cons c r =>
      rw [hr] at hsuf
      simp only [List.length_cons] at hsuf
      dsimp only
      rw [altL_eq hs m r fun l' hl => h l' (by omega)]
theorem altP_eq {A B : List UInt8 → Option (Pat × List UInt8)} (hs : Sh A) (l : List UInt8) (h : ∀ l', l'.length ≤ l.length → A l' = B l') : altP A l = altP B l := by
  unfold altP; rw [altL_eq hs l.length l h]
theorem atomF_more : ∀ (n m : Nat) (l : List UInt8), l.length ≤ n → l.length ≤ m → atomF n l = atomF m l
  | 0, m, l, h, _ => by
    obtain rfl := List.length_eq_zero_iff.1 (Nat.le_zero.1 h)
    rw [atomF_nil, atomF_nil]
  | n + 1, 0, l, _, h => by
    obtain rfl := List.length_eq_zero_iff.1 (Nat.le_zero.1 h)
    rw [atomF_nil, atomF_nil]
  | n + 1, m + 1, l, h, h' => by
    show atomL (altP (atomF n)) l = atomL (altP (atomF m)) l
    cases l with
    | nil => rfl
    | cons c r =>
      simp only [List.length_cons] at h h'
      unfold atomL
      dsimp only
      rw [altP_eq (atomF_sh n) r fun l' hl => atomF_more n m l' (by omega) (by omega)]
/-! patterns in brackets -/
theorem patS_iff {l : List UInt8} {p : Pat} : patS l = some p ↔ l.length ≤ 30 ∧ altP (atomF l.length) l = (p, []) := by
  unfold patS
  by_cases h : 30 < l.length
  · rw [if_pos h]
    constructor
    · intro h'; cases h'
    · intro h'; exact absurd h'.1 (by omega)
  · rw [if_neg h]
    by_cases h2 : (altP (atomF l.length) l).2 = []
    · rw [if_pos h2]
      constructor
      · intro h3; cases h3; exact ⟨by omega, Prod.ext rfl h2⟩
      · rintro ⟨_, h3⟩; rw [h3]
    · rw [if_neg h2]
      constructor
      · intro h3; cases h3
      · rintro ⟨_, h3⟩; rw [h3] at h2; exact absurd rfl h2
/-- a pattern in brackets is an atom -/
theorem atom_in {p : List UInt8} {P : Pat} (h : patS p = some P) (n : Nat) (hn : p.length < n) (e : List UInt8) : atomF n (40 :: (p ++ 41 :: e)) = some (P, e) := by
  obtain ⟨_, h2⟩ := patS_iff.1 h
  obtain ⟨m, rfl⟩ : ∃ m, n = m + 1 := ⟨n - 1, by omega⟩
  have h3 : altP (atomF m) p = (P, []) := by
    rw [← h2]
    exact altP_eq (atomF_sh m) p fun l' hl => atomF_more m p.length l' (by omega) hl
  have h4 := altP_loc (atomF_loc m) (atomF_sh m) (atomF_halt m) e p (by rw [h3]; exact .inl rfl)
  rw [h3] at h4
  show atomL (altP (atomF m)) (40 :: (p ++ 41 :: e)) = _
  unfold atomL
  dsimp only
  rw [if_pos rfl, h4]
  rfl
theorem seqL_stop {A : List UInt8 → Option (Pat × List UInt8)} (hp : Stop A) (m : Nat) {r : List UInt8} (he : EndS r) : seqL A m r = ([], r) := by
  cases m with
  | zero => rfl
  | succ m =>
    rw [seqL]
    have : repL A r = none := by
      rcases he with rfl | ⟨t, rfl⟩ | ⟨t, rfl⟩
      · exact (repL_stop hp).1
      · exact (repL_stop hp).2.1 t
      · exact (repL_stop hp).2.2 t
    rw [this]
theorem patS_or {p q : List UInt8} {P Q : Pat} (hp : patS p = some P) (hq : patS q = some Q) (hl : p.length + q.length + 5 ≤ 30) : patS (40 :: (p ++ 41 :: 124 :: 40 :: (q ++ [41]))) = some (opP 3 [P, Q]) := by
  obtain ⟨l, hll⟩ : ∃ l, l = 40 :: (p ++ 41 :: 124 :: 40 :: (q ++ [41])) := ⟨_, rfl⟩
  have hlen : l.length = p.length + q.length + 5 := by rw [hll]; simp; omega
  obtain ⟨n, hn⟩ : ∃ n, n = l.length := ⟨_, rfl⟩
  have a1 := atom_in hp n (by omega) (124 :: 40 :: (q ++ [41]))
  have a2 := atom_in hq n (by omega) []
  have st := atomF_halt n
  have s1 : seqP (atomF n) l = (P, 124 :: 40 :: (q ++ [41])) := by
    unfold seqP
    have : seqL (atomF n) l.length l = ([P], 124 :: 40 :: (q ++ [41])) := by
      rw [hlen, seqL]
      have r1 : repL (atomF n) l = some (P, 124 :: 40 :: (q ++ [41])) := by unfold repL; rw [hll, a1]; rfl
      rw [r1]
      dsimp only
      rw [seqL_stop st _ (.inr (.inr ⟨_, rfl⟩))]
    rw [this]; rfl
  have s2 : seqP (atomF n) (40 :: (q ++ [41])) = (Q, []) := by
    unfold seqP
    have : seqL (atomF n) (40 :: (q ++ [41])).length (40 :: (q ++ [41])) = ([Q], []) := by
      rw [List.length_cons, seqL]
      have r1 : repL (atomF n) (40 :: (q ++ [41])) = some (Q, []) := by unfold repL; rw [a2]; rfl
      rw [r1]
      dsimp only
      rw [seqL_stop st _ (.inl rfl)]
    rw [this]; rfl
  have s3 : altL (atomF n) (p.length + q.length + 4) (40 :: (q ++ [41])) = ([Q], []) := by
    rw [altL, s2]
  rw [← hll]
  refine patS_iff.2 ⟨by omega, ?_⟩
  rw [← hn]
  unfold altP
  have : altL (atomF n) l.length l = ([P, Q], []) := by
    rw [hlen, altL, s1]
    dsimp only
    rw [if_pos rfl, s3]
  rw [this]; rfl
theorem patS_row {p q : List UInt8} {P Q : Pat} (hp : patS p = some P) (hq : patS q = some Q) (hl : p.length + q.length + 4 ≤ 30) : patS (40 :: (p ++ 41 :: 40 :: (q ++ [41]))) = some (opP 2 [P, Q]) := by
  obtain ⟨l, hll⟩ : ∃ l, l = 40 :: (p ++ 41 :: 40 :: (q ++ [41])) := ⟨_, rfl⟩
  have hlen : l.length = p.length + q.length + 4 := by rw [hll]; simp; omega
  obtain ⟨n, hn⟩ : ∃ n, n = l.length := ⟨_, rfl⟩
  have a1 := atom_in hp n (by omega) (40 :: (q ++ [41]))
  have a2 := atom_in hq n (by omega) []
  have st := atomF_halt n
  have s1 : seqP (atomF n) l = (opP 2 [P, Q], []) := by
    unfold seqP
    have : seqL (atomF n) l.length l = ([P, Q], []) := by
      rw [hlen, seqL]
      have r1 : repL (atomF n) l = some (P, 40 :: (q ++ [41])) := by unfold repL; rw [hll, a1]; rfl
      have r2 : repL (atomF n) (40 :: (q ++ [41])) = some (Q, []) := by unfold repL; rw [a2]; rfl
      rw [r1]
      dsimp only
      rw [show p.length + q.length + 3 = (p.length + q.length + 2) + 1 by omega, seqL, r2]
      dsimp only
      rw [seqL_stop st _ (.inl rfl)]
    rw [this]; rfl
  rw [← hll]
  refine patS_iff.2 ⟨by omega, ?_⟩
  rw [← hn]
  unfold altP
  have : altL (atomF n) l.length l = ([opP 2 [P, Q]], []) := by
    rw [hlen, altL, s1]
  rw [this]; rfl
theorem patS_star {p : List UInt8} {P : Pat} (hp : patS p = some P) (hl : p.length + 3 ≤ 30) : patS (40 :: (p ++ [41, 42])) = some (opP 4 [P]) := by
  obtain ⟨l, hll⟩ : ∃ l, l = 40 :: (p ++ [41, 42]) := ⟨_, rfl⟩
  have hlen : l.length = p.length + 3 := by rw [hll]; simp
  obtain ⟨n, hn⟩ : ∃ n, n = l.length := ⟨_, rfl⟩
  have a1 := atom_in hp n (by omega) [42]
  have st := atomF_halt n
  have s1 : seqP (atomF n) l = (opP 4 [P], []) := by
    unfold seqP
    have : seqL (atomF n) l.length l = ([opP 4 [P]], []) := by
      rw [hlen, seqL]
      have r1 : repL (atomF n) l = some (opP 4 [P], []) := by unfold repL; rw [hll, a1]; rfl
      rw [r1]
      dsimp only
      rw [seqL_stop st _ (.inl rfl)]
    rw [this]; rfl
  rw [← hll]
  refine patS_iff.2 ⟨by omega, ?_⟩
  rw [← hn]
  unfold altP
  have : altL (atomF n) l.length l = ([opP 4 [P]], []) := by
    rw [hlen, altL, s1]
  rw [this]; rfl
end Go.Proofs.Ytnpgeneahjlkpaa

/- CHAPTER 5, PLAIN MATHEMATICS of matching: the texts of '(p)|(q)', '(p)(q)', '(p)*'. No function is spoken of. -/
namespace Go.Proofs.Ytnpgeneahjlkpaa
open Go.RowKit

theorem rtc_shift {R R' : Nat → Nat → Prop} {o : Nat} (h : ∀ i j, R i j → R' (o + i) (o + j)) {i j : Nat} (hr : Rtc R i j) : Rtc R' (o + i) (o + j) := by
  induction hr with
  | refl i => exact .refl _
  | step h1 _ ih => exact .step (h _ _ h1) ih
theorem seqR_shift {R R' : Pat → Nat → Nat → Prop} {o : Nat} (h : ∀ k i j, R k i j → R' k (o + i) (o + j)) : ∀ (l : List Pat) (i j : Nat), SeqR R l i j → SeqR R' l (o + i) (o + j)
  | [], i, j, hr => by have : i = j := hr; rw [this]; rfl
  | p :: l, i, j, ⟨k, h1, h2⟩ => ⟨o + k, h p i k h1, seqR_shift h l k j h2⟩
/-- the bytes of s stand in u from o on -/
def Within (s u : ByteArray) (o : Nat) : Prop := ∀ i (hi : i < s.size), ∃ hu : o + i < u.size, u[o + i] = s[i]
theorem stepM_shift {s u : ByteArray} {o : Nat} (hw : Within s u o) {R R' : Pat → Nat → Nat → Prop} (h : ∀ k i j, R k i j → R' k (o + i) (o + j)) (p : Pat) (i j : Nat) (hm : StepM s R p i j) : StepM u R' p (o + i) (o + j) := by
  unfold StepM at hm ⊢
  split
  · rename_i c; rw [if_pos c] at hm
    obtain ⟨⟨h1, h2⟩, rfl⟩ := hm
    obtain ⟨hu, e⟩ := hw i h1
    exact ⟨⟨hu, by rw [e]; exact h2⟩, by omega⟩
  rename_i c; rw [if_neg c] at hm
  split
  · rename_i c; rw [if_pos c] at hm; exact seqR_shift h _ _ _ hm
  rename_i c; rw [if_neg c] at hm
  split
  · rename_i c; rw [if_pos c] at hm
    obtain ⟨k, hk, hr⟩ := hm
    exact ⟨k, hk, h _ _ _ hr⟩
  rename_i c; rw [if_neg c] at hm
  split
  · rename_i c; rw [if_pos c] at hm
    generalize p.kids = l at hm ⊢
    match l, hm with
    | [], hm => exact congrArg (o + ·) hm
    | [k], hm => exact rtc_shift (h k) hm
    | _ :: _ :: _, hm => exact congrArg (o + ·) hm
  rename_i c; rw [if_neg c] at hm
  split
  · rename_i c; rw [if_pos c] at hm
    generalize p.kids = l at hm ⊢
    match l, hm with
    | [], hm => exact congrArg (o + ·) hm
    | [k], .inl hm => exact .inl (congrArg (o + ·) hm)
    | [k], .inr hm => exact .inr (h k _ _ hm)
    | _ :: _ :: _, hm => exact congrArg (o + ·) hm
  · rename_i c; rw [if_neg c] at hm; exact hm.elim
theorem mt_shift {s u : ByteArray} {o : Nat} (hw : Within s u o) : ∀ (d : Nat) (p : Pat) (i j : Nat), Mt s d p i j → Mt u d p (o + i) (o + j)
  | 0, p, i, j, h => stepM_shift hw (fun _ _ _ h => h) p i j h
  | d + 1, p, i, j, h => stepM_shift hw (fun k i j h => mt_shift hw d k i j h) p i j h
theorem size_list (s : ByteArray) : s.size = s.data.toList.length := Array.length_toList.symm
theorem within_of {s u : ByteArray} {a b : List UInt8} (h : u.data.toList = a ++ (s.data.toList ++ b)) : Within s u a.length := by
  intro i hi
  have hs : i < s.data.toList.length := by rw [← size_list]; exact hi
  have hu : a.length + i < u.data.toList.length := by rw [h]; simp only [List.length_append]; omega
  refine ⟨by rw [size_list]; exact hu, ?_⟩
  have h1 : u.data.toList[a.length + i] = s.data.toList[i] := by
    rw [List.getElem_of_eq h, List.getElem_append_right (by omega), List.getElem_append_left (by omega)]
    congr 1; omega
  have h2 : u.data[a.length + i]'(by simpa using hu) = s.data[i]'hi := by simpa using h1
  exact h2
theorem mt_up {P : Pat} {p : List UInt8} (hp : patS p = some P) (hl : p.length ≤ 29) (s : ByteArray) : Mt s 123 P = Mt s 124 P := by
  have hf := (patS_few hp).1
  rw [mt_deep s (4 * p.length + 4) P 123 hf (by omega), mt_deep s (4 * p.length + 4) P 124 hf (by omega)]
theorem text_pat {p s : ByteArray} (h : TextOf p s) : (patS p.data.toList).isSome = true := by obtain ⟨t, ht, _⟩ := h; rw [ht]; rfl
theorem some_of {l : List UInt8} (h : (patS l).isSome = true) : ∃ P, patS l = some P ∧ l.length ≤ 30 := by
  cases hp : patS l with
  | none => rw [hp] at h; cases h
  | some P => exact ⟨P, rfl, (patS_iff.1 hp).1⟩
theorem text_iff {p s : ByteArray} {P : Pat} (h : patS p.data.toList = some P) : TextOf p s ↔ Mt s 124 P 0 s.size :=
  ⟨fun ⟨t, h1, h2⟩ => by rw [h] at h1; cases h1; exact h2, fun h2 => ⟨P, h, h2⟩⟩
theorem text_or {x p q s : ByteArray} (hx : x.data.toList = 40 :: (p.data.toList ++ 41 :: 124 :: 40 :: (q.data.toList ++ [41]))) (hp : (patS p.data.toList).isSome = true) (hq : (patS q.data.toList).isSome = true) (hxx : (patS x.data.toList).isSome = true) :
    TextOf x s ↔ TextOf p s ∨ TextOf q s := by
  obtain ⟨P, h1, _⟩ := some_of hp
  obtain ⟨Q, h2, _⟩ := some_of hq
  obtain ⟨X, _, h4⟩ := some_of hxx
  rw [hx] at h4
  simp only [List.length_cons, List.length_append, List.length_nil] at h4
  have h3 := patS_or h1 h2 (by omega)
  rw [← hx] at h3
  rw [text_iff h3, text_iff h1, text_iff h2, mt_step]
  show StepM s (Mt s 123) (opP 3 [P, Q]) 0 s.size ↔ _
  rw [← mt_up h1 (by omega), ← mt_up h2 (by omega)]
  show (∃ k, k ∈ [P, Q] ∧ Mt s 123 k 0 s.size) ↔ _
  simp
theorem text_row {x p q s t u : ByteArray} (hx : x.data.toList = 40 :: (p.data.toList ++ 41 :: 40 :: (q.data.toList ++ [41]))) (hxx : (patS x.data.toList).isSome = true) (hu : u.data.toList = s.data.toList ++ t.data.toList) (hs : TextOf p s) (ht : TextOf q t) : TextOf x u := by
  obtain ⟨P, h1, _⟩ := some_of (text_pat hs)
  obtain ⟨Q, h2, _⟩ := some_of (text_pat ht)
  obtain ⟨X, _, h4⟩ := some_of hxx
  rw [hx] at h4
  simp only [List.length_cons, List.length_append, List.length_nil] at h4
  have h3 := patS_row h1 h2 (by omega)
  rw [← hx] at h3
  rw [text_iff h1] at hs
  rw [text_iff h2] at ht
  rw [text_iff h3, mt_step]
  show StepM u (Mt u 123) (opP 2 [P, Q]) 0 u.size
  have w1 : Within s u 0 := within_of (a := []) (b := t.data.toList) hu
  have w2 : Within t u s.data.toList.length := within_of (a := s.data.toList) (b := []) (by rw [hu, List.append_nil])
  have m1 := mt_shift w1 124 P 0 s.size hs
  have m2 := mt_shift w2 124 Q 0 t.size ht
  rw [← mt_up h1 (by omega)] at m1
  rw [← mt_up h2 (by omega)] at m2
  rw [Nat.zero_add, Nat.zero_add] at m1
  rw [Nat.add_zero, ← size_list] at m2
  have hz : u.size = s.size + t.size := by rw [size_list, size_list, size_list, hu, List.length_append]
  rw [hz]
  exact ⟨s.size, m1, s.size + t.size, m2, rfl⟩
theorem text_star {x p s : ByteArray} {P : Pat} (hx : x.data.toList = 40 :: (p.data.toList ++ [41, 42])) (hp : patS p.data.toList = some P) (hxx : (patS x.data.toList).isSome = true) : TextOf x s ↔ Rtc (Mt s 124 P) 0 s.size := by
  obtain ⟨X, _, h4⟩ := some_of hxx
  rw [hx] at h4
  simp only [List.length_cons, List.length_append, List.length_nil] at h4
  have h3 := patS_star hp (by omega)
  rw [← hx] at h3
  rw [text_iff h3, mt_step]
  show Rtc (Mt s 123 P) 0 s.size ↔ _
  rw [mt_up hp (by omega)]
theorem text_star_nil {x p s : ByteArray} (hx : x.data.toList = 40 :: (p.data.toList ++ [41, 42])) (hp : (patS p.data.toList).isSome = true) (hxx : (patS x.data.toList).isSome = true) (hs : s.size = 0) : TextOf x s := by
  obtain ⟨P, h1, _⟩ := some_of hp
  rw [text_star hx h1 hxx, hs]
  exact .refl _
theorem text_star_one {x p s t u : ByteArray} (hx : x.data.toList = 40 :: (p.data.toList ++ [41, 42])) (hxx : (patS x.data.toList).isSome = true) (hu : u.data.toList = s.data.toList ++ t.data.toList) (hs : TextOf p s) (ht : TextOf x t) : TextOf x u := by
  obtain ⟨P, h1, _⟩ := some_of (text_pat hs)
  rw [text_star hx h1 hxx] at ht ⊢
  rw [text_iff h1] at hs
  have w1 : Within s u 0 := within_of (a := []) (b := t.data.toList) hu
  have w2 : Within t u s.data.toList.length := within_of (a := s.data.toList) (b := []) (by rw [hu, List.append_nil])
  have m1 := mt_shift w1 124 P 0 s.size hs
  have m2 := rtc_shift (R' := Mt u 124 P) (o := s.data.toList.length) (mt_shift w2 124 P) ht
  rw [Nat.zero_add, Nat.zero_add] at m1
  rw [Nat.add_zero, ← size_list] at m2
  have hz : u.size = s.size + t.size := by rw [size_list, size_list, size_list, hu, List.length_append]
  rw [hz]
  exact .step m1 m2
theorem text_star_two {x p s u : ByteArray} (hx : x.data.toList = 40 :: (p.data.toList ++ [41, 42])) (hxx : (patS x.data.toList).isSome = true) (hu : u.data.toList = s.data.toList ++ s.data.toList) (hs : TextOf p s) : TextOf x u := by
  refine text_star_one hx hxx hu hs ?_
  refine text_star_one (t := ⟨#[]⟩) hx hxx (by simp) hs (text_star_nil hx (text_pat hs) hxx rfl)
end Go.Proofs.Ytnpgeneahjlkpaa
