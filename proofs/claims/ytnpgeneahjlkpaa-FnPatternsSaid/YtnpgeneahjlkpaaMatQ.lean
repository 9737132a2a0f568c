/- CHAPTER 5, PLAIN MATHEMATICS: places at which texts end, put together. No function is spoken of. -/
import Derived.Test.YtnpgeneahjlkpaaMatP
set_option linter.unusedVariables false
set_option linter.unusedSimpArgs false
namespace Go.Proofs.Ytnpgeneahjlkpaa
open Go.RowKit

/-- what begins below n ends below n -/
def Bd (R : Nat → Nat → Prop) (n : Nat) : Prop := ∀ i j, i < n → R i j → j < n
theorem rtc_bd {R : Nat → Nat → Prop} {n : Nat} (h : Bd R n) : Bd (Rtc R) n := fun i j hi hr => by
  induction hr with
  | refl _ => exact hi
  | step h1 _ ih => exact ih (h _ _ hi h1)
theorem seq_bd {R : Pat → Nat → Nat → Prop} {n : Nat} (h : ∀ p, Bd (R p) n) : ∀ l, Bd (SeqR R l) n
  | [] => fun i j hi hr => by have e : i = j := hr; omega
  | p :: l => fun i j hi ⟨k, h1, h2⟩ => seq_bd h l k j (h p i k hi h1) h2
theorem step_bd {s : ByteArray} {R : Pat → Nat → Nat → Prop} (h : ∀ p, Bd (R p) (s.size + 1)) (p : Pat) : Bd (StepM s R p) (s.size + 1) := fun i j hi hr => by
  unfold StepM at hr
  split at hr
  · obtain ⟨⟨h1, _⟩, rfl⟩ := hr; omega
  · split at hr
    · exact seq_bd h _ i j hi hr
    · split at hr
      · obtain ⟨k, _, h2⟩ := hr; exact h k i j hi h2
      · split at hr
        · split at hr
          · exact rtc_bd (h _) i j hi hr
          · omega
        · split at hr
          · split at hr
            · rcases hr with e | hr
              · omega
              · exact h _ i j hi hr
            · omega
          · exact hr.elim
theorem mt_bd (s : ByteArray) : ∀ d p, Bd (Mt s d p) (s.size + 1)
  | 0, p => step_bd (fun _ _ _ _ h => h.elim) p
  | d + 1, p => step_bd (mt_bd s d) p
theorem kid_bd (s : ByteArray) : ∀ d p, Bd (kidM s d p) (s.size + 1)
  | 0, _ => fun _ _ _ h => h.elim
  | d + 1, p => mt_bd s d p
theorem ends_self (A : List Bool) : EndsOf (fun i j => i = j) A A := fun j _ => ⟨fun h => ⟨j, h, rfl⟩, fun ⟨_, h, e⟩ => e ▸ h⟩
theorem EndsOf.congr {R R' : Nat → Nat → Prop} {A O : List Bool} (h : EndsOf R A O) (e : ∀ i j, R i j ↔ R' i j) : EndsOf R' A O := fun j hj => (h j hj).trans ⟨fun ⟨i, h1, h2⟩ => ⟨i, h1, (e i j).1 h2⟩, fun ⟨i, h1, h2⟩ => ⟨i, h1, (e i j).2 h2⟩⟩
theorem ends_comp {R1 R2 : Nat → Nat → Prop} {A O O2 : List Bool} {n : Nat} (h1 : EndsOf R1 A O) (h2 : EndsOf R2 O O2) (hA : A.length = n) (hO : O.length = n) (hb : Bd R1 n) : EndsOf (fun i j => ∃ k, R1 i k ∧ R2 k j) A O2 := fun j hj => by
  rw [h2 j hj]
  constructor
  · rintro ⟨k, hk, hr⟩
    obtain ⟨i, hi, hr1⟩ := (h1 k (on_lt hk)).1 hk
    exact ⟨i, hi, k, hr1, hr⟩
  · rintro ⟨i, hi, k, hr1, hr2⟩
    exact ⟨k, (h1 k (by have := hb i k (by have := on_lt hi; omega) hr1; omega)).2 ⟨i, hi, hr1⟩, hr2⟩
theorem seq_snoc {R : Pat → Nat → Nat → Prop} {p : Pat} : ∀ {l : List Pat} {i j : Nat}, SeqR R (l ++ [p]) i j ↔ ∃ k, SeqR R l i k ∧ R p k j
  | [], i, j => ⟨fun ⟨k, h1, h2⟩ => ⟨i, rfl, by have e : k = j := h2; exact e ▸ h1⟩, fun ⟨k, h1, h2⟩ => ⟨j, by have e : i = k := h1; rw [e]; exact h2, rfl⟩⟩
  | q :: l, i, j => by
    constructor
    · rintro ⟨k, h1, h2⟩
      obtain ⟨k2, h3, h4⟩ := seq_snoc.1 h2
      exact ⟨k2, ⟨k, h1, h3⟩, h4⟩
    · rintro ⟨k2, ⟨k, h1, h3⟩, h4⟩
      exact ⟨k, h1, seq_snoc.2 ⟨k2, h3, h4⟩⟩
theorem ends_alt {R : Pat → Nat → Nat → Prop} {A O E : List Bool} {l : List Pat} {p : Pat} (h1 : EndsOf (fun i j => ∃ k, k ∈ l ∧ R k i j) A O) (h2 : EndsOf (R p) A E) (hl : O.length = E.length) (U : List Bool) (hU : U.length = O.length) (hu : ∀ i, On U i ↔ On O i ∨ On E i) : EndsOf (fun i j => ∃ k, k ∈ l ++ [p] ∧ R k i j) A U := fun j hj => by
  rw [hu j]
  constructor
  · rintro (h | h)
    · obtain ⟨i, hi, k, hk, hr⟩ := (h1 j (by omega)).1 h
      exact ⟨i, hi, k, List.mem_append_left _ hk, hr⟩
    · obtain ⟨i, hi, hr⟩ := (h2 j (by omega)).1 h
      exact ⟨i, hi, p, by simp, hr⟩
  · rintro ⟨i, hi, k, hk, hr⟩
    rcases List.mem_append.1 hk with hk | hk
    · exact .inl ((h1 j (by omega)).2 ⟨i, hi, k, hk, hr⟩)
    · rw [List.mem_singleton.1 hk] at hr
      exact .inr ((h2 j (by omega)).2 ⟨i, hi, hr⟩)
/-- the places that a star's rounds have found so far -/
def Sofar (R : Nat → Nat → Prop) (A O : List Bool) : Prop := (∀ i, On A i → On O i) ∧ ∀ j, On O j → ∃ i, On A i ∧ Rtc R i j
theorem rtc_snoc {R : Nat → Nat → Prop} {i j k : Nat} (h : Rtc R i j) (t : R j k) : Rtc R i k := h.trans (.one t)
theorem sofar_start (R : Nat → Nat → Prop) (A : List Bool) : Sofar R A A := ⟨fun _ h => h, fun j h => ⟨j, h, .refl _⟩⟩
theorem Sofar.more {R : Nat → Nat → Prop} {A O E U : List Bool} (h : Sofar R A O) (hE : EndsOf R O E) (hu : ∀ i, On U i ↔ On O i ∨ On E i) : Sofar R A U :=
  ⟨fun i hi => (hu i).2 (.inl (h.1 i hi)), fun j hj => by
    rcases (hu j).1 hj with hj | hj
    · exact h.2 j hj
    · obtain ⟨k, hk, hr⟩ := (hE j (on_lt hj)).1 hj
      obtain ⟨i, hi, ht⟩ := h.2 k hk
      exact ⟨i, hi, rtc_snoc ht hr⟩⟩
/-- nothing more has come: all is found -/
theorem Sofar.done {R : Nat → Nat → Prop} {A O E U : List Bool} {n : Nat} (h : Sofar R A O) (hE : EndsOf R O E) (hu : ∀ i, On U i ↔ On O i ∨ On E i) (he : U = O) (hO : O.length = n) (hEl : E.length = n) (hA : A.length = n) (hb : Bd R n) : EndsOf (Rtc R) A O := fun j hj => by
  refine ⟨h.2 j, ?_⟩
  rintro ⟨i, hi, ht⟩
  have h0 := h.1 i hi
  clear hi hj
  induction ht with
  | refl _ => exact h0
  | step h1 _ ih =>
    refine ih ?_
    rw [← he]
    have hlt := hb _ _ (by have := on_lt h0; omega) h1
    exact (hu _).2 (.inr ((hE _ (by omega)).2 ⟨_, h0, h1⟩))
theorem ends_maybe {R : Nat → Nat → Prop} {A E U : List Bool} (hE : EndsOf R A E) (hl : E.length = U.length) (hu : ∀ i, On U i ↔ On A i ∨ On E i) : EndsOf (fun i j => i = j ∨ R i j) A U := fun j hj => by
  rw [hu j, hE j (by omega)]
  constructor
  · rintro (h | ⟨i, hi, hr⟩)
    · exact ⟨j, h, .inl rfl⟩
    · exact ⟨i, hi, .inr hr⟩
  · rintro ⟨i, hi, e | hr⟩
    · exact .inl (e ▸ hi)
    · exact .inr ⟨i, hi, hr⟩
theorem ch_fin {A : List Bool} {s tx : ByteArray} {k k1 q j : Nat} {ax : Bool} (hA : On A k ↔ ax = true) (hk1 : k1 = k + 1) (hk : k < s.size) (hfin : q = tx.size ∨ ax = false) :
    ((∃ i, i < k ∧ j = i + 1 ∧ On A i ∧ ChAt s tx i) ∨ (j = k1 ∧ ax = true ∧ ∃ r, ∃ h : r < tx.size, r < q ∧ tx[r] = s[k])) ↔ ∃ i, i < k + 1 ∧ j = i + 1 ∧ On A i ∧ ChAt s tx i := by
  constructor
  · rintro (⟨i, h1, h2⟩ | ⟨h1, h2, r, h3, h4, h5⟩)
    · exact ⟨i, by omega, h2⟩
    · exact ⟨k, by omega, by omega, hA.2 h2, hk, by rw [← h5]; exact List.mem_iff_getElem.2 ⟨r, by simpa using h3, rfl⟩⟩
  · rintro ⟨i, h1, h2, h3, h4⟩
    by_cases e : i = k
    · subst e
      obtain ⟨_, h5⟩ := h4
      have hax := hA.1 h3
      rcases hfin with hf | hf
      · obtain ⟨r, hr, hr2⟩ := List.getElem_of_mem h5
        have hr' : r < tx.size := by simpa using hr
        exact .inr ⟨by omega, hax, r, hr', by omega, hr2⟩
      · rw [hf] at hax; cases hax
    · exact .inl ⟨i, by omega, h2, h3, h4⟩
theorem ch_on {O U : List Bool} {s tx : ByteArray} {k k1 q j : Nat} {h0 : k < s.size} (hon : On U k1) (hU : On U k1 ↔ On O k1 ∨ (k1 = k1 ∧ true = true ∧ ∃ r, ∃ h : r < tx.size, r < q ∧ tx[r] = s[k])) :
    ((j = k1 ∧ true = true) ∨ (j ≠ k1 ∧ (On O j ∨ (j = k1 ∧ true = true ∧ ∃ r, ∃ h : r < tx.size, r < q ∧ tx[r] = s[k])))) ↔ (On O j ∨ (j = k1 ∧ true = true ∧ ∃ r, ∃ h : r < tx.size, r < q + 1 ∧ tx[r] = s[k])) := by
  by_cases e : j = k1
  · subst e
    refine ⟨fun _ => ?_, fun _ => .inl ⟨rfl, rfl⟩⟩
    rcases hU.1 hon with h | ⟨_, _, r, h1, h2, h3⟩
    · exact .inl h
    · exact .inr ⟨rfl, rfl, r, h1, by omega, h3⟩
  · constructor
    · rintro (⟨h, _⟩ | ⟨_, h | ⟨h, _⟩⟩)
      · exact absurd h e
      · exact .inl h
      · exact absurd h e
    · rintro (h | ⟨h, _⟩)
      · exact .inr ⟨e, .inl h⟩
      · exact absurd h e
theorem ch_hit {O : List Bool} {s tx : ByteArray} {k k1 q j : Nat} {h0 : k < s.size} (hq : q < tx.size) (heq : tx[q] = s[k]) :
    ((j = k1 ∧ true = true) ∨ (j ≠ k1 ∧ (On O j ∨ (j = k1 ∧ true = true ∧ ∃ r, ∃ h : r < tx.size, r < q ∧ tx[r] = s[k])))) ↔ (On O j ∨ (j = k1 ∧ true = true ∧ ∃ r, ∃ h : r < tx.size, r < q + 1 ∧ tx[r] = s[k])) := by
  by_cases e : j = k1
  · subst e
    exact ⟨fun _ => .inr ⟨rfl, rfl, q, hq, by omega, heq⟩, fun _ => .inl ⟨rfl, rfl⟩⟩
  · constructor
    · rintro (⟨h, _⟩ | ⟨_, h | ⟨h, _⟩⟩)
      · exact absurd h e
      · exact .inl h
      · exact absurd h e
    · rintro (h | ⟨h, _⟩)
      · exact .inr ⟨e, .inl h⟩
      · exact absurd h e
theorem ch_miss {O U : List Bool} {s tx : ByteArray} {k k1 q j : Nat} {h0 : k < s.size} (hq : q < tx.size) (hne : tx[q] ≠ s[k]) (hoff : ¬ On U k1) (hU : On U k1 ↔ On O k1 ∨ (k1 = k1 ∧ true = true ∧ ∃ r, ∃ h : r < tx.size, r < q ∧ tx[r] = s[k])) :
    ((j = k1 ∧ false = true) ∨ (j ≠ k1 ∧ (On O j ∨ (j = k1 ∧ true = true ∧ ∃ r, ∃ h : r < tx.size, r < q ∧ tx[r] = s[k])))) ↔ (On O j ∨ (j = k1 ∧ true = true ∧ ∃ r, ∃ h : r < tx.size, r < q + 1 ∧ tx[r] = s[k])) := by
  by_cases e : j = k1
  · subst e
    constructor
    · rintro (⟨_, h⟩ | ⟨h, _⟩)
      · cases h
      · exact absurd rfl h
    · intro h
      refine absurd (hU.2 ?_) hoff
      rcases h with h | ⟨_, _, r, h1, h2, h3⟩
      · exact .inl h
      · by_cases er : r = q
        · subst er; exact absurd h3 hne
        · exact .inr ⟨rfl, rfl, r, h1, by omega, h3⟩
  · constructor
    · rintro (⟨h, _⟩ | ⟨_, h | ⟨h, _⟩⟩)
      · exact absurd h e
      · exact .inl h
      · exact absurd h e
    · rintro (h | ⟨h, _⟩)
      · exact .inr ⟨e, .inl h⟩
      · exact absurd h e
end Go.Proofs.Ytnpgeneahjlkpaa
