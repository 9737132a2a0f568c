/- MERGED for a claim: MacA MacB MacC MacD MacE. -/
import Derived.Test.YtnpgeneahjlkpaaMatC
import Derived.Test.YtnpgeneahjlkpaaPatF
import Derived.Test.YtnpgeneahjlkpaaMatY
import Derived.RangeFuncNested
import Derived.RangeFuncBound
import Derived.RangeFuncCalls
import Derived.RangeFuncLeaves
import Derived.Shelf.Abstract
import Derived.Deep.RegionLaw
import Derived.Deep.RegionHeld3
import Derived.Deep.RegionHeldLaw
set_option linter.unusedVariables false
set_option linter.unusedSimpArgs false
/- CHAPTER 5, PLAIN MATHEMATICS: places of a pattern, where they lead, and what is said of a text by the places that are called. No function is spoken of. -/
namespace Go.Proofs.Ytnpgeneahjlkpaa
open Go.RowKit

/-- what the visit of a place does: it waits for a byte, or it calls some ways -/
inductive Vs where
  | wait
  | ways (l : List Nat)
/-- a place: the pattern before which it stands (e: no deeper than that; r: its record); where it leads (0: the end; j + 1: the place j); where it lies; when it was last visited; what its visit does -/
structure Pl where
  t : Pat
  e : Nat
  r : PatR
  nx : Nat
  b : Nat
  vis : Int
  sh : Option Vs
/-- patterns no deeper than that -/
def DeepL : Nat → List Pat → Prop
  | 0, l => l = []
  | e + 1, l => ∀ t, t ∈ l → DeepL e t.kids
theorem mt_deepL (s : ByteArray) : ∀ (d : Nat) (t : Pat) (e : Nat), DeepL d t.kids → d ≤ e → Mt s e t = Mt s d t
  | 0, t, e, hf, _ => by
    rw [mt_step, mt_step]
    have hk : t.kids = [] := hf
    exact stepM_congr (fun k h => by rw [hk] at h; cases h)
  | d + 1, t, e, hf, he => by
    obtain ⟨e', rfl⟩ : ∃ e', e = e' + 1 := ⟨e - 1, by omega⟩
    rw [mt_step, mt_step]
    exact stepM_congr (fun k h => mt_deepL s d k e' (hf k h) (by omega))
theorem m_step (s : ByteArray) {D d : Nat} {t : Pat} (hf : DeepL d t.kids) (hd : d ≤ D) : Mt s D t = StepM s (Mt s D) t := by
  rw [mt_step]
  refine stepM_congr fun k h => ?_
  cases d with
  | zero => have hk : t.kids = [] := hf; rw [hk] at h; cases h
  | succ d =>
    obtain ⟨D', rfl⟩ : ∃ D', D = D' + 1 := ⟨D - 1, by omega⟩
    show Mt s D' k = Mt s (D' + 1) k
    rw [mt_deepL s d k D' (hf k h) (by omega), mt_deepL s d k (D' + 1) (hf k h) (by omega)]
theorem rd_deep {w : World} : ∀ {d : Nat} {v : Value} {l : List Pat}, RdL patK d w v l → DeepL d l
  | 0, _, _, h => h.1
  | d + 1, _, l, ⟨R, _, h2, h3⟩ => fun t ht => by
    obtain ⟨i, hi, rfl⟩ := List.getElem_of_mem ht
    exact rd_deep (h3 i (by rw [h2]; exact hi) hi).2
namespace Mac
/-- the ref r leads through the patterns l to the ref n -/
def Leads (L : List Pl) : Nat → List Pat → Nat → Prop
  | r, [], n => r = n
  | r, k :: ks, n => ∃ (j : Nat) (p : Pl), r = j + 1 ∧ L[j]? = some p ∧ p.t = k ∧ Leads L p.nx ks n
/-- a star's or a maybe's way into its only kid, and behind -/
def Tries (L : List Pl) (l : List Pat) (behind n : Nat) (sh : Vs) : Prop :=
  match l with
  | [k] => ∃ r, sh = .ways [r, n] ∧ Leads L r [k] behind
  | _ => sh = .ways [n]
def Shaped (L : List Pl) (i : Nat) (p : Pl) (sh : Vs) : Prop :=
  (p.t.x.op = 1 → sh = .wait) ∧ (p.t.x.op = 2 → ∃ r, sh = .ways [r] ∧ Leads L r p.t.kids p.nx) ∧
  (p.t.x.op = 3 → ∃ l, sh = .ways l ∧ l.length = p.t.kids.length ∧ ∀ q (h : q < l.length) (h' : q < p.t.kids.length), Leads L l[q] [p.t.kids[q]] p.nx) ∧
  (p.t.x.op = 4 → Tries L p.t.kids (i + 1) p.nx sh) ∧ (p.t.x.op = 5 → Tries L p.t.kids p.nx p.nx sh) ∧
  (p.t.x.op ≠ 1 → p.t.x.op ≠ 2 → p.t.x.op ≠ 3 → p.t.x.op ≠ 4 → p.t.x.op ≠ 5 → sh = .ways [])
/-- L' knows all places of L, with the same patterns and ends -/
def Ext (L L' : List Pl) : Prop := ∀ (i : Nat) (p : Pl), L[i]? = some p → ∃ p', L'[i]? = some p' ∧ p'.t = p.t ∧ p'.nx = p.nx
theorem Ext.refl (L : List Pl) : Ext L L := fun _ p h => ⟨p, h, rfl, rfl⟩
theorem Ext.trans {L L' L'' : List Pl} (h : Ext L L') (h' : Ext L' L'') : Ext L L'' := fun i p hp => by
  obtain ⟨p', h1, h2, h3⟩ := h i p hp
  obtain ⟨p'', h4, h5, h6⟩ := h' i p' h1
  exact ⟨p'', h4, h5.trans h2, h6.trans h3⟩
theorem ext_append (L N : List Pl) : Ext L (L ++ N) := fun i p hp => ⟨p, by rw [List.getElem?_append_left (List.getElem?_eq_some_iff.1 hp).1]; exact hp, rfl, rfl⟩
theorem ext_set {L : List Pl} {i : Nat} {p q : Pl} (h : L[i]? = some p) (ht : q.t = p.t) (hn : q.nx = p.nx) : Ext L (L.set i q) := fun j x hx => by
  by_cases e : i = j
  · subst e
    rw [h] at hx; cases hx
    exact ⟨q, by rw [List.getElem?_set_self (List.getElem?_eq_some_iff.1 h).1], ht, hn⟩
  · exact ⟨x, by rw [List.getElem?_set_ne e]; exact hx, rfl, rfl⟩
theorem Leads.ext {L L' : List Pl} (he : Ext L L') : ∀ {l : List Pat} {r n : Nat}, Leads L r l n → Leads L' r l n
  | [], _, _, h => h
  | _ :: _, _, _, ⟨j, p, h1, h2, h3, h4⟩ => by
    obtain ⟨p', g1, g2, g3⟩ := he j p h2
    exact ⟨j, p', h1, g1, g2.trans h3, by rw [g3]; exact Leads.ext he h4⟩
theorem Tries.ext {L L' : List Pl} (he : Ext L L') {l : List Pat} {b n : Nat} {sh : Vs} (h : Tries L l b n sh) : Tries L' l b n sh := by
  unfold Tries at h ⊢
  split
  · obtain ⟨r, a, b⟩ := h; exact ⟨r, a, b.ext he⟩
  · rename_i hk
    split at h
    · exact absurd rfl (hk _)
    · exact h
theorem Shaped.ext {L L' : List Pl} (he : Ext L L') {i : Nat} {p p' : Pl} (ht : p'.t = p.t) (hn : p'.nx = p.nx) {sh : Vs} (h : Shaped L i p sh) : Shaped L' i p' sh := by
  obtain ⟨h1, h2, h3, h4, h5, h6⟩ := h
  unfold Shaped
  rw [ht, hn]
  refine ⟨h1, fun c => ?_, fun c => ?_, fun c => (h4 c).ext he, fun c => (h5 c).ext he, h6⟩
  · obtain ⟨r, a, b⟩ := h2 c; exact ⟨r, a, b.ext he⟩
  · obtain ⟨l, a, b, c'⟩ := h3 c; exact ⟨l, a, b, fun q x y => (c' q x y).ext he⟩
theorem Leads.le {L : List Pl} : ∀ {l : List Pat} {r n : Nat}, Leads L r l n → n ≤ L.length → r ≤ L.length
  | [], _, _, h, hn => by rw [show _ = _ from h]; exact hn
  | _ :: _, _, _, ⟨j, p, h1, h2, _, _⟩, _ => by have := (List.getElem?_eq_some_iff.1 h2).1; omega
/-- from the ref r at k a text of all that follows ends at j -/
inductive Path (s : ByteArray) (D : Nat) (L : List Pl) : Nat → Nat → Nat → Prop
  | fin (k : Nat) : Path s D L 0 k k
  | via {i k m j : Nat} {p : Pl} (h : L[i]? = some p) (hm : Mt s D p.t k m) (hp : Path s D L p.nx m j) : Path s D L (i + 1) k j
/-- each place leads to an earlier one -/
def Ord (L : List Pl) : Prop := ∀ (i : Nat) (p : Pl), L[i]? = some p → p.nx ≤ i
theorem Path.back {s : ByteArray} {D : Nat} {L L' : List Pl} (ho : Ord L) (he : Ext L L') {r k j : Nat} (h : Path s D L' r k j) : r ≤ L.length → Path s D L r k j := by
  induction h with
  | fin k => intro _; exact .fin k
  | @via i k m j p' h hm _ ih =>
    intro hr
    obtain ⟨p, hp⟩ : ∃ p, L[i]? = some p := ⟨L[i], List.getElem?_eq_getElem (by omega)⟩
    obtain ⟨q, g1, g2, g3⟩ := he i p hp
    rw [h] at g1; cases g1
    have hi := ho i p hp
    have hil := (List.getElem?_eq_some_iff.1 hp).1
    refine .via hp (by rw [← g2]; exact hm) ?_
    rw [← g3]
    exact ih (by rw [g3]; omega)
theorem path_leads {s : ByteArray} {D : Nat} {L : List Pl} : ∀ {l : List Pat} {r n k j : Nat}, Leads L r l n → Path s D L r k j → ∃ m, SeqR (Mt s D) l k m ∧ Path s D L n m j
  | [], _, _, k, _, h, hp => ⟨k, rfl, by rw [← show _ = _ from h]; exact hp⟩
  | t :: ks, _, _, _, _, ⟨i, p, h1, h2, h3, h4⟩, hp => by
    subst h1
    cases hp with
    | via h hm hp' =>
      rw [h] at h2; cases h2
      obtain ⟨m, g1, g2⟩ := path_leads h4 hp'
      exact ⟨m, ⟨_, by rw [← h3]; exact hm, g1⟩, g2⟩
section
variable {s : ByteArray} {D : Nat} {L : List Pl} {i : Nat} {p : Pl}
theorem stepM_star {t : Pat} {R : Pat → Nat → Nat → Prop} {k : Pat} (h : t.x.op = 4) (hk : t.kids = [k]) (a b : Nat) : StepM s R t a b ↔ Rtc (R k) a b := by
  unfold StepM; rw [if_neg (by omega), if_neg (by omega), if_neg (by omega), if_pos h, hk]
theorem stepM_maybe {t : Pat} {R : Pat → Nat → Nat → Prop} {k : Pat} (h : t.x.op = 5) (hk : t.kids = [k]) (a b : Nat) : StepM s R t a b ↔ (a = b ∨ R k a b) := by
  unfold StepM; rw [if_neg (by omega), if_neg (by omega), if_neg (by omega), if_neg (by omega), if_pos h, hk]
theorem stepM_skip {t : Pat} {R : Pat → Nat → Nat → Prop} (h : t.x.op = 4 ∨ t.x.op = 5) (hk : ∀ k, t.kids ≠ [k]) (a b : Nat) : StepM s R t a b ↔ a = b := by
  unfold StepM
  rcases h with h | h
  · rw [if_neg (by omega), if_neg (by omega), if_neg (by omega), if_pos h]
    split
    · rename_i k e; exact absurd e (hk k)
    · exact Iff.rfl
  · rw [if_neg (by omega), if_neg (by omega), if_neg (by omega), if_neg (by omega), if_pos h]
    split
    · rename_i k e; exact absurd e (hk k)
    · exact Iff.rfl
theorem stepM_seq {t : Pat} {R : Pat → Nat → Nat → Prop} (h : t.x.op = 2) (a b : Nat) : StepM s R t a b ↔ SeqR R t.kids a b := by
  unfold StepM; rw [if_neg (by omega), if_pos h]
theorem stepM_alt {t : Pat} {R : Pat → Nat → Nat → Prop} (h : t.x.op = 3) (a b : Nat) : StepM s R t a b ↔ ∃ k, k ∈ t.kids ∧ R k a b := by
  unfold StepM; rw [if_neg (by omega), if_neg (by omega), if_pos h]
theorem stepM_chars {t : Pat} {R : Pat → Nat → Nat → Prop} (h : t.x.op = 1) (a b : Nat) : StepM s R t a b ↔ ChAt s t.x.text a ∧ b = a + 1 := by
  unfold StepM; rw [if_pos h]
theorem stepM_other {t : Pat} {R : Pat → Nat → Nat → Prop} (h1 : t.x.op ≠ 1) (h2 : t.x.op ≠ 2) (h3 : t.x.op ≠ 3) (h4 : t.x.op ≠ 4) (h5 : t.x.op ≠ 5) (a b : Nat) : ¬ StepM s R t a b := by
  unfold StepM; rw [if_neg h1, if_neg h2, if_neg h3, if_neg h4, if_neg h5]; exact id
theorem op_cases (n : Int) : n = 1 ∨ n = 2 ∨ n = 3 ∨ n = 4 ∨ n = 5 ∨ (n ≠ 1 ∧ n ≠ 2 ∧ n ≠ 3 ∧ n ≠ 4 ∧ n ≠ 5) := by omega
theorem sound_wait (hp : L[i]? = some p) (hd : DeepL p.e p.t.kids) (he : p.e ≤ D) (h1 : p.t.x.op = 1) {k j : Nat} (hc : ChAt s p.t.x.text k) (hq : Path s D L p.nx (k + 1) j) : Path s D L (i + 1) k j :=
  .via hp (by rw [m_step s hd he]; exact (stepM_chars h1 _ _).2 ⟨hc, rfl⟩) hq
theorem sound_ways (hp : L[i]? = some p) (hd : DeepL p.e p.t.kids) (he : p.e ≤ D) {l : List Nat} (hs : Shaped L i p (.ways l)) {r k j : Nat} (hr : r ∈ l) (hq : Path s D L r k j) : Path s D L (i + 1) k j := by
  have hM := m_step s hd he
  have skip : ∀ m, Path s D L p.nx m j → Mt s D p.t k m → Path s D L (i + 1) k j := fun m a b => .via hp b a
  have tries : ∀ b, Tries L p.t.kids b p.nx (.ways l) → (∀ k', p.t.kids = [k'] → ∀ m, Mt s D k' k m → Path s D L b m j → Path s D L (i + 1) k j) → (Mt s D p.t k k) → Path s D L (i + 1) k j := fun b ht hk h0 => by
    unfold Tries at ht
    split at ht
    · rename_i k' e
      obtain ⟨r', e', hl⟩ := ht
      cases e'
      rcases List.mem_cons.1 hr with rfl | hr
      · obtain ⟨m, ⟨m', g1, g2⟩, g3⟩ := path_leads hl hq
        have g2' : m' = m := g2
        subst g2'
        exact hk k' e m' g1 g3
      · rw [List.mem_singleton.1 hr] at hq; exact skip k hq h0
    · cases ht
      rw [List.mem_singleton.1 hr] at hq; exact skip k hq h0
  obtain ⟨c1, c2, c3, c4, c5, c6⟩ := hs
  rcases op_cases p.t.x.op with h | h | h | h | h | ⟨h1, h2, h3, h4, h5⟩
  · cases c1 h
  · obtain ⟨r', e', hl⟩ := c2 h
    cases e'
    rw [List.mem_singleton.1 hr] at hq
    obtain ⟨m, g1, g2⟩ := path_leads hl hq
    exact skip m g2 (by rw [hM]; exact (stepM_seq h _ _).2 g1)
  · obtain ⟨l', e', hl, hL⟩ := c3 h
    cases e'
    obtain ⟨q, hq1, rfl⟩ := List.getElem_of_mem hr
    obtain ⟨m, ⟨m', g1, g2⟩, g3⟩ := path_leads (hL q hq1 (by omega)) hq
    have g2' : m' = m := g2
    subst g2'
    exact skip m' g3 (by rw [hM]; exact (stepM_alt h _ _).2 ⟨_, List.getElem_mem (by omega), g1⟩)
  · refine tries (i + 1) (c4 h) (fun k' e m g1 g3 => ?_) (by
      rw [hM]
      by_cases hk : ∃ k', p.t.kids = [k']
      · obtain ⟨k', hk⟩ := hk; exact (stepM_star h hk _ _).2 (.refl _)
      · exact (stepM_skip (.inl h) (fun k' hh => hk ⟨k', hh⟩) _ _).2 rfl)
    cases g3 with
    | via hp' hm' hp'' =>
      rw [hp] at hp'; cases hp'
      refine skip _ hp'' ?_
      rw [hM] at hm' ⊢
      exact (stepM_star h e _ _).2 (.step g1 ((stepM_star h e _ _).1 hm'))
  · refine tries p.nx (c5 h) (fun k' e m g1 g3 => skip m g3 (by rw [hM]; exact (stepM_maybe h e _ _).2 (.inr g1))) (by
      rw [hM]
      by_cases hk : ∃ k', p.t.kids = [k']
      · obtain ⟨k', hk⟩ := hk; exact (stepM_maybe h hk _ _).2 (.inl rfl)
      · exact (stepM_skip (.inr h) (fun k' hh => hk ⟨k', hh⟩) _ _).2 rfl)
  · have := c6 h1 h2 h3 h4 h5
    cases this
    cases hr
/-- what is called is closed: what a called place does has been done -/
def Closed (s : ByteArray) (L : List Pl) (H : Nat → Nat → Prop) : Prop := ∀ (i : Nat) (p : Pl) (k : Nat), L[i]? = some p → H (i + 1) k → ∃ sh, Shaped L i p sh ∧ (sh = .wait → ChAt s p.t.x.text k → H p.nx (k + 1)) ∧ (∀ l, sh = .ways l → ∀ r, r ∈ l → H r k)
theorem leads_compl {H : Nat → Nat → Prop} {R : Pat → Nat → Nat → Prop} : ∀ {l : List Pat} {r n k m : Nat}, (∀ t, t ∈ l → ∀ j q k m, L[j]? = some q → q.t = t → R t k m → H (j + 1) k → H q.nx m) → Leads L r l n → SeqR R l k m → H r k → H n m
  | [], _, _, _, _, _, hl, hs, h => by rw [← show _ = _ from hl, ← show _ = _ from hs]; exact h
  | t :: ks, _, _, _, _, ih, ⟨j, q, h1, h2, h3, h4⟩, ⟨k', g1, g2⟩, h => by
    subst h1
    exact leads_compl (fun t ht => ih t (by simp [ht])) h4 g2 (ih t (by simp) j q _ _ h2 h3 g1 h)
theorem compl_step {H : Nat → Nat → Prop} {R : Pat → Nat → Nat → Prop} (hc : Closed s L H) (i : Nat) (p : Pl) (k m : Nat) (hp : L[i]? = some p)
    (ih : ∀ t, t ∈ p.t.kids → ∀ j q k m, L[j]? = some q → q.t = t → R t k m → H (j + 1) k → H q.nx m) (hm : StepM s R p.t k m) (hh : H (i + 1) k) : H p.nx m := by
  have tries : ∀ b a, Tries L p.t.kids b p.nx a → ∀ q, (∀ l, a = .ways l → ∀ r, r ∈ l → H r q) → H p.nx q ∧ ∀ k' m', p.t.kids = [k'] → R k' q m' → H b m' := fun b a ht q hw => by
    unfold Tries at ht
    split at ht
    · rename_i k' e
      obtain ⟨r, rfl, hl⟩ := ht
      refine ⟨hw _ rfl _ (by simp), fun k'' m' e' hr => ?_⟩
      obtain rfl : k' = k'' := by rw [e] at e'; cases e'; rfl
      exact leads_compl (l := [k']) (R := R) (fun t ht => ih t (by rw [e]; exact ht)) hl ⟨m', hr, rfl⟩ (hw _ rfl r (by simp))
    · rename_i hk
      subst ht
      exact ⟨hw _ rfl _ (by simp), fun k'' m' e' => absurd e' (hk k'')⟩
  rcases op_cases p.t.x.op with h | h | h | h | h | ⟨h1, h2, h3, h4, h5⟩
  · obtain ⟨sh, hs, hw, _⟩ := hc i p k hp hh
    obtain ⟨g1, rfl⟩ := (stepM_chars h _ _).1 hm
    exact hw (hs.1 h) g1
  · obtain ⟨sh, hs, _, hw⟩ := hc i p k hp hh
    obtain ⟨r, rfl, hl⟩ := hs.2.1 h
    exact leads_compl ih hl ((stepM_seq h _ _).1 hm) (hw _ rfl r (by simp))
  · obtain ⟨sh, hs, _, hw⟩ := hc i p k hp hh
    obtain ⟨l, rfl, hl, hL⟩ := hs.2.2.1 h
    obtain ⟨t, ht, hr⟩ := (stepM_alt h _ _).1 hm
    obtain ⟨q, hq, rfl⟩ := List.getElem_of_mem ht
    exact leads_compl (l := [p.t.kids[q]]) (R := R) (fun t ht => ih t (by rw [List.mem_singleton.1 ht]; exact List.getElem_mem hq)) (hL q (by omega) hq) ⟨m, hr, rfl⟩ (hw _ rfl _ (List.getElem_mem (by omega)))
  · have main : ∀ a b, (a = b ∨ ∃ k', p.t.kids = [k'] ∧ Rtc (R k') a b) → H (i + 1) a → H p.nx b := by
      rintro a b (rfl | ⟨k', hk, hr⟩) ha
      · obtain ⟨sh, hs, _, hw⟩ := hc i p a hp ha
        exact (tries _ _ (hs.2.2.2.1 h) a hw).1
      · induction hr with
        | refl a =>
          obtain ⟨sh, hs, _, hw⟩ := hc i p a hp ha
          exact (tries _ _ (hs.2.2.2.1 h) a hw).1
        | @step a b c hr _ ihr =>
          obtain ⟨sh, hs, _, hw⟩ := hc i p a hp ha
          exact ihr ((tries _ _ (hs.2.2.2.1 h) a hw).2 k' b hk hr)
    refine main k m ?_ hh
    by_cases hk : ∃ k', p.t.kids = [k']
    · obtain ⟨k', hk⟩ := hk; exact .inr ⟨k', hk, (stepM_star h hk _ _).1 hm⟩
    · exact .inl ((stepM_skip (.inl h) (fun k' hh => hk ⟨k', hh⟩) _ _).1 hm)
  · obtain ⟨sh, hs, _, hw⟩ := hc i p k hp hh
    have ht := tries _ _ (hs.2.2.2.2.1 h) k hw
    by_cases hk : ∃ k', p.t.kids = [k']
    · obtain ⟨k', hk⟩ := hk
      rcases (stepM_maybe h hk _ _).1 hm with rfl | hr
      · exact ht.1
      · exact ht.2 k' m hk hr
    · have e := (stepM_skip (.inr h) (fun k' hh => hk ⟨k', hh⟩) _ _).1 hm
      rw [← e]; exact ht.1
  · exact absurd hm (stepM_other h1 h2 h3 h4 h5 _ _)
theorem compl {H : Nat → Nat → Prop} (hc : Closed s L H) : ∀ (e i : Nat) (p : Pl) (k m : Nat), L[i]? = some p → DeepL e p.t.kids → Mt s e p.t k m → H (i + 1) k → H p.nx m
  | 0, i, p, k, m, hp, hd, hm, hh => compl_step hc i p k m hp (fun t ht => by rw [show p.t.kids = [] from hd] at ht; cases ht) hm hh
  | e + 1, i, p, k, m, hp, hd, hm, hh => compl_step hc i p k m hp (fun t ht j q k m hq e' hr hj => by subst e'; exact compl hc e j q k m hq (hd _ ht) hr hj) hm hh
end
/-- what is called at k only if a text of T leads there -/
def GoodM (s : ByteArray) (D : Nat) (T : Pat) (L : List Pl) (r k : Nat) : Prop := ∀ j, Path s D L r k j → Mt s D T 0 j
end Mac
end Go.Proofs.Ytnpgeneahjlkpaa

/- CHAPTER 5, PLAIN MATHEMATICS: the machine: what is called, visited, waited for; what holds all the way, and what it says at the end. No function is spoken of. -/
namespace Go.Proofs.Ytnpgeneahjlkpaa
open Go.RowKit

structure Mc where
  pl : List Pl
  reached : List Nat
  waiting : List Nat
  pos : Nat
  en : Int
namespace Mac
/-- the ref r is called -/
def call (S : Mc) : Nat → Mc
  | 0 => { S with en := S.pos }
  | i + 1 => match S.pl[i]? with
    | some p => if p.vis < S.pos then { S with pl := S.pl.set i { p with vis := S.pos }, reached := S.reached ++ [i] } else S
    | none => S
def Called (S : Mc) : Nat → Prop
  | 0 => S.en = S.pos
  | i + 1 => ∃ p, S.pl[i]? = some p ∧ p.vis = S.pos
def Done (S : Mc) (i : Nat) (p : Pl) : Prop := ∃ sh, p.sh = some sh ∧ (sh = .wait → i ∈ S.waiting) ∧ (∀ l, sh = .ways l → ∀ r, r ∈ l → Called S r)
def sumL (f : Pl → Nat) (l : List Pl) : Nat := (l.map f).sum
theorem sumL_set {f : Pl → Nat} : ∀ {l : List Pl} {i : Nat} {p : Pl}, l[i]? = some p → ∀ q, sumL f (l.set i q) + f p = sumL f l + f q
  | [], _, _, h, _ => by simp at h
  | x :: l, 0, p, h, q => by
    have h' : x = p := by simpa using h
    subst h'
    simp [sumL]; omega
  | x :: l, i + 1, p, h, q => by
    have ih := sumL_set (f := f) (l := l) (i := i) (p := p) (by simpa using h) q
    simp only [sumL, List.set_cons_succ, List.map_cons, List.sum_cons] at ih ⊢
    omega
theorem sumL_app (f : Pl → Nat) (l m : List Pl) : sumL f (l ++ m) = sumL f l + sumL f m := by simp [sumL]
theorem sumL_le {f g : Pl → Nat} : ∀ {l : List Pl}, (∀ p, p ∈ l → f p ≤ g p) → sumL f l ≤ sumL g l
  | [], _ => Nat.le_refl _
  | x :: l, h => by
    have ih := sumL_le (f := f) (g := g) (l := l) (fun p hp => h p (by simp [hp]))
    have := h x (by simp)
    simp only [sumL, List.map_cons, List.sum_cons] at ih ⊢
    omega
def uw (k : Nat) (p : Pl) : Nat := if p.vis < k then 1 else 0
def rw' (p : Pl) : Nat := if p.sh.isNone then cntL p.e p.t.kids else 0
def nw (p : Pl) : Nat := 1 + cntL p.e p.t.kids
def unv (S : Mc) : Nat := sumL (uw S.pos) S.pl
def mu (S : Mc) : Nat := 2 * (unv S + sumL rw' S.pl) + S.reached.length
theorem sumL_one : ∀ l : List Pl, sumL (fun _ => 1) l = l.length
  | [] => rfl
  | x :: l => by
    have ih := sumL_one l
    simp only [sumL, List.map_cons, List.sum_cons, List.length_cons] at ih ⊢
    omega
theorem sumL_nw : ∀ l : List Pl, l.length + sumL (fun q => cntL q.e q.t.kids) l = sumL nw l
  | [] => rfl
  | x :: l => by
    have ih := sumL_nw l
    have e : nw x = 1 + cntL x.e x.t.kids := rfl
    simp only [sumL, List.map_cons, List.sum_cons, List.length_cons] at ih ⊢
    omega
theorem unv_le (S : Mc) : unv S ≤ S.pl.length := by
  have h : sumL (uw S.pos) S.pl ≤ sumL (fun _ => 1) S.pl := sumL_le fun p _ => by unfold uw; split <;> omega
  have h2 : sumL (fun _ => 1) S.pl = S.pl.length := sumL_one _
  unfold unv; omega
structure Inv (s : ByteArray) (D N : Nat) (T : Pat) (H : Nat → Nat → Prop) (X : Option Nat) (Wq : List Nat) (S : Mc) : Prop where
  ord : Ord S.pl
  deep : ∀ (i : Nat) (p : Pl), S.pl[i]? = some p → p.e ≤ D ∧ DeepL p.e p.t.kids
  shp : ∀ (i : Nat) (p : Pl) (sh : Vs), S.pl[i]? = some p → p.sh = some sh → Shaped S.pl i p sh
  vle : ∀ (i : Nat) (p : Pl), S.pl[i]? = some p → -1 ≤ p.vis ∧ p.vis ≤ S.pos
  ele : -1 ≤ S.en ∧ S.en ≤ S.pos
  ple : S.pos ≤ s.size
  hlt : ∀ r q, H r q → q < S.pos ∧ r ≤ S.pl.length
  past : ∀ (i : Nat) (p : Pl) (q : Nat), S.pl[i]? = some p → H (i + 1) q → ∃ sh, p.sh = some sh ∧ (sh = .wait → ChAt s p.t.x.text q → H p.nx (q + 1) ∨ (q + 1 = S.pos ∧ (Called S p.nx ∨ i ∈ Wq))) ∧ (∀ l, sh = .ways l → ∀ r, r ∈ l → H r q)
  now : ∀ (i : Nat) (p : Pl), S.pl[i]? = some p → p.vis = S.pos → X = some i ∨ i ∈ S.reached ∨ Done S i p
  rch : ∀ i, i ∈ S.reached → ∃ p, S.pl[i]? = some p ∧ p.vis = S.pos
  wt : ∀ i, i ∈ S.waiting → ∃ p, S.pl[i]? = some p ∧ p.t.x.op = 1 ∧ GoodM s D T S.pl (i + 1) S.pos
  good : ∀ r, Called S r → GoodM s D T S.pl r S.pos
  cnt : S.waiting.length + S.reached.length + unv S + (if X.isSome then 1 else 0) ≤ S.pl.length
  tot : S.pl.length + sumL rw' S.pl ≤ N
section
variable {s : ByteArray} {D N : Nat} {T : Pat} {H : Nat → Nat → Prop} {X : Option Nat} {Wq : List Nat} {S : Mc}
theorem called_le {r : Nat} (h : Called S r) : r ≤ S.pl.length := by
  cases r with
  | zero => exact Nat.zero_le _
  | succ i => obtain ⟨p, hp, _⟩ := h; have := (List.getElem?_eq_some_iff.1 hp).1; omega
/-- what a place turned to is, but for when it was visited and what its visit does -/
theorem set_back {L : List Pl} {i j : Nat} {p p' q' : Pl} (hp : L[i]? = some p) (h : (L.set i p')[j]? = some q') : (j = i ∧ q' = p') ∨ (j ≠ i ∧ L[j]? = some q') := by
  by_cases e : i = j
  · subst e
    rw [List.getElem?_set_self (List.getElem?_eq_some_iff.1 hp).1] at h
    cases h; exact .inl ⟨rfl, rfl⟩
  · rw [List.getElem?_set_ne e] at h
    exact .inr ⟨fun e' => e e'.symm, h⟩
theorem call_spec (S : Mc) (r : Nat) (hr : r ≤ S.pl.length) (hv : ∀ (i : Nat) (p : Pl), S.pl[i]? = some p → p.vis ≤ S.pos) :
    (Called S r ∧ call S r = S) ∨ (r = 0 ∧ call S r = { S with en := S.pos }) ∨
    ∃ i p, r = i + 1 ∧ S.pl[i]? = some p ∧ p.vis < S.pos ∧ call S r = { S with pl := S.pl.set i { p with vis := S.pos }, reached := S.reached ++ [i] } := by
  cases r with
  | zero => exact .inr (.inl ⟨rfl, rfl⟩)
  | succ i =>
    have hp : S.pl[i]? = some S.pl[i] := List.getElem?_eq_getElem (by omega)
    generalize S.pl[i] = p at hp
    by_cases h : p.vis < S.pos
    · exact .inr (.inr ⟨i, p, rfl, hp, h, by simp only [call, hp]; rw [if_pos h]⟩)
    · exact .inl ⟨⟨p, hp, by have := hv i p hp; omega⟩, by simp only [call, hp]; rw [if_neg h]⟩
/-- what a call changes -/
structure Stp (S S' : Mc) : Prop where
  ext : Ext S.pl S'.pl
  len : S'.pl.length = S.pl.length
  pos : S'.pos = S.pos
  wait : S'.waiting = S.waiting
  kept : ∀ r, Called S r → Called S' r
  mu : mu S' ≤ mu S
theorem Stp.refl (S : Mc) : Stp S S := ⟨Ext.refl _, rfl, rfl, rfl, fun _ h => h, Nat.le_refl _⟩
theorem Stp.trans {S S' S'' : Mc} (h : Stp S S') (h' : Stp S' S'') : Stp S S'' := ⟨h.ext.trans h'.ext, h'.len.trans h.len, h'.pos.trans h.pos, h'.wait.trans h.wait, fun r hr => h'.kept r (h.kept r hr), Nat.le_trans h'.mu h.mu⟩
theorem inv_call (I : Inv s D N T H X Wq S) {r : Nat} (hr : r ≤ S.pl.length) (hg : GoodM s D T S.pl r S.pos) : Inv s D N T H X Wq (call S r) ∧ Called (call S r) r ∧ Stp S (call S r) := by
  rcases call_spec S r hr (fun i p hp => (I.vle i p hp).2) with ⟨h1, h2⟩ | ⟨rfl, h2⟩ | ⟨i, p, rfl, hp, hv, h2⟩
  · rw [h2]; exact ⟨I, h1, Stp.refl S⟩
  · rw [h2]
    have hk : ∀ r, Called S r → Called { S with en := S.pos } r := fun r hr => by
      cases r with
      | zero => rfl
      | succ i => exact hr
    have hD : ∀ i p, Done S i p → Done { S with en := S.pos } i p := fun i p ⟨sh, a, b, c⟩ => ⟨sh, a, b, fun l e r hr => hk r (c l e r hr)⟩
    refine ⟨⟨I.ord, I.deep, I.shp, I.vle, ⟨by show (-1 : Int) ≤ (S.pos : Int); omega, Int.le_refl _⟩, I.ple, I.hlt, fun i p q hp hh => ?_, fun i p hp hv => ?_, I.rch, I.wt, fun r hr => ?_, I.cnt, I.tot⟩, rfl, ⟨Ext.refl _, rfl, rfl, rfl, hk, Nat.le_refl _⟩⟩
    · obtain ⟨sh, a, b, c⟩ := I.past i p q hp hh
      refine ⟨sh, a, fun e h => ?_, c⟩
      rcases b e h with h1 | ⟨h1, h1' | h1'⟩
      · exact .inl h1
      · exact .inr ⟨h1, .inl (hk _ h1')⟩
      · exact .inr ⟨h1, .inr h1'⟩
    · rcases I.now i p hp hv with h1 | h1 | h1
      · exact .inl h1
      · exact .inr (.inl h1)
      · exact .inr (.inr (hD i p h1))
    · cases r with
      | zero => exact hg
      | succ i => exact I.good (i + 1) hr
  · rw [h2]
    have he : Ext S.pl (S.pl.set i { p with vis := S.pos }) := ext_set hp rfl rfl
    have hlen : (S.pl.set i { p with vis := S.pos }).length = S.pl.length := List.length_set
    have hil := (List.getElem?_eq_some_iff.1 hp).1
    have hk : ∀ r, Called S r → Called { S with pl := S.pl.set i { p with vis := S.pos }, reached := S.reached ++ [i] } r := fun r hr => by
      cases r with
      | zero => exact hr
      | succ j =>
        obtain ⟨q, hq, hqv⟩ := hr
        by_cases e : i = j
        · subst e
          exact ⟨{ p with vis := S.pos }, by show (S.pl.set i _)[i]? = _; rw [List.getElem?_set_self hil], rfl⟩
        · exact ⟨q, by show (S.pl.set i _)[j]? = _; rw [List.getElem?_set_ne e]; exact hq, hqv⟩
    have hD : ∀ j q q', q'.sh = q.sh → Done S j q → Done { S with pl := S.pl.set i { p with vis := S.pos }, reached := S.reached ++ [i] } j q' := fun j q q' e ⟨sh, a, b, c⟩ => ⟨sh, e.trans a, b, fun l e r hr => hk r (c l e r hr)⟩
    have hgood : ∀ r, r ≤ S.pl.length → GoodM s D T S.pl r S.pos → GoodM s D T (S.pl.set i { p with vis := S.pos }) r S.pos := fun r hr hg => fun j hj => hg j (hj.back I.ord he hr)
    have hu : unv { S with pl := S.pl.set i { p with vis := S.pos }, reached := S.reached ++ [i] } + 1 = unv S := by
      have := sumL_set (f := uw S.pos) hp { p with vis := S.pos }
      have h1 : uw S.pos p = 1 := by unfold uw; rw [if_pos hv]
      have h2 : uw S.pos { p with vis := S.pos } = 0 := by unfold uw; rw [if_neg (Int.lt_irrefl _)]
      unfold unv
      show sumL (uw S.pos) (S.pl.set i { p with vis := S.pos }) + 1 = _
      omega
    have hrw : sumL rw' (S.pl.set i { p with vis := S.pos }) = sumL rw' S.pl := by
      have := sumL_set (f := rw') hp { p with vis := S.pos }
      have h1 : rw' { p with vis := S.pos } = rw' p := rfl
      omega
    refine ⟨⟨fun j q hq => ?_, fun j q hq => ?_, fun j q sh hq hs => ?_, fun j q hq => ?_, I.ele, I.ple, fun r q hh => ?_, fun j q k hq hh => ?_, fun j q hq hvq => ?_, fun j hj => ?_, fun j hj => ?_, fun r hr => ?_, ?_, ?_⟩, ?_, ⟨he, hlen, rfl, rfl, hk, ?_⟩⟩
    · rcases set_back hp hq with ⟨rfl, rfl⟩ | ⟨_, hq⟩
      · exact I.ord j p hp
      · exact I.ord j q hq
    · rcases set_back hp hq with ⟨rfl, rfl⟩ | ⟨_, hq⟩
      · exact I.deep j p hp
      · exact I.deep j q hq
    · rcases set_back hp hq with ⟨rfl, rfl⟩ | ⟨_, hq⟩
      · exact (I.shp j p sh hp hs).ext he rfl rfl
      · exact (I.shp j q sh hq hs).ext he rfl rfl
    · rcases set_back hp hq with ⟨rfl, rfl⟩ | ⟨_, hq⟩
      · exact ⟨by show (-1 : Int) ≤ (S.pos : Int); omega, Int.le_refl _⟩
      · exact I.vle j q hq
    · rw [hlen]; exact I.hlt r q hh
    · have key : ∀ q0 : Pl, S.pl[j]? = some q0 → q.sh = q0.sh → q.t = q0.t → q.nx = q0.nx → ∃ sh, q.sh = some sh ∧ (sh = .wait → ChAt s q.t.x.text k → H q.nx (k + 1) ∨ (k + 1 = S.pos ∧ (Called { S with pl := S.pl.set i { p with vis := S.pos }, reached := S.reached ++ [i] } q.nx ∨ j ∈ Wq))) ∧ (∀ l, sh = .ways l → ∀ r, r ∈ l → H r k) := fun q0 h0 e1 e2 e3 => by
        obtain ⟨sh, a, b, c⟩ := I.past j q0 k h0 hh
        refine (⟨sh, e1.trans a, fun e h => ?_, c⟩ : ∃ sh, q.sh = some sh ∧ (sh = .wait → ChAt s q.t.x.text k → H q.nx (k + 1) ∨ (k + 1 = S.pos ∧ (Called { S with pl := S.pl.set i { p with vis := S.pos }, reached := S.reached ++ [i] } q.nx ∨ j ∈ Wq))) ∧ (∀ l, sh = .ways l → ∀ r, r ∈ l → H r k))
        rw [e2] at h
        rw [e3]
        rcases b e h with h1 | ⟨h1, h1' | h1'⟩
        · exact .inl h1
        · exact .inr ⟨h1, .inl (hk _ h1')⟩
        · exact .inr ⟨h1, .inr h1'⟩
      rcases set_back hp hq with ⟨rfl, rfl⟩ | ⟨_, hq⟩
      · exact key p hp rfl rfl rfl
      · exact key q hq rfl rfl rfl
    · rcases set_back hp hq with ⟨rfl, rfl⟩ | ⟨_, hq⟩
      · exact .inr (.inl (by simp))
      · rcases I.now j q hq hvq with h1 | h1 | h1
        · exact .inl h1
        · exact .inr (.inl (by simp [h1]))
        · exact .inr (.inr (hD j q q rfl h1))
    · have hj' : j ∈ S.reached ++ [i] := hj
      rcases List.mem_append.1 hj' with h | h
      · exact hk (j + 1) (I.rch j h)
      · rw [List.mem_singleton.1 h]
        exact ⟨{ p with vis := S.pos }, by show (S.pl.set i _)[i]? = _; rw [List.getElem?_set_self hil], rfl⟩
    · obtain ⟨q, hq, ho, hg'⟩ := I.wt j hj
      obtain ⟨q', g1, g2, g3⟩ := he j q hq
      exact ⟨q', g1, by rw [g2]; exact ho, hgood _ (by have := (List.getElem?_eq_some_iff.1 hq).1; omega) hg'⟩
    · cases r with
      | zero => exact hgood 0 (Nat.zero_le _) (I.good 0 hr)
      | succ j =>
        obtain ⟨q, hq, hqv⟩ := hr
        rcases set_back hp hq with ⟨rfl, rfl⟩ | ⟨_, hq⟩
        · exact hgood (j + 1) (by omega) hg
        · exact hgood (j + 1) (by have := (List.getElem?_eq_some_iff.1 hq).1; omega) (I.good (j + 1) ⟨q, hq, hqv⟩)
    · have := I.cnt
      show S.waiting.length + (S.reached ++ [i]).length + unv _ + _ ≤ (S.pl.set i _).length
      rw [hlen, List.length_append, List.length_singleton]; omega
    · show (S.pl.set i _).length + sumL rw' (S.pl.set i _) ≤ N
      rw [hlen, hrw]; exact I.tot
    · exact ⟨{ p with vis := S.pos }, by show (S.pl.set i _)[i]? = _; rw [List.getElem?_set_self hil], rfl⟩
    · unfold mu
      show 2 * (unv _ + sumL rw' (S.pl.set i _)) + (S.reached ++ [i]).length ≤ _
      rw [hrw, List.length_append, List.length_singleton]; omega
theorem inv_calls : ∀ {l : List Nat} {S : Mc}, Inv s D N T H X Wq S → (∀ r, r ∈ l → r ≤ S.pl.length ∧ GoodM s D T S.pl r S.pos) → Inv s D N T H X Wq (l.foldl call S) ∧ (∀ r, r ∈ l → Called (l.foldl call S) r) ∧ Stp S (l.foldl call S)
  | [], S, I, _ => ⟨I, fun r hr => (List.not_mem_nil hr).elim, Stp.refl S⟩
  | r :: l, S, I, h => by
    obtain ⟨I1, c1, st⟩ := inv_call I (h r (by simp)).1 (h r (by simp)).2
    have h' : ∀ r', r' ∈ l → r' ≤ (call S r).pl.length ∧ GoodM s D T (call S r).pl r' (call S r).pos := fun r' hr' => by
      have h0 := h r' (by simp [hr'])
      exact ⟨by rw [st.len]; exact h0.1, by rw [st.pos]; exact fun j hj => h0.2 j (hj.back I.ord st.ext h0.1)⟩
    obtain ⟨I2, c2, st2⟩ := inv_calls (l := l) I1 h'
    refine ⟨I2, fun r' hr' => ?_, st.trans st2⟩
    rcases List.mem_cons.1 hr' with rfl | hr'
    · exact st2.kept _ c1
    · exact c2 r' hr'
/-- the last one that is reached is taken out -/
theorem inv_pop {R : List Nat} {i : Nat} (I : Inv s D N T H none Wq S) (hR : S.reached = R ++ [i]) : Inv s D N T H (some i) Wq { S with reached := R } ∧ Called { S with reached := R } (i + 1) ∧ mu { S with reached := R } + 1 = mu S := by
  obtain ⟨p, hp, hv⟩ := I.rch i (by rw [hR]; simp)
  have hl : S.reached.length = R.length + 1 := by rw [hR]; simp
  refine ⟨⟨I.ord, I.deep, I.shp, I.vle, I.ele, I.ple, I.hlt, I.past, fun j q hq hvq => ?_, fun j hj => I.rch j (by rw [hR]; exact List.mem_append_left _ hj), I.wt, I.good, ?_, I.tot⟩, ⟨p, hp, hv⟩, ?_⟩
  · rcases I.now j q hq hvq with h1 | h1 | h1
    · cases h1
    · rw [hR] at h1
      rcases List.mem_append.1 h1 with h | h
      · exact .inr (.inl h)
      · rw [List.mem_singleton.1 h]; exact .inl rfl
    · exact .inr (.inr h1)
  · have := I.cnt
    have e : unv { S with reached := R } = unv S := rfl
    show S.waiting.length + R.length + unv _ + 1 ≤ S.pl.length
    rw [e]; rw [hl] at this; simp at this; omega
  · unfold mu
    have e : unv { S with reached := R } = unv S := rfl
    show 2 * (unv _ + sumL rw' S.pl) + R.length + 1 = _
    rw [e, hl]; omega
/-- what news must be like -/
structure News (D : Nat) (S : Mc) (p : Pl) (nn : List Pl) : Prop where
  each : ∀ q, q ∈ nn → q.vis = -1 ∧ q.sh = none ∧ q.e ≤ D ∧ DeepL q.e q.t.kids
  ord : Ord (S.pl ++ nn)
  few : sumL nw nn ≤ cntL p.e p.t.kids
theorem inv_made {i : Nat} {p : Pl} {nn : List Pl} {sh : Vs} (I : Inv s D N T H (some i) Wq S) (hp : S.pl[i]? = some p) (h0 : p.sh = none) (hn : News D S p nn) (hsh : Shaped (S.pl ++ nn) i p sh) :
    Inv s D N T H (some i) Wq { S with pl := (S.pl ++ nn).set i { p with sh := some sh } } ∧ Ext S.pl ((S.pl ++ nn).set i { p with sh := some sh }) ∧ (∀ r, Called S r → Called { S with pl := (S.pl ++ nn).set i { p with sh := some sh } } r) ∧ mu { S with pl := (S.pl ++ nn).set i { p with sh := some sh } } ≤ mu S := by
  have hil := (List.getElem?_eq_some_iff.1 hp).1
  have hp2 : (S.pl ++ nn)[i]? = some p := by rw [List.getElem?_append_left hil]; exact hp
  have he2 : Ext (S.pl ++ nn) ((S.pl ++ nn).set i { p with sh := some sh }) := ext_set hp2 rfl rfl
  have he : Ext S.pl ((S.pl ++ nn).set i { p with sh := some sh }) := (ext_append _ _).trans he2
  have hlen : ((S.pl ++ nn).set i { p with sh := some sh }).length = S.pl.length + nn.length := by rw [List.length_set, List.length_append]
  have back : ∀ j q, ((S.pl ++ nn).set i { p with sh := some sh })[j]? = some q → (j = i ∧ q = { p with sh := some sh }) ∨ (j ≠ i ∧ S.pl[j]? = some q) ∨ (S.pl.length ≤ j ∧ q ∈ nn) := fun j q hq => by
    rcases set_back hp2 hq with h | ⟨h, hq⟩
    · exact .inl h
    · by_cases hj : j < S.pl.length
      · rw [List.getElem?_append_left hj] at hq; exact .inr (.inl ⟨h, hq⟩)
      · rw [List.getElem?_append_right (by omega)] at hq; exact .inr (.inr ⟨by omega, List.mem_of_getElem? hq⟩)
  have hk : ∀ r, Called S r → Called { S with pl := (S.pl ++ nn).set i { p with sh := some sh } } r := fun r hr => by
    cases r with
    | zero => exact hr
    | succ j =>
      obtain ⟨q, hq, hqv⟩ := hr
      have hjl := (List.getElem?_eq_some_iff.1 hq).1
      by_cases e : i = j
      · subst e
        rw [hp] at hq; cases hq
        exact ⟨{ p with sh := some sh }, by show ((S.pl ++ nn).set i _)[i]? = _; rw [List.getElem?_set_self (by rw [List.length_append]; omega)], hqv⟩
      · exact ⟨q, by show ((S.pl ++ nn).set i _)[j]? = _; rw [List.getElem?_set_ne e, List.getElem?_append_left hjl]; exact hq, hqv⟩
  have hgood : ∀ r, r ≤ S.pl.length → GoodM s D T S.pl r S.pos → GoodM s D T ((S.pl ++ nn).set i { p with sh := some sh }) r S.pos := fun r hr hg => fun j hj => hg j (hj.back I.ord he hr)
  have hnl := sumL_nw nn
  have hru : sumL rw' nn ≤ sumL (fun q => cntL q.e q.t.kids) nn := sumL_le fun q _ => by unfold rw'; split <;> omega
  have hr0 : rw' p = cntL p.e p.t.kids := by unfold rw'; rw [h0]; rfl
  have hr1 : rw' { p with sh := some sh } = 0 := rfl
  have hsr := sumL_set (f := rw') hp2 { p with sh := some sh }
  rw [sumL_app, hr0, hr1] at hsr
  have hsu := sumL_set (f := uw S.pos) hp2 { p with sh := some sh }
  have hu1 : uw S.pos { p with sh := some sh } = uw S.pos p := rfl
  rw [sumL_app, hu1] at hsu
  have huu : sumL (uw S.pos) nn ≤ nn.length := by
    have h : sumL (uw S.pos) nn ≤ sumL (fun _ => 1) nn := sumL_le fun p _ => by unfold uw; split <;> omega
    have h2 : sumL (fun _ => 1) nn = nn.length := sumL_one _
    omega
  have hfew := hn.few
  refine ⟨⟨fun j q hq => ?_, fun j q hq => ?_, fun j q sh' hq hs => ?_, fun j q hq => ?_, I.ele, I.ple, fun r q hh => ?_, fun j q k hq hh => ?_, fun j q hq hvq => ?_, fun j hj => hk (j + 1) (I.rch j hj), fun j hj => ?_, fun r hr => ?_, ?_, ?_⟩, he, hk, ?_⟩
  · rcases set_back hp2 hq with ⟨rfl, rfl⟩ | ⟨_, hq⟩
    · exact I.ord j p hp
    · exact hn.ord j q hq
  · rcases back j q hq with ⟨rfl, rfl⟩ | ⟨_, hq⟩ | ⟨_, hq⟩
    · exact I.deep j p hp
    · exact I.deep j q hq
    · exact (hn.each q hq).2.2
  · rcases back j q hq with ⟨rfl, rfl⟩ | ⟨_, hq⟩ | ⟨_, hq⟩
    · cases hs; exact hsh.ext he2 rfl rfl
    · exact (I.shp j q sh' hq hs).ext he rfl rfl
    · rw [(hn.each q hq).2.1] at hs; cases hs
  · rcases back j q hq with ⟨rfl, rfl⟩ | ⟨_, hq⟩ | ⟨_, hq⟩
    · exact I.vle j p hp
    · exact I.vle j q hq
    · rw [(hn.each q hq).1]; exact ⟨Int.le_refl _, by show (-1 : Int) ≤ (S.pos : Int); omega⟩
  · have := I.hlt r q hh
    exact ⟨this.1, by show r ≤ ((S.pl ++ nn).set i _).length; rw [hlen]; omega⟩
  · have key : ∀ q0 : Pl, S.pl[j]? = some q0 → (∀ x, q0.sh = some x → q.sh = some x) → q.t = q0.t → q.nx = q0.nx → ∃ sh', q.sh = some sh' ∧ (sh' = .wait → ChAt s q.t.x.text k → H q.nx (k + 1) ∨ (k + 1 = S.pos ∧ (Called { S with pl := (S.pl ++ nn).set i { p with sh := some sh } } q.nx ∨ j ∈ Wq))) ∧ (∀ l, sh' = .ways l → ∀ r, r ∈ l → H r k) := fun q0 hq0 e1 e2 e3 => by
      obtain ⟨sh', a, b, c⟩ := I.past j q0 k hq0 hh
      refine ⟨sh', e1 sh' a, fun e h => ?_, c⟩
      rw [e2] at h
      rw [e3]
      rcases b e h with h1 | ⟨h1, h1' | h1'⟩
      · exact .inl h1
      · exact .inr ⟨h1, .inl (hk _ h1')⟩
      · exact .inr ⟨h1, .inr h1'⟩
    rcases back j q hq with ⟨rfl, rfl⟩ | ⟨_, hq⟩ | ⟨hj, hq⟩
    · exact key p hp (fun x hx => by rw [h0] at hx; cases hx) rfl rfl
    · exact key q hq (fun x hx => hx) rfl rfl
    · have := (I.hlt _ _ hh).2; omega
  · rcases back j q hq with ⟨rfl, rfl⟩ | ⟨_, hq⟩ | ⟨_, hq⟩
    · exact .inl rfl
    · rcases I.now j q hq hvq with h1 | h1 | ⟨sh', a, b, c⟩
      · exact .inl h1
      · exact .inr (.inl h1)
      · exact .inr (.inr ⟨sh', a, b, fun l e r hr => hk r (c l e r hr)⟩)
    · have := (hn.each q hq).1
      have h2 : q.vis = (S.pos : Int) := hvq
      omega
  · obtain ⟨q, hq, ho, hg'⟩ := I.wt j hj
    obtain ⟨q', g1, g2, g3⟩ := he j q hq
    exact ⟨q', g1, by rw [g2]; exact ho, hgood _ (by have := (List.getElem?_eq_some_iff.1 hq).1; omega) hg'⟩
  · cases r with
    | zero => exact hgood 0 (Nat.zero_le _) (I.good 0 hr)
    | succ j =>
      obtain ⟨q, hq, hqv⟩ := hr
      rcases back j q hq with ⟨rfl, rfl⟩ | ⟨_, hq⟩ | ⟨_, hq⟩
      · exact hgood (j + 1) (by omega) (I.good (j + 1) ⟨p, hp, hqv⟩)
      · exact hgood (j + 1) (by have := (List.getElem?_eq_some_iff.1 hq).1; omega) (I.good (j + 1) ⟨q, hq, hqv⟩)
      · have := (hn.each q hq).1
        have h2 : q.vis = (S.pos : Int) := hqv
        omega
  · have h1 := I.cnt
    have e : unv { S with pl := (S.pl ++ nn).set i { p with sh := some sh } } = sumL (uw S.pos) ((S.pl ++ nn).set i { p with sh := some sh }) := rfl
    have e2 : unv S = sumL (uw S.pos) S.pl := rfl
    show S.waiting.length + S.reached.length + unv _ + _ ≤ ((S.pl ++ nn).set i _).length
    rw [hlen, e]; rw [e2] at h1; omega
  · have h1 := I.tot
    show ((S.pl ++ nn).set i _).length + sumL rw' ((S.pl ++ nn).set i _) ≤ N
    rw [hlen]; omega
  · unfold mu
    have e : unv { S with pl := (S.pl ++ nn).set i { p with sh := some sh } } = sumL (uw S.pos) ((S.pl ++ nn).set i { p with sh := some sh }) := rfl
    have e2 : unv S = sumL (uw S.pos) S.pl := rfl
    show 2 * (unv _ + sumL rw' ((S.pl ++ nn).set i _)) + S.reached.length ≤ _
    rw [e, e2]; omega
/-- the place i has been visited -/
theorem inv_wait {i : Nat} {p : Pl} (I : Inv s D N T H (some i) Wq S) (hp : S.pl[i]? = some p) (hs : p.sh = some .wait) (ho : p.t.x.op = 1) (hc : Called S (i + 1)) : Inv s D N T H none Wq { S with waiting := S.waiting ++ [i] } := by
  have hk : ∀ r, Called S r → Called { S with waiting := S.waiting ++ [i] } r := fun r hr => by cases r <;> exact hr
  have hb : ∀ r, Called { S with waiting := S.waiting ++ [i] } r → Called S r := fun r hr => by cases r <;> exact hr
  refine ⟨I.ord, I.deep, I.shp, I.vle, I.ele, I.ple, I.hlt, fun j q k hq hh => ?_, fun j q hq hvq => ?_, I.rch, fun j hj => ?_, fun r hr => I.good r (hb r hr), ?_, I.tot⟩
  · obtain ⟨sh', a, b, c⟩ := I.past j q k hq hh
    refine ⟨sh', a, fun e h => ?_, c⟩
    rcases b e h with h1 | ⟨h1, h1' | h1'⟩
    · exact .inl h1
    · exact .inr ⟨h1, .inl (hk _ h1')⟩
    · exact .inr ⟨h1, .inr h1'⟩
  · rcases I.now j q hq hvq with h1 | h1 | ⟨sh', a, b, c⟩
    · cases h1
      have : q = p := by have := hp.symm.trans hq; cases this; rfl
      subst this
      exact .inr (.inr ⟨.wait, hs, fun _ => (by simp), fun l e => (by cases e)⟩)
    · exact .inr (.inl h1)
    · exact .inr (.inr ⟨sh', a, fun e => List.mem_append_left _ (b e), fun l e r hr => hk r (c l e r hr)⟩)
  · have hj' : j ∈ S.waiting ++ [i] := hj
    rcases List.mem_append.1 hj' with h | h
    · exact I.wt j h
    · rw [List.mem_singleton.1 h]
      exact ⟨p, hp, ho, I.good _ hc⟩
  · have := I.cnt
    have e : unv { S with waiting := S.waiting ++ [i] } = unv S := rfl
    show (S.waiting ++ [i]).length + S.reached.length + unv _ + 0 ≤ S.pl.length
    rw [e, List.length_append, List.length_singleton]; simp at this; omega
theorem inv_ways {i : Nat} {p : Pl} {l : List Nat} (I : Inv s D N T H (some i) Wq S) (hp : S.pl[i]? = some p) (hs : p.sh = some (.ways l)) (hc : ∀ r, r ∈ l → Called S r) : Inv s D N T H none Wq S := by
  refine ⟨I.ord, I.deep, I.shp, I.vle, I.ele, I.ple, I.hlt, I.past, fun j q hq hvq => ?_, I.rch, I.wt, I.good, by have := I.cnt; simp at this ⊢; omega, I.tot⟩
  rcases I.now j q hq hvq with h1 | h1 | h1
  · cases h1
    have : q = p := by have := hp.symm.trans hq; cases this; rfl
    subst this
    exact .inr (.inr ⟨.ways l, hs, fun e => (by cases e), fun l' e r hr => (by cases e; exact hc r hr)⟩)
  · exact .inr (.inl h1)
  · exact .inr (.inr h1)
/-- the ways out of a visited place: refs that may be called -/
theorem ways_good {i : Nat} {p : Pl} {l : List Nat} (I : Inv s D N T H X Wq S) (hp : S.pl[i]? = some p) (hs : Shaped S.pl i p (.ways l)) (hc : Called S (i + 1)) : ∀ r, r ∈ l → r ≤ S.pl.length ∧ GoodM s D T S.pl r S.pos := fun r hr => by
  have hil := (List.getElem?_eq_some_iff.1 hp).1
  have hnx := I.ord i p hp
  refine ⟨?_, fun j hj => I.good _ hc j (sound_ways hp (I.deep i p hp).2 (I.deep i p hp).1 hs hr hj)⟩
  obtain ⟨c1, c2, c3, c4, c5, c6⟩ := hs
  have tries : ∀ b, b ≤ S.pl.length → Tries S.pl p.t.kids b p.nx (.ways l) → r ≤ S.pl.length := fun b hb ht => by
    unfold Tries at ht
    split at ht
    · obtain ⟨r', e', hl⟩ := ht
      cases e'
      rcases List.mem_cons.1 hr with rfl | hr
      · exact hl.le hb
      · rw [List.mem_singleton.1 hr]; omega
    · cases ht; rw [List.mem_singleton.1 hr]; omega
  rcases op_cases p.t.x.op with h | h | h | h | h | ⟨h1, h2, h3, h4, h5⟩
  · cases c1 h
  · obtain ⟨r', e', hl⟩ := c2 h
    cases e'
    rw [List.mem_singleton.1 hr]; exact hl.le (by omega)
  · obtain ⟨l', e', hl, hL⟩ := c3 h
    cases e'
    obtain ⟨q, hq1, rfl⟩ := List.getElem_of_mem hr
    exact (hL q hq1 (by omega)).le (by omega)
  · exact tries _ (by omega) (c4 h)
  · exact tries _ (by omega) (c5 h)
  · have := c6 h1 h2 h3 h4 h5
    cases this
    cases hr
/-- one byte further -/
theorem inv_next (I : Inv s D N T H none [] S) (hR : S.reached = []) (hlt : S.pos < s.size) : Inv s D N T (fun r q => H r q ∨ (q = S.pos ∧ Called S r)) none S.waiting { S with waiting := [], pos := S.pos + 1 } := by
  have hno : ∀ r, ¬ Called { S with waiting := [], pos := S.pos + 1 } r := fun r hr => by
    cases r with
    | zero => have h1 : S.en = ((S.pos + 1 : Nat) : Int) := hr; have := I.ele.2; omega
    | succ i => obtain ⟨p, hp, hv⟩ := hr; have h1 : p.vis = ((S.pos + 1 : Nat) : Int) := hv; have := (I.vle i p hp).2; omega
  refine ⟨I.ord, I.deep, I.shp, fun j q hq => ?_, ?_, hlt, fun r q hh => ?_, fun j q k hq hh => ?_, fun j q hq hvq => ?_, fun j hj => ?_, fun j hj => ?_, fun r hr => absurd hr (hno r), ?_, I.tot⟩
  · have := I.vle j q hq
    exact ⟨this.1, by show q.vis ≤ ((S.pos + 1 : Nat) : Int); omega⟩
  · have := I.ele
    exact ⟨this.1, by show S.en ≤ ((S.pos + 1 : Nat) : Int); omega⟩
  · rcases hh with hh | ⟨rfl, hh⟩
    · have := I.hlt r q hh
      exact ⟨by show q < S.pos + 1; omega, this.2⟩
    · exact ⟨by show S.pos < S.pos + 1; omega, called_le (S := S) hh⟩
  · rcases hh with hh | ⟨rfl, hh⟩
    · obtain ⟨sh, a, b, c⟩ := I.past j q k hq hh
      refine ⟨sh, a, fun e h => ?_, fun l e r hr => .inl (c l e r hr)⟩
      rcases b e h with h1 | ⟨h1, h1' | h1'⟩
      · exact .inl (.inl h1)
      · exact .inl (.inr ⟨h1, h1'⟩)
      · cases h1'
    · obtain ⟨p, hp, hv⟩ := hh
      have : q = p := by have := hp.symm.trans hq; cases this; rfl
      subst this
      rcases I.now j q hq hv with h1 | h1 | ⟨sh, a, b, c⟩
      · cases h1
      · rw [hR] at h1; cases h1
      · exact ⟨sh, a, fun e _ => .inr ⟨rfl, .inr (b e)⟩, fun l e r hr => .inr ⟨rfl, c l e r hr⟩⟩
  · exact absurd ⟨q, hq, hvq⟩ (hno (j + 1))
  · rw [show ({ S with waiting := [], pos := S.pos + 1 } : Mc).reached = [] from hR] at hj; cases hj
  · cases hj
  · have := unv_le { S with waiting := [], pos := S.pos + 1 }
    show 0 + S.reached.length + unv _ + 0 ≤ S.pl.length
    rw [hR]; simp at this ⊢; exact this
/-- one that waits, and what it does with the byte -/
theorem inv_drop {i : Nat} {p : Pl} (I : Inv s D N T H none (i :: Wq) S) (hp : S.pl[i]? = some p) (h : ∀ k, k + 1 = S.pos → ChAt s p.t.x.text k → Called S p.nx) : Inv s D N T H none Wq S := by
  refine ⟨I.ord, I.deep, I.shp, I.vle, I.ele, I.ple, I.hlt, fun j q k hq hh => ?_, I.now, I.rch, I.wt, I.good, I.cnt, I.tot⟩
  obtain ⟨sh, a, b, c⟩ := I.past j q k hq hh
  refine ⟨sh, a, fun e hc => ?_, c⟩
  rcases b e hc with h1 | ⟨h1, h1' | h1'⟩
  · exact .inl h1
  · exact .inr ⟨h1, .inl h1'⟩
  · rcases List.mem_cons.1 h1' with rfl | h1'
    · have : q = p := by have := hp.symm.trans hq; cases this; rfl
      subst this
      exact .inr ⟨h1, .inl (h k h1 hc)⟩
    · exact .inr ⟨h1, .inr h1'⟩
def Beg (H : Nat → Nat → Prop) (S : Mc) : Prop := H 1 0 ∨ (S.pos = 0 ∧ Called S 1)
theorem inv_end (I : Inv s D N T H none [] S) (hb : Beg H S) (hR : S.reached = []) (he : S.pos = s.size ∨ S.waiting = []) {p : Pl} (hp : S.pl[0]? = some p) (ht : p.t = T) (hx : p.nx = 0) : S.en = s.size ↔ Mt s D T 0 s.size := by
  have hpos := I.ple
  constructor
  · intro h
    have h1 : S.pos = s.size := by have := I.ele.2; omega
    have h2 : Called S 0 := by show S.en = S.pos; rw [h1]; exact h
    have := I.good 0 h2 S.pos (.fin _)
    rwa [h1] at this
  · intro hm
    have hc : Closed s S.pl (fun r q => H r q ∨ (q = S.pos ∧ Called S r)) := fun i q k hq hh => by
      rcases hh with hh | ⟨rfl, hh⟩
      · obtain ⟨sh, a, b, c⟩ := I.past i q k hq hh
        refine ⟨sh, I.shp i q sh hq a, fun e h => ?_, fun l e r hr => .inl (c l e r hr)⟩
        rcases b e h with h1 | ⟨h1, h1' | h1'⟩
        · exact .inl h1
        · exact .inr ⟨h1, h1'⟩
        · cases h1'
      · obtain ⟨p', hp', hv⟩ := hh
        have : q = p' := by have := hp'.symm.trans hq; cases this; rfl
        subst this
        rcases I.now i q hq hv with h1 | h1 | ⟨sh, a, b, c⟩
        · cases h1
        · rw [hR] at h1; cases h1
        · refine ⟨sh, I.shp i q sh hq a, fun e ⟨h, _⟩ => ?_, fun l e r hr => .inr ⟨rfl, c l e r hr⟩⟩
          have hw := b e
          rcases he with he | he
          · omega
          · rw [he] at hw; cases hw
    have hbeg : (fun r q => H r q ∨ (q = S.pos ∧ Called S r)) (0 + 1) 0 := by
      rcases hb with h | ⟨h1, h2⟩
      · exact .inl h
      · exact .inr ⟨h1.symm, h2⟩
    have hd := I.deep 0 p hp
    have hm' : Mt s p.e p.t 0 s.size := by rw [← mt_deepL s p.e p.t D hd.2 hd.1, ht]; exact hm
    have := compl hc p.e 0 p 0 s.size hp hd.2 hm' hbeg
    rw [hx] at this
    rcases this with h | ⟨h1, h2⟩
    · have := (I.hlt _ _ h).1; omega
    · have h3 : S.en = S.pos := h2
      rw [h3, h1]
/-- the beginning -/
theorem inv_zero {t : Pat} {e : Nat} {r : PatR} {b : Nat} (hd : DeepL e t.kids) (he : e ≤ D) (hN : 1 + cntL e t.kids ≤ N) : Inv s D N t (fun _ _ => False) none [] ⟨[⟨t, e, r, 0, b, -1, none⟩], [], [], 0, -1⟩ := by
  have one : ∀ j q, ([⟨t, e, r, 0, b, -1, none⟩] : List Pl)[j]? = some q → j = 0 ∧ q = ⟨t, e, r, 0, b, -1, none⟩ := fun j q hq => by
    cases j with
    | zero => simp at hq; exact ⟨rfl, hq.symm⟩
    | succ j => simp at hq
  refine ⟨fun j q hq => ?_, fun j q hq => ?_, fun j q sh hq hs => ?_, fun j q hq => ?_, ⟨Int.le_refl _, by show (-1 : Int) ≤ ((0 : Nat) : Int); omega⟩, Nat.zero_le _, fun _ _ h => h.elim, fun _ _ _ _ h => h.elim, fun j q hq hv => ?_, fun j hj => (by cases hj), fun j hj => (by cases hj), fun r hr => ?_, ?_, ?_⟩
  · obtain ⟨rfl, rfl⟩ := one j q hq; exact Nat.le_refl _
  · obtain ⟨rfl, rfl⟩ := one j q hq; exact ⟨he, hd⟩
  · obtain ⟨rfl, rfl⟩ := one j q hq; cases hs
  · obtain ⟨rfl, rfl⟩ := one j q hq; exact ⟨Int.le_refl _, by show (-1 : Int) ≤ ((0 : Nat) : Int); omega⟩
  · obtain ⟨rfl, rfl⟩ := one j q hq
    have h1 : (-1 : Int) = ((0 : Nat) : Int) := hv
    omega
  · cases r with
    | zero => have h1 : (-1 : Int) = ((0 : Nat) : Int) := hr; omega
    | succ j =>
      obtain ⟨q, hq, hv⟩ := hr
      obtain ⟨rfl, rfl⟩ := one j q hq
      have h1 : (-1 : Int) = ((0 : Nat) : Int) := hv
      omega
  · simp [unv, sumL, uw]
  · simpa [sumL, rw'] using hN
theorem good_zero {t : Pat} {e : Nat} {r : PatR} {b : Nat} : GoodM s D t [⟨t, e, r, 0, b, -1, none⟩] 1 0 := fun j hp => by
  cases hp with
  | via h hm hp' =>
    simp at h
    subst h
    cases hp' with
    | fin => exact hm
end
end Mac
end Go.Proofs.Ytnpgeneahjlkpaa

/- CHAPTER 5, impl: HOW THE MATCHING MACHINE LIES IN MEMORY (places are closures): 'Rep'. -/
namespace Go.Proofs.Ytnpgeneahjlkpaa
open Go.RowKit

/-- a run: the world in which it began; the matching's block, the block of the variable m, that of the variable end -/
structure Cx where
  w0 : World
  m : Nat
  e : Nat
  mv : Nat
abbrev ptr (b : Nat) : Value := .pointer (some ⟨b, 0, none⟩)
abbrev tM : TypeId := 97
abbrev tF : TypeId := 1
abbrev tG : TypeId := 140
abbrev tS : TypeId := 101
abbrev placeV (b : Nat) : Value := .func (.func 118) #[] #[ptr (b + 7), ptr (b + 5), ptr (b + 6)]
abbrev visitV (b : Nat) : Value := .func (.func 94) #[] #[ptr (b + 4), ptr b, ptr (b + 1), ptr (b + 3), ptr (b + 2)]
abbrev endPV (X : Cx) : Value := .func (.func 59) #[] #[ptr X.mv, ptr X.e]
abbrev takeV (c : Nat) : Value := .func (.func 140) #[] #[ptr (c + 1), ptr (c + 2)]
abbrev waitV (c : Nat) : Value := .func (.func 142) #[] #[ptr c, ptr (c + 3)]
abbrev eachV (c : Nat) : Value := .func (.func 144) #[] #[ptr c]
abbrev orV (c c' : Nat) : Value := .func (.func 145) #[] #[ptr c, ptr c']
abbrev noneV : Value := .func (.func 123) #[] #[]
/-- a block of one cell -/
abbrev bx (v : Value) (t : TypeId) : Obj := .cells #[v] t (0, 0)
def bOf (L : List Pl) (j : Nat) : Nat := (L[j]?.map Pl.b).getD 0
def refV (X : Cx) (L : List Pl) : Nat → Value
  | 0 => endPV X
  | j + 1 => placeV (bOf L j)
theorem bOf_eq {L : List Pl} {j : Nat} {p : Pl} (h : L[j]? = some p) : bOf L j = p.b := by unfold bOf; rw [h]; rfl
abbrev Kn := Nat → Option Obj
def Kn.le (K K' : Kn) : Prop := ∀ b o, K b = some o → K' b = some o
theorem Kn.le_refl (K : Kn) : K.le K := fun _ _ h => h
theorem Kn.le_trans {K K' K'' : Kn} (h : K.le K') (h' : K'.le K'') : K.le K'' := fun b o hb => h' b o (h b o hb)
structure PlK (X : Cx) (K : Kn) (L : List Pl) (p : Pl) : Prop where
  k0 : K p.b = some (bx (ptr X.m) tM)
  k1 : K (p.b + 1) = some (.cells #[.int .i64 p.r.op, .string p.r.text, p.r.kv] 56 (0, 0))
  k2 : K (p.b + 2) = some (bx (refV X L p.nx) tF)
  k3 : K (p.b + 3) = some (bx (placeV p.b) tF)
  k5 : K (p.b + 5) = some (bx (ptr X.m) tM)
  k6 : K (p.b + 6) = some (bx (visitV p.b) tF)
def TakeK (X : Cx) (K : Kn) (L : List Pl) (p : Pl) (c : Nat) : Prop := K (c + 1) = some (bx (.string p.t.x.text) 9) ∧ K (c + 2) = some (bx (refV X L p.nx) tF)
/-- g is a function that does what sh says -/
def VsK (X : Cx) (K : Kn) (L : List Pl) (p : Pl) (g : Value) : Vs → Prop
  | .wait => ∃ c, g = waitV c ∧ K c = some (bx (ptr X.m) tM) ∧ K (c + 3) = some (bx (takeV c) tG) ∧ TakeK X K L p c
  | .ways l => (∃ r, l = [r] ∧ g = refV X L r) ∨
    (∃ c b cap cur, g = eachV c ∧ l.length ≤ 2147483648 ∧ K c = some (bx (.slice (some ⟨b, 0, none⟩) l.length cap) 98) ∧ K b = some (.cells cur tF (0, 0)) ∧ ∀ q (h : q < l.length), cur[q]? = some (refV X L l[q])) ∨
    (∃ r r' c c', l = [r, r'] ∧ g = orV c c' ∧ K c = some (bx (refV X L r) tF) ∧ K c' = some (bx (refV X L r') tF)) ∨ (l = [] ∧ g = noneV)
abbrev RowV (E B : Nat) (w : World) (v : Value) (l : List Value) : Prop := RowR (fun u : Value => [u]) 1 E B w v l
/-- blocks that are kept apart -/
structure Dis (X : Cx) (K : Kn) (vr vw : Value) (L : List Pl) : Prop where
  bm : X.w0.heap.size ≤ X.m
  me : X.m < X.e
  km : K X.m = none
  ke : K X.e = none
  ep : ∀ p, p ∈ L → X.e < p.b
  k4 : ∀ p, p ∈ L → K (p.b + 4) = none ∧ K (p.b + 7) = none
  inc : ∀ (i j : Nat) (p q : Pl), L[i]? = some p → L[j]? = some q → i < j → p.b + 8 ≤ q.b
  kr : ∀ g, vr.ownBlock = some g → K g = none ∧ g ≠ X.m ∧ g ≠ X.e ∧ vw.ownBlock ≠ some g ∧ ∀ p, p ∈ L → g ≠ p.b + 4 ∧ g ≠ p.b + 7
  kw : ∀ g, vw.ownBlock = some g → K g = none ∧ g ≠ X.m ∧ g ≠ X.e ∧ ∀ p, p ∈ L → g ≠ p.b + 4 ∧ g ≠ p.b + 7
structure Rep (X : Cx) (K : Kn) (vr vw : Value) (cs : List Nat) (w : World) (S : Mc) : Prop where
  dis : Dis X K vr vw S.pl
  bel : Below X.w0.heap.size X.w0 w
  hk : ∀ b o, K b = some o → w.heap[b]? = some o
  hm : w.heap[X.m]? = some (.cells #[.int .i64 S.pos, vr, vw] tS (0, 0))
  he : w.heap[X.e]? = some (bx (.int .i64 S.en) 3)
  hv : K X.mv = some (bx (ptr X.m) tM)
  rr : RowV tF X.w0.heap.size w vr (S.reached.map fun i => visitV (bOf S.pl i))
  rw : RowV tG X.w0.heap.size w vw (cs.map takeV)
  cl : cs.length = S.waiting.length
  cw : ∀ q (h : q < cs.length) (h' : q < S.waiting.length), ∃ p, S.pl[S.waiting[q]]? = some p ∧ TakeK X K S.pl p cs[q]
  pk : ∀ p, p ∈ S.pl → PlK X K S.pl p ∧ p.nx ≤ S.pl.length
  hg : ∀ p, p ∈ S.pl → ∃ g, w.heap[p.b + 4]? = some (bx g tF) ∧ (p.sh = none → g = .nilFunc) ∧ ∀ sh, p.sh = some sh → VsK X K S.pl p g sh ∧ (∀ l, sh = .ways l → ∀ r, r ∈ l → r ≤ S.pl.length)
  h7 : ∀ p, p ∈ S.pl → w.heap[p.b + 7]? = some (bx (.int .i64 p.vis) 3)
  rd : ∀ p, p ∈ S.pl → RdN patK p.e X.w0 p.r p.t ∧ p.t.x.text.size ≤ 9223372036854775807 ∧ TxFit p.e p.t.kids
  rl : ∀ i, i ∈ S.reached → i < S.pl.length
  kc : ∀ b o, K b = some o → o.isCells = true
section
variable {X : Cx} {K K' : Kn} {vr vw : Value} {cs : List Nat} {w w' : World} {S : Mc}
theorem PlK.mono {L : List Pl} {p : Pl} (h : PlK X K L p) (hk : K.le K') : PlK X K' L p := ⟨hk _ _ h.k0, hk _ _ h.k1, hk _ _ h.k2, hk _ _ h.k3, hk _ _ h.k5, hk _ _ h.k6⟩
theorem TakeK.mono {L : List Pl} {p : Pl} {c : Nat} (h : TakeK X K L p c) (hk : K.le K') : TakeK X K' L p c := ⟨hk _ _ h.1, hk _ _ h.2⟩
theorem VsK.mono {L : List Pl} {p : Pl} {g : Value} {sh : Vs} (h : VsK X K L p g sh) (hk : K.le K') : VsK X K' L p g sh := by
  cases sh with
  | wait => obtain ⟨c, a, b, d, e⟩ := h; exact ⟨c, a, hk _ _ b, hk _ _ d, e.mono hk⟩
  | ways l =>
    rcases h with h | ⟨c, b, cap, cur, e1, e0, e2, e3, e4⟩ | ⟨r, r', c, c', e1, e2, e3, e4⟩ | h
    · exact .inl h
    · exact .inr (.inl ⟨c, b, cap, cur, e1, e0, hk _ _ e2, hk _ _ e3, e4⟩)
    · exact .inr (.inr (.inl ⟨r, r', c, c', e1, e2, hk _ _ e3, hk _ _ e4⟩))
    · exact .inr (.inr (.inr h))
/-- refs are spelled alike in a list that knows the same places -/
def Same (L L' : List Pl) : Prop := ∀ j, j < L.length → bOf L' j = bOf L j
theorem ref_same {L L' : List Pl} (h : Same L L') {r : Nat} (hr : r ≤ L.length) : refV X L' r = refV X L r := by
  cases r with
  | zero => rfl
  | succ j => show placeV (bOf L' j) = placeV (bOf L j); rw [h j (by omega)]
theorem same_app (L N : List Pl) : Same L (L ++ N) := fun j hj => by unfold bOf; rw [List.getElem?_append_left hj]
theorem same_set {L : List Pl} {i : Nat} {p q : Pl} (h : L[i]? = some p) (hb : q.b = p.b) : Same L (L.set i q) := fun j hj => by
  by_cases e : i = j
  · subst e
    unfold bOf; rw [List.getElem?_set_self hj, h]; exact hb
  · unfold bOf; rw [List.getElem?_set_ne e]
theorem PlK.same {L L' : List Pl} {p p' : Pl} (h : PlK X K L p) (hs : Same L L') (hn : p.nx ≤ L.length) (hb : p'.b = p.b) (hx : p'.nx = p.nx) (hr : p'.r = p.r) : PlK X K L' p' := by
  obtain ⟨a, b, c, d, e, f⟩ := h
  refine ⟨by rw [hb]; exact a, by rw [hb, hr]; exact b, by rw [hb, hx, ref_same hs hn]; exact c, by rw [hb]; exact d, by rw [hb]; exact e, by rw [hb]; exact f⟩
theorem TakeK.same {L L' : List Pl} {p p' : Pl} {c : Nat} (h : TakeK X K L p c) (hs : Same L L') (hn : p.nx ≤ L.length) (ht : p'.t = p.t) (hx : p'.nx = p.nx) : TakeK X K L' p' c := ⟨by rw [ht]; exact h.1, by rw [hx, ref_same hs hn]; exact h.2⟩
theorem VsK.same {L L' : List Pl} {p p' : Pl} {g : Value} {sh : Vs} (h : VsK X K L p g sh) (hs : Same L L') (hn : p.nx ≤ L.length) (hl : ∀ l, sh = .ways l → ∀ r, r ∈ l → r ≤ L.length) (ht : p'.t = p.t) (hx : p'.nx = p.nx) : VsK X K L' p' g sh := by
  cases sh with
  | wait => obtain ⟨c, a, b, d, e⟩ := h; exact ⟨c, a, b, d, e.same hs hn ht hx⟩
  | ways l =>
    have hl' := hl l rfl
    rcases h with ⟨r, rfl, e⟩ | ⟨c, b, cap, cur, e1, e0, e2, e3, e4⟩ | ⟨r, r', c, c', rfl, e2, e3, e4⟩ | h
    · exact .inl ⟨r, rfl, by rw [ref_same hs (hl' r (by simp))]; exact e⟩
    · exact .inr (.inl ⟨c, b, cap, cur, e1, e0, e2, e3, fun q h => by rw [ref_same hs (hl' _ (List.getElem_mem h))]; exact e4 q h⟩)
    · exact .inr (.inr (.inl ⟨r, r', c, c', rfl, e2, by rw [ref_same hs (hl' r (by simp))]; exact e3, by rw [ref_same hs (hl' r' (by simp))]; exact e4⟩))
    · exact .inr (.inr (.inr h))
/-- blocks of different places -/
theorem Dis.far {L : List Pl} (h : Dis X K vr vw L) {i j : Nat} {p q : Pl} (hp : L[i]? = some p) (hq : L[j]? = some q) (hij : i ≠ j) : p.b + 8 ≤ q.b ∨ q.b + 8 ≤ p.b := by
  rcases Nat.lt_or_ge i j with h1 | h1
  · exact .inl (h.inc i j p q hp hq h1)
  · exact .inr (h.inc j i q p hq hp (by omega))
/-- the world turned at new blocks alone; K' knows more, of new blocks -/
theorem Rep.turn (h : Rep X K vr vw cs w S) (hb : Below w.heap.size w w') (hK : K.le K') (hK' : ∀ b o, K' b = some o → K b = some o ∨ (w.heap.size ≤ b ∧ w'.heap[b]? = some o ∧ o.isCells = true)) : Rep X K' vr vw cs w' S := by
  have hlt : ∀ b (o : Obj), w.heap[b]? = some o → b < w.heap.size := fun b o hh => (Array.getElem?_eq_some_iff.1 hh).1
  have kb : ∀ b (o : Obj), w.heap[b]? = some o → w'.heap[b]? = some o := fun b o hh => (hb.block b (hlt b o hh)).trans hh
  have hno : ∀ b (o : Obj), w.heap[b]? = some o → K b = none → K' b = none := fun b o hh hn => by
    cases e : K' b with
    | none => rfl
    | some o' =>
      rcases hK' b o' e with h1 | ⟨h1, _, _⟩
      · rw [hn] at h1; cases h1
      · have := hlt b o hh; omega
  have hrow : ∀ {E : Nat} {v : Value} {l : List Value} {g : Nat}, RowV E X.w0.heap.size w v l → v.ownBlock = some g → K g = none → K' g = none := fun {E v l g} hr hv hn => by
    have := hr.lt hv
    obtain ⟨o, ho⟩ : ∃ o, w.heap[g]? = some o := ⟨_, Array.getElem?_eq_getElem this.2⟩
    exact hno g o ho hn
  obtain ⟨d1, d2, d3, d4, d5, d6, d7, d8, d9⟩ := h.dis
  refine ⟨⟨d1, d2, hno _ _ h.hm d3, hno _ _ h.he d4, d5, fun p hp => ?_, d7, fun g hg => ?_, fun g hg => ?_⟩, h.bel.trans (hb.mono h.bel.size), fun b o hh => ?_, kb _ _ h.hm, kb _ _ h.he, hK _ _ h.hv, h.rr.below hb, h.rw.below hb, h.cl, fun q h1 h2 => ?_, fun p hp => ⟨(h.pk p hp).1.mono hK, (h.pk p hp).2⟩, fun p hp => ?_, fun p hp => kb _ _ (h.h7 p hp), h.rd, h.rl, fun b o hh => ?_⟩
  · obtain ⟨g, hg, _⟩ := h.hg p hp
    exact ⟨hno _ _ hg (d6 p hp).1, hno _ _ (h.h7 p hp) (d6 p hp).2⟩
  · have := d8 g hg; exact ⟨hrow h.rr hg this.1, this.2⟩
  · have := d9 g hg; exact ⟨hrow h.rw hg this.1, this.2⟩
  · rcases hK' b o hh with h1 | ⟨_, h1, _⟩
    · exact kb _ _ (h.hk b o h1)
    · exact h1
  · obtain ⟨p, a, b⟩ := h.cw q h1 h2; exact ⟨p, a, b.mono hK⟩
  · obtain ⟨g, a, b, c⟩ := h.hg p hp
    exact ⟨g, kb _ _ a, b, fun sh e => ⟨(c sh e).1.mono hK, (c sh e).2⟩⟩
  · rcases hK' b o hh with h1 | ⟨_, _, h1⟩
    · exact h.kc b o h1
    · exact h1
theorem Rep.below (h : Rep X K vr vw cs w S) (hb : Below w.heap.size w w') : Rep X K vr vw cs w' S := h.turn hb K.le_refl fun _ _ hh => .inl hh
/-- one more block that stays -/
def Kn.add (K : Kn) (b : Nat) (o : Obj) : Kn := fun x => if x = b then some o else K x
theorem Kn.add_at (K : Kn) (b : Nat) (o : Obj) : K.add b o b = some o := if_pos rfl
theorem Rep.new_free (h : Rep X K vr vw cs w S) {b : Nat} (hb : w.heap.size ≤ b) : K b = none := by
  cases e : K b with
  | none => rfl
  | some o => have := (Array.getElem?_eq_some_iff.1 (h.hk b o e)).1; omega
theorem Kn.le_add {K : Kn} {b : Nat} {o : Obj} (h : K b = none) : K.le (K.add b o) := fun x o' hx => by
  unfold Kn.add
  split
  · rename_i e; rw [e, h] at hx; cases hx
  · exact hx
theorem Rep.add (h : Rep X K vr vw cs w S) {b : Nat} {o : Obj} (hb : w.heap.size ≤ b) (hB : Below w.heap.size w w') (ho : w'.heap[b]? = some o) (hc : o.isCells = true) : Rep X (K.add b o) vr vw cs w' S :=
  h.turn hB (Kn.le_add (h.new_free hb)) fun x o' hx => by
    unfold Kn.add at hx
    split at hx
    · rename_i e; cases hx; rw [e]; exact .inr ⟨hb, ho, hc⟩
    · exact .inl hx
end
end Go.Proofs.Ytnpgeneahjlkpaa

/- CHAPTER 5, impl: what the matching machine's stores turn. -/
namespace Go.Proofs.Ytnpgeneahjlkpaa
open Go.RowKit Mac

section
variable {X : Cx} {K K' : Kn} {vr vw : Value} {cs : List Nat} {w w' : World} {S : Mc}
theorem blk_lt {b : Nat} {o : Obj} (h : w.heap[b]? = some o) : b < w.heap.size := (Array.getElem?_eq_some_iff.1 h).1
theorem Rep.mlt (h : Rep X K vr vw cs w S) : X.m < w.heap.size := blk_lt h.hm
theorem Rep.own_r (h : Rep X K vr vw cs w S) {g : Nat} (hg : vr.ownBlock = some g) : X.w0.heap.size ≤ g ∧ g < w.heap.size := h.rr.lt hg
theorem Rep.own_w (h : Rep X K vr vw cs w S) {g : Nat} (hg : vw.ownBlock = some g) : X.w0.heap.size ≤ g ∧ g < w.heap.size := h.rw.lt hg
/-- the matching's own cells and rows turn -/
theorem Rep.upd (h : Rep X K vr vw cs w S) {w2 : World} {vr' vw' : Value} {R W cs' : List Nat} {k : Nat}
    (hb : Below X.w0.heap.size w w2)
    (hf : ∀ b, b < w.heap.size → b ≠ X.m → vr.ownBlock ≠ some b → vw.ownBlock ≠ some b → w2.heap[b]? = w.heap[b]?)
    (hm : w2.heap[X.m]? = some (.cells #[.int .i64 k, vr', vw'] tS (0, 0)))
    (r1 : RowV tF X.w0.heap.size w2 vr' (R.map fun i => visitV (bOf S.pl i))) (r2 : RowV tG X.w0.heap.size w2 vw' (cs'.map takeV))
    (o1 : ∀ g, vr'.ownBlock = some g → vr.ownBlock = some g ∨ w.heap.size ≤ g) (o2 : ∀ g, vw'.ownBlock = some g → vw.ownBlock = some g ∨ w.heap.size ≤ g) (o3 : ∀ g, vr'.ownBlock = some g → vw'.ownBlock ≠ some g)
    (cl : cs'.length = W.length) (cw : ∀ q (h : q < cs'.length) (h' : q < W.length), ∃ p, S.pl[W[q]]? = some p ∧ TakeK X K S.pl p cs'[q])
    (rl : ∀ i, i ∈ R → i < S.pl.length) : Rep X K vr' vw' cs' w2 { S with reached := R, waiting := W, pos := k } := by
  obtain ⟨d1, d2, d3, d4, d5, d6, d7, d8, d9⟩ := h.dis
  have hK : ∀ b o, K b = some o → b ≠ X.m ∧ vr.ownBlock ≠ some b ∧ vw.ownBlock ≠ some b := fun b o e =>
    ⟨fun e' => (by rw [e', d3] at e; cases e), fun e' => (by rw [(d8 b e').1] at e; cases e), fun e' => (by rw [(d9 b e').1] at e; cases e)⟩
  have hp4 : ∀ p, p ∈ S.pl → (p.b + 4 ≠ X.m ∧ vr.ownBlock ≠ some (p.b + 4) ∧ vw.ownBlock ≠ some (p.b + 4)) ∧ (p.b + 7 ≠ X.m ∧ vr.ownBlock ≠ some (p.b + 7) ∧ vw.ownBlock ≠ some (p.b + 7)) := fun p hp => by
    have := d5 p hp
    exact ⟨⟨by omega, fun e => ((d8 _ e).2.2.2.2 p hp).1 rfl, fun e => ((d9 _ e).2.2.2 p hp).1 rfl⟩, ⟨by omega, fun e => ((d8 _ e).2.2.2.2 p hp).2 rfl, fun e => ((d9 _ e).2.2.2 p hp).2 rfl⟩⟩
  have new : ∀ g, w.heap.size ≤ g → K g = none ∧ g ≠ X.m ∧ g ≠ X.e ∧ ∀ p, p ∈ S.pl → g ≠ p.b + 4 ∧ g ≠ p.b + 7 := fun g hg => by
    refine ⟨h.new_free hg, ?_, ?_, fun p hp => ⟨?_, ?_⟩⟩
    · have := blk_lt h.hm; omega
    · have := blk_lt h.he; omega
    · obtain ⟨u, a, _⟩ := h.hg p hp; have := blk_lt a; omega
    · have := blk_lt (h.h7 p hp); omega
  refine ⟨⟨d1, d2, d3, d4, d5, d6, d7, fun g hg => ?_, fun g hg => ?_⟩, h.bel.trans hb, fun b o e => ?_, hm, ?_, h.hv, r1, r2, cl, cw, h.pk, fun p hp => ?_, fun p hp => ?_, h.rd, rl, h.kc⟩
  · rcases o1 g hg with e | e
    · have := d8 g e; exact ⟨this.1, this.2.1, this.2.2.1, o3 g hg, this.2.2.2.2⟩
    · have := new g e; exact ⟨this.1, this.2.1, this.2.2.1, o3 g hg, this.2.2.2⟩
  · rcases o2 g hg with e | e
    · exact d9 g e
    · exact new g e
  · have := hK b o e
    exact (hf b (blk_lt (h.hk b o e)) this.1 this.2.1 this.2.2).trans (h.hk b o e)
  · exact (hf _ (blk_lt h.he) (by omega) (fun e => (d8 _ e).2.2.1 rfl) (fun e => (d9 _ e).2.2.1 rfl)).trans h.he
  · obtain ⟨g, a, b⟩ := h.hg p hp
    have := (hp4 p hp).1
    exact ⟨g, (hf _ (blk_lt a) this.1 this.2.1 this.2.2).trans a, b⟩
  · have := (hp4 p hp).2
    exact (hf _ (blk_lt (h.h7 p hp)) this.1 this.2.1 this.2.2).trans (h.h7 p hp)
theorem mset {w : World} {m : Nat} {a b c u : Value} {t : TypeId} (h : w.heap[m]? = some (.cells #[a, b, c] t (0, 0))) (j : Nat) : (w.setCell ⟨m, j, none⟩ u).heap[m]? = some (.cells (#[a, b, c].setIfInBounds j u) t (0, 0)) := heap_setCell_same w m j _ t u h
/-- reached turns: w1: behind what made the new row -/
theorem Rep.setReached (h : Rep X K vr vw cs w S) {w1 : World} {v' : Value} {R : List Nat} (hg : w.grownBy w1 vr.ownBlock) (r1 : RowV tF X.w0.heap.size w1 v' (R.map fun i => visitV (bOf S.pl i)))
    (o1 : ∀ g, v'.ownBlock = some g → vr.ownBlock = some g ∨ w.heap.size ≤ g) (rl : ∀ i, i ∈ R → i < S.pl.length) : Rep X K v' vw cs (w1.setCell ⟨X.m, 1, none⟩ v') { S with reached := R } := by
  have hm1 : w1.heap[X.m]? = some (.cells #[.int .i64 S.pos, vr, vw] tS (0, 0)) := (hg.block _ h.mlt (fun e => (h.dis.kr _ e.symm).2.1 rfl)).trans h.hm
  have hmo : v'.ownBlock ≠ some X.m := fun e => by
    rcases o1 _ e with e | e
    · exact (h.dis.kr _ e).2.1 rfl
    · have := h.mlt; omega
  have hmw : vw.ownBlock ≠ some X.m := fun e => (h.dis.kw _ e).2.1 rfl
  have r2 : RowV tG X.w0.heap.size w1 vw (cs.map takeV) := RowR.other (u := vr) h.rw hg (fun g e e' => (h.dis.kr g e').2.2.2.1 e)
  refine h.upd ?_ ?_ (mset hm1 1) (ownsRow_setCell_other r1 (a := ⟨X.m, 1, none⟩) hmo _) (ownsRow_setCell_other r2 (a := ⟨X.m, 1, none⟩) hmw _) o1 (fun g e => .inl e) ?_ h.cl h.cw rl
  · have hB : Below X.w0.heap.size w w1 := (Below.refl _ _).grown hg h.bel.size (fun g e => (h.own_r e).1)
    exact hB.setCell (p := ⟨X.m, 1, none⟩) h.dis.bm _
  · intro b hb h1 h2 h3
    rw [Below.heap_setCell _ _ _ _ h1]
    exact hg.block b hb (fun e => h2 e.symm)
  · intro g e e'
    rcases o1 g e with e1 | e1
    · exact (h.dis.kr g e1).2.2.2.1 e'
    · have := (h.own_w e').2; omega
theorem Rep.setWaiting (h : Rep X K vr vw cs w S) {w1 : World} {v' : Value} {W cs' : List Nat} (hg : w.grownBy w1 vw.ownBlock) (r2 : RowV tG X.w0.heap.size w1 v' (cs'.map takeV))
    (o2 : ∀ g, v'.ownBlock = some g → vw.ownBlock = some g ∨ w.heap.size ≤ g) (cl : cs'.length = W.length) (cw : ∀ q (h : q < cs'.length) (h' : q < W.length), ∃ p, S.pl[W[q]]? = some p ∧ TakeK X K S.pl p cs'[q]) : Rep X K vr v' cs' (w1.setCell ⟨X.m, 2, none⟩ v') { S with waiting := W } := by
  have hm1 : w1.heap[X.m]? = some (.cells #[.int .i64 S.pos, vr, vw] tS (0, 0)) := (hg.block _ h.mlt (fun e => (h.dis.kw _ e.symm).2.1 rfl)).trans h.hm
  have hmo : v'.ownBlock ≠ some X.m := fun e => by
    rcases o2 _ e with e | e
    · exact (h.dis.kw _ e).2.1 rfl
    · have := h.mlt; omega
  have hmw : vr.ownBlock ≠ some X.m := fun e => (h.dis.kr _ e).2.1 rfl
  have r1 : RowV tF X.w0.heap.size w1 vr (S.reached.map fun i => visitV (bOf S.pl i)) := RowR.other (u := vw) h.rr hg (fun g e e' => (h.dis.kr g e).2.2.2.1 e')
  refine h.upd ?_ ?_ (mset hm1 2) (ownsRow_setCell_other r1 (a := ⟨X.m, 2, none⟩) hmw _) (ownsRow_setCell_other r2 (a := ⟨X.m, 2, none⟩) hmo _) (fun g e => .inl e) o2 ?_ cl cw h.rl
  · have hB : Below X.w0.heap.size w w1 := (Below.refl _ _).grown hg h.bel.size (fun g e => (h.own_w e).1)
    exact hB.setCell (p := ⟨X.m, 2, none⟩) h.dis.bm _
  · intro b hb h1 h2 h3
    rw [Below.heap_setCell _ _ _ _ h1]
    exact hg.block b hb (fun e => h3 e.symm)
  · intro g e e'
    rcases o2 g e' with e1 | e1
    · exact (h.dis.kr g e).2.2.2.1 e1
    · have := (h.own_r e).2; omega
theorem Rep.setPos (h : Rep X K vr vw cs w S) (k : Nat) : Rep X K vr vw cs (w.setCell ⟨X.m, 0, none⟩ (.int .i64 k)) { S with pos := k } := by
  have hmw : vw.ownBlock ≠ some X.m := fun e => (h.dis.kw _ e).2.1 rfl
  have hmr : vr.ownBlock ≠ some X.m := fun e => (h.dis.kr _ e).2.1 rfl
  exact h.upd ((Below.refl _ _).setCell (p := ⟨X.m, 0, none⟩) h.dis.bm _) (fun b hb h1 _ _ => Below.heap_setCell _ _ _ _ h1) (mset h.hm 0) (ownsRow_setCell_other h.rr (a := ⟨X.m, 0, none⟩) hmr _) (ownsRow_setCell_other h.rw (a := ⟨X.m, 0, none⟩) hmw _) (fun g e => .inl e) (fun g e => .inl e) (fun g e => (h.dis.kr g e).2.2.2.1) h.cl h.cw h.rl
/-- a block of one cell turns, that is neither the matching's nor a row's -/
theorem Rep.keep (h : Rep X K vr vw cs w S) {b : Nat} {u : Value} (hk : K b = none) (hm : b ≠ X.m) (hr : vr.ownBlock ≠ some b) (hw : vw.ownBlock ≠ some b) (hB : X.w0.heap.size ≤ b) :
    Below X.w0.heap.size X.w0 (w.setCell ⟨b, 0, none⟩ u) ∧ (∀ x o, K x = some o → (w.setCell ⟨b, 0, none⟩ u).heap[x]? = some o) ∧ (w.setCell ⟨b, 0, none⟩ u).heap[X.m]? = some (.cells #[.int .i64 S.pos, vr, vw] tS (0, 0)) ∧
      RowV tF X.w0.heap.size (w.setCell ⟨b, 0, none⟩ u) vr (S.reached.map fun i => visitV (bOf S.pl i)) ∧ RowV tG X.w0.heap.size (w.setCell ⟨b, 0, none⟩ u) vw (cs.map takeV) :=
  ⟨h.bel.setCell (p := ⟨b, 0, none⟩) hB _, fun x o e => by rw [Below.heap_setCell _ _ _ _ (fun e' => by have e2 : x = b := e'; rw [e2, hk] at e; cases e)]; exact h.hk x o e, by rw [Below.heap_setCell _ _ _ _ (fun e => hm e.symm)]; exact h.hm,
    ownsRow_setCell_other h.rr (a := ⟨b, 0, none⟩) hr _, ownsRow_setCell_other h.rw (a := ⟨b, 0, none⟩) hw _⟩
theorem Rep.setEnd (h : Rep X K vr vw cs w S) (n : Int) : Rep X K vr vw cs (w.setCell ⟨X.e, 0, none⟩ (.int .i64 n)) { S with en := n } := by
  have hme := h.dis.me
  obtain ⟨k1, k2, k3, k4, k5⟩ := h.keep (b := X.e) (u := .int .i64 n) h.dis.ke (by omega) (fun e => (h.dis.kr _ e).2.2.1 rfl) (fun e => (h.dis.kw _ e).2.2.1 rfl) (by have := h.dis.bm; omega)
  refine ⟨h.dis, k1, k2, k3, one_setCell h.he, h.hv, k4, k5, h.cl, h.cw, h.pk, fun p hp => ?_, fun p hp => ?_, h.rd, h.rl, h.kc⟩
  · have := h.dis.ep p hp
    obtain ⟨g, a, b⟩ := h.hg p hp
    exact ⟨g, by rw [Below.heap_setCell _ _ _ _ (by show p.b + 4 ≠ X.e; omega)]; exact a, b⟩
  · have := h.dis.ep p hp
    rw [Below.heap_setCell _ _ _ _ (by show p.b + 7 ≠ X.e; omega)]; exact h.h7 p hp
theorem set_mem {L : List Pl} {i : Nat} {p' q : Pl} (hq : q ∈ L.set i p') : (q = p' ∧ i < L.length) ∨ ∃ j, j ≠ i ∧ L[j]? = some q := by
  obtain ⟨j, hj, rfl⟩ := List.getElem_of_mem hq
  rw [List.length_set] at hj
  by_cases e : i = j
  · subst e; exact .inl ⟨by simp, hj⟩
  · refine .inr ⟨j, fun e' => e e'.symm, ?_⟩
    rw [List.getElem_set_ne e]; exact List.getElem?_eq_getElem hj
/-- what a place is turns, but for where it lies, its pattern and its end -/
theorem Rep.setPl (h : Rep X K vr vw cs w S) {i : Nat} {p p' : Pl} (hp : S.pl[i]? = some p) (hb : p'.b = p.b) (ht : p'.t = p.t) (hn : p'.nx = p.nx) (hr : p'.r = p.r) (he : p'.e = p.e) {w2 : World} {j : Nat} (hj : j = 4 ∨ j = 7)
    (hw2 : ∃ u, w2 = w.setCell ⟨p.b + j, 0, none⟩ u)
    (h4 : ∃ g, w2.heap[p.b + 4]? = some (bx g tF) ∧ (p'.sh = none → g = .nilFunc) ∧ ∀ sh, p'.sh = some sh → VsK X K S.pl p g sh ∧ (∀ l, sh = .ways l → ∀ r, r ∈ l → r ≤ S.pl.length))
    (h7 : w2.heap[p.b + 7]? = some (bx (.int .i64 p'.vis) 3)) : Rep X K vr vw cs w2 { S with pl := S.pl.set i p' } := by
  obtain ⟨u, rfl⟩ := hw2
  have hpm := List.mem_of_getElem? hp
  have hil := (List.getElem?_eq_some_iff.1 hp).1
  obtain ⟨d1, d2, d3, d4, d5, d6, d7, d8, d9⟩ := h.dis
  have hep := d5 p hpm
  have hkn : K (p.b + j) = none := by rcases hj with rfl | rfl; exact (d6 p hpm).1; exact (d6 p hpm).2
  obtain ⟨k1, k2, k3, k4, k5⟩ := h.keep (b := p.b + j) (u := u) hkn (by omega) (fun e => by have := (d8 _ e).2.2.2.2 p hpm; omega) (fun e => by have := (d9 _ e).2.2.2 p hpm; omega) (by omega)
  have hs : Same S.pl (S.pl.set i p') := same_set hp hb
  have hlen : (S.pl.set i p').length = S.pl.length := List.length_set
  have hmap : (S.reached.map fun k => visitV (bOf (S.pl.set i p') k)) = S.reached.map fun k => visitV (bOf S.pl k) := by
    apply List.map_congr_left
    intro k _
    by_cases hk : k < S.pl.length
    · rw [hs k hk]
    · unfold bOf; rw [List.getElem?_eq_none (by omega), List.getElem?_eq_none (by omega)]
  have far : ∀ (k : Nat) (q : Pl), k ≠ i → S.pl[k]? = some q → ∀ c, c < 8 → q.b + c ≠ p.b + j := fun k q hk hq c hc => by
    have := h.dis.far hq hp hk; omega
  have hlist : ∀ q, q ∈ S.pl.set i p' → (q = p') ∨ ∃ k, k ≠ i ∧ S.pl[k]? = some q := fun q hq => by
    rcases set_mem hq with ⟨e, _⟩ | e
    · exact .inl e
    · exact .inr e
  have bk : ∀ (k : Nat) (q : Pl), (S.pl.set i p')[k]? = some q → ∃ q0, S.pl[k]? = some q0 ∧ q.b = q0.b := fun k q hq => by
    rcases set_back hp hq with ⟨rfl, rfl⟩ | ⟨_, hq⟩
    · exact ⟨p, hp, hb⟩
    · exact ⟨q, hq, rfl⟩
  refine ⟨⟨d1, d2, d3, d4, fun q hq => ?_, fun q hq => ?_, fun a b q r hq hr' hab => ?_, fun g hg => ?_, fun g hg => ?_⟩, k1, k2, k3, ?_, h.hv, ?_, k5, h.cl, fun q h1 h2 => ?_, fun q hq => ?_, fun q hq => ?_, fun q hq => ?_, fun q hq => ?_, fun k hk => by show k < (S.pl.set i p').length; rw [hlen]; exact h.rl k hk, h.kc⟩
  · rcases hlist q hq with rfl | ⟨k, _, hq⟩
    · rw [hb]; exact hep
    · exact d5 q (List.mem_of_getElem? hq)
  · rcases hlist q hq with rfl | ⟨k, _, hq⟩
    · rw [hb]; exact d6 p hpm
    · exact d6 q (List.mem_of_getElem? hq)
  · obtain ⟨q0, a1, a2⟩ := bk a q hq
    obtain ⟨r0, b1, b2⟩ := bk b r hr'
    rw [a2, b2]; exact d7 a b q0 r0 a1 b1 hab
  · have := d8 g hg
    refine ⟨this.1, this.2.1, this.2.2.1, this.2.2.2.1, fun q hq => ?_⟩
    rcases hlist q hq with rfl | ⟨k, _, hq⟩
    · rw [hb]; exact this.2.2.2.2 p hpm
    · exact this.2.2.2.2 q (List.mem_of_getElem? hq)
  · have := d9 g hg
    refine ⟨this.1, this.2.1, this.2.2.1, fun q hq => ?_⟩
    rcases hlist q hq with rfl | ⟨k, _, hq⟩
    · rw [hb]; exact this.2.2.2 p hpm
    · exact this.2.2.2 q (List.mem_of_getElem? hq)
  · rw [Below.heap_setCell _ _ _ _ (by show X.e ≠ p.b + j; omega)]; exact h.he
  · show RowV tF X.w0.heap.size _ vr (S.reached.map fun k => visitV (bOf (S.pl.set i p') k))
    rw [hmap]; exact k4
  · obtain ⟨q0, a, b⟩ := h.cw q h1 h2
    have hq0 := (h.pk q0 (List.mem_of_getElem? a)).2
    by_cases e : S.waiting[q] = i
    · rw [e] at a
      rw [hp] at a; cases a
      exact ⟨p', by show (S.pl.set i p')[S.waiting[q]]? = _; rw [e, List.getElem?_set_self hil], b.same hs hq0 ht hn⟩
    · exact ⟨q0, by show (S.pl.set i p')[S.waiting[q]]? = _; rw [List.getElem?_set_ne (fun e' => e e'.symm)]; exact a, b.same hs hq0 rfl rfl⟩
  · rcases hlist q hq with rfl | ⟨k, _, hq⟩
    · have := h.pk p hpm
      exact ⟨this.1.same hs this.2 hb hn hr, by rw [hn]; show _ ≤ (S.pl.set i q).length; rw [hlen]; exact this.2⟩
    · have := h.pk q (List.mem_of_getElem? hq)
      exact ⟨this.1.same hs this.2 rfl rfl rfl, by show _ ≤ (S.pl.set i p').length; rw [hlen]; exact this.2⟩
  · rcases hlist q hq with rfl | ⟨k, hki, hq⟩
    · obtain ⟨g, a, b, c⟩ := h4
      refine ⟨g, by rw [hb]; exact a, b, fun sh e => ?_⟩
      obtain ⟨c1, c2⟩ := c sh e
      exact ⟨c1.same hs (h.pk p hpm).2 c2 ht hn, fun l e' r hr' => by show r ≤ (S.pl.set i q).length; rw [hlen]; exact c2 l e' r hr'⟩
    · obtain ⟨g, a, b, c⟩ := h.hg q (List.mem_of_getElem? hq)
      refine ⟨g, by rw [Below.heap_setCell _ _ _ _ (far k q hki hq 4 (by omega))]; exact a, b, fun sh e => ?_⟩
      obtain ⟨c1, c2⟩ := c sh e
      exact ⟨c1.same hs (h.pk q (List.mem_of_getElem? hq)).2 c2 rfl rfl, fun l e' r hr' => by show r ≤ (S.pl.set i p').length; rw [hlen]; exact c2 l e' r hr'⟩
  · rcases hlist q hq with rfl | ⟨k, hki, hq⟩
    · rw [hb]; exact h7
    · rw [Below.heap_setCell _ _ _ _ (far k q hki hq 7 (by omega))]; exact h.h7 q (List.mem_of_getElem? hq)
  · rcases hlist q hq with rfl | ⟨k, hki, hq⟩
    · have := h.rd p hpm; rw [he, hr, ht]; exact this
    · exact h.rd q (List.mem_of_getElem? hq)
theorem Rep.setVis (h : Rep X K vr vw cs w S) {i : Nat} {p : Pl} (hp : S.pl[i]? = some p) (n : Int) : Rep X K vr vw cs (w.setCell ⟨p.b + 7, 0, none⟩ (.int .i64 n)) { S with pl := S.pl.set i { p with vis := n } } := by
  have hpm := List.mem_of_getElem? hp
  refine h.setPl (p' := { p with vis := n }) hp rfl rfl rfl rfl rfl (.inr rfl) ⟨_, rfl⟩ ?_ (one_setCell (h.h7 p hpm))
  obtain ⟨g, a, b⟩ := h.hg p hpm
  exact ⟨g, by rw [Below.heap_setCell _ _ _ _ (by show p.b + 4 ≠ p.b + 7; omega)]; exact a, b⟩
theorem Rep.setSh (h : Rep X K vr vw cs w S) {i : Nat} {p : Pl} (hp : S.pl[i]? = some p) {g : Value} {sh : Vs} (hv : VsK X K S.pl p g sh) (hl : ∀ l, sh = .ways l → ∀ r, r ∈ l → r ≤ S.pl.length) : Rep X K vr vw cs (w.setCell ⟨p.b + 4, 0, none⟩ g) { S with pl := S.pl.set i { p with sh := some sh } } := by
  have hpm := List.mem_of_getElem? hp
  obtain ⟨g0, a, _⟩ := h.hg p hpm
  refine h.setPl (p' := { p with sh := some sh }) hp rfl rfl rfl rfl rfl (.inl rfl) ⟨_, rfl⟩ ⟨g, one_setCell a, fun e => (by cases e), fun sh' e => (by cases e; exact ⟨hv, hl⟩)⟩ ?_
  rw [Below.heap_setCell _ _ _ _ (by show p.b + 7 ≠ p.b + 4; omega)]; exact h.h7 p hpm
/-- a new place, in eight new blocks -/
theorem Rep.place (h : Rep X K vr vw cs w S) {t : Pat} {e : Nat} {r : PatR} {nx b : Nat} (hb : b = w.heap.size) (hB : Below w.heap.size w w') (hnx : nx ≤ S.pl.length) (hrd : RdN patK e X.w0 r t ∧ t.x.text.size ≤ 9223372036854775807 ∧ TxFit e t.kids)
    (b0 : w'.heap[b]? = some (bx (ptr X.m) tM)) (b1 : w'.heap[b + 1]? = some (.cells #[.int .i64 r.op, .string r.text, r.kv] 56 (0, 0))) (b2 : w'.heap[b + 2]? = some (bx (refV X S.pl nx) tF)) (b3 : w'.heap[b + 3]? = some (bx (placeV b) tF))
    (b4 : w'.heap[b + 4]? = some (bx .nilFunc tF)) (b5 : w'.heap[b + 5]? = some (bx (ptr X.m) tM)) (b6 : w'.heap[b + 6]? = some (bx (visitV b) tF)) (b7 : w'.heap[b + 7]? = some (bx (.int .i64 (-1)) 3)) :
    ∃ K', K.le K' ∧ (∀ x, x < w.heap.size → K' x = K x) ∧ Rep X K' vr vw cs w' { S with pl := S.pl ++ [⟨t, e, r, nx, b, -1, none⟩] } := by
  obtain ⟨K', hK'⟩ : ∃ K' : Kn, K' = fun x => if x = b then some (bx (ptr X.m) tM) else if x = b + 1 then some (.cells #[.int .i64 r.op, .string r.text, r.kv] 56 (0, 0)) else if x = b + 2 then some (bx (refV X S.pl nx) tF) else if x = b + 3 then some (bx (placeV b) tF) else if x = b + 5 then some (bx (ptr X.m) tM) else if x = b + 6 then some (bx (visitV b) tF) else K x := ⟨_, rfl⟩
  have hfree : ∀ x, b ≤ x → K x = none := fun x hx => h.new_free (by omega)
  have hle : K.le K' := fun x o hx => by
    have hlt := blk_lt (h.hk x o hx)
    rw [hK']; dsimp only
    rw [if_neg (by omega), if_neg (by omega), if_neg (by omega), if_neg (by omega), if_neg (by omega), if_neg (by omega)]; exact hx
  have h1 : Rep X K' vr vw cs w' S := h.turn hB hle fun x o hx => by
    rw [hK'] at hx; dsimp only at hx
    split at hx
    · rename_i e'; cases hx; subst e'; exact .inr ⟨by omega, b0, rfl⟩
    split at hx
    · rename_i e'; cases hx; subst e'; exact .inr ⟨by omega, b1, rfl⟩
    split at hx
    · rename_i e'; cases hx; subst e'; exact .inr ⟨by omega, b2, rfl⟩
    split at hx
    · rename_i e'; cases hx; subst e'; exact .inr ⟨by omega, b3, rfl⟩
    split at hx
    · rename_i e'; cases hx; subst e'; exact .inr ⟨by omega, b5, rfl⟩
    split at hx
    · rename_i e'; cases hx; subst e'; exact .inr ⟨by omega, b6, rfl⟩
    · exact .inl hx
  refine ⟨K', hle, fun x hx => by
    rw [hK']; dsimp only
    rw [if_neg (by omega), if_neg (by omega), if_neg (by omega), if_neg (by omega), if_neg (by omega), if_neg (by omega)], ?_⟩
  obtain ⟨d1, d2, d3, d4, d5, d6, d7, d8, d9⟩ := h1.dis
  have hs : Same S.pl (S.pl ++ [⟨t, e, r, nx, b, -1, none⟩]) := same_app _ _
  have hlen : (S.pl ++ [(⟨t, e, r, nx, b, -1, none⟩ : Pl)]).length = S.pl.length + 1 := by simp
  have hmap : (S.reached.map fun k => visitV (bOf (S.pl ++ [⟨t, e, r, nx, b, -1, none⟩]) k)) = S.reached.map fun k => visitV (bOf S.pl k) := by
    apply List.map_congr_left
    intro k hk
    rw [hs k (h.rl k hk)]
  have hlist : ∀ q, q ∈ S.pl ++ [(⟨t, e, r, nx, b, -1, none⟩ : Pl)] → q ∈ S.pl ∨ q = ⟨t, e, r, nx, b, -1, none⟩ := fun q hq => by simpa using hq
  have pbl : ∀ q, q ∈ S.pl → q.b + 8 ≤ b := fun q hq => by
    have := blk_lt (h.h7 q hq); omega
  refine ⟨⟨d1, d2, d3, d4, fun q hq => ?_, fun q hq => ?_, fun i j q q' hq hq' hij => ?_, fun g hg => ?_, fun g hg => ?_⟩, h1.bel, h1.hk, h1.hm, h1.he, h1.hv, ?_, h1.rw, h1.cl, fun q h2 h3 => ?_, fun q hq => ?_, fun q hq => ?_, fun q hq => ?_, fun q hq => ?_, fun k hk => by have := h.rl k hk; show k < (S.pl ++ _).length; rw [hlen]; omega, h1.kc⟩
  · rcases hlist q hq with hq | rfl
    · exact d5 q hq
    · have := blk_lt h.he; show X.e < b; omega
  · rcases hlist q hq with hq | rfl
    · exact d6 q hq
    · refine ⟨?_, ?_⟩
      · show K' (b + 4) = none
        rw [hK']; dsimp only
        rw [if_neg (by omega), if_neg (by omega), if_neg (by omega), if_neg (by omega), if_neg (by omega), if_neg (by omega)]; exact hfree _ (by omega)
      · show K' (b + 7) = none
        rw [hK']; dsimp only
        rw [if_neg (by omega), if_neg (by omega), if_neg (by omega), if_neg (by omega), if_neg (by omega), if_neg (by omega)]; exact hfree _ (by omega)
  · have hil := (List.getElem?_eq_some_iff.1 hq').1
    rw [hlen] at hil
    rw [List.getElem?_append_left (by omega)] at hq
    by_cases hj : j < S.pl.length
    · rw [List.getElem?_append_left hj] at hq'; exact d7 i j q q' hq hq' hij
    · have e' : j = S.pl.length := by omega
      subst e'
      simp at hq'
      subst hq'
      exact pbl q (List.mem_of_getElem? hq)
  · have h9 := d8 g hg
    refine ⟨h9.1, h9.2.1, h9.2.2.1, h9.2.2.2.1, fun q hq => ?_⟩
    rcases hlist q hq with hq | rfl
    · exact h9.2.2.2.2 q hq
    · have := (h.own_r hg).2; exact ⟨by show g ≠ b + 4; omega, by show g ≠ b + 7; omega⟩
  · have h9 := d9 g hg
    refine ⟨h9.1, h9.2.1, h9.2.2.1, fun q hq => ?_⟩
    rcases hlist q hq with hq | rfl
    · exact h9.2.2.2 q hq
    · have := (h.own_w hg).2; exact ⟨by show g ≠ b + 4; omega, by show g ≠ b + 7; omega⟩
  · show RowV tF X.w0.heap.size _ vr (S.reached.map fun k => visitV (bOf (S.pl ++ [⟨t, e, r, nx, b, -1, none⟩]) k))
    rw [hmap]; exact h1.rr
  · obtain ⟨q0, a, b'⟩ := h1.cw q h2 h3
    exact ⟨q0, by show (S.pl ++ _)[S.waiting[q]]? = _; rw [List.getElem?_append_left (List.getElem?_eq_some_iff.1 a).1]; exact a, b'.same hs (h1.pk q0 (List.mem_of_getElem? a)).2 rfl rfl⟩
  · rcases hlist q hq with hq | rfl
    · have := h1.pk q hq
      exact ⟨this.1.same hs this.2 rfl rfl rfl, by show _ ≤ (S.pl ++ _).length; rw [hlen]; omega⟩
    · refine ⟨⟨?_, ?_, ?_, ?_, ?_, ?_⟩, by show nx ≤ (S.pl ++ _).length; rw [hlen]; omega⟩
      · show K' b = _; rw [hK']; dsimp only; rw [if_pos rfl]
      · show K' (b + 1) = _; rw [hK']; dsimp only; rw [if_neg (by omega), if_pos rfl]
      · show K' (b + 2) = some (bx (refV X (S.pl ++ _) nx) tF); rw [ref_same hs hnx, hK']; dsimp only; rw [if_neg (by omega), if_neg (by omega), if_pos rfl]
      · show K' (b + 3) = _; rw [hK']; dsimp only; rw [if_neg (by omega), if_neg (by omega), if_neg (by omega), if_pos rfl]
      · show K' (b + 5) = _; rw [hK']; dsimp only; rw [if_neg (by omega), if_neg (by omega), if_neg (by omega), if_neg (by omega), if_pos rfl]
      · show K' (b + 6) = _; rw [hK']; dsimp only; rw [if_neg (by omega), if_neg (by omega), if_neg (by omega), if_neg (by omega), if_neg (by omega), if_pos rfl]
  · rcases hlist q hq with hq | rfl
    · obtain ⟨g, a, b', c⟩ := h1.hg q hq
      refine ⟨g, a, b', fun sh e' => ?_⟩
      obtain ⟨c1, c2⟩ := c sh e'
      exact ⟨c1.same hs (h1.pk q hq).2 c2 rfl rfl, fun l e2 r' hr' => by have := c2 l e2 r' hr'; show r' ≤ (S.pl ++ _).length; rw [hlen]; omega⟩
    · exact ⟨.nilFunc, b4, fun _ => rfl, fun sh e' => by cases e'⟩
  · rcases hlist q hq with hq | rfl
    · exact h1.h7 q hq
    · exact b7
  · rcases hlist q hq with hq | rfl
    · exact h1.rd q hq
    · exact hrd
/-- a block that is there and that nobody turns is one that stays -/
theorem Rep.addOld (h : Rep X K vr vw cs w S) {b : Nat} {o : Obj} (ho : w.heap[b]? = some o) (hc : o.isCells = true) (hk : K b = none) (hm : b ≠ X.m) (he : b ≠ X.e) (hr : vr.ownBlock ≠ some b) (hw : vw.ownBlock ≠ some b) (hp : ∀ p, p ∈ S.pl → b ≠ p.b + 4 ∧ b ≠ p.b + 7) : Rep X (K.add b o) vr vw cs w S := by
  have hle : K.le (K.add b o) := Kn.le_add hk
  have hne : ∀ x, x ≠ b → K.add b o x = K x := fun x hx => if_neg hx
  obtain ⟨d1, d2, d3, d4, d5, d6, d7, d8, d9⟩ := h.dis
  refine ⟨⟨d1, d2, by rw [hne _ (fun e => hm e.symm)]; exact d3, by rw [hne _ (fun e => he e.symm)]; exact d4, d5, fun p hpm => ⟨by rw [hne _ (fun e => (hp p hpm).1 e.symm)]; exact (d6 p hpm).1, by rw [hne _ (fun e => (hp p hpm).2 e.symm)]; exact (d6 p hpm).2⟩, d7, fun g hg => ?_, fun g hg => ?_⟩, h.bel, fun x o' hx => ?_, h.hm, h.he, hle _ _ h.hv, h.rr, h.rw, h.cl, fun q h1 h2 => ?_, fun p hpm => ⟨(h.pk p hpm).1.mono hle, (h.pk p hpm).2⟩, fun p hpm => ?_, h.h7, h.rd, h.rl, fun x o' hx => ?_⟩
  · have := d8 g hg
    exact ⟨by rw [hne _ (fun e => hr (by rw [hg, e]))]; exact this.1, this.2⟩
  · have := d9 g hg
    exact ⟨by rw [hne _ (fun e => hw (by rw [hg, e]))]; exact this.1, this.2⟩
  · unfold Kn.add at hx
    split at hx
    · rename_i e; cases hx; rw [e]; exact ho
    · exact h.hk x o' hx
  · obtain ⟨p, a, b'⟩ := h.cw q h1 h2; exact ⟨p, a, b'.mono hle⟩
  · obtain ⟨g, a, b', c⟩ := h.hg p hpm
    exact ⟨g, a, b', fun sh e => ⟨(c sh e).1.mono hle, (c sh e).2⟩⟩
  · unfold Kn.add at hx
    split at hx
    · cases hx; exact hc
    · exact h.kc x o' hx
end
end Go.Proofs.Ytnpgeneahjlkpaa

/- CHAPTER 5, impl: the matching machine's closures: a place that is called, the end, a wait. -/
namespace Go.Proofs.Ytnpgeneahjlkpaa
open Go.RowKit Mac

theorem infoF : (Try.prog.info? 1).map (fun i => (i.zero, i.size, i.bytes)) = some (some .nilFunc, 1, 8) := by kernel_rfl
theorem infoG : (Try.prog.info? 140).map (fun i => (i.zero, i.size, i.bytes)) = some (some .nilFunc, 1, 8) := by kernel_rfl
/-- 'own = append(own, u)' of a function value at a step of a region that draws its order; own may be nil -/
theorem step_fn_append {w : World} {ops : Array Oper} {o : Oper} {a : Act} {K : Act → World → Prop} {Q : Exit → Act → World → Prop} {E : Prop} (hgd : o.guard = none) (s x : Operand) (t te : TypeId) (i0 : TypeInfo)
    (ho : o.op = .call { callee := .builtin .append, args := #[s, x], argTypes := #[t, t] }) (hu : Try.prog.underlying t = some (.slice te)) (hi : Try.prog.info? te = some i0) (hz0 : i0.zero = some .nilFunc) (hz1 : i0.size = 1) (hz2 : i0.bytes = 8)
    (B n : Nat) (v : Value) (L : List Value) (hs : a.eval s = v) (hrow : RowV te B w v L) (hn : L.length = n)
    (y : Value) (ad : Addr) (c' : Nat) (hx : a.eval x = .slice (some ad) 1 c') (hnews : w.cell? ad = some y) (hy : y.oneCell' = true)
    (hlen : n + 1 ≤ 2147483648) (hbase : B ≤ w.heap.size) (q : Nat) (hq : q = n + 1)
    (h : ∀ g' c'' w', RowV te B w' (.slice (some ⟨g', 0, none⟩) q c'') (L ++ [y]) → w.grownBy w' v.ownBlock → (some g' = v.ownBlock ∨ g' = w.heap.size) → K (a.put o.dst (.slice (some ⟨g', 0, none⟩) q c'')) w') :
    if Region.wanted o (yielded ops a.tmps) = true then Oper.wp Try.prog o a w K Q else E := by
  have hw : Region.wanted o (yielded ops a.tmps) = true := by simp [Region.wanted, hgd]
  rw [if_pos hw]
  subst hn
  subst hq
  obtain ⟨v', w', hr, h2, h3, h4, h5⟩ := run_append_own_at (P := Try.prog) w B t o.type te i0 .nilFunc 1 8 hu hi hz0 hz1 hz2 rfl (by decide) v L.length (L.flatMap fun u => [u]) hrow ad 1 c' [y] rfl (fun j u hj => by
      cases j with
      | zero => simp at hj; subst hj; exact hnews
      | succ j => simp at hj) (fun u hu => by rw [List.mem_singleton.1 hu]; exact hy) (by unfold maxLen; omega) (by omega) hbase
  unfold Oper.wp execOp
  simp only [ho, resolve, invoke, builtin, Sem.run_bind, Sem.run_pure, Result.andThen_ok, List.map_toArray, List.map_cons, List.map_nil, hs, hx, hr]
  rcases h2.2 with ⟨_, h6⟩ | ⟨g', cap', cur, h6, _⟩
  · omega
  · subst h6
    refine h g' cap' w' ?_ h3 ?_
    · unfold RowV RowR
      rw [List.length_append, List.flatMap_append, List.flatMap_singleton]
      exact h2
    · rcases h5 with h6 | h6
      · exact .inl h6
      · exact .inr (Option.some.inj h6)
section
variable {X : Cx} {K K' : Kn} {vr vw : Value} {cs : List Nat} {w w' : World} {S : Mc}
/-- what a call of a ref leaves -/
def CallP (X : Cx) (K : Kn) (vw : Value) (cs : List Nat) (S : Mc) (r : Nat) (e : Ending) (w' : World) : Prop := e = .returned (.tuple #[]) ∧ ∃ vr', Rep X K vr' vw cs w' (call S r)
/-- the matching's cells -/
theorem Rep.cells (h : Rep X K vr vw cs w S) : (w.cell? ⟨X.m, 0, none⟩ = some (.int .i64 S.pos) ∧ w.cell? ⟨X.m, 1, none⟩ = some vr ∧ w.cell? ⟨X.m, 2, none⟩ = some vw) ∧ ∀ j, w.frozen? ⟨X.m, j, none⟩ = false := by
  refine ⟨⟨?_, ?_, ?_⟩, fun j => ?_⟩
  · rw [cell_of_row _ X.m 0 _ _ _ h.hm]; rfl
  · rw [cell_of_row _ X.m 1 _ _ _ h.hm]; rfl
  · rw [cell_of_row _ X.m 2 _ _ _ h.hm]; rfl
  · exact frozen_of_row _ X.m j _ _ h.hm
set_option maxRecDepth 100000 in
set_option maxHeartbeats 1000000 in
theorem end_any (h : Rep X K vr vw cs w S) : Calls Try.prog 59 #[ptr X.mv, ptr X.e] w (CallP X K vw cs S 0) := by
  have c1 := cell_of_one (h.hk _ _ h.hv)
  have c2 := h.cells.1.1
  have c3 := cell_of_one h.he
  have f3 := free_of_one h.he
  have HR := Lib.hid (h.setEnd S.pos)
  clear h
  go_enter Try.func59, Try.ntmps59
  go_wp2
  go_end0
  exact ⟨rfl, _, HR.out⟩
set_option maxRecDepth 100000 in
set_option maxHeartbeats 2000000 in
theorem place_any (h : Rep X K vr vw cs w S) {j : Nat} {p : Pl} (hp : S.pl[j]? = some p) (hn : S.reached.length + 1 ≤ 2147483648) : Calls Try.prog 118 #[ptr (p.b + 7), ptr (p.b + 5), ptr (p.b + 6)] w (CallP X K vw cs S (j + 1)) := by
  have hpm := List.mem_of_getElem? hp
  have c7 := cell_of_one (h.h7 p hpm)
  have f7 := free_of_one (h.h7 p hpm)
  have c5 := cell_of_one (h.hk _ _ (h.pk p hpm).1.k5)
  have c6 := cell_of_one (h.hk _ _ (h.pk p hpm).1.k6)
  obtain ⟨⟨m0, m1, _⟩, fm⟩ := h.cells
  have hil := (List.getElem?_eq_some_iff.1 hp).1
  by_cases hv : p.vis < S.pos
  · have hcall : call S (j + 1) = { S with pl := S.pl.set j { p with vis := S.pos }, reached := S.reached ++ [j] } := by simp only [call, hp]; rw [if_pos hv]
    have HV := Lib.hid (fun n => (h.below (below_drewN (Below.refl _ _) n)).setVis hp S.pos)
    have HB := Lib.hid hcall
    have HN := Lib.hid hn
    have HP := Lib.hid hp
    obtain ⟨i0, hi, hz0, hz1, hz2⟩ := info_parts infoF
    clear h hn hcall hp
    go_enter Try.func118, Try.ntmps118
    go_wp2
    go_quiet (fail)
    go_wp2
    obtain ⟨W1, hW1⟩ : ∃ W1, W1 = (w.drewN nq).setCell ⟨p.b + 7, 0, none⟩ (.int .i64 S.pos) := ⟨_, rfl⟩
    have h1 := HV.out nq
    rw [← hW1] at h1 ⊢
    have hpm1 : ({ p with vis := S.pos } : Pl) ∈ S.pl.set j { p with vis := S.pos } := List.mem_of_getElem? (by rw [List.getElem?_set_self hil])
    have e5 := cell_of_one (h1.hk _ _ (h1.pk _ hpm1).1.k5)
    have e6 := cell_of_one (h1.hk _ _ (h1.pk _ hpm1).1.k6)
    obtain ⟨⟨n0, n1, _⟩, fn⟩ := h1.cells
    have fn1 := fn 1
    have hmlt := h1.mlt
    have hq5 : p.b + 5 < W1.heap.size := blk_lt (h1.hk _ _ (h1.pk _ hpm1).1.k5)
    have hq6 : p.b + 6 < W1.heap.size := blk_lt (h1.hk _ _ (h1.pk _ hpm1).1.k6)
    have H1 := Lib.hid h1
    have HK5 := Lib.hid (h1.pk _ hpm1).1.k5
    have HK6 := Lib.hid (h1.pk _ hpm1).1.k6
    clear hW1 h1 HV fn hpm1 c7 f7 c5 c6 m0 m1 fm hpm
    have hmp5 : X.m ≠ p.b + 5 := fun e => by have := HK5.out; rw [← e, H1.out.dis.km] at this; cases this
    have hmp6 : X.m ≠ p.b + 6 := fun e => by have := HK6.out; rw [← e, H1.out.dis.km] at this; cases this
    refine wp_region_held_drew (S := fun w' => w'.cell? ⟨p.b + 5, 0, none⟩ = some (ptr X.m) ∧ w'.cell? ⟨p.b + 6, 0, none⟩ = some (visitV p.b)) (by kernel_rfl) ⟨e5, e6⟩ (fun hHeld => ?_)
    refine wpAnyH_take (i := 0) (oi := { dst := some 13, op := Op.load 97 (Operand.tmp 1), type := 97, pos := _, after := #[], guard := none }) (v := ?vp1) rfl (by kernel_rfl) (by kernel_rfl) (by kernel_rfl) (fun _ _ _ h => h) (Or.inl ⟨by rfl, ?hyp1⟩) (by assumption) ?restp1
    case hyp1 => ((intro w hSw; (try dsimp only at hSw); go_simp); try with_reducible rfl)
    case' restp1 => (try simp only [Act.put, List.setIfInBounds_toArray, List.set_cons_zero, List.set_cons_succ])
    refine wpAnyH_take (i := 1) (oi := { dst := some 14, op := Op.load 97 (Operand.tmp 1), type := 97, pos := _, after := #[], guard := none }) (v := ?vp2) rfl (by kernel_rfl) (by kernel_rfl) (by kernel_rfl) (fun _ _ _ h => h) (Or.inl ⟨by rfl, ?hyp2⟩) (by assumption) ?restp2
    case hyp2 => ((intro w hSw; (try dsimp only at hSw); go_simp); try with_reducible rfl)
    case' restp2 => (try simp only [Act.put, List.setIfInBounds_toArray, List.set_cons_zero, List.set_cons_succ])
    refine wpAnyH_take (i := 2) (oi := { dst := some 15, op := Op.nilCheck (Operand.tmp 14), type := 0, pos := _, after := #[{ on := 1, ground := Ground.data }], guard := none }) (v := ?vp3) rfl (by kernel_rfl) (by kernel_rfl) (by kernel_rfl) (fun _ _ _ h => h) (Or.inl ⟨by rfl, ?hyp3⟩) (by assumption) ?restp3
    case hyp3 => ((intro w hSw; (try dsimp only at hSw); go_simp); try with_reducible rfl)
    case' restp3 => (try simp only [Act.put, List.setIfInBounds_toArray, List.set_cons_zero, List.set_cons_succ])
    refine wpAnyH_take (i := 3) (oi := { dst := some 16, op := Op.fieldAddr 101 (Operand.tmp 15) 1, type := 0, pos := _, after := #[{ on := 2, ground := Ground.data }], guard := none }) (v := ?vp4) rfl (by kernel_rfl) (by kernel_rfl) (by kernel_rfl) (fun _ _ _ h => h) (Or.inl ⟨by rfl, ?hyp4⟩) (by assumption) ?restp4
    case hyp4 => ((intro w hSw; (try dsimp only at hSw); go_simp); try with_reducible rfl)
    case' restp4 => (try simp only [Act.put, List.setIfInBounds_toArray, List.set_cons_zero, List.set_cons_succ])
    refine wpAnyH_take (i := 5) (oi := { dst := some 18, op := Op.load 1 (Operand.tmp 2), type := 1, pos := _, after := #[], guard := none }) (v := ?vp5) rfl (by kernel_rfl) (by kernel_rfl) (by kernel_rfl) (fun _ _ _ h => h) (Or.inl ⟨by rfl, ?hyp5⟩) (by assumption) ?restp5
    case hyp5 => ((intro w hSw; (try dsimp only at hSw); go_simp); try with_reducible rfl)
    case' restp5 => (try simp only [Act.put, List.setIfInBounds_toArray, List.set_cons_zero, List.set_cons_succ])
    refine wpAnyH_ready (rs := [4, 6]) (by kernel_rfl) (by simp) ?_
    refine AllReadyH.cons (o := { dst := some 17, op := Op.load 98 (Operand.tmp 16), type := 98, pos := _, after := #[{ on := 3, ground := Ground.data }], guard := none }) rfl (fun K hK => ?_) (AllReadyH.cons (o := { dst := some 19, op := Op.buildSlice 98 1 #[(0, (Operand.tmp 18))], type := 98, pos := _, after := #[{ on := 5, ground := Ground.data }], guard := none }) rfl (fun K hK => ?_) AllReadyH.nil)
    ·
      go_simp
      refine hK.out _ _ (by go_keep) (fun hHeld2 => ?_)
      clear hK K hHeld; have hHeld := hHeld2; clear hHeld2
      (try simp only [Act.put, List.setIfInBounds_toArray, List.set_cons_zero, List.set_cons_succ])
      refine wpAnyH_ready (rs := [6]) (by kernel_rfl) (by simp) ?_
      refine AllReadyH.cons (o := { dst := some 19, op := Op.buildSlice 98 1 #[(0, (Operand.tmp 18))], type := 98, pos := _, after := #[{ on := 5, ground := Ground.data }], guard := none }) rfl (fun K hK => ?_) AllReadyH.nil
      go_simp
      refine hK.out _ _ (by go_keep) (fun hHeld2 => ?_)
      clear hK K hHeld; have hHeld := hHeld2; clear hHeld2
      (try simp only [Act.put, List.setIfInBounds_toArray, List.set_cons_zero, List.set_cons_succ])
      refine wpAnyH_ready (rs := [7]) (by kernel_rfl) (by simp) ?_
      refine AllReadyH.cons (o := { dst := some 20, op := Op.call { callee := Callee.builtin Builtin.append, args := #[Operand.tmp 17, Operand.tmp 19], argTypes := #[98, 98] }, type := 98, pos := _, after := #[{ on := 4, ground := Ground.data }, { on := 6, ground := Ground.data }], guard := none }) rfl (fun K hK => ?_) AllReadyH.nil
      refine step_fn_append rfl _ _ 98 tF i0 (by rfl) Try.underlying98 hi hz0 hz1 hz2 X.w0.heap.size S.reached.length vr _ (by rfl) (RowR.alloc H1.out.rr _) (by simp) (visitV p.b) ⟨W1.heap.size, 0, none⟩ 1 (by rfl) (cell_of_one (heap_alloc_new _ _)) (by rfl) HN.out (by have := H1.out.bel.size; simp; omega) (S.reached.length + 1) rfl ?_
      intro g' c4 w4 hrow4 hg4 hp4
      have hX4 : w4.heap[X.m]? = some (.cells #[.int .i64 S.pos, vr, vw] tS (0, 0)) := (hg4.block _ (by simp; omega) (fun e => (H1.out.dis.kr _ e.symm).2.1 rfl)).trans ((Below.heap_alloc _ _ _ hmlt).trans H1.out.hm)
      have f4 : w4.frozen? ⟨X.m, 1, none⟩ = false := frozen_of_row _ X.m 1 _ _ hX4
      have e4 : w4.cell? ⟨X.m, 1, none⟩ = some vr := by rw [cell_of_row _ X.m 1 _ _ _ hX4]; rfl
      have e7 : w4.cell? ⟨p.b + 5, 0, none⟩ = some (ptr X.m) := cell_of_one ((hg4.block _ (by simp; omega) (fun e => (by have := (H1.out.dis.kr _ e.symm).1; rw [HK5.out] at this; cases this))).trans ((Below.heap_alloc _ _ _ hq5).trans (H1.out.hk _ _ HK5.out)))
      have e8 : w4.cell? ⟨p.b + 6, 0, none⟩ = some (visitV p.b) := cell_of_one ((hg4.block _ (by simp; omega) (fun e => (by have := (H1.out.dis.kr _ e.symm).1; rw [HK6.out] at this; cases this))).trans ((Below.heap_alloc _ _ _ hq6).trans (H1.out.hk _ _ HK6.out)))
      refine hK.out _ _ ⟨e7, e8⟩ (fun hHeld2 => ?_)
      clear hK K hHeld; have hHeld := hHeld2; clear hHeld2
      (try simp only [Act.put, List.setIfInBounds_toArray, List.set_cons_zero, List.set_cons_succ])
      refine wpAnyH_take (i := 8) (oi := { dst := some 21, op := Op.nilCheck (Operand.tmp 13), type := 0, pos := _, after := #[{ on := 0, ground := Ground.data }, { on := 0, ground := Ground.phase }, { on := 1, ground := Ground.phase }, { on := 2, ground := Ground.phase }, { on := 3, ground := Ground.phase }, { on := 4, ground := Ground.phase }, { on := 5, ground := Ground.phase }, { on := 6, ground := Ground.phase }, { on := 7, ground := Ground.phase }], guard := none }) (v := ?vp6) rfl (by kernel_rfl) (by kernel_rfl) (by kernel_rfl) (fun _ _ _ h => h) (Or.inl ⟨by rfl, ?hyp6⟩) (by assumption) ?restp6
      case hyp6 => ((intro w hSw; (try dsimp only at hSw); go_simp); try with_reducible rfl)
      case' restp6 => (try simp only [Act.put, List.setIfInBounds_toArray, List.set_cons_zero, List.set_cons_succ])
      refine wpAnyH_take (i := 9) (oi := { dst := some 22, op := Op.fieldAddr 101 (Operand.tmp 21) 1, type := 0, pos := _, after := #[{ on := 8, ground := Ground.data }, { on := 0, ground := Ground.phase }, { on := 1, ground := Ground.phase }, { on := 2, ground := Ground.phase }, { on := 3, ground := Ground.phase }, { on := 4, ground := Ground.phase }, { on := 5, ground := Ground.phase }, { on := 6, ground := Ground.phase }, { on := 7, ground := Ground.phase }], guard := none }) (v := ?vp7) rfl (by kernel_rfl) (by kernel_rfl) (by kernel_rfl) (fun _ _ _ h => h) (Or.inl ⟨by rfl, ?hyp7⟩) (by assumption) ?restp7
      case hyp7 => ((intro w hSw; (try dsimp only at hSw); go_simp); try with_reducible rfl)
      case' restp7 => (try simp only [Act.put, List.setIfInBounds_toArray, List.set_cons_zero, List.set_cons_succ])
      refine wpAnyH_ready (rs := [10]) (by kernel_rfl) (by simp) ?_
      refine AllReadyH.cons (o := { dst := none, op := Op.store 98 (Operand.tmp 22) (Operand.tmp 20), type := 0, pos := _, after := #[{ on := 9, ground := Ground.data }, { on := 7, ground := Ground.data }, { on := 7, ground := Ground.chain }, { on := 0, ground := Ground.phase }, { on := 1, ground := Ground.phase }, { on := 2, ground := Ground.phase }, { on := 3, ground := Ground.phase }, { on := 4, ground := Ground.phase }, { on := 5, ground := Ground.phase }, { on := 6, ground := Ground.phase }, { on := 7, ground := Ground.phase }], guard := none }) rfl (fun K hK => ?_) AllReadyH.nil
      go_simp
      refine hK.out _ _ (by go_keep) (fun hHeld2 => ?_)
      clear hK K hHeld; have hHeld := hHeld2; clear hHeld2
      (try simp only [Act.put, List.setIfInBounds_toArray, List.set_cons_zero, List.set_cons_succ])
      refine wpAnyH_done (by kernel_rfl) ?_ _
      have HF : Hid (CallP X K vw cs S (j + 1) (.returned (.tuple #[])) (w4.setCell ⟨X.m, 1, none⟩ (.slice (some ⟨g', 0, none⟩) (S.reached.length + 1) c4))) := Lib.hid (by
        refine ⟨rfl, .slice (some ⟨g', 0, none⟩) (S.reached.length + 1) c4, ?_⟩
        rw [HB.out]
        refine (H1.out.below (w' := (W1.alloc (.cells #[visitV p.b] tF)).drew) (below_al (Below.refl _ _) _).drew).setReached (R := S.reached ++ [j]) hg4 ?_ (fun g e => ?_) (fun i hi => ?_)
        · show RowV tF X.w0.heap.size w4 _ ((S.reached ++ [j]).map fun i => visitV (bOf (S.pl.set j { p with vis := S.pos }) i))
          rw [List.map_append, List.map_singleton, bOf_eq (L := S.pl.set j { p with vis := S.pos }) (j := j) (p := { p with vis := S.pos }) (List.getElem?_set_self hil)]
          exact hrow4
        · have e' : some g' = some g := e
          rcases hp4 with h1 | h1
          · exact .inl (h1.symm.trans e')
          · exact .inr (by have := Option.some.inj e'; simp at h1 ⊢; omega)
        · rcases List.mem_append.1 hi with h1 | h1
          · exact H1.out.rl i h1
          · rw [List.mem_singleton.1 h1]; show j < (S.pl.set j _).length; rw [List.length_set]; exact hil)
      clear hrow4 hg4 hp4 hX4 f4 e4 e7 e8
      go_wp2
      go_end0
      exact HF.out
    ·
      go_simp
      refine hK.out _ _ (by go_keep) (fun hHeld2 => ?_)
      clear hK K hHeld; have hHeld := hHeld2; clear hHeld2
      (try simp only [Act.put, List.setIfInBounds_toArray, List.set_cons_zero, List.set_cons_succ])
      refine wpAnyH_ready (rs := [4]) (by kernel_rfl) (by simp) ?_
      refine AllReadyH.cons (o := { dst := some 17, op := Op.load 98 (Operand.tmp 16), type := 98, pos := _, after := #[{ on := 3, ground := Ground.data }], guard := none }) rfl (fun K hK => ?_) AllReadyH.nil
      go_simp
      refine hK.out _ _ (by go_keep) (fun hHeld2 => ?_)
      clear hK K hHeld; have hHeld := hHeld2; clear hHeld2
      (try simp only [Act.put, List.setIfInBounds_toArray, List.set_cons_zero, List.set_cons_succ])
      refine wpAnyH_ready (rs := [7]) (by kernel_rfl) (by simp) ?_
      refine AllReadyH.cons (o := { dst := some 20, op := Op.call { callee := Callee.builtin Builtin.append, args := #[Operand.tmp 17, Operand.tmp 19], argTypes := #[98, 98] }, type := 98, pos := _, after := #[{ on := 4, ground := Ground.data }, { on := 6, ground := Ground.data }], guard := none }) rfl (fun K hK => ?_) AllReadyH.nil
      refine step_fn_append rfl _ _ 98 tF i0 (by rfl) Try.underlying98 hi hz0 hz1 hz2 X.w0.heap.size S.reached.length vr _ (by rfl) (RowR.alloc H1.out.rr _) (by simp) (visitV p.b) ⟨W1.heap.size, 0, none⟩ 1 (by rfl) (cell_of_one (heap_alloc_new _ _)) (by rfl) HN.out (by have := H1.out.bel.size; simp; omega) (S.reached.length + 1) rfl ?_
      intro g' c4 w4 hrow4 hg4 hp4
      have hX4 : w4.heap[X.m]? = some (.cells #[.int .i64 S.pos, vr, vw] tS (0, 0)) := (hg4.block _ (by simp; omega) (fun e => (H1.out.dis.kr _ e.symm).2.1 rfl)).trans ((Below.heap_alloc _ _ _ hmlt).trans H1.out.hm)
      have f4 : w4.frozen? ⟨X.m, 1, none⟩ = false := frozen_of_row _ X.m 1 _ _ hX4
      have e4 : w4.cell? ⟨X.m, 1, none⟩ = some vr := by rw [cell_of_row _ X.m 1 _ _ _ hX4]; rfl
      have e7 : w4.cell? ⟨p.b + 5, 0, none⟩ = some (ptr X.m) := cell_of_one ((hg4.block _ (by simp; omega) (fun e => (by have := (H1.out.dis.kr _ e.symm).1; rw [HK5.out] at this; cases this))).trans ((Below.heap_alloc _ _ _ hq5).trans (H1.out.hk _ _ HK5.out)))
      have e8 : w4.cell? ⟨p.b + 6, 0, none⟩ = some (visitV p.b) := cell_of_one ((hg4.block _ (by simp; omega) (fun e => (by have := (H1.out.dis.kr _ e.symm).1; rw [HK6.out] at this; cases this))).trans ((Below.heap_alloc _ _ _ hq6).trans (H1.out.hk _ _ HK6.out)))
      refine hK.out _ _ ⟨e7, e8⟩ (fun hHeld2 => ?_)
      clear hK K hHeld; have hHeld := hHeld2; clear hHeld2
      (try simp only [Act.put, List.setIfInBounds_toArray, List.set_cons_zero, List.set_cons_succ])
      refine wpAnyH_take (i := 8) (oi := { dst := some 21, op := Op.nilCheck (Operand.tmp 13), type := 0, pos := _, after := #[{ on := 0, ground := Ground.data }, { on := 0, ground := Ground.phase }, { on := 1, ground := Ground.phase }, { on := 2, ground := Ground.phase }, { on := 3, ground := Ground.phase }, { on := 4, ground := Ground.phase }, { on := 5, ground := Ground.phase }, { on := 6, ground := Ground.phase }, { on := 7, ground := Ground.phase }], guard := none }) (v := ?vp8) rfl (by kernel_rfl) (by kernel_rfl) (by kernel_rfl) (fun _ _ _ h => h) (Or.inl ⟨by rfl, ?hyp8⟩) (by assumption) ?restp8
      case hyp8 => ((intro w hSw; (try dsimp only at hSw); go_simp); try with_reducible rfl)
      case' restp8 => (try simp only [Act.put, List.setIfInBounds_toArray, List.set_cons_zero, List.set_cons_succ])
      refine wpAnyH_take (i := 9) (oi := { dst := some 22, op := Op.fieldAddr 101 (Operand.tmp 21) 1, type := 0, pos := _, after := #[{ on := 8, ground := Ground.data }, { on := 0, ground := Ground.phase }, { on := 1, ground := Ground.phase }, { on := 2, ground := Ground.phase }, { on := 3, ground := Ground.phase }, { on := 4, ground := Ground.phase }, { on := 5, ground := Ground.phase }, { on := 6, ground := Ground.phase }, { on := 7, ground := Ground.phase }], guard := none }) (v := ?vp9) rfl (by kernel_rfl) (by kernel_rfl) (by kernel_rfl) (fun _ _ _ h => h) (Or.inl ⟨by rfl, ?hyp9⟩) (by assumption) ?restp9
      case hyp9 => ((intro w hSw; (try dsimp only at hSw); go_simp); try with_reducible rfl)
      case' restp9 => (try simp only [Act.put, List.setIfInBounds_toArray, List.set_cons_zero, List.set_cons_succ])
      refine wpAnyH_ready (rs := [10]) (by kernel_rfl) (by simp) ?_
      refine AllReadyH.cons (o := { dst := none, op := Op.store 98 (Operand.tmp 22) (Operand.tmp 20), type := 0, pos := _, after := #[{ on := 9, ground := Ground.data }, { on := 7, ground := Ground.data }, { on := 7, ground := Ground.chain }, { on := 0, ground := Ground.phase }, { on := 1, ground := Ground.phase }, { on := 2, ground := Ground.phase }, { on := 3, ground := Ground.phase }, { on := 4, ground := Ground.phase }, { on := 5, ground := Ground.phase }, { on := 6, ground := Ground.phase }, { on := 7, ground := Ground.phase }], guard := none }) rfl (fun K hK => ?_) AllReadyH.nil
      go_simp
      refine hK.out _ _ (by go_keep) (fun hHeld2 => ?_)
      clear hK K hHeld; have hHeld := hHeld2; clear hHeld2
      (try simp only [Act.put, List.setIfInBounds_toArray, List.set_cons_zero, List.set_cons_succ])
      refine wpAnyH_done (by kernel_rfl) ?_ _
      have HF : Hid (CallP X K vw cs S (j + 1) (.returned (.tuple #[])) (w4.setCell ⟨X.m, 1, none⟩ (.slice (some ⟨g', 0, none⟩) (S.reached.length + 1) c4))) := Lib.hid (by
        refine ⟨rfl, .slice (some ⟨g', 0, none⟩) (S.reached.length + 1) c4, ?_⟩
        rw [HB.out]
        refine (H1.out.below (w' := (W1.alloc (.cells #[visitV p.b] tF)).drew) (below_al (Below.refl _ _) _).drew).setReached (R := S.reached ++ [j]) hg4 ?_ (fun g e => ?_) (fun i hi => ?_)
        · show RowV tF X.w0.heap.size w4 _ ((S.reached ++ [j]).map fun i => visitV (bOf (S.pl.set j { p with vis := S.pos }) i))
          rw [List.map_append, List.map_singleton, bOf_eq (L := S.pl.set j { p with vis := S.pos }) (j := j) (p := { p with vis := S.pos }) (List.getElem?_set_self hil)]
          exact hrow4
        · have e' : some g' = some g := e
          rcases hp4 with h1 | h1
          · exact .inl (h1.symm.trans e')
          · exact .inr (by have := Option.some.inj e'; simp at h1 ⊢; omega)
        · rcases List.mem_append.1 hi with h1 | h1
          · exact H1.out.rl i h1
          · rw [List.mem_singleton.1 h1]; show j < (S.pl.set j _).length; rw [List.length_set]; exact hil)
      clear hrow4 hg4 hp4 hX4 f4 e4 e7 e8
      go_wp2
      go_end0
      exact HF.out
  · have hcall : call S (j + 1) = S := by simp only [call, hp]; rw [if_neg hv]
    have HR : Hid (∀ n, CallP X K vw cs S (j + 1) (.returned (.tuple #[])) (w.drewN n)) := Lib.hid fun n => ⟨rfl, vr, by rw [hcall]; exact h.below (below_drewN (Below.refl _ _) n)⟩
    clear h hcall hn
    go_enter Try.func118, Try.ntmps118
    go_wp2
    go_quiet (fail)
    go_wp2
    go_end0
    exact HR.out _
end
end Go.Proofs.Ytnpgeneahjlkpaa
