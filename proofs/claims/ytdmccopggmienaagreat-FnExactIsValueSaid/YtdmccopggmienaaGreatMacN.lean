/- MERGED for a claim: MacA MacB MacC MacD MacE MacF MacG MacH MacI MacJ MacK MacL MacM MacN. -/
import Derived.Test.YtdmccopggmienaaGreatMatC
import Derived.Test.YtdmccopggmienaaGreatPatF
import Derived.Test.YtdmccopggmienaaGreatMatZ
import Derived.RangeFuncNested
import Derived.RangeFuncBound
import Derived.RangeFuncCalls
import Derived.RangeFuncLeaves
import Derived.Shelf.Abstract
import Derived.Deep.RegionLaw
import Derived.Deep.RegionHeld3
import Derived.Deep.RegionHeldLaw
import Derived.Test.YtdmccopggmienaaGreatShelf
import Derived.Laws.EntriesVeiled
import Derived.RangeFuncBox
import Derived.Shelf.RegionOpen
import Derived.OwnWalkIn
import Derived.TacticsInMore
import Derived.LoopNIn
import Derived.LoopIn
import Derived.Deep.LoopGhost
set_option linter.unusedVariables false
set_option linter.unusedSimpArgs false
/- CHAPTER 5, PLAIN MATHEMATICS: places of a pattern, where they lead, and what is said of a text by the places that are called. No function is spoken of. -/
namespace Go.Proofs.YtdmccopggmienaaGreat
open Go.RowKit

/-- what the visit of a place does: it waits for a byte, or it calls some ways -/
inductive Vs where
  | wait
  | ways (l : List Nat)
/-- a place: the pattern before which it stands (e: no deeper than that; r: its record); where it leads (0: the end; j + 1: the place j); where it lies; when it was last visited; what its visit does -/
structure Pl where
  t : Pat
  e : Nat
  r : PatR
  nx : Nat
  b : Nat
  vis : Int
  sh : Option Vs
/-- patterns no deeper than that -/
def DeepL : Nat → List Pat → Prop
  | 0, l => l = []
  | e + 1, l => ∀ t, t ∈ l → DeepL e t.kids
theorem mt_deepL (s : ByteArray) : ∀ (d : Nat) (t : Pat) (e : Nat), DeepL d t.kids → d ≤ e → Mt s e t = Mt s d t
  | 0, t, e, hf, _ => by
    rw [mt_step, mt_step]
    have hk : t.kids = [] := hf
    exact stepM_congr (fun k h => by rw [hk] at h; cases h)
  | d + 1, t, e, hf, he => by
    obtain ⟨e', rfl⟩ : ∃ e', e = e' + 1 := ⟨e - 1, by omega⟩
    rw [mt_step, mt_step]
    exact stepM_congr (fun k h => mt_deepL s d k e' (hf k h) (by omega))
theorem m_step (s : ByteArray) {D d : Nat} {t : Pat} (hf : DeepL d t.kids) (hd : d ≤ D) : Mt s D t = StepM s (Mt s D) t := by
  rw [mt_step]
  refine stepM_congr fun k h => ?_
  cases d with
  | zero => have hk : t.kids = [] := hf; rw [hk] at h; cases h
  | succ d =>
    obtain ⟨D', rfl⟩ : ∃ D', D = D' + 1 := ⟨D - 1, by omega⟩
    show Mt s D' k = Mt s (D' + 1) k
    rw [mt_deepL s d k D' (hf k h) (by omega), mt_deepL s d k (D' + 1) (hf k h) (by omega)]
theorem rd_deep {w : World} : ∀ {d : Nat} {v : Value} {l : List Pat}, RdL patK d w v l → DeepL d l
  | 0, _, _, h => h.1
  | d + 1, _, l, ⟨R, _, h2, h3⟩ => fun t ht => by
    obtain ⟨i, hi, rfl⟩ := List.getElem_of_mem ht
    exact rd_deep (h3 i (by rw [h2]; exact hi) hi).2
namespace Mac
/-- the ref r leads through the patterns l to the ref n -/
def Leads (L : List Pl) : Nat → List Pat → Nat → Prop
  | r, [], n => r = n
  | r, k :: ks, n => ∃ (j : Nat) (p : Pl), r = j + 1 ∧ L[j]? = some p ∧ p.t = k ∧ Leads L p.nx ks n
/-- a star's or a maybe's way into its only kid, and behind -/
def Tries (L : List Pl) (l : List Pat) (behind n : Nat) (sh : Vs) : Prop :=
  match l with
  | [k] => ∃ r, sh = .ways [r, n] ∧ Leads L r [k] behind
  | _ => sh = .ways [n]
def Shaped (L : List Pl) (i : Nat) (p : Pl) (sh : Vs) : Prop :=
  (p.t.x.op = 1 → sh = .wait) ∧ (p.t.x.op = 2 → ∃ r, sh = .ways [r] ∧ Leads L r p.t.kids p.nx) ∧
  (p.t.x.op = 3 → ∃ l, sh = .ways l ∧ l.length = p.t.kids.length ∧ ∀ q (h : q < l.length) (h' : q < p.t.kids.length), Leads L l[q] [p.t.kids[q]] p.nx) ∧
  (p.t.x.op = 4 → Tries L p.t.kids (i + 1) p.nx sh) ∧ (p.t.x.op = 5 → Tries L p.t.kids p.nx p.nx sh) ∧
  (p.t.x.op ≠ 1 → p.t.x.op ≠ 2 → p.t.x.op ≠ 3 → p.t.x.op ≠ 4 → p.t.x.op ≠ 5 → sh = .ways [])
/-- L' knows all places of L, with the same patterns and ends -/
def Ext (L L' : List Pl) : Prop := ∀ (i : Nat) (p : Pl), L[i]? = some p → ∃ p', L'[i]? = some p' ∧ p'.t = p.t ∧ p'.nx = p.nx
theorem Ext.refl (L : List Pl) : Ext L L := fun _ p h => ⟨p, h, rfl, rfl⟩
theorem Ext.trans {L L' L'' : List Pl} (h : Ext L L') (h' : Ext L' L'') : Ext L L'' := fun i p hp => by
  obtain ⟨p', h1, h2, h3⟩ := h i p hp
  obtain ⟨p'', h4, h5, h6⟩ := h' i p' h1
  exact ⟨p'', h4, h5.trans h2, h6.trans h3⟩
theorem ext_append (L N : List Pl) : Ext L (L ++ N) := fun i p hp => ⟨p, by rw [List.getElem?_append_left (List.getElem?_eq_some_iff.1 hp).1]; exact hp, rfl, rfl⟩
theorem ext_set {L : List Pl} {i : Nat} {p q : Pl} (h : L[i]? = some p) (ht : q.t = p.t) (hn : q.nx = p.nx) : Ext L (L.set i q) := fun j x hx => by
  by_cases e : i = j
  · subst e
    rw [h] at hx; cases hx
    exact ⟨q, by rw [List.getElem?_set_self (List.getElem?_eq_some_iff.1 h).1], ht, hn⟩
  · exact ⟨x, by rw [List.getElem?_set_ne e]; exact hx, rfl, rfl⟩
theorem Leads.ext {L L' : List Pl} (he : Ext L L') : ∀ {l : List Pat} {r n : Nat}, Leads L r l n → Leads L' r l n
  | [], _, _, h => h
  | _ :: _, _, _, ⟨j, p, h1, h2, h3, h4⟩ => by
    obtain ⟨p', g1, g2, g3⟩ := he j p h2
    exact ⟨j, p', h1, g1, g2.trans h3, by rw [g3]; exact Leads.ext he h4⟩
theorem Tries.ext {L L' : List Pl} (he : Ext L L') {l : List Pat} {b n : Nat} {sh : Vs} (h : Tries L l b n sh) : Tries L' l b n sh := by
  unfold Tries at h ⊢
  split
  · obtain ⟨r, a, b⟩ := h; exact ⟨r, a, b.ext he⟩
  · rename_i hk
    split at h
    · exact absurd rfl (hk _)
    · exact h
theorem Shaped.ext {L L' : List Pl} (he : Ext L L') {i : Nat} {p p' : Pl} (ht : p'.t = p.t) (hn : p'.nx = p.nx) {sh : Vs} (h : Shaped L i p sh) : Shaped L' i p' sh := by
  obtain ⟨h1, h2, h3, h4, h5, h6⟩ := h
  unfold Shaped
  rw [ht, hn]
  refine ⟨h1, fun c => ?_, fun c => ?_, fun c => (h4 c).ext he, fun c => (h5 c).ext he, h6⟩
  · obtain ⟨r, a, b⟩ := h2 c; exact ⟨r, a, b.ext he⟩
  · obtain ⟨l, a, b, c'⟩ := h3 c; exact ⟨l, a, b, fun q x y => (c' q x y).ext he⟩
theorem Leads.le {L : List Pl} : ∀ {l : List Pat} {r n : Nat}, Leads L r l n → n ≤ L.length → r ≤ L.length
  | [], _, _, h, hn => by rw [show _ = _ from h]; exact hn
  | _ :: _, _, _, ⟨j, p, h1, h2, _, _⟩, _ => by have := (List.getElem?_eq_some_iff.1 h2).1; omega
/-- from the ref r at k a text of all that follows ends at j -/
inductive Path (s : ByteArray) (D : Nat) (L : List Pl) : Nat → Nat → Nat → Prop
  | fin (k : Nat) : Path s D L 0 k k
  | via {i k m j : Nat} {p : Pl} (h : L[i]? = some p) (hm : Mt s D p.t k m) (hp : Path s D L p.nx m j) : Path s D L (i + 1) k j
/-- each place leads to an earlier one -/
def Ord (L : List Pl) : Prop := ∀ (i : Nat) (p : Pl), L[i]? = some p → p.nx ≤ i
theorem Path.back {s : ByteArray} {D : Nat} {L L' : List Pl} (ho : Ord L) (he : Ext L L') {r k j : Nat} (h : Path s D L' r k j) : r ≤ L.length → Path s D L r k j := by
  induction h with
  | fin k => intro _; exact .fin k
  | @via i k m j p' h hm _ ih =>
    intro hr
    obtain ⟨p, hp⟩ : ∃ p, L[i]? = some p := ⟨L[i], List.getElem?_eq_getElem (by omega)⟩
    obtain ⟨q, g1, g2, g3⟩ := he i p hp
    rw [h] at g1; cases g1
    have hi := ho i p hp
    have hil := (List.getElem?_eq_some_iff.1 hp).1
    refine .via hp (by rw [← g2]; exact hm) ?_
    rw [← g3]
    exact ih (by rw [g3]; omega)
theorem path_leads {s : ByteArray} {D : Nat} {L : List Pl} : ∀ {l : List Pat} {r n k j : Nat}, Leads L r l n → Path s D L r k j → ∃ m, SeqR (Mt s D) l k m ∧ Path s D L n m j
  | [], _, _, k, _, h, hp => ⟨k, rfl, by rw [← show _ = _ from h]; exact hp⟩
  | t :: ks, _, _, _, _, ⟨i, p, h1, h2, h3, h4⟩, hp => by
    subst h1
    cases hp with
    | via h hm hp' =>
      rw [h] at h2; cases h2
      obtain ⟨m, g1, g2⟩ := path_leads h4 hp'
      exact ⟨m, ⟨_, by rw [← h3]; exact hm, g1⟩, g2⟩
section
variable {s : ByteArray} {D : Nat} {L : List Pl} {i : Nat} {p : Pl}
theorem stepM_star {t : Pat} {R : Pat → Nat → Nat → Prop} {k : Pat} (h : t.x.op = 4) (hk : t.kids = [k]) (a b : Nat) : StepM s R t a b ↔ Rtc (R k) a b := by
  unfold StepM; rw [if_neg (by omega), if_neg (by omega), if_neg (by omega), if_pos h, hk]
theorem stepM_maybe {t : Pat} {R : Pat → Nat → Nat → Prop} {k : Pat} (h : t.x.op = 5) (hk : t.kids = [k]) (a b : Nat) : StepM s R t a b ↔ (a = b ∨ R k a b) := by
  unfold StepM; rw [if_neg (by omega), if_neg (by omega), if_neg (by omega), if_neg (by omega), if_pos h, hk]
theorem stepM_skip {t : Pat} {R : Pat → Nat → Nat → Prop} (h : t.x.op = 4 ∨ t.x.op = 5) (hk : ∀ k, t.kids ≠ [k]) (a b : Nat) : StepM s R t a b ↔ a = b := by
  unfold StepM
  rcases h with h | h
  · rw [if_neg (by omega), if_neg (by omega), if_neg (by omega), if_pos h]
    split
    · rename_i k e; exact absurd e (hk k)
    · exact Iff.rfl
  · rw [if_neg (by omega), if_neg (by omega), if_neg (by omega), if_neg (by omega), if_pos h]
    split
    · rename_i k e; exact absurd e (hk k)
    · exact Iff.rfl
theorem stepM_seq {t : Pat} {R : Pat → Nat → Nat → Prop} (h : t.x.op = 2) (a b : Nat) : StepM s R t a b ↔ SeqR R t.kids a b := by
  unfold StepM; rw [if_neg (by omega), if_pos h]
theorem stepM_alt {t : Pat} {R : Pat → Nat → Nat → Prop} (h : t.x.op = 3) (a b : Nat) : StepM s R t a b ↔ ∃ k, k ∈ t.kids ∧ R k a b := by
  unfold StepM; rw [if_neg (by omega), if_neg (by omega), if_pos h]
theorem stepM_chars {t : Pat} {R : Pat → Nat → Nat → Prop} (h : t.x.op = 1) (a b : Nat) : StepM s R t a b ↔ ChAt s t.x.text a ∧ b = a + 1 := by
  unfold StepM; rw [if_pos h]
theorem stepM_other {t : Pat} {R : Pat → Nat → Nat → Prop} (h1 : t.x.op ≠ 1) (h2 : t.x.op ≠ 2) (h3 : t.x.op ≠ 3) (h4 : t.x.op ≠ 4) (h5 : t.x.op ≠ 5) (a b : Nat) : ¬ StepM s R t a b := by
  unfold StepM; rw [if_neg h1, if_neg h2, if_neg h3, if_neg h4, if_neg h5]; exact id
theorem op_cases (n : Int) : n = 1 ∨ n = 2 ∨ n = 3 ∨ n = 4 ∨ n = 5 ∨ (n ≠ 1 ∧ n ≠ 2 ∧ n ≠ 3 ∧ n ≠ 4 ∧ n ≠ 5) := by omega
theorem sound_wait (hp : L[i]? = some p) (hd : DeepL p.e p.t.kids) (he : p.e ≤ D) (h1 : p.t.x.op = 1) {k j : Nat} (hc : ChAt s p.t.x.text k) (hq : Path s D L p.nx (k + 1) j) : Path s D L (i + 1) k j :=
  .via hp (by rw [m_step s hd he]; exact (stepM_chars h1 _ _).2 ⟨hc, rfl⟩) hq
theorem sound_ways (hp : L[i]? = some p) (hd : DeepL p.e p.t.kids) (he : p.e ≤ D) {l : List Nat} (hs : Shaped L i p (.ways l)) {r k j : Nat} (hr : r ∈ l) (hq : Path s D L r k j) : Path s D L (i + 1) k j := by
  have hM := m_step s hd he
  have skip : ∀ m, Path s D L p.nx m j → Mt s D p.t k m → Path s D L (i + 1) k j := fun m a b => .via hp b a
  have tries : ∀ b, Tries L p.t.kids b p.nx (.ways l) → (∀ k', p.t.kids = [k'] → ∀ m, Mt s D k' k m → Path s D L b m j → Path s D L (i + 1) k j) → (Mt s D p.t k k) → Path s D L (i + 1) k j := fun b ht hk h0 => by
    unfold Tries at ht
    split at ht
    · rename_i k' e
      obtain ⟨r', e', hl⟩ := ht
      cases e'
      rcases List.mem_cons.1 hr with rfl | hr
      · obtain ⟨m, ⟨m', g1, g2⟩, g3⟩ := path_leads hl hq
        have g2' : m' = m := g2
        subst g2'
        exact hk k' e m' g1 g3
      · rw [List.mem_singleton.1 hr] at hq; exact skip k hq h0
    · cases ht
      rw [List.mem_singleton.1 hr] at hq; exact skip k hq h0
  obtain ⟨c1, c2, c3, c4, c5, c6⟩ := hs
  rcases op_cases p.t.x.op with h | h | h | h | h | ⟨h1, h2, h3, h4, h5⟩
  · cases c1 h
  · obtain ⟨r', e', hl⟩ := c2 h
    cases e'
    rw [List.mem_singleton.1 hr] at hq
    obtain ⟨m, g1, g2⟩ := path_leads hl hq
    exact skip m g2 (by rw [hM]; exact (stepM_seq h _ _).2 g1)
  · obtain ⟨l', e', hl, hL⟩ := c3 h
    cases e'
    obtain ⟨q, hq1, rfl⟩ := List.getElem_of_mem hr
    obtain ⟨m, ⟨m', g1, g2⟩, g3⟩ := path_leads (hL q hq1 (by omega)) hq
    have g2' : m' = m := g2
    subst g2'
    exact skip m' g3 (by rw [hM]; exact (stepM_alt h _ _).2 ⟨_, List.getElem_mem (by omega), g1⟩)
  · refine tries (i + 1) (c4 h) (fun k' e m g1 g3 => ?_) (by
      rw [hM]
      by_cases hk : ∃ k', p.t.kids = [k']
      · obtain ⟨k', hk⟩ := hk; exact (stepM_star h hk _ _).2 (.refl _)
      · exact (stepM_skip (.inl h) (fun k' hh => hk ⟨k', hh⟩) _ _).2 rfl)
    cases g3 with
    | via hp' hm' hp'' =>
      rw [hp] at hp'; cases hp'
      refine skip _ hp'' ?_
      rw [hM] at hm' ⊢
      exact (stepM_star h e _ _).2 (.step g1 ((stepM_star h e _ _).1 hm'))
  · refine tries p.nx (c5 h) (fun k' e m g1 g3 => skip m g3 (by rw [hM]; exact (stepM_maybe h e _ _).2 (.inr g1))) (by
      rw [hM]
      by_cases hk : ∃ k', p.t.kids = [k']
      · obtain ⟨k', hk⟩ := hk; exact (stepM_maybe h hk _ _).2 (.inl rfl)
      · exact (stepM_skip (.inr h) (fun k' hh => hk ⟨k', hh⟩) _ _).2 rfl)
  · have := c6 h1 h2 h3 h4 h5
    cases this
    cases hr
/-- what is called is closed: what a called place does has been done -/
def Closed (s : ByteArray) (L : List Pl) (H : Nat → Nat → Prop) : Prop := ∀ (i : Nat) (p : Pl) (k : Nat), L[i]? = some p → H (i + 1) k → ∃ sh, Shaped L i p sh ∧ (sh = .wait → ChAt s p.t.x.text k → H p.nx (k + 1)) ∧ (∀ l, sh = .ways l → ∀ r, r ∈ l → H r k)
theorem leads_compl {H : Nat → Nat → Prop} {R : Pat → Nat → Nat → Prop} : ∀ {l : List Pat} {r n k m : Nat}, (∀ t, t ∈ l → ∀ j q k m, L[j]? = some q → q.t = t → R t k m → H (j + 1) k → H q.nx m) → Leads L r l n → SeqR R l k m → H r k → H n m
  | [], _, _, _, _, _, hl, hs, h => by rw [← show _ = _ from hl, ← show _ = _ from hs]; exact h
  | t :: ks, _, _, _, _, ih, ⟨j, q, h1, h2, h3, h4⟩, ⟨k', g1, g2⟩, h => by
    subst h1
    exact leads_compl (fun t ht => ih t (by simp [ht])) h4 g2 (ih t (by simp) j q _ _ h2 h3 g1 h)
theorem compl_step {H : Nat → Nat → Prop} {R : Pat → Nat → Nat → Prop} (hc : Closed s L H) (i : Nat) (p : Pl) (k m : Nat) (hp : L[i]? = some p)
    (ih : ∀ t, t ∈ p.t.kids → ∀ j q k m, L[j]? = some q → q.t = t → R t k m → H (j + 1) k → H q.nx m) (hm : StepM s R p.t k m) (hh : H (i + 1) k) : H p.nx m := by
  have tries : ∀ b a, Tries L p.t.kids b p.nx a → ∀ q, (∀ l, a = .ways l → ∀ r, r ∈ l → H r q) → H p.nx q ∧ ∀ k' m', p.t.kids = [k'] → R k' q m' → H b m' := fun b a ht q hw => by
    unfold Tries at ht
    split at ht
    · rename_i k' e
      obtain ⟨r, rfl, hl⟩ := ht
      refine ⟨hw _ rfl _ (by simp), fun k'' m' e' hr => ?_⟩
      obtain rfl : k' = k'' := by rw [e] at e'; cases e'; rfl
      exact leads_compl (l := [k']) (R := R) (fun t ht => ih t (by rw [e]; exact ht)) hl ⟨m', hr, rfl⟩ (hw _ rfl r (by simp))
    · rename_i hk
      subst ht
      exact ⟨hw _ rfl _ (by simp), fun k'' m' e' => absurd e' (hk k'')⟩
  rcases op_cases p.t.x.op with h | h | h | h | h | ⟨h1, h2, h3, h4, h5⟩
  · obtain ⟨sh, hs, hw, _⟩ := hc i p k hp hh
    obtain ⟨g1, rfl⟩ := (stepM_chars h _ _).1 hm
    exact hw (hs.1 h) g1
  · obtain ⟨sh, hs, _, hw⟩ := hc i p k hp hh
    obtain ⟨r, rfl, hl⟩ := hs.2.1 h
    exact leads_compl ih hl ((stepM_seq h _ _).1 hm) (hw _ rfl r (by simp))
  · obtain ⟨sh, hs, _, hw⟩ := hc i p k hp hh
    obtain ⟨l, rfl, hl, hL⟩ := hs.2.2.1 h
    obtain ⟨t, ht, hr⟩ := (stepM_alt h _ _).1 hm
    obtain ⟨q, hq, rfl⟩ := List.getElem_of_mem ht
    exact leads_compl (l := [p.t.kids[q]]) (R := R) (fun t ht => ih t (by rw [List.mem_singleton.1 ht]; exact List.getElem_mem hq)) (hL q (by omega) hq) ⟨m, hr, rfl⟩ (hw _ rfl _ (List.getElem_mem (by omega)))
  · have main : ∀ a b, (a = b ∨ ∃ k', p.t.kids = [k'] ∧ Rtc (R k') a b) → H (i + 1) a → H p.nx b := by
      rintro a b (rfl | ⟨k', hk, hr⟩) ha
      · obtain ⟨sh, hs, _, hw⟩ := hc i p a hp ha
        exact (tries _ _ (hs.2.2.2.1 h) a hw).1
      · induction hr with
        | refl a =>
          obtain ⟨sh, hs, _, hw⟩ := hc i p a hp ha
          exact (tries _ _ (hs.2.2.2.1 h) a hw).1
        | @step a b c hr _ ihr =>
          obtain ⟨sh, hs, _, hw⟩ := hc i p a hp ha
          exact ihr ((tries _ _ (hs.2.2.2.1 h) a hw).2 k' b hk hr)
    refine main k m ?_ hh
    by_cases hk : ∃ k', p.t.kids = [k']
    · obtain ⟨k', hk⟩ := hk; exact .inr ⟨k', hk, (stepM_star h hk _ _).1 hm⟩
    · exact .inl ((stepM_skip (.inl h) (fun k' hh => hk ⟨k', hh⟩) _ _).1 hm)
  · obtain ⟨sh, hs, _, hw⟩ := hc i p k hp hh
    have ht := tries _ _ (hs.2.2.2.2.1 h) k hw
    by_cases hk : ∃ k', p.t.kids = [k']
    · obtain ⟨k', hk⟩ := hk
      rcases (stepM_maybe h hk _ _).1 hm with rfl | hr
      · exact ht.1
      · exact ht.2 k' m hk hr
    · have e := (stepM_skip (.inr h) (fun k' hh => hk ⟨k', hh⟩) _ _).1 hm
      rw [← e]; exact ht.1
  · exact absurd hm (stepM_other h1 h2 h3 h4 h5 _ _)
theorem compl {H : Nat → Nat → Prop} (hc : Closed s L H) : ∀ (e i : Nat) (p : Pl) (k m : Nat), L[i]? = some p → DeepL e p.t.kids → Mt s e p.t k m → H (i + 1) k → H p.nx m
  | 0, i, p, k, m, hp, hd, hm, hh => compl_step hc i p k m hp (fun t ht => by rw [show p.t.kids = [] from hd] at ht; cases ht) hm hh
  | e + 1, i, p, k, m, hp, hd, hm, hh => compl_step hc i p k m hp (fun t ht j q k m hq e' hr hj => by subst e'; exact compl hc e j q k m hq (hd _ ht) hr hj) hm hh
end
/-- what is called at k only if a text of T leads there -/
def GoodM (s : ByteArray) (D : Nat) (T : Pat) (L : List Pl) (r k : Nat) : Prop := ∀ j, Path s D L r k j → Mt s D T 0 j
end Mac
end Go.Proofs.YtdmccopggmienaaGreat

/- CHAPTER 5, PLAIN MATHEMATICS: the machine: what is called, visited, waited for; what holds all the way, and what it says at the end. No function is spoken of. -/
namespace Go.Proofs.YtdmccopggmienaaGreat
open Go.RowKit

structure Mc where
  pl : List Pl
  reached : List Nat
  waiting : List Nat
  pos : Nat
  en : Int
namespace Mac
/-- the ref r is called -/
def call (S : Mc) : Nat → Mc
  | 0 => { S with en := S.pos }
  | i + 1 => match S.pl[i]? with
    | some p => if p.vis < S.pos then { S with pl := S.pl.set i { p with vis := S.pos }, reached := S.reached ++ [i] } else S
    | none => S
def Called (S : Mc) : Nat → Prop
  | 0 => S.en = S.pos
  | i + 1 => ∃ p, S.pl[i]? = some p ∧ p.vis = S.pos
def Done (S : Mc) (i : Nat) (p : Pl) : Prop := ∃ sh, p.sh = some sh ∧ (sh = .wait → i ∈ S.waiting) ∧ (∀ l, sh = .ways l → ∀ r, r ∈ l → Called S r)
def sumL (f : Pl → Nat) (l : List Pl) : Nat := (l.map f).sum
theorem sumL_set {f : Pl → Nat} : ∀ {l : List Pl} {i : Nat} {p : Pl}, l[i]? = some p → ∀ q, sumL f (l.set i q) + f p = sumL f l + f q
  | [], _, _, h, _ => by simp at h
  | x :: l, 0, p, h, q => by
    have h' : x = p := by simpa using h
    subst h'
    simp [sumL]; omega
  | x :: l, i + 1, p, h, q => by
    have ih := sumL_set (f := f) (l := l) (i := i) (p := p) (by simpa using h) q
    simp only [sumL, List.set_cons_succ, List.map_cons, List.sum_cons] at ih ⊢
    omega
theorem sumL_app (f : Pl → Nat) (l m : List Pl) : sumL f (l ++ m) = sumL f l + sumL f m := by simp [sumL]
theorem sumL_le {f g : Pl → Nat} : ∀ {l : List Pl}, (∀ p, p ∈ l → f p ≤ g p) → sumL f l ≤ sumL g l
  | [], _ => Nat.le_refl _
  | x :: l, h => by
    have ih := sumL_le (f := f) (g := g) (l := l) (fun p hp => h p (by simp [hp]))
    have := h x (by simp)
    simp only [sumL, List.map_cons, List.sum_cons] at ih ⊢
    omega
def uw (k : Nat) (p : Pl) : Nat := if p.vis < k then 1 else 0
def rw' (p : Pl) : Nat := if p.sh.isNone then cntL p.e p.t.kids else 0
def nw (p : Pl) : Nat := 1 + cntL p.e p.t.kids
def unv (S : Mc) : Nat := sumL (uw S.pos) S.pl
def mu (S : Mc) : Nat := 2 * (unv S + sumL rw' S.pl) + S.reached.length
theorem sumL_one : ∀ l : List Pl, sumL (fun _ => 1) l = l.length
  | [] => rfl
  | x :: l => by
    have ih := sumL_one l
    simp only [sumL, List.map_cons, List.sum_cons, List.length_cons] at ih ⊢
    omega
theorem sumL_nw : ∀ l : List Pl, l.length + sumL (fun q => cntL q.e q.t.kids) l = sumL nw l
  | [] => rfl
  | x :: l => by
    have ih := sumL_nw l
    have e : nw x = 1 + cntL x.e x.t.kids := rfl
    simp only [sumL, List.map_cons, List.sum_cons, List.length_cons] at ih ⊢
    omega
theorem unv_le (S : Mc) : unv S ≤ S.pl.length := by
  have h : sumL (uw S.pos) S.pl ≤ sumL (fun _ => 1) S.pl := sumL_le fun p _ => by unfold uw; split <;> omega
  have h2 : sumL (fun _ => 1) S.pl = S.pl.length := sumL_one _
  unfold unv; omega
structure Inv (s : ByteArray) (D N : Nat) (T : Pat) (H : Nat → Nat → Prop) (X : Option Nat) (Wq : List Nat) (S : Mc) : Prop where
  ord : Ord S.pl
  deep : ∀ (i : Nat) (p : Pl), S.pl[i]? = some p → p.e ≤ D ∧ DeepL p.e p.t.kids
  shp : ∀ (i : Nat) (p : Pl) (sh : Vs), S.pl[i]? = some p → p.sh = some sh → Shaped S.pl i p sh
  vle : ∀ (i : Nat) (p : Pl), S.pl[i]? = some p → -1 ≤ p.vis ∧ p.vis ≤ S.pos
  ele : -1 ≤ S.en ∧ S.en ≤ S.pos
  ple : S.pos ≤ s.size
  hlt : ∀ r q, H r q → q < S.pos ∧ r ≤ S.pl.length
  past : ∀ (i : Nat) (p : Pl) (q : Nat), S.pl[i]? = some p → H (i + 1) q → ∃ sh, p.sh = some sh ∧ (sh = .wait → ChAt s p.t.x.text q → H p.nx (q + 1) ∨ (q + 1 = S.pos ∧ (Called S p.nx ∨ i ∈ Wq))) ∧ (∀ l, sh = .ways l → ∀ r, r ∈ l → H r q)
  now : ∀ (i : Nat) (p : Pl), S.pl[i]? = some p → p.vis = S.pos → X = some i ∨ i ∈ S.reached ∨ Done S i p
  rch : ∀ i, i ∈ S.reached → ∃ p, S.pl[i]? = some p ∧ p.vis = S.pos
  wt : ∀ i, i ∈ S.waiting → ∃ p, S.pl[i]? = some p ∧ p.t.x.op = 1 ∧ GoodM s D T S.pl (i + 1) S.pos
  good : ∀ r, Called S r → GoodM s D T S.pl r S.pos
  cnt : S.waiting.length + S.reached.length + unv S + (if X.isSome then 1 else 0) ≤ S.pl.length
  tot : S.pl.length + sumL rw' S.pl ≤ N
section
variable {s : ByteArray} {D N : Nat} {T : Pat} {H : Nat → Nat → Prop} {X : Option Nat} {Wq : List Nat} {S : Mc}
theorem called_le {r : Nat} (h : Called S r) : r ≤ S.pl.length := by
  cases r with
  | zero => exact Nat.zero_le _
  | succ i => obtain ⟨p, hp, _⟩ := h; have := (List.getElem?_eq_some_iff.1 hp).1; omega
/-- what a place turned to is, but for when it was visited and what its visit does -/
theorem set_back {L : List Pl} {i j : Nat} {p p' q' : Pl} (hp : L[i]? = some p) (h : (L.set i p')[j]? = some q') : (j = i ∧ q' = p') ∨ (j ≠ i ∧ L[j]? = some q') := by
  by_cases e : i = j
  · subst e
    rw [List.getElem?_set_self (List.getElem?_eq_some_iff.1 hp).1] at h
    cases h; exact .inl ⟨rfl, rfl⟩
  · rw [List.getElem?_set_ne e] at h
    exact .inr ⟨fun e' => e e'.symm, h⟩
theorem call_spec (S : Mc) (r : Nat) (hr : r ≤ S.pl.length) (hv : ∀ (i : Nat) (p : Pl), S.pl[i]? = some p → p.vis ≤ S.pos) :
    (Called S r ∧ call S r = S) ∨ (r = 0 ∧ call S r = { S with en := S.pos }) ∨
    ∃ i p, r = i + 1 ∧ S.pl[i]? = some p ∧ p.vis < S.pos ∧ call S r = { S with pl := S.pl.set i { p with vis := S.pos }, reached := S.reached ++ [i] } := by
  cases r with
  | zero => exact .inr (.inl ⟨rfl, rfl⟩)
  | succ i =>
    have hp : S.pl[i]? = some S.pl[i] := List.getElem?_eq_getElem (by omega)
    generalize S.pl[i] = p at hp
    by_cases h : p.vis < S.pos
    · exact .inr (.inr ⟨i, p, rfl, hp, h, by simp only [call, hp]; rw [if_pos h]⟩)
    · exact .inl ⟨⟨p, hp, by have := hv i p hp; omega⟩, by simp only [call, hp]; rw [if_neg h]⟩
/-- what a call changes -/
structure Stp (S S' : Mc) : Prop where
  ext : Ext S.pl S'.pl
  len : S'.pl.length = S.pl.length
  pos : S'.pos = S.pos
  wait : S'.waiting = S.waiting
  kept : ∀ r, Called S r → Called S' r
  mu : mu S' ≤ mu S
theorem Stp.refl (S : Mc) : Stp S S := ⟨Ext.refl _, rfl, rfl, rfl, fun _ h => h, Nat.le_refl _⟩
theorem Stp.trans {S S' S'' : Mc} (h : Stp S S') (h' : Stp S' S'') : Stp S S'' := ⟨h.ext.trans h'.ext, h'.len.trans h.len, h'.pos.trans h.pos, h'.wait.trans h.wait, fun r hr => h'.kept r (h.kept r hr), Nat.le_trans h'.mu h.mu⟩
theorem inv_call (I : Inv s D N T H X Wq S) {r : Nat} (hr : r ≤ S.pl.length) (hg : GoodM s D T S.pl r S.pos) : Inv s D N T H X Wq (call S r) ∧ Called (call S r) r ∧ Stp S (call S r) := by
  rcases call_spec S r hr (fun i p hp => (I.vle i p hp).2) with ⟨h1, h2⟩ | ⟨rfl, h2⟩ | ⟨i, p, rfl, hp, hv, h2⟩
  · rw [h2]; exact ⟨I, h1, Stp.refl S⟩
  · rw [h2]
    have hk : ∀ r, Called S r → Called { S with en := S.pos } r := fun r hr => by
      cases r with
      | zero => rfl
      | succ i => exact hr
    have hD : ∀ i p, Done S i p → Done { S with en := S.pos } i p := fun i p ⟨sh, a, b, c⟩ => ⟨sh, a, b, fun l e r hr => hk r (c l e r hr)⟩
    refine ⟨⟨I.ord, I.deep, I.shp, I.vle, ⟨by show (-1 : Int) ≤ (S.pos : Int); omega, Int.le_refl _⟩, I.ple, I.hlt, fun i p q hp hh => ?_, fun i p hp hv => ?_, I.rch, I.wt, fun r hr => ?_, I.cnt, I.tot⟩, rfl, ⟨Ext.refl _, rfl, rfl, rfl, hk, Nat.le_refl _⟩⟩
    · obtain ⟨sh, a, b, c⟩ := I.past i p q hp hh
      refine ⟨sh, a, fun e h => ?_, c⟩
      rcases b e h with h1 | ⟨h1, h1' | h1'⟩
      · exact .inl h1
      · exact .inr ⟨h1, .inl (hk _ h1')⟩
      · exact .inr ⟨h1, .inr h1'⟩
    · rcases I.now i p hp hv with h1 | h1 | h1
      · exact .inl h1
      · exact .inr (.inl h1)
      · exact .inr (.inr (hD i p h1))
    · cases r with
      | zero => exact hg
      | succ i => exact I.good (i + 1) hr
  · rw [h2]
    have he : Ext S.pl (S.pl.set i { p with vis := S.pos }) := ext_set hp rfl rfl
    have hlen : (S.pl.set i { p with vis := S.pos }).length = S.pl.length := List.length_set
    have hil := (List.getElem?_eq_some_iff.1 hp).1
    have hk : ∀ r, Called S r → Called { S with pl := S.pl.set i { p with vis := S.pos }, reached := S.reached ++ [i] } r := fun r hr => by
      cases r with
      | zero => exact hr
      | succ j =>
        obtain ⟨q, hq, hqv⟩ := hr
        by_cases e : i = j
        · subst e
          exact ⟨{ p with vis := S.pos }, by show (S.pl.set i _)[i]? = _; rw [List.getElem?_set_self hil], rfl⟩
        · exact ⟨q, by show (S.pl.set i _)[j]? = _; rw [List.getElem?_set_ne e]; exact hq, hqv⟩
    have hD : ∀ j q q', q'.sh = q.sh → Done S j q → Done { S with pl := S.pl.set i { p with vis := S.pos }, reached := S.reached ++ [i] } j q' := fun j q q' e ⟨sh, a, b, c⟩ => ⟨sh, e.trans a, b, fun l e r hr => hk r (c l e r hr)⟩
    have hgood : ∀ r, r ≤ S.pl.length → GoodM s D T S.pl r S.pos → GoodM s D T (S.pl.set i { p with vis := S.pos }) r S.pos := fun r hr hg => fun j hj => hg j (hj.back I.ord he hr)
    have hu : unv { S with pl := S.pl.set i { p with vis := S.pos }, reached := S.reached ++ [i] } + 1 = unv S := by
      have := sumL_set (f := uw S.pos) hp { p with vis := S.pos }
      have h1 : uw S.pos p = 1 := by unfold uw; rw [if_pos hv]
      have h2 : uw S.pos { p with vis := S.pos } = 0 := by unfold uw; rw [if_neg (Int.lt_irrefl _)]
      unfold unv
      show sumL (uw S.pos) (S.pl.set i { p with vis := S.pos }) + 1 = _
      omega
    have hrw : sumL rw' (S.pl.set i { p with vis := S.pos }) = sumL rw' S.pl := by
      have := sumL_set (f := rw') hp { p with vis := S.pos }
      have h1 : rw' { p with vis := S.pos } = rw' p := rfl
      omega
    refine ⟨⟨fun j q hq => ?_, fun j q hq => ?_, fun j q sh hq hs => ?_, fun j q hq => ?_, I.ele, I.ple, fun r q hh => ?_, fun j q k hq hh => ?_, fun j q hq hvq => ?_, fun j hj => ?_, fun j hj => ?_, fun r hr => ?_, ?_, ?_⟩, ?_, ⟨he, hlen, rfl, rfl, hk, ?_⟩⟩
    · rcases set_back hp hq with ⟨rfl, rfl⟩ | ⟨_, hq⟩
      · exact I.ord j p hp
      · exact I.ord j q hq
    · rcases set_back hp hq with ⟨rfl, rfl⟩ | ⟨_, hq⟩
      · exact I.deep j p hp
      · exact I.deep j q hq
    · rcases set_back hp hq with ⟨rfl, rfl⟩ | ⟨_, hq⟩
      · exact (I.shp j p sh hp hs).ext he rfl rfl
      · exact (I.shp j q sh hq hs).ext he rfl rfl
    · rcases set_back hp hq with ⟨rfl, rfl⟩ | ⟨_, hq⟩
      · exact ⟨by show (-1 : Int) ≤ (S.pos : Int); omega, Int.le_refl _⟩
      · exact I.vle j q hq
    · rw [hlen]; exact I.hlt r q hh
    · have key : ∀ q0 : Pl, S.pl[j]? = some q0 → q.sh = q0.sh → q.t = q0.t → q.nx = q0.nx → ∃ sh, q.sh = some sh ∧ (sh = .wait → ChAt s q.t.x.text k → H q.nx (k + 1) ∨ (k + 1 = S.pos ∧ (Called { S with pl := S.pl.set i { p with vis := S.pos }, reached := S.reached ++ [i] } q.nx ∨ j ∈ Wq))) ∧ (∀ l, sh = .ways l → ∀ r, r ∈ l → H r k) := fun q0 h0 e1 e2 e3 => by
        obtain ⟨sh, a, b, c⟩ := I.past j q0 k h0 hh
        refine (⟨sh, e1.trans a, fun e h => ?_, c⟩ : ∃ sh, q.sh = some sh ∧ (sh = .wait → ChAt s q.t.x.text k → H q.nx (k + 1) ∨ (k + 1 = S.pos ∧ (Called { S with pl := S.pl.set i { p with vis := S.pos }, reached := S.reached ++ [i] } q.nx ∨ j ∈ Wq))) ∧ (∀ l, sh = .ways l → ∀ r, r ∈ l → H r k))
        rw [e2] at h
        rw [e3]
        rcases b e h with h1 | ⟨h1, h1' | h1'⟩
        · exact .inl h1
        · exact .inr ⟨h1, .inl (hk _ h1')⟩
        · exact .inr ⟨h1, .inr h1'⟩
      rcases set_back hp hq with ⟨rfl, rfl⟩ | ⟨_, hq⟩
      · exact key p hp rfl rfl rfl
      · exact key q hq rfl rfl rfl
    · rcases set_back hp hq with ⟨rfl, rfl⟩ | ⟨_, hq⟩
      · exact .inr (.inl (by simp))
      · rcases I.now j q hq hvq with h1 | h1 | h1
        · exact .inl h1
        · exact .inr (.inl (by simp [h1]))
        · exact .inr (.inr (hD j q q rfl h1))
    · have hj' : j ∈ S.reached ++ [i] := hj
      rcases List.mem_append.1 hj' with h | h
      · exact hk (j + 1) (I.rch j h)
      · rw [List.mem_singleton.1 h]
        exact ⟨{ p with vis := S.pos }, by show (S.pl.set i _)[i]? = _; rw [List.getElem?_set_self hil], rfl⟩
    · obtain ⟨q, hq, ho, hg'⟩ := I.wt j hj
      obtain ⟨q', g1, g2, g3⟩ := he j q hq
      exact ⟨q', g1, by rw [g2]; exact ho, hgood _ (by have := (List.getElem?_eq_some_iff.1 hq).1; omega) hg'⟩
    · cases r with
      | zero => exact hgood 0 (Nat.zero_le _) (I.good 0 hr)
      | succ j =>
        obtain ⟨q, hq, hqv⟩ := hr
        rcases set_back hp hq with ⟨rfl, rfl⟩ | ⟨_, hq⟩
        · exact hgood (j + 1) (by omega) hg
        · exact hgood (j + 1) (by have := (List.getElem?_eq_some_iff.1 hq).1; omega) (I.good (j + 1) ⟨q, hq, hqv⟩)
    · have := I.cnt
      show S.waiting.length + (S.reached ++ [i]).length + unv _ + _ ≤ (S.pl.set i _).length
      rw [hlen, List.length_append, List.length_singleton]; omega
    · show (S.pl.set i _).length + sumL rw' (S.pl.set i _) ≤ N
      rw [hlen, hrw]; exact I.tot
    · exact ⟨{ p with vis := S.pos }, by show (S.pl.set i _)[i]? = _; rw [List.getElem?_set_self hil], rfl⟩
    · unfold mu
      show 2 * (unv _ + sumL rw' (S.pl.set i _)) + (S.reached ++ [i]).length ≤ _
      rw [hrw, List.length_append, List.length_singleton]; omega
theorem inv_calls : ∀ {l : List Nat} {S : Mc}, Inv s D N T H X Wq S → (∀ r, r ∈ l → r ≤ S.pl.length ∧ GoodM s D T S.pl r S.pos) → Inv s D N T H X Wq (l.foldl call S) ∧ (∀ r, r ∈ l → Called (l.foldl call S) r) ∧ Stp S (l.foldl call S)
  | [], S, I, _ => ⟨I, fun r hr => (List.not_mem_nil hr).elim, Stp.refl S⟩
  | r :: l, S, I, h => by
    obtain ⟨I1, c1, st⟩ := inv_call I (h r (by simp)).1 (h r (by simp)).2
    have h' : ∀ r', r' ∈ l → r' ≤ (call S r).pl.length ∧ GoodM s D T (call S r).pl r' (call S r).pos := fun r' hr' => by
      have h0 := h r' (by simp [hr'])
      exact ⟨by rw [st.len]; exact h0.1, by rw [st.pos]; exact fun j hj => h0.2 j (hj.back I.ord st.ext h0.1)⟩
    obtain ⟨I2, c2, st2⟩ := inv_calls (l := l) I1 h'
    refine ⟨I2, fun r' hr' => ?_, st.trans st2⟩
    rcases List.mem_cons.1 hr' with rfl | hr'
    · exact st2.kept _ c1
    · exact c2 r' hr'
/-- the last one that is reached is taken out -/
theorem inv_pop {R : List Nat} {i : Nat} (I : Inv s D N T H none Wq S) (hR : S.reached = R ++ [i]) : Inv s D N T H (some i) Wq { S with reached := R } ∧ Called { S with reached := R } (i + 1) ∧ mu { S with reached := R } + 1 = mu S := by
  obtain ⟨p, hp, hv⟩ := I.rch i (by rw [hR]; simp)
  have hl : S.reached.length = R.length + 1 := by rw [hR]; simp
  refine ⟨⟨I.ord, I.deep, I.shp, I.vle, I.ele, I.ple, I.hlt, I.past, fun j q hq hvq => ?_, fun j hj => I.rch j (by rw [hR]; exact List.mem_append_left _ hj), I.wt, I.good, ?_, I.tot⟩, ⟨p, hp, hv⟩, ?_⟩
  · rcases I.now j q hq hvq with h1 | h1 | h1
    · cases h1
    · rw [hR] at h1
      rcases List.mem_append.1 h1 with h | h
      · exact .inr (.inl h)
      · rw [List.mem_singleton.1 h]; exact .inl rfl
    · exact .inr (.inr h1)
  · have := I.cnt
    have e : unv { S with reached := R } = unv S := rfl
    show S.waiting.length + R.length + unv _ + 1 ≤ S.pl.length
    rw [e]; rw [hl] at this; simp at this; omega
  · unfold mu
    have e : unv { S with reached := R } = unv S := rfl
    show 2 * (unv _ + sumL rw' S.pl) + R.length + 1 = _
    rw [e, hl]; omega
/-- what news must be like -/
structure News (D : Nat) (S : Mc) (p : Pl) (nn : List Pl) : Prop where
  each : ∀ q, q ∈ nn → q.vis = -1 ∧ q.sh = none ∧ q.e ≤ D ∧ DeepL q.e q.t.kids
  ord : Ord (S.pl ++ nn)
  few : sumL nw nn ≤ cntL p.e p.t.kids
theorem inv_made {i : Nat} {p : Pl} {nn : List Pl} {sh : Vs} (I : Inv s D N T H (some i) Wq S) (hp : S.pl[i]? = some p) (h0 : p.sh = none) (hn : News D S p nn) (hsh : Shaped (S.pl ++ nn) i p sh) :
    Inv s D N T H (some i) Wq { S with pl := (S.pl ++ nn).set i { p with sh := some sh } } ∧ Ext S.pl ((S.pl ++ nn).set i { p with sh := some sh }) ∧ (∀ r, Called S r → Called { S with pl := (S.pl ++ nn).set i { p with sh := some sh } } r) ∧ mu { S with pl := (S.pl ++ nn).set i { p with sh := some sh } } ≤ mu S := by
  have hil := (List.getElem?_eq_some_iff.1 hp).1
  have hp2 : (S.pl ++ nn)[i]? = some p := by rw [List.getElem?_append_left hil]; exact hp
  have he2 : Ext (S.pl ++ nn) ((S.pl ++ nn).set i { p with sh := some sh }) := ext_set hp2 rfl rfl
  have he : Ext S.pl ((S.pl ++ nn).set i { p with sh := some sh }) := (ext_append _ _).trans he2
  have hlen : ((S.pl ++ nn).set i { p with sh := some sh }).length = S.pl.length + nn.length := by rw [List.length_set, List.length_append]
  have back : ∀ j q, ((S.pl ++ nn).set i { p with sh := some sh })[j]? = some q → (j = i ∧ q = { p with sh := some sh }) ∨ (j ≠ i ∧ S.pl[j]? = some q) ∨ (S.pl.length ≤ j ∧ q ∈ nn) := fun j q hq => by
    rcases set_back hp2 hq with h | ⟨h, hq⟩
    · exact .inl h
    · by_cases hj : j < S.pl.length
      · rw [List.getElem?_append_left hj] at hq; exact .inr (.inl ⟨h, hq⟩)
      · rw [List.getElem?_append_right (by omega)] at hq; exact .inr (.inr ⟨by omega, List.mem_of_getElem? hq⟩)
  have hk : ∀ r, Called S r → Called { S with pl := (S.pl ++ nn).set i { p with sh := some sh } } r := fun r hr => by
    cases r with
    | zero => exact hr
    | succ j =>
      obtain ⟨q, hq, hqv⟩ := hr
      have hjl := (List.getElem?_eq_some_iff.1 hq).1
      by_cases e : i = j
      · subst e
        rw [hp] at hq; cases hq
        exact ⟨{ p with sh := some sh }, by show ((S.pl ++ nn).set i _)[i]? = _; rw [List.getElem?_set_self (by rw [List.length_append]; omega)], hqv⟩
      · exact ⟨q, by show ((S.pl ++ nn).set i _)[j]? = _; rw [List.getElem?_set_ne e, List.getElem?_append_left hjl]; exact hq, hqv⟩
  have hgood : ∀ r, r ≤ S.pl.length → GoodM s D T S.pl r S.pos → GoodM s D T ((S.pl ++ nn).set i { p with sh := some sh }) r S.pos := fun r hr hg => fun j hj => hg j (hj.back I.ord he hr)
  have hnl := sumL_nw nn
  have hru : sumL rw' nn ≤ sumL (fun q => cntL q.e q.t.kids) nn := sumL_le fun q _ => by unfold rw'; split <;> omega
  have hr0 : rw' p = cntL p.e p.t.kids := by unfold rw'; rw [h0]; rfl
  have hr1 : rw' { p with sh := some sh } = 0 := rfl
  have hsr := sumL_set (f := rw') hp2 { p with sh := some sh }
  rw [sumL_app, hr0, hr1] at hsr
  have hsu := sumL_set (f := uw S.pos) hp2 { p with sh := some sh }
  have hu1 : uw S.pos { p with sh := some sh } = uw S.pos p := rfl
  rw [sumL_app, hu1] at hsu
  have huu : sumL (uw S.pos) nn ≤ nn.length := by
    have h : sumL (uw S.pos) nn ≤ sumL (fun _ => 1) nn := sumL_le fun p _ => by unfold uw; split <;> omega
    have h2 : sumL (fun _ => 1) nn = nn.length := sumL_one _
    omega
  have hfew := hn.few
  refine ⟨⟨fun j q hq => ?_, fun j q hq => ?_, fun j q sh' hq hs => ?_, fun j q hq => ?_, I.ele, I.ple, fun r q hh => ?_, fun j q k hq hh => ?_, fun j q hq hvq => ?_, fun j hj => hk (j + 1) (I.rch j hj), fun j hj => ?_, fun r hr => ?_, ?_, ?_⟩, he, hk, ?_⟩
  · rcases set_back hp2 hq with ⟨rfl, rfl⟩ | ⟨_, hq⟩
    · exact I.ord j p hp
    · exact hn.ord j q hq
  · rcases back j q hq with ⟨rfl, rfl⟩ | ⟨_, hq⟩ | ⟨_, hq⟩
    · exact I.deep j p hp
    · exact I.deep j q hq
    · exact (hn.each q hq).2.2
  · rcases back j q hq with ⟨rfl, rfl⟩ | ⟨_, hq⟩ | ⟨_, hq⟩
    · cases hs; exact hsh.ext he2 rfl rfl
    · exact (I.shp j q sh' hq hs).ext he rfl rfl
    · rw [(hn.each q hq).2.1] at hs; cases hs
  · rcases back j q hq with ⟨rfl, rfl⟩ | ⟨_, hq⟩ | ⟨_, hq⟩
    · exact I.vle j p hp
    · exact I.vle j q hq
    · rw [(hn.each q hq).1]; exact ⟨Int.le_refl _, by show (-1 : Int) ≤ (S.pos : Int); omega⟩
  · have := I.hlt r q hh
    exact ⟨this.1, by show r ≤ ((S.pl ++ nn).set i _).length; rw [hlen]; omega⟩
  · have key : ∀ q0 : Pl, S.pl[j]? = some q0 → (∀ x, q0.sh = some x → q.sh = some x) → q.t = q0.t → q.nx = q0.nx → ∃ sh', q.sh = some sh' ∧ (sh' = .wait → ChAt s q.t.x.text k → H q.nx (k + 1) ∨ (k + 1 = S.pos ∧ (Called { S with pl := (S.pl ++ nn).set i { p with sh := some sh } } q.nx ∨ j ∈ Wq))) ∧ (∀ l, sh' = .ways l → ∀ r, r ∈ l → H r k) := fun q0 hq0 e1 e2 e3 => by
      obtain ⟨sh', a, b, c⟩ := I.past j q0 k hq0 hh
      refine ⟨sh', e1 sh' a, fun e h => ?_, c⟩
      rw [e2] at h
      rw [e3]
      rcases b e h with h1 | ⟨h1, h1' | h1'⟩
      · exact .inl h1
      · exact .inr ⟨h1, .inl (hk _ h1')⟩
      · exact .inr ⟨h1, .inr h1'⟩
    rcases back j q hq with ⟨rfl, rfl⟩ | ⟨_, hq⟩ | ⟨hj, hq⟩
    · exact key p hp (fun x hx => by rw [h0] at hx; cases hx) rfl rfl
    · exact key q hq (fun x hx => hx) rfl rfl
    · have := (I.hlt _ _ hh).2; omega
  · rcases back j q hq with ⟨rfl, rfl⟩ | ⟨_, hq⟩ | ⟨_, hq⟩
    · exact .inl rfl
    · rcases I.now j q hq hvq with h1 | h1 | ⟨sh', a, b, c⟩
      · exact .inl h1
      · exact .inr (.inl h1)
      · exact .inr (.inr ⟨sh', a, b, fun l e r hr => hk r (c l e r hr)⟩)
    · have := (hn.each q hq).1
      have h2 : q.vis = (S.pos : Int) := hvq
      omega
  · obtain ⟨q, hq, ho, hg'⟩ := I.wt j hj
    obtain ⟨q', g1, g2, g3⟩ := he j q hq
    exact ⟨q', g1, by rw [g2]; exact ho, hgood _ (by have := (List.getElem?_eq_some_iff.1 hq).1; omega) hg'⟩
  · cases r with
    | zero => exact hgood 0 (Nat.zero_le _) (I.good 0 hr)
    | succ j =>
      obtain ⟨q, hq, hqv⟩ := hr
      rcases back j q hq with ⟨rfl, rfl⟩ | ⟨_, hq⟩ | ⟨_, hq⟩
      · exact hgood (j + 1) (by omega) (I.good (j + 1) ⟨p, hp, hqv⟩)
      · exact hgood (j + 1) (by have := (List.getElem?_eq_some_iff.1 hq).1; omega) (I.good (j + 1) ⟨q, hq, hqv⟩)
      · have := (hn.each q hq).1
        have h2 : q.vis = (S.pos : Int) := hqv
        omega
  · have h1 := I.cnt
    have e : unv { S with pl := (S.pl ++ nn).set i { p with sh := some sh } } = sumL (uw S.pos) ((S.pl ++ nn).set i { p with sh := some sh }) := rfl
    have e2 : unv S = sumL (uw S.pos) S.pl := rfl
    show S.waiting.length + S.reached.length + unv _ + _ ≤ ((S.pl ++ nn).set i _).length
    rw [hlen, e]; rw [e2] at h1; omega
  · have h1 := I.tot
    show ((S.pl ++ nn).set i _).length + sumL rw' ((S.pl ++ nn).set i _) ≤ N
    rw [hlen]; omega
  · unfold mu
    have e : unv { S with pl := (S.pl ++ nn).set i { p with sh := some sh } } = sumL (uw S.pos) ((S.pl ++ nn).set i { p with sh := some sh }) := rfl
    have e2 : unv S = sumL (uw S.pos) S.pl := rfl
    show 2 * (unv _ + sumL rw' ((S.pl ++ nn).set i _)) + S.reached.length ≤ _
    rw [e, e2]; omega
/-- the place i has been visited -/
theorem inv_wait {i : Nat} {p : Pl} (I : Inv s D N T H (some i) Wq S) (hp : S.pl[i]? = some p) (hs : p.sh = some .wait) (ho : p.t.x.op = 1) (hc : Called S (i + 1)) : Inv s D N T H none Wq { S with waiting := S.waiting ++ [i] } := by
  have hk : ∀ r, Called S r → Called { S with waiting := S.waiting ++ [i] } r := fun r hr => by cases r <;> exact hr
  have hb : ∀ r, Called { S with waiting := S.waiting ++ [i] } r → Called S r := fun r hr => by cases r <;> exact hr
  refine ⟨I.ord, I.deep, I.shp, I.vle, I.ele, I.ple, I.hlt, fun j q k hq hh => ?_, fun j q hq hvq => ?_, I.rch, fun j hj => ?_, fun r hr => I.good r (hb r hr), ?_, I.tot⟩
  · obtain ⟨sh', a, b, c⟩ := I.past j q k hq hh
    refine ⟨sh', a, fun e h => ?_, c⟩
    rcases b e h with h1 | ⟨h1, h1' | h1'⟩
    · exact .inl h1
    · exact .inr ⟨h1, .inl (hk _ h1')⟩
    · exact .inr ⟨h1, .inr h1'⟩
  · rcases I.now j q hq hvq with h1 | h1 | ⟨sh', a, b, c⟩
    · cases h1
      have : q = p := by have := hp.symm.trans hq; cases this; rfl
      subst this
      exact .inr (.inr ⟨.wait, hs, fun _ => (by simp), fun l e => (by cases e)⟩)
    · exact .inr (.inl h1)
    · exact .inr (.inr ⟨sh', a, fun e => List.mem_append_left _ (b e), fun l e r hr => hk r (c l e r hr)⟩)
  · have hj' : j ∈ S.waiting ++ [i] := hj
    rcases List.mem_append.1 hj' with h | h
    · exact I.wt j h
    · rw [List.mem_singleton.1 h]
      exact ⟨p, hp, ho, I.good _ hc⟩
  · have := I.cnt
    have e : unv { S with waiting := S.waiting ++ [i] } = unv S := rfl
    show (S.waiting ++ [i]).length + S.reached.length + unv _ + 0 ≤ S.pl.length
    rw [e, List.length_append, List.length_singleton]; simp at this; omega
theorem inv_ways {i : Nat} {p : Pl} {l : List Nat} (I : Inv s D N T H (some i) Wq S) (hp : S.pl[i]? = some p) (hs : p.sh = some (.ways l)) (hc : ∀ r, r ∈ l → Called S r) : Inv s D N T H none Wq S := by
  refine ⟨I.ord, I.deep, I.shp, I.vle, I.ele, I.ple, I.hlt, I.past, fun j q hq hvq => ?_, I.rch, I.wt, I.good, by have := I.cnt; simp at this ⊢; omega, I.tot⟩
  rcases I.now j q hq hvq with h1 | h1 | h1
  · cases h1
    have : q = p := by have := hp.symm.trans hq; cases this; rfl
    subst this
    exact .inr (.inr ⟨.ways l, hs, fun e => (by cases e), fun l' e r hr => (by cases e; exact hc r hr)⟩)
  · exact .inr (.inl h1)
  · exact .inr (.inr h1)
/-- the ways out of a visited place: refs that may be called -/
theorem ways_good {i : Nat} {p : Pl} {l : List Nat} (I : Inv s D N T H X Wq S) (hp : S.pl[i]? = some p) (hs : Shaped S.pl i p (.ways l)) (hc : Called S (i + 1)) : ∀ r, r ∈ l → r ≤ S.pl.length ∧ GoodM s D T S.pl r S.pos := fun r hr => by
  have hil := (List.getElem?_eq_some_iff.1 hp).1
  have hnx := I.ord i p hp
  refine ⟨?_, fun j hj => I.good _ hc j (sound_ways hp (I.deep i p hp).2 (I.deep i p hp).1 hs hr hj)⟩
  obtain ⟨c1, c2, c3, c4, c5, c6⟩ := hs
  have tries : ∀ b, b ≤ S.pl.length → Tries S.pl p.t.kids b p.nx (.ways l) → r ≤ S.pl.length := fun b hb ht => by
    unfold Tries at ht
    split at ht
    · obtain ⟨r', e', hl⟩ := ht
      cases e'
      rcases List.mem_cons.1 hr with rfl | hr
      · exact hl.le hb
      · rw [List.mem_singleton.1 hr]; omega
    · cases ht; rw [List.mem_singleton.1 hr]; omega
  rcases op_cases p.t.x.op with h | h | h | h | h | ⟨h1, h2, h3, h4, h5⟩
  · cases c1 h
  · obtain ⟨r', e', hl⟩ := c2 h
    cases e'
    rw [List.mem_singleton.1 hr]; exact hl.le (by omega)
  · obtain ⟨l', e', hl, hL⟩ := c3 h
    cases e'
    obtain ⟨q, hq1, rfl⟩ := List.getElem_of_mem hr
    exact (hL q hq1 (by omega)).le (by omega)
  · exact tries _ (by omega) (c4 h)
  · exact tries _ (by omega) (c5 h)
  · have := c6 h1 h2 h3 h4 h5
    cases this
    cases hr
/-- one byte further -/
theorem inv_next (I : Inv s D N T H none [] S) (hR : S.reached = []) (hlt : S.pos < s.size) : Inv s D N T (fun r q => H r q ∨ (q = S.pos ∧ Called S r)) none S.waiting { S with waiting := [], pos := S.pos + 1 } := by
  have hno : ∀ r, ¬ Called { S with waiting := [], pos := S.pos + 1 } r := fun r hr => by
    cases r with
    | zero => have h1 : S.en = ((S.pos + 1 : Nat) : Int) := hr; have := I.ele.2; omega
    | succ i => obtain ⟨p, hp, hv⟩ := hr; have h1 : p.vis = ((S.pos + 1 : Nat) : Int) := hv; have := (I.vle i p hp).2; omega
  refine ⟨I.ord, I.deep, I.shp, fun j q hq => ?_, ?_, hlt, fun r q hh => ?_, fun j q k hq hh => ?_, fun j q hq hvq => ?_, fun j hj => ?_, fun j hj => ?_, fun r hr => absurd hr (hno r), ?_, I.tot⟩
  · have := I.vle j q hq
    exact ⟨this.1, by show q.vis ≤ ((S.pos + 1 : Nat) : Int); omega⟩
  · have := I.ele
    exact ⟨this.1, by show S.en ≤ ((S.pos + 1 : Nat) : Int); omega⟩
  · rcases hh with hh | ⟨rfl, hh⟩
    · have := I.hlt r q hh
      exact ⟨by show q < S.pos + 1; omega, this.2⟩
    · exact ⟨by show S.pos < S.pos + 1; omega, called_le (S := S) hh⟩
  · rcases hh with hh | ⟨rfl, hh⟩
    · obtain ⟨sh, a, b, c⟩ := I.past j q k hq hh
      refine ⟨sh, a, fun e h => ?_, fun l e r hr => .inl (c l e r hr)⟩
      rcases b e h with h1 | ⟨h1, h1' | h1'⟩
      · exact .inl (.inl h1)
      · exact .inl (.inr ⟨h1, h1'⟩)
      · cases h1'
    · obtain ⟨p, hp, hv⟩ := hh
      have : q = p := by have := hp.symm.trans hq; cases this; rfl
      subst this
      rcases I.now j q hq hv with h1 | h1 | ⟨sh, a, b, c⟩
      · cases h1
      · rw [hR] at h1; cases h1
      · exact ⟨sh, a, fun e _ => .inr ⟨rfl, .inr (b e)⟩, fun l e r hr => .inr ⟨rfl, c l e r hr⟩⟩
  · exact absurd ⟨q, hq, hvq⟩ (hno (j + 1))
  · rw [show ({ S with waiting := [], pos := S.pos + 1 } : Mc).reached = [] from hR] at hj; cases hj
  · cases hj
  · have := unv_le { S with waiting := [], pos := S.pos + 1 }
    show 0 + S.reached.length + unv _ + 0 ≤ S.pl.length
    rw [hR]; simp at this ⊢; exact this
/-- one that waits, and what it does with the byte -/
theorem inv_drop {i : Nat} {p : Pl} (I : Inv s D N T H none (i :: Wq) S) (hp : S.pl[i]? = some p) (h : ∀ k, k + 1 = S.pos → ChAt s p.t.x.text k → Called S p.nx) : Inv s D N T H none Wq S := by
  refine ⟨I.ord, I.deep, I.shp, I.vle, I.ele, I.ple, I.hlt, fun j q k hq hh => ?_, I.now, I.rch, I.wt, I.good, I.cnt, I.tot⟩
  obtain ⟨sh, a, b, c⟩ := I.past j q k hq hh
  refine ⟨sh, a, fun e hc => ?_, c⟩
  rcases b e hc with h1 | ⟨h1, h1' | h1'⟩
  · exact .inl h1
  · exact .inr ⟨h1, .inl h1'⟩
  · rcases List.mem_cons.1 h1' with rfl | h1'
    · have : q = p := by have := hp.symm.trans hq; cases this; rfl
      subst this
      exact .inr ⟨h1, .inl (h k h1 hc)⟩
    · exact .inr ⟨h1, .inr h1'⟩
def Beg (H : Nat → Nat → Prop) (S : Mc) : Prop := H 1 0 ∨ (S.pos = 0 ∧ Called S 1)
theorem inv_end (I : Inv s D N T H none [] S) (hb : Beg H S) (hR : S.reached = []) (he : S.pos = s.size ∨ S.waiting = []) {p : Pl} (hp : S.pl[0]? = some p) (ht : p.t = T) (hx : p.nx = 0) : S.en = s.size ↔ Mt s D T 0 s.size := by
  have hpos := I.ple
  constructor
  · intro h
    have h1 : S.pos = s.size := by have := I.ele.2; omega
    have h2 : Called S 0 := by show S.en = S.pos; rw [h1]; exact h
    have := I.good 0 h2 S.pos (.fin _)
    rwa [h1] at this
  · intro hm
    have hc : Closed s S.pl (fun r q => H r q ∨ (q = S.pos ∧ Called S r)) := fun i q k hq hh => by
      rcases hh with hh | ⟨rfl, hh⟩
      · obtain ⟨sh, a, b, c⟩ := I.past i q k hq hh
        refine ⟨sh, I.shp i q sh hq a, fun e h => ?_, fun l e r hr => .inl (c l e r hr)⟩
        rcases b e h with h1 | ⟨h1, h1' | h1'⟩
        · exact .inl h1
        · exact .inr ⟨h1, h1'⟩
        · cases h1'
      · obtain ⟨p', hp', hv⟩ := hh
        have : q = p' := by have := hp'.symm.trans hq; cases this; rfl
        subst this
        rcases I.now i q hq hv with h1 | h1 | ⟨sh, a, b, c⟩
        · cases h1
        · rw [hR] at h1; cases h1
        · refine ⟨sh, I.shp i q sh hq a, fun e ⟨h, _⟩ => ?_, fun l e r hr => .inr ⟨rfl, c l e r hr⟩⟩
          have hw := b e
          rcases he with he | he
          · omega
          · rw [he] at hw; cases hw
    have hbeg : (fun r q => H r q ∨ (q = S.pos ∧ Called S r)) (0 + 1) 0 := by
      rcases hb with h | ⟨h1, h2⟩
      · exact .inl h
      · exact .inr ⟨h1.symm, h2⟩
    have hd := I.deep 0 p hp
    have hm' : Mt s p.e p.t 0 s.size := by rw [← mt_deepL s p.e p.t D hd.2 hd.1, ht]; exact hm
    have := compl hc p.e 0 p 0 s.size hp hd.2 hm' hbeg
    rw [hx] at this
    rcases this with h | ⟨h1, h2⟩
    · have := (I.hlt _ _ h).1; omega
    · have h3 : S.en = S.pos := h2
      rw [h3, h1]
/-- the beginning -/
theorem inv_zero {t : Pat} {e : Nat} {r : PatR} {b : Nat} (hd : DeepL e t.kids) (he : e ≤ D) (hN : 1 + cntL e t.kids ≤ N) : Inv s D N t (fun _ _ => False) none [] ⟨[⟨t, e, r, 0, b, -1, none⟩], [], [], 0, -1⟩ := by
  have one : ∀ j q, ([⟨t, e, r, 0, b, -1, none⟩] : List Pl)[j]? = some q → j = 0 ∧ q = ⟨t, e, r, 0, b, -1, none⟩ := fun j q hq => by
    cases j with
    | zero => simp at hq; exact ⟨rfl, hq.symm⟩
    | succ j => simp at hq
  refine ⟨fun j q hq => ?_, fun j q hq => ?_, fun j q sh hq hs => ?_, fun j q hq => ?_, ⟨Int.le_refl _, by show (-1 : Int) ≤ ((0 : Nat) : Int); omega⟩, Nat.zero_le _, fun _ _ h => h.elim, fun _ _ _ _ h => h.elim, fun j q hq hv => ?_, fun j hj => (by cases hj), fun j hj => (by cases hj), fun r hr => ?_, ?_, ?_⟩
  · obtain ⟨rfl, rfl⟩ := one j q hq; exact Nat.le_refl _
  · obtain ⟨rfl, rfl⟩ := one j q hq; exact ⟨he, hd⟩
  · obtain ⟨rfl, rfl⟩ := one j q hq; cases hs
  · obtain ⟨rfl, rfl⟩ := one j q hq; exact ⟨Int.le_refl _, by show (-1 : Int) ≤ ((0 : Nat) : Int); omega⟩
  · obtain ⟨rfl, rfl⟩ := one j q hq
    have h1 : (-1 : Int) = ((0 : Nat) : Int) := hv
    omega
  · cases r with
    | zero => have h1 : (-1 : Int) = ((0 : Nat) : Int) := hr; omega
    | succ j =>
      obtain ⟨q, hq, hv⟩ := hr
      obtain ⟨rfl, rfl⟩ := one j q hq
      have h1 : (-1 : Int) = ((0 : Nat) : Int) := hv
      omega
  · simp [unv, sumL, uw]
  · simpa [sumL, rw'] using hN
theorem good_zero {t : Pat} {e : Nat} {r : PatR} {b : Nat} : GoodM s D t [⟨t, e, r, 0, b, -1, none⟩] 1 0 := fun j hp => by
  cases hp with
  | via h hm hp' =>
    simp at h
    subst h
    cases hp' with
    | fin => exact hm
end
end Mac
end Go.Proofs.YtdmccopggmienaaGreat

/- CHAPTER 5, impl: HOW THE MATCHING MACHINE LIES IN MEMORY (places are closures): 'Rep'. -/
namespace Go.Proofs.YtdmccopggmienaaGreat
open Go.RowKit

/-- a run: the world in which it began; the matching's block, the block of the variable m, that of the variable end -/
structure Cx where
  w0 : World
  m : Nat
  e : Nat
  mv : Nat
abbrev ptr (b : Nat) : Value := .pointer (some ⟨b, 0, none⟩)
abbrev tM : TypeId := 111
abbrev tF : TypeId := 1
abbrev tG : TypeId := 126
abbrev tS : TypeId := 115
abbrev placeV (b : Nat) : Value := .func (.func 127) #[] #[ptr (b + 7), ptr (b + 5), ptr (b + 6)]
abbrev visitV (b : Nat) : Value := .func (.func 107) #[] #[ptr (b + 4), ptr b, ptr (b + 1), ptr (b + 3), ptr (b + 2)]
abbrev endPV (X : Cx) : Value := .func (.func 95) #[] #[ptr X.mv, ptr X.e]
abbrev takeV (c : Nat) : Value := .func (.func 140) #[] #[ptr (c + 1), ptr (c + 2)]
abbrev waitV (c : Nat) : Value := .func (.func 142) #[] #[ptr c, ptr (c + 3)]
abbrev eachV (c : Nat) : Value := .func (.func 144) #[] #[ptr c]
abbrev orV (c c' : Nat) : Value := .func (.func 145) #[] #[ptr c, ptr c']
abbrev noneV : Value := .func (.func 132) #[] #[]
/-- a block of one cell -/
abbrev bx (v : Value) (t : TypeId) : Obj := .cells #[v] t (0, 0)
def bOf (L : List Pl) (j : Nat) : Nat := (L[j]?.map Pl.b).getD 0
def refV (X : Cx) (L : List Pl) : Nat → Value
  | 0 => endPV X
  | j + 1 => placeV (bOf L j)
theorem bOf_eq {L : List Pl} {j : Nat} {p : Pl} (h : L[j]? = some p) : bOf L j = p.b := by unfold bOf; rw [h]; rfl
abbrev Kn := Nat → Option Obj
def Kn.le (K K' : Kn) : Prop := ∀ b o, K b = some o → K' b = some o
theorem Kn.le_refl (K : Kn) : K.le K := fun _ _ h => h
theorem Kn.le_trans {K K' K'' : Kn} (h : K.le K') (h' : K'.le K'') : K.le K'' := fun b o hb => h' b o (h b o hb)
structure PlK (X : Cx) (K : Kn) (L : List Pl) (p : Pl) : Prop where
  k0 : K p.b = some (bx (ptr X.m) tM)
  k1 : K (p.b + 1) = some (.cells #[.int .i64 p.r.op, .string p.r.text, p.r.kv] 82 (0, 0))
  k2 : K (p.b + 2) = some (bx (refV X L p.nx) tF)
  k3 : K (p.b + 3) = some (bx (placeV p.b) tF)
  k5 : K (p.b + 5) = some (bx (ptr X.m) tM)
  k6 : K (p.b + 6) = some (bx (visitV p.b) tF)
def TakeK (X : Cx) (K : Kn) (L : List Pl) (p : Pl) (c : Nat) : Prop := K (c + 1) = some (bx (.string p.t.x.text) 9) ∧ K (c + 2) = some (bx (refV X L p.nx) tF)
/-- g is a function that does what sh says -/
def VsK (X : Cx) (K : Kn) (L : List Pl) (p : Pl) (g : Value) : Vs → Prop
  | .wait => ∃ c, g = waitV c ∧ K c = some (bx (ptr X.m) tM) ∧ K (c + 3) = some (bx (takeV c) tG) ∧ TakeK X K L p c
  | .ways l => (∃ r, l = [r] ∧ g = refV X L r) ∨
    (∃ c b cap cur, g = eachV c ∧ l.length ≤ 2147483648 ∧ K c = some (bx (.slice (some ⟨b, 0, none⟩) l.length cap) 112) ∧ K b = some (.cells cur tF (0, 0)) ∧ ∀ q (h : q < l.length), cur[q]? = some (refV X L l[q])) ∨
    (∃ r r' c c', l = [r, r'] ∧ g = orV c c' ∧ K c = some (bx (refV X L r) tF) ∧ K c' = some (bx (refV X L r') tF)) ∨ (l = [] ∧ g = noneV)
abbrev RowV (E B : Nat) (w : World) (v : Value) (l : List Value) : Prop := RowR (fun u : Value => [u]) 1 E B w v l
/-- blocks that are kept apart -/
structure Dis (X : Cx) (K : Kn) (vr vw : Value) (L : List Pl) : Prop where
  bm : X.w0.heap.size ≤ X.m
  me : X.m < X.e
  km : K X.m = none
  ke : K X.e = none
  ep : ∀ p, p ∈ L → X.e < p.b
  k4 : ∀ p, p ∈ L → K (p.b + 4) = none ∧ K (p.b + 7) = none
  inc : ∀ (i j : Nat) (p q : Pl), L[i]? = some p → L[j]? = some q → i < j → p.b + 8 ≤ q.b
  kr : ∀ g, vr.ownBlock = some g → K g = none ∧ g ≠ X.m ∧ g ≠ X.e ∧ vw.ownBlock ≠ some g ∧ ∀ p, p ∈ L → g ≠ p.b + 4 ∧ g ≠ p.b + 7
  kw : ∀ g, vw.ownBlock = some g → K g = none ∧ g ≠ X.m ∧ g ≠ X.e ∧ ∀ p, p ∈ L → g ≠ p.b + 4 ∧ g ≠ p.b + 7
structure Rep (X : Cx) (K : Kn) (vr vw : Value) (cs : List Nat) (w : World) (S : Mc) : Prop where
  dis : Dis X K vr vw S.pl
  bel : Below X.w0.heap.size X.w0 w
  hk : ∀ b o, K b = some o → w.heap[b]? = some o
  hm : w.heap[X.m]? = some (.cells #[.int .i64 S.pos, vr, vw] tS (0, 0))
  he : w.heap[X.e]? = some (bx (.int .i64 S.en) 3)
  hv : K X.mv = some (bx (ptr X.m) tM)
  rr : RowV tF X.w0.heap.size w vr (S.reached.map fun i => visitV (bOf S.pl i))
  rw : RowV tG X.w0.heap.size w vw (cs.map takeV)
  cl : cs.length = S.waiting.length
  cw : ∀ q (h : q < cs.length) (h' : q < S.waiting.length), ∃ p, S.pl[S.waiting[q]]? = some p ∧ TakeK X K S.pl p cs[q]
  pk : ∀ p, p ∈ S.pl → PlK X K S.pl p ∧ p.nx ≤ S.pl.length
  hg : ∀ p, p ∈ S.pl → ∃ g, w.heap[p.b + 4]? = some (bx g tF) ∧ (p.sh = none → g = .nilFunc) ∧ ∀ sh, p.sh = some sh → VsK X K S.pl p g sh ∧ (∀ l, sh = .ways l → ∀ r, r ∈ l → r ≤ S.pl.length)
  h7 : ∀ p, p ∈ S.pl → w.heap[p.b + 7]? = some (bx (.int .i64 p.vis) 3)
  rd : ∀ p, p ∈ S.pl → RdN patK p.e X.w0 p.r p.t ∧ p.t.x.text.size ≤ 9223372036854775807 ∧ TxFit p.e p.t.kids
  rl : ∀ i, i ∈ S.reached → i < S.pl.length
  kc : ∀ b o, K b = some o → o.isCells = true
section
variable {X : Cx} {K K' : Kn} {vr vw : Value} {cs : List Nat} {w w' : World} {S : Mc}
theorem PlK.mono {L : List Pl} {p : Pl} (h : PlK X K L p) (hk : K.le K') : PlK X K' L p := ⟨hk _ _ h.k0, hk _ _ h.k1, hk _ _ h.k2, hk _ _ h.k3, hk _ _ h.k5, hk _ _ h.k6⟩
theorem TakeK.mono {L : List Pl} {p : Pl} {c : Nat} (h : TakeK X K L p c) (hk : K.le K') : TakeK X K' L p c := ⟨hk _ _ h.1, hk _ _ h.2⟩
theorem VsK.mono {L : List Pl} {p : Pl} {g : Value} {sh : Vs} (h : VsK X K L p g sh) (hk : K.le K') : VsK X K' L p g sh := by
  cases sh with
  | wait => obtain ⟨c, a, b, d, e⟩ := h; exact ⟨c, a, hk _ _ b, hk _ _ d, e.mono hk⟩
  | ways l =>
    rcases h with h | ⟨c, b, cap, cur, e1, e0, e2, e3, e4⟩ | ⟨r, r', c, c', e1, e2, e3, e4⟩ | h
    · exact .inl h
    · exact .inr (.inl ⟨c, b, cap, cur, e1, e0, hk _ _ e2, hk _ _ e3, e4⟩)
    · exact .inr (.inr (.inl ⟨r, r', c, c', e1, e2, hk _ _ e3, hk _ _ e4⟩))
    · exact .inr (.inr (.inr h))
/-- refs are spelled alike in a list that knows the same places -/
def Same (L L' : List Pl) : Prop := ∀ j, j < L.length → bOf L' j = bOf L j
theorem ref_same {L L' : List Pl} (h : Same L L') {r : Nat} (hr : r ≤ L.length) : refV X L' r = refV X L r := by
  cases r with
  | zero => rfl
  | succ j => show placeV (bOf L' j) = placeV (bOf L j); rw [h j (by omega)]
theorem same_app (L N : List Pl) : Same L (L ++ N) := fun j hj => by unfold bOf; rw [List.getElem?_append_left hj]
theorem same_set {L : List Pl} {i : Nat} {p q : Pl} (h : L[i]? = some p) (hb : q.b = p.b) : Same L (L.set i q) := fun j hj => by
  by_cases e : i = j
  · subst e
    unfold bOf; rw [List.getElem?_set_self hj, h]; exact hb
  · unfold bOf; rw [List.getElem?_set_ne e]
theorem PlK.same {L L' : List Pl} {p p' : Pl} (h : PlK X K L p) (hs : Same L L') (hn : p.nx ≤ L.length) (hb : p'.b = p.b) (hx : p'.nx = p.nx) (hr : p'.r = p.r) : PlK X K L' p' := by
  obtain ⟨a, b, c, d, e, f⟩ := h
  refine ⟨by rw [hb]; exact a, by rw [hb, hr]; exact b, by rw [hb, hx, ref_same hs hn]; exact c, by rw [hb]; exact d, by rw [hb]; exact e, by rw [hb]; exact f⟩
theorem TakeK.same {L L' : List Pl} {p p' : Pl} {c : Nat} (h : TakeK X K L p c) (hs : Same L L') (hn : p.nx ≤ L.length) (ht : p'.t = p.t) (hx : p'.nx = p.nx) : TakeK X K L' p' c := ⟨by rw [ht]; exact h.1, by rw [hx, ref_same hs hn]; exact h.2⟩
theorem VsK.same {L L' : List Pl} {p p' : Pl} {g : Value} {sh : Vs} (h : VsK X K L p g sh) (hs : Same L L') (hn : p.nx ≤ L.length) (hl : ∀ l, sh = .ways l → ∀ r, r ∈ l → r ≤ L.length) (ht : p'.t = p.t) (hx : p'.nx = p.nx) : VsK X K L' p' g sh := by
  cases sh with
  | wait => obtain ⟨c, a, b, d, e⟩ := h; exact ⟨c, a, b, d, e.same hs hn ht hx⟩
  | ways l =>
    have hl' := hl l rfl
    rcases h with ⟨r, rfl, e⟩ | ⟨c, b, cap, cur, e1, e0, e2, e3, e4⟩ | ⟨r, r', c, c', rfl, e2, e3, e4⟩ | h
    · exact .inl ⟨r, rfl, by rw [ref_same hs (hl' r (by simp))]; exact e⟩
    · exact .inr (.inl ⟨c, b, cap, cur, e1, e0, e2, e3, fun q h => by rw [ref_same hs (hl' _ (List.getElem_mem h))]; exact e4 q h⟩)
    · exact .inr (.inr (.inl ⟨r, r', c, c', rfl, e2, by rw [ref_same hs (hl' r (by simp))]; exact e3, by rw [ref_same hs (hl' r' (by simp))]; exact e4⟩))
    · exact .inr (.inr (.inr h))
/-- blocks of different places -/
theorem Dis.far {L : List Pl} (h : Dis X K vr vw L) {i j : Nat} {p q : Pl} (hp : L[i]? = some p) (hq : L[j]? = some q) (hij : i ≠ j) : p.b + 8 ≤ q.b ∨ q.b + 8 ≤ p.b := by
  rcases Nat.lt_or_ge i j with h1 | h1
  · exact .inl (h.inc i j p q hp hq h1)
  · exact .inr (h.inc j i q p hq hp (by omega))
/-- the world turned at new blocks alone; K' knows more, of new blocks -/
theorem Rep.turn (h : Rep X K vr vw cs w S) (hb : Below w.heap.size w w') (hK : K.le K') (hK' : ∀ b o, K' b = some o → K b = some o ∨ (w.heap.size ≤ b ∧ w'.heap[b]? = some o ∧ o.isCells = true)) : Rep X K' vr vw cs w' S := by
  have hlt : ∀ b (o : Obj), w.heap[b]? = some o → b < w.heap.size := fun b o hh => (Array.getElem?_eq_some_iff.1 hh).1
  have kb : ∀ b (o : Obj), w.heap[b]? = some o → w'.heap[b]? = some o := fun b o hh => (hb.block b (hlt b o hh)).trans hh
  have hno : ∀ b (o : Obj), w.heap[b]? = some o → K b = none → K' b = none := fun b o hh hn => by
    cases e : K' b with
    | none => rfl
    | some o' =>
      rcases hK' b o' e with h1 | ⟨h1, _, _⟩
      · rw [hn] at h1; cases h1
      · have := hlt b o hh; omega
  have hrow : ∀ {E : Nat} {v : Value} {l : List Value} {g : Nat}, RowV E X.w0.heap.size w v l → v.ownBlock = some g → K g = none → K' g = none := fun {E v l g} hr hv hn => by
    have := hr.lt hv
    obtain ⟨o, ho⟩ : ∃ o, w.heap[g]? = some o := ⟨_, Array.getElem?_eq_getElem this.2⟩
    exact hno g o ho hn
  obtain ⟨d1, d2, d3, d4, d5, d6, d7, d8, d9⟩ := h.dis
  refine ⟨⟨d1, d2, hno _ _ h.hm d3, hno _ _ h.he d4, d5, fun p hp => ?_, d7, fun g hg => ?_, fun g hg => ?_⟩, h.bel.trans (hb.mono h.bel.size), fun b o hh => ?_, kb _ _ h.hm, kb _ _ h.he, hK _ _ h.hv, h.rr.below hb, h.rw.below hb, h.cl, fun q h1 h2 => ?_, fun p hp => ⟨(h.pk p hp).1.mono hK, (h.pk p hp).2⟩, fun p hp => ?_, fun p hp => kb _ _ (h.h7 p hp), h.rd, h.rl, fun b o hh => ?_⟩
  · obtain ⟨g, hg, _⟩ := h.hg p hp
    exact ⟨hno _ _ hg (d6 p hp).1, hno _ _ (h.h7 p hp) (d6 p hp).2⟩
  · have := d8 g hg; exact ⟨hrow h.rr hg this.1, this.2⟩
  · have := d9 g hg; exact ⟨hrow h.rw hg this.1, this.2⟩
  · rcases hK' b o hh with h1 | ⟨_, h1, _⟩
    · exact kb _ _ (h.hk b o h1)
    · exact h1
  · obtain ⟨p, a, b⟩ := h.cw q h1 h2; exact ⟨p, a, b.mono hK⟩
  · obtain ⟨g, a, b, c⟩ := h.hg p hp
    exact ⟨g, kb _ _ a, b, fun sh e => ⟨(c sh e).1.mono hK, (c sh e).2⟩⟩
  · rcases hK' b o hh with h1 | ⟨_, _, h1⟩
    · exact h.kc b o h1
    · exact h1
theorem Rep.below (h : Rep X K vr vw cs w S) (hb : Below w.heap.size w w') : Rep X K vr vw cs w' S := h.turn hb K.le_refl fun _ _ hh => .inl hh
/-- one more block that stays -/
def Kn.add (K : Kn) (b : Nat) (o : Obj) : Kn := fun x => if x = b then some o else K x
theorem Kn.add_at (K : Kn) (b : Nat) (o : Obj) : K.add b o b = some o := if_pos rfl
theorem Rep.new_free (h : Rep X K vr vw cs w S) {b : Nat} (hb : w.heap.size ≤ b) : K b = none := by
  cases e : K b with
  | none => rfl
  | some o => have := (Array.getElem?_eq_some_iff.1 (h.hk b o e)).1; omega
theorem Kn.le_add {K : Kn} {b : Nat} {o : Obj} (h : K b = none) : K.le (K.add b o) := fun x o' hx => by
  unfold Kn.add
  split
  · rename_i e; rw [e, h] at hx; cases hx
  · exact hx
theorem Rep.add (h : Rep X K vr vw cs w S) {b : Nat} {o : Obj} (hb : w.heap.size ≤ b) (hB : Below w.heap.size w w') (ho : w'.heap[b]? = some o) (hc : o.isCells = true) : Rep X (K.add b o) vr vw cs w' S :=
  h.turn hB (Kn.le_add (h.new_free hb)) fun x o' hx => by
    unfold Kn.add at hx
    split at hx
    · rename_i e; cases hx; rw [e]; exact .inr ⟨hb, ho, hc⟩
    · exact .inl hx
end
end Go.Proofs.YtdmccopggmienaaGreat

/- CHAPTER 5, impl: what the matching machine's stores turn. -/
namespace Go.Proofs.YtdmccopggmienaaGreat
open Go.RowKit Mac

section
variable {X : Cx} {K K' : Kn} {vr vw : Value} {cs : List Nat} {w w' : World} {S : Mc}
theorem blk_lt {b : Nat} {o : Obj} (h : w.heap[b]? = some o) : b < w.heap.size := (Array.getElem?_eq_some_iff.1 h).1
theorem Rep.mlt (h : Rep X K vr vw cs w S) : X.m < w.heap.size := blk_lt h.hm
theorem Rep.own_r (h : Rep X K vr vw cs w S) {g : Nat} (hg : vr.ownBlock = some g) : X.w0.heap.size ≤ g ∧ g < w.heap.size := h.rr.lt hg
theorem Rep.own_w (h : Rep X K vr vw cs w S) {g : Nat} (hg : vw.ownBlock = some g) : X.w0.heap.size ≤ g ∧ g < w.heap.size := h.rw.lt hg
/-- the matching's own cells and rows turn -/
theorem Rep.upd (h : Rep X K vr vw cs w S) {w2 : World} {vr' vw' : Value} {R W cs' : List Nat} {k : Nat}
    (hb : Below X.w0.heap.size w w2)
    (hf : ∀ b, b < w.heap.size → b ≠ X.m → vr.ownBlock ≠ some b → vw.ownBlock ≠ some b → w2.heap[b]? = w.heap[b]?)
    (hm : w2.heap[X.m]? = some (.cells #[.int .i64 k, vr', vw'] tS (0, 0)))
    (r1 : RowV tF X.w0.heap.size w2 vr' (R.map fun i => visitV (bOf S.pl i))) (r2 : RowV tG X.w0.heap.size w2 vw' (cs'.map takeV))
    (o1 : ∀ g, vr'.ownBlock = some g → vr.ownBlock = some g ∨ w.heap.size ≤ g) (o2 : ∀ g, vw'.ownBlock = some g → vw.ownBlock = some g ∨ w.heap.size ≤ g) (o3 : ∀ g, vr'.ownBlock = some g → vw'.ownBlock ≠ some g)
    (cl : cs'.length = W.length) (cw : ∀ q (h : q < cs'.length) (h' : q < W.length), ∃ p, S.pl[W[q]]? = some p ∧ TakeK X K S.pl p cs'[q])
    (rl : ∀ i, i ∈ R → i < S.pl.length) : Rep X K vr' vw' cs' w2 { S with reached := R, waiting := W, pos := k } := by
  obtain ⟨d1, d2, d3, d4, d5, d6, d7, d8, d9⟩ := h.dis
  have hK : ∀ b o, K b = some o → b ≠ X.m ∧ vr.ownBlock ≠ some b ∧ vw.ownBlock ≠ some b := fun b o e =>
    ⟨fun e' => (by rw [e', d3] at e; cases e), fun e' => (by rw [(d8 b e').1] at e; cases e), fun e' => (by rw [(d9 b e').1] at e; cases e)⟩
  have hp4 : ∀ p, p ∈ S.pl → (p.b + 4 ≠ X.m ∧ vr.ownBlock ≠ some (p.b + 4) ∧ vw.ownBlock ≠ some (p.b + 4)) ∧ (p.b + 7 ≠ X.m ∧ vr.ownBlock ≠ some (p.b + 7) ∧ vw.ownBlock ≠ some (p.b + 7)) := fun p hp => by
    have := d5 p hp
    exact ⟨⟨by omega, fun e => ((d8 _ e).2.2.2.2 p hp).1 rfl, fun e => ((d9 _ e).2.2.2 p hp).1 rfl⟩, ⟨by omega, fun e => ((d8 _ e).2.2.2.2 p hp).2 rfl, fun e => ((d9 _ e).2.2.2 p hp).2 rfl⟩⟩
  have new : ∀ g, w.heap.size ≤ g → K g = none ∧ g ≠ X.m ∧ g ≠ X.e ∧ ∀ p, p ∈ S.pl → g ≠ p.b + 4 ∧ g ≠ p.b + 7 := fun g hg => by
    refine ⟨h.new_free hg, ?_, ?_, fun p hp => ⟨?_, ?_⟩⟩
    · have := blk_lt h.hm; omega
    · have := blk_lt h.he; omega
    · obtain ⟨u, a, _⟩ := h.hg p hp; have := blk_lt a; omega
    · have := blk_lt (h.h7 p hp); omega
  refine ⟨⟨d1, d2, d3, d4, d5, d6, d7, fun g hg => ?_, fun g hg => ?_⟩, h.bel.trans hb, fun b o e => ?_, hm, ?_, h.hv, r1, r2, cl, cw, h.pk, fun p hp => ?_, fun p hp => ?_, h.rd, rl, h.kc⟩
  · rcases o1 g hg with e | e
    · have := d8 g e; exact ⟨this.1, this.2.1, this.2.2.1, o3 g hg, this.2.2.2.2⟩
    · have := new g e; exact ⟨this.1, this.2.1, this.2.2.1, o3 g hg, this.2.2.2⟩
  · rcases o2 g hg with e | e
    · exact d9 g e
    · exact new g e
  · have := hK b o e
    exact (hf b (blk_lt (h.hk b o e)) this.1 this.2.1 this.2.2).trans (h.hk b o e)
  · exact (hf _ (blk_lt h.he) (by omega) (fun e => (d8 _ e).2.2.1 rfl) (fun e => (d9 _ e).2.2.1 rfl)).trans h.he
  · obtain ⟨g, a, b⟩ := h.hg p hp
    have := (hp4 p hp).1
    exact ⟨g, (hf _ (blk_lt a) this.1 this.2.1 this.2.2).trans a, b⟩
  · have := (hp4 p hp).2
    exact (hf _ (blk_lt (h.h7 p hp)) this.1 this.2.1 this.2.2).trans (h.h7 p hp)
theorem mset {w : World} {m : Nat} {a b c u : Value} {t : TypeId} (h : w.heap[m]? = some (.cells #[a, b, c] t (0, 0))) (j : Nat) : (w.setCell ⟨m, j, none⟩ u).heap[m]? = some (.cells (#[a, b, c].setIfInBounds j u) t (0, 0)) := heap_setCell_same w m j _ t u h
/-- reached turns: w1: behind what made the new row -/
theorem Rep.setReached (h : Rep X K vr vw cs w S) {w1 : World} {v' : Value} {R : List Nat} (hg : w.grownBy w1 vr.ownBlock) (r1 : RowV tF X.w0.heap.size w1 v' (R.map fun i => visitV (bOf S.pl i)))
    (o1 : ∀ g, v'.ownBlock = some g → vr.ownBlock = some g ∨ w.heap.size ≤ g) (rl : ∀ i, i ∈ R → i < S.pl.length) : Rep X K v' vw cs (w1.setCell ⟨X.m, 1, none⟩ v') { S with reached := R } := by
  have hm1 : w1.heap[X.m]? = some (.cells #[.int .i64 S.pos, vr, vw] tS (0, 0)) := (hg.block _ h.mlt (fun e => (h.dis.kr _ e.symm).2.1 rfl)).trans h.hm
  have hmo : v'.ownBlock ≠ some X.m := fun e => by
    rcases o1 _ e with e | e
    · exact (h.dis.kr _ e).2.1 rfl
    · have := h.mlt; omega
  have hmw : vw.ownBlock ≠ some X.m := fun e => (h.dis.kw _ e).2.1 rfl
  have r2 : RowV tG X.w0.heap.size w1 vw (cs.map takeV) := RowR.other (u := vr) h.rw hg (fun g e e' => (h.dis.kr g e').2.2.2.1 e)
  refine h.upd ?_ ?_ (mset hm1 1) (ownsRow_setCell_other r1 (a := ⟨X.m, 1, none⟩) hmo _) (ownsRow_setCell_other r2 (a := ⟨X.m, 1, none⟩) hmw _) o1 (fun g e => .inl e) ?_ h.cl h.cw rl
  · have hB : Below X.w0.heap.size w w1 := (Below.refl _ _).grown hg h.bel.size (fun g e => (h.own_r e).1)
    exact hB.setCell (p := ⟨X.m, 1, none⟩) h.dis.bm _
  · intro b hb h1 h2 h3
    rw [Below.heap_setCell _ _ _ _ h1]
    exact hg.block b hb (fun e => h2 e.symm)
  · intro g e e'
    rcases o1 g e with e1 | e1
    · exact (h.dis.kr g e1).2.2.2.1 e'
    · have := (h.own_w e').2; omega
theorem Rep.setWaiting (h : Rep X K vr vw cs w S) {w1 : World} {v' : Value} {W cs' : List Nat} (hg : w.grownBy w1 vw.ownBlock) (r2 : RowV tG X.w0.heap.size w1 v' (cs'.map takeV))
    (o2 : ∀ g, v'.ownBlock = some g → vw.ownBlock = some g ∨ w.heap.size ≤ g) (cl : cs'.length = W.length) (cw : ∀ q (h : q < cs'.length) (h' : q < W.length), ∃ p, S.pl[W[q]]? = some p ∧ TakeK X K S.pl p cs'[q]) : Rep X K vr v' cs' (w1.setCell ⟨X.m, 2, none⟩ v') { S with waiting := W } := by
  have hm1 : w1.heap[X.m]? = some (.cells #[.int .i64 S.pos, vr, vw] tS (0, 0)) := (hg.block _ h.mlt (fun e => (h.dis.kw _ e.symm).2.1 rfl)).trans h.hm
  have hmo : v'.ownBlock ≠ some X.m := fun e => by
    rcases o2 _ e with e | e
    · exact (h.dis.kw _ e).2.1 rfl
    · have := h.mlt; omega
  have hmw : vr.ownBlock ≠ some X.m := fun e => (h.dis.kr _ e).2.1 rfl
  have r1 : RowV tF X.w0.heap.size w1 vr (S.reached.map fun i => visitV (bOf S.pl i)) := RowR.other (u := vw) h.rr hg (fun g e e' => (h.dis.kr g e).2.2.2.1 e')
  refine h.upd ?_ ?_ (mset hm1 2) (ownsRow_setCell_other r1 (a := ⟨X.m, 2, none⟩) hmw _) (ownsRow_setCell_other r2 (a := ⟨X.m, 2, none⟩) hmo _) (fun g e => .inl e) o2 ?_ cl cw h.rl
  · have hB : Below X.w0.heap.size w w1 := (Below.refl _ _).grown hg h.bel.size (fun g e => (h.own_w e).1)
    exact hB.setCell (p := ⟨X.m, 2, none⟩) h.dis.bm _
  · intro b hb h1 h2 h3
    rw [Below.heap_setCell _ _ _ _ h1]
    exact hg.block b hb (fun e => h3 e.symm)
  · intro g e e'
    rcases o2 g e' with e1 | e1
    · exact (h.dis.kr g e).2.2.2.1 e1
    · have := (h.own_r e).2; omega
theorem Rep.setPos (h : Rep X K vr vw cs w S) (k : Nat) : Rep X K vr vw cs (w.setCell ⟨X.m, 0, none⟩ (.int .i64 k)) { S with pos := k } := by
  have hmw : vw.ownBlock ≠ some X.m := fun e => (h.dis.kw _ e).2.1 rfl
  have hmr : vr.ownBlock ≠ some X.m := fun e => (h.dis.kr _ e).2.1 rfl
  exact h.upd ((Below.refl _ _).setCell (p := ⟨X.m, 0, none⟩) h.dis.bm _) (fun b hb h1 _ _ => Below.heap_setCell _ _ _ _ h1) (mset h.hm 0) (ownsRow_setCell_other h.rr (a := ⟨X.m, 0, none⟩) hmr _) (ownsRow_setCell_other h.rw (a := ⟨X.m, 0, none⟩) hmw _) (fun g e => .inl e) (fun g e => .inl e) (fun g e => (h.dis.kr g e).2.2.2.1) h.cl h.cw h.rl
/-- a block of one cell turns, that is neither the matching's nor a row's -/
theorem Rep.keep (h : Rep X K vr vw cs w S) {b : Nat} {u : Value} (hk : K b = none) (hm : b ≠ X.m) (hr : vr.ownBlock ≠ some b) (hw : vw.ownBlock ≠ some b) (hB : X.w0.heap.size ≤ b) :
    Below X.w0.heap.size X.w0 (w.setCell ⟨b, 0, none⟩ u) ∧ (∀ x o, K x = some o → (w.setCell ⟨b, 0, none⟩ u).heap[x]? = some o) ∧ (w.setCell ⟨b, 0, none⟩ u).heap[X.m]? = some (.cells #[.int .i64 S.pos, vr, vw] tS (0, 0)) ∧
      RowV tF X.w0.heap.size (w.setCell ⟨b, 0, none⟩ u) vr (S.reached.map fun i => visitV (bOf S.pl i)) ∧ RowV tG X.w0.heap.size (w.setCell ⟨b, 0, none⟩ u) vw (cs.map takeV) :=
  ⟨h.bel.setCell (p := ⟨b, 0, none⟩) hB _, fun x o e => by rw [Below.heap_setCell _ _ _ _ (fun e' => by have e2 : x = b := e'; rw [e2, hk] at e; cases e)]; exact h.hk x o e, by rw [Below.heap_setCell _ _ _ _ (fun e => hm e.symm)]; exact h.hm,
    ownsRow_setCell_other h.rr (a := ⟨b, 0, none⟩) hr _, ownsRow_setCell_other h.rw (a := ⟨b, 0, none⟩) hw _⟩
theorem Rep.setEnd (h : Rep X K vr vw cs w S) (n : Int) : Rep X K vr vw cs (w.setCell ⟨X.e, 0, none⟩ (.int .i64 n)) { S with en := n } := by
  have hme := h.dis.me
  obtain ⟨k1, k2, k3, k4, k5⟩ := h.keep (b := X.e) (u := .int .i64 n) h.dis.ke (by omega) (fun e => (h.dis.kr _ e).2.2.1 rfl) (fun e => (h.dis.kw _ e).2.2.1 rfl) (by have := h.dis.bm; omega)
  refine ⟨h.dis, k1, k2, k3, one_setCell h.he, h.hv, k4, k5, h.cl, h.cw, h.pk, fun p hp => ?_, fun p hp => ?_, h.rd, h.rl, h.kc⟩
  · have := h.dis.ep p hp
    obtain ⟨g, a, b⟩ := h.hg p hp
    exact ⟨g, by rw [Below.heap_setCell _ _ _ _ (by show p.b + 4 ≠ X.e; omega)]; exact a, b⟩
  · have := h.dis.ep p hp
    rw [Below.heap_setCell _ _ _ _ (by show p.b + 7 ≠ X.e; omega)]; exact h.h7 p hp
theorem set_mem {L : List Pl} {i : Nat} {p' q : Pl} (hq : q ∈ L.set i p') : (q = p' ∧ i < L.length) ∨ ∃ j, j ≠ i ∧ L[j]? = some q := by
  obtain ⟨j, hj, rfl⟩ := List.getElem_of_mem hq
  rw [List.length_set] at hj
  by_cases e : i = j
  · subst e; exact .inl ⟨by simp, hj⟩
  · refine .inr ⟨j, fun e' => e e'.symm, ?_⟩
    rw [List.getElem_set_ne e]; exact List.getElem?_eq_getElem hj
/-- what a place is turns, but for where it lies, its pattern and its end -/
theorem Rep.setPl (h : Rep X K vr vw cs w S) {i : Nat} {p p' : Pl} (hp : S.pl[i]? = some p) (hb : p'.b = p.b) (ht : p'.t = p.t) (hn : p'.nx = p.nx) (hr : p'.r = p.r) (he : p'.e = p.e) {w2 : World} {j : Nat} (hj : j = 4 ∨ j = 7)
    (hw2 : ∃ u, w2 = w.setCell ⟨p.b + j, 0, none⟩ u)
    (h4 : ∃ g, w2.heap[p.b + 4]? = some (bx g tF) ∧ (p'.sh = none → g = .nilFunc) ∧ ∀ sh, p'.sh = some sh → VsK X K S.pl p g sh ∧ (∀ l, sh = .ways l → ∀ r, r ∈ l → r ≤ S.pl.length))
    (h7 : w2.heap[p.b + 7]? = some (bx (.int .i64 p'.vis) 3)) : Rep X K vr vw cs w2 { S with pl := S.pl.set i p' } := by
  obtain ⟨u, rfl⟩ := hw2
  have hpm := List.mem_of_getElem? hp
  have hil := (List.getElem?_eq_some_iff.1 hp).1
  obtain ⟨d1, d2, d3, d4, d5, d6, d7, d8, d9⟩ := h.dis
  have hep := d5 p hpm
  have hkn : K (p.b + j) = none := by rcases hj with rfl | rfl; exact (d6 p hpm).1; exact (d6 p hpm).2
  obtain ⟨k1, k2, k3, k4, k5⟩ := h.keep (b := p.b + j) (u := u) hkn (by omega) (fun e => by have := (d8 _ e).2.2.2.2 p hpm; omega) (fun e => by have := (d9 _ e).2.2.2 p hpm; omega) (by omega)
  have hs : Same S.pl (S.pl.set i p') := same_set hp hb
  have hlen : (S.pl.set i p').length = S.pl.length := List.length_set
  have hmap : (S.reached.map fun k => visitV (bOf (S.pl.set i p') k)) = S.reached.map fun k => visitV (bOf S.pl k) := by
    apply List.map_congr_left
    intro k _
    by_cases hk : k < S.pl.length
    · rw [hs k hk]
    · unfold bOf; rw [List.getElem?_eq_none (by omega), List.getElem?_eq_none (by omega)]
  have far : ∀ (k : Nat) (q : Pl), k ≠ i → S.pl[k]? = some q → ∀ c, c < 8 → q.b + c ≠ p.b + j := fun k q hk hq c hc => by
    have := h.dis.far hq hp hk; omega
  have hlist : ∀ q, q ∈ S.pl.set i p' → (q = p') ∨ ∃ k, k ≠ i ∧ S.pl[k]? = some q := fun q hq => by
    rcases set_mem hq with ⟨e, _⟩ | e
    · exact .inl e
    · exact .inr e
  have bk : ∀ (k : Nat) (q : Pl), (S.pl.set i p')[k]? = some q → ∃ q0, S.pl[k]? = some q0 ∧ q.b = q0.b := fun k q hq => by
    rcases set_back hp hq with ⟨rfl, rfl⟩ | ⟨_, hq⟩
    · exact ⟨p, hp, hb⟩
    · exact ⟨q, hq, rfl⟩
  refine ⟨⟨d1, d2, d3, d4, fun q hq => ?_, fun q hq => ?_, fun a b q r hq hr' hab => ?_, fun g hg => ?_, fun g hg => ?_⟩, k1, k2, k3, ?_, h.hv, ?_, k5, h.cl, fun q h1 h2 => ?_, fun q hq => ?_, fun q hq => ?_, fun q hq => ?_, fun q hq => ?_, fun k hk => by show k < (S.pl.set i p').length; rw [hlen]; exact h.rl k hk, h.kc⟩
  · rcases hlist q hq with rfl | ⟨k, _, hq⟩
    · rw [hb]; exact hep
    · exact d5 q (List.mem_of_getElem? hq)
  · rcases hlist q hq with rfl | ⟨k, _, hq⟩
    · rw [hb]; exact d6 p hpm
    · exact d6 q (List.mem_of_getElem? hq)
  · obtain ⟨q0, a1, a2⟩ := bk a q hq
    obtain ⟨r0, b1, b2⟩ := bk b r hr'
    rw [a2, b2]; exact d7 a b q0 r0 a1 b1 hab
  · have := d8 g hg
    refine ⟨this.1, this.2.1, this.2.2.1, this.2.2.2.1, fun q hq => ?_⟩
    rcases hlist q hq with rfl | ⟨k, _, hq⟩
    · rw [hb]; exact this.2.2.2.2 p hpm
    · exact this.2.2.2.2 q (List.mem_of_getElem? hq)
  · have := d9 g hg
    refine ⟨this.1, this.2.1, this.2.2.1, fun q hq => ?_⟩
    rcases hlist q hq with rfl | ⟨k, _, hq⟩
    · rw [hb]; exact this.2.2.2 p hpm
    · exact this.2.2.2 q (List.mem_of_getElem? hq)
  · rw [Below.heap_setCell _ _ _ _ (by show X.e ≠ p.b + j; omega)]; exact h.he
  · show RowV tF X.w0.heap.size _ vr (S.reached.map fun k => visitV (bOf (S.pl.set i p') k))
    rw [hmap]; exact k4
  · obtain ⟨q0, a, b⟩ := h.cw q h1 h2
    have hq0 := (h.pk q0 (List.mem_of_getElem? a)).2
    by_cases e : S.waiting[q] = i
    · rw [e] at a
      rw [hp] at a; cases a
      exact ⟨p', by show (S.pl.set i p')[S.waiting[q]]? = _; rw [e, List.getElem?_set_self hil], b.same hs hq0 ht hn⟩
    · exact ⟨q0, by show (S.pl.set i p')[S.waiting[q]]? = _; rw [List.getElem?_set_ne (fun e' => e e'.symm)]; exact a, b.same hs hq0 rfl rfl⟩
  · rcases hlist q hq with rfl | ⟨k, _, hq⟩
    · have := h.pk p hpm
      exact ⟨this.1.same hs this.2 hb hn hr, by rw [hn]; show _ ≤ (S.pl.set i q).length; rw [hlen]; exact this.2⟩
    · have := h.pk q (List.mem_of_getElem? hq)
      exact ⟨this.1.same hs this.2 rfl rfl rfl, by show _ ≤ (S.pl.set i p').length; rw [hlen]; exact this.2⟩
  · rcases hlist q hq with rfl | ⟨k, hki, hq⟩
    · obtain ⟨g, a, b, c⟩ := h4
      refine ⟨g, by rw [hb]; exact a, b, fun sh e => ?_⟩
      obtain ⟨c1, c2⟩ := c sh e
      exact ⟨c1.same hs (h.pk p hpm).2 c2 ht hn, fun l e' r hr' => by show r ≤ (S.pl.set i q).length; rw [hlen]; exact c2 l e' r hr'⟩
    · obtain ⟨g, a, b, c⟩ := h.hg q (List.mem_of_getElem? hq)
      refine ⟨g, by rw [Below.heap_setCell _ _ _ _ (far k q hki hq 4 (by omega))]; exact a, b, fun sh e => ?_⟩
      obtain ⟨c1, c2⟩ := c sh e
      exact ⟨c1.same hs (h.pk q (List.mem_of_getElem? hq)).2 c2 rfl rfl, fun l e' r hr' => by show r ≤ (S.pl.set i p').length; rw [hlen]; exact c2 l e' r hr'⟩
  · rcases hlist q hq with rfl | ⟨k, hki, hq⟩
    · rw [hb]; exact h7
    · rw [Below.heap_setCell _ _ _ _ (far k q hki hq 7 (by omega))]; exact h.h7 q (List.mem_of_getElem? hq)
  · rcases hlist q hq with rfl | ⟨k, hki, hq⟩
    · have := h.rd p hpm; rw [he, hr, ht]; exact this
    · exact h.rd q (List.mem_of_getElem? hq)
theorem Rep.setVis (h : Rep X K vr vw cs w S) {i : Nat} {p : Pl} (hp : S.pl[i]? = some p) (n : Int) : Rep X K vr vw cs (w.setCell ⟨p.b + 7, 0, none⟩ (.int .i64 n)) { S with pl := S.pl.set i { p with vis := n } } := by
  have hpm := List.mem_of_getElem? hp
  refine h.setPl (p' := { p with vis := n }) hp rfl rfl rfl rfl rfl (.inr rfl) ⟨_, rfl⟩ ?_ (one_setCell (h.h7 p hpm))
  obtain ⟨g, a, b⟩ := h.hg p hpm
  exact ⟨g, by rw [Below.heap_setCell _ _ _ _ (by show p.b + 4 ≠ p.b + 7; omega)]; exact a, b⟩
theorem Rep.setSh (h : Rep X K vr vw cs w S) {i : Nat} {p : Pl} (hp : S.pl[i]? = some p) {g : Value} {sh : Vs} (hv : VsK X K S.pl p g sh) (hl : ∀ l, sh = .ways l → ∀ r, r ∈ l → r ≤ S.pl.length) : Rep X K vr vw cs (w.setCell ⟨p.b + 4, 0, none⟩ g) { S with pl := S.pl.set i { p with sh := some sh } } := by
  have hpm := List.mem_of_getElem? hp
  obtain ⟨g0, a, _⟩ := h.hg p hpm
  refine h.setPl (p' := { p with sh := some sh }) hp rfl rfl rfl rfl rfl (.inl rfl) ⟨_, rfl⟩ ⟨g, one_setCell a, fun e => (by cases e), fun sh' e => (by cases e; exact ⟨hv, hl⟩)⟩ ?_
  rw [Below.heap_setCell _ _ _ _ (by show p.b + 7 ≠ p.b + 4; omega)]; exact h.h7 p hpm
/-- a new place, in eight new blocks -/
theorem Rep.place (h : Rep X K vr vw cs w S) {t : Pat} {e : Nat} {r : PatR} {nx b : Nat} (hb : b = w.heap.size) (hB : Below w.heap.size w w') (hnx : nx ≤ S.pl.length) (hrd : RdN patK e X.w0 r t ∧ t.x.text.size ≤ 9223372036854775807 ∧ TxFit e t.kids)
    (b0 : w'.heap[b]? = some (bx (ptr X.m) tM)) (b1 : w'.heap[b + 1]? = some (.cells #[.int .i64 r.op, .string r.text, r.kv] 82 (0, 0))) (b2 : w'.heap[b + 2]? = some (bx (refV X S.pl nx) tF)) (b3 : w'.heap[b + 3]? = some (bx (placeV b) tF))
    (b4 : w'.heap[b + 4]? = some (bx .nilFunc tF)) (b5 : w'.heap[b + 5]? = some (bx (ptr X.m) tM)) (b6 : w'.heap[b + 6]? = some (bx (visitV b) tF)) (b7 : w'.heap[b + 7]? = some (bx (.int .i64 (-1)) 3)) :
    ∃ K', K.le K' ∧ (∀ x, x < w.heap.size → K' x = K x) ∧ Rep X K' vr vw cs w' { S with pl := S.pl ++ [⟨t, e, r, nx, b, -1, none⟩] } := by
  obtain ⟨K', hK'⟩ : ∃ K' : Kn, K' = fun x => if x = b then some (bx (ptr X.m) tM) else if x = b + 1 then some (.cells #[.int .i64 r.op, .string r.text, r.kv] 82 (0, 0)) else if x = b + 2 then some (bx (refV X S.pl nx) tF) else if x = b + 3 then some (bx (placeV b) tF) else if x = b + 5 then some (bx (ptr X.m) tM) else if x = b + 6 then some (bx (visitV b) tF) else K x := ⟨_, rfl⟩
  have hfree : ∀ x, b ≤ x → K x = none := fun x hx => h.new_free (by omega)
  have hle : K.le K' := fun x o hx => by
    have hlt := blk_lt (h.hk x o hx)
    rw [hK']; dsimp only
    rw [if_neg (by omega), if_neg (by omega), if_neg (by omega), if_neg (by omega), if_neg (by omega), if_neg (by omega)]; exact hx
  have h1 : Rep X K' vr vw cs w' S := h.turn hB hle fun x o hx => by
    rw [hK'] at hx; dsimp only at hx
    split at hx
    · rename_i e'; cases hx; subst e'; exact .inr ⟨by omega, b0, rfl⟩
    split at hx
    · rename_i e'; cases hx; subst e'; exact .inr ⟨by omega, b1, rfl⟩
    split at hx
    · rename_i e'; cases hx; subst e'; exact .inr ⟨by omega, b2, rfl⟩
    split at hx
    · rename_i e'; cases hx; subst e'; exact .inr ⟨by omega, b3, rfl⟩
    split at hx
    · rename_i e'; cases hx; subst e'; exact .inr ⟨by omega, b5, rfl⟩
    split at hx
    · rename_i e'; cases hx; subst e'; exact .inr ⟨by omega, b6, rfl⟩
    · exact .inl hx
  refine ⟨K', hle, fun x hx => by
    rw [hK']; dsimp only
    rw [if_neg (by omega), if_neg (by omega), if_neg (by omega), if_neg (by omega), if_neg (by omega), if_neg (by omega)], ?_⟩
  obtain ⟨d1, d2, d3, d4, d5, d6, d7, d8, d9⟩ := h1.dis
  have hs : Same S.pl (S.pl ++ [⟨t, e, r, nx, b, -1, none⟩]) := same_app _ _
  have hlen : (S.pl ++ [(⟨t, e, r, nx, b, -1, none⟩ : Pl)]).length = S.pl.length + 1 := by simp
  have hmap : (S.reached.map fun k => visitV (bOf (S.pl ++ [⟨t, e, r, nx, b, -1, none⟩]) k)) = S.reached.map fun k => visitV (bOf S.pl k) := by
    apply List.map_congr_left
    intro k hk
    rw [hs k (h.rl k hk)]
  have hlist : ∀ q, q ∈ S.pl ++ [(⟨t, e, r, nx, b, -1, none⟩ : Pl)] → q ∈ S.pl ∨ q = ⟨t, e, r, nx, b, -1, none⟩ := fun q hq => by simpa using hq
  have pbl : ∀ q, q ∈ S.pl → q.b + 8 ≤ b := fun q hq => by
    have := blk_lt (h.h7 q hq); omega
  refine ⟨⟨d1, d2, d3, d4, fun q hq => ?_, fun q hq => ?_, fun i j q q' hq hq' hij => ?_, fun g hg => ?_, fun g hg => ?_⟩, h1.bel, h1.hk, h1.hm, h1.he, h1.hv, ?_, h1.rw, h1.cl, fun q h2 h3 => ?_, fun q hq => ?_, fun q hq => ?_, fun q hq => ?_, fun q hq => ?_, fun k hk => by have := h.rl k hk; show k < (S.pl ++ _).length; rw [hlen]; omega, h1.kc⟩
  · rcases hlist q hq with hq | rfl
    · exact d5 q hq
    · have := blk_lt h.he; show X.e < b; omega
  · rcases hlist q hq with hq | rfl
    · exact d6 q hq
    · refine ⟨?_, ?_⟩
      · show K' (b + 4) = none
        rw [hK']; dsimp only
        rw [if_neg (by omega), if_neg (by omega), if_neg (by omega), if_neg (by omega), if_neg (by omega), if_neg (by omega)]; exact hfree _ (by omega)
      · show K' (b + 7) = none
        rw [hK']; dsimp only
        rw [if_neg (by omega), if_neg (by omega), if_neg (by omega), if_neg (by omega), if_neg (by omega), if_neg (by omega)]; exact hfree _ (by omega)
  · have hil := (List.getElem?_eq_some_iff.1 hq').1
    rw [hlen] at hil
    rw [List.getElem?_append_left (by omega)] at hq
    by_cases hj : j < S.pl.length
    · rw [List.getElem?_append_left hj] at hq'; exact d7 i j q q' hq hq' hij
    · have e' : j = S.pl.length := by omega
      subst e'
      simp at hq'
      subst hq'
      exact pbl q (List.mem_of_getElem? hq)
  · have h9 := d8 g hg
    refine ⟨h9.1, h9.2.1, h9.2.2.1, h9.2.2.2.1, fun q hq => ?_⟩
    rcases hlist q hq with hq | rfl
    · exact h9.2.2.2.2 q hq
    · have := (h.own_r hg).2; exact ⟨by show g ≠ b + 4; omega, by show g ≠ b + 7; omega⟩
  · have h9 := d9 g hg
    refine ⟨h9.1, h9.2.1, h9.2.2.1, fun q hq => ?_⟩
    rcases hlist q hq with hq | rfl
    · exact h9.2.2.2 q hq
    · have := (h.own_w hg).2; exact ⟨by show g ≠ b + 4; omega, by show g ≠ b + 7; omega⟩
  · show RowV tF X.w0.heap.size _ vr (S.reached.map fun k => visitV (bOf (S.pl ++ [⟨t, e, r, nx, b, -1, none⟩]) k))
    rw [hmap]; exact h1.rr
  · obtain ⟨q0, a, b'⟩ := h1.cw q h2 h3
    exact ⟨q0, by show (S.pl ++ _)[S.waiting[q]]? = _; rw [List.getElem?_append_left (List.getElem?_eq_some_iff.1 a).1]; exact a, b'.same hs (h1.pk q0 (List.mem_of_getElem? a)).2 rfl rfl⟩
  · rcases hlist q hq with hq | rfl
    · have := h1.pk q hq
      exact ⟨this.1.same hs this.2 rfl rfl rfl, by show _ ≤ (S.pl ++ _).length; rw [hlen]; omega⟩
    · refine ⟨⟨?_, ?_, ?_, ?_, ?_, ?_⟩, by show nx ≤ (S.pl ++ _).length; rw [hlen]; omega⟩
      · show K' b = _; rw [hK']; dsimp only; rw [if_pos rfl]
      · show K' (b + 1) = _; rw [hK']; dsimp only; rw [if_neg (by omega), if_pos rfl]
      · show K' (b + 2) = some (bx (refV X (S.pl ++ _) nx) tF); rw [ref_same hs hnx, hK']; dsimp only; rw [if_neg (by omega), if_neg (by omega), if_pos rfl]
      · show K' (b + 3) = _; rw [hK']; dsimp only; rw [if_neg (by omega), if_neg (by omega), if_neg (by omega), if_pos rfl]
      · show K' (b + 5) = _; rw [hK']; dsimp only; rw [if_neg (by omega), if_neg (by omega), if_neg (by omega), if_neg (by omega), if_pos rfl]
      · show K' (b + 6) = _; rw [hK']; dsimp only; rw [if_neg (by omega), if_neg (by omega), if_neg (by omega), if_neg (by omega), if_neg (by omega), if_pos rfl]
  · rcases hlist q hq with hq | rfl
    · obtain ⟨g, a, b', c⟩ := h1.hg q hq
      refine ⟨g, a, b', fun sh e' => ?_⟩
      obtain ⟨c1, c2⟩ := c sh e'
      exact ⟨c1.same hs (h1.pk q hq).2 c2 rfl rfl, fun l e2 r' hr' => by have := c2 l e2 r' hr'; show r' ≤ (S.pl ++ _).length; rw [hlen]; omega⟩
    · exact ⟨.nilFunc, b4, fun _ => rfl, fun sh e' => by cases e'⟩
  · rcases hlist q hq with hq | rfl
    · exact h1.h7 q hq
    · exact b7
  · rcases hlist q hq with hq | rfl
    · exact h1.rd q hq
    · exact hrd
/-- a block that is there and that nobody turns is one that stays -/
theorem Rep.addOld (h : Rep X K vr vw cs w S) {b : Nat} {o : Obj} (ho : w.heap[b]? = some o) (hc : o.isCells = true) (hk : K b = none) (hm : b ≠ X.m) (he : b ≠ X.e) (hr : vr.ownBlock ≠ some b) (hw : vw.ownBlock ≠ some b) (hp : ∀ p, p ∈ S.pl → b ≠ p.b + 4 ∧ b ≠ p.b + 7) : Rep X (K.add b o) vr vw cs w S := by
  have hle : K.le (K.add b o) := Kn.le_add hk
  have hne : ∀ x, x ≠ b → K.add b o x = K x := fun x hx => if_neg hx
  obtain ⟨d1, d2, d3, d4, d5, d6, d7, d8, d9⟩ := h.dis
  refine ⟨⟨d1, d2, by rw [hne _ (fun e => hm e.symm)]; exact d3, by rw [hne _ (fun e => he e.symm)]; exact d4, d5, fun p hpm => ⟨by rw [hne _ (fun e => (hp p hpm).1 e.symm)]; exact (d6 p hpm).1, by rw [hne _ (fun e => (hp p hpm).2 e.symm)]; exact (d6 p hpm).2⟩, d7, fun g hg => ?_, fun g hg => ?_⟩, h.bel, fun x o' hx => ?_, h.hm, h.he, hle _ _ h.hv, h.rr, h.rw, h.cl, fun q h1 h2 => ?_, fun p hpm => ⟨(h.pk p hpm).1.mono hle, (h.pk p hpm).2⟩, fun p hpm => ?_, h.h7, h.rd, h.rl, fun x o' hx => ?_⟩
  · have := d8 g hg
    exact ⟨by rw [hne _ (fun e => hr (by rw [hg, e]))]; exact this.1, this.2⟩
  · have := d9 g hg
    exact ⟨by rw [hne _ (fun e => hw (by rw [hg, e]))]; exact this.1, this.2⟩
  · unfold Kn.add at hx
    split at hx
    · rename_i e; cases hx; rw [e]; exact ho
    · exact h.hk x o' hx
  · obtain ⟨p, a, b'⟩ := h.cw q h1 h2; exact ⟨p, a, b'.mono hle⟩
  · obtain ⟨g, a, b', c⟩ := h.hg p hpm
    exact ⟨g, a, b', fun sh e => ⟨(c sh e).1.mono hle, (c sh e).2⟩⟩
  · unfold Kn.add at hx
    split at hx
    · cases hx; exact hc
    · exact h.kc x o' hx
end
end Go.Proofs.YtdmccopggmienaaGreat

/- CHAPTER 5, impl: the matching machine's closures: a place that is called, the end, a wait. -/
namespace Go.Proofs.YtdmccopggmienaaGreat
open Go.RowKit Mac

theorem infoF : (Tryz.prog.info? 1).map (fun i => (i.zero, i.size, i.bytes)) = some (some .nilFunc, 1, 8) := by kernel_rfl
theorem infoG : (Tryz.prog.info? 126).map (fun i => (i.zero, i.size, i.bytes)) = some (some .nilFunc, 1, 8) := by kernel_rfl
/-- 'own = append(own, u)' of a function value at a step of a region that draws its order; own may be nil -/
theorem step_fn_append {w : World} {ops : Array Oper} {o : Oper} {a : Act} {K : Act → World → Prop} {Q : Exit → Act → World → Prop} {E : Prop} (hgd : o.guard = none) (s x : Operand) (t te : TypeId) (i0 : TypeInfo)
    (ho : o.op = .call { callee := .builtin .append, args := #[s, x], argTypes := #[t, t] }) (hu : Tryz.prog.underlying t = some (.slice te)) (hi : Tryz.prog.info? te = some i0) (hz0 : i0.zero = some .nilFunc) (hz1 : i0.size = 1) (hz2 : i0.bytes = 8)
    (B n : Nat) (v : Value) (L : List Value) (hs : a.eval s = v) (hrow : RowV te B w v L) (hn : L.length = n)
    (y : Value) (ad : Addr) (c' : Nat) (hx : a.eval x = .slice (some ad) 1 c') (hnews : w.cell? ad = some y) (hy : y.oneCell' = true)
    (hlen : n + 1 ≤ 2147483648) (hbase : B ≤ w.heap.size) (q : Nat) (hq : q = n + 1)
    (h : ∀ g' c'' w', RowV te B w' (.slice (some ⟨g', 0, none⟩) q c'') (L ++ [y]) → w.grownBy w' v.ownBlock → (some g' = v.ownBlock ∨ g' = w.heap.size) → K (a.put o.dst (.slice (some ⟨g', 0, none⟩) q c'')) w') :
    if Region.wanted o (yielded ops a.tmps) = true then Oper.wp Tryz.prog o a w K Q else E := by
  have hw : Region.wanted o (yielded ops a.tmps) = true := by simp [Region.wanted, hgd]
  rw [if_pos hw]
  subst hn
  subst hq
  obtain ⟨v', w', hr, h2, h3, h4, h5⟩ := run_append_own_at (P := Tryz.prog) w B t o.type te i0 .nilFunc 1 8 hu hi hz0 hz1 hz2 rfl (by decide) v L.length (L.flatMap fun u => [u]) hrow ad 1 c' [y] rfl (fun j u hj => by
      cases j with
      | zero => simp at hj; subst hj; exact hnews
      | succ j => simp at hj) (fun u hu => by rw [List.mem_singleton.1 hu]; exact hy) (by unfold maxLen; omega) (by omega) hbase
  unfold Oper.wp execOp
  simp only [ho, resolve, invoke, builtin, Sem.run_bind, Sem.run_pure, Result.andThen_ok, List.map_toArray, List.map_cons, List.map_nil, hs, hx, hr]
  rcases h2.2 with ⟨_, h6⟩ | ⟨g', cap', cur, h6, _⟩
  · omega
  · subst h6
    refine h g' cap' w' ?_ h3 ?_
    · unfold RowV RowR
      rw [List.length_append, List.flatMap_append, List.flatMap_singleton]
      exact h2
    · rcases h5 with h6 | h6
      · exact .inl h6
      · exact .inr (Option.some.inj h6)
section
variable {X : Cx} {K K' : Kn} {vr vw : Value} {cs : List Nat} {w w' : World} {S : Mc}
/-- what a call of a ref leaves -/
def CallP (X : Cx) (K : Kn) (vw : Value) (cs : List Nat) (S : Mc) (r : Nat) (e : Ending) (w' : World) : Prop := e = .returned (.tuple #[]) ∧ ∃ vr', Rep X K vr' vw cs w' (call S r)
/-- the matching's cells -/
theorem Rep.cells (h : Rep X K vr vw cs w S) : (w.cell? ⟨X.m, 0, none⟩ = some (.int .i64 S.pos) ∧ w.cell? ⟨X.m, 1, none⟩ = some vr ∧ w.cell? ⟨X.m, 2, none⟩ = some vw) ∧ ∀ j, w.frozen? ⟨X.m, j, none⟩ = false := by
  refine ⟨⟨?_, ?_, ?_⟩, fun j => ?_⟩
  · rw [cell_of_row _ X.m 0 _ _ _ h.hm]; rfl
  · rw [cell_of_row _ X.m 1 _ _ _ h.hm]; rfl
  · rw [cell_of_row _ X.m 2 _ _ _ h.hm]; rfl
  · exact frozen_of_row _ X.m j _ _ h.hm
set_option maxRecDepth 100000 in
set_option maxHeartbeats 1000000 in
theorem end_any (h : Rep X K vr vw cs w S) : Calls Tryz.prog 95 #[ptr X.mv, ptr X.e] w (CallP X K vw cs S 0) := by
  have c1 := cell_of_one (h.hk _ _ h.hv)
  have c2 := h.cells.1.1
  have c3 := cell_of_one h.he
  have f3 := free_of_one h.he
  have HR := Lib.hid (h.setEnd S.pos)
  clear h
  go_enter Tryz.func95, Tryz.ntmps95
  go_wp2
  go_end0
  exact ⟨rfl, _, HR.out⟩
set_option maxRecDepth 100000 in
set_option maxHeartbeats 2000000 in
theorem place_any (h : Rep X K vr vw cs w S) {j : Nat} {p : Pl} (hp : S.pl[j]? = some p) (hn : S.reached.length + 1 ≤ 2147483648) : Calls Tryz.prog 127 #[ptr (p.b + 7), ptr (p.b + 5), ptr (p.b + 6)] w (CallP X K vw cs S (j + 1)) := by
  have hpm := List.mem_of_getElem? hp
  have c7 := cell_of_one (h.h7 p hpm)
  have f7 := free_of_one (h.h7 p hpm)
  have c5 := cell_of_one (h.hk _ _ (h.pk p hpm).1.k5)
  have c6 := cell_of_one (h.hk _ _ (h.pk p hpm).1.k6)
  obtain ⟨⟨m0, m1, _⟩, fm⟩ := h.cells
  have hil := (List.getElem?_eq_some_iff.1 hp).1
  by_cases hv : p.vis < S.pos
  · have hcall : call S (j + 1) = { S with pl := S.pl.set j { p with vis := S.pos }, reached := S.reached ++ [j] } := by simp only [call, hp]; rw [if_pos hv]
    have HV := Lib.hid (fun n => (h.below (below_drewN (Below.refl _ _) n)).setVis hp S.pos)
    have HB := Lib.hid hcall
    have HN := Lib.hid hn
    have HP := Lib.hid hp
    obtain ⟨i0, hi, hz0, hz1, hz2⟩ := info_parts infoF
    clear h hn hcall hp
    go_enter Tryz.func127, Tryz.ntmps127
    go_wp2
    go_quiet (fail)
    go_wp2
    obtain ⟨W1, hW1⟩ : ∃ W1, W1 = (w.drewN nq).setCell ⟨p.b + 7, 0, none⟩ (.int .i64 S.pos) := ⟨_, rfl⟩
    have h1 := HV.out nq
    rw [← hW1] at h1 ⊢
    have hpm1 : ({ p with vis := S.pos } : Pl) ∈ S.pl.set j { p with vis := S.pos } := List.mem_of_getElem? (by rw [List.getElem?_set_self hil])
    have e5 := cell_of_one (h1.hk _ _ (h1.pk _ hpm1).1.k5)
    have e6 := cell_of_one (h1.hk _ _ (h1.pk _ hpm1).1.k6)
    obtain ⟨⟨n0, n1, _⟩, fn⟩ := h1.cells
    have fn1 := fn 1
    have hmlt := h1.mlt
    have hq5 : p.b + 5 < W1.heap.size := blk_lt (h1.hk _ _ (h1.pk _ hpm1).1.k5)
    have hq6 : p.b + 6 < W1.heap.size := blk_lt (h1.hk _ _ (h1.pk _ hpm1).1.k6)
    have H1 := Lib.hid h1
    have HK5 := Lib.hid (h1.pk _ hpm1).1.k5
    have HK6 := Lib.hid (h1.pk _ hpm1).1.k6
    clear hW1 h1 HV fn hpm1 c7 f7 c5 c6 m0 m1 fm hpm
    have hmp5 : X.m ≠ p.b + 5 := fun e => by have := HK5.out; rw [← e, H1.out.dis.km] at this; cases this
    have hmp6 : X.m ≠ p.b + 6 := fun e => by have := HK6.out; rw [← e, H1.out.dis.km] at this; cases this
    refine wp_region_held_drew (S := fun w' => w'.cell? ⟨p.b + 5, 0, none⟩ = some (ptr X.m) ∧ w'.cell? ⟨p.b + 6, 0, none⟩ = some (visitV p.b)) (by kernel_rfl) ⟨e5, e6⟩ (fun hHeld => ?_)
    refine wpAnyH_take (i := 0) (oi := { dst := some 13, op := Op.load 111 (Operand.tmp 1), type := 111, pos := _, after := #[], guard := none }) (v := ?vp1) rfl (by kernel_rfl) (by kernel_rfl) (by kernel_rfl) (fun _ _ _ h => h) (Or.inl ⟨by rfl, ?hyp1⟩) (by assumption) ?restp1
    case hyp1 => ((intro w hSw; (try dsimp only at hSw); go_simp); try with_reducible rfl)
    case' restp1 => (try simp only [Act.put, List.setIfInBounds_toArray, List.set_cons_zero, List.set_cons_succ])
    refine wpAnyH_take (i := 1) (oi := { dst := some 14, op := Op.load 111 (Operand.tmp 1), type := 111, pos := _, after := #[], guard := none }) (v := ?vp2) rfl (by kernel_rfl) (by kernel_rfl) (by kernel_rfl) (fun _ _ _ h => h) (Or.inl ⟨by rfl, ?hyp2⟩) (by assumption) ?restp2
    case hyp2 => ((intro w hSw; (try dsimp only at hSw); go_simp); try with_reducible rfl)
    case' restp2 => (try simp only [Act.put, List.setIfInBounds_toArray, List.set_cons_zero, List.set_cons_succ])
    refine wpAnyH_take (i := 2) (oi := { dst := some 15, op := Op.nilCheck (Operand.tmp 14), type := 0, pos := _, after := #[{ on := 1, ground := Ground.data }], guard := none }) (v := ?vp3) rfl (by kernel_rfl) (by kernel_rfl) (by kernel_rfl) (fun _ _ _ h => h) (Or.inl ⟨by rfl, ?hyp3⟩) (by assumption) ?restp3
    case hyp3 => ((intro w hSw; (try dsimp only at hSw); go_simp); try with_reducible rfl)
    case' restp3 => (try simp only [Act.put, List.setIfInBounds_toArray, List.set_cons_zero, List.set_cons_succ])
    refine wpAnyH_take (i := 3) (oi := { dst := some 16, op := Op.fieldAddr 115 (Operand.tmp 15) 1, type := 0, pos := _, after := #[{ on := 2, ground := Ground.data }], guard := none }) (v := ?vp4) rfl (by kernel_rfl) (by kernel_rfl) (by kernel_rfl) (fun _ _ _ h => h) (Or.inl ⟨by rfl, ?hyp4⟩) (by assumption) ?restp4
    case hyp4 => ((intro w hSw; (try dsimp only at hSw); go_simp); try with_reducible rfl)
    case' restp4 => (try simp only [Act.put, List.setIfInBounds_toArray, List.set_cons_zero, List.set_cons_succ])
    refine wpAnyH_take (i := 5) (oi := { dst := some 18, op := Op.load 1 (Operand.tmp 2), type := 1, pos := _, after := #[], guard := none }) (v := ?vp5) rfl (by kernel_rfl) (by kernel_rfl) (by kernel_rfl) (fun _ _ _ h => h) (Or.inl ⟨by rfl, ?hyp5⟩) (by assumption) ?restp5
    case hyp5 => ((intro w hSw; (try dsimp only at hSw); go_simp); try with_reducible rfl)
    case' restp5 => (try simp only [Act.put, List.setIfInBounds_toArray, List.set_cons_zero, List.set_cons_succ])
    refine wpAnyH_ready (rs := [4, 6]) (by kernel_rfl) (by simp) ?_
    refine AllReadyH.cons (o := { dst := some 17, op := Op.load 112 (Operand.tmp 16), type := 112, pos := _, after := #[{ on := 3, ground := Ground.data }], guard := none }) rfl (fun K hK => ?_) (AllReadyH.cons (o := { dst := some 19, op := Op.buildSlice 112 1 #[(0, (Operand.tmp 18))], type := 112, pos := _, after := #[{ on := 5, ground := Ground.data }], guard := none }) rfl (fun K hK => ?_) AllReadyH.nil)
    ·
      go_simp
      refine hK.out _ _ (by go_keep) (fun hHeld2 => ?_)
      clear hK K hHeld; have hHeld := hHeld2; clear hHeld2
      (try simp only [Act.put, List.setIfInBounds_toArray, List.set_cons_zero, List.set_cons_succ])
      refine wpAnyH_ready (rs := [6]) (by kernel_rfl) (by simp) ?_
      refine AllReadyH.cons (o := { dst := some 19, op := Op.buildSlice 112 1 #[(0, (Operand.tmp 18))], type := 112, pos := _, after := #[{ on := 5, ground := Ground.data }], guard := none }) rfl (fun K hK => ?_) AllReadyH.nil
      go_simp
      refine hK.out _ _ (by go_keep) (fun hHeld2 => ?_)
      clear hK K hHeld; have hHeld := hHeld2; clear hHeld2
      (try simp only [Act.put, List.setIfInBounds_toArray, List.set_cons_zero, List.set_cons_succ])
      refine wpAnyH_ready (rs := [7]) (by kernel_rfl) (by simp) ?_
      refine AllReadyH.cons (o := { dst := some 20, op := Op.call { callee := Callee.builtin Builtin.append, args := #[Operand.tmp 17, Operand.tmp 19], argTypes := #[112, 112] }, type := 112, pos := _, after := #[{ on := 4, ground := Ground.data }, { on := 6, ground := Ground.data }], guard := none }) rfl (fun K hK => ?_) AllReadyH.nil
      refine step_fn_append rfl _ _ 112 tF i0 (by rfl) Tryz.underlying112 hi hz0 hz1 hz2 X.w0.heap.size S.reached.length vr _ (by rfl) (RowR.alloc H1.out.rr _) (by simp) (visitV p.b) ⟨W1.heap.size, 0, none⟩ 1 (by rfl) (cell_of_one (heap_alloc_new _ _)) (by rfl) HN.out (by have := H1.out.bel.size; simp; omega) (S.reached.length + 1) rfl ?_
      intro g' c4 w4 hrow4 hg4 hp4
      have hX4 : w4.heap[X.m]? = some (.cells #[.int .i64 S.pos, vr, vw] tS (0, 0)) := (hg4.block _ (by simp; omega) (fun e => (H1.out.dis.kr _ e.symm).2.1 rfl)).trans ((Below.heap_alloc _ _ _ hmlt).trans H1.out.hm)
      have f4 : w4.frozen? ⟨X.m, 1, none⟩ = false := frozen_of_row _ X.m 1 _ _ hX4
      have e4 : w4.cell? ⟨X.m, 1, none⟩ = some vr := by rw [cell_of_row _ X.m 1 _ _ _ hX4]; rfl
      have e7 : w4.cell? ⟨p.b + 5, 0, none⟩ = some (ptr X.m) := cell_of_one ((hg4.block _ (by simp; omega) (fun e => (by have := (H1.out.dis.kr _ e.symm).1; rw [HK5.out] at this; cases this))).trans ((Below.heap_alloc _ _ _ hq5).trans (H1.out.hk _ _ HK5.out)))
      have e8 : w4.cell? ⟨p.b + 6, 0, none⟩ = some (visitV p.b) := cell_of_one ((hg4.block _ (by simp; omega) (fun e => (by have := (H1.out.dis.kr _ e.symm).1; rw [HK6.out] at this; cases this))).trans ((Below.heap_alloc _ _ _ hq6).trans (H1.out.hk _ _ HK6.out)))
      refine hK.out _ _ ⟨e7, e8⟩ (fun hHeld2 => ?_)
      clear hK K hHeld; have hHeld := hHeld2; clear hHeld2
      (try simp only [Act.put, List.setIfInBounds_toArray, List.set_cons_zero, List.set_cons_succ])
      refine wpAnyH_take (i := 8) (oi := { dst := some 21, op := Op.nilCheck (Operand.tmp 13), type := 0, pos := _, after := #[{ on := 0, ground := Ground.data }, { on := 0, ground := Ground.phase }, { on := 1, ground := Ground.phase }, { on := 2, ground := Ground.phase }, { on := 3, ground := Ground.phase }, { on := 4, ground := Ground.phase }, { on := 5, ground := Ground.phase }, { on := 6, ground := Ground.phase }, { on := 7, ground := Ground.phase }], guard := none }) (v := ?vp6) rfl (by kernel_rfl) (by kernel_rfl) (by kernel_rfl) (fun _ _ _ h => h) (Or.inl ⟨by rfl, ?hyp6⟩) (by assumption) ?restp6
      case hyp6 => ((intro w hSw; (try dsimp only at hSw); go_simp); try with_reducible rfl)
      case' restp6 => (try simp only [Act.put, List.setIfInBounds_toArray, List.set_cons_zero, List.set_cons_succ])
      refine wpAnyH_take (i := 9) (oi := { dst := some 22, op := Op.fieldAddr 115 (Operand.tmp 21) 1, type := 0, pos := _, after := #[{ on := 8, ground := Ground.data }, { on := 0, ground := Ground.phase }, { on := 1, ground := Ground.phase }, { on := 2, ground := Ground.phase }, { on := 3, ground := Ground.phase }, { on := 4, ground := Ground.phase }, { on := 5, ground := Ground.phase }, { on := 6, ground := Ground.phase }, { on := 7, ground := Ground.phase }], guard := none }) (v := ?vp7) rfl (by kernel_rfl) (by kernel_rfl) (by kernel_rfl) (fun _ _ _ h => h) (Or.inl ⟨by rfl, ?hyp7⟩) (by assumption) ?restp7
      case hyp7 => ((intro w hSw; (try dsimp only at hSw); go_simp); try with_reducible rfl)
      case' restp7 => (try simp only [Act.put, List.setIfInBounds_toArray, List.set_cons_zero, List.set_cons_succ])
      refine wpAnyH_ready (rs := [10]) (by kernel_rfl) (by simp) ?_
      refine AllReadyH.cons (o := { dst := none, op := Op.store 112 (Operand.tmp 22) (Operand.tmp 20), type := 0, pos := _, after := #[{ on := 9, ground := Ground.data }, { on := 7, ground := Ground.data }, { on := 7, ground := Ground.chain }, { on := 0, ground := Ground.phase }, { on := 1, ground := Ground.phase }, { on := 2, ground := Ground.phase }, { on := 3, ground := Ground.phase }, { on := 4, ground := Ground.phase }, { on := 5, ground := Ground.phase }, { on := 6, ground := Ground.phase }, { on := 7, ground := Ground.phase }], guard := none }) rfl (fun K hK => ?_) AllReadyH.nil
      go_simp
      refine hK.out _ _ (by go_keep) (fun hHeld2 => ?_)
      clear hK K hHeld; have hHeld := hHeld2; clear hHeld2
      (try simp only [Act.put, List.setIfInBounds_toArray, List.set_cons_zero, List.set_cons_succ])
      refine wpAnyH_done (by kernel_rfl) ?_ _
      have HF : Hid (CallP X K vw cs S (j + 1) (.returned (.tuple #[])) (w4.setCell ⟨X.m, 1, none⟩ (.slice (some ⟨g', 0, none⟩) (S.reached.length + 1) c4))) := Lib.hid (by
        refine ⟨rfl, .slice (some ⟨g', 0, none⟩) (S.reached.length + 1) c4, ?_⟩
        rw [HB.out]
        refine (H1.out.below (w' := (W1.alloc (.cells #[visitV p.b] tF)).drew) (below_al (Below.refl _ _) _).drew).setReached (R := S.reached ++ [j]) hg4 ?_ (fun g e => ?_) (fun i hi => ?_)
        · show RowV tF X.w0.heap.size w4 _ ((S.reached ++ [j]).map fun i => visitV (bOf (S.pl.set j { p with vis := S.pos }) i))
          rw [List.map_append, List.map_singleton, bOf_eq (L := S.pl.set j { p with vis := S.pos }) (j := j) (p := { p with vis := S.pos }) (List.getElem?_set_self hil)]
          exact hrow4
        · have e' : some g' = some g := e
          rcases hp4 with h1 | h1
          · exact .inl (h1.symm.trans e')
          · exact .inr (by have := Option.some.inj e'; simp at h1 ⊢; omega)
        · rcases List.mem_append.1 hi with h1 | h1
          · exact H1.out.rl i h1
          · rw [List.mem_singleton.1 h1]; show j < (S.pl.set j _).length; rw [List.length_set]; exact hil)
      clear hrow4 hg4 hp4 hX4 f4 e4 e7 e8
      go_wp2
      go_end0
      exact HF.out
    ·
      go_simp
      refine hK.out _ _ (by go_keep) (fun hHeld2 => ?_)
      clear hK K hHeld; have hHeld := hHeld2; clear hHeld2
      (try simp only [Act.put, List.setIfInBounds_toArray, List.set_cons_zero, List.set_cons_succ])
      refine wpAnyH_ready (rs := [4]) (by kernel_rfl) (by simp) ?_
      refine AllReadyH.cons (o := { dst := some 17, op := Op.load 112 (Operand.tmp 16), type := 112, pos := _, after := #[{ on := 3, ground := Ground.data }], guard := none }) rfl (fun K hK => ?_) AllReadyH.nil
      go_simp
      refine hK.out _ _ (by go_keep) (fun hHeld2 => ?_)
      clear hK K hHeld; have hHeld := hHeld2; clear hHeld2
      (try simp only [Act.put, List.setIfInBounds_toArray, List.set_cons_zero, List.set_cons_succ])
      refine wpAnyH_ready (rs := [7]) (by kernel_rfl) (by simp) ?_
      refine AllReadyH.cons (o := { dst := some 20, op := Op.call { callee := Callee.builtin Builtin.append, args := #[Operand.tmp 17, Operand.tmp 19], argTypes := #[112, 112] }, type := 112, pos := _, after := #[{ on := 4, ground := Ground.data }, { on := 6, ground := Ground.data }], guard := none }) rfl (fun K hK => ?_) AllReadyH.nil
      refine step_fn_append rfl _ _ 112 tF i0 (by rfl) Tryz.underlying112 hi hz0 hz1 hz2 X.w0.heap.size S.reached.length vr _ (by rfl) (RowR.alloc H1.out.rr _) (by simp) (visitV p.b) ⟨W1.heap.size, 0, none⟩ 1 (by rfl) (cell_of_one (heap_alloc_new _ _)) (by rfl) HN.out (by have := H1.out.bel.size; simp; omega) (S.reached.length + 1) rfl ?_
      intro g' c4 w4 hrow4 hg4 hp4
      have hX4 : w4.heap[X.m]? = some (.cells #[.int .i64 S.pos, vr, vw] tS (0, 0)) := (hg4.block _ (by simp; omega) (fun e => (H1.out.dis.kr _ e.symm).2.1 rfl)).trans ((Below.heap_alloc _ _ _ hmlt).trans H1.out.hm)
      have f4 : w4.frozen? ⟨X.m, 1, none⟩ = false := frozen_of_row _ X.m 1 _ _ hX4
      have e4 : w4.cell? ⟨X.m, 1, none⟩ = some vr := by rw [cell_of_row _ X.m 1 _ _ _ hX4]; rfl
      have e7 : w4.cell? ⟨p.b + 5, 0, none⟩ = some (ptr X.m) := cell_of_one ((hg4.block _ (by simp; omega) (fun e => (by have := (H1.out.dis.kr _ e.symm).1; rw [HK5.out] at this; cases this))).trans ((Below.heap_alloc _ _ _ hq5).trans (H1.out.hk _ _ HK5.out)))
      have e8 : w4.cell? ⟨p.b + 6, 0, none⟩ = some (visitV p.b) := cell_of_one ((hg4.block _ (by simp; omega) (fun e => (by have := (H1.out.dis.kr _ e.symm).1; rw [HK6.out] at this; cases this))).trans ((Below.heap_alloc _ _ _ hq6).trans (H1.out.hk _ _ HK6.out)))
      refine hK.out _ _ ⟨e7, e8⟩ (fun hHeld2 => ?_)
      clear hK K hHeld; have hHeld := hHeld2; clear hHeld2
      (try simp only [Act.put, List.setIfInBounds_toArray, List.set_cons_zero, List.set_cons_succ])
      refine wpAnyH_take (i := 8) (oi := { dst := some 21, op := Op.nilCheck (Operand.tmp 13), type := 0, pos := _, after := #[{ on := 0, ground := Ground.data }, { on := 0, ground := Ground.phase }, { on := 1, ground := Ground.phase }, { on := 2, ground := Ground.phase }, { on := 3, ground := Ground.phase }, { on := 4, ground := Ground.phase }, { on := 5, ground := Ground.phase }, { on := 6, ground := Ground.phase }, { on := 7, ground := Ground.phase }], guard := none }) (v := ?vp8) rfl (by kernel_rfl) (by kernel_rfl) (by kernel_rfl) (fun _ _ _ h => h) (Or.inl ⟨by rfl, ?hyp8⟩) (by assumption) ?restp8
      case hyp8 => ((intro w hSw; (try dsimp only at hSw); go_simp); try with_reducible rfl)
      case' restp8 => (try simp only [Act.put, List.setIfInBounds_toArray, List.set_cons_zero, List.set_cons_succ])
      refine wpAnyH_take (i := 9) (oi := { dst := some 22, op := Op.fieldAddr 115 (Operand.tmp 21) 1, type := 0, pos := _, after := #[{ on := 8, ground := Ground.data }, { on := 0, ground := Ground.phase }, { on := 1, ground := Ground.phase }, { on := 2, ground := Ground.phase }, { on := 3, ground := Ground.phase }, { on := 4, ground := Ground.phase }, { on := 5, ground := Ground.phase }, { on := 6, ground := Ground.phase }, { on := 7, ground := Ground.phase }], guard := none }) (v := ?vp9) rfl (by kernel_rfl) (by kernel_rfl) (by kernel_rfl) (fun _ _ _ h => h) (Or.inl ⟨by rfl, ?hyp9⟩) (by assumption) ?restp9
      case hyp9 => ((intro w hSw; (try dsimp only at hSw); go_simp); try with_reducible rfl)
      case' restp9 => (try simp only [Act.put, List.setIfInBounds_toArray, List.set_cons_zero, List.set_cons_succ])
      refine wpAnyH_ready (rs := [10]) (by kernel_rfl) (by simp) ?_
      refine AllReadyH.cons (o := { dst := none, op := Op.store 112 (Operand.tmp 22) (Operand.tmp 20), type := 0, pos := _, after := #[{ on := 9, ground := Ground.data }, { on := 7, ground := Ground.data }, { on := 7, ground := Ground.chain }, { on := 0, ground := Ground.phase }, { on := 1, ground := Ground.phase }, { on := 2, ground := Ground.phase }, { on := 3, ground := Ground.phase }, { on := 4, ground := Ground.phase }, { on := 5, ground := Ground.phase }, { on := 6, ground := Ground.phase }, { on := 7, ground := Ground.phase }], guard := none }) rfl (fun K hK => ?_) AllReadyH.nil
      go_simp
      refine hK.out _ _ (by go_keep) (fun hHeld2 => ?_)
      clear hK K hHeld; have hHeld := hHeld2; clear hHeld2
      (try simp only [Act.put, List.setIfInBounds_toArray, List.set_cons_zero, List.set_cons_succ])
      refine wpAnyH_done (by kernel_rfl) ?_ _
      have HF : Hid (CallP X K vw cs S (j + 1) (.returned (.tuple #[])) (w4.setCell ⟨X.m, 1, none⟩ (.slice (some ⟨g', 0, none⟩) (S.reached.length + 1) c4))) := Lib.hid (by
        refine ⟨rfl, .slice (some ⟨g', 0, none⟩) (S.reached.length + 1) c4, ?_⟩
        rw [HB.out]
        refine (H1.out.below (w' := (W1.alloc (.cells #[visitV p.b] tF)).drew) (below_al (Below.refl _ _) _).drew).setReached (R := S.reached ++ [j]) hg4 ?_ (fun g e => ?_) (fun i hi => ?_)
        · show RowV tF X.w0.heap.size w4 _ ((S.reached ++ [j]).map fun i => visitV (bOf (S.pl.set j { p with vis := S.pos }) i))
          rw [List.map_append, List.map_singleton, bOf_eq (L := S.pl.set j { p with vis := S.pos }) (j := j) (p := { p with vis := S.pos }) (List.getElem?_set_self hil)]
          exact hrow4
        · have e' : some g' = some g := e
          rcases hp4 with h1 | h1
          · exact .inl (h1.symm.trans e')
          · exact .inr (by have := Option.some.inj e'; simp at h1 ⊢; omega)
        · rcases List.mem_append.1 hi with h1 | h1
          · exact H1.out.rl i h1
          · rw [List.mem_singleton.1 h1]; show j < (S.pl.set j _).length; rw [List.length_set]; exact hil)
      clear hrow4 hg4 hp4 hX4 f4 e4 e7 e8
      go_wp2
      go_end0
      exact HF.out
  · have hcall : call S (j + 1) = S := by simp only [call, hp]; rw [if_neg hv]
    have HR : Hid (∀ n, CallP X K vw cs S (j + 1) (.returned (.tuple #[])) (w.drewN n)) := Lib.hid fun n => ⟨rfl, vr, by rw [hcall]; exact h.below (below_drewN (Below.refl _ _) n)⟩
    clear h hcall hn
    go_enter Tryz.func127, Tryz.ntmps127
    go_wp2
    go_quiet (fail)
    go_wp2
    go_end0
    exact HR.out _
end
end Go.Proofs.YtdmccopggmienaaGreat

/- CHAPTER 5, impl: the matching machine's closures: a wait, a take, the makers of waits and places (a region's moves are printed by tools/genreg.py). -/
namespace Go.Proofs.YtdmccopggmienaaGreat
open Go.RowKit Mac

section
variable {X : Cx} {K K' : Kn} {vr vw : Value} {cs : List Nat} {w w' : World} {S : Mc}
def WaitP (X : Cx) (K : Kn) (vr : Value) (cs : List Nat) (S : Mc) (i c : Nat) (e : Ending) (w' : World) : Prop := e = .returned (.tuple #[]) ∧ ∃ vw', Rep X K vr vw' (cs ++ [c]) w' { S with waiting := S.waiting ++ [i] }
set_option maxRecDepth 100000 in
set_option maxHeartbeats 2000000 in
theorem wait_any (h : Rep X K vr vw cs w S) {i c : Nat} {p : Pl} (hp : S.pl[i]? = some p) (k5 : K c = some (bx (ptr X.m) tM)) (k6 : K (c + 3) = some (bx (takeV c) tG)) (hk : TakeK X K S.pl p c) (hn : S.waiting.length + 1 ≤ 2147483648) : Calls Tryz.prog 142 #[ptr c, ptr (c + 3)] w (WaitP X K vr cs S i c) := by
  obtain ⟨i0, hi, hz0, hz1, hz2⟩ := info_parts infoG
  have H1 := Lib.hid h
  have HK5 := Lib.hid k5
  have HK6 := Lib.hid k6
  have HTK := Lib.hid hk
  have HP := Lib.hid hp
  have HN : Hid (cs.length + 1 ≤ 2147483648) := Lib.hid (by rw [h.cl]; exact hn)
  have e5 := cell_of_one (h.hk _ _ k5)
  have e6 := cell_of_one (h.hk _ _ k6)
  obtain ⟨⟨_, _, n2⟩, fn⟩ := h.cells
  have fn2 := fn 2
  have hmlt := h.mlt
  have hq5 : c < w.heap.size := blk_lt (h.hk _ _ k5)
  have hq6 : c + 3 < w.heap.size := blk_lt (h.hk _ _ k6)
  have hmp5 : X.m ≠ c := fun e => by have := HK5.out; rw [← e, H1.out.dis.km] at this; cases this
  have hmp6 : X.m ≠ c + 3 := fun e => by have := HK6.out; rw [← e, H1.out.dis.km] at this; cases this
  clear h k5 k6 hk hp hn fn
  go_enter Tryz.func142, Tryz.ntmps142
  go_wp2
  refine wp_region_held_drew (S := fun w' => w'.cell? ⟨c, 0, none⟩ = some (ptr X.m) ∧ w'.cell? ⟨c + 3, 0, none⟩ = some (takeV c)) (by kernel_rfl) ⟨e5, e6⟩ (fun hHeld => ?_)
  refine wpAnyH_take (i := 0) (oi := { dst := some 2, op := Op.load 111 (Operand.tmp 0), type := 111, pos := _, after := #[], guard := none }) (v := ?vq1) rfl (by kernel_rfl) (by kernel_rfl) (by kernel_rfl) (fun _ _ _ h => h) (Or.inl ⟨by rfl, ?hyq1⟩) (by assumption) ?restq1
  case hyq1 => ((intro w hSw; (try dsimp only at hSw); go_simp); try with_reducible rfl)
  case' restq1 => (try simp only [Act.put, List.setIfInBounds_toArray, List.set_cons_zero, List.set_cons_succ])
  refine wpAnyH_take (i := 1) (oi := { dst := some 3, op := Op.load 111 (Operand.tmp 0), type := 111, pos := _, after := #[], guard := none }) (v := ?vq2) rfl (by kernel_rfl) (by kernel_rfl) (by kernel_rfl) (fun _ _ _ h => h) (Or.inl ⟨by rfl, ?hyq2⟩) (by assumption) ?restq2
  case hyq2 => ((intro w hSw; (try dsimp only at hSw); go_simp); try with_reducible rfl)
  case' restq2 => (try simp only [Act.put, List.setIfInBounds_toArray, List.set_cons_zero, List.set_cons_succ])
  refine wpAnyH_take (i := 2) (oi := { dst := some 4, op := Op.nilCheck (Operand.tmp 3), type := 0, pos := _, after := #[{ on := 1, ground := Ground.data }], guard := none }) (v := ?vq3) rfl (by kernel_rfl) (by kernel_rfl) (by kernel_rfl) (fun _ _ _ h => h) (Or.inl ⟨by rfl, ?hyq3⟩) (by assumption) ?restq3
  case hyq3 => ((intro w hSw; (try dsimp only at hSw); go_simp); try with_reducible rfl)
  case' restq3 => (try simp only [Act.put, List.setIfInBounds_toArray, List.set_cons_zero, List.set_cons_succ])
  refine wpAnyH_take (i := 3) (oi := { dst := some 5, op := Op.fieldAddr 115 (Operand.tmp 4) 2, type := 0, pos := _, after := #[{ on := 2, ground := Ground.data }], guard := none }) (v := ?vq4) rfl (by kernel_rfl) (by kernel_rfl) (by kernel_rfl) (fun _ _ _ h => h) (Or.inl ⟨by rfl, ?hyq4⟩) (by assumption) ?restq4
  case hyq4 => ((intro w hSw; (try dsimp only at hSw); go_simp); try with_reducible rfl)
  case' restq4 => (try simp only [Act.put, List.setIfInBounds_toArray, List.set_cons_zero, List.set_cons_succ])
  refine wpAnyH_take (i := 5) (oi := { dst := some 7, op := Op.load 126 (Operand.tmp 1), type := 126, pos := _, after := #[], guard := none }) (v := ?vq5) rfl (by kernel_rfl) (by kernel_rfl) (by kernel_rfl) (fun _ _ _ h => h) (Or.inl ⟨by rfl, ?hyq5⟩) (by assumption) ?restq5
  case hyq5 => ((intro w hSw; (try dsimp only at hSw); go_simp); try with_reducible rfl)
  case' restq5 => (try simp only [Act.put, List.setIfInBounds_toArray, List.set_cons_zero, List.set_cons_succ])
  refine wpAnyH_ready (rs := [4, 6]) (by kernel_rfl) (by simp) ?_
  refine AllReadyH.cons (o := { dst := some 6, op := Op.load 113 (Operand.tmp 5), type := 113, pos := _, after := #[{ on := 3, ground := Ground.data }], guard := none }) rfl (fun K hK => ?_) (AllReadyH.cons (o := { dst := some 8, op := Op.buildSlice 113 1 #[(0, (Operand.tmp 7))], type := 113, pos := _, after := #[{ on := 5, ground := Ground.data }], guard := none }) rfl (fun K hK => ?_) AllReadyH.nil)
  ·
    go_simp
    refine hK.out _ _ (by go_keep) (fun hHeld2 => ?_)
    clear hK K hHeld; have hHeld := hHeld2; clear hHeld2
    (try simp only [Act.put, List.setIfInBounds_toArray, List.set_cons_zero, List.set_cons_succ])
    refine wpAnyH_ready (rs := [6]) (by kernel_rfl) (by simp) ?_
    refine AllReadyH.cons (o := { dst := some 8, op := Op.buildSlice 113 1 #[(0, (Operand.tmp 7))], type := 113, pos := _, after := #[{ on := 5, ground := Ground.data }], guard := none }) rfl (fun K hK => ?_) AllReadyH.nil
    go_simp
    refine hK.out _ _ (by go_keep) (fun hHeld2 => ?_)
    clear hK K hHeld; have hHeld := hHeld2; clear hHeld2
    (try simp only [Act.put, List.setIfInBounds_toArray, List.set_cons_zero, List.set_cons_succ])
    refine wpAnyH_ready (rs := [7]) (by kernel_rfl) (by simp) ?_
    refine AllReadyH.cons (o := { dst := some 9, op := Op.call { callee := Callee.builtin Builtin.append, args := #[Operand.tmp 6, Operand.tmp 8], argTypes := #[113, 113] }, type := 113, pos := _, after := #[{ on := 4, ground := Ground.data }, { on := 6, ground := Ground.data }], guard := none }) rfl (fun K hK => ?_) AllReadyH.nil
    refine step_fn_append rfl _ _ 113 tG i0 (by rfl) Tryz.underlying113 hi hz0 hz1 hz2 X.w0.heap.size cs.length vw _ (by rfl) (RowR.alloc H1.out.rw _) (by simp) (takeV c) ⟨w.heap.size, 0, none⟩ 1 (by rfl) (cell_of_one (heap_alloc_new _ _)) (by rfl) HN.out (by have := H1.out.bel.size; simp; omega) (cs.length + 1) rfl ?_
    intro g' c4 w4 hrow4 hg4 hp4
    have hX4 : w4.heap[X.m]? = some (.cells #[.int .i64 S.pos, vr, vw] tS (0, 0)) := (hg4.block _ (by simp; omega) (fun e => (H1.out.dis.kw _ e.symm).2.1 rfl)).trans ((Below.heap_alloc _ _ _ hmlt).trans H1.out.hm)
    have f4 : w4.frozen? ⟨X.m, 2, none⟩ = false := frozen_of_row _ X.m 2 _ _ hX4
    have e4 : w4.cell? ⟨X.m, 2, none⟩ = some vw := by rw [cell_of_row _ X.m 2 _ _ _ hX4]; rfl
    have e7 : w4.cell? ⟨c, 0, none⟩ = some (ptr X.m) := cell_of_one ((hg4.block _ (by simp; omega) (fun e => (by have := (H1.out.dis.kw _ e.symm).1; rw [HK5.out] at this; cases this))).trans ((Below.heap_alloc _ _ _ hq5).trans (H1.out.hk _ _ HK5.out)))
    have e8 : w4.cell? ⟨c + 3, 0, none⟩ = some (takeV c) := cell_of_one ((hg4.block _ (by simp; omega) (fun e => (by have := (H1.out.dis.kw _ e.symm).1; rw [HK6.out] at this; cases this))).trans ((Below.heap_alloc _ _ _ hq6).trans (H1.out.hk _ _ HK6.out)))
    refine hK.out _ _ ⟨e7, e8⟩ (fun hHeld2 => ?_)
    clear hK K hHeld; have hHeld := hHeld2; clear hHeld2
    (try simp only [Act.put, List.setIfInBounds_toArray, List.set_cons_zero, List.set_cons_succ])
    refine wpAnyH_take (i := 8) (oi := { dst := some 10, op := Op.nilCheck (Operand.tmp 2), type := 0, pos := _, after := #[{ on := 0, ground := Ground.data }, { on := 0, ground := Ground.phase }, { on := 1, ground := Ground.phase }, { on := 2, ground := Ground.phase }, { on := 3, ground := Ground.phase }, { on := 4, ground := Ground.phase }, { on := 5, ground := Ground.phase }, { on := 6, ground := Ground.phase }, { on := 7, ground := Ground.phase }], guard := none }) (v := ?vq6) rfl (by kernel_rfl) (by kernel_rfl) (by kernel_rfl) (fun _ _ _ h => h) (Or.inl ⟨by rfl, ?hyq6⟩) (by assumption) ?restq6
    case hyq6 => ((intro w hSw; (try dsimp only at hSw); go_simp); try with_reducible rfl)
    case' restq6 => (try simp only [Act.put, List.setIfInBounds_toArray, List.set_cons_zero, List.set_cons_succ])
    refine wpAnyH_take (i := 9) (oi := { dst := some 11, op := Op.fieldAddr 115 (Operand.tmp 10) 2, type := 0, pos := _, after := #[{ on := 8, ground := Ground.data }, { on := 0, ground := Ground.phase }, { on := 1, ground := Ground.phase }, { on := 2, ground := Ground.phase }, { on := 3, ground := Ground.phase }, { on := 4, ground := Ground.phase }, { on := 5, ground := Ground.phase }, { on := 6, ground := Ground.phase }, { on := 7, ground := Ground.phase }], guard := none }) (v := ?vq7) rfl (by kernel_rfl) (by kernel_rfl) (by kernel_rfl) (fun _ _ _ h => h) (Or.inl ⟨by rfl, ?hyq7⟩) (by assumption) ?restq7
    case hyq7 => ((intro w hSw; (try dsimp only at hSw); go_simp); try with_reducible rfl)
    case' restq7 => (try simp only [Act.put, List.setIfInBounds_toArray, List.set_cons_zero, List.set_cons_succ])
    refine wpAnyH_ready (rs := [10]) (by kernel_rfl) (by simp) ?_
    refine AllReadyH.cons (o := { dst := none, op := Op.store 113 (Operand.tmp 11) (Operand.tmp 9), type := 0, pos := _, after := #[{ on := 9, ground := Ground.data }, { on := 7, ground := Ground.data }, { on := 7, ground := Ground.chain }, { on := 0, ground := Ground.phase }, { on := 1, ground := Ground.phase }, { on := 2, ground := Ground.phase }, { on := 3, ground := Ground.phase }, { on := 4, ground := Ground.phase }, { on := 5, ground := Ground.phase }, { on := 6, ground := Ground.phase }, { on := 7, ground := Ground.phase }], guard := none }) rfl (fun K hK => ?_) AllReadyH.nil
    go_simp
    refine hK.out _ _ (by go_keep) (fun hHeld2 => ?_)
    clear hK K hHeld; have hHeld := hHeld2; clear hHeld2
    (try simp only [Act.put, List.setIfInBounds_toArray, List.set_cons_zero, List.set_cons_succ])
    refine wpAnyH_done (by kernel_rfl) ?_ _
    have HF : Hid (WaitP X K vr cs S i c (.returned (.tuple #[])) (w4.setCell ⟨X.m, 2, none⟩ (.slice (some ⟨g', 0, none⟩) (cs.length + 1) c4))) := Lib.hid (by
      refine ⟨rfl, .slice (some ⟨g', 0, none⟩) (cs.length + 1) c4, ?_⟩
      refine (H1.out.below (w' := (w.alloc (.cells #[takeV c] tG)).drew) (below_al (Below.refl _ _) _).drew).setWaiting (W := S.waiting ++ [i]) (cs' := cs ++ [c]) hg4 ?_ (fun g e => ?_) (by simp [H1.out.cl]) (fun q h1 h2 => ?_)
      · rw [List.map_append, List.map_singleton]; exact hrow4
      · have e' : some g' = some g := e
        rcases hp4 with h1 | h1
        · exact .inl (h1.symm.trans e')
        · exact .inr (by have := Option.some.inj e'; simp at h1 ⊢; omega)
      · by_cases hq : q < cs.length
        · rw [List.getElem_append_left hq, List.getElem_append_left (by rw [← H1.out.cl]; exact hq)]
          exact H1.out.cw q hq (by rw [← H1.out.cl]; exact hq)
        · have hq2 : q = cs.length := by simp at h1; omega
          subst hq2
          refine ⟨p, ?_, ?_⟩
          · rw [List.getElem_append_right (by rw [← H1.out.cl]; exact Nat.le_refl _)]
            simp [H1.out.cl]; exact HP.out
          · rw [List.getElem_append_right (Nat.le_refl _)]
            simp; exact HTK.out)
    clear hrow4 hg4 hp4 hX4 f4 e4 e7 e8
    go_wp2
    go_end0
    exact HF.out
  ·
    go_simp
    refine hK.out _ _ (by go_keep) (fun hHeld2 => ?_)
    clear hK K hHeld; have hHeld := hHeld2; clear hHeld2
    (try simp only [Act.put, List.setIfInBounds_toArray, List.set_cons_zero, List.set_cons_succ])
    refine wpAnyH_ready (rs := [4]) (by kernel_rfl) (by simp) ?_
    refine AllReadyH.cons (o := { dst := some 6, op := Op.load 113 (Operand.tmp 5), type := 113, pos := _, after := #[{ on := 3, ground := Ground.data }], guard := none }) rfl (fun K hK => ?_) AllReadyH.nil
    go_simp
    refine hK.out _ _ (by go_keep) (fun hHeld2 => ?_)
    clear hK K hHeld; have hHeld := hHeld2; clear hHeld2
    (try simp only [Act.put, List.setIfInBounds_toArray, List.set_cons_zero, List.set_cons_succ])
    refine wpAnyH_ready (rs := [7]) (by kernel_rfl) (by simp) ?_
    refine AllReadyH.cons (o := { dst := some 9, op := Op.call { callee := Callee.builtin Builtin.append, args := #[Operand.tmp 6, Operand.tmp 8], argTypes := #[113, 113] }, type := 113, pos := _, after := #[{ on := 4, ground := Ground.data }, { on := 6, ground := Ground.data }], guard := none }) rfl (fun K hK => ?_) AllReadyH.nil
    refine step_fn_append rfl _ _ 113 tG i0 (by rfl) Tryz.underlying113 hi hz0 hz1 hz2 X.w0.heap.size cs.length vw _ (by rfl) (RowR.alloc H1.out.rw _) (by simp) (takeV c) ⟨w.heap.size, 0, none⟩ 1 (by rfl) (cell_of_one (heap_alloc_new _ _)) (by rfl) HN.out (by have := H1.out.bel.size; simp; omega) (cs.length + 1) rfl ?_
    intro g' c4 w4 hrow4 hg4 hp4
    have hX4 : w4.heap[X.m]? = some (.cells #[.int .i64 S.pos, vr, vw] tS (0, 0)) := (hg4.block _ (by simp; omega) (fun e => (H1.out.dis.kw _ e.symm).2.1 rfl)).trans ((Below.heap_alloc _ _ _ hmlt).trans H1.out.hm)
    have f4 : w4.frozen? ⟨X.m, 2, none⟩ = false := frozen_of_row _ X.m 2 _ _ hX4
    have e4 : w4.cell? ⟨X.m, 2, none⟩ = some vw := by rw [cell_of_row _ X.m 2 _ _ _ hX4]; rfl
    have e7 : w4.cell? ⟨c, 0, none⟩ = some (ptr X.m) := cell_of_one ((hg4.block _ (by simp; omega) (fun e => (by have := (H1.out.dis.kw _ e.symm).1; rw [HK5.out] at this; cases this))).trans ((Below.heap_alloc _ _ _ hq5).trans (H1.out.hk _ _ HK5.out)))
    have e8 : w4.cell? ⟨c + 3, 0, none⟩ = some (takeV c) := cell_of_one ((hg4.block _ (by simp; omega) (fun e => (by have := (H1.out.dis.kw _ e.symm).1; rw [HK6.out] at this; cases this))).trans ((Below.heap_alloc _ _ _ hq6).trans (H1.out.hk _ _ HK6.out)))
    refine hK.out _ _ ⟨e7, e8⟩ (fun hHeld2 => ?_)
    clear hK K hHeld; have hHeld := hHeld2; clear hHeld2
    (try simp only [Act.put, List.setIfInBounds_toArray, List.set_cons_zero, List.set_cons_succ])
    refine wpAnyH_take (i := 8) (oi := { dst := some 10, op := Op.nilCheck (Operand.tmp 2), type := 0, pos := _, after := #[{ on := 0, ground := Ground.data }, { on := 0, ground := Ground.phase }, { on := 1, ground := Ground.phase }, { on := 2, ground := Ground.phase }, { on := 3, ground := Ground.phase }, { on := 4, ground := Ground.phase }, { on := 5, ground := Ground.phase }, { on := 6, ground := Ground.phase }, { on := 7, ground := Ground.phase }], guard := none }) (v := ?vq8) rfl (by kernel_rfl) (by kernel_rfl) (by kernel_rfl) (fun _ _ _ h => h) (Or.inl ⟨by rfl, ?hyq8⟩) (by assumption) ?restq8
    case hyq8 => ((intro w hSw; (try dsimp only at hSw); go_simp); try with_reducible rfl)
    case' restq8 => (try simp only [Act.put, List.setIfInBounds_toArray, List.set_cons_zero, List.set_cons_succ])
    refine wpAnyH_take (i := 9) (oi := { dst := some 11, op := Op.fieldAddr 115 (Operand.tmp 10) 2, type := 0, pos := _, after := #[{ on := 8, ground := Ground.data }, { on := 0, ground := Ground.phase }, { on := 1, ground := Ground.phase }, { on := 2, ground := Ground.phase }, { on := 3, ground := Ground.phase }, { on := 4, ground := Ground.phase }, { on := 5, ground := Ground.phase }, { on := 6, ground := Ground.phase }, { on := 7, ground := Ground.phase }], guard := none }) (v := ?vq9) rfl (by kernel_rfl) (by kernel_rfl) (by kernel_rfl) (fun _ _ _ h => h) (Or.inl ⟨by rfl, ?hyq9⟩) (by assumption) ?restq9
    case hyq9 => ((intro w hSw; (try dsimp only at hSw); go_simp); try with_reducible rfl)
    case' restq9 => (try simp only [Act.put, List.setIfInBounds_toArray, List.set_cons_zero, List.set_cons_succ])
    refine wpAnyH_ready (rs := [10]) (by kernel_rfl) (by simp) ?_
    refine AllReadyH.cons (o := { dst := none, op := Op.store 113 (Operand.tmp 11) (Operand.tmp 9), type := 0, pos := _, after := #[{ on := 9, ground := Ground.data }, { on := 7, ground := Ground.data }, { on := 7, ground := Ground.chain }, { on := 0, ground := Ground.phase }, { on := 1, ground := Ground.phase }, { on := 2, ground := Ground.phase }, { on := 3, ground := Ground.phase }, { on := 4, ground := Ground.phase }, { on := 5, ground := Ground.phase }, { on := 6, ground := Ground.phase }, { on := 7, ground := Ground.phase }], guard := none }) rfl (fun K hK => ?_) AllReadyH.nil
    go_simp
    refine hK.out _ _ (by go_keep) (fun hHeld2 => ?_)
    clear hK K hHeld; have hHeld := hHeld2; clear hHeld2
    (try simp only [Act.put, List.setIfInBounds_toArray, List.set_cons_zero, List.set_cons_succ])
    refine wpAnyH_done (by kernel_rfl) ?_ _
    have HF : Hid (WaitP X K vr cs S i c (.returned (.tuple #[])) (w4.setCell ⟨X.m, 2, none⟩ (.slice (some ⟨g', 0, none⟩) (cs.length + 1) c4))) := Lib.hid (by
      refine ⟨rfl, .slice (some ⟨g', 0, none⟩) (cs.length + 1) c4, ?_⟩
      refine (H1.out.below (w' := (w.alloc (.cells #[takeV c] tG)).drew) (below_al (Below.refl _ _) _).drew).setWaiting (W := S.waiting ++ [i]) (cs' := cs ++ [c]) hg4 ?_ (fun g e => ?_) (by simp [H1.out.cl]) (fun q h1 h2 => ?_)
      · rw [List.map_append, List.map_singleton]; exact hrow4
      · have e' : some g' = some g := e
        rcases hp4 with h1 | h1
        · exact .inl (h1.symm.trans e')
        · exact .inr (by have := Option.some.inj e'; simp at h1 ⊢; omega)
      · by_cases hq : q < cs.length
        · rw [List.getElem_append_left hq, List.getElem_append_left (by rw [← H1.out.cl]; exact hq)]
          exact H1.out.cw q hq (by rw [← H1.out.cl]; exact hq)
        · have hq2 : q = cs.length := by simp at h1; omega
          subst hq2
          refine ⟨p, ?_, ?_⟩
          · rw [List.getElem_append_right (by rw [← H1.out.cl]; exact Nat.le_refl _)]
            simp [H1.out.cl]; exact HP.out
          · rw [List.getElem_append_right (Nat.le_refl _)]
            simp; exact HTK.out)
    clear hrow4 hg4 hp4 hX4 f4 e4 e7 e8
    go_wp2
    go_end0
    exact HF.out
theorem idx_mem (l : List UInt8) (c : UInt8) : (c ∈ l ∧ 0 ≤ Lib.indexByte l c) ∨ (c ∉ l ∧ Lib.indexByte l c = -1) := by
  induction l with
  | nil => exact .inr ⟨by simp, rfl⟩
  | cons b r ih =>
    unfold Lib.indexByte
    by_cases e : b = c
    · subst e; exact .inl ⟨by simp, by simp⟩
    · have hb : (b == c) = false := by simpa using e
      rw [hb]
      rcases ih with ⟨h1, h2⟩ | ⟨h1, h2⟩
      · left
        refine ⟨by simp [h1], ?_⟩
        have h3 : (Lib.indexByte r c == -1) = false := by simp; omega
        rw [h3]; simp; omega
      · right
        refine ⟨by simp [h1]; exact fun h => e h.symm, ?_⟩
        rw [h2]; simp
/-- a ref is a function -/
theorem ref_fn (X : Cx) (L : List Pl) (r : Nat) : ∃ k caps, refV X L r = .func (.func k) #[] caps := by
  cases r with
  | zero => exact ⟨_, _, rfl⟩
  | succ j => exact ⟨_, _, rfl⟩
theorem nil_at {L : List Pl} {j : Nat} (hj : j + 1 ≤ L.length) : ∃ p, L[j]? = some p := ⟨L[j], List.getElem?_eq_getElem (by omega)⟩
set_option maxRecDepth 100000 in
set_option maxHeartbeats 1000000 in
/-- one that waits, and the byte -/
theorem take_any (h : Rep X K vr vw cs w S) {c : Nat} {p : Pl} (hpm : p ∈ S.pl) (hk : TakeK X K S.pl p c) (x : UInt8) (hn : S.reached.length + 1 ≤ 2147483648) : Calls Tryz.prog 140 #[.int .u8 x.toNat, ptr (c + 1), ptr (c + 2)] w fun e w' => e = .returned (.tuple #[]) ∧
    ((x ∈ p.t.x.text.data.toList ∧ ∃ vr', Rep X K vr' vw cs w' (call S p.nx)) ∨ (x ∉ p.t.x.text.data.toList ∧ Rep X K vr vw cs w' S)) := by
  have e1 := cell_of_one (h.hk _ _ hk.1)
  have e2 := cell_of_one (h.hk _ _ hk.2)
  have hnx := (h.pk p hpm).2
  have hI : ∀ w, Calls Tryz.prog 141 #[.string p.t.x.text, .int .u8 x.toNat] w fun e w' => e = .returned (.int .i64 (Lib.indexByte p.t.x.text.data.toList x)) ∧ w = w' := fun w => (Tryz.strings_IndexByte _ _ _).mono fun e w' ⟨a, b⟩ => ⟨by rw [a]; simp, b.symm⟩
  have HI := Lib.hid hI
  clear hI
  rcases idx_mem p.t.x.text.data.toList x with ⟨hm, hi⟩ | ⟨hm, hi⟩
  · obtain ⟨n, hnn⟩ : ∃ n, n = Lib.indexByte p.t.x.text.data.toList x := ⟨_, rfl⟩
    rw [← hnn] at hi HI
    have HM := Lib.hid hm
    clear hm hnn
    cases hx : p.nx with
    | zero =>
      rw [hx] at e2
      have e2' : w.cell? ⟨c + 2, 0, none⟩ = some (endPV X) := e2
      have HC := Lib.hid (end_any h)
      clear h hk e2 hx hpm
      go_enter Tryz.func140, Tryz.ntmps140
      go_wp2_with (first
        | (go_at_call 141; refine (HI.out _).mono ?_; rintro e w' ⟨rfl, rfl⟩)
        | (go_at_call 95; refine HC.out.mono ?_; rintro e w' ⟨rfl, vr', hR⟩; have HR := Lib.hid hR; clear hR))
      go_end0
      exact ⟨rfl, .inl ⟨HM.out, vr', HR.out⟩⟩
    | succ j =>
      obtain ⟨q, hq⟩ := nil_at (by rw [← hx]; exact hnx)
      rw [hx] at e2
      have e2' : w.cell? ⟨c + 2, 0, none⟩ = some (placeV q.b) := by rw [e2]; show some (placeV (bOf S.pl j)) = _; rw [bOf_eq hq]
      have HC := Lib.hid (place_any h hq hn)
      clear h hk e2 hx hpm hq
      go_enter Tryz.func140, Tryz.ntmps140
      go_wp2_with (first
        | (go_at_call 141; refine (HI.out _).mono ?_; rintro e w' ⟨rfl, rfl⟩)
        | (go_at_call 127; refine HC.out.mono ?_; rintro e w' ⟨rfl, vr', hR⟩; have HR := Lib.hid hR; clear hR))
      go_end0
      exact ⟨rfl, .inl ⟨HM.out, vr', HR.out⟩⟩
  · rw [hi] at HI
    have HM := Lib.hid hm
    have HR := Lib.hid h
    clear h hk hpm hm hi
    go_enter Tryz.func140, Tryz.ntmps140
    go_wp2_with (go_at_call 141; refine (HI.out _).mono ?_; rintro e w' ⟨rfl, rfl⟩)
    go_end0
    exact ⟨rfl, .inr ⟨HM.out, HR.out⟩⟩
theorem alloc_new_at (w : World) (o : Obj) {b : Nat} (h : b = w.heap.size) : (w.alloc o).heap[b]? = some o := by rw [h]; exact heap_alloc_new w o
theorem Rep.addNew (h : Rep X K vr vw cs w S) (o : Obj) (hc : o.isCells = true := by rfl) : Rep X (K.add w.heap.size o) vr vw cs (w.alloc o) S := h.add (Nat.le_refl _) (below_al (Below.refl _ _) _) (heap_alloc_new w o) hc
theorem Kn.add_ne (K : Kn) {b x : Nat} {o : Obj} (h : x ≠ b) : K.add b o x = K x := if_neg h
theorem Rep.le_new (h : Rep X K vr vw cs w S) {o : Obj} : K.le (K.add w.heap.size o) := Kn.le_add (h.new_free (Nat.le_refl _))
set_option maxRecDepth 100000 in
set_option maxHeartbeats 1000000 in
/-- a wait is made -/
theorem waitFor_any (h : Rep X K vr vw cs w S) {p : Pl} (ch : ByteArray) (hch : ch = p.t.x.text) : Calls Tryz.prog 128 #[ptr X.m, .string ch, refV X S.pl p.nx] w fun e w' => e = .returned (waitV w.heap.size) ∧
    ∃ K', K.le K' ∧ Rep X K' vr vw cs w' S ∧ Below w.heap.size w w' ∧ VsK X K' S.pl p (waitV w.heap.size) .wait := by
  obtain ⟨k, caps, hv⟩ := ref_fn X S.pl p.nx
  have HV := Lib.hid hv
  have HCH := Lib.hid hch
  rw [hv]
  clear hv hch
  have r1 := h.addNew (bx (ptr X.m) tM)
  have r2 := r1.addNew (bx (.string ch) 9)
  have r3 := r2.addNew (bx (.func (.func k) #[] caps) tF)
  have r4 := r3.addNew (bx (takeV w.heap.size) tG)
  simp only [World.size_alloc] at r2 r3 r4
  have HF : Hid (∃ K', K.le K' ∧ Rep X K' vr vw cs ((((w.alloc (bx (ptr X.m) tM)).alloc (bx (.string ch) 9)).alloc (bx (.func (.func k) #[] caps) tF)).alloc (bx (takeV w.heap.size) tG)) S ∧ Below w.heap.size w ((((w.alloc (bx (ptr X.m) tM)).alloc (bx (.string ch) 9)).alloc (bx (.func (.func k) #[] caps) tF)).alloc (bx (takeV w.heap.size) tG)) ∧ VsK X K' S.pl p (waitV w.heap.size) .wait) := Lib.hid
    ⟨_, Kn.le_trans (Kn.le_trans (Kn.le_trans h.le_new (by have := r1.le_new (o := bx (.string ch) 9); simpa using this)) (by have := r2.le_new (o := bx (.func (.func k) #[] caps) tF); simpa using this)) (by have := r3.le_new (o := bx (takeV w.heap.size) tG); simpa using this), r4, below_al (below_al (below_al (below_al (Below.refl _ _) _) _) _) _, w.heap.size, rfl, by
      rw [Kn.add_ne _ (by omega), Kn.add_ne _ (by omega), Kn.add_ne _ (by omega), Kn.add_at], by rw [show w.heap.size + 3 = w.heap.size + 1 + 1 + 1 by omega, Kn.add_at], by
      rw [Kn.add_ne _ (by omega), Kn.add_ne _ (by omega), Kn.add_at, HCH.out], by
      rw [Kn.add_ne _ (by omega), show w.heap.size + 2 = w.heap.size + 1 + 1 by omega, Kn.add_at, HV.out]⟩
  clear r1 r2 r3 r4 h
  go_enter Tryz.func128, Tryz.ntmps128
  go_wp2
  go_ret
  exact ⟨rfl, HF.out⟩
set_option maxRecDepth 100000 in
theorem onceB_any (m : Nat) (k : Nat) (caps : Array Value) (w : World) : Calls Tryz.prog 106 #[ptr m, .func (.func k) #[] caps] w fun e w' => e = .returned (.func (.func 127) #[] #[ptr (w.heap.size + 1 + 1), ptr w.heap.size, ptr (w.heap.size + 1)]) ∧ w' = ((w.alloc (bx (ptr m) tM)).alloc (bx (.func (.func k) #[] caps) tF)).alloc (bx (.int .i64 (-1)) 3) := by
  go_enter Tryz.func106, Tryz.ntmps106
  go_wp2
  go_ret
  exact ⟨rfl, rfl⟩
set_option maxRecDepth 100000 in
set_option maxHeartbeats 2000000 in
/-- a place is made -/
theorem before_any (h : Rep X K vr vw cs w S) {t : Pat} {e : Nat} {r : PatR} {nx : Nat} (hnx : nx ≤ S.pl.length) (hrd : RdN patK e X.w0 r t ∧ t.x.text.size ≤ 9223372036854775807 ∧ TxFit e t.kids) : Calls Tryz.prog 94 #[ptr X.m, .agg #[.int .i64 r.op, .string r.text, r.kv], refV X S.pl nx] w fun e' w' => e' = .returned (placeV w.heap.size) ∧
    ∃ K', K.le K' ∧ (∀ x, x < w.heap.size → K' x = K x) ∧ Rep X K' vr vw cs w' { S with pl := S.pl ++ [⟨t, e, r, nx, w.heap.size, -1, none⟩] } ∧ Below w.heap.size w w' := by
  obtain ⟨k, caps, hv⟩ := ref_fn X S.pl nx
  obtain ⟨A, cap, hkv⟩ := hrd.1.2.form
  obtain ⟨op, text, kv⟩ := r
  obtain rfl : kv = .slice A t.kids.length cap := hkv
  obtain ⟨n, hn⟩ : ∃ n, n = t.kids.length := ⟨_, rfl⟩
  rw [← hn] at hrd ⊢
  have HV := Lib.hid hv
  rw [hv]
  clear hv hn
  have HF : Hid (∀ w', Below w.heap.size w w' → w'.heap[w.heap.size]? = some (bx (ptr X.m) tM) → w'.heap[w.heap.size + 1]? = some (.cells #[.int .i64 op, .string text, .slice A n cap] 82 (0, 0)) → w'.heap[w.heap.size + 2]? = some (bx (.func (.func k) #[] caps) tF) → w'.heap[w.heap.size + 3]? = some (bx (placeV w.heap.size) tF) →
      w'.heap[w.heap.size + 4]? = some (bx .nilFunc tF) → w'.heap[w.heap.size + 5]? = some (bx (ptr X.m) tM) → w'.heap[w.heap.size + 6]? = some (bx (visitV w.heap.size) tF) → w'.heap[w.heap.size + 7]? = some (bx (.int .i64 (-1)) 3) →
      ∃ K', K.le K' ∧ (∀ x, x < w.heap.size → K' x = K x) ∧ Rep X K' vr vw cs w' { S with pl := S.pl ++ [⟨t, e, ⟨op, text, .slice A n cap⟩, nx, w.heap.size, -1, none⟩] } ∧ Below w.heap.size w w') := Lib.hid fun w' hB b0 b1 b2 b3 b4 b5 b6 b7 => by
    rw [← HV.out] at b2
    obtain ⟨K', h1, h3, h2⟩ := h.place rfl hB hnx hrd b0 b1 b2 b3 b4 b5 b6 b7
    exact ⟨K', h1, h3, h2, hB⟩
  have HO := Lib.hid (fun w' => onceB_any X.m 107 #[ptr (w.heap.size + 4), ptr w.heap.size, ptr (w.heap.size + 1), ptr (w.heap.size + 3), ptr (w.heap.size + 2)] w')
  clear h hrd
  go_enter Tryz.func94, Tryz.ntmps94
  go_wp2_with (go_at_call 106; refine (HO.out _).mono ?_; rintro e' w' ⟨rfl, rfl⟩)
  go_ret
  refine ⟨rfl, HF.out _ ?_ ?_ ?_ ?_ ?_ ?_ ?_ ?_ ?_⟩
  · exact below_al (below_al (below_al (below_al (below_al (below_al (below_al (below_al (Below.refl _ _) _) _) _) _) _) _) _) _
  all_goals
    repeat first
      | (refine alloc_new_at _ _ ?_; ((try simp); done))
      | (rw [Below.heap_alloc _ _ _ ?hk]; case hk => (simp only [World.size_alloc]; omega))
end
end Go.Proofs.YtdmccopggmienaaGreat

/- CHAPTER 5, impl: the matching machine's closures: what visits call; a kid that may be left out. -/
namespace Go.Proofs.YtdmccopggmienaaGreat
open Go.RowKit Mac

section
variable {X : Cx} {K K' : Kn} {vr vw : Value} {cs : List Nat} {w w' : World} {S : Mc}
/-- a call of a ref -/
theorem ref_any (h : Rep X K vr vw cs w S) {r : Nat} (hr : r ≤ S.pl.length) (hn : S.reached.length + 1 ≤ 2147483648) {L : List Pl} (hL : refV X L r = refV X S.pl r) : ∃ k caps, refV X L r = .func (.func k) #[] caps ∧ (∀ w, (callFunc k caps).run Tryz.prog w = .ok (.enter k caps) w) ∧ Calls Tryz.prog k caps w (CallP X K vw cs S r) := by
  cases r with
  | zero => exact ⟨_, _, rfl, fun w => enters_of Tryz.func95 (by kernel_rfl) rfl _ w, end_any h⟩
  | succ j =>
    obtain ⟨q, hq⟩ := nil_at hr
    refine ⟨_, _, by rw [hL]; rfl, fun w => enters_of Tryz.func127 (by kernel_rfl) rfl _ w, ?_⟩
    have := place_any h hq hn
    rw [← bOf_eq hq] at this
    exact this
/-- what a call keeps of refs -/
theorem call_len (S : Mc) (r : Nat) (hr : r ≤ S.pl.length) (hv : ∀ (i : Nat) (p : Pl), S.pl[i]? = some p → p.vis ≤ S.pos) : (call S r).pl.length = S.pl.length ∧ (call S r).pos = S.pos ∧ (call S r).waiting = S.waiting ∧ Same S.pl (call S r).pl ∧ (∀ (i : Nat) (p : Pl), (call S r).pl[i]? = some p → p.vis ≤ S.pos) ∧ (call S r).reached.length + unv (call S r) ≤ S.reached.length + unv S := by
  rcases call_spec S r hr hv with ⟨h1, h2⟩ | ⟨rfl, h2⟩ | ⟨i, p, rfl, hp, hlt, h2⟩
  · rw [h2]; exact ⟨rfl, rfl, rfl, fun _ _ => rfl, hv, Nat.le_refl _⟩
  · rw [h2]; exact ⟨rfl, rfl, rfl, fun _ _ => rfl, hv, Nat.le_refl _⟩
  · rw [h2]
    refine ⟨List.length_set, rfl, rfl, same_set hp rfl, fun j q hq => ?_, ?_⟩
    · rcases set_back hp hq with ⟨rfl, rfl⟩ | ⟨_, hq⟩
      · exact Int.le_refl _
      · exact hv j q hq
    · have := sumL_set (f := uw S.pos) hp { p with vis := S.pos }
      have h1 : uw S.pos p = 1 := by unfold uw; rw [if_pos hlt]
      have h2 : uw S.pos { p with vis := S.pos } = 0 := by unfold uw; rw [if_neg (Int.lt_irrefl _)]
      show (S.reached ++ [i]).length + sumL (uw S.pos) (S.pl.set i { p with vis := S.pos }) ≤ S.reached.length + sumL (uw S.pos) S.pl
      rw [List.length_append, List.length_singleton]; omega
/-- calls of refs, one after the other -/
theorem calls_len : ∀ (l : List Nat) (S : Mc), (∀ r, r ∈ l → r ≤ S.pl.length) → (∀ (i : Nat) (p : Pl), S.pl[i]? = some p → p.vis ≤ S.pos) → (l.foldl call S).pl.length = S.pl.length ∧ (l.foldl call S).pos = S.pos ∧ (l.foldl call S).waiting = S.waiting ∧ Same S.pl (l.foldl call S).pl ∧ (∀ (i : Nat) (p : Pl), (l.foldl call S).pl[i]? = some p → p.vis ≤ S.pos) ∧ (l.foldl call S).reached.length + unv (l.foldl call S) ≤ S.reached.length + unv S
  | [], S, _, hv => ⟨rfl, rfl, rfl, fun _ _ => rfl, hv, Nat.le_refl _⟩
  | r :: l, S, hl, hv => by
    obtain ⟨a1, a2, a3, a4, a5, a6⟩ := call_len S r (hl r (by simp)) hv
    obtain ⟨b1, b2, b3, b4, b5, b6⟩ := calls_len l (call S r) (fun q hq => by rw [a1]; exact hl q (by simp [hq])) (by rw [a2]; exact a5)
    refine ⟨b1.trans a1, b2.trans a2, b3.trans a3, fun j hj => (b4 j (by rw [a1]; exact hj)).trans (a4 j hj), ?_, Nat.le_trans b6 a6⟩
    have := b5; rw [a2] at this; exact this
/-- two ways -/
def CallsP (X : Cx) (K : Kn) (vw : Value) (cs : List Nat) (S : Mc) (l : List Nat) (e : Ending) (w' : World) : Prop := e = .returned (.tuple #[]) ∧ ∃ vr', Rep X K vr' vw cs w' (l.foldl call S)
set_option maxRecDepth 100000 in
set_option maxHeartbeats 2000000 in
theorem or_any (h : Rep X K vr vw cs w S) {r r' c c' : Nat} (k1 : K c = some (bx (refV X S.pl r) tF)) (k2 : K c' = some (bx (refV X S.pl r') tF)) (hr : r ≤ S.pl.length) (hr' : r' ≤ S.pl.length) (hv : ∀ (i : Nat) (p : Pl), S.pl[i]? = some p → p.vis ≤ S.pos) (hn : S.reached.length + unv S + 1 ≤ 2147483648) :
    Calls Tryz.prog 145 #[ptr c, ptr c'] w (CallsP X K vw cs S [r, r']) := by
  obtain ⟨a1, a2, a3, a4, a5, a6⟩ := call_len S r hr hv
  obtain ⟨k, caps, e1, hen1, hc1⟩ := ref_any h hr (by omega) (L := S.pl) rfl
  have c1 := cell_of_one (h.hk _ _ k1)
  rw [e1] at c1
  have H2 : Hid (∀ w1 vr1, Rep X K vr1 vw cs w1 (call S r) → ∃ k caps, w1.cell? ⟨c', 0, none⟩ = some (.func (.func k) #[] caps) ∧ (∀ w, (callFunc k caps).run Tryz.prog w = .ok (.enter k caps) w) ∧ Calls Tryz.prog k caps w1 (CallP X K vw cs (call S r) r')) := Lib.hid fun w1 vr1 h1 => by
    obtain ⟨k', caps', e2, hen2, hc2⟩ := ref_any h1 (r := r') (by rw [a1]; exact hr') (by omega) (L := S.pl) (ref_same a4 hr').symm
    refine ⟨k', caps', ?_, hen2, hc2⟩
    rw [← e2]; exact cell_of_one (h1.hk _ _ k2)
  have HC1 := Lib.hid hc1
  clear h hc1 k1 k2 a1 a2 a3 a4 a5 a6 hv e1
  go_enter Tryz.func145, Tryz.ntmps145
  go_wp2_with fail
  refine HC1.out.mono ?_
  rintro e w1 ⟨rfl, vr1, h1⟩
  obtain ⟨k', caps', e2, hen2, hc2⟩ := H2.out w1 vr1 h1
  have HC2 := Lib.hid hc2
  clear h1 hc2
  go_wp2_with fail
  refine HC2.out.mono ?_
  rintro e w2 ⟨rfl, vr2, h2⟩
  have HR := Lib.hid h2
  clear h2
  go_wp2
  go_end0
  exact ⟨rfl, vr2, HR.out⟩
set_option maxRecDepth 100000 in
set_option maxHeartbeats 2000000 in
theorem each_any (h : Rep X K vr vw cs w S) {l : List Nat} {c b cap : Nat} {cur : Array Value} (k1 : K c = some (bx (.slice (some ⟨b, 0, none⟩) l.length cap) 112)) (k2 : K b = some (.cells cur tF (0, 0))) (hcur : ∀ q (h : q < l.length), cur[q]? = some (refV X S.pl l[q])) (hll : l.length ≤ 2147483648)
    (hl : ∀ r, r ∈ l → r ≤ S.pl.length) (hv : ∀ (i : Nat) (p : Pl), S.pl[i]? = some p → p.vis ≤ S.pos) (hn : S.reached.length + unv S + 1 ≤ 2147483648) :
    Calls Tryz.prog 144 #[ptr c] w (CallsP X K vw cs S l) := by
  have c1 := cell_of_one (h.hk _ _ k1)
  obtain ⟨n, hnn⟩ : ∃ n, n = l.length := ⟨_, rfl⟩
  have HN := Lib.hid hnn
  rw [← hnn] at c1 hll
  have HC : Hid (∀ k, k < n → ∀ wr vr', Rep X K vr' vw cs wr ((l.take k).foldl call S) → ∃ f caps, wr.cell? ⟨b, k, none⟩ = some (.func (.func f) #[] caps) ∧ (∀ w, (callFunc f caps).run Tryz.prog w = .ok (.enter f caps) w) ∧ Calls Tryz.prog f caps wr fun e w' => e = .returned (.tuple #[]) ∧ ∃ vr'', Rep X K vr'' vw cs w' ((l.take (k + 1)).foldl call S)) := Lib.hid fun k hk wr vr' hR => by
    obtain ⟨a1, a2, a3, a4, a5, a6⟩ := calls_len (l.take k) S (fun r hr => hl r (List.mem_of_mem_take hr)) hv
    have hkl : k < l.length := by omega
    have hrk := hl _ (List.getElem_mem hkl)
    obtain ⟨f, caps, e1, hen, hc⟩ := ref_any hR (r := l[k]) (by rw [a1]; exact hrk) (by omega) (L := S.pl) (ref_same a4 hrk).symm
    refine ⟨f, caps, ?_, hen, hc.mono ?_⟩
    · rw [← e1, cell_of_row _ b k _ _ _ (hR.hk _ _ k2)]; exact hcur k hkl
    · rintro e w' ⟨rfl, vr'', hR'⟩
      refine ⟨rfl, vr'', ?_⟩
      rw [List.take_succ_eq_append_getElem hkl, List.foldl_append]
      exact hR'
  have H0 : Hid (∃ vr', Rep X K vr' vw cs w ((l.take 0).foldl call S)) := Lib.hid ⟨vr, h⟩
  clear h k1 k2 hcur hl hv hn hnn
  go_enter Tryz.func144, Tryz.ntmps144
  go_wp2
  go_loopw [5] (fun i wr => ∃ k : Nat, k ≤ n ∧ i = .int .i64 k ∧ Hid (∃ vr', Rep X K vr' vw cs wr ((l.take k).foldl call S))) (fun i _ => n - (intOf i).toNat)
  case atStart => exact ⟨0, Nat.zero_le _, rfl, H0⟩
  case round =>
    clear H0
    obtain ⟨k, hk, rfl, HR⟩ := hrel
    by_cases hlt : k < n
    · obtain ⟨vr', hR⟩ := HR.out
      obtain ⟨f, caps, hcell, hen, hcall⟩ := HC.out k hlt wr vr' hR
      have HCALL := Lib.hid hcall
      clear hR hcall HR
      go_wp2_with fail
      refine HCALL.out.mono ?_
      rintro e w1 ⟨rfl, vr'', hR'⟩
      have HR' : Hid (∃ vr', Rep X K vr' vw cs w1 ((l.take (k + 1)).foldl call S)) := Lib.hid ⟨vr'', hR'⟩
      clear hR' HCALL hcell hen
      go_wp2
      go_roundw
      case rel => exact ⟨k + 1, by omega, by go_num, HR'⟩
      case measure => simp [intOf]; omega
    · have HF : Hid (CallsP X K vw cs S l (.returned (.tuple #[])) wr) := Lib.hid (by
        obtain ⟨vr', hR⟩ := HR.out
        rw [List.take_of_length_le (by have := HN.out; omega)] at hR
        exact ⟨rfl, vr', hR⟩)
      clear HR HC
      go_wp2
      go_end0
      exact HF.out
/-- what a visit does to the machine -/
def afterV (S : Mc) (i : Nat) : Vs → Mc
  | .wait => { S with waiting := S.waiting ++ [i] }
  | .ways l => l.foldl call S
/-- what a visit leaves -/
def VisP (X : Cx) (K : Kn) (S : Mc) (i : Nat) (sh : Vs) (e : Ending) (w' : World) : Prop := e = .returned (.tuple #[]) ∧ ∃ vr' vw' cs', Rep X K vr' vw' cs' w' (afterV S i sh)
/-- what a visit's function does -/
theorem vis_any (h : Rep X K vr vw cs w S) {i : Nat} {p : Pl} (hp : S.pl[i]? = some p) {g : Value} {sh : Vs} (hk : VsK X K S.pl p g sh) (hl : ∀ l, sh = .ways l → ∀ r, r ∈ l → r ≤ S.pl.length) (hv : ∀ (i : Nat) (p : Pl), S.pl[i]? = some p → p.vis ≤ S.pos) (hn : S.reached.length + unv S + 1 ≤ 2147483648) (hn2 : S.waiting.length + 1 ≤ 2147483648) :
    ∃ f caps, g = .func (.func f) #[] caps ∧ (∀ w, (callFunc f caps).run Tryz.prog w = .ok (.enter f caps) w) ∧ Calls Tryz.prog f caps w (VisP X K S i sh) := by
  cases sh with
  | wait =>
    obtain ⟨c, rfl, k1, k2, k3⟩ := hk
    refine ⟨_, _, rfl, fun w => enters_of Tryz.func142 (by kernel_rfl) rfl _ w, (wait_any h hp k1 k2 k3 hn2).mono ?_⟩
    rintro e w' ⟨rfl, vw', hR⟩
    exact ⟨rfl, vr, vw', _, hR⟩
  | ways l =>
    have hl' := hl l rfl
    rcases hk with ⟨r, rfl, rfl⟩ | ⟨c, b, cap, cur, rfl, hll, k1, k2, k3⟩ | ⟨r, r', c, c', rfl, rfl, k1, k2⟩ | ⟨rfl, rfl⟩
    · obtain ⟨f, caps, e1, hen, hc⟩ := ref_any h (hl' r (by simp)) (by omega) (L := S.pl) rfl
      refine ⟨f, caps, e1, hen, hc.mono ?_⟩
      rintro e w' ⟨rfl, vr', hR⟩
      exact ⟨rfl, vr', vw, cs, hR⟩
    · refine ⟨_, _, rfl, fun w => enters_of Tryz.func144 (by kernel_rfl) rfl _ w, (each_any h k1 k2 k3 hll hl' hv hn).mono ?_⟩
      rintro e w' ⟨rfl, vr', hR⟩
      exact ⟨rfl, vr', vw, cs, hR⟩
    · refine ⟨_, _, rfl, fun w => enters_of Tryz.func145 (by kernel_rfl) rfl _ w, (or_any h k1 k2 (hl' r (by simp)) (hl' r' (by simp)) hv hn).mono ?_⟩
      rintro e w' ⟨rfl, vr', hR⟩
      exact ⟨rfl, vr', vw, cs, hR⟩
    · refine ⟨_, _, rfl, fun w => enters_of Tryz.func132 (by kernel_rfl) rfl _ w, ?_⟩
      have HF : Hid (VisP X K S i (.ways []) (.returned (.tuple #[])) w) := Lib.hid ⟨rfl, vr, vw, cs, h⟩
      clear h hl hv
      go_enter Tryz.func132, Tryz.ntmps132
      go_wp2
      go_end0
      exact HF.out
end
end Go.Proofs.YtdmccopggmienaaGreat

/- CHAPTER 5, impl: the matching machine's closures: the makers of visits: a kid that may be left out, alternatives. -/
namespace Go.Proofs.YtdmccopggmienaaGreat
open Go.RowKit Mac

section
variable {X : Cx} {K K' : Kn} {vr vw : Value} {cs : List Nat} {w w' : World} {S : Mc}
/-- new places of kids of p, and a function that does what sh says -/
def TryP (X : Cx) (K : Kn) (vr vw : Value) (cs : List Nat) (S : Mc) (p : Pl) (l : List Pat) (behind : Nat) (w : World) (e : Ending) (w' : World) : Prop :=
  ∃ K' nn sh g, e = .returned g ∧ K.le K' ∧ Rep X K' vr vw cs w' { S with pl := S.pl ++ nn } ∧ Below w.heap.size w w' ∧ VsK X K' (S.pl ++ nn) p g sh ∧ Tries (S.pl ++ nn) l behind p.nx sh ∧
    (nn = [] ∨ ∃ k d r b, l = [k] ∧ p.e = d + 1 ∧ nn = [⟨k, d, r, behind, b, -1, none⟩] ∧ DeepL d k.kids)
/-- the i-th kid in memory -/
theorem kid_at {d : Nat} {v : Value} {l : List Pat} {w0 : World} (h : RdL patK (d + 1) w0 v l) (hf : TxFit (d + 1) l) {i : Nat} (hi : i < l.length) : ∃ (a : Addr) (cap : Nat) (r : PatR), v = .slice (some a) l.length cap ∧ (a.add (i * 3)).block < w0.heap.size ∧ Pk w0 (a.add (i * 3)) r ∧ RdN patK d w0 r l[i] ∧ l[i].x.text.size ≤ 9223372036854775807 ∧ TxFit d l[i].kids := by
  obtain ⟨R, ⟨A, cap, hv, hn, hc⟩, hl, hk⟩ := h
  have hiR : i < R.length := Nat.lt_of_lt_of_eq hi hl.symm
  obtain ⟨a, ha, hb, hp⟩ := HasP.pk hc i hiR
  obtain ⟨h1, h2⟩ := hf l[i] (List.getElem_mem hi)
  exact ⟨a, cap, R[i], by rw [← hl, ← ha]; exact hv, hb, hp, hk i hiR hi, h1, h2⟩
theorem Rep.pk' (h : Rep X K vr vw cs w S) {a : Addr} {r : PatR} (hp : Pk X.w0 a r) (ha : a.block < X.w0.heap.size) : Pk w a r := Pk.below hp h.bel ha
set_option maxRecDepth 100000 in
set_option maxHeartbeats 2000000 in
theorem tryOne_any (h : Rep X K vr vw cs w S) {p : Pl} {kv : Value} {t : Pat} {d behind : Nat} (hrd : RdL patK (d + 1) X.w0 kv [t]) (hf : TxFit (d + 1) [t]) (he : p.e = d + 1) (hb : behind ≤ S.pl.length) (hnx : p.nx ≤ S.pl.length) :
    Calls Tryz.prog 131 #[ptr X.m, kv, refV X S.pl behind, refV X S.pl p.nx] w (TryP X K vr vw cs S p [t] behind w) := by
  obtain ⟨k1, caps1, e1⟩ := ref_fn X S.pl p.nx
  obtain ⟨k2, caps2, e2⟩ := ref_fn X S.pl behind
  obtain ⟨a, cap, r, rfl, hab, hpk, hrn, ht1, ht2⟩ := kid_at hrd hf (i := 0) (by simp)
  have ea : a.add (0 * 3) = a := by rw [Nat.zero_mul]; unfold Addr.add; rfl
  rw [ea] at hab hpk
  have h1 := h.addNew (bx (.func (.func k1) #[] caps1) tF)
  have hlt : w.heap.size < (w.alloc (bx (.func (.func k1) #[] caps1) tF)).heap.size := by simp
  obtain ⟨c0, c1, c2⟩ := h1.pk' hpk hab
  have hdk : DeepL d t.kids := by have := rd_deep hrd; exact this t (by simp)
  have HBF := Lib.hid (before_any h1 (t := t) (e := d) (r := r) (nx := behind) hb ⟨hrn, ht1, ht2⟩)
  rw [e2] at HBF
  have HFIN : Hid (∀ w2 K2, K.le K2 → (∀ x, x < w.heap.size + 1 → K2 x = K.add w.heap.size (bx (.func (.func k1) #[] caps1) tF) x) → Rep X K2 vr vw cs w2 { S with pl := S.pl ++ [⟨t, d, r, behind, w.heap.size + 1, -1, none⟩] } → Below (w.heap.size + 1) (w.alloc (bx (.func (.func k1) #[] caps1) tF)) w2 → TryP X K vr vw cs S p [t] behind w (.returned (orV w2.heap.size w.heap.size)) (w2.alloc (bx (placeV (w.heap.size + 1)) tF))) := Lib.hid fun w2 K2 hle hsm hR hB => by
    have hz : w.heap.size + 1 ≤ w2.heap.size := by have := hB.size; simpa using this
    refine ⟨K2.add w2.heap.size (bx (placeV (w.heap.size + 1)) tF), [⟨t, d, r, behind, w.heap.size + 1, -1, none⟩], .ways [S.pl.length + 1, p.nx], orV w2.heap.size w.heap.size, rfl, Kn.le_trans hle (by exact hR.le_new), hR.addNew _, ?_, ?_, ?_, .inr ⟨t, d, r, w.heap.size + 1, rfl, he, rfl, hdk⟩⟩
    · exact below_al (below_step (below_al (Below.refl _ _) _) (hB.mono (by simp))) _
    · refine .inr (.inr (.inl ⟨S.pl.length + 1, p.nx, w2.heap.size, w.heap.size, rfl, rfl, ?_, ?_⟩))
      · rw [Kn.add_at]
        show _ = some (bx (placeV (bOf _ S.pl.length)) tF)
        rw [bOf_eq (p := ⟨t, d, r, behind, w.heap.size + 1, -1, none⟩) (by simp)]
      · rw [Kn.add_ne _ (by omega), hsm _ (by omega), Kn.add_at, ref_same (same_app _ _) hnx, e1]
    · exact ⟨S.pl.length + 1, rfl, S.pl.length, ⟨t, d, r, behind, w.heap.size + 1, -1, none⟩, rfl, by simp, rfl, rfl⟩
  have hle0 := Lib.hid (h.le_new (o := bx (.func (.func k1) #[] caps1) tF))
  rw [e1, e2]
  clear h h1 hrd hpk hrn ht1 ht2 hf he hb hnx e1 e2 hdk
  go_enter Tryz.func131, Tryz.ntmps131
  go_wp2_with fail
  refine HBF.out.mono ?_
  rintro e w2 ⟨rfl, K2, hle, hsm, hR, hB⟩
  have HF := Lib.hid (HFIN.out w2 K2 (Kn.le_trans hle0.out hle) (fun x hx => hsm x (by simp; omega)) (by simpa using hR) (by simpa using hB))
  clear hle hsm hR hB
  go_wp2
  go_ret
  exact HF.out
set_option maxRecDepth 100000 in
set_option maxHeartbeats 2000000 in
theorem trySkip_any (h : Rep X K vr vw cs w S) {p : Pl} {A : Option Addr} {cap behind : Nat} {l : List Pat} (hl : l.length ≠ 1) (hnx : p.nx ≤ S.pl.length) :
    Calls Tryz.prog 131 #[ptr X.m, .slice A l.length cap, refV X S.pl behind, refV X S.pl p.nx] w (TryP X K vr vw cs S p l behind w) := by
  obtain ⟨k1, caps1, e1⟩ := ref_fn X S.pl p.nx
  obtain ⟨k2, caps2, e2⟩ := ref_fn X S.pl behind
  obtain ⟨n, hn⟩ : ∃ n, n = l.length := ⟨_, rfl⟩
  have HF : Hid (TryP X K vr vw cs S p l behind w (.returned (.func (.func k1) #[] caps1)) (w.alloc (bx (.func (.func k1) #[] caps1) tF))) := Lib.hid
    ⟨K, [], .ways [p.nx], _, rfl, K.le_refl, by rw [List.append_nil]; exact h.below (below_al (Below.refl _ _) _), below_al (Below.refl _ _) _, .inl ⟨p.nx, rfl, by rw [List.append_nil, e1]⟩, by
      unfold Tries
      split
      · exact absurd rfl hl
      · rfl, .inl rfl⟩
  have hq : (((n : Nat) : Int) != 1) = true := by simp; omega
  rw [e1, e2, ← hn]
  clear h hl hn e1 e2
  go_enter Tryz.func131, Tryz.ntmps131
  go_wp2
  go_ret
  exact HF.out
/-- a block that the machine does not know -/
structure Free (X : Cx) (K : Kn) (vr vw : Value) (L : List Pl) (b : Nat) : Prop where
  k : K b = none
  m : b ≠ X.m
  e : b ≠ X.e
  r : vr.ownBlock ≠ some b
  w : vw.ownBlock ≠ some b
  p : ∀ p, p ∈ L → b ≠ p.b + 4 ∧ b ≠ p.b + 7
theorem Rep.free_new (h : Rep X K vr vw cs w S) {b : Nat} (hb : w.heap.size ≤ b) : Free X K vr vw S.pl b := by
  refine ⟨h.new_free hb, ?_, ?_, fun e => ?_, fun e => ?_, fun p hp => ⟨?_, ?_⟩⟩
  · have := blk_lt h.hm; omega
  · have := blk_lt h.he; omega
  · have := (h.own_r e).2; omega
  · have := (h.own_w e).2; omega
  · obtain ⟨u, a, _⟩ := h.hg p hp; have := blk_lt a; omega
  · have := blk_lt (h.h7 p hp); omega
theorem Free.place {L : List Pl} {b : Nat} (h : Free X K vr vw L b) (hk : K' b = K b) {q : Pl} (hq : b < q.b) : Free X K' vr vw (L ++ [q]) b :=
  ⟨by rw [hk]; exact h.k, h.m, h.e, h.r, h.w, fun p hp => by
    rcases List.mem_append.1 hp with hp | hp
    · exact h.p p hp
    · rw [List.mem_singleton.1 hp]; exact ⟨by omega, by omega⟩⟩
theorem Rep.addFree (h : Rep X K vr vw cs w S) {b : Nat} {o : Obj} (ho : w.heap[b]? = some o) (hc : o.isCells = true) (hf : Free X K vr vw S.pl b) : Rep X (K.add b o) vr vw cs w S := h.addOld ho hc hf.k hf.m hf.e hf.r hf.w hf.p
theorem Free.add {L : List Pl} {b b' : Nat} {o : Obj} (h : Free X K vr vw L b) (hne : b ≠ b') : Free X (K.add b' o) vr vw L b := ⟨by rw [Kn.add_ne _ hne]; exact h.k, h.m, h.e, h.r, h.w, h.p⟩
/-- blocks that the machine does not know turn -/
theorem Rep.off (h : Rep X K vr vw cs w S) {Z : Nat → Prop} (hB : Below X.w0.heap.size w w') (hf : ∀ b, b < w.heap.size → ¬ Z b → w'.heap[b]? = w.heap[b]?) (hz : ∀ b, Z b → Free X K vr vw S.pl b) : Rep X K vr vw cs w' S := by
  have kb : ∀ b (o : Obj), w.heap[b]? = some o → ¬ Z b → w'.heap[b]? = some o := fun b o ho hz => (hf b (blk_lt ho) hz).trans ho
  refine ⟨h.dis, h.bel.trans hB, fun b o hk => kb b o (h.hk b o hk) (fun e => by rw [(hz b e).k] at hk; cases hk), kb _ _ h.hm (fun e => (hz _ e).m rfl), kb _ _ h.he (fun e => (hz _ e).e rfl), h.hv, rowR_frame h.rr fun b hb => hf b (h.own_r hb).2 (fun e => (hz b e).r hb), rowR_frame h.rw fun b hb => hf b (h.own_w hb).2 (fun e => (hz b e).w hb), h.cl, h.cw, h.pk, fun p hp => ?_, fun p hp => kb _ _ (h.h7 p hp) (fun e => ((hz _ e).p p hp).2 rfl), h.rd, h.rl, h.kc⟩
  obtain ⟨g, a, b⟩ := h.hg p hp
  exact ⟨g, kb _ _ a (fun e => ((hz _ e).p p hp).1 rfl), b⟩
/-- blocks turn that are no cells: the records of a loop over a function -/
theorem Rep.turned (h : Rep X K vr vw cs w S) {row : Option Nat} (hg : w.grownBy w' row) (hr : ∀ r, row = some r → X.w0.heap.size ≤ r ∧ ∃ o : Obj, w.heap[r]? = some o ∧ o.isCells = false) : Rep X K vr vw cs w' S := by
  have hno : ∀ b (o : Obj), w.heap[b]? = some o → o.isCells = true → row ≠ some b := fun b o ho hc e => by
    obtain ⟨_, o', h1, h2⟩ := hr b e
    rw [ho] at h1; cases h1
    rw [hc] at h2; cases h2
  refine h.off (Z := fun b => row = some b) ((Below.refl _ _).grown hg h.bel.size (fun r e => (hr r e).1)) (fun b hb hz => hg.block b hb (fun e => hz e.symm)) (fun b hz => ⟨?_, fun e => ?_, fun e => ?_, fun e => ?_, fun e => ?_, fun p hp => ⟨fun e => ?_, fun e => ?_⟩⟩)
  · cases e : K b with
    | none => rfl
    | some o => exact absurd hz (hno b o (h.hk b o e) (h.kc b o e))
  · exact hno b _ (by rw [e]; exact h.hm) rfl hz
  · exact hno b _ (by rw [e]; exact h.he) rfl hz
  · rcases h.rr.2 with ⟨h0, _⟩ | ⟨g, cap, cur, hv, _, hgb, _⟩
    · rw [h0] at e; cases e
    · rw [hv] at e; have e' : g = b := Option.some.inj e
      exact hno b _ (by rw [← e']; exact hgb) rfl hz
  · rcases h.rw.2 with ⟨h0, _⟩ | ⟨g, cap, cur, hv, _, hgb, _⟩
    · rw [h0] at e; cases e
    · rw [hv] at e; have e' : g = b := Option.some.inj e
      exact hno b _ (by rw [← e']; exact hgb) rfl hz
  · obtain ⟨g, a, _⟩ := h.hg p hp
    exact hno b _ (by rw [e]; exact a) rfl hz
  · exact hno b _ (by rw [e]; exact h.h7 p hp) rfl hz
/-- the places of the first kids of p -/
structure Kids (S : Mc) (p : Pl) (l : List Pat) (nn : List Pl) : Prop where
  len : nn.length ≤ l.length
  each : ∀ q (h : q < nn.length) (h' : q < l.length), nn[q].t = l[q] ∧ nn[q].nx = p.nx ∧ nn[q].vis = -1 ∧ nn[q].sh = none ∧ nn[q].e + 1 = p.e ∧ DeepL nn[q].e nn[q].t.kids
def EachI (X : Cx) (K : Kn) (vr vw : Value) (cs : List Nat) (S : Mc) (p : Pl) (l : List Pat) (w : World) (k : Nat) (vway : Value) (wr : World) : Prop :=
  ∃ K1 nn, K.le K1 ∧ Rep X K1 vr vw cs wr { S with pl := S.pl ++ nn } ∧ nn.length = k ∧ Kids S p l nn ∧ RowV tF w.heap.size wr vway (nn.map fun q => placeV q.b) ∧ wr.heap[w.heap.size + 1]? = some (bx vway 112 ) ∧
    Free X K1 vr vw (S.pl ++ nn) (w.heap.size + 1) ∧ (∀ g, vway.ownBlock = some g → g ≠ w.heap.size + 1 ∧ Free X K1 vr vw (S.pl ++ nn) g) ∧ Below w.heap.size w wr
def EachP (X : Cx) (K : Kn) (vr vw : Value) (cs : List Nat) (S : Mc) (p : Pl) (l : List Pat) (w : World) (e : Ending) (w' : World) : Prop :=
  ∃ K' nn sh g, e = .returned g ∧ K.le K' ∧ Rep X K' vr vw cs w' { S with pl := S.pl ++ nn } ∧ Below w.heap.size w w' ∧ VsK X K' (S.pl ++ nn) p g sh ∧ nn.length = l.length ∧ Kids S p l nn ∧ sh = .ways ((List.range l.length).map fun q => S.pl.length + q + 1)
theorem eachI_end {p : Pl} {l : List Pat} {vway : Value} {wr : World} (h : EachI X K vr vw cs S p l w l.length vway wr) (hl : l.length ≤ 2147483648) (hnil : vway ≠ .slice none 0 0) : EachP X K vr vw cs S p l w (.returned (eachV (w.heap.size + 1))) wr := by
  obtain ⟨K1, nn, hle, hR, hnl, hk, hrow, hX, hf1, hf2, hB⟩ := h
  have hrow' := hrow
  rcases hrow.2 with ⟨h0, _⟩ | ⟨g, cap, cur, hv, hg0, hgb, h3, h4, h5, h6⟩
  · exact absurd h0 hnil
  · obtain ⟨g1, g2⟩ := hf2 g (by rw [hv]; rfl)
    have hR2 := (hR.addFree hgb rfl g2).addFree hX rfl (hf1.add (fun e => g1 e.symm))
    refine ⟨_, nn, .ways ((List.range l.length).map fun q => S.pl.length + q + 1), eachV (w.heap.size + 1), rfl, Kn.le_trans hle (Kn.le_trans (Kn.le_add g2.k) (Kn.le_add (by rw [Kn.add_ne _ (fun e => g1 e.symm)]; exact hf1.k))), hR2, hB, .inr (.inl ⟨w.heap.size + 1, g, cap, cur, rfl, by simpa using hl, ?_, ?_, fun q hq => ?_⟩), hnl, hk, rfl⟩
    · rw [Kn.add_at, hv]; simp [hnl]
    · rw [Kn.add_ne _ g1, Kn.add_at]
    · have hq' : q < nn.length := by rw [hnl]; simpa using hq
      have e1 : ((List.range l.length).map fun q => S.pl.length + q + 1)[q] = S.pl.length + q + 1 := by simp
      rw [e1]
      show _ = some (placeV (bOf (S.pl ++ nn) (S.pl.length + q)))
      rw [bOf_eq (p := nn[q]) (by rw [List.getElem?_append_right (by omega), Nat.add_sub_cancel_left, List.getElem?_eq_getElem hq'])]
      have h7 : cur.toList[q]? = some (placeV nn[q].b) := by
        have h8 := congrArg (fun z => z[q]?) h6
        rw [List.getElem?_take_of_lt (by simp; omega)] at h8
        rw [h8]
        simp [List.flatMap_singleton', hq']
      simpa using h7
/-- one more kid's place, one more way -/
theorem eachI_step {p : Pl} {l : List Pat} {vway : Value} {wr : World} {k : Nat} (h : EachI X K vr vw cs S p l w k vway wr) {r : PatR} {t : Pat} {d : Nat} (hlt : k < l.length) (ht : t = l[k]) (he : p.e = d + 1) (hrd : RdN patK d X.w0 r t ∧ t.x.text.size ≤ 9223372036854775807 ∧ TxFit d t.kids) (hdt : DeepL d t.kids) (hnx : p.nx ≤ S.pl.length) (hw0 : X.w0.heap.size ≤ w.heap.size) :
    ∃ ways : List Value, ways.length = k ∧ ∀ W, Below wr.heap.size wr W → Calls Tryz.prog 94 #[ptr X.m, .agg #[.int .i64 r.op, .string r.text, r.kv], refV X S.pl p.nx] W fun e w2 => e = .returned (placeV W.heap.size) ∧ Below W.heap.size W w2 ∧ Hid (RowV tF w.heap.size w2 vway ways) ∧
      Hid (∀ g' c4 w4 o, RowV tF w.heap.size w4 (.slice (some ⟨g', 0, none⟩) (k + 1) c4) (ways ++ [placeV W.heap.size]) → (w2.alloc o).grownBy w4 vway.ownBlock → (some g' = vway.ownBlock ∨ g' = (w2.alloc o).heap.size) → EachI X K vr vw cs S p l w (k + 1) (.slice (some ⟨g', 0, none⟩) (k + 1) c4) (w4.setCell ⟨w.heap.size + 1, 0, none⟩ (.slice (some ⟨g', 0, none⟩) (k + 1) c4))) := by
  obtain ⟨K1, nn, hle, hR, hnl, hk, hrow, hX, hf1, hf2, hB⟩ := h
  refine ⟨nn.map fun q => placeV q.b, by simp [hnl], fun W hW => ?_⟩
  have hRW := hR.below hW
  have hnx' : p.nx ≤ (S.pl ++ nn).length := by rw [List.length_append]; omega
  have e0 : refV X (S.pl ++ nn) p.nx = refV X S.pl p.nx := ref_same (same_app _ _) hnx
  have hb := before_any hRW (t := t) (e := d) (r := r) (nx := p.nx) hnx' hrd
  rw [e0] at hb
  refine hb.mono ?_
  rintro e w2 ⟨rfl, K2, hle2, hsm, hR2, hB2⟩
  have hWs := hW.size
  have hBw := hB.size
  have hXlt := blk_lt hX
  refine ⟨rfl, hB2, Lib.hid ((hrow.below hW).below hB2), Lib.hid fun g' c4 w4 o hrow4 hg4 hp4 => ?_⟩
  have hw2 := hB2.size
  have hrl : ∀ g, vway.ownBlock = some g → w.heap.size ≤ g ∧ g < wr.heap.size := fun g hg => hrow.lt hg
  have hX2 : w2.heap[w.heap.size + 1]? = some (bx vway 112) := (hB2.block _ (by omega)).trans ((hW.block _ hXlt).trans hX)
  have hX4 : w4.heap[w.heap.size + 1]? = some (bx vway 112) := (hg4.block _ (by simp; omega) (fun e => (hf2 _ e.symm).1 rfl)).trans ((Below.heap_alloc _ _ _ (by omega)).trans hX2)
  have F1 : Free X K2 vr vw ((S.pl ++ nn) ++ [⟨t, d, r, p.nx, W.heap.size, -1, none⟩]) (w.heap.size + 1) := hf1.place (hsm _ (by omega)) (by show _ < W.heap.size; omega)
  have F2 : ∀ g, vway.ownBlock = some g → Free X K2 vr vw ((S.pl ++ nn) ++ [⟨t, d, r, p.nx, W.heap.size, -1, none⟩]) g := fun g hg => (hf2 g hg).2.place (hsm _ (by have := (hrl g hg).2; omega)) (by show g < W.heap.size; have := (hrl g hg).2; omega)
  have hBo : Below X.w0.heap.size w2 (w4.setCell ⟨w.heap.size + 1, 0, none⟩ (.slice (some ⟨g', 0, none⟩) (k + 1) c4)) := by
    have h0 : X.w0.heap.size ≤ w2.heap.size := hR2.bel.size
    have hA : Below X.w0.heap.size w2 (w2.alloc o) := (Below.refl _ _).alloc h0 o
    have hG : Below X.w0.heap.size w2 w4 := hA.grown hg4 (Nat.le_trans h0 hA.size) (fun g hg => Nat.le_trans hw0 (hrl g hg).1)
    exact hG.setCell (p := ⟨w.heap.size + 1, 0, none⟩) (Nat.le_trans hw0 (Nat.le_succ _)) _
  refine ⟨K2, nn ++ [⟨t, d, r, p.nx, W.heap.size, -1, none⟩], Kn.le_trans hle hle2, ?_, by simp [hnl], ⟨by simp; omega, fun q hq hq' => ?_⟩, ?_, one_setCell hX4, by rw [← List.append_assoc]; exact F1, fun g hg => ?_, ?_⟩
  · rw [← List.append_assoc]
    refine hR2.off (Z := fun b => b = w.heap.size + 1 ∨ vway.ownBlock = some b) hBo (fun b hb hz => ?_) (fun b hz => ?_)
    · rw [Below.heap_setCell _ _ _ _ (fun e => hz (.inl e))]
      exact (hg4.block _ (by simp; omega) (fun e => hz (.inr e.symm))).trans (Below.heap_alloc _ _ _ hb)
    · rcases hz with rfl | hz
      · exact F1
      · exact F2 b hz
  · by_cases hq2 : q < nn.length
    · rw [List.getElem_append_left hq2]; exact hk.each q hq2 hq'
    · have hq3 : q = nn.length := by simp at hq; omega
      subst hq3
      have e9 : (nn ++ [(⟨t, d, r, p.nx, W.heap.size, -1, none⟩ : Pl)])[nn.length]'hq = ⟨t, d, r, p.nx, W.heap.size, -1, none⟩ := by simp
      rw [e9]
      exact ⟨by rw [ht]; simp only [hnl], rfl, rfl, rfl, he.symm, hdt⟩
  · rw [List.map_append, List.map_singleton]
    refine ownsRow_setCell_other hrow4 (a := ⟨w.heap.size + 1, 0, none⟩) (fun e => ?_) _
    have e' : g' = w.heap.size + 1 := Option.some.inj e
    rcases hp4 with h1 | h1
    · exact (hf2 _ h1.symm).1 e'
    · simp at h1; omega
  · have e' : g' = g := Option.some.inj hg
    subst e'
    rw [← List.append_assoc]
    rcases hp4 with h1 | h1
    · exact ⟨(hf2 _ h1.symm).1, F2 _ h1.symm⟩
    · simp at h1
      exact ⟨by omega, hR2.free_new (by omega)⟩
  · refine (((hB.trans (hW.mono hBw)).trans (hB2.mono (by omega))).trans ?_)
    have h0 : w.heap.size ≤ w2.heap.size := by omega
    have hA : Below w.heap.size w2 (w2.alloc o) := (Below.refl _ _).alloc h0 o
    have hG : Below w.heap.size w2 w4 := hA.grown hg4 (Nat.le_trans h0 hA.size) (fun g hg => (hrl g hg).1)
    exact hG.setCell (p := ⟨w.heap.size + 1, 0, none⟩) (Nat.le_succ _) _
set_option maxRecDepth 100000 in
set_option maxHeartbeats 4000000 in
theorem tryEach_any (h : Rep X K vr vw cs w S) {p : Pl} {kv : Value} {l : List Pat} (hrd : RdL patK p.e X.w0 kv l) (hf : TxFit p.e l) (hnx : p.nx ≤ S.pl.length) (hll : l.length ≤ 2147483647) :
    Calls Tryz.prog 130 #[ptr X.m, kv, refV X S.pl p.nx] w (EachP X K vr vw cs S p l w) := by
  obtain ⟨i0, hi, hz0, hz1, hz2⟩ := info_parts infoF
  obtain ⟨k1, caps1, e1⟩ := ref_fn X S.pl p.nx
  obtain ⟨A, cap, hkv⟩ := hrd.form
  subst hkv
  have hdl := rd_deep hrd
  obtain ⟨n, hnn⟩ : ∃ n, n = l.length := ⟨_, rfl⟩
  have HN := Lib.hid hnn
  have hw0 : X.w0.heap.size ≤ w.heap.size := h.bel.size
  have HC : Hid (∀ k, k < n → ∀ vway wr, EachI X K vr vw cs S p l w k vway wr → ∃ (a : Addr) (r : PatR) (ways : List Value), A = some a ∧ (a.add (k * 3)).block < X.w0.heap.size ∧ Pk X.w0 (a.add (k * 3)) r ∧ (∃ Ak nk ck, r.kv = .slice Ak nk ck) ∧ ways.length = k ∧ ∀ W b2, W.heap.size = b2 → Below wr.heap.size wr W → Calls Tryz.prog 94 #[ptr X.m, .agg #[.int .i64 r.op, .string r.text, r.kv], .func (.func k1) #[] caps1] W fun e w2 => e = .returned (placeV b2) ∧ Below W.heap.size W w2 ∧ Hid (RowV tF w.heap.size w2 vway ways) ∧
      Hid (∀ g' c4 w4 o, RowV tF w.heap.size w4 (.slice (some ⟨g', 0, none⟩) (k + 1) c4) (ways ++ [placeV b2]) → (w2.alloc o).grownBy w4 vway.ownBlock → (some g' = vway.ownBlock ∨ g' = (w2.alloc o).heap.size) → EachI X K vr vw cs S p l w (k + 1) (.slice (some ⟨g', 0, none⟩) (k + 1) c4) (w4.setCell ⟨w.heap.size + 1, 0, none⟩ (.slice (some ⟨g', 0, none⟩) (k + 1) c4)))) := Lib.hid fun k hk vway wr hE => by
    have hkl : k < l.length := by omega
    cases hpe : p.e with
    | zero => rw [hpe] at hdl; rw [show l = [] from hdl] at hkl; simp at hkl
    | succ d =>
      rw [hpe] at hrd hf hdl
      obtain ⟨a, cap', r, hv, hab, hpk, hrn, ht1, ht2⟩ := kid_at hrd hf hkl
      cases hv
      obtain ⟨Ak, ck, hkv⟩ := hrn.2.form
      obtain ⟨ways, hwl, hcall⟩ := eachI_step hE hkl rfl hpe ⟨hrn, ht1, ht2⟩ (hdl _ (List.getElem_mem hkl)) hnx hw0
      rw [e1] at hcall
      exact ⟨a, r, ways, rfl, hab, hpk, ⟨Ak, _, ck, hkv⟩, hwl, fun W b2 hW2 hW => by subst hW2; exact hcall W hW⟩
  have HEND : Hid (∀ g m c wr, EachI X K vr vw cs S p l w n (.slice (some ⟨g, 0, none⟩) m c) wr → EachP X K vr vw cs S p l w (.returned (eachV (w.heap.size + 1))) wr) := Lib.hid fun g m c wr hE => by
    rw [hnn] at hE
    exact eachI_end hE (by omega) (by simp)
  have H0 : Hid (EachI X K vr vw cs S p l w 0 (.slice (some ⟨w.heap.size, 0, none⟩) 0 0) ((w.alloc (.cells #[] tF)).alloc (bx (.slice (some ⟨w.heap.size, 0, none⟩) 0 0) 112))) := Lib.hid (by
    have hB : Below w.heap.size w ((w.alloc (.cells #[] tF)).alloc (bx (.slice (some ⟨w.heap.size, 0, none⟩) 0 0) 112)) := below_al (below_al (Below.refl _ _) _) _
    refine ⟨K, [], K.le_refl, by rw [List.append_nil]; exact h.below hB, rfl, ⟨by simp, fun q hq => absurd hq (by simp)⟩, ?_, alloc_new_at _ _ (by simp), by rw [List.append_nil]; exact h.free_new (by omega), fun g hg => ?_, hB⟩
    · exact rowR_empty ((Below.heap_alloc _ _ _ (by simp)).trans (heap_alloc_new w _)) (Nat.le_refl _)
    · have e' : w.heap.size = g := Option.some.inj hg
      subst e'
      exact ⟨by omega, by rw [List.append_nil]; exact h.free_new (Nat.le_refl _)⟩)
  have HBEL : Hid (∀ k vway wr, EachI X K vr vw cs S p l w k vway wr → Below X.w0.heap.size X.w0 wr ∧ wr.heap[w.heap.size + 1]? = some (bx vway 112) ∧ (∀ g, vway.ownBlock = some g → g ≠ w.heap.size + 1) ∧ w.heap.size ≤ wr.heap.size) := Lib.hid fun k vway wr hE => by
    obtain ⟨K1, nn, hle, hR, hnl, hk, hrow, hX, hf1, hf2, hB⟩ := hE
    exact ⟨hR.bel, hX, fun g hg => (hf2 g hg).1, hB.size⟩
  rw [e1, ← hnn]
  rw [← hnn] at hll
  clear h hrd hf hnx e1 hdl hnn hw0
  go_enter Tryz.func130, Tryz.ntmps130
  go_wp2
  go_loopw [13] (fun i wr => ∃ (k g c : Nat), k ≤ n ∧ i = .int .i64 k ∧ Hid (EachI X K vr vw cs S p l w k (.slice (some ⟨g, 0, none⟩) k c) wr)) (fun i _ => n - (intOf i).toNat)
  case atStart => exact ⟨0, w.heap.size, 0, Nat.zero_le _, rfl, H0⟩
  case round =>
    clear H0
    obtain ⟨k, g, c, hk, rfl, HE⟩ := hrel
    obtain ⟨hbel, hX, hgv, hws⟩ := HBEL.out _ _ _ HE.out
    have hXlt := blk_lt hX
    have hX1 := cell_of_one hX
    have hXf := free_of_one hX
    by_cases hlt : k < n
    · obtain ⟨a, r, ways, rfl, hab, hpk, ⟨Ak, nk, ck, hkv⟩, hwl, hcall⟩ := HC.out k hlt _ wr HE.out
      obtain ⟨op, text, kv⟩ := r
      obtain rfl : kv = .slice Ak nk ck := hkv
      obtain ⟨c0, c1, c2⟩ := Pk.below hpk hbel hab
      have HCALL := Lib.hid hcall
      have HWL := Lib.hid hwl
      have HX := Lib.hid hX
      have HGV := Lib.hid hgv
      clear hpk hcall hwl hX hgv HE HC HBEL
      go_wp2
      go_region_law (first
        | (refine step_fn_append rfl _ _ 112 tF i0 (by rfl) Tryz.underlying112 hi hz0 hz1 hz2 w.heap.size k _ ways (by rfl) (RowR.alloc HROW.out _) HWL.out (placeV (wr.heap.size + 1)) ⟨w2.heap.size, 0, none⟩ 1 (by rfl) (cell_of_one (heap_alloc_new _ _)) (by rfl) (by omega) (by simp; omega) (k + 1) rfl ?_
           intro g' c4 w4 hrow4 hg4 hp4
           have HNEW := Lib.hid (HS.out g' c4 w4 _ hrow4 hg4 hp4)
           have hX4 : w4.heap[w.heap.size + 1]? = some (bx (.slice (some ⟨g, 0, none⟩) k c) 112) := (hg4.block _ (by simp; omega) (fun e => HGV.out _ e.symm rfl)).trans ((Below.heap_alloc _ _ _ hz5).trans hX2)
           have f4 := free_of_one hX4
           have e4 := cell_of_one hX4)
        | (go_simp; go_at_call 94; refine (HCALL.out _ (wr.heap.size + 1) (by simp) (by first | exact (below_al (Below.refl _ _) _).drew | exact below_al (Below.refl _ _) _)).mono ?_
           rintro e w2 ⟨rfl, hb2, HROW, HS⟩
           have hsz2 := hb2.size
           have hX2 : w2.heap[w.heap.size + 1]? = some (bx (.slice (some ⟨g, 0, none⟩) k c) 112) := (hb2.block _ (by simp; omega)).trans ((Below.heap_alloc _ _ _ hXlt).trans HX.out)
           have e5 := cell_of_one hX2
           have hz5 := blk_lt hX2))
      all_goals
        clear hrow4 hg4 hp4 hX4 f4 e4
        go_wp2
        go_roundw
        case rel => exact ⟨k + 1, g', c4, by omega, by go_num, HNEW⟩
        case measure => simp [intOf]; omega
    · have hkn : k = n := by omega
      subst hkn
      have HF := Lib.hid (HEND.out g k c wr HE.out)
      clear HE HC HBEL HEND
      go_wp2
      go_ret
      exact HF.out
-- EACH
end
end Go.Proofs.YtdmccopggmienaaGreat

/- CHAPTER 5, impl: visitOf, at all patterns but sequences. -/
namespace Go.Proofs.YtdmccopggmienaaGreat
open Go.RowKit Mac

section
variable {X : Cx} {K K' : Kn} {vr vw : Value} {cs : List Nat} {w w' : World} {S : Mc} {D : Nat}
/-- what visitOf leaves -/
def VofP (X : Cx) (K : Kn) (vr vw : Value) (cs : List Nat) (S : Mc) (D i : Nat) (p : Pl) (w : World) (e : Ending) (w' : World) : Prop :=
  ∃ K' nn sh g, e = .returned g ∧ K.le K' ∧ Rep X K' vr vw cs w' { S with pl := S.pl ++ nn } ∧ Below w.heap.size w w' ∧ VsK X K' (S.pl ++ nn) p g sh ∧ Shaped (S.pl ++ nn) i p sh ∧ News D S p nn ∧ (∀ l, sh = .ways l → ∀ r, r ∈ l → r ≤ (S.pl ++ nn).length)
theorem news_nil {p : Pl} (ho : Ord S.pl) : News D S p [] := ⟨fun q hq => (List.not_mem_nil hq).elim, (by rw [List.append_nil]; exact ho), Nat.zero_le _⟩
theorem news_one {p : Pl} {k : Pat} {d : Nat} {r : PatR} {nx b : Nat} (ho : Ord S.pl) (hp : p.t.kids = [k]) (he : p.e = d + 1) (hD : p.e ≤ D) (hd : DeepL d k.kids) (hnx : nx ≤ S.pl.length) : News D S p [⟨k, d, r, nx, b, -1, none⟩] := by
  refine ⟨fun q hq => ?_, fun j q hq => ?_, ?_⟩
  · rw [List.mem_singleton.1 hq]; exact ⟨rfl, rfl, by show d ≤ D; omega, hd⟩
  · by_cases hj : j < S.pl.length
    · rw [List.getElem?_append_left hj] at hq; exact ho j q hq
    · have hl := (List.getElem?_eq_some_iff.1 hq).1
      simp at hl
      have e : j = S.pl.length := by omega
      subst e
      simp at hq
      subst hq
      exact hnx
  · rw [hp, he]
    simp [sumL, nw, cntL]
theorem tries_le {L : List Pl} {l : List Pat} {b n : Nat} {sh : Vs} (h : Tries L l b n sh) (hb : b ≤ L.length) (hn : n ≤ L.length) : ∀ m, sh = .ways m → ∀ r, r ∈ m → r ≤ L.length := by
  unfold Tries at h
  split at h
  · obtain ⟨r, e, hl⟩ := h
    intro m hm q hq
    rw [e] at hm; cases hm
    rcases List.mem_cons.1 hq with rfl | hq
    · exact hl.le hb
    · rw [List.mem_singleton.1 hq]; exact hn
  · intro m hm q hq
    rw [h] at hm; cases hm
    rw [List.mem_singleton.1 hq]; exact hn
theorem vof_try {i : Nat} {p : Pl} {behind : Nat} {e : Ending} {w0 : World} (ho : Ord S.pl) (hD : p.e ≤ D) (hb : behind ≤ S.pl.length) (hnx : p.nx ≤ S.pl.length) (h4 : (p.t.x.op = 4 ∧ behind = i + 1) ∨ (p.t.x.op = 5 ∧ behind = p.nx)) (hB : Below w0.heap.size w0 w) (h : TryP X K vr vw cs S p p.t.kids behind w e w') : VofP X K vr vw cs S D i p w0 e w' := by
  obtain ⟨K', nn, sh, g, he, hle, hR, hB2, hv, ht, hn⟩ := h
  refine ⟨K', nn, sh, g, he, hle, hR, below_step hB hB2, hv, ?_, ?_, ?_⟩
  · rcases h4 with ⟨h4, rfl⟩ | ⟨h4, rfl⟩
    · exact ⟨fun c => by omega, fun c => by omega, fun c => by omega, fun _ => ht, fun c => by omega, fun _ _ _ c => absurd h4 c⟩
    · exact ⟨fun c => by omega, fun c => by omega, fun c => by omega, fun c => by omega, fun _ => ht, fun _ _ _ _ c => absurd h4 c⟩
  · rcases hn with rfl | ⟨k, d, r, b, h1, h2, rfl, h3⟩
    · exact news_nil ho
    · exact news_one ho h1 h2 hD h3 hb
  · exact tries_le ht (by rw [List.length_append]; omega) (by rw [List.length_append]; omega)
theorem cnt_each {d : Nat} : ∀ {nn : List Pl} {l : List Pat}, nn.length = l.length → (∀ q (h : q < nn.length) (h' : q < l.length), nn[q].t = l[q] ∧ nn[q].e = d) → sumL nw nn = cntL (d + 1) l
  | [], [], _, _ => rfl
  | x :: nn, t :: l, hl, h => by
    have ih := cnt_each (d := d) (nn := nn) (l := l) (by simpa using hl) (fun q h1 h2 => by have := h (q + 1) (by simpa using h1) (by simpa using h2); simpa using this)
    have h0 := h 0 (by simp) (by simp)
    simp at h0
    simp only [sumL, cntL, List.map_cons, List.sum_cons] at ih ⊢
    rw [ih]
    unfold nw; rw [h0.1, h0.2]
  | [], _ :: _, hl, _ => by simp at hl
  | _ :: _, [], hl, _ => by simp at hl
theorem vof_each {i : Nat} {p : Pl} {e : Ending} {w0 : World} (ho : Ord S.pl) (hD : p.e ≤ D) (hd : DeepL p.e p.t.kids) (hnx : p.nx ≤ S.pl.length) (h3 : p.t.x.op = 3) (hB : Below w0.heap.size w0 w) (h : EachP X K vr vw cs S p p.t.kids w e w') : VofP X K vr vw cs S D i p w0 e w' := by
  obtain ⟨K', nn, sh, g, he, hle, hR, hB2, hv, hnl, hk, hsh⟩ := h
  have hlen : ((List.range p.t.kids.length).map fun q => S.pl.length + q + 1).length = p.t.kids.length := by simp
  have hget : ∀ q (h : q < nn.length), (S.pl ++ nn)[S.pl.length + q]? = some nn[q] := fun q h => by rw [List.getElem?_append_right (by omega), Nat.add_sub_cancel_left, List.getElem?_eq_getElem h]
  refine ⟨K', nn, sh, g, he, hle, hR, below_step hB hB2, hv, ⟨fun c => by omega, fun c => by omega, fun _ => ⟨_, hsh, hlen, fun q h1 h2 => ?_⟩, fun c => by omega, fun c => by omega, fun _ _ c => absurd h3 c⟩, ⟨fun q hq => ?_, fun j q hq => ?_, ?_⟩, fun l hl r hr => ?_⟩
  · have hq : q < nn.length := by omega
    obtain ⟨k1, k2, _⟩ := hk.each q hq h2
    exact ⟨S.pl.length + q, nn[q], by simp, hget q hq, k1, k2⟩
  · obtain ⟨j, hj, rfl⟩ := List.getElem_of_mem hq
    obtain ⟨k1, k2, k3, k4, k5, k6⟩ := hk.each j hj (by omega)
    exact ⟨k3, k4, by omega, k6⟩
  · by_cases hj : j < S.pl.length
    · rw [List.getElem?_append_left hj] at hq; exact ho j q hq
    · rw [List.getElem?_append_right (by omega)] at hq
      obtain ⟨h1, h2⟩ := List.getElem?_eq_some_iff.1 hq
      obtain ⟨k1, k2, _⟩ := hk.each _ h1 (by omega)
      rw [← h2, k2]; omega
  · cases hpe : p.e with
    | zero => rw [hpe] at hd; have : p.t.kids = [] := hd; rw [this] at hnl ⊢; have : nn = [] := List.length_eq_zero_iff.1 hnl; rw [this]; exact Nat.zero_le _
    | succ d => exact Nat.le_of_eq (cnt_each hnl fun q h1 h2 => ⟨(hk.each q h1 h2).1, by have := (hk.each q h1 h2).2.2.2.2.1; omega⟩)
  · rw [hsh] at hl; cases hl
    obtain ⟨q, hq, rfl⟩ := List.mem_map.1 hr
    have := List.mem_range.1 hq
    rw [List.length_append, hnl]; omega
/-- what visitOf is told -/
structure VofI (X : Cx) (K : Kn) (vr vw : Value) (cs : List Nat) (S : Mc) (D i : Nat) (p : Pl) (w : World) : Prop where
  rep : Rep X K vr vw cs w S
  hp : S.pl[i]? = some p
  ord : Ord S.pl
  e : p.e ≤ D
  deep : DeepL p.e p.t.kids
  few : p.t.kids.length ≤ 2147483647
theorem vof_wait {i : Nat} {p : Pl} {e : Ending} {w0 : World} (ho : Ord S.pl) (h1 : p.t.x.op = 1) (hB : Below w0.heap.size w0 w) (h : e = .returned (waitV w.heap.size) ∧ ∃ K', K.le K' ∧ Rep X K' vr vw cs w' S ∧ Below w.heap.size w w' ∧ VsK X K' S.pl p (waitV w.heap.size) .wait) : VofP X K vr vw cs S D i p w0 e w' := by
  obtain ⟨he, K', a, b, c, d⟩ := h
  exact ⟨K', [], .wait, _, he, a, by rw [List.append_nil]; exact b, below_step hB c, by rw [List.append_nil]; exact d, ⟨fun _ => rfl, fun c => by omega, fun c => by omega, fun c => by omega, fun c => by omega, fun c => absurd h1 c⟩, news_nil ho, fun l e => by cases e⟩
theorem try_any (h : Rep X K vr vw cs w S) {p : Pl} {kv : Value} {l : List Pat} {behind : Nat} (hrd : RdL patK p.e X.w0 kv l) (hf : TxFit p.e l) (hb : behind ≤ S.pl.length) (hnx : p.nx ≤ S.pl.length) :
    Calls Tryz.prog 131 #[ptr X.m, kv, refV X S.pl behind, refV X S.pl p.nx] w (TryP X K vr vw cs S p l behind w) := by
  by_cases hl : l.length = 1
  · obtain ⟨t, rfl⟩ := List.length_eq_one_iff.1 hl
    cases he : p.e with
    | zero => rw [he] at hrd; have := hrd.1; cases this
    | succ d => rw [he] at hrd hf; exact tryOne_any h hrd hf he hb hnx
  · obtain ⟨A, cap, rfl⟩ := hrd.form
    exact trySkip_any h hl hnx
set_option maxRecDepth 100000 in
set_option maxHeartbeats 4000000 in
theorem vof_1 {i : Nat} {p : Pl} (h : VofI X K vr vw cs S D i p w) (hop : p.t.x.op = 1) : Calls Tryz.prog 108 #[ptr X.m, .agg #[.int .i64 p.r.op, .string p.r.text, p.r.kv], placeV p.b, refV X S.pl p.nx] w (VofP X K vr vw cs S D i p w) := by
  obtain ⟨hR, hp, ho, hD, hd, hfew⟩ := h
  have hpm := List.mem_of_getElem? hp
  have hil := (List.getElem?_eq_some_iff.1 hp).1
  have hnx := (hR.pk p hpm).2
  obtain ⟨⟨⟨hro, hrt⟩, hrd⟩, htx, hfit⟩ := hR.rd p hpm
  obtain ⟨A, cap, hkv⟩ := RdL.form (k := patK) hrd
  have hkv' : p.r.kv = .slice A p.t.kids.length cap := hkv
  have hrd' : RdL patK p.e X.w0 (.slice A p.t.kids.length cap) p.t.kids := by rw [← hkv']; exact hrd
  have hpl : refV X S.pl (i + 1) = placeV p.b := by show placeV (bOf S.pl i) = _; rw [bOf_eq hp]
  obtain ⟨k1, caps1, e1⟩ := ref_fn X S.pl p.nx
  have hro' : p.r.op = p.t.x.op := hro
  have hrt' : p.r.text = p.t.x.text := hrt
  obtain ⟨n, hn⟩ : ∃ n, n = p.t.kids.length := ⟨_, rfl⟩
  have hB : Below w.heap.size w (((w.alloc (bx (ptr X.m) tM)).alloc (.cells #[.int .i64 p.t.x.op, .string p.t.x.text, .slice A p.t.kids.length cap] 82)).alloc (bx (.func (.func k1) #[] caps1) tF)) := below_al (below_al (below_al (Below.refl _ _) _) _) _
  have hRW := hR.below hB
  have HC := Lib.hid (Calls.mono (waitFor_any hRW (p := p) p.t.x.text rfl) (fun e w' h => (vof_wait (D := D) (i := i) ho hop hB h : VofP X K vr vw cs S D i p w e w')))
  rw [hro', hrt', hkv', e1, ← hn]
  rw [e1, ← hn] at HC
  rw [hop] at HC ⊢
  clear hR hp ho hD hd hfew hpm hil hnx hro hrt hrd htx hfit hkv hkv' hrd' hpl e1 hro' hrt' hn hB hRW
  go_enter Tryz.func108, Tryz.ntmps108
  go_wp2_with fail
  refine HC.out.mono ?_
  rintro e w2 hV
  obtain ⟨g, rfl, HV⟩ : ∃ g, e = .returned g ∧ Hid (VofP X K vr vw cs S D i p w (.returned g) w2) := by obtain ⟨K', nn, sh, g, rfl, rest⟩ := hV; exact ⟨g, rfl, Lib.hid ⟨K', nn, sh, g, rfl, rest⟩⟩
  clear hV HC
  go_wp2
  go_ret
  exact HV.out
set_option maxRecDepth 100000 in
set_option maxHeartbeats 4000000 in
theorem vof_3 {i : Nat} {p : Pl} (h : VofI X K vr vw cs S D i p w) (hop : p.t.x.op = 3) : Calls Tryz.prog 108 #[ptr X.m, .agg #[.int .i64 p.r.op, .string p.r.text, p.r.kv], placeV p.b, refV X S.pl p.nx] w (VofP X K vr vw cs S D i p w) := by
  obtain ⟨hR, hp, ho, hD, hd, hfew⟩ := h
  have hpm := List.mem_of_getElem? hp
  have hil := (List.getElem?_eq_some_iff.1 hp).1
  have hnx := (hR.pk p hpm).2
  obtain ⟨⟨⟨hro, hrt⟩, hrd⟩, htx, hfit⟩ := hR.rd p hpm
  obtain ⟨A, cap, hkv⟩ := RdL.form (k := patK) hrd
  have hkv' : p.r.kv = .slice A p.t.kids.length cap := hkv
  have hrd' : RdL patK p.e X.w0 (.slice A p.t.kids.length cap) p.t.kids := by rw [← hkv']; exact hrd
  have hpl : refV X S.pl (i + 1) = placeV p.b := by show placeV (bOf S.pl i) = _; rw [bOf_eq hp]
  obtain ⟨k1, caps1, e1⟩ := ref_fn X S.pl p.nx
  have hro' : p.r.op = p.t.x.op := hro
  have hrt' : p.r.text = p.t.x.text := hrt
  obtain ⟨n, hn⟩ : ∃ n, n = p.t.kids.length := ⟨_, rfl⟩
  have hB : Below w.heap.size w (((w.alloc (bx (ptr X.m) tM)).alloc (.cells #[.int .i64 p.t.x.op, .string p.t.x.text, .slice A p.t.kids.length cap] 82)).alloc (bx (.func (.func k1) #[] caps1) tF)) := below_al (below_al (below_al (Below.refl _ _) _) _) _
  have hRW := hR.below hB
  have HC := Lib.hid (Calls.mono (tryEach_any hRW (p := p) hrd' hfit hnx hfew) (fun e w' h => (vof_each (D := D) (i := i) ho hD hd hnx hop hB h : VofP X K vr vw cs S D i p w e w')))
  rw [hro', hrt', hkv', e1, ← hn]
  rw [e1, ← hn] at HC
  rw [hop] at HC ⊢
  clear hR hp ho hD hd hfew hpm hil hnx hro hrt hrd htx hfit hkv hkv' hrd' hpl e1 hro' hrt' hn hB hRW
  go_enter Tryz.func108, Tryz.ntmps108
  go_wp2_with fail
  refine HC.out.mono ?_
  rintro e w2 hV
  obtain ⟨g, rfl, HV⟩ : ∃ g, e = .returned g ∧ Hid (VofP X K vr vw cs S D i p w (.returned g) w2) := by obtain ⟨K', nn, sh, g, rfl, rest⟩ := hV; exact ⟨g, rfl, Lib.hid ⟨K', nn, sh, g, rfl, rest⟩⟩
  clear hV HC
  go_wp2
  go_ret
  exact HV.out
set_option maxRecDepth 100000 in
set_option maxHeartbeats 4000000 in
theorem vof_4 {i : Nat} {p : Pl} (h : VofI X K vr vw cs S D i p w) (hop : p.t.x.op = 4) : Calls Tryz.prog 108 #[ptr X.m, .agg #[.int .i64 p.r.op, .string p.r.text, p.r.kv], placeV p.b, refV X S.pl p.nx] w (VofP X K vr vw cs S D i p w) := by
  obtain ⟨hR, hp, ho, hD, hd, hfew⟩ := h
  have hpm := List.mem_of_getElem? hp
  have hil := (List.getElem?_eq_some_iff.1 hp).1
  have hnx := (hR.pk p hpm).2
  obtain ⟨⟨⟨hro, hrt⟩, hrd⟩, htx, hfit⟩ := hR.rd p hpm
  obtain ⟨A, cap, hkv⟩ := RdL.form (k := patK) hrd
  have hkv' : p.r.kv = .slice A p.t.kids.length cap := hkv
  have hrd' : RdL patK p.e X.w0 (.slice A p.t.kids.length cap) p.t.kids := by rw [← hkv']; exact hrd
  have hpl : refV X S.pl (i + 1) = placeV p.b := by show placeV (bOf S.pl i) = _; rw [bOf_eq hp]
  obtain ⟨k1, caps1, e1⟩ := ref_fn X S.pl p.nx
  have hro' : p.r.op = p.t.x.op := hro
  have hrt' : p.r.text = p.t.x.text := hrt
  obtain ⟨n, hn⟩ : ∃ n, n = p.t.kids.length := ⟨_, rfl⟩
  have hB : Below w.heap.size w (((w.alloc (bx (ptr X.m) tM)).alloc (.cells #[.int .i64 p.t.x.op, .string p.t.x.text, .slice A p.t.kids.length cap] 82)).alloc (bx (.func (.func k1) #[] caps1) tF)) := below_al (below_al (below_al (Below.refl _ _) _) _) _
  have hRW := hR.below hB
  have HC := Lib.hid (Calls.mono (try_any hRW (p := p) (behind := i + 1) hrd' hfit (by omega) hnx) (fun e w' h => (vof_try (D := D) (i := i) ho hD (by omega) hnx (.inl ⟨hop, rfl⟩) hB h : VofP X K vr vw cs S D i p w e w')))
  rw [hpl] at HC
  rw [hro', hrt', hkv', e1, ← hn]
  rw [e1, ← hn] at HC
  rw [hop] at HC ⊢
  clear hR hp ho hD hd hfew hpm hil hnx hro hrt hrd htx hfit hkv hkv' hrd' hpl e1 hro' hrt' hn hB hRW
  go_enter Tryz.func108, Tryz.ntmps108
  go_wp2_with fail
  refine HC.out.mono ?_
  rintro e w2 hV
  obtain ⟨g, rfl, HV⟩ : ∃ g, e = .returned g ∧ Hid (VofP X K vr vw cs S D i p w (.returned g) w2) := by obtain ⟨K', nn, sh, g, rfl, rest⟩ := hV; exact ⟨g, rfl, Lib.hid ⟨K', nn, sh, g, rfl, rest⟩⟩
  clear hV HC
  go_wp2
  go_ret
  exact HV.out
set_option maxRecDepth 100000 in
set_option maxHeartbeats 4000000 in
theorem vof_5 {i : Nat} {p : Pl} (h : VofI X K vr vw cs S D i p w) (hop : p.t.x.op = 5) : Calls Tryz.prog 108 #[ptr X.m, .agg #[.int .i64 p.r.op, .string p.r.text, p.r.kv], placeV p.b, refV X S.pl p.nx] w (VofP X K vr vw cs S D i p w) := by
  obtain ⟨hR, hp, ho, hD, hd, hfew⟩ := h
  have hpm := List.mem_of_getElem? hp
  have hil := (List.getElem?_eq_some_iff.1 hp).1
  have hnx := (hR.pk p hpm).2
  obtain ⟨⟨⟨hro, hrt⟩, hrd⟩, htx, hfit⟩ := hR.rd p hpm
  obtain ⟨A, cap, hkv⟩ := RdL.form (k := patK) hrd
  have hkv' : p.r.kv = .slice A p.t.kids.length cap := hkv
  have hrd' : RdL patK p.e X.w0 (.slice A p.t.kids.length cap) p.t.kids := by rw [← hkv']; exact hrd
  have hpl : refV X S.pl (i + 1) = placeV p.b := by show placeV (bOf S.pl i) = _; rw [bOf_eq hp]
  obtain ⟨k1, caps1, e1⟩ := ref_fn X S.pl p.nx
  have hro' : p.r.op = p.t.x.op := hro
  have hrt' : p.r.text = p.t.x.text := hrt
  obtain ⟨n, hn⟩ : ∃ n, n = p.t.kids.length := ⟨_, rfl⟩
  have hB : Below w.heap.size w (((w.alloc (bx (ptr X.m) tM)).alloc (.cells #[.int .i64 p.t.x.op, .string p.t.x.text, .slice A p.t.kids.length cap] 82)).alloc (bx (.func (.func k1) #[] caps1) tF)) := below_al (below_al (below_al (Below.refl _ _) _) _) _
  have hRW := hR.below hB
  have HC := Lib.hid (Calls.mono (try_any hRW (p := p) (behind := p.nx) hrd' hfit hnx hnx) (fun e w' h => (vof_try (D := D) (i := i) ho hD hnx hnx (.inr ⟨hop, rfl⟩) hB h : VofP X K vr vw cs S D i p w e w')))
  rw [hro', hrt', hkv', e1, ← hn]
  rw [e1, ← hn] at HC
  rw [hop] at HC ⊢
  clear hR hp ho hD hd hfew hpm hil hnx hro hrt hrd htx hfit hkv hkv' hrd' hpl e1 hro' hrt' hn hB hRW
  go_enter Tryz.func108, Tryz.ntmps108
  go_wp2_with fail
  refine HC.out.mono ?_
  rintro e w2 hV
  obtain ⟨g, rfl, HV⟩ : ∃ g, e = .returned g ∧ Hid (VofP X K vr vw cs S D i p w (.returned g) w2) := by obtain ⟨K', nn, sh, g, rfl, rest⟩ := hV; exact ⟨g, rfl, Lib.hid ⟨K', nn, sh, g, rfl, rest⟩⟩
  clear hV HC
  go_wp2
  go_ret
  exact HV.out
-- OTHER
end
end Go.Proofs.YtdmccopggmienaaGreat

/- CHAPTER 5, impl: slices.Backward of patterns: what a loop over it is told. -/
namespace Go.Proofs.YtdmccopggmienaaGreat
open Go.RowKit Go.Shelf Mac
attribute [local go_sem] Oper.semAt_some

/-- a kid as it comes: its number, its record -/
abbrev KidX (R : Nat → PatR) (len : Nat) := { x : Nat × PatR // x.1 < len ∧ x.2 = R x.1 }
def kidV {R : Nat → PatR} {len : Nat} (x : KidX R len) : Array Value := #[.int .i64 (x.1.1 : Int), .agg #[.int .i64 x.1.2.op, .string x.1.2.text, x.1.2.kv]]
/-- those that have come when k are left -/
def Downs (R : Nat → PatR) (len k : Nat) (l : List (KidX R len)) : Prop := l.map (fun x => x.1.1) = ((List.range len).drop k).reverse
theorem downs_nil (R : Nat → PatR) (len : Nat) : Downs R len len [] := by unfold Downs; simp
theorem downs_step {R : Nat → PatR} {len j : Nat} {l : List (KidX R len)} (h : Downs R len (j + 1) l) (hj : j < len) : Downs R len j (l ++ [⟨(j, R j), hj, rfl⟩]) := by
  unfold Downs at *
  have e : (List.range len).drop j = j :: (List.range len).drop (j + 1) := by
    have h1 := List.drop_eq_getElem_cons (l := List.range len) (i := j) (by simpa using hj)
    rw [List.getElem_range] at h1
    exact h1
  rw [List.map_append, h, e, List.reverse_cons]
  rfl
/-- what a round keeps: what lies below n₀, and the block Bs -/
def KeepB (n₀ Bs : Nat) (W W' : World) : Prop := Below n₀ W W' ∧ ∀ o : Obj, W.heap[Bs]? = some o → W'.heap[Bs]? = some o
theorem KeepB.refl (n₀ Bs : Nat) (W : World) : KeepB n₀ Bs W W := ⟨Below.refl _ _, fun _ h => h⟩
theorem KeepB.trans {n₀ Bs : Nat} {A B C : World} (h : KeepB n₀ Bs A B) (k : KeepB n₀ Bs B C) : KeepB n₀ Bs A C := ⟨h.1.trans k.1, fun o ho => k.2 o (h.2 o ho)⟩
theorem keepB_b {n₀ Bs : Nat} {w : World} (hn : n₀ ≤ w.heap.size) (hB : Bs < w.heap.size) (W : World) (l : Nat) (o o' : Obj) (hl : w.heap.size ≤ l) (h : W.heap[l]? = some o) (h1 : o.isCells = false) (h2 : o.isWalk = false) : KeepB n₀ Bs W (W.putObj l o') :=
  ⟨belowK_b hn W l o o' hl h h1 h2, fun u hu => (World.putObj_heap_other (by omega)).trans hu⟩
set_option maxRecDepth 100000 in
set_option maxHeartbeats 2000000 in
theorem back1_in (F : Fence) (n : Nat) (hF : F.fn 143) (hro : F.round = none) (hn : 1 ≤ n) (l Bs n₀ len cap : Nat) (A : Option Addr) (R : Nat → PatR) (hlen : len ≤ 2147483647) (J Jx : List (KidX R len) → World → Prop)
    (hY : ∀ pre (x : KidX R len) W, J pre W → pre.length < len → YieldAt F (n - 1) Tryz.prog l (kidV x) W fun e W' =>
      (e = .returned (.bool true) ∧ J (pre ++ [x]) W' ∧ KeepB n₀ Bs W W') ∨ (e = .returned (.bool false) ∧ Jx (pre ++ [x]) W'))
    (W : World) (hBs : W.heap[Bs]? = some (bx (.slice A len cap) 80)) (hc : ∀ j, j < len → ∃ a, A = some a ∧ a.block < n₀ ∧ Pk W (a.add (j * 3)) (R j)) (h0 : J [] W) :
    CallsIn F n Tryz.prog 143 #[.func (.yield l) #[] #[], .pointer (some ⟨Bs, 0, none⟩)] W fun e W' => (∃ v, e = .returned v) ∧
      ((∃ ys, Downs R len 0 ys ∧ J ys W') ∨ (∃ pre, True ∧ Jx pre W')) := by
  refine callsIn_of_wp Tryz.func143 rfl hF ?_ hro
  simp only [Tryz.ntmps143, List.size_toArray, List.length_cons, List.length_nil, Nat.reduceAdd, Nat.reduceSub, Array.replicate_succ, Array.replicate_zero, List.push_toArray, List.append_toArray, List.nil_append, List.cons_append]
  have hBc := cell_of_one hBs
  gi_wp2
  gi_loopw [3] (fun i wr => ∃ (k : Nat) (pre : List (KidX R len)), k ≤ len ∧ i = .int .i64 ((k : Int) - 1) ∧ Downs R len k pre ∧ J pre wr ∧ KeepB n₀ Bs W wr)
    (fun i _ => (intOf i + 1).toNat)
  case atStart => exact ⟨len, [], Nat.le_refl _, rfl, downs_nil R len, h0, KeepB.refl _ _ _⟩
  case round =>
    obtain ⟨k, pre, hk, rfl, hd, hJs, hnx⟩ := hrel
    have hBs' : wr.cell? ⟨Bs, 0, none⟩ = some (.slice A len cap) := cell_of_one (hnx.2 _ hBs)
    cases k with
    | zero =>
      gi_wp2
      go_end0
      exact ⟨⟨_, rfl⟩, .inl ⟨pre, hd, hJs⟩⟩
    | succ j =>
      have e : ((j + 1 : Nat) : Int) - 1 = j := by omega
      rw [e]
      have hj : j < len := hk
      obtain ⟨a, rfl, hab, hpk⟩ := hc j hj
      obtain ⟨c0, c1, c2⟩ : Pk wr (a.add (j * 3)) (R j) := ⟨by rw [hnx.1.cell (by rw [addr_blk]; exact hab)]; exact hpk.1, by rw [hnx.1.cell (p := ⟨(a.add (j * 3)).block, _, none⟩) (by rw [addr_blk]; exact hab)]; exact hpk.2.1, by rw [hnx.1.cell (p := ⟨(a.add (j * 3)).block, _, none⟩) (by rw [addr_blk]; exact hab)]; exact hpk.2.2⟩
      have hpl : pre.length < len := by
        have := congrArg List.length hd
        simp at this; omega
      obtain ⟨fn, tmps, assign, body, hy, hR⟩ := hY pre ⟨(j, R j), hj, rfl⟩ wr hJs hpl
      dsimp only [kidV] at hy
      have HD := Lib.hid (downs_step hd hj)
      clear hd hpk
      gi_wp2
      refine hR.mono ?_
      rintro e W3 (⟨rfl, hJ3, hk3⟩ | ⟨rfl, hJx3⟩)
      · gi_wp2
        go_roundw
        case rel => exact ⟨j, _, by omega, by go_num, HD.out, hJ3, hnx.trans hk3⟩
        case measure => first | (simp [intOf]; done) | (simp [intOf]; omega)
      · gi_wp2
        refine bodyPost_ret (results_none rfl _ _ _) rfl ?_
        exact ⟨⟨_, rfl⟩, .inr ⟨_, trivial, hJx3⟩⟩
set_option maxHeartbeats 1000000 in
theorem back_in (F : Fence) (n : Nat) (hF : F.fn 129) (hro : F.round = none) (a : Option Addr) (len cap : Nat) (w : World) :
    CallsIn F n Tryz.prog 129 #[.slice a len cap] w fun e w' => e = .returned (.func (.func 143) #[] #[.pointer (some ⟨w.heap.size, 0, none⟩)]) ∧ w' = w.alloc (.cells #[.slice a len cap] 80) := by
  refine callsIn_of_wp Tryz.func129 rfl hF ?_ hro
  simp only [Tryz.ntmps129, List.size_toArray, List.length_cons, List.length_nil, Nat.reduceAdd, Nat.reduceSub, Array.replicate_succ, Array.replicate_zero, List.push_toArray, List.append_toArray, List.nil_append, List.cons_append]
  gi_wp2
  go_ret
  exact ⟨rfl, rfl⟩
theorem back_stops (F : Fence) (n : Nat) (hF : F.fn 143) (hro : F.round = none) (hn : 1 ≤ n) (Bs n₀ len cap : Nat) (A : Option Addr) (R : Nat → PatR) (hlen : len ≤ 2147483647) (w : World) (hn₀ : n₀ ≤ w.heap.size)
    (hc : w.heap[Bs]? = some (bx (.slice A len cap) 80)) (hI : ∀ j, j < len → ∃ a, A = some a ∧ a.block < n₀ ∧ Pk w (a.add (j * 3)) (R j)) :
    SeqStopsK F n Tryz.prog 143 #[.pointer (some ⟨Bs, 0, none⟩)] (fun x : KidX R len => kidV x) (KeepB n₀ Bs) (fun ys => Downs R len 0 ys) (fun _ => True) len w := fun l J Jx W hW _ _ hY h0 => by
  have hc' := (hW.block Bs (blk_lt hc)).trans hc
  refine back1_in F n hF hro hn l Bs n₀ len cap A R hlen J Jx hY W hc' (fun j hj => ?_) h0
  obtain ⟨a, ha, hb, hp⟩ := hI j hj
  exact ⟨a, ha, hb, Pk.below hp hW (by rw [addr_blk]; omega)⟩
end Go.Proofs.YtdmccopggmienaaGreat

/- CHAPTER 5, impl: visitOf at sequences: a range over slices.Backward. -/
namespace Go.Proofs.YtdmccopggmienaaGreat
open Go.RowKit Go.Shelf Mac
attribute [local go_sem] Oper.semAt_some

section
variable {X : Cx} {K K' : Kn} {vr vw : Value} {cs : List Nat} {w w' : World} {S : Mc} {D : Nat}
def kidAt {R : Nat → PatR} {p : Pl} (x : KidX R p.t.kids.length) : Pat := p.t.kids[x.1.1]'x.2.1
/-- between two rounds -/
def SeqI (X : Cx) (K : Kn) (vr vw : Value) (cs : List Nat) (S : Mc) (p : Pl) (R : Nat → PatR) (d : Nat) (w : World) (pre : List (KidX R p.t.kids.length)) (W : World) : Prop :=
  ∃ K1 nn r, K.le K1 ∧ Rep X K1 vr vw cs W { S with pl := S.pl ++ nn } ∧ Leads (S.pl ++ nn) r (pre.reverse.map kidAt) p.nx ∧ r ≤ (S.pl ++ nn).length ∧ (∀ q, q ∈ nn → q.vis = -1 ∧ q.sh = none ∧ q.e = d ∧ DeepL q.e q.t.kids) ∧ Ord (S.pl ++ nn) ∧
    sumL nw nn = (pre.map fun x => 1 + cntL d (kidAt x).kids).sum ∧ W.heap[w.heap.size + 2]? = some (bx (refV X (S.pl ++ nn) r) tF) ∧ Free X K1 vr vw (S.pl ++ nn) (w.heap.size + 2) ∧ W.heap[w.heap.size]? = some (bx (ptr X.m) tM) ∧ Below w.heap.size w W
variable {p : Pl} {R : Nat → PatR} {d : Nat} {pre : List (KidX R p.t.kids.length)}
theorem SeqI.below {W W' : World} (h : SeqI X K vr vw cs S p R d w pre W) (hb : Below W.heap.size W W') : SeqI X K vr vw cs S p R d w pre W' := by
  obtain ⟨K1, nn, r, a, b, c, e, f, g, i, j, k, l, m⟩ := h
  exact ⟨K1, nn, r, a, b.below hb, c, e, f, g, i, (hb.block _ (blk_lt j)).trans j, k, (hb.block _ (blk_lt l)).trans l, m.trans (hb.mono m.size)⟩
theorem SeqI.turned {W W' : World} {row : Option Nat} (h : SeqI X K vr vw cs S p R d w pre W) (hw : X.w0.heap.size ≤ w.heap.size) (hg : W.grownBy W' row) (hr : ∀ r, row = some r → w.heap.size ≤ r ∧ ∃ o : Obj, W.heap[r]? = some o ∧ o.isCells = false) : SeqI X K vr vw cs S p R d w pre W' := by
  obtain ⟨K1, nn, r, a, b, c, e, f, g, i, j, k, l, m⟩ := h
  have hno : ∀ b (o : Obj), W.heap[b]? = some o → o.isCells = true → W'.heap[b]? = some o := fun b o ho hc => (hg.block b (blk_lt ho) (fun e => by
    obtain ⟨_, o', h1, h2⟩ := hr b e.symm
    rw [ho] at h1; cases h1
    rw [hc] at h2; cases h2)).trans ho
  exact ⟨K1, nn, r, a, b.turned hg (fun r hr' => ⟨Nat.le_trans hw (hr r hr').1, (hr r hr').2⟩), c, e, f, g, i, hno _ _ j rfl, k, hno _ _ l rfl, m.grown hg m.size (fun r e => (hr r e).1)⟩
/-- one kid more -/
theorem seqI_step {W : World} (h : SeqI X K vr vw cs S p R d w pre W) (x : KidX R p.t.kids.length) (hrd : RdN patK d X.w0 x.1.2 (kidAt x) ∧ (kidAt x).x.text.size ≤ 9223372036854775807 ∧ TxFit d (kidAt x).kids) (hdx : DeepL d (kidAt x).kids) (hw : X.w0.heap.size ≤ w.heap.size) :
    ∃ k1 caps1, W.cell? ⟨w.heap.size + 2, 0, none⟩ = some (.func (.func k1) #[] caps1) ∧ Calls Tryz.prog 94 #[ptr X.m, .agg #[.int .i64 x.1.2.op, .string x.1.2.text, x.1.2.kv], .func (.func k1) #[] caps1] W fun e w2 => ∃ b, e = .returned (placeV b) ∧ w2.cell? ⟨w.heap.size + 2, 0, none⟩ = some (.func (.func k1) #[] caps1) ∧ w2.frozen? ⟨w.heap.size + 2, 0, none⟩ = false ∧
      Hid (SeqI X K vr vw cs S p R d w (pre ++ [x]) (w2.setCell ⟨w.heap.size + 2, 0, none⟩ (placeV b)) ∧ Below W.heap.size W w2 ∧ w.heap.size + 2 < W.heap.size) := by
  obtain ⟨K1, nn, r, a, hR, hL, hr, hn, ho, hs, h2, hf, hm, hB⟩ := h
  obtain ⟨k1, caps1, e1⟩ := ref_fn X (S.pl ++ nn) r
  have hc := cell_of_one h2
  rw [e1] at hc
  refine ⟨k1, caps1, hc, ?_⟩
  have hbf := before_any hR (t := kidAt x) (e := d) (r := x.1.2) (nx := r) hr hrd
  rw [show refV X (({ S with pl := S.pl ++ nn } : Mc).pl) r = refV X (S.pl ++ nn) r from rfl, e1] at hbf
  refine hbf.mono ?_
  rintro e w2 ⟨rfl, K2, hle2, hsm, hR2, hB2⟩
  have hlt2 := blk_lt h2
  have h22 : w2.heap[w.heap.size + 2]? = some (bx (refV X (S.pl ++ nn) r) tF) := (hB2.block _ hlt2).trans h2
  have hf2 : Free X K2 vr vw ((S.pl ++ nn) ++ [⟨kidAt x, d, x.1.2, r, W.heap.size, -1, none⟩]) (w.heap.size + 2) := hf.place (hsm _ hlt2) hlt2
  refine ⟨W.heap.size, rfl, by rw [cell_of_one h22, e1], free_of_one h22, Lib.hid ⟨⟨K2, nn ++ [⟨kidAt x, d, x.1.2, r, W.heap.size, -1, none⟩], (S.pl ++ nn).length + 1, Kn.le_trans a hle2, ?_, ?_, by rw [← List.append_assoc]; simp; omega, fun q hq => ?_, ?_, ?_, ?_, by rw [← List.append_assoc]; exact hf2, ?_, ?_⟩, hB2, hlt2⟩⟩
  · rw [← List.append_assoc]
    have hw0 : X.w0.heap.size ≤ w.heap.size + 2 := by omega
    refine hR2.off (Z := fun b => b = w.heap.size + 2) ((Below.refl _ _).setCell (p := ⟨w.heap.size + 2, 0, none⟩) hw0 _) (fun b _ hz => Below.heap_setCell _ _ _ _ hz) (fun b hz => by rw [hz]; exact hf2)
  · rw [List.reverse_append, List.reverse_singleton, List.map_append, List.map_singleton, ← List.append_assoc]
    exact ⟨(S.pl ++ nn).length, ⟨kidAt x, d, x.1.2, r, W.heap.size, -1, none⟩, rfl, by simp, rfl, hL.ext (ext_append _ _)⟩
  · rcases List.mem_append.1 hq with hq | hq
    · exact hn q hq
    · rw [List.mem_singleton.1 hq]; exact ⟨rfl, rfl, rfl, hdx⟩
  · rw [← List.append_assoc]
    intro j q hq
    by_cases hj : j < (S.pl ++ nn).length
    · rw [List.getElem?_append_left hj] at hq; exact ho j q hq
    · have hl := (List.getElem?_eq_some_iff.1 hq).1
      rw [List.length_append, List.length_singleton] at hl
      have e : j = (S.pl ++ nn).length := by omega
      subst e
      rw [List.getElem?_append_right (Nat.le_refl _)] at hq
      simp at hq
      subst hq
      exact hr
  · rw [sumL_app, hs, List.map_append, List.sum_append]
    simp [sumL, nw]
  · rw [one_setCell h22, ← List.append_assoc]
    show some (bx (placeV W.heap.size) tF) = some (bx (placeV (bOf _ (S.pl ++ nn).length)) tF)
    rw [bOf_eq (p := ⟨kidAt x, d, x.1.2, r, W.heap.size, -1, none⟩) (by simp)]
  · rw [Below.heap_setCell _ _ _ _ (by show w.heap.size ≠ w.heap.size + 2; omega)]
    exact (hB2.block _ (blk_lt hm)).trans hm
  · exact (hB.trans (hB2.mono hB.size)).setCell (p := ⟨w.heap.size + 2, 0, none⟩) (by show w.heap.size ≤ w.heap.size + 2; omega) _
/-- all kids have come -/
theorem seqI_end {W : World} {i : Nat} {ys : List (KidX R p.t.kids.length)} (hS : Downs R p.t.kids.length 0 ys) (h : SeqI X K vr vw cs S p R d w ys W) (hop : p.t.x.op = 2) (he : p.t.kids = [] ∨ p.e = d + 1) (hD : p.e ≤ D) : ∃ g, W.cell? ⟨w.heap.size + 2, 0, none⟩ = some g ∧ ∀ W', (∃ row, W.grownBy W' row ∧ ∀ r, row = some r → X.w0.heap.size ≤ r ∧ ∃ o : Obj, W.heap[r]? = some o ∧ o.isCells = false) → Below w.heap.size w W' → VofP X K vr vw cs S D i p w (.returned g) W' := by
  obtain ⟨K1, nn, r, a, hR, hL, hr, hn, ho, hs, h2, hf, hm, hB⟩ := h
  have hk : ys.reverse.map kidAt = p.t.kids := by
    have h1 : (ys.reverse.map fun x => x.1.1) = List.range p.t.kids.length := by
      have := congrArg List.reverse hS
      rw [List.map_reverse]
      simpa using this
    have hl : ys.reverse.length = p.t.kids.length := by have := congrArg List.length h1; simpa using this
    apply List.ext_getElem
    · rw [List.length_map]; exact hl
    · intro q hq1 hq2
      rw [List.getElem_map]
      have h3 : (ys.reverse[q]'(by rw [hl]; exact hq2)).1.1 = q := by
        have h4 := congrArg (fun z => z[q]?) h1
        simp only [List.getElem?_map, List.getElem?_eq_getElem (show q < ys.reverse.length by rw [hl]; exact hq2)] at h4
        rw [List.getElem?_range hq2] at h4
        exact Option.some.inj h4
      unfold kidAt
      congr 1
  rw [hk] at hL
  refine ⟨_, cell_of_one h2, fun W' ⟨row, hg, hrow⟩ hB' => ⟨K1, nn, .ways [r], _, rfl, a, hR.turned hg hrow, hB', .inl ⟨r, rfl, rfl⟩, ⟨fun c => by omega, fun _ => ⟨r, rfl, hL⟩, fun c => by omega, fun c => by omega, fun c => by omega, fun _ c => absurd hop c⟩, ⟨fun q hq => ?_, ho, ?_⟩, fun l e q hq => by cases e; rw [List.mem_singleton.1 hq]; exact hr⟩⟩
  · obtain ⟨h1, h2, h3, h4⟩ := hn q hq
    refine ⟨h1, h2, ?_, h4⟩
    rcases he with he | he
    · have hys : ys = [] := by
        have h9 : (ys.reverse.map kidAt).length = 0 := by rw [hk, he]; rfl
        simpa using h9
      rw [hys] at hs
      have : nn = [] := by
        cases nn with
        | nil => rfl
        | cons x l => simp [sumL, nw] at hs
      rw [this] at hq; cases hq
    · omega
  · rw [hs]
    rcases he with he | he
    · have hys : ys = [] := by
        have h9 : (ys.reverse.map kidAt).length = 0 := by rw [hk, he]; rfl
        simpa using h9
      rw [hys]; exact Nat.zero_le _
    · rw [he]
      show _ ≤ (p.t.kids.map fun t => 1 + cntL d t.kids).sum
      have e : (p.t.kids.map fun t => 1 + cntL d t.kids).sum = ((ys.reverse.map kidAt).map fun t => 1 + cntL d t.kids).sum := by rw [hk]
      rw [e, List.map_map, List.map_reverse, List.sum_reverse]
      exact Nat.le_refl _
set_option maxRecDepth 100000 in
set_option maxHeartbeats 4000000 in
theorem vof_2 {i : Nat} (h : VofI X K vr vw cs S D i p w) (hop : p.t.x.op = 2) : Calls Tryz.prog 108 #[ptr X.m, .agg #[.int .i64 p.r.op, .string p.r.text, p.r.kv], placeV p.b, refV X S.pl p.nx] w (VofP X K vr vw cs S D i p w) := by
  obtain ⟨hR, hp, ho, hD, hd, hfew⟩ := h
  have hpm := List.mem_of_getElem? hp
  have hnx := (hR.pk p hpm).2
  obtain ⟨⟨⟨hro, hrt⟩, hrd⟩, htx, hfit⟩ := hR.rd p hpm
  obtain ⟨A, cap, hkv⟩ := RdL.form (k := patK) hrd
  have hkv' : p.r.kv = .slice A p.t.kids.length cap := hkv
  have hrd' : RdL patK p.e X.w0 (.slice A p.t.kids.length cap) p.t.kids := by rw [← hkv']; exact hrd
  obtain ⟨k1, caps1, e1⟩ := ref_fn X S.pl p.nx
  have hro' : p.r.op = p.t.x.op := hro
  have hrt' : p.r.text = p.t.x.text := hrt
  have hw0 : X.w0.heap.size ≤ w.heap.size := hR.bel.size
  -- the kids' records
  obtain ⟨R, d, hed, hRk⟩ : ∃ (R : Nat → PatR) (d : Nat), (p.t.kids = [] ∨ p.e = d + 1) ∧ ∀ j (hj : j < p.t.kids.length), ∃ a, A = some a ∧ a.block < X.w0.heap.size ∧ Pk X.w0 (a.add (j * 3)) (R j) ∧ (∃ Ak nk ck, (R j).kv = .slice Ak nk ck) ∧ (RdN patK d X.w0 (R j) p.t.kids[j] ∧ p.t.kids[j].x.text.size ≤ 9223372036854775807 ∧ TxFit d p.t.kids[j].kids) ∧ DeepL d p.t.kids[j].kids := by
    cases hpe : p.e with
    | zero =>
      rw [hpe] at hd
      have hk : p.t.kids = [] := hd
      exact ⟨fun _ => p.r, 0, .inl hk, fun j hj => by rw [hk] at hj; simp at hj⟩
    | succ d =>
      rw [hpe] at hrd' hfit hd
      have hex : ∀ j, ∃ r : PatR, ∀ hj : j < p.t.kids.length, ∃ a, A = some a ∧ a.block < X.w0.heap.size ∧ Pk X.w0 (a.add (j * 3)) r ∧ (∃ Ak nk ck, r.kv = .slice Ak nk ck) ∧ (RdN patK d X.w0 r p.t.kids[j] ∧ p.t.kids[j].x.text.size ≤ 9223372036854775807 ∧ TxFit d p.t.kids[j].kids) ∧ DeepL d p.t.kids[j].kids := fun j => by
        by_cases hj : j < p.t.kids.length
        · obtain ⟨a, cap', r, hv, hab, hpk, hrn, ht1, ht2⟩ := kid_at hrd' hfit hj
          cases hv
          obtain ⟨Ak, ck, hk2⟩ := hrn.2.form
          exact ⟨r, fun _ => ⟨a, rfl, by rw [addr_blk] at hab; exact hab, hpk, ⟨Ak, _, ck, hk2⟩, ⟨hrn, ht1, ht2⟩, hd _ (List.getElem_mem hj)⟩⟩
        · exact ⟨p.r, fun h => absurd h hj⟩
      exact ⟨fun j => Classical.choose (hex j), d, .inr rfl, fun j hj => Classical.choose_spec (hex j) hj⟩
  have hB : Below w.heap.size w ((((w.alloc (bx (ptr X.m) tM)).alloc (.cells #[.int .i64 p.t.x.op, .string p.t.x.text, .slice A p.t.kids.length cap] 82)).alloc (bx (.func (.func k1) #[] caps1) tF)).alloc (.cells #[.slice A p.t.kids.length cap] 80)) := below_al (below_al (below_al (below_al (Below.refl _ _) _) _) _) _
  have HI0 : Hid (SeqI X K vr vw cs S p R d w [] ((((w.alloc (bx (ptr X.m) tM)).alloc (.cells #[.int .i64 p.t.x.op, .string p.t.x.text, .slice A p.t.kids.length cap] 82)).alloc (bx (.func (.func k1) #[] caps1) tF)).alloc (.cells #[.slice A p.t.kids.length cap] 80))) := Lib.hid (by
    refine ⟨K, [], p.nx, K.le_refl, by rw [List.append_nil]; exact hR.below hB, rfl, by rw [List.append_nil]; exact hnx, fun q hq => (List.not_mem_nil hq).elim, by rw [List.append_nil]; exact ho, rfl, ?_, by rw [List.append_nil]; exact hR.free_new (by omega), ?_, hB⟩
    · rw [List.append_nil, e1, Below.heap_alloc _ _ _ (by simp)]; exact alloc_new_at _ _ (by simp)
    · rw [Below.heap_alloc _ _ _ (by simp; omega), Below.heap_alloc _ _ _ (by simp; omega), Below.heap_alloc _ _ _ (by simp)]; exact heap_alloc_new _ _)
  have hbs : ((((w.alloc (bx (ptr X.m) tM)).alloc (.cells #[.int .i64 p.t.x.op, .string p.t.x.text, .slice A p.t.kids.length cap] 82)).alloc (bx (.func (.func k1) #[] caps1) tF)).alloc (.cells #[.slice A p.t.kids.length cap] 80)).heap[w.heap.size + 1 + 1 + 1]? = some (bx (.slice A p.t.kids.length cap) 80) := alloc_new_at _ _ (by simp)
  have HPK : Hid (∀ j, j < p.t.kids.length → ∃ a, A = some a ∧ a.block < w.heap.size ∧ Pk ((((w.alloc (bx (ptr X.m) tM)).alloc (.cells #[.int .i64 p.t.x.op, .string p.t.x.text, .slice A p.t.kids.length cap] 82)).alloc (bx (.func (.func k1) #[] caps1) tF)).alloc (.cells #[.slice A p.t.kids.length cap] 80)) (a.add (j * 3)) (R j)) := Lib.hid fun j hj => by
    obtain ⟨a, h1, h2, h3, _⟩ := hRk j hj
    exact ⟨a, h1, by omega, Pk.below (Pk.below h3 hR.bel (by rw [addr_blk]; exact h2)) hB (by rw [addr_blk]; omega)⟩
  rw [hro', hrt', hkv', e1, hop]
  rw [hop] at HI0 hbs HPK
  refine (callsIn_wide (n := 3)).1 ?_
  refine callsIn_of_wp_marks Tryz.func108 rfl trivial ?_ rfl
  simp only [Tryz.ntmps108, List.size_toArray, List.length_cons, List.length_nil, Nat.reduceAdd, Nat.reduceSub, Array.replicate_succ, Array.replicate_zero, List.push_toArray, List.append_toArray, List.nil_append, List.cons_append]
  have HRK := Lib.hid hRk
  have HED := Lib.hid hed
  have HD := Lib.hid (And.intro hop hD)
  have HFEW := Lib.hid hfew
  have HW0 := Lib.hid hw0
  clear hR hp ho hD hd hfew hpm hnx hro hrt hrd htx hfit hkv hkv' hrd' e1 hro' hrt' hw0 hRk hed hB
  gi_wp2_with fail
  refine ⟨trivial, (back_in Fence.wide _ trivial rfl _ _ _ _).mono ?_⟩
  rintro e w' ⟨rfl, rfl⟩
  gi_wp2
  obtain ⟨W0, hW0⟩ : ∃ W0, W0 = ((((w.alloc (bx (ptr X.m) tM)).alloc (.cells #[.int .i64 2, .string p.t.x.text, .slice A p.t.kids.length cap] 82)).alloc (bx (.func (.func k1) #[] caps1) tF)).alloc (.cells #[.slice A p.t.kids.length cap] 80)) := ⟨_, rfl⟩
  have hz0 : W0.heap.size = w.heap.size + 4 := by rw [hW0]; simp
  rw [← hW0] at HI0 hbs HPK ⊢
  clear hW0
  refine wpIn_rangeFunc_ownH (n := 3) rfl (by omega) (gf := 143) (lb := #[.pointer (some ⟨w.heap.size + 1 + 1 + 1, 0, none⟩)]) rfl trivial (enters_of Tryz.func143 (by kernel_rfl) rfl)
    (back_stops Fence.wide _ trivial rfl (by omega) (w.heap.size + 1 + 1 + 1) w.heap.size p.t.kids.length cap A R HFEW.out W0 (by omega) hbs HPK.out)
    (fun h k => KeepB.trans h k) (keepB_b (by omega) (by omega)) (Below.refl _ _) (fun _ => rfl)
    (SeqI X K vr vw cs S p R d w) (fun _ _ _ => False)
    (fun s W W' row hs hg hr => hs.turned HW0.out hg (fun r e => ⟨by have := (hr r e).1; omega, (hr r e).2⟩))
    (fun _ _ _ _ _ hs _ _ => hs) HI0.out
    (fun x a' W => ∃ Bx, W.heap[Bx]? = some (.cells #[.int .i64 x.1.2.op, .string x.1.2.text, x.1.2.kv] 82 (0, 0)) ∧ a' = { tmps := #[ptr X.m, .agg #[.int .i64 2, .string p.t.x.text, .slice A p.t.kids.length cap], placeV p.b, .func (.func k1) #[] caps1, .pointer (some ⟨w.heap.size, 0, none⟩), .pointer (some ⟨w.heap.size + 1, 0, none⟩), undef, .pointer (some ⟨w.heap.size + 1 + 1, 0, none⟩), .nilFunc, undef, .pointer (some ⟨Bx, 0, none⟩), .pointer (some ⟨w.heap.size + 1, 0, none⟩), .int .i64 2, .bool false, .bool false, undef, undef, undef, undef, undef, .bool true, .bool true, .pointer (some ⟨w.heap.size + 1, 2, none⟩), .slice A p.t.kids.length cap, .func (.func 143) #[] #[.pointer (some ⟨w.heap.size + 1 + 1 + 1, 0, none⟩)], .int .i64 (x.1.1 : Int), .agg #[.int .i64 x.1.2.op, .string x.1.2.text, x.1.2.kv], undef, undef, undef, undef, undef, undef, undef, undef, undef, undef, undef, undef, undef, undef, undef, undef, undef, undef, undef, undef, undef, undef, undef, undef, undef, undef, undef, undef], defers := [] })
    (fun x a' _ W W' row hs hg hr => by
      obtain ⟨Bx, h1, h2⟩ := hs
      refine ⟨Bx, (hg.block _ (blk_lt h1) (fun e => ?_)).trans h1, h2⟩
      obtain ⟨_, o, h3, h4⟩ := hr Bx e.symm
      rw [h1] at h3; cases h3; cases h4) ?assign ?body ?done ?stop
  case assign =>
    intro l pre x W Kc hI hKc
    obtain ⟨a0, hA0, _, _, ⟨Ak, nk, ck, hkv⟩, _⟩ := HRK.out x.1.1 x.2.1
    clear hA0
    have hkv' : x.1.2.kv = .slice Ak nk ck := by rw [x.2.2]; exact hkv
    have HK2 := Lib.hid hKc
    have HI := Lib.hid hI
    have HX := Lib.hid hkv'
    simp only [kidV, hkv']
    clear hKc hI hkv
    gi_wp2
    refine HK2.out _ _ ((KeepsOthers.alloc W _).from _) ⟨(Below.refl _ _).alloc ?_ _, fun o ho => (Below.heap_alloc _ _ _ (blk_lt ho)).trans ho⟩ (HI.out.below (below_al (Below.refl _ _) _)) ⟨W.heap.size, ?_, ?_⟩
    · obtain ⟨_, _, _, _, _, _, _, _, _, _, _, _, _, hB⟩ := HI.out
      exact hB.size
    · rw [HX.out]; exact heap_alloc_new W _
    · rw [HX.out]
  case body =>
    rintro l pre x _ W hl ⟨rr, hrr⟩ hI ⟨Bx, hbx, rfl⟩ hlt
    obtain ⟨a0, hA0, _, _, _, hrd, hdx⟩ := HRK.out x.1.1 x.2.1
    clear hA0
    obtain ⟨k2, caps2, hc, hcall⟩ := seqI_step hI x (by rw [x.2.2]; exact hrd) hdx HW0.out
    have hm : W.cell? ⟨w.heap.size, 0, none⟩ = some (ptr X.m) := by obtain ⟨_, _, _, _, _, _, _, _, _, _, _, _, h9, _⟩ := hI; exact cell_of_one h9
    have b0 : W.cell? ⟨Bx, 0, none⟩ = some (.int .i64 x.1.2.op) := by rw [cell_of_row _ Bx 0 _ _ _ hbx]; rfl
    have b1 : W.cell? ⟨Bx, 1, none⟩ = some (.string x.1.2.text) := by rw [cell_of_row _ Bx 1 _ _ _ hbx]; rfl
    have b2 : W.cell? ⟨Bx, 2, none⟩ = some x.1.2.kv := by rw [cell_of_row _ Bx 2 _ _ _ hbx]; rfl
    have HCALL := Lib.hid hcall
    have hWn : w.heap.size ≤ W.heap.size := by obtain ⟨_, _, _, _, _, _, _, _, _, _, _, _, _, h9⟩ := hI; exact h9.size
    clear hcall hI hbx hrd hdx hrr
    gi_wp2_with fail
    refine ⟨trivial, (CallsIn.inRound l (callsIn_wide.2 HCALL.out)).mono ?_⟩
    rintro e w2 ⟨b, rfl, hc2, hf2, HS⟩
    gi_wp2
    obtain ⟨hs1, hs2, hs3⟩ := HS.out
    refine ⟨⟨by simpa using hs2.size, fun k o hB hk _ => (Below.heap_setCell _ _ _ _ (by show k ≠ w.heap.size + 2; omega)).trans ((hs2.block _ (blk_lt hk)).trans hk)⟩, ⟨(hs2.mono hWn).setCell (p := ⟨w.heap.size + 2, 0, none⟩) (by show w.heap.size ≤ w.heap.size + 2; omega) _, fun o ho => (Below.heap_setCell _ _ _ _ (by show w.heap.size + 1 + 1 + 1 ≠ w.heap.size + 2; omega)).trans ((hs2.block _ (blk_lt ho)).trans ho)⟩, hs1⟩
  case done =>
    rintro Dd ys W hDd hS hI hK
    obtain ⟨g, hc, hfin⟩ := seqI_end (i := i) hS hI HD.out.1 HED.out HD.out.2
    have hBW : Below w.heap.size w W := by obtain ⟨_, _, _, _, _, _, _, _, _, _, _, _, _, h9⟩ := hI; exact h9
    have HFIN := Lib.hid hfin
    clear hfin hI
    gi_wp2
    refine ⟨by simp, .inl ⟨_, _, rfl, run_takeDeferred hK, ?_⟩⟩
    refine ⟨_, results_tmp rfl _ _ _, ?_⟩
    exact (HFIN.out _ ⟨some Dd, grownBy_putObj' W Dd _, fun r e => by cases e; exact ⟨by have := HW0.out; omega, _, hK, rfl⟩⟩ (hBW.trans (belowK_b (w := W0) (by omega) W Dd _ _ hDd hK rfl rfl)))
  case stop =>
    rintro D c pre W _ _ h _
    exact h.elim
-- VOF2
end
end Go.Proofs.YtdmccopggmienaaGreat

/- CHAPTER 5, impl: a place is visited. -/
namespace Go.Proofs.YtdmccopggmienaaGreat
open Go.RowKit Mac

section
variable {X : Cx} {K K' : Kn} {vr vw : Value} {cs : List Nat} {w w' : World} {S : Mc} {D N : Nat} {s : ByteArray} {T : Pat} {H : Nat → Nat → Prop} {Wq : List Nat} {i : Nat} {p : Pl}
theorem equalIn_func_nil (d : Nat) (fn : Fn) (a b : Array Value) (w : World) : (Op.equalIn (d + 1) tF (.func fn a b) .nilFunc).run Tryz.prog w = .ok false w := by
  simp [Op.equalIn, run_underlying Tryz.underlying1]
theorem equalIn_nil_nil (d : Nat) (w : World) : (Op.equalIn (d + 1) tF .nilFunc .nilFunc).run Tryz.prog w = .ok true w := by
  simp [Op.equalIn, run_underlying Tryz.underlying1]
theorem eql_func_nil (fn : Fn) (a b : Array Value) (w : World) : (binOp .eql tF (.func fn a b) .nilFunc).run Tryz.prog w = .ok (.bool false) w := by
  have h : (Op.equal tF (.func fn a b) .nilFunc).run Tryz.prog w = .ok false w := equalIn_func_nil 9999 fn a b w
  simp only [binOp]
  simp [h]
theorem eql_nil_nil (w : World) : (binOp .eql tF .nilFunc .nilFunc).run Tryz.prog w = .ok (.bool true) w := by
  have h : (Op.equal tF .nilFunc .nilFunc).run Tryz.prog w = .ok true w := equalIn_nil_nil 9999 w
  simp only [binOp]
  simp [h]
set_option maxRecDepth 100000 in
set_option maxHeartbeats 4000000 in
theorem vof_other (h : VofI X K vr vw cs S D i p w) (h1 : p.t.x.op ≠ 1) (h2 : p.t.x.op ≠ 2) (h3 : p.t.x.op ≠ 3) (h4 : p.t.x.op ≠ 4) (h5 : p.t.x.op ≠ 5) : Calls Tryz.prog 108 #[ptr X.m, .agg #[.int .i64 p.r.op, .string p.r.text, p.r.kv], placeV p.b, refV X S.pl p.nx] w (VofP X K vr vw cs S D i p w) := by
  obtain ⟨hR, hp, ho, hD, hd, hfew⟩ := h
  have hpm := List.mem_of_getElem? hp
  obtain ⟨⟨⟨hro, hrt⟩, hrd⟩, htx, hfit⟩ := hR.rd p hpm
  obtain ⟨A, cap, hkv⟩ := RdL.form (k := patK) hrd
  have hkv' : p.r.kv = .slice A p.t.kids.length cap := hkv
  obtain ⟨k1, caps1, e1⟩ := ref_fn X S.pl p.nx
  have hro' : p.r.op = p.t.x.op := hro
  have hrt' : p.r.text = p.t.x.text := hrt
  obtain ⟨n, hn⟩ : ∃ n, n = p.t.kids.length := ⟨_, rfl⟩
  obtain ⟨o, hop⟩ : ∃ o, o = p.t.x.op := ⟨_, rfl⟩
  obtain ⟨tx, htx'⟩ : ∃ tx, tx = p.t.x.text := ⟨_, rfl⟩
  have hB : Below w.heap.size w (((w.alloc (bx (ptr X.m) tM)).alloc (.cells #[.int .i64 o, .string tx, .slice A n cap] 82)).alloc (bx (.func (.func k1) #[] caps1) tF)) := below_al (below_al (below_al (Below.refl _ _) _) _) _
  have HF : Hid (VofP X K vr vw cs S D i p w (.returned noneV) (((w.alloc (bx (ptr X.m) tM)).alloc (.cells #[.int .i64 o, .string tx, .slice A n cap] 82)).alloc (bx (.func (.func k1) #[] caps1) tF))) := Lib.hid
    ⟨K, [], .ways [], noneV, rfl, K.le_refl, by rw [List.append_nil]; exact hR.below hB, hB, .inr (.inr (.inr ⟨rfl, rfl⟩)), ⟨fun c => absurd c h1, fun c => absurd c h2, fun c => absurd c h3, fun c => absurd c h4, fun c => absurd c h5, fun _ _ _ _ _ => rfl⟩, news_nil ho, fun l e r hr => by cases e; cases hr⟩
  rw [hro', hrt', hkv', e1, ← hn, ← hop, ← htx']
  have g1 : (o == 1) = false := by rw [hop]; simpa using h1
  have g2 : (o == 2) = false := by rw [hop]; simpa using h2
  have g3 : (o == 3) = false := by rw [hop]; simpa using h3
  have g4 : (o == 4) = false := by rw [hop]; simpa using h4
  have g5 : (o == 5) = false := by rw [hop]; simpa using h5
  clear hR hp ho hD hd hfew hpm hro hrt hrd htx hfit hkv hkv' e1 hro' hrt' hn hop htx' hB h1 h2 h3 h4 h5
  go_enter Tryz.func108, Tryz.ntmps108
  go_wp2
  go_ret
  exact HF.out
theorem vof_all (h : VofI X K vr vw cs S D i p w) : Calls Tryz.prog 108 #[ptr X.m, .agg #[.int .i64 p.r.op, .string p.r.text, p.r.kv], placeV p.b, refV X S.pl p.nx] w (VofP X K vr vw cs S D i p w) := by
  rcases op_cases p.t.x.op with h1 | h1 | h1 | h1 | h1 | ⟨h1, h2, h3, h4, h5⟩
  · exact vof_1 h h1
  · exact vof_2 h h1
  · exact vof_3 h h1
  · exact vof_4 h h1
  · exact vof_5 h h1
  · exact vof_other h h1 h2 h3 h4 h5
theorem call_sh (S : Mc) (r : Nat) (hr : r ≤ S.pl.length) (hv : ∀ (i : Nat) (p : Pl), S.pl[i]? = some p → p.vis ≤ S.pos) {i : Nat} {p : Pl} (hp : S.pl[i]? = some p) : ∃ p', (call S r).pl[i]? = some p' ∧ p'.sh = p.sh := by
  rcases call_spec S r hr hv with ⟨_, h2⟩ | ⟨rfl, h2⟩ | ⟨j, q, rfl, hq, _, h2⟩
  · rw [h2]; exact ⟨p, hp, rfl⟩
  · rw [h2]; exact ⟨p, hp, rfl⟩
  · rw [h2]
    by_cases e : j = i
    · subst e
      rw [hq] at hp; cases hp
      exact ⟨{ p with vis := S.pos }, by show (S.pl.set j _)[j]? = _; rw [List.getElem?_set_self (List.getElem?_eq_some_iff.1 hq).1], rfl⟩
    · exact ⟨p, by show (S.pl.set j _)[i]? = _; rw [List.getElem?_set_ne e]; exact hp, rfl⟩
theorem calls_sh : ∀ (l : List Nat) (S : Mc), (∀ r, r ∈ l → r ≤ S.pl.length) → (∀ (i : Nat) (p : Pl), S.pl[i]? = some p → p.vis ≤ S.pos) → ∀ {i : Nat} {p : Pl}, S.pl[i]? = some p → ∃ p', (l.foldl call S).pl[i]? = some p' ∧ p'.sh = p.sh
  | [], S, _, _, _, p, hp => ⟨p, hp, rfl⟩
  | r :: l, S, hl, hv, _, p, hp => by
    obtain ⟨a1, a2, _, _, a5, _⟩ := call_len S r (hl r (by simp)) hv
    obtain ⟨p1, h1, h2⟩ := call_sh S r (hl r (by simp)) hv hp
    obtain ⟨p2, h3, h4⟩ := calls_sh l (call S r) (fun q hq => by rw [a1]; exact hl q (by simp [hq])) (by rw [a2]; exact a5) h1
    exact ⟨p2, h3, h4.trans h2⟩
/-- what a visit of the machine keeps -/
structure Vst (S S' : Mc) : Prop where
  ext : Ext S.pl S'.pl
  pos : S'.pos = S.pos
  kept : ∀ r, Called S r → Called S' r
  mu : mu S' ≤ mu S
theorem stp_vst {S S' : Mc} (h : Stp S S') : Vst S S' := ⟨h.ext, h.pos, h.kept, h.mu⟩
theorem Vst.trans {S S' S'' : Mc} (h : Vst S S') (h' : Vst S' S'') : Vst S S'' := ⟨h.ext.trans h'.ext, h'.pos.trans h.pos, fun r hr => h'.kept r (h.kept r hr), Nat.le_trans h'.mu h.mu⟩
/-- the place i has its function: it is called -/
theorem vis_fin (I : Inv s D N T H (some i) Wq S) (hp : S.pl[i]? = some p) {sh : Vs} (hs : p.sh = some sh) (hc : Called S (i + 1)) :
    Inv s D N T H none Wq (afterV S i sh) ∧ Vst S (afterV S i sh) := by
  have hsh := I.shp i p sh hp hs
  cases sh with
  | wait =>
    have ho : p.t.x.op = 1 := by
      rcases op_cases p.t.x.op with h | h | h | h | h | ⟨h1, h2, h3, h4, h5⟩
      · exact h
      · obtain ⟨r, e, _⟩ := hsh.2.1 h; cases e
      · obtain ⟨l, e, _⟩ := hsh.2.2.1 h; cases e
      · have := hsh.2.2.2.1 h; unfold Tries at this; split at this
        · obtain ⟨r, e, _⟩ := this; cases e
        · cases this
      · have := hsh.2.2.2.2.1 h; unfold Tries at this; split at this
        · obtain ⟨r, e, _⟩ := this; cases e
        · cases this
      · have := hsh.2.2.2.2.2 h1 h2 h3 h4 h5; cases this
    exact ⟨inv_wait I hp hs ho hc, ⟨Ext.refl _, rfl, fun r hr => by cases r <;> exact hr, Nat.le_refl _⟩⟩
  | ways l =>
    have hg := ways_good I hp hsh hc
    obtain ⟨I2, hca, st⟩ := inv_calls I hg
    obtain ⟨p2, h1, h2⟩ := calls_sh l S (fun r hr => (hg r hr).1) (fun i p hp => (I.vle i p hp).2) hp
    exact ⟨inv_ways I2 h1 (h2.trans hs) hca, stp_vst st⟩
/-- what a visit leaves, all told -/
def VstP (X : Cx) (s : ByteArray) (D N : Nat) (T : Pat) (H : Nat → Nat → Prop) (Wq : List Nat) (S : Mc) (e : Ending) (w' : World) : Prop := e = .returned (.tuple #[]) ∧ ∃ K' vr' vw' cs' S', Rep X K' vr' vw' cs' w' S' ∧ Inv s D N T H none Wq S' ∧ Vst S S'
theorem inv_bounds (I : Inv s D N T H (some i) Wq S) (hN : N ≤ 2147483647) : S.reached.length + unv S + 1 ≤ 2147483648 ∧ S.waiting.length + 1 ≤ 2147483648 := by
  have h1 := I.cnt
  have h2 := I.tot
  simp at h1
  omega
theorem sumL_mem {f : Pl → Nat} : ∀ {l : List Pl} {p : Pl}, p ∈ l → f p ≤ sumL f l
  | [], _, h => by cases h
  | x :: l, p, h => by
    simp only [sumL, List.map_cons, List.sum_cons]
    rcases List.mem_cons.1 h with rfl | h
    · omega
    · have := sumL_mem (f := f) h
      unfold sumL at this; omega
theorem len_cnt (d : Nat) : ∀ l : List Pat, l.length ≤ cntL (d + 1) l
  | [] => Nat.zero_le _
  | x :: l => by
    have ih := len_cnt d l
    simp only [cntL, List.map_cons, List.sum_cons, List.length_cons] at ih ⊢
    omega
theorem few_kids {X' : Option Nat} (I : Inv s D N T H X' Wq S) (hp : S.pl[i]? = some p) (hs : p.sh = none) : p.t.kids.length ≤ N := by
  have h1 := sumL_mem (f := rw') (List.mem_of_getElem? hp)
  have h2 := I.tot
  have h3 : rw' p = cntL p.e p.t.kids := by unfold rw'; rw [hs]; rfl
  have hd := (I.deep i p hp).2
  cases he : p.e with
  | zero => rw [he] at hd; rw [show p.t.kids = [] from hd]; exact Nat.zero_le _
  | succ d => have := len_cnt d p.t.kids; rw [he] at h3; omega
set_option maxRecDepth 100000 in
set_option maxHeartbeats 4000000 in
theorem visit_any (h : Rep X K vr vw cs w S) (I : Inv s D N T H (some i) Wq S) (hp : S.pl[i]? = some p) (hc : Called S (i + 1)) (hN : N ≤ 2147483647) :
    Calls Tryz.prog 107 #[ptr (p.b + 4), ptr p.b, ptr (p.b + 1), ptr (p.b + 3), ptr (p.b + 2)] w (VstP X s D N T H Wq S) := by
  have hpm := List.mem_of_getElem? hp
  obtain ⟨g, hg, hg0, hg1⟩ := h.hg p hpm
  have hv := fun (i : Nat) (p : Pl) hp => (I.vle i p hp).2
  cases hs : p.sh with
  | some sh =>
    obtain ⟨hk, hl⟩ := hg1 sh hs
    obtain ⟨f, caps, rfl, hen, hcall⟩ := vis_any h hp hk hl hv (inv_bounds I hN).1 (inv_bounds I hN).2
    have c4 := cell_of_one hg
    have HC := Lib.hid hcall
    have HF : Hid (∀ w', VisP X K S i sh (.returned (.tuple #[])) w' → VstP X s D N T H Wq S (.returned (.tuple #[])) w') := Lib.hid fun w' ⟨_, vr', vw', cs', hR⟩ => ⟨rfl, K, vr', vw', cs', _, hR, (vis_fin I hp hs hc).1, (vis_fin I hp hs hc).2⟩
    have hbo := eql_func_nil (.func f) #[] caps
    clear h I hp hc hpm hg hg0 hg1 hv hk hl hcall hs
    go_enter Tryz.func107, Tryz.ntmps107
    go_wp2_with fail
    refine HC.out.mono ?_
    rintro e w2 ⟨rfl, hV⟩
    have HV := Lib.hid (HF.out w2 ⟨rfl, hV⟩)
    clear hV
    go_wp2
    go_end0
    exact HV.out
  | none =>
    have hgn := hg0 hs
    subst hgn
    have c4 := cell_of_one hg
    have f4 := free_of_one hg
    obtain ⟨hk, hnx⟩ := h.pk p hpm
    have c0 := cell_of_one (h.hk _ _ hk.k0)
    have q0 : w.cell? ⟨p.b + 1, 0, none⟩ = some (.int .i64 p.r.op) := by rw [cell_of_row _ (p.b + 1) 0 _ _ _ (h.hk _ _ hk.k1)]; rfl
    have q1 : w.cell? ⟨p.b + 1, 1, none⟩ = some (.string p.r.text) := by rw [cell_of_row _ (p.b + 1) 1 _ _ _ (h.hk _ _ hk.k1)]; rfl
    have q2 : w.cell? ⟨p.b + 1, 2, none⟩ = some p.r.kv := by rw [cell_of_row _ (p.b + 1) 2 _ _ _ (h.hk _ _ hk.k1)]; rfl
    have c3 := cell_of_one (h.hk _ _ hk.k3)
    have c2 := cell_of_one (h.hk _ _ hk.k2)
    obtain ⟨k1, caps1, e1⟩ := ref_fn X S.pl p.nx
    have hvof := vof_all (D := D) (i := i) (p := p) ⟨h, hp, I.ord, (I.deep i p hp).1, (I.deep i p hp).2, Nat.le_trans (few_kids I hp hs) hN⟩
    rw [e1] at c2 hvof
    have HVOF := Lib.hid hvof
    have hil := (List.getElem?_eq_some_iff.1 hp).1
    have HNEXT : Hid (∀ (e : Ending) w1, VofP X K vr vw cs S D i p w e w1 → ∃ f caps, e = .returned (.func (.func f) #[] caps) ∧ (∀ w, (callFunc f caps).run Tryz.prog w = .ok (.enter f caps) w) ∧ w1.cell? ⟨p.b + 4, 0, none⟩ = some .nilFunc ∧ w1.frozen? ⟨p.b + 4, 0, none⟩ = false ∧ Calls Tryz.prog f caps (w1.setCell ⟨p.b + 4, 0, none⟩ (.func (.func f) #[] caps)) (VstP X s D N T H Wq S)) := Lib.hid fun e w1 ⟨K', nn, sh, g, he, hle, hR, hB, hvk, hsh, hnews, hl⟩ => by
      have hp1 : (S.pl ++ nn)[i]? = some p := by rw [List.getElem?_append_left hil]; exact hp
      obtain ⟨I2, hext, hkept, hmu⟩ := inv_made I hp hs hnews hsh
      have hR2 := hR.setSh hp1 hvk hl
      have hsame : Same (S.pl ++ nn) ((S.pl ++ nn).set i { p with sh := some sh }) := same_set hp1 rfl
      have hnx1 : p.nx ≤ (S.pl ++ nn).length := by rw [List.length_append]; omega
      have hvk2 : VsK X K' ((S.pl ++ nn).set i { p with sh := some sh }) { p with sh := some sh } g sh := hvk.same hsame hnx1 hl rfl rfl
      have hl2 : ∀ l, sh = .ways l → ∀ r, r ∈ l → r ≤ ((S.pl ++ nn).set i { p with sh := some sh }).length := fun l e r hr => by rw [List.length_set]; exact hl l e r hr
      have hp2 : ((S.pl ++ nn).set i { p with sh := some sh })[i]? = some { p with sh := some sh } := List.getElem?_set_self (by rw [List.length_append]; omega)
      obtain ⟨f, caps, rfl, hen, hcall⟩ := vis_any hR2 (i := i) (p := { p with sh := some sh }) hp2 hvk2 hl2 (fun i p hp => (I2.vle i p hp).2) (inv_bounds I2 hN).1 (inv_bounds I2 hN).2
      have h4 : w1.heap[p.b + 4]? = some (bx .nilFunc tF) := (hB.block _ (blk_lt hg)).trans hg
      refine ⟨f, caps, he, hen, cell_of_one h4, free_of_one h4, hcall.mono ?_⟩
      rintro e2 w2 ⟨rfl, vr', vw', cs', hR3⟩
      have hfin := vis_fin I2 hp2 rfl (hkept _ hc)
      have hv0 : Vst S { S with pl := (S.pl ++ nn).set i { p with sh := some sh } } := ⟨hext, rfl, hkept, hmu⟩
      exact ⟨rfl, K', vr', vw', cs', _, hR3, hfin.1, hv0.trans hfin.2⟩
    have hbo := eql_nil_nil
    clear h I hp hc hpm hg hg0 hg1 hv hk hnx hvof hs hil e1
    go_enter Tryz.func107, Tryz.ntmps107
    go_wp2_with fail
    refine HVOF.out.mono ?_
    rintro e w1 hV
    obtain ⟨f, caps, rfl, hen, d4, z4, hcall⟩ := HNEXT.out e w1 hV
    have HC := Lib.hid hcall
    clear hV hcall HVOF HNEXT c4 f4 c0 q0 q1 q2 c3 c2
    go_wp2_with fail
    refine HC.out.mono ?_
    rintro e w2 ⟨rfl, hV⟩
    have HV : Hid (VstP X s D N T H Wq S (.returned (.tuple #[])) w2) := Lib.hid ⟨rfl, hV⟩
    clear hV
    go_wp2
    go_end0
    exact HV.out
end
end Go.Proofs.YtdmccopggmienaaGreat

/- CHAPTER 5, impl: visitReached. -/
namespace Go.Proofs.YtdmccopggmienaaGreat
open Go.RowKit Mac

section
variable {X : Cx} {K K' : Kn} {vr vw : Value} {cs : List Nat} {w w' : World} {S : Mc} {D N : Nat} {s : ByteArray} {T : Pat} {H : Nat → Nat → Prop} {Wq : List Nat} {i : Nat} {p : Pl}
theorem flat_one (l : List Value) : (l.flatMap fun u => [u]) = l := by induction l with
  | nil => rfl
  | cons x l ih => rw [List.flatMap_cons, ih]; rfl
theorem rowV_last {E B g n cap : Nat} {l : List Value} {x : Value} (h : RowV E B w (.slice (some ⟨g, 0, none⟩) n cap) (l ++ [x])) : n = l.length + 1 ∧ l.length + 1 ≤ cap ∧ w.cell? ⟨g, l.length, none⟩ = some x ∧ RowV E B w (.slice (some ⟨g, 0, none⟩) l.length cap) l := by
  have hn := RowR.cap' h
  have hc := RowR.cap h
  have hcell := RowR.cell (enc := fun u : Value => [u]) (z := 1) (fun _ => rfl) h (i := l.length) (by simp) (j := 0) (x := x) (by simp)
  rw [List.length_append, List.length_singleton] at hn
  refine ⟨hn, by omega, by simpa using hcell, ?_⟩
  rcases h.2 with ⟨h0, _⟩ | ⟨g', cap', cur, hv, hB, hg, h3, h4, h5, h6⟩
  · cases h0
  · cases hv
    refine ⟨by simp [flat_one], .inr ⟨g, cap, cur, rfl, hB, hg, by omega, h4, h5, ?_⟩⟩
    rw [flat_one] at h6 ⊢
    have := congrArg (List.take l.length) h6
    rw [List.take_take, List.take_left] at this
    have e : ∀ m, l.length ≤ m → min l.length m = l.length * 1 := fun m hm => by omega
    rw [e _ (by simp)] at this
    exact this
/-- what is left when nothing is reached any more -/
def RchP (X : Cx) (s : ByteArray) (D N : Nat) (T : Pat) (H : Nat → Nat → Prop) (Wq : List Nat) (S : Mc) (e : Ending) (w' : World) : Prop := e = .returned (.tuple #[]) ∧ ∃ K' vr' vw' cs' S', Rep X K' vr' vw' cs' w' S' ∧ Inv s D N T H none Wq S' ∧ Vst S S' ∧ S'.reached = []
def RchI (X : Cx) (s : ByteArray) (D N : Nat) (T : Pat) (H : Nat → Nat → Prop) (Wq : List Nat) (S : Mc) (G : Nat) (w' : World) : Prop := ∃ K' vr' vw' cs' S', Rep X K' vr' vw' cs' w' S' ∧ Inv s D N T H none Wq S' ∧ Vst S S' ∧ mu S' = G
set_option maxRecDepth 100000 in
set_option maxHeartbeats 4000000 in
theorem reach_any (h : Rep X K vr vw cs w S) (I : Inv s D N T H none Wq S) (hN : N ≤ 2147483647) :
    Calls Tryz.prog 109 #[ptr X.m] w (RchP X s D N T H Wq S) := by
  have H0 : Hid (RchI X s D N T H Wq S (mu S) w) := Lib.hid ⟨K, vr, vw, cs, S, h, I, ⟨Ext.refl _, rfl, fun _ h => h, Nat.le_refl _⟩, rfl⟩
  obtain ⟨G0, hG0⟩ : ∃ G0, G0 = mu S := ⟨_, rfl⟩
  rw [← hG0] at H0
  have HR : Hid (∀ G wr, RchI X s D N T H Wq S G wr → (∃ m2, wr.cell? ⟨X.m, 1, none⟩ = some m2 ∧ wr.frozen? ⟨X.m, 1, none⟩ = false ∧ ((∃ c : Nat, (m2 = .slice none 0 0 ∨ ∃ g, m2 = .slice (some ⟨g, 0, none⟩) 0 c)) ∧ RchP X s D N T H Wq S (.returned (.tuple #[])) wr ∨
      ∃ g n c b, m2 = .slice (some ⟨g, 0, none⟩) (n + 1) c ∧ n + 1 ≤ c ∧ n ≤ 2147483648 ∧ wr.cell? ⟨g, n, none⟩ = some (visitV b) ∧ Calls Tryz.prog 107 #[ptr (b + 4), ptr b, ptr (b + 1), ptr (b + 3), ptr (b + 2)] (wr.setCell ⟨X.m, 1, none⟩ (.slice (some ⟨g, 0, none⟩) n c)) fun e w2 => e = .returned (.tuple #[]) ∧ ∃ G', G' < G ∧ Hid (RchI X s D N T H Wq S G' w2)))) := Lib.hid fun G wr ⟨K', vr', vw', cs', S', hR, hI, hV, hG⟩ => by
    obtain ⟨⟨_, m1, _⟩, fm⟩ := hR.cells
    refine ⟨vr', m1, fm 1, ?_⟩
    by_cases hne : S'.reached = []
    · refine .inl ⟨?_, rfl, K', vr', vw', cs', S', hR, hI, hV, hne⟩
      have hrr := hR.rr
      rw [hne] at hrr
      rcases RowR.form hrr with ⟨h1, _⟩ | ⟨g, c, h1, _⟩
      · exact ⟨0, .inl h1⟩
      · exact ⟨c, .inr ⟨g, h1⟩⟩
    · obtain ⟨R, i, hri⟩ : ∃ R i, S'.reached = R ++ [i] := ⟨S'.reached.dropLast, S'.reached.getLast hne, (List.dropLast_concat_getLast hne).symm⟩
      have hrr := hR.rr
      rw [hri, List.map_append, List.map_singleton] at hrr
      rcases RowR.form hrr with ⟨_, h1⟩ | ⟨g, c, h1, hgB, hgl⟩
      · simp at h1
      · rw [h1] at hrr
        obtain ⟨g1, g2, g3, g4⟩ := rowV_last hrr
        rw [List.length_map] at g1 g2 g3 g4
        obtain ⟨I2, hc2, hmu⟩ := inv_pop hI hri
        obtain ⟨p, hp, _⟩ := hc2
        have hb : bOf S'.pl i = p.b := bOf_eq hp
        rw [hb] at g3
        have hlen : R.length ≤ 2147483648 := by
          have h2 := hI.cnt; have h3 := hI.tot
          rw [hri] at h2
          simp at h2; omega
        have hR2 := hR.setReached (w1 := wr) (v' := .slice (some ⟨g, 0, none⟩) R.length c) (R := R) (World.grownBy.refl _ _) g4 (fun g' e => .inl (by rw [h1]; exact e)) (fun j hj => hR.rl j (by rw [hri]; exact List.mem_append_left _ hj))
        refine .inr ⟨g, R.length, c, p.b, by rw [h1]; simp, g2, hlen, g3, (visit_any hR2 I2 (i := i) hp ⟨p, hp, by assumption⟩ hN).mono ?_⟩
        rintro e w2 ⟨rfl, K2, vr2, vw2, cs2, S2, hR3, hI3, hV3⟩
        refine ⟨rfl, mu S2, ?_, Lib.hid ⟨K2, vr2, vw2, cs2, S2, hR3, hI3, ?_, rfl⟩⟩
        · have := hV3.mu; omega
        · have hv0 : Vst S' { S' with reached := R } := ⟨Ext.refl _, rfl, fun r hr => by cases r <;> exact hr, by omega⟩
          exact (hV.trans hv0).trans hV3
  clear h I hG0
  go_enter Tryz.func109, Tryz.ntmps109
  go_wp2
  go_loopg [] G0 (fun G wr => Hid (RchI X s D N T H Wq S G wr))
  case atStart => exact H0
  case round =>
    clear H0
    obtain ⟨m2, hm, hf, ⟨⟨c, hm2⟩, hP⟩ | ⟨g, n, c, b, rfl, hc, hn, hcell, hcall⟩⟩ := HR.out _ _ hrel.out
    · have HP := Lib.hid hP
      clear hP hrel HR
      rcases hm2 with rfl | ⟨g, rfl⟩
      all_goals
        go_wp2
        go_end0
        exact HP.out
    · have HC := Lib.hid hcall
      clear hcall hrel HR
      go_wp2_with fail
      refine HC.out.mono ?_
      rintro e w2 ⟨rfl, G', hG', HI⟩
      clear HC hm hf hcell
      go_wp2
      go_roundg G'
      case rel => exact HI
      case measure => exact hG'
end
end Go.Proofs.YtdmccopggmienaaGreat

/- CHAPTER 5, impl: run: byte by byte. -/
namespace Go.Proofs.YtdmccopggmienaaGreat
open Go.RowKit Mac

section
variable {X : Cx} {K K' : Kn} {vr vw : Value} {cs : List Nat} {w w' : World} {S : Mc} {D N : Nat} {s : ByteArray} {T : Pat} {H : Nat → Nat → Prop} {Wq : List Nat} {i : Nat} {p : Pl}
/-- what the run keeps of the beginning -/
structure First (T : Pat) (H : Nat → Nat → Prop) (S : Mc) : Prop where
  beg : Beg H S
  pl : ∃ p, S.pl[0]? = some p ∧ p.t = T ∧ p.nx = 0
theorem First.vst {S S' : Mc} (h : First T H S) (hv : Vst S S') : First T H S' := by
  obtain ⟨p, h1, h2, h3⟩ := h.pl
  obtain ⟨p', g1, g2, g3⟩ := hv.ext 0 p h1
  refine ⟨?_, p', g1, g2.trans h2, g3.trans h3⟩
  rcases h.beg with h4 | ⟨h4, h5⟩
  · exact .inl h4
  · exact .inr ⟨hv.pos.trans h4, hv.kept _ h5⟩
/-- at the head of the outer loop -/
def RunI (X : Cx) (s : ByteArray) (D N : Nat) (T : Pat) (w' : World) (k : Nat) (n : Nat) : Prop := ∃ H K' vr' vw' cs' S', Rep X K' vr' vw' cs' w' S' ∧ Inv s D N T H none [] S' ∧ First T H S' ∧ S'.reached = [] ∧ S'.pos = k ∧ S'.waiting.length = n
/-- within the inner loop: k of those that waited are done -/
def TakeI (X : Cx) (s : ByteArray) (D N : Nat) (T : Pat) (vw : Value) (cs : List Nat) (W : List Nat) (pos : Nat) (k : Nat) (w' : World) : Prop := ∃ H K' vr' S', Rep X K' vr' vw cs w' { S' with waiting := W } ∧ Inv s D N T H none (W.drop k) S' ∧ First T H S' ∧ S'.waiting = [] ∧ S'.pos = pos + 1 ∧ (∀ i, i ∈ W → ∃ p, S'.pl[i]? = some p ∧ p.t.x.op = 1 ∧ (ChAt s p.t.x.text pos → p.nx ≤ S'.pl.length ∧ Mac.GoodM s D T S'.pl p.nx (pos + 1)))
theorem call_wait (S : Mc) (r : Nat) (W : List Nat) : call { S with waiting := W } r = { call S r with waiting := W } := by
  cases r with
  | zero => rfl
  | succ i =>
    simp only [call]
    cases S.pl[i]? with
    | none => rfl
    | some p => by_cases h : p.vis < S.pos <;> simp [h]
/-- one that waited takes the byte -/
theorem takeI_step {W : List Nat} {pos k : Nat} {wr : World} (h : TakeI X s D N T vw cs W pos k wr) (hk : k < W.length) (hs : pos < s.size) (hN : N ≤ 2147483647) : ∃ c, wr.cell? ⟨0, 0, none⟩ = wr.cell? ⟨0, 0, none⟩ ∧ (∃ hc : k < cs.length, cs[k] = c) ∧ Calls Tryz.prog 140 #[.int .u8 s[pos].toNat, ptr (c + 1), ptr (c + 2)] wr fun e w' => e = .returned (.tuple #[]) ∧ Hid (TakeI X s D N T vw cs W pos (k + 1) w') := by
  obtain ⟨H, K', vr', S', hR, hI, hF, hw, hp, hW⟩ := h
  have hcl := hR.cl
  have hkc : k < cs.length := by rw [hcl]; exact hk
  obtain ⟨p, hpl, htk⟩ := hR.cw k hkc hk
  have hbd : S'.reached.length + 1 ≤ 2147483648 := by
    have h1 := hI.cnt; have h2 := hI.tot
    simp at h1; omega
  refine ⟨cs[k], rfl, ⟨hkc, rfl⟩, (take_any hR (p := p) (List.mem_of_getElem? hpl) htk s[pos] hbd).mono ?_⟩
  obtain ⟨p', hp1, hp2, hp3⟩ := hW W[k] (List.getElem_mem hk)
  have epp : p' = p := by have := hp1.symm.trans hpl; cases this; rfl
  subst epp
  have hdrop : W.drop k = W[k] :: W.drop (k + 1) := List.drop_eq_getElem_cons hk
  rw [hdrop] at hI
  rintro e w' ⟨rfl, ⟨hx, vr2, hR2⟩ | ⟨hx, hR2⟩⟩
  · have hch : ChAt s p'.t.x.text pos := ⟨hs, hx⟩
    obtain ⟨h1, h2⟩ := hp3 hch
    have hgood : Mac.GoodM s D T S'.pl p'.nx S'.pos := by rw [hp]; exact h2
    obtain ⟨I2, hc2, st⟩ := inv_call hI h1 hgood
    obtain ⟨p2, g1, g2, g3⟩ := st.ext _ _ hp1
    rw [call_wait] at hR2
    refine ⟨rfl, Lib.hid ⟨H, K', vr2, call S' p'.nx, hR2, inv_drop I2 g1 (fun _ _ _ => by rw [g3]; exact hc2), hF.vst (stp_vst st), by rw [st.wait]; exact hw, by rw [st.pos]; exact hp, fun i hi => ?_⟩⟩
    obtain ⟨q, q1, q2, q3⟩ := hW i hi
    obtain ⟨q', r1, r2, r3⟩ := st.ext i q q1
    refine ⟨q', r1, by rw [r2]; exact q2, fun hc => ?_⟩
    rw [r2] at hc
    obtain ⟨q4, q5⟩ := q3 hc
    rw [r3, st.len]
    exact ⟨q4, fun j hj => q5 j (hj.back hI.ord st.ext q4)⟩
  · refine ⟨rfl, Lib.hid ⟨H, K', vr', S', hR2, inv_drop hI hp1 (fun j hj hc => ?_), hF, hw, hp, hW⟩⟩
    have : j = pos := by omega
    subst this
    exact absurd hc.2 hx
theorem rowV_zero {E B : Nat} {n c : Nat} {A : Option Addr} {l : List Value} (h : RowV E B w (.slice A n c) l) : RowV E B w (.slice A 0 c) [] := by
  rcases h.2 with ⟨h0, _⟩ | ⟨g, cap, cur, hv, hB, hg, h3, h4, h5, h6⟩
  · cases h0; exact ⟨by simp, .inl ⟨rfl, rfl⟩⟩
  · cases hv; exact ⟨by simp, .inr ⟨g, c, cur, rfl, hB, hg, Nat.zero_le _, h4, h5, by simp⟩⟩
/-- the inner loop begins -/
theorem takeI_zero {k n : Nat} {wr : World} (h : RunI X s D N T wr k n) (hk : k < s.size) : ∃ (A : Option Addr) (c : Nat) (cs W : List Nat), wr.cell? ⟨X.m, 0, none⟩ = some (.int .i64 k) ∧ wr.cell? ⟨X.m, 2, none⟩ = some (.slice A n c) ∧ wr.frozen? ⟨X.m, 0, none⟩ = false ∧ W.length = n ∧ n ≤ 2147483647 + N ∧ Hid (TakeI X s D N T (.slice A n c) cs W k 0 (wr.setCell ⟨X.m, 0, none⟩ (.int .i64 ((k : Int) + 1)))) := by
  obtain ⟨H, K', vr', vw', cs', S', hR, hI, hF, hr, hp, hn⟩ := h
  obtain ⟨⟨m0, _, m2⟩, fm⟩ := hR.cells
  obtain ⟨A, c, hv⟩ : ∃ A c, vw' = .slice A n c := by
    rcases RowR.form hR.rw with ⟨h1, h2⟩ | ⟨g, c, h1, _⟩
    · have : cs'.length = 0 := by have := congrArg List.length h2; simpa using this
      have : n = 0 := by rw [← hn, ← hR.cl]; exact this
      exact ⟨none, 0, by rw [h1, this]⟩
    · exact ⟨_, c, by rw [h1, List.length_map, hR.cl, hn]⟩
  subst hv
  rw [hp] at m0
  have hbd : n ≤ 2147483647 + N := by
    have h1 := hI.cnt; have h2 := hI.tot
    simp at h1; omega
  refine ⟨A, c, cs', S'.waiting, m0, m2, fm 0, hn, hbd, Lib.hid ⟨_, K', vr', _, ?_, inv_next hI hr (by omega), ?_, rfl, by show S'.pos + 1 = k + 1; omega, fun i hi => ?_⟩⟩
  · have := hR.setPos (k + 1)
    rw [show (((k + 1 : Nat) : Int)) = (k : Int) + 1 by omega] at this
    have e : ({ ({ S' with waiting := [], pos := S'.pos + 1 } : Mc) with waiting := S'.waiting } : Mc) = { S' with pos := k + 1 } := by rw [← hp]
    rw [e]; exact this
  · refine ⟨.inl ?_, hF.pl⟩
    rcases hF.beg with h4 | ⟨h4, h5⟩
    · exact .inl h4
    · exact .inr ⟨h4.symm, h5⟩
  · obtain ⟨p, h1, h2, h3⟩ := hI.wt i hi
    refine ⟨p, h1, h2, fun hc => ⟨?_, fun j hj => ?_⟩⟩
    · have := hI.ord i p h1
      have := (List.getElem?_eq_some_iff.1 h1).1
      show p.nx ≤ S'.pl.length
      omega
    · rw [hp] at h3
      exact h3 j (sound_wait h1 (hI.deep i p h1).2 (hI.deep i p h1).1 h2 hc hj)
theorem takeI_cells {A : Option Addr} {n c : Nat} {cs W : List Nat} {pos k : Nat} {wr : World} (h : TakeI X s D N T (.slice A n c) cs W pos k wr) : (wr.cell? ⟨X.m, 2, none⟩ = some (.slice A n c) ∧ wr.frozen? ⟨X.m, 2, none⟩ = false) ∧ ∀ (hk : k < cs.length), ∃ g, A = some ⟨g, 0, none⟩ ∧ wr.cell? ⟨g, k, none⟩ = some (takeV cs[k]) := by
  obtain ⟨H, K', vr', S', hR, _⟩ := h
  obtain ⟨⟨_, _, m2⟩, fm⟩ := hR.cells
  refine ⟨⟨m2, fm 2⟩, fun hk => ?_⟩
  rcases RowR.form hR.rw with ⟨_, h2⟩ | ⟨g, c', h1, _⟩
  · have := congrArg List.length h2; simp at this; rw [this] at hk; simp at hk
  · cases h1
    refine ⟨g, rfl, ?_⟩
    have := RowR.cell (enc := fun u : Value => [u]) (z := 1) (fun _ => rfl) hR.rw (i := k) (by simpa using hk) (j := 0) (x := takeV cs[k]) (by simp)
    simpa using this
/-- the inner loop is over: what waited waits no more -/
theorem takeI_end {A : Option Addr} {n c : Nat} {cs W : List Nat} {pos : Nat} {wr : World} (h : TakeI X s D N T (.slice A n c) cs W pos n wr) (hn : W.length = n) (hN : N ≤ 2147483647) :
    Calls Tryz.prog 109 #[ptr X.m] (wr.setCell ⟨X.m, 2, none⟩ (.slice A 0 c)) fun e w' => e = .returned (.tuple #[]) ∧ ∃ n', Hid (RunI X s D N T w' (pos + 1) n') := by
  obtain ⟨H, K', vr', S', hR, hI, hF, hw, hp, hW⟩ := h
  rw [List.drop_of_length_le (by omega)] at hI
  have hR2 := hR.setWaiting (w1 := wr) (v' := .slice A 0 c) (W := []) (cs' := []) (World.grownBy.refl _ _) (rowV_zero hR.rw) (fun g e => .inl (by
    cases A with
    | none => cases e
    | some a => exact e)) rfl (fun q h1 => absurd h1 (by simp))
  have e : ({ ({ S' with waiting := W } : Mc) with waiting := [] } : Mc) = S' := by rw [← hw]
  rw [e] at hR2
  refine (reach_any hR2 hI hN).mono ?_
  rintro e w' ⟨rfl, K2, vr2, vw2, cs2, S2, hR3, hI3, hV3, hr3⟩
  exact ⟨rfl, S2.waiting.length, Lib.hid ⟨H, K2, vr2, vw2, cs2, S2, hR3, hI3, hF.vst hV3, hr3, by rw [hV3.pos]; exact hp, rfl⟩⟩
/-- the run is over -/
def RunP (X : Cx) (s : ByteArray) (D : Nat) (T : Pat) (e : Ending) (w' : World) : Prop := e = .returned (.tuple #[]) ∧ ∃ K' vr' vw' cs' S', Rep X K' vr' vw' cs' w' S' ∧ (S'.en = s.size ↔ Mt s D T 0 s.size)
theorem runI_end {k n : Nat} {wr : World} (h : RunI X s D N T wr k n) (he : k = s.size ∨ n = 0) : RunP X s D T (.returned (.tuple #[])) wr := by
  obtain ⟨H, K', vr', vw', cs', S', hR, hI, hF, hr, hp, hn⟩ := h
  obtain ⟨p, p1, p2, p3⟩ := hF.pl
  exact ⟨rfl, K', vr', vw', cs', S', hR, inv_end hI hF.beg hr (by
    rcases he with he | he
    · exact .inl (by omega)
    · exact .inr (List.length_eq_zero_iff.1 (by omega))) p1 p2 p3⟩
set_option maxRecDepth 100000 in
set_option maxHeartbeats 4000000 in
theorem run_any {b : Nat} {t : Pat} {e : Nat} {r : PatR} (h : Rep X K vr vw cs w ⟨[⟨t, e, r, 0, b, -1, none⟩], [], [], 0, -1⟩) (hd : DeepL e t.kids) (he : e ≤ D) (hcnt : 1 + cntL e t.kids ≤ N) (hN : N ≤ 2147483647) (hs : s.size ≤ 4611686018427387904) :
    Calls Tryz.prog 96 #[ptr X.m, placeV b, .string s] w (RunP X s D t) := by
  have I0 := inv_zero (s := s) (D := D) (N := N) (t := t) (e := e) (r := r) (b := b) hd he hcnt
  have hc1 := place_any h (j := 0) (p := ⟨t, e, r, 0, b, -1, none⟩) rfl (by simp)
  have hin := inv_call I0 (r := 1) (by simp) (good_zero (s := s) (D := D))
  have HC1 := Lib.hid hc1
  have HREACH : Hid (∀ w1 vr1, Rep X K vr1 vw cs w1 (call ⟨[⟨t, e, r, 0, b, -1, none⟩], [], [], 0, -1⟩ 1) → Calls Tryz.prog 109 #[ptr X.m] w1 fun e w' => e = .returned (.tuple #[]) ∧ ∃ n', Hid (RunI X s D N t w' 0 n')) := Lib.hid fun w1 vr1 hR1 => by
    obtain ⟨I1, hcd, st⟩ := hin
    refine (reach_any hR1 I1 hN).mono ?_
    rintro e w' ⟨rfl, K2, vr2, vw2, cs2, S2, hR3, hI3, hV3, hr3⟩
    have hF1 : First t (fun _ _ => False) (call ⟨[⟨t, e, r, 0, b, -1, none⟩], [], [], 0, -1⟩ 1) := by
      obtain ⟨p, p1, p2, p3⟩ := st.ext 0 ⟨t, e, r, 0, b, -1, none⟩ rfl
      exact ⟨.inr ⟨st.pos, hcd⟩, p, p1, p2, p3⟩
    exact ⟨rfl, S2.waiting.length, Lib.hid ⟨_, K2, vr2, vw2, cs2, S2, hR3, hI3, hF1.vst hV3, hr3, hV3.pos.trans st.pos, rfl⟩⟩
  have HCELL : Hid (∀ k n wr, RunI X s D N t wr k n → k ≤ s.size ∧ wr.cell? ⟨X.m, 0, none⟩ = some (.int .i64 k) ∧ (∃ A c, wr.cell? ⟨X.m, 2, none⟩ = some (.slice A n c))) := Lib.hid fun k n wr hh => by
    obtain ⟨H, K', vr', vw', cs', S', hR, hI, hF, hr, hp, hn⟩ := hh
    obtain ⟨⟨m0, _, m2⟩, fm⟩ := hR.cells
    refine ⟨by have := hI.ple; omega, by rw [hp] at m0; exact m0, ?_⟩
    rcases RowR.form hR.rw with ⟨h1, h2⟩ | ⟨g, c, h1, _⟩
    · have : cs'.length = 0 := by have := congrArg List.length h2; simpa using this
      have : n = 0 := by rw [← hn, ← hR.cl]; exact this
      exact ⟨none, 0, by rw [m2, h1, this]⟩
    · exact ⟨_, c, by rw [m2, h1, List.length_map, hR.cl, hn]⟩
  clear h I0 hc1 hin hd he hcnt
  go_enter Tryz.func96, Tryz.ntmps96
  go_wp2_with fail
  refine HC1.out.mono ?_
  rintro e1 w1 ⟨rfl, vr1, hR1⟩
  have HR1 := Lib.hid (HREACH.out w1 vr1 hR1)
  clear hR1 HREACH HC1
  go_wp2_with fail
  refine HR1.out.mono ?_
  rintro e2 w2 ⟨rfl, n0, HI0⟩
  clear HR1
  go_wp2
  go_loopg [] (s.size) (fun G wr => ∃ k n, G + k = s.size ∧ Hid (RunI X s D N t wr k n))
  case atStart => exact ⟨0, n0, by omega, HI0⟩
  case round =>
    clear HI0
    obtain ⟨k, n, hG, HI⟩ := hrel
    obtain ⟨hks, c0, A, c, c2⟩ := HCELL.out k n wr HI.out
    by_cases hlt : k < s.size
    · have q1 : decide ((k : Int) < (s.size : Int)) = true := by simp; omega
      have q2 : (k : Int) < (s.size : Int) := by omega
      by_cases hn0 : n = 0
      · subst hn0
        have HF := Lib.hid (runI_end HI.out (.inr rfl))
        clear HI HCELL
        go_wp2
        go_end0
        exact HF.out
      · have hn1 : 0 < n := by omega
        have hn2 : (0 : Int) < (n : Int) := by omega
        obtain ⟨A', c', cs2, W, d0, d2, df, hWn, hnb, HT⟩ := takeI_zero HI.out hlt
        rw [c2] at d2
        cases d2
        have HWN := Lib.hid hWn
        have hk9 : (k : Int) + 1 ≤ 9223372036854775807 := by omega
        have HS := Lib.hid hlt
        have HGK : Hid (gk + k = s.size) := Lib.hid hG
        clear HI hWn hG
        go_wp2
        obtain ⟨G1, hG1⟩ : ∃ G1, G1 = gk := ⟨_, rfl⟩
        rw [← hG1] at HGK
        go_loopw [46] (fun i wr => ∃ q : Nat, q ≤ n ∧ i = .int .i64 q ∧ Hid (TakeI X s D N t (.slice A n c) cs2 W k q wr)) (fun i _ => n - (intOf i).toNat)
        case atStart => exact ⟨0, Nat.zero_le _, rfl, HT⟩
        case round =>
          clear HT
          obtain ⟨q, hq, rfl, HT⟩ := hrel
          by_cases hqn : q < n
          · have hqw : q < W.length := by rw [HWN.out]; exact hqn
            obtain ⟨cq, _, ⟨hqc, hcq⟩, hcall⟩ := takeI_step HT.out hqw HS.out hN
            obtain ⟨g, rfl, hcell⟩ := (takeI_cells HT.out).2 hqc
            rw [hcq] at hcell
            have HC := Lib.hid hcall
            clear hcall HT hcq hqc hqw
            go_wp2_with fail
            refine HC.out.mono ?_
            rintro e5 w5 ⟨rfl, HT5⟩
            clear HC hcell
            go_wp2
            go_roundw
            case rel => exact ⟨q + 1, by omega, by go_num, HT5⟩
            case measure => simp [intOf]; omega
          · have hqe : q = n := by omega
            subst hqe
            obtain ⟨m2, f2⟩ := (takeI_cells HT.out).1
            have HC := Lib.hid (takeI_end HT.out HWN.out hN)
            clear HT
            go_wp2_with fail
            refine HC.out.mono ?_
            rintro e5 w5 ⟨rfl, n', HR5⟩
            clear HC m2 f2
            go_wp2
            go_roundg (s.size - (k + 1))
            case rel => exact ⟨k + 1, n', by omega, HR5⟩
            case measure => have := HGK.out; omega
    · have hks' : k = s.size := by omega
      have q1 : decide ((k : Int) < (s.size : Int)) = false := by simp; omega
      have HF := Lib.hid (runI_end HI.out (.inl hks'))
      clear HI HCELL hks'
      go_wp2
      go_end0
      exact HF.out
end
end Go.Proofs.YtdmccopggmienaaGreat
