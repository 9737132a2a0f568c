/- CHAPTER 5, PLAIN MATHEMATICS: places of a pattern, where they lead, and what is said of a text by the places that are called. No function is spoken of. -/
import Derived.Test.YtdalobhomlfpiaaMatC
namespace Go.Proofs.Ytdalobhomlfpiaa
open Go.RowKit

/-- what the visit of a place does: it waits for a byte, or it calls some ways -/
inductive Vs where
  | wait
  | ways (l : List Nat)
/-- a place: the pattern before which it stands (e: no deeper than that; r: its record); where it leads (0: the end; j + 1: the place j); where it lies; when it was last visited; what its visit does -/
structure Pl where
  t : Pat
  e : Nat
  r : PatR
  nx : Nat
  b : Nat
  vis : Int
  sh : Option Vs
/-- patterns no deeper than that -/
def DeepL : Nat → List Pat → Prop
  | 0, l => l = []
  | e + 1, l => ∀ t, t ∈ l → DeepL e t.kids
theorem mt_deepL (s : ByteArray) : ∀ (d : Nat) (t : Pat) (e : Nat), DeepL d t.kids → d ≤ e → Mt s e t = Mt s d t
  | 0, t, e, hf, _ => by
    rw [mt_step, mt_step]
    have hk : t.kids = [] := hf
    exact stepM_congr (fun k h => by rw [hk] at h; cases h)
  | d + 1, t, e, hf, he => by
    obtain ⟨e', rfl⟩ : ∃ e', e = e' + 1 := ⟨e - 1, by omega⟩
    rw [mt_step, mt_step]
    exact stepM_congr (fun k h => mt_deepL s d k e' (hf k h) (by omega))
theorem m_step (s : ByteArray) {D d : Nat} {t : Pat} (hf : DeepL d t.kids) (hd : d ≤ D) : Mt s D t = StepM s (Mt s D) t := by
  rw [mt_step]
  refine stepM_congr fun k h => ?_
  cases d with
  | zero => have hk : t.kids = [] := hf; rw [hk] at h; cases h
  | succ d =>
    obtain ⟨D', rfl⟩ : ∃ D', D = D' + 1 := ⟨D - 1, by omega⟩
    show Mt s D' k = Mt s (D' + 1) k
    rw [mt_deepL s d k D' (hf k h) (by omega), mt_deepL s d k (D' + 1) (hf k h) (by omega)]
theorem rd_deep {w : World} : ∀ {d : Nat} {v : Value} {l : List Pat}, RdL patK d w v l → DeepL d l
  | 0, _, _, h => h.1
  | d + 1, _, l, ⟨R, _, h2, h3⟩ => fun t ht => by
    obtain ⟨i, hi, rfl⟩ := List.getElem_of_mem ht
    exact rd_deep (h3 i (by rw [h2]; exact hi) hi).2
namespace Mac
/-- the ref r leads through the patterns l to the ref n -/
def Leads (L : List Pl) : Nat → List Pat → Nat → Prop
  | r, [], n => r = n
  | r, k :: ks, n => ∃ (j : Nat) (p : Pl), r = j + 1 ∧ L[j]? = some p ∧ p.t = k ∧ Leads L p.nx ks n
/-- a star's or a maybe's way into its only kid, and behind -/
def Tries (L : List Pl) (l : List Pat) (behind n : Nat) (sh : Vs) : Prop :=
  match l with
  | [k] => ∃ r, sh = .ways [r, n] ∧ Leads L r [k] behind
  | _ => sh = .ways [n]
def Shaped (L : List Pl) (i : Nat) (p : Pl) (sh : Vs) : Prop :=
  (p.t.x.op = 1 → sh = .wait) ∧ (p.t.x.op = 2 → ∃ r, sh = .ways [r] ∧ Leads L r p.t.kids p.nx) ∧
  (p.t.x.op = 3 → ∃ l, sh = .ways l ∧ l.length = p.t.kids.length ∧ ∀ q (h : q < l.length) (h' : q < p.t.kids.length), Leads L l[q] [p.t.kids[q]] p.nx) ∧
  (p.t.x.op = 4 → Tries L p.t.kids (i + 1) p.nx sh) ∧ (p.t.x.op = 5 → Tries L p.t.kids p.nx p.nx sh) ∧
  (p.t.x.op ≠ 1 → p.t.x.op ≠ 2 → p.t.x.op ≠ 3 → p.t.x.op ≠ 4 → p.t.x.op ≠ 5 → sh = .ways [])
/-- L' knows all places of L, with the same patterns and ends -/
def Ext (L L' : List Pl) : Prop := ∀ (i : Nat) (p : Pl), L[i]? = some p → ∃ p', L'[i]? = some p' ∧ p'.t = p.t ∧ p'.nx = p.nx
theorem Ext.refl (L : List Pl) : Ext L L := fun _ p h => ⟨p, h, rfl, rfl⟩
theorem Ext.trans {L L' L'' : List Pl} (h : Ext L L') (h' : Ext L' L'') : Ext L L'' := fun i p hp => by
  obtain ⟨p', h1, h2, h3⟩ := h i p hp
  obtain ⟨p'', h4, h5, h6⟩ := h' i p' h1
  exact ⟨p'', h4, h5.trans h2, h6.trans h3⟩
theorem ext_append (L N : List Pl) : Ext L (L ++ N) := fun i p hp => ⟨p, by rw [List.getElem?_append_left (List.getElem?_eq_some_iff.1 hp).1]; exact hp, rfl, rfl⟩
theorem ext_set {L : List Pl} {i : Nat} {p q : Pl} (h : L[i]? = some p) (ht : q.t = p.t) (hn : q.nx = p.nx) : Ext L (L.set i q) := fun j x hx => by
  by_cases e : i = j
  · subst e
    rw [h] at hx; cases hx
    exact ⟨q, by rw [List.getElem?_set_self (List.getElem?_eq_some_iff.1 h).1], ht, hn⟩
  · exact ⟨x, by rw [List.getElem?_set_ne e]; exact hx, rfl, rfl⟩
theorem Leads.ext {L L' : List Pl} (he : Ext L L') : ∀ {l : List Pat} {r n : Nat}, Leads L r l n → Leads L' r l n
  | [], _, _, h => h
  | _ :: _, _, _, ⟨j, p, h1, h2, h3, h4⟩ => by
    obtain ⟨p', g1, g2, g3⟩ := he j p h2
    exact ⟨j, p', h1, g1, g2.trans h3, by rw [g3]; exact Leads.ext he h4⟩
theorem Tries.ext {L L' : List Pl} (he : Ext L L') {l : List Pat} {b n : Nat} {sh : Vs} (h : Tries L l b n sh) : Tries L' l b n sh := by
  unfold Tries at h ⊢
  split
  · obtain ⟨r, a, b⟩ := h; exact ⟨r, a, b.ext he⟩
  · rename_i hk
    split at h
    · exact absurd rfl (hk _)
    · exact h
theorem Shaped.ext {L L' : List Pl} (he : Ext L L') {i : Nat} {p p' : Pl} (ht : p'.t = p.t) (hn : p'.nx = p.nx) {sh : Vs} (h : Shaped L i p sh) : Shaped L' i p' sh := by
  obtain ⟨h1, h2, h3, h4, h5, h6⟩ := h
  unfold Shaped
  rw [ht, hn]
  refine ⟨h1, fun c => ?_, fun c => ?_, fun c => (h4 c).ext he, fun c => (h5 c).ext he, h6⟩
  · obtain ⟨r, a, b⟩ := h2 c; exact ⟨r, a, b.ext he⟩
  · obtain ⟨l, a, b, c'⟩ := h3 c; exact ⟨l, a, b, fun q x y => (c' q x y).ext he⟩
theorem Leads.le {L : List Pl} : ∀ {l : List Pat} {r n : Nat}, Leads L r l n → n ≤ L.length → r ≤ L.length
  | [], _, _, h, hn => by rw [show _ = _ from h]; exact hn
  | _ :: _, _, _, ⟨j, p, h1, h2, _, _⟩, _ => by have := (List.getElem?_eq_some_iff.1 h2).1; omega
/-- from the ref r at k a text of all that follows ends at j -/
inductive Path (s : ByteArray) (D : Nat) (L : List Pl) : Nat → Nat → Nat → Prop
  | fin (k : Nat) : Path s D L 0 k k
  | via {i k m j : Nat} {p : Pl} (h : L[i]? = some p) (hm : Mt s D p.t k m) (hp : Path s D L p.nx m j) : Path s D L (i + 1) k j
/-- each place leads to an earlier one -/
def Ord (L : List Pl) : Prop := ∀ (i : Nat) (p : Pl), L[i]? = some p → p.nx ≤ i
theorem Path.back {s : ByteArray} {D : Nat} {L L' : List Pl} (ho : Ord L) (he : Ext L L') {r k j : Nat} (h : Path s D L' r k j) : r ≤ L.length → Path s D L r k j := by
  induction h with
  | fin k => intro _; exact .fin k
  | @via i k m j p' h hm _ ih =>
    intro hr
    obtain ⟨p, hp⟩ : ∃ p, L[i]? = some p := ⟨L[i], List.getElem?_eq_getElem (by omega)⟩
    obtain ⟨q, g1, g2, g3⟩ := he i p hp
    rw [h] at g1; cases g1
    have hi := ho i p hp
    have hil := (List.getElem?_eq_some_iff.1 hp).1
    refine .via hp (by rw [← g2]; exact hm) ?_
    rw [← g3]
    exact ih (by rw [g3]; omega)
theorem path_leads {s : ByteArray} {D : Nat} {L : List Pl} : ∀ {l : List Pat} {r n k j : Nat}, Leads L r l n → Path s D L r k j → ∃ m, SeqR (Mt s D) l k m ∧ Path s D L n m j
  | [], _, _, k, _, h, hp => ⟨k, rfl, by rw [← show _ = _ from h]; exact hp⟩
  | t :: ks, _, _, _, _, ⟨i, p, h1, h2, h3, h4⟩, hp => by
    subst h1
    cases hp with
    | via h hm hp' =>
      rw [h] at h2; cases h2
      obtain ⟨m, g1, g2⟩ := path_leads h4 hp'
      exact ⟨m, ⟨_, by rw [← h3]; exact hm, g1⟩, g2⟩
section
variable {s : ByteArray} {D : Nat} {L : List Pl} {i : Nat} {p : Pl}
theorem stepM_star {t : Pat} {R : Pat → Nat → Nat → Prop} {k : Pat} (h : t.x.op = 4) (hk : t.kids = [k]) (a b : Nat) : StepM s R t a b ↔ Rtc (R k) a b := by
  unfold StepM; rw [if_neg (by omega), if_neg (by omega), if_neg (by omega), if_pos h, hk]
theorem stepM_maybe {t : Pat} {R : Pat → Nat → Nat → Prop} {k : Pat} (h : t.x.op = 5) (hk : t.kids = [k]) (a b : Nat) : StepM s R t a b ↔ (a = b ∨ R k a b) := by
  unfold StepM; rw [if_neg (by omega), if_neg (by omega), if_neg (by omega), if_neg (by omega), if_pos h, hk]
theorem stepM_skip {t : Pat} {R : Pat → Nat → Nat → Prop} (h : t.x.op = 4 ∨ t.x.op = 5) (hk : ∀ k, t.kids ≠ [k]) (a b : Nat) : StepM s R t a b ↔ a = b := by
  unfold StepM
  rcases h with h | h
  · rw [if_neg (by omega), if_neg (by omega), if_neg (by omega), if_pos h]
    split
    · rename_i k e; exact absurd e (hk k)
    · exact Iff.rfl
  · rw [if_neg (by omega), if_neg (by omega), if_neg (by omega), if_neg (by omega), if_pos h]
    split
    · rename_i k e; exact absurd e (hk k)
    · exact Iff.rfl
theorem stepM_seq {t : Pat} {R : Pat → Nat → Nat → Prop} (h : t.x.op = 2) (a b : Nat) : StepM s R t a b ↔ SeqR R t.kids a b := by
  unfold StepM; rw [if_neg (by omega), if_pos h]
theorem stepM_alt {t : Pat} {R : Pat → Nat → Nat → Prop} (h : t.x.op = 3) (a b : Nat) : StepM s R t a b ↔ ∃ k, k ∈ t.kids ∧ R k a b := by
  unfold StepM; rw [if_neg (by omega), if_neg (by omega), if_pos h]
theorem stepM_chars {t : Pat} {R : Pat → Nat → Nat → Prop} (h : t.x.op = 1) (a b : Nat) : StepM s R t a b ↔ ChAt s t.x.text a ∧ b = a + 1 := by
  unfold StepM; rw [if_pos h]
theorem stepM_other {t : Pat} {R : Pat → Nat → Nat → Prop} (h1 : t.x.op ≠ 1) (h2 : t.x.op ≠ 2) (h3 : t.x.op ≠ 3) (h4 : t.x.op ≠ 4) (h5 : t.x.op ≠ 5) (a b : Nat) : ¬ StepM s R t a b := by
  unfold StepM; rw [if_neg h1, if_neg h2, if_neg h3, if_neg h4, if_neg h5]; exact id
theorem op_cases (n : Int) : n = 1 ∨ n = 2 ∨ n = 3 ∨ n = 4 ∨ n = 5 ∨ (n ≠ 1 ∧ n ≠ 2 ∧ n ≠ 3 ∧ n ≠ 4 ∧ n ≠ 5) := by omega
theorem sound_wait (hp : L[i]? = some p) (hd : DeepL p.e p.t.kids) (he : p.e ≤ D) (h1 : p.t.x.op = 1) {k j : Nat} (hc : ChAt s p.t.x.text k) (hq : Path s D L p.nx (k + 1) j) : Path s D L (i + 1) k j :=
  .via hp (by rw [m_step s hd he]; exact (stepM_chars h1 _ _).2 ⟨hc, rfl⟩) hq
theorem sound_ways (hp : L[i]? = some p) (hd : DeepL p.e p.t.kids) (he : p.e ≤ D) {l : List Nat} (hs : Shaped L i p (.ways l)) {r k j : Nat} (hr : r ∈ l) (hq : Path s D L r k j) : Path s D L (i + 1) k j := by
  have hM := m_step s hd he
  have skip : ∀ m, Path s D L p.nx m j → Mt s D p.t k m → Path s D L (i + 1) k j := fun m a b => .via hp b a
  have tries : ∀ b, Tries L p.t.kids b p.nx (.ways l) → (∀ k', p.t.kids = [k'] → ∀ m, Mt s D k' k m → Path s D L b m j → Path s D L (i + 1) k j) → (Mt s D p.t k k) → Path s D L (i + 1) k j := fun b ht hk h0 => by
    unfold Tries at ht
    split at ht
    · rename_i k' e
      obtain ⟨r', e', hl⟩ := ht
      cases e'
      rcases List.mem_cons.1 hr with rfl | hr
      · obtain ⟨m, ⟨m', g1, g2⟩, g3⟩ := path_leads hl hq
        have g2' : m' = m := g2
        subst g2'
        exact hk k' e m' g1 g3
      · rw [List.mem_singleton.1 hr] at hq; exact skip k hq h0
    · cases ht
      rw [List.mem_singleton.1 hr] at hq; exact skip k hq h0
  obtain ⟨c1, c2, c3, c4, c5, c6⟩ := hs
  rcases op_cases p.t.x.op with h | h | h | h | h | ⟨h1, h2, h3, h4, h5⟩
  · cases c1 h
  · obtain ⟨r', e', hl⟩ := c2 h
    cases e'
    rw [List.mem_singleton.1 hr] at hq
    obtain ⟨m, g1, g2⟩ := path_leads hl hq
    exact skip m g2 (by rw [hM]; exact (stepM_seq h _ _).2 g1)
  · obtain ⟨l', e', hl, hL⟩ := c3 h
    cases e'
    obtain ⟨q, hq1, rfl⟩ := List.getElem_of_mem hr
    obtain ⟨m, ⟨m', g1, g2⟩, g3⟩ := path_leads (hL q hq1 (by omega)) hq
    have g2' : m' = m := g2
    subst g2'
    exact skip m' g3 (by rw [hM]; exact (stepM_alt h _ _).2 ⟨_, List.getElem_mem (by omega), g1⟩)
  · refine tries (i + 1) (c4 h) (fun k' e m g1 g3 => ?_) (by
      rw [hM]
      by_cases hk : ∃ k', p.t.kids = [k']
      · obtain ⟨k', hk⟩ := hk; exact (stepM_star h hk _ _).2 (.refl _)
      · exact (stepM_skip (.inl h) (fun k' hh => hk ⟨k', hh⟩) _ _).2 rfl)
    cases g3 with
    | via hp' hm' hp'' =>
      rw [hp] at hp'; cases hp'
      refine skip _ hp'' ?_
      rw [hM] at hm' ⊢
      exact (stepM_star h e _ _).2 (.step g1 ((stepM_star h e _ _).1 hm'))
  · refine tries p.nx (c5 h) (fun k' e m g1 g3 => skip m g3 (by rw [hM]; exact (stepM_maybe h e _ _).2 (.inr g1))) (by
      rw [hM]
      by_cases hk : ∃ k', p.t.kids = [k']
      · obtain ⟨k', hk⟩ := hk; exact (stepM_maybe h hk _ _).2 (.inl rfl)
      · exact (stepM_skip (.inr h) (fun k' hh => hk ⟨k', hh⟩) _ _).2 rfl)
  · have := c6 h1 h2 h3 h4 h5
    cases this
    cases hr
/-- what is called is closed: what a called place does has been done -/
def Closed (s : ByteArray) (L : List Pl) (H : Nat → Nat → Prop) : Prop := ∀ (i : Nat) (p : Pl) (k : Nat), L[i]? = some p → H (i + 1) k → ∃ sh, Shaped L i p sh ∧ (sh = .wait → ChAt s p.t.x.text k → H p.nx (k + 1)) ∧ (∀ l, sh = .ways l → ∀ r, r ∈ l → H r k)
theorem leads_compl {H : Nat → Nat → Prop} {R : Pat → Nat → Nat → Prop} : ∀ {l : List Pat} {r n k m : Nat}, (∀ t, t ∈ l → ∀ j q k m, L[j]? = some q → q.t = t → R t k m → H (j + 1) k → H q.nx m) → Leads L r l n → SeqR R l k m → H r k → H n m
  | [], _, _, _, _, _, hl, hs, h => by rw [← show _ = _ from hl, ← show _ = _ from hs]; exact h
  | t :: ks, _, _, _, _, ih, ⟨j, q, h1, h2, h3, h4⟩, ⟨k', g1, g2⟩, h => by
    subst h1
    exact leads_compl (fun t ht => ih t (by simp [ht])) h4 g2 (ih t (by simp) j q _ _ h2 h3 g1 h)
theorem compl_step {H : Nat → Nat → Prop} {R : Pat → Nat → Nat → Prop} (hc : Closed s L H) (i : Nat) (p : Pl) (k m : Nat) (hp : L[i]? = some p)
    (ih : ∀ t, t ∈ p.t.kids → ∀ j q k m, L[j]? = some q → q.t = t → R t k m → H (j + 1) k → H q.nx m) (hm : StepM s R p.t k m) (hh : H (i + 1) k) : H p.nx m := by
  have tries : ∀ b a, Tries L p.t.kids b p.nx a → ∀ q, (∀ l, a = .ways l → ∀ r, r ∈ l → H r q) → H p.nx q ∧ ∀ k' m', p.t.kids = [k'] → R k' q m' → H b m' := fun b a ht q hw => by
    unfold Tries at ht
    split at ht
    · rename_i k' e
      obtain ⟨r, rfl, hl⟩ := ht
      refine ⟨hw _ rfl _ (by simp), fun k'' m' e' hr => ?_⟩
      obtain rfl : k' = k'' := by rw [e] at e'; cases e'; rfl
      exact leads_compl (l := [k']) (R := R) (fun t ht => ih t (by rw [e]; exact ht)) hl ⟨m', hr, rfl⟩ (hw _ rfl r (by simp))
    · rename_i hk
      subst ht
      exact ⟨hw _ rfl _ (by simp), fun k'' m' e' => absurd e' (hk k'')⟩
  rcases op_cases p.t.x.op with h | h | h | h | h | ⟨h1, h2, h3, h4, h5⟩
  · obtain ⟨sh, hs, hw, _⟩ := hc i p k hp hh
    obtain ⟨g1, rfl⟩ := (stepM_chars h _ _).1 hm
    exact hw (hs.1 h) g1
  · obtain ⟨sh, hs, _, hw⟩ := hc i p k hp hh
    obtain ⟨r, rfl, hl⟩ := hs.2.1 h
    exact leads_compl ih hl ((stepM_seq h _ _).1 hm) (hw _ rfl r (by simp))
  · obtain ⟨sh, hs, _, hw⟩ := hc i p k hp hh
    obtain ⟨l, rfl, hl, hL⟩ := hs.2.2.1 h
    obtain ⟨t, ht, hr⟩ := (stepM_alt h _ _).1 hm
    obtain ⟨q, hq, rfl⟩ := List.getElem_of_mem ht
    exact leads_compl (l := [p.t.kids[q]]) (R := R) (fun t ht => ih t (by rw [List.mem_singleton.1 ht]; exact List.getElem_mem hq)) (hL q (by omega) hq) ⟨m, hr, rfl⟩ (hw _ rfl _ (List.getElem_mem (by omega)))
  · have main : ∀ a b, (a = b ∨ ∃ k', p.t.kids = [k'] ∧ Rtc (R k') a b) → H (i + 1) a → H p.nx b := by
      rintro a b (rfl | ⟨k', hk, hr⟩) ha
      · obtain ⟨sh, hs, _, hw⟩ := hc i p a hp ha
        exact (tries _ _ (hs.2.2.2.1 h) a hw).1
      · induction hr with
        | refl a =>
          obtain ⟨sh, hs, _, hw⟩ := hc i p a hp ha
          exact (tries _ _ (hs.2.2.2.1 h) a hw).1
        | @step a b c hr _ ihr =>
          obtain ⟨sh, hs, _, hw⟩ := hc i p a hp ha
          exact ihr ((tries _ _ (hs.2.2.2.1 h) a hw).2 k' b hk hr)
    refine main k m ?_ hh
    by_cases hk : ∃ k', p.t.kids = [k']
    · obtain ⟨k', hk⟩ := hk; exact .inr ⟨k', hk, (stepM_star h hk _ _).1 hm⟩
    · exact .inl ((stepM_skip (.inl h) (fun k' hh => hk ⟨k', hh⟩) _ _).1 hm)
  · obtain ⟨sh, hs, _, hw⟩ := hc i p k hp hh
    have ht := tries _ _ (hs.2.2.2.2.1 h) k hw
    by_cases hk : ∃ k', p.t.kids = [k']
    · obtain ⟨k', hk⟩ := hk
      rcases (stepM_maybe h hk _ _).1 hm with rfl | hr
      · exact ht.1
      · exact ht.2 k' m hk hr
    · have e := (stepM_skip (.inr h) (fun k' hh => hk ⟨k', hh⟩) _ _).1 hm
      rw [← e]; exact ht.1
  · exact absurd hm (stepM_other h1 h2 h3 h4 h5 _ _)
theorem compl {H : Nat → Nat → Prop} (hc : Closed s L H) : ∀ (e i : Nat) (p : Pl) (k m : Nat), L[i]? = some p → DeepL e p.t.kids → Mt s e p.t k m → H (i + 1) k → H p.nx m
  | 0, i, p, k, m, hp, hd, hm, hh => compl_step hc i p k m hp (fun t ht => by rw [show p.t.kids = [] from hd] at ht; cases ht) hm hh
  | e + 1, i, p, k, m, hp, hd, hm, hh => compl_step hc i p k m hp (fun t ht j q k m hq e' hr hj => by subst e'; exact compl hc e j q k m hq (hd _ ht) hr hj) hm hh
end
/-- what is called at k only if a text of T leads there -/
def Good (s : ByteArray) (D : Nat) (T : Pat) (L : List Pl) (r k : Nat) : Prop := ∀ j, Path s D L r k j → Mt s D T 0 j
end Mac
end Go.Proofs.Ytdalobhomlfpiaa
