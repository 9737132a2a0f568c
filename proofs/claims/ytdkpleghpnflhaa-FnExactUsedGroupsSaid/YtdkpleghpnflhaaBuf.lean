/- MERGED for a claim: RngP Buf. -/
import Derived.Test.YtdkpleghpnflhaaBase
import Derived.Lib.BufSteps
import Derived.Laws.IdiomStrings
set_option linter.unusedVariables false
set_option linter.unusedSimpArgs false
/- CHAPTER 4, PLAIN MATHEMATICS: ranges, normal lists of ranges, the one normal list that has the same numbers. No function is spoken of. -/
namespace Go.Proofs.Ytdkpleghpnflhaa

structure Rg where
  lo : Int
  hi : Int
namespace Rg
/-- could stand alone -/
def ok (x : Rg) : Prop := x.lo ≤ x.hi ∧ -1000000000 ≤ x.lo ∧ x.hi ≤ 1000000000
instance (x : Rg) : Decidable x.ok := by unfold ok; infer_instance
/-- has the number -/
def In (x : Rg) (n : Int) : Prop := x.lo ≤ n ∧ n ≤ x.hi
def cup (x y : Rg) : Rg := ⟨min x.lo y.lo, max x.hi y.hi⟩
/-- all of x stands before y, apart -/
def bef (x y : Rg) : Prop := x.hi + 1 < y.lo
end Rg
/-- the number is in one of the ranges -/
def Mem (l : List Rg) (n : Int) : Prop := ∃ x ∈ l, x.In n
/-- ascending, apart, each with numbers of the system -/
def Nrm (l : List Rg) : Prop := l.Pairwise Rg.bef ∧ ∀ x ∈ l, x.ok
theorem mem_nil (n : Int) : ¬ Mem [] n := fun ⟨x, h, _⟩ => by cases h
theorem mem_cons (x : Rg) (l : List Rg) (n : Int) : Mem (x :: l) n ↔ x.In n ∨ Mem l n := by
  constructor
  · rintro ⟨y, hy, h⟩
    rcases List.mem_cons.1 hy with rfl | hy
    · exact .inl h
    · exact .inr ⟨y, hy, h⟩
  · rintro (h | ⟨y, hy, h⟩)
    · exact ⟨x, List.mem_cons_self, h⟩
    · exact ⟨y, List.mem_cons_of_mem _ hy, h⟩
theorem mem_append (a b : List Rg) (n : Int) : Mem (a ++ b) n ↔ Mem a n ∨ Mem b n := by
  induction a with
  | nil => simp [mem_nil]
  | cons x r ih => rw [List.cons_append, mem_cons, mem_cons, ih, or_assoc]
theorem mem_one (x : Rg) (n : Int) : Mem [x] n ↔ x.In n := by rw [mem_cons]; simp [mem_nil]
theorem nrm_cons {x : Rg} {l : List Rg} (h : Nrm (x :: l)) : x.ok ∧ (∀ y ∈ l, x.bef y) ∧ Nrm l := by
  obtain ⟨h1, h2⟩ := List.pairwise_cons.1 h.1
  exact ⟨h.2 x List.mem_cons_self, h1, h2, fun y hy => h.2 y (List.mem_cons_of_mem _ hy)⟩
/-- a number of a normal list is not below the first range's begin; nothing lies just behind the first -/
theorem nrm_low {x : Rg} {l : List Rg} (h : Nrm (x :: l)) {n : Int} (hm : Mem (x :: l) n) : x.lo ≤ n := by
  obtain ⟨h1, h2, _⟩ := nrm_cons h
  rcases (mem_cons x l n).1 hm with h | ⟨y, hy, h⟩
  · exact h.1
  · have := h2 y hy; unfold Rg.bef at this; have := h1.1; have := h.1; omega
theorem nrm_gap {x : Rg} {l : List Rg} (h : Nrm (x :: l)) : ¬ Mem (x :: l) (x.hi + 1) := by
  obtain ⟨h1, h2, _⟩ := nrm_cons h
  intro hm
  rcases (mem_cons x l _).1 hm with h | ⟨y, hy, h⟩
  · have := h.2; omega
  · have := h2 y hy; unfold Rg.bef at this; have := h.1; omega
theorem nrm_tail {x : Rg} {l : List Rg} (h : Nrm (x :: l)) (n : Int) : Mem l n ↔ Mem (x :: l) n ∧ x.hi < n := by
  obtain ⟨h1, h2, _⟩ := nrm_cons h
  constructor
  · rintro ⟨y, hy, h⟩
    refine ⟨⟨y, List.mem_cons_of_mem _ hy, h⟩, ?_⟩
    have := h2 y hy; unfold Rg.bef at this; have := h.1; omega
  · rintro ⟨hm, hlt⟩
    rcases (mem_cons x l n).1 hm with h | h
    · have := h.2; omega
    · exact h
/-- THE ONE NORMAL LIST -/
theorem nrm_unique : ∀ {a b : List Rg}, Nrm a → Nrm b → (∀ n, Mem a n ↔ Mem b n) → a = b
  | [], [], _, _, _ => rfl
  | [], y :: b, _, hb, h => absurd ((h y.lo).2 ((mem_cons _ _ _).2 (.inl ⟨Int.le_refl _, (nrm_cons hb).1.1⟩))) (mem_nil _)
  | x :: a, [], ha, _, h => absurd ((h x.lo).1 ((mem_cons _ _ _).2 (.inl ⟨Int.le_refl _, (nrm_cons ha).1.1⟩))) (mem_nil _)
  | x :: a, y :: b, ha, hb, h => by
    have x1 : Mem (x :: a) x.lo := (mem_cons _ _ _).2 (.inl ⟨Int.le_refl _, (nrm_cons ha).1.1⟩)
    have y1 : Mem (y :: b) y.lo := (mem_cons _ _ _).2 (.inl ⟨Int.le_refl _, (nrm_cons hb).1.1⟩)
    have l1 := nrm_low hb ((h _).1 x1)
    have l2 := nrm_low ha ((h _).2 y1)
    have g1 := fun hm => nrm_gap ha ((h _).2 hm)
    have g2 := fun hm => nrm_gap hb ((h _).1 hm)
    have xo := (nrm_cons ha).1.1
    have yo := (nrm_cons hb).1.1
    have e1 : x.lo = y.lo := by omega
    have e2 : x.hi = y.hi := by
      rcases Int.lt_trichotomy x.hi y.hi with hl | he | hg
      · exact absurd ((mem_cons _ _ _).2 (.inl ⟨by omega, by omega⟩)) g1
      · exact he
      · exact absurd ((mem_cons _ _ _).2 (.inl ⟨by omega, by omega⟩)) g2
    obtain ⟨xl, xh⟩ := x
    obtain ⟨yl, yh⟩ := y
    simp only at e1 e2
    subst e1; subst e2
    rw [nrm_unique (nrm_cons ha).2.2 (nrm_cons hb).2.2 fun n => by rw [nrm_tail ha, nrm_tail hb, h n]]
/-- the numbers of the ranges that could stand alone -/
def MemOk (l : List Rg) (n : Int) : Prop := ∃ x ∈ l, x.ok ∧ x.In n
theorem memOk_snoc (l : List Rg) (x : Rg) (n : Int) : MemOk (l ++ [x]) n ↔ MemOk l n ∨ (x.ok ∧ x.In n) := by
  unfold MemOk
  constructor
  · rintro ⟨y, hy, h⟩
    rcases List.mem_append.1 hy with hy | hy
    · exact .inl ⟨y, hy, h⟩
    · rw [List.mem_singleton.1 hy] at h; exact .inr h
  · rintro (⟨y, hy, h⟩ | h)
    · exact ⟨y, List.mem_append_left _ hy, h⟩
    · exact ⟨x, by simp, h⟩
/-- L is what NormalRanges makes of l -/
def IsNrm (l L : List Rg) : Prop := Nrm L ∧ (∀ n, Mem L n ↔ MemOk l n) ∧ L.length ≤ l.length
theorem IsNrm.one {l a b : List Rg} (ha : IsNrm l a) (hb : IsNrm l b) : a = b := nrm_unique ha.1 hb.1 fun n => by rw [ha.2.1 n, hb.2.1 n]

/-- one range put into a normal list: what has been passed over on the left and on the right, and what the range has grown to -/
structure Split (P : List Rg) (x0 : Rg) (a : List Rg) (x : Rg) (b : List Rg) : Prop where
  na : Nrm a
  nb : Nrm b
  okx : x.ok
  ax : ∀ y ∈ a, y.bef x
  xb : ∀ y ∈ b, x.bef y
  mem : ∀ n, (Mem a n ∨ x.In n ∨ Mem b n) ↔ (Mem P n ∨ x0.In n)
  len : a.length + b.length ≤ P.length
  past : ∀ q, q.ok → (∀ p ∈ P, p.bef q) → (∀ y ∈ a, y.bef q) ∧ (∀ y ∈ b, y.bef q)
theorem Split.start {x0 : Rg} (h : x0.ok) : Split [] x0 [] x0 [] :=
  ⟨⟨.nil, by simp⟩, ⟨.nil, by simp⟩, h, by simp, by simp, fun n => by simp [mem_nil], by simp, by simp⟩
theorem nrm_snoc {a : List Rg} {y : Rg} (h : Nrm a) (hy : y.ok) (hb : ∀ z ∈ a, z.bef y) : Nrm (a ++ [y]) := by
  refine ⟨List.pairwise_append.2 ⟨h.1, List.pairwise_singleton _ _, fun z hz w hw => by rw [List.mem_singleton.1 hw]; exact hb z hz⟩, fun z hz => ?_⟩
  rcases List.mem_append.1 hz with hz | hz
  · exact h.2 z hz
  · rw [List.mem_singleton.1 hz]; exact hy
theorem bef_trans {x y q : Rg} (h1 : x.bef y) (hy : y.ok) (h2 : y.bef q) : x.bef q := by unfold Rg.bef Rg.ok at *; omega
section
variable {P a b : List Rg} {x0 x y : Rg}
theorem Split.left (h : Split P x0 a x b) (hy : y.ok) (hP : ∀ p ∈ P, p.bef y) (hl : y.hi + 1 < x.lo) : Split (P ++ [y]) x0 (a ++ [y]) x b where
  na := nrm_snoc h.na hy (h.past y hy hP).1
  nb := h.nb
  okx := h.okx
  ax z hz := by
    rcases List.mem_append.1 hz with hz | hz
    · exact h.ax z hz
    · rw [List.mem_singleton.1 hz]; exact hl
  xb := h.xb
  mem n := by rw [mem_append, mem_append, mem_one]; have := h.mem n; grind
  len := by have := h.len; simp; omega
  past q hq hp := by
    have hyq : y.bef q := hp y (by simp)
    have h1 := h.past q hq fun p hp' => hp p (List.mem_append_left _ hp')
    refine ⟨fun z hz => ?_, h1.2⟩
    rcases List.mem_append.1 hz with hz | hz
    · exact h1.1 z hz
    · rw [List.mem_singleton.1 hz]; exact hyq
theorem Split.right (h : Split P x0 a x b) (hy : y.ok) (hP : ∀ p ∈ P, p.bef y) (hr : x.hi + 1 < y.lo) : Split (P ++ [y]) x0 a x (b ++ [y]) where
  na := h.na
  nb := nrm_snoc h.nb hy (h.past y hy hP).2
  okx := h.okx
  ax := h.ax
  xb z hz := by
    rcases List.mem_append.1 hz with hz | hz
    · exact h.xb z hz
    · rw [List.mem_singleton.1 hz]; exact hr
  mem n := by rw [mem_append, mem_append, mem_one]; have := h.mem n; grind
  len := by have := h.len; simp; omega
  past q hq hp := by
    have hyq : y.bef q := hp y (by simp)
    have h1 := h.past q hq fun p hp' => hp p (List.mem_append_left _ hp')
    refine ⟨h1.1, fun z hz => ?_⟩
    rcases List.mem_append.1 hz with hz | hz
    · exact h1.2 z hz
    · rw [List.mem_singleton.1 hz]; exact hyq
theorem cup_ok (hx : x.ok) (hy : y.ok) : (x.cup y).ok := by unfold Rg.ok Rg.cup at *; simp only; omega
theorem cup_in (hl : ¬ y.hi + 1 < x.lo) (hr : ¬ x.hi + 1 < y.lo) (n : Int) : (x.cup y).In n ↔ (x.In n ∨ y.In n) := by
  unfold Rg.In Rg.cup; simp only; omega
theorem Split.both (h : Split P x0 a x b) (hy : y.ok) (hP : ∀ p ∈ P, p.bef y) (hl : ¬ y.hi + 1 < x.lo) (hr : ¬ x.hi + 1 < y.lo) : Split (P ++ [y]) x0 a (x.cup y) b where
  na := h.na
  nb := h.nb
  okx := cup_ok h.okx hy
  ax z hz := by
    have h1 := h.ax z hz
    have h2 := (h.past y hy hP).1 z hz
    unfold Rg.bef Rg.cup at *; simp only; omega
  xb z hz := by
    have h1 := h.xb z hz
    have h2 := (h.past y hy hP).2 z hz
    have h3 := hy.1
    have h4 := (h.nb.2 z hz).1
    unfold Rg.bef Rg.cup at *; simp only; omega
  mem n := by rw [cup_in hl hr, mem_append, mem_one]; have := h.mem n; grind
  len := by have := h.len; simp; omega
  past q hq hp := h.past q hq fun p hp' => hp p (List.mem_append_left _ hp')
/-- all of them passed over -/
theorem Split.done (h : Split P x0 a x b) : Nrm (a ++ [x] ++ b) ∧ (∀ n, Mem (a ++ [x] ++ b) n ↔ Mem P n ∨ x0.In n) ∧ (a ++ [x] ++ b).length ≤ P.length + 1 := by
  refine ⟨⟨List.pairwise_append.2 ⟨(nrm_snoc h.na h.okx h.ax).1, h.nb.1, fun y hy z hz => ?_⟩, fun y hy => ?_⟩, fun n => ?_, by have := h.len; simp; omega⟩
  · rcases List.mem_append.1 hy with hy | hy
    · exact bef_trans (h.ax y hy) h.okx (h.xb z hz)
    · rw [List.mem_singleton.1 hy]; exact h.xb z hz
  · rcases List.mem_append.1 hy with hy | hy
    · exact (nrm_snoc h.na h.okx h.ax).2 y hy
    · exact h.nb.2 y hy
  · rw [mem_append, mem_append, mem_one, or_assoc]; exact h.mem n
end
theorem nrm_get {l : List Rg} (h : Nrm l) {i : Nat} (hi : i < l.length) : l[i].ok ∧ ∀ p ∈ l.take i, p.bef l[i] := by
  refine ⟨h.2 _ (List.getElem_mem hi), fun p hp => ?_⟩
  obtain ⟨j, hj, rfl⟩ := List.getElem_of_mem hp
  rw [List.length_take] at hj
  rw [List.getElem_take]
  exact (List.pairwise_iff_getElem.1 h.1) j i (by omega) hi (by omega)
theorem Split.all {x0 : Rg} (h0 : x0.ok) : ∀ {L P : List Rg} {a b : List Rg} {x : Rg}, Split P x0 a x b → Nrm (P ++ L) → ∃ a' x' b', Split (P ++ L) x0 a' x' b'
  | [], P, a, b, x, h, _ => ⟨a, x, b, by rw [List.append_nil]; exact h⟩
  | y :: L, P, a, b, x, h, hn => by
    have hy : y.ok := hn.2 y (by simp)
    have hP : ∀ p ∈ P, p.bef y := fun p hp => (List.pairwise_append.1 hn.1).2.2 p hp y (by simp)
    have e : P ++ y :: L = (P ++ [y]) ++ L := by simp
    rw [e] at hn ⊢
    by_cases hl : y.hi + 1 < x.lo
    · exact Split.all h0 (h.left hy hP hl) hn
    · by_cases hr : x.hi + 1 < y.lo
      · exact Split.all h0 (h.right hy hP hr) hn
      · exact Split.all h0 (h.both hy hP hl hr) hn
theorem isNrm_nil : IsNrm [] [] := ⟨⟨.nil, by simp⟩, fun n => by simp [mem_nil, MemOk], by simp⟩
theorem IsNrm.put {l L a b : List Rg} {x0 x : Rg} (h : IsNrm l L) (hs : Split L x0 a x b) (ho : x0.ok) : IsNrm (l ++ [x0]) (a ++ [x] ++ b) := by
  obtain ⟨h1, h2, h3⟩ := hs.done
  refine ⟨h1, fun n => ?_, by have := h.2.2; simp at h3 ⊢; omega⟩
  rw [h2, memOk_snoc, h.2.1 n]
  simp [ho]
theorem IsNrm.skip {l L : List Rg} {x0 : Rg} (h : IsNrm l L) (ho : ¬ x0.ok) : IsNrm (l ++ [x0]) L := by
  refine ⟨h.1, fun n => ?_, by have := h.2.2; simp; omega⟩
  rw [memOk_snoc, h.2.1 n]
  simp [ho]

theorem isNrm_exists (l : List Rg) : ∃ L, IsNrm l L := by
  have key : ∀ (m : List Rg), ∃ L, IsNrm m.reverse L := fun m => by
    induction m with
    | nil => exact ⟨[], isNrm_nil⟩
    | cons x r ih =>
      obtain ⟨L, hL⟩ := ih
      rw [List.reverse_cons]
      by_cases ho : x.ok
      · obtain ⟨a, y, b, hs⟩ := Split.all ho (Split.start ho) (L := L) (by simpa using hL.1)
        exact ⟨_, hL.put (by simpa using hs) ho⟩
      · exact ⟨L, hL.skip ho⟩
  have := key l.reverse
  rwa [List.reverse_reverse] at this
/-- what NormalRanges makes of l -/
noncomputable def normS (l : List Rg) : List Rg := Classical.choose (isNrm_exists l)
theorem normS_is (l : List Rg) : IsNrm l (normS l) := Classical.choose_spec (isNrm_exists l)
theorem IsNrm.eq {l L : List Rg} (h : IsNrm l L) : L = normS l := h.one (normS_is l)
theorem normS_length (l : List Rg) : (normS l).length ≤ l.length := (normS_is l).2.2
def Rg.cap (x y : Rg) : Rg := ⟨max x.lo y.lo, min x.hi y.hi⟩
/-- all that is in common, one of a and one of b -/
def meets (a b : List Rg) : List Rg := a.flatMap fun x => b.map x.cap
noncomputable def meetS (a b : List Rg) : List Rg := if a.length = 0 then normS b else if b.length = 0 then normS a else normS (meets a b)
theorem meets_length (a b : List Rg) : (meets a b).length = a.length * b.length := by
  unfold meets
  induction a with
  | nil => simp
  | cons x r ih => rw [List.flatMap_cons, List.length_append, ih, List.length_map, List.length_cons, Nat.succ_mul]; omega

/-- ranges joined from behind, as they come in the order of their begins -/
structure Joined (P J : List Rg) : Prop where
  nj : Nrm J
  mem : ∀ n, Mem J n ↔ Mem P n
  len : J.length ≤ P.length
  low : ∀ y ∈ J, ∃ p ∈ P, p.lo = y.lo
theorem Joined.start : Joined [] [] := ⟨⟨.nil, by simp⟩, fun n => Iff.rfl, by simp, by simp⟩
theorem Joined.add {P J : List Rg} {r : Rg} (h : Joined P J) (hr : r.ok) (hJ : ∀ y ∈ J, y.bef r) : Joined (P ++ [r]) (J ++ [r]) where
  nj := nrm_snoc h.nj hr hJ
  mem n := by rw [mem_append, mem_append, h.mem n]
  len := by have := h.len; simp; omega
  low y hy := by
    rcases List.mem_append.1 hy with hy | hy
    · obtain ⟨p, h1, h2⟩ := h.low y hy; exact ⟨p, List.mem_append_left _ h1, h2⟩
    · rw [List.mem_singleton.1 hy]; exact ⟨r, by simp, rfl⟩
/-- the last one does not reach the next: none does -/
theorem Joined.far {P K : List Rg} {z r : Rg} (h : Joined P (K ++ [z])) (hz : ¬ r.lo ≤ z.hi + 1) : ∀ y ∈ K ++ [z], y.bef r := fun y hy => by
  rcases List.mem_append.1 hy with hy | hy
  · have h1 := (List.pairwise_append.1 h.nj.1).2.2 y hy z (by simp)
    exact bef_trans h1 (h.nj.2 z (by simp)) (by unfold Rg.bef; omega)
  · rw [List.mem_singleton.1 hy]; unfold Rg.bef; omega
theorem Joined.grow {P K : List Rg} {z r : Rg} (h : Joined P (K ++ [z])) (hr : r.ok) (hP : ∀ p ∈ P, p.lo ≤ r.lo) (hz : r.lo ≤ z.hi + 1) : Joined (P ++ [r]) (K ++ [⟨z.lo, max z.hi r.hi⟩]) := by
  have hzo : z.ok := h.nj.2 z (by simp)
  have hzr : z.lo ≤ r.lo := by
    obtain ⟨p, hp, he⟩ := h.low z (by simp)
    have := hP p hp; omega
  have hp := List.pairwise_append.1 h.nj.1
  refine ⟨nrm_snoc ⟨hp.1, fun y hy => h.nj.2 y (List.mem_append_left _ hy)⟩ (by unfold Rg.ok at *; simp only; omega) (fun y hy => ?_), fun n => ?_, by have := h.len; simp at this ⊢; omega, fun y hy => ?_⟩
  · have := hp.2.2 y hy z (by simp); unfold Rg.bef at *; exact this
  · have h1 := h.mem n
    rw [mem_append, mem_one] at h1 ⊢
    rw [mem_append, mem_one, ← h1]
    have : (⟨z.lo, max z.hi r.hi⟩ : Rg).In n ↔ (z.In n ∨ r.In n) := by unfold Rg.ok Rg.In at *; simp only; omega
    rw [this, or_assoc]
  · rcases List.mem_append.1 hy with hy | hy
    · obtain ⟨p, h1, h2⟩ := h.low y (List.mem_append_left _ hy); exact ⟨p, List.mem_append_left _ h1, h2⟩
    · rw [List.mem_singleton.1 hy]
      obtain ⟨p, h1, h2⟩ := h.low z (by simp)
      exact ⟨p, List.mem_append_left _ h1, h2⟩
/-- joined behind the sorting: what NormalRanges makes -/
theorem Joined.isNrm {l S J : List Rg} (h : Joined S J) (hp : S.Perm (l.filter fun x => decide x.ok)) : IsNrm l J := by
  refine ⟨h.nj, fun n => ?_, ?_⟩
  · rw [h.mem n]
    constructor
    · rintro ⟨x, hx, hn⟩
      have := (hp.mem_iff).1 hx
      simp at this
      exact ⟨x, this.1, this.2, hn⟩
    · rintro ⟨x, hx, ho, hn⟩
      exact ⟨x, (hp.mem_iff).2 (by simp [hx, ho]), hn⟩
  · have h1 := h.len
    rw [hp.length_eq] at h1
    exact Nat.le_trans h1 (List.length_filter_le _ _)
end Go.Proofs.Ytdkpleghpnflhaa

/- A LIST OF BYTES THAT A CALL BUILDS BY APPEND, AND THE TEXT THAT IS MADE OF IT. No function is spoken of. -/
namespace Go.Proofs.Ytdkpleghpnflhaa
open Go.RowKit

def u8v (c : UInt8) : Value := .int .u8 (c.toNat : Int)
theorem infoU8 : (Try.prog.info? 5).map (fun i => (i.zero, i.size, i.bytes)) = some (some (.int .u8 0), 1, 1) := by kernel_rfl
/-- in w the slice v, the call's own (in a block from B on), holds the bytes l; below B nothing has turned since W0 -/
def Buf (B : Nat) (v : Value) (l : List UInt8) (W0 w : World) : Prop := Lib.OwnBuf B 5 v l.length (l.map u8v) W0 w
theorem Buf.alloc {B : Nat} {v : Value} {l : List UInt8} {W0 w : World} (h : Buf B v l W0 w) (o : Obj) : Buf B v l W0 (w.alloc o) := Lib.OwnBuf.alloc h o
theorem Buf.drewN {B : Nat} {v : Value} {l : List UInt8} {W0 w : World} (h : Buf B v l W0 w) (q : Nat) : Buf B v l W0 (w.drewN q) := Lib.OwnBuf.drewN h q
theorem Buf.below {B : Nat} {v : Value} {l : List UInt8} {W0 w : World} (h : Buf B v l W0 w) : Below B W0 w := h.2.1
/-- '[]byte{}' -/
theorem buf_none {w0 w : World} (h : Below w0.heap.size w0 w) : Buf w0.heap.size (.slice (some ⟨w.heap.size, 0, none⟩) 0 0) [] w0 (w.alloc (.cells #[] 5)) :=
  ⟨⟨rfl, .inr ⟨w.heap.size, 0, #[], (0, 0), rfl, h.size, heap_alloc_new w _, by simp, by simp, by simp, rfl, rfl⟩⟩, h.alloc h.size _, (h.alloc h.size _).size⟩
/-- '[]byte{c}' -/
theorem buf_one {w0 w : World} (h : Below w0.heap.size w0 w) (b : UInt8) {c : Int} (hc : (b.toNat : Int) = c) : Buf w0.heap.size (.slice (some ⟨w.heap.size, 0, none⟩) 1 1) [b] w0 (w.alloc (.cells #[.int .u8 c] 5)) :=
  ⟨⟨rfl, .inr ⟨w.heap.size, 1, #[.int .u8 c], (0, 0), rfl, h.size, heap_alloc_new w _, by simp, by simp, by unfold maxLen; omega, rfl, by subst hc; rfl⟩⟩, h.alloc h.size _, (h.alloc h.size _).size⟩
/-- 'buf = append(buf, c)' -/
theorem buf_append {ops : Array Oper} {rest : List Oper} {o : Oper} {a : Act} {Q : Exit → Act → World → Prop} (hgd : o.guard = none) (s x : Operand)
    (ho : o.op = .call { callee := .builtin .append, args := #[s, x], argTypes := #[104, 104] })
    (B : Nat) (v : Value) (l : List UInt8) (hs : a.eval s = v) (W0 w0 : World) (c : Int) (hb : Buf B v l W0 w0)
    (hx : a.eval x = .slice (some ⟨w0.heap.size, 0, none⟩) 1 1) (b : UInt8) (hc : (b.toNat : Int) = c) (hlen : l.length + 1 ≤ 140737488355328)
    (h : ∀ v' w', Buf B v' (l ++ [b]) W0 w' → wpList Try.prog ops Q rest (a.put o.dst v') w') : wpList Try.prog ops Q (o :: rest) a (w0.alloc (.cells #[.int .u8 c] 5)) := by
  obtain ⟨i0, hi, hz0, hz1, hz2⟩ := info_parts infoU8
  refine Lib.wpList_append_byte hgd s x 104 ho B 5 i0 Try.underlying104 hi hz0 hz1 hz2 v l.length (l.map u8v) hs W0 w0 c hb hx hlen ?_
  intro v' w' h'
  refine h v' w' ?_
  subst hc
  unfold Buf
  rw [List.length_append, List.map_append]
  exact h'
/-- 'string(buf)' -/
theorem buf_str {B : Nat} {v : Value} {l : List UInt8} {W0 w : World} (h : Buf B v l W0 w) : (convert 104 9 v).run Try.prog w = .ok (.string ⟨l.toArray⟩) w := by
  rcases h.1.2 with ⟨rfl, h0⟩ | ⟨g, cap, cur, fz, rfl, hrest⟩
  · have hl : l = [] := List.length_eq_zero_iff.1 h0
    subst hl
    rw [run_convert_bytes_string w 104 9 5 none 0 0 Try.underlying104 Try.underlying5 Try.underlying9]
    rfl
  · refine run_convert_bytes_back (P := Try.prog) w 104 9 5 ⟨g, 0, none⟩ cap l Try.underlying104 Try.underlying5 Try.underlying9 (fun j hj => h.1.cells (g := g) rfl j _ (by
      rw [List.getElem?_map, List.getElem?_eq_getElem hj]; rfl))
end Go.Proofs.Ytdkpleghpnflhaa
