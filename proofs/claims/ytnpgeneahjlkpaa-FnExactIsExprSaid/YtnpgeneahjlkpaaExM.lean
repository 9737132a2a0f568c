/- CHAPTER 8: plain mathematics of IsExpr: what a valid expression is; how deep one is. -/
import Derived.Test.YtnpgeneahjlkpaaExB
import Derived.Test.YtnpgeneahjlkpaaPthH
set_option linter.unusedVariables false
set_option linter.unusedSimpArgs false
namespace Go.Proofs.Ytnpgeneahjlkpaa
open Go.RowKit

def PthNil (p : Pth) : Prop := p.root = false ∧ p.ups = 0 ∧ p.st.length = 0
def wOr : ByteArray := ⟨#[111, 114]⟩
def wAnd : ByteArray := ⟨#[97, 110, 100]⟩
/-- a path may stand alone -/
def MayBe (p : Pth) : Prop := (p.st.length = 0 → p.root = false) ∧ (p.root = false → p.ups ≤ 0 → ∀ (h : 0 < p.st.length), p.st[0].n ≠ wOr ∧ p.st[0].n ≠ wAnd)
def FieldOk (x : ExX) : Prop :=
  (x.op = 1 ∧ (0 ≤ x.num ∧ x.num ≤ 1000000000) ∧ x.text = ⟨#[]⟩ ∧ PthNil x.p) ∨ (x.op = 2 ∧ textB x.text = true ∧ x.num = 0 ∧ PthNil x.p) ∨
  (x.op = 3 ∧ PthOk x.p ∧ MayBe x.p ∧ x.num = 0 ∧ x.text = ⟨#[]⟩) ∨ (x.op = 4 ∧ PthOk x.p ∧ x.num = 0 ∧ x.text = ⟨#[]⟩) ∨
  ((5 ≤ x.op ∧ x.op ≤ 15) ∧ x.num = 0 ∧ x.text = ⟨#[]⟩ ∧ PthNil x.p)
def kidN (op : Int) : Nat := if op = 5 then 1 else if 6 ≤ op ∧ op ≤ 15 then 2 else 0
def okE : Nat → Ex → Prop
  | 0, _ => False
  | n + 1, t => FieldOk t.x ∧ t.kids.length = kidN t.x.op ∧ ∀ k, k ∈ t.kids → okE n k
theorem okE_deep : ∀ {n : Nat} {t : Ex}, okE (n + 1) t → DeepT n t.kids
  | 0, t, h => List.eq_nil_iff_forall_not_mem.2 fun k hk => h.2.2 k hk
  | n + 1, _, h => fun k hk => okE_deep (h.2.2 k hk)
theorem okE_of : ∀ {n m : Nat} {t : Ex}, okE m t → DeepT n t.kids → okE (n + 1) t
  | _, 0, _, h, _ => h.elim
  | 0, m + 1, t, h, hd => ⟨h.1, h.2.1, fun k hk => by rw [show t.kids = [] from hd] at hk; cases hk⟩
  | n + 1, m + 1, t, h, hd => ⟨h.1, h.2.1, fun k hk => okE_of (h.2.2 k hk) (hd k hk)⟩
/-- how deep the trees l are -/
def dpL : Nat → List Ex → Nat
  | 0, _ => 0
  | d + 1, l => l.foldl (fun n t => max n (dpL d t.kids + 1)) 0
theorem fold_max {f : Ex → Nat} : ∀ {l : List Ex} {m n : Nat}, l.foldl (fun n t => max n (f t)) m ≤ n ↔ m ≤ n ∧ ∀ t, t ∈ l → f t ≤ n
  | [], m, n => by simp
  | a :: r, m, n => by
    rw [List.foldl_cons, fold_max (l := r)]
    constructor
    · rintro ⟨h1, h2⟩
      refine ⟨by omega, fun t ht => ?_⟩
      rcases List.mem_cons.1 ht with rfl | h3
      · omega
      · exact h2 t h3
    · rintro ⟨h1, h2⟩
      exact ⟨by have := h2 a List.mem_cons_self; omega, fun t ht => h2 t (List.mem_cons_of_mem _ ht)⟩
theorem dpL_le : ∀ {d n : Nat} {l : List Ex}, DeepT d l → (dpL d l ≤ n ↔ DeepT n l)
  | 0, n, l, h => by rw [show l = [] from h]; exact ⟨fun _ => DeepT.nil n, fun _ => Nat.zero_le _⟩
  | d + 1, 0, l, h => by
    show l.foldl (fun n t => max n (dpL d t.kids + 1)) 0 ≤ 0 ↔ l = []
    rw [fold_max (f := fun t => dpL d t.kids + 1)]
    constructor
    · rintro ⟨_, h2⟩
      refine List.eq_nil_iff_forall_not_mem.2 fun k hk => ?_
      have h3 : dpL d k.kids + 1 ≤ 0 := h2 k hk
      omega
    · rintro rfl; exact ⟨Nat.le_refl _, fun t ht => by cases ht⟩
  | d + 1, n + 1, l, h => by
    show l.foldl (fun n t => max n (dpL d t.kids + 1)) 0 ≤ n + 1 ↔ ∀ t, t ∈ l → DeepT n t.kids
    rw [fold_max (f := fun t => dpL d t.kids + 1)]
    constructor
    · rintro ⟨_, h2⟩ t ht
      have h3 : dpL d t.kids + 1 ≤ n + 1 := h2 t ht
      exact (dpL_le (h t ht)).1 (by omega)
    · intro h2
      refine ⟨Nat.zero_le _, fun t ht => ?_⟩
      have := (dpL_le (h t ht)).2 (h2 t ht)
      show dpL d t.kids + 1 ≤ n + 1
      omega
theorem dpL_kid {d : Nat} {l : List Ex} {t : Ex} (ht : t ∈ l) : dpL d t.kids + 1 ≤ dpL (d + 1) l := by
  have := (fold_max (f := fun t => dpL d t.kids + 1) (l := l) (m := 0) (n := dpL (d + 1) l)).1 (Nat.le_refl _)
  exact this.2 t ht
theorem fold_take {f : Ex → Nat} {l : List Ex} {k : Nat} (hk : k < l.length) (m : Nat) : (l.take (k + 1)).foldl (fun n t => max n (f t)) m = max ((l.take k).foldl (fun n t => max n (f t)) m) (f l[k]) := by
  rw [List.take_succ_eq_append_getElem hk, List.foldl_append]; rfl
theorem rd_deepE : ∀ {d : Nat} {w : World} {v : Value} {l : List Ex}, RdL exK d w v l → DeepT d l
  | 0, _, _, _, h => h.1
  | _ + 1, _, _, _, ⟨R, _, hl, hk⟩ => fun t ht => by
    obtain ⟨i, hi, rfl⟩ := List.getElem_of_mem ht
    exact rd_deepE (hk i (by rw [hl]; exact hi) hi).2
/-- expressions as they are read, each path's steps with room for their tests -/
def exC : Kd ExX := { exK with
  rd := fun w r x => exK.rd w r x ∧ HasSC w r.sv x.p.st
  rd_below := fun h hb => ⟨exK.rd_below h.1 hb, h.2.below hb⟩
  own_rd := fun h => ⟨exK.own_rd h, OwnS.hasC h.2.st⟩ }
theorem rdC_of : ∀ {d B : Nat} {w : World} {v : Value} {l : List Ex} {S : Nat → Prop}, OwL exK d B w v l S → RdL exC d w v l
  | 0, _, _, _, _, _, ⟨h1, h2, _⟩ => ⟨h1, h2.has exK.hz⟩
  | _ + 1, _, _, _, _, _, ⟨R, _, h1, h2, h3, _⟩ => ⟨R, h1.has exK.hz, h2, fun i h h' => by
      obtain ⟨S1, S2, a, b, _⟩ := h3 i h h'
      exact ⟨⟨exK.own_rd a, OwnS.hasC a.2.st⟩, rdC_of b⟩⟩
theorem rdNC_of {d B : Nat} {w : World} {r : ExR} {t : Ex} {S : Nat → Prop} (h : OwN exK d B w r t S) : RdN exC d w r t := by
  obtain ⟨S1, S2, a, b, _⟩ := h
  exact ⟨⟨exK.own_rd a, OwnS.hasC a.2.st⟩, rdC_of b⟩
theorem exC_at {d : Nat} {w : World} {v : Value} {l : List Ex} (h : RdL exC d w v l) : ∃ (A : Option Addr) (cap : Nat), v = .slice A l.length cap ∧ l.length ≤ 9223372036854775807 ∧
    ∀ i (hi : i < l.length), ∃ (a : Addr) (r : ExR) (d' : Nat), A = some a ∧ d = d' + 1 ∧ (a.add (i * 7)).block < w.heap.size ∧ Ek w (a.add (i * 7)) r ∧ RdN exC d' w r l[i] := by
  cases d with
  | zero =>
    obtain ⟨rfl, A, cap, hv, hn, _⟩ := h
    exact ⟨A, cap, hv, hn, fun i hi => absurd hi (Nat.not_lt_zero i)⟩
  | succ d =>
    obtain ⟨R, ⟨A, cap, hv, hn, hc⟩, hRl, hRk⟩ := h
    refine ⟨A, cap, by rw [← hRl]; exact hv, by rw [← hRl]; exact hn, fun i hi => ?_⟩
    have h1 : i < R.length := by rw [hRl]; exact hi
    obtain ⟨a, e1, e2, e3⟩ := HasE.ek hc i h1
    exact ⟨a, R[i], d, e1, rfl, e2, e3, hRk i h1 hi⟩
end Go.Proofs.Ytnpgeneahjlkpaa
