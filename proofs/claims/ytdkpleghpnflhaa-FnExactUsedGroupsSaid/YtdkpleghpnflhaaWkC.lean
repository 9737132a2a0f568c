/- CHAPTER 9, impl: CountSchema. -/
import Derived.Test.YtdkpleghpnflhaaWkW
import Derived.Test.YtdkpleghpnflhaaScAb
import Derived.Test.YtdkpleghpnflhaaScC
set_option linter.unusedVariables false
set_option linter.unusedSimpArgs false
namespace Go.Proofs.Ytdkpleghpnflhaa
open Go.RowKit Go.Shelf
attribute [local go_sem] Oper.semAt_some
set_option maxRecDepth 100000

/-- the two ways to count -/
theorem cnt_size : ∀ (d : Nat) (l : List Sc), DeepT d l → cntS d l = (sizeS l : Int)
  | 0, l, h => by rw [show l = [] from h]; rfl
  | d + 1, l, h => by
    show (l.length : Int) + sumI (fun t => cntS d t.kids) l = _
    have key : ∀ m : List Sc, (∀ t ∈ m, DeepT d t.kids) → (m.length : Int) + sumI (fun t => cntS d t.kids) m = (sizeS m : Int) := by
      intro m
      induction m with
      | nil => intro _; rfl
      | cons x m ih =>
        intro hm
        have h1 := ih (fun t ht => hm t (List.mem_cons_of_mem _ ht))
        have h2 := cnt_size d x.kids (hm x (by simp))
        have h3 := sizeN_eq x
        simp only [sumI, sizeS, List.length_cons]
        omega
    exact key l h
theorem kidsOf_in (F : Fence) (n : Nat) (hF : F.fn 24) (hro : F.round = none) (a : Addr) (r : ScR) (W : World) (h : Nl W a r) :
    CallsIn F n Try.prog 24 #[.pointer (some a)] W fun e w' => e = .returned r.kv ∧ w' = W := by
  have hc : W.cell? ⟨a.block, a.off + 18, none⟩ = some r.kv := h 18 _ rfl
  refine callsIn_of_wp Try.func24 rfl hF ?_ hro
  simp only [Try.ntmps24, List.size_toArray, List.length_cons, List.length_nil, Nat.reduceAdd, Nat.reduceSub, Array.replicate_succ, Array.replicate_zero, List.push_toArray, List.append_toArray, List.nil_append, List.cons_append]
  gi_wp2
  go_ret
  exact ⟨rfl, rfl⟩
theorem walk_in (F : Fence) (n : Nat) (hF : F.fn 23) (hro : F.round = none) (A : Option Addr) (len cap kf : Nat) (w : World) :
    CallsIn F n Try.prog 23 #[.slice A len cap, .func (.func kf) #[] #[]] w fun e w' => e = .returned (.func (.func 43) #[] #[.pointer (some ⟨w.heap.size, 0, none⟩), .pointer (some ⟨w.heap.size + 1, 0, none⟩)]) ∧ w' = (w.alloc (.cells #[.slice A len cap] 32)).alloc (.cells #[.func (.func kf) #[] #[]] 66) := by
  refine callsIn_of_wp Try.func23 rfl hF ?_ hro
  simp only [Try.ntmps23, List.size_toArray, List.length_cons, List.length_nil, Nat.reduceAdd, Nat.reduceSub, Array.replicate_succ, Array.replicate_zero, List.push_toArray, List.append_toArray, List.nil_append, List.cons_append]
  gi_wp2
  go_ret
  exact ⟨rfl, rfl⟩
/-- an item of the stack whose lists are owned, all of whose kids are told -/
def KidsC (d B : Nat) (w0 : World) (p : ItS) (ks : List ItS) : Prop :=
  ∃ r : ScR, Nl w0 p.a r ∧ KidsV w0.heap.size w0 r.kv ks ∧ (∀ i ∈ ks, i.op = false ∧ MemI scK d B w0 i) ∧ ks.map (·.t) = p.t.kids ∧ ∀ rest, WInv (p :: rest) → WInv (ks ++ p.open :: rest)
/-- an owned list as items -/
theorem items_of {d B : Nat} {w0 : World} {p : ItS} {v : Value} {l : List Sc} {S2 : Nat → Prop} (h : OwL scK d B w0 v l S2) (hS : ∀ b, S2 b → p.S b) (hp : p.op = false) :
    ∃ ks : List ItS, KidsV w0.heap.size w0 v ks ∧ (∀ i ∈ ks, i.op = false ∧ MemI scK d B w0 i) ∧ ks.map (·.t) = l ∧ (∀ rest, WInv (p :: rest) → WInv (ks ++ p.open :: rest)) ∧ WInv ks := by
  rcases kids_items (by show 0 < 19; omega) h hS with ⟨rfl, rfl⟩ | ⟨g, cap, ks, rfl, h1, h2, h3, h4, h5, h6, h7, h8⟩
  · exact ⟨[], ⟨none, 0, rfl, fun j hj => absurd hj (by simp)⟩, (fun i hi => by cases hi), rfl, fun rest hw => hw.opened, ⟨List.Pairwise.nil, (fun i hi => by cases hi), List.Pairwise.nil⟩⟩
  · have hk := h7 h8
    have hcl := hk.cl
    refine ⟨ks, ⟨some ⟨g, 0, none⟩, cap, by rw [h4], fun j hj => ?_⟩, fun i hi => ⟨hcl i hi, h6 i hi⟩, h3, fun rest hw => KidsOf.grow hw hp hk, ⟨hk.nd, fun i hi ho j hj hs => ?_, hk.ap.imp fun h _ _ => h⟩⟩
    · obtain ⟨hb, hr⟩ := h6 _ (List.getElem_mem hj)
      obtain ⟨r, h9, _⟩ := hr (hcl _ (List.getElem_mem hj))
      exact ⟨⟨g, 0, none⟩, r, rfl, h2, by rw [h5 j hj, addr_at, Nat.zero_add]; rfl, h9, hb⟩
    · rw [hk.bl j hj] at hs
      exact (hk.sub i hi _ hs).2 rfl
theorem kidsC_ex {d B : Nat} {w0 : World} {p : ItS} (h : MemI scK d B w0 p) (hp : p.op = false) : ∃ ks, KidsC d B w0 p ks ∧ ∀ i ∈ ks, MemI scK d B w0 i := by
  obtain ⟨r, h1, S1, S2, h2, h3, h4, h5⟩ := h.2 hp
  obtain ⟨ks, k1, k2, k3, k4, _⟩ := items_of h3 (fun b hb => (h5 b).2 (.inr hb)) hp
  exact ⟨ks, ⟨r, h1, k1, k2, k3, k4⟩, fun i hi => (k2 i hi).2⟩
theorem kidsC_ok {d B : Nat} {w0 : World} : KidsOk (KidsC d B w0) := fun p ks ⟨r, _, _, h3, h4, _⟩ => ⟨fun i hi => (h3 i hi).1, .inr h4⟩
theorem sum_sizeN (m : List ItS) : (m.map fun i => sizeN i.t).sum = sizeS (m.map (·.t)) := by
  induction m with
  | nil => rfl
  | cons x m ih => simp only [List.map_cons, List.sum_cons, sizeS, ih]
/-- how many of the first i visits are first ones -/
def cntV (L : List (ItS × Bool)) (i : Nat) : Nat := ((L.take i).filter (·.2)).length
theorem cntV_step (L : List (ItS × Bool)) (i : Nat) (hi : i < L.length) : cntV L (i + 1) = cntV L i + (if L[i].2 = true then 1 else 0) := by
  unfold cntV
  rw [List.take_add_one, List.getElem?_eq_getElem hi, List.filter_append, List.length_append]
  congr 1
  cases h : L[i].2 <;> simp [h]
theorem cntV_le (L : List (ItS × Bool)) (i : Nat) : cntV L i ≤ (L.filter (·.2)).length := by
  unfold cntV
  exact ((List.take_sublist i L).filter _).length_le
/-- a visit, by its number -/
def visAt (L : List (ItS × Bool)) (i : Nat) : Addr × Bool := ((L.map fun x => (x.1.a, x.2))[i]?).getD (⟨0, 0, none⟩, false)
theorem visAt_eq (L : List (ItS × Bool)) (i : Nat) (hi : i < L.length) : visAt L i = (L[i].1.a, L[i].2) := by
  unfold visAt; simp [hi]
end Go.Proofs.Ytdkpleghpnflhaa
