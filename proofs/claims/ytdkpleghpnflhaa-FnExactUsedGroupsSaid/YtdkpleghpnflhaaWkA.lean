/- WALKING A FOREST BY A STACK OF POINTERS AND A SET OF OPEN ONES (PathsOf of chapter 8, walk of chapter 9): the stack as it is meant, its invariant, its steps. Plain mathematics; no function is spoken of. -/
import Derived.Test.YtdkpleghpnflhaaTree
import Derived.Test.YtdkpleghpnflhaaPsA
set_option linter.unusedVariables false
set_option linter.unusedSimpArgs false
namespace Go.Proofs.Ytdkpleghpnflhaa
open Go.RowKit

/-- what stands on the stack: a pointer, the tree there, the blocks that the tree's lists take, whether it is open -/
structure It (α : Type) where
  a : Addr
  t : Tr α
  S : Nat → Prop
  op : Bool
/-- the pointers of the open ones, the top first -/
def opens {α : Type} (st : List (It α)) : List Addr := (st.filter (·.op)).map (·.a)
/-- the stack (the top first): all pointers differ; no list of one that is not open holds a pointer of the stack; the lists of two that are not open are apart -/
structure WInv {α : Type} (st : List (It α)) : Prop where
  nd : (st.map (·.a)).Nodup
  out : ∀ i ∈ st, i.op = false → ∀ j ∈ st, ¬ i.S j.a.block
  ap : st.Pairwise fun i j => i.op = false → j.op = false → ∀ b, i.S b → j.S b → False
section
variable {α : Type} {st rest : List (It α)} {p : It α}
theorem opens_cons_closed (h : p.op = false) : opens (p :: rest) = opens rest := by unfold opens; rw [List.filter_cons_of_neg (by simp [h])]
theorem opens_cons_open (h : p.op = true) : opens (p :: rest) = p.a :: opens rest := by unfold opens; rw [List.filter_cons_of_pos h]; rfl
theorem opens_mem {a : Addr} (h : a ∈ opens st) : ∃ i ∈ st, i.op = true ∧ i.a = a := by
  unfold opens at h
  obtain ⟨i, hi, rfl⟩ := List.mem_map.1 h
  exact ⟨i, (List.mem_filter.1 hi).1, (List.mem_filter.1 hi).2, rfl⟩
theorem mem_opens {i : It α} (h : i ∈ st) (ho : i.op = true) : i.a ∈ opens st := List.mem_map.2 ⟨i, List.mem_filter.2 ⟨h, ho⟩, rfl⟩
/-- the one on top is not open: its pointer is not in the set -/
theorem WInv.top_not (h : WInv (p :: rest)) (hp : p.op = false) : p.a ∉ opens (p :: rest) := by
  rw [opens_cons_closed hp]
  intro hm
  obtain ⟨i, hi, _, ha⟩ := opens_mem hm
  have := (List.nodup_cons.1 h.nd).1
  exact this (List.mem_map.2 ⟨i, hi, ha⟩)
theorem WInv.tail (h : WInv (p :: rest)) : WInv rest :=
  ⟨(List.nodup_cons.1 h.nd).2, fun i hi ho j hj => h.out i (List.mem_cons_of_mem _ hi) ho j (List.mem_cons_of_mem _ hj), (List.pairwise_cons.1 h.ap).2⟩
/-- the top is opened -/
def It.open (p : It α) : It α := { p with op := true }
theorem WInv.opened (h : WInv (p :: rest)) : WInv (p.open :: rest) := by
  refine ⟨h.nd, fun i hi ho j hj => ?_, List.pairwise_cons.2 ⟨(fun j hj hp => by cases hp), (List.pairwise_cons.1 h.ap).2⟩⟩
  rcases List.mem_cons.1 hi with rfl | hi
  · cases ho
  · rcases List.mem_cons.1 hj with rfl | hj
    · exact h.out i (List.mem_cons_of_mem _ hi) ho p (by simp)
    · exact h.out i (List.mem_cons_of_mem _ hi) ho j (List.mem_cons_of_mem _ hj)
/-- kids of the top: their pointers lie in one block g of its own, their lists in other blocks of its own -/
structure KidsOf (p : It α) (g : Nat) (ks : List (It α)) : Prop where
  cl : ∀ i ∈ ks, i.op = false
  bl : ∀ i ∈ ks, i.a.block = g
  nd : (ks.map (·.a)).Nodup
  own : p.S g
  sub : ∀ i ∈ ks, ∀ b, i.S b → p.S b ∧ b ≠ g
  ap : ks.Pairwise fun i j => ∀ b, i.S b → j.S b → False
/-- the pointer of a kid is not in the set -/
theorem KidsOf.not {ks : List (It α)} {g : Nat} (h : WInv (p :: rest)) (hp : p.op = false) (k : KidsOf p g ks) {i : It α} (hi : i ∈ ks) : i.a ∉ opens (p.open :: rest) := by
  intro hm
  obtain ⟨j, hj, _, ha⟩ := opens_mem hm
  have hb := k.bl i hi
  rw [← ha] at hb
  have hS := k.own
  rw [← hb] at hS
  rcases List.mem_cons.1 hj with rfl | hj
  · exact h.out p (by simp) hp p (by simp) hS
  · exact h.out p (by simp) hp j (List.mem_cons_of_mem _ hj) hS
theorem KidsOf.grow {ks : List (It α)} {g : Nat} (h : WInv (p :: rest)) (hp : p.op = false) (k : KidsOf p g ks) : WInv (ks ++ p.open :: rest) := by
  have ho := h.opened
  have hin : ∀ j ∈ p.open :: rest, ¬ p.S j.a.block := fun j hj => by
    rcases List.mem_cons.1 hj with rfl | hj
    · exact h.out p (by simp) hp p (by simp)
    · exact h.out p (by simp) hp j (List.mem_cons_of_mem _ hj)
  refine ⟨?_, fun i hi hc j hj => ?_, ?_⟩
  · rw [List.map_append]
    refine List.nodup_append.2 ⟨k.nd, ho.nd, fun a ha b hb e => ?_⟩
    subst e
    obtain ⟨i, hi, rfl⟩ := List.mem_map.1 ha
    obtain ⟨j, hj, hja⟩ := List.mem_map.1 hb
    have := hin j hj
    rw [hja, k.bl i hi] at this
    exact this k.own
  · rcases List.mem_append.1 hi with hi | hi
    · rcases List.mem_append.1 hj with hj | hj
      · rw [k.bl j hj]
        exact fun hs => (k.sub i hi _ hs).2 rfl
      · exact fun hs => hin j hj (k.sub i hi _ hs).1
    · rcases List.mem_append.1 hj with hj | hj
      · rw [k.bl j hj]
        intro hs
        rcases List.mem_cons.1 hi with rfl | hi
        · cases hc
        · exact (List.pairwise_cons.1 h.ap).1 i hi hp hc g k.own hs
      · exact ho.out i hi hc j hj
  · refine List.pairwise_append.2 ⟨k.ap.imp fun h _ _ => h, ho.ap, fun i hi j hj _ hc b hb1 hb2 => ?_⟩
    rcases List.mem_cons.1 hj with rfl | hj
    · cases hc
    · exact (List.pairwise_cons.1 h.ap).1 j hj hp hc b (k.sub i hi b hb1).1 hb2
theorem opens_grow {ks : List (It α)} {g : Nat} (k : KidsOf p g ks) : opens (ks ++ p.open :: rest) = p.a :: opens rest := by
  unfold opens
  rw [List.filter_append, List.filter_eq_nil_iff.2 (fun i hi => by simp [k.cl i hi]), List.nil_append, List.filter_cons_of_pos (by rfl)]
  rfl
end
/- what a walk tells -/
mutual
def sizeN {α : Type} : Tr α → Nat
  | .mk _ l => 1 + sizeS l
def sizeS {α : Type} : List (Tr α) → Nat
  | [] => 0
  | t :: l => sizeN t + sizeS l
end
/-- how many steps the stack is good for -/
def weight {α : Type} (st : List (It α)) : Nat := (st.map fun i => if i.op = true then 1 else 2 * sizeN i.t).sum
theorem weight_append {α : Type} (a b : List (It α)) : weight (a ++ b) = weight a + weight b := by unfold weight; rw [List.map_append, List.sum_append]
theorem sizeS_step {α : Type} : ∀ (l : List (Tr α)) (k : Nat) (h : k < l.length), sizeS (l.take (k + 1)) = sizeS (l.take k) + sizeN l[k]
  | [], k, h => by simp at h
  | x :: l, 0, _ => by simp [sizeS]
  | x :: l, k + 1, h => by
    simp only [List.take_succ_cons, sizeS, List.getElem_cons_succ]
    rw [sizeS_step l k (by simpa using h)]
    omega
theorem sizeN_eq {α : Type} (t : Tr α) : sizeN t = 1 + sizeS t.kids := by cases t; simp [sizeN, Tr.kids]
theorem weight_kids {α : Type} : ∀ (ks : List (It α)), (∀ i ∈ ks, i.op = false) → weight ks = 2 * sizeS (ks.map (·.t))
  | [], _ => rfl
  | i :: ks, h => by
    have h1 := weight_kids ks (fun j hj => h j (List.mem_cons_of_mem _ hj))
    have h2 : i.op = false := h i (by simp)
    unfold weight at h1 ⊢
    rw [List.map_cons, List.sum_cons, h1, h2]
    simp [sizeS]
    omega
theorem weight_open {α : Type} {p : It α} {rest ks : List (It α)} (hp : p.op = false) (hk : ∀ i ∈ ks, i.op = false) (ht : ks.map (·.t) = p.t.kids) : weight (ks ++ p.open :: rest) < weight (p :: rest) := by
  rw [weight_append, weight_kids ks hk, ht]
  cases hpt : p.t with
  | mk x kids =>
    unfold weight
    rw [List.map_cons, List.map_cons, List.sum_cons, List.sum_cons, hp, hpt]
    simp [It.open, sizeN, Tr.kids]
    omega
theorem weight_open_none {α : Type} {p : It α} {rest : List (It α)} (hp : p.op = false) : weight (p.open :: rest) < weight (p :: rest) := by
  cases hpt : p.t with
  | mk x kids =>
    unfold weight
    rw [List.map_cons, List.map_cons, List.sum_cons, List.sum_cons, hp, hpt]
    simp [It.open, sizeN]
    omega
theorem weight_close {α : Type} {p : It α} {rest : List (It α)} (hp : p.op = true) : weight rest < weight (p :: rest) := by
  unfold weight
  rw [List.map_cons, List.sum_cons, if_pos hp]
  omega
end Go.Proofs.Ytdkpleghpnflhaa
