/- MERGED for a claim: WkB WkS. -/
import Derived.Test.YthmjffijhlkgcaaWkA
import Derived.Test.YthmjffijhlkgcaaScA
import Derived.Test.YthmjffijhlkgcaaWkL
import Derived.Shelf.Abstract
import Derived.Shelf.RegionOpen
import Derived.WalkKit
import Derived.OwnWalkIn
import Derived.TacticsInMore
import Derived.LoopNIn
import Derived.LoopIn
import Derived.Maps.OwnIn
import Derived.Maps.AppendAt
set_option linter.unusedVariables false
set_option linter.unusedSimpArgs false
/- WALKING A FOREST: what the stack's pointers find in memory; the kids of what the call owns, as new items. No function is spoken of. -/
namespace Go.Proofs.Ythmjffijhlkgcaa
open Go.RowKit

/-- what lies at an item's pointer: a plain block; if it is not open, its record, whose lists are owned -/
def MemI {α : Type} (k : Kd α) (d B : Nat) (w : World) (i : It α) : Prop :=
  Blk w i.a ∧ (i.op = false → ∃ r : k.ρ, (∀ j v, (k.enc r)[j]? = some v → w.cell? (i.a.add j) = some v) ∧ OwN k d B w r i.t i.S)
section
variable {α : Type} {k : Kd α} {d B : Nat} {w w' : World} {i : It α}
theorem MemI.open (h : MemI k d B w i) : MemI k d B w i.open := ⟨h.1, fun e => by cases e⟩
theorem MemI.to {e : Nat} (h : MemI k d B w i) (he : d ≤ e) : MemI k e B w i := ⟨h.1, fun ho => by obtain ⟨r, h1, h2⟩ := h.2 ho; exact ⟨r, h1, h2.to he⟩⟩
/-- a world in which the item's own block and its lists' blocks are as they were -/
theorem MemI.frame (h : MemI k d B w i) (ha : w'.heap[i.a.block]? = w.heap[i.a.block]?) (hS : i.op = false → ∀ b, i.S b → w'.heap[b]? = w.heap[b]?) : MemI k d B w' i := by
  refine ⟨?_, fun ho => ?_⟩
  · obtain ⟨cs, t, hb⟩ := h.1
    exact ⟨cs, t, ha.trans hb⟩
  · obtain ⟨r, h1, h2⟩ := h.2 ho
    refine ⟨r, fun j v hv => ?_, h2.frame (hS ho)⟩
    rw [World.cell?_of_block (w := w) (by rw [addr_blk]; exact ha)]
    exact h1 j v hv
theorem MemI.lt (h : MemI k d B w i) : i.a.block < w.heap.size := by
  obtain ⟨cs, t, hb⟩ := h.1
  exact (Array.getElem?_eq_some_iff.1 hb).1
theorem MemI.below (h : MemI k d B w i) (hb : Below w.heap.size w w') : MemI k d B w' i :=
  h.frame (hb.block _ h.lt) fun ho b hs => by obtain ⟨r, _, h2⟩ := h.2 ho; exact hb.block b (h2.lt b hs).2
/-- an owned list of trees as items of the stack -/
theorem kids_items (hz : 0 < k.z) {p : It α} {v : Value} {l : List (Tr α)} {S2 : Nat → Prop} (h : OwL k d B w v l S2) (hS : ∀ b, S2 b → p.S b) :
    (l = [] ∧ v = .slice none 0 0) ∨ ∃ g cap ks, v = .slice (some ⟨g, 0, none⟩) l.length cap ∧ B ≤ g ∧ g < w.heap.size ∧ ks.map (·.t) = l ∧ ks.length = l.length ∧ (∀ j (hj : j < ks.length), ks[j].a = ⟨g, j * k.z, none⟩) ∧ (∀ i ∈ ks, MemI k d B w i) ∧ (p.S g → KidsOf p g ks) ∧ p.S g := by
  rcases h.form with ⟨h1, h2⟩ | ⟨g, cap, h1, h2, h3⟩
  · exact .inl ⟨h2, h1⟩
  subst h1
  refine .inr ⟨g, cap, ?_⟩
  cases d with
  | zero =>
    obtain ⟨rfl, hr, hs⟩ := h
    have hg : p.S g := hS g ((hs g).2 rfl)
    exact ⟨[], rfl, h2, h3, rfl, rfl, fun j hj => absurd hj (by simp), fun i hi => absurd hi (by simp), fun _ => ⟨fun i hi => absurd hi (by simp), fun i hi => absurd hi (by simp), by simp, hg, fun i hi => absurd hi (by simp), .nil⟩, hg⟩
  | succ d =>
    obtain ⟨R, K, hr, hlen, hx, hap, hout, hs⟩ := h
    have hg : p.S g := hS g ((hs g).2 (.inl rfl))
    have hb : ∃ cur, w.heap[g]? = some (.cells cur k.E (0, 0)) := by
      rcases hr.2 with ⟨h1, _⟩ | ⟨g', cap', cur, h1, _, h4, _⟩
      · exact absurd h1.symm (by simp)
      · injection h1 with e1 e2 e3
        injection e1 with e1
        injection e1 with e1
        subst e1
        exact ⟨cur, h4⟩
    obtain ⟨cur, hb⟩ := hb
    let ks : List (It α) := List.ofFn fun q : Fin l.length => ⟨⟨g, q.1 * k.z, none⟩, l[q.1], K q.1, false⟩
    have hks : ks.length = l.length := List.length_ofFn
    have hget : ∀ j (hj : j < ks.length), ks[j] = ⟨⟨g, j * k.z, none⟩, l[j]'(by rw [← hks]; exact hj), K j, false⟩ := fun j hj => by simp [ks]
    have hmem : ∀ i ∈ ks, ∃ j, ∃ hj : j < l.length, i = ⟨⟨g, j * k.z, none⟩, l[j], K j, false⟩ := fun i hi => by
      obtain ⟨j, hj, e⟩ := List.getElem_of_mem hi
      exact ⟨j, by rw [← hks]; exact hj, by rw [← e, hget j hj]⟩
    refine ⟨ks, rfl, h2, h3, ?_, hks, fun j hj => by rw [hget j hj], fun i hi => ?_, fun _ => ⟨fun i hi => ?_, fun i hi => ?_, ?_, hg, fun i hi b hib => ?_, ?_⟩, hg⟩
    · refine List.ext_getElem (by rw [List.length_map, hks]) fun j h4 h5 => ?_
      rw [List.getElem_map, hget j (by simpa using h4)]
    · obtain ⟨j, hj, rfl⟩ := hmem i hi
      have hjR : j < R.length := by rw [hlen]; exact hj
      refine ⟨⟨cur, k.E, hb⟩, fun _ => ⟨R[j], fun q v hv => ?_, ?_⟩⟩
      · show w.cell? ((⟨g, j * k.z, none⟩ : Addr).add q) = some v
        rw [addr_at]
        exact hr.cell k.hz hjR hv
      · obtain ⟨S1, S3, a, b, c, e⟩ := hx j hjR hj
        exact ⟨S1, S3, a, b.to (Nat.le_succ d), c, e⟩
    · obtain ⟨j, hj, rfl⟩ := hmem i hi; rfl
    · obtain ⟨j, hj, rfl⟩ := hmem i hi; rfl
    · rw [List.nodup_iff_pairwise_ne, List.pairwise_iff_getElem]
      intro x y hx' hy' hxy
      rw [List.getElem_map, List.getElem_map, hget x (by simpa using hx'), hget y (by simpa using hy')]
      intro e
      injection e with _ e2 _
      have := Nat.eq_of_mul_eq_mul_right hz e2
      omega
    · obtain ⟨j, hj, rfl⟩ := hmem i hi
      have hjR : j < R.length := by rw [hlen]; exact hj
      refine ⟨hS b ((hs b).2 (.inr ⟨j, hjR, hib⟩)), fun e => ?_⟩
      subst e
      exact hout j _ hjR hib rfl
    · rw [List.pairwise_iff_getElem]
      intro x y hx' hy' hxy b h4 h5
      rw [hget x hx'] at h4
      rw [hget y hy'] at h5
      have := hap x y b (by rw [hlen, ← hks]; exact hx') (by rw [hlen, ← hks]; exact hy') h4 h5
      omega
end
end Go.Proofs.Ythmjffijhlkgcaa

/- CHAPTER 9, impl: slices.Backward of nodes, as an iterator that turns nothing. -/
namespace Go.Proofs.Ythmjffijhlkgcaa
open Go.RowKit Go.Shelf
attribute [local go_sem] Oper.semAt_some
set_option maxRecDepth 100000

/-- a load whose outcome is known, at the operation, inside a fence -/
theorem wpListIn_load_at {F : Fence} {n : Nat} {P : Program} {ops : Array Oper} {rest : List Oper} {op : Oper} {a : Act} {w : World} {Q : Exit → Act → World → Prop} (hgd : op.guard = none) (ty : TypeId) (x : Operand) (ho : op.op = .load ty x)
    (p : Addr) (hx : a.eval x = .pointer (some p)) (v : Value) (hl : (Instr.loadAt ty (.pointer (some p))).run P w = .ok v w)
    (h : wpListIn F n P ops Q rest (a.put op.dst v) w) : wpListIn F n P ops Q (op :: rest) a w := by
  refine wpListIn_plain hgd fun K hK => ?_
  unfold Oper.wpIn
  refine ⟨by simp [Oper.about, ho], ?_⟩
  rw [Oper.semAt_plain F _ _ (by rw [ho]; intro c hc'; cases hc')]
  simp [execOp, ho, hx, hl, Result.andThen]
  exact hK _ _ h
/-- what is left alone: the blocks Z -/
structure KeepZ (Z : Nat → Prop) (W W' : World) : Prop where
  size : W.heap.size ≤ W'.heap.size
  block : ∀ b, b < W.heap.size → Z b → W'.heap[b]? = W.heap[b]?
theorem KeepZ.refl (Z : Nat → Prop) (W : World) : KeepZ Z W W := ⟨Nat.le_refl _, fun _ _ _ => rfl⟩
theorem KeepZ.step {Z M M' : Nat → Prop} {A B C : World} (h : KeepZ Z A B) (hM : ∀ b, M b → ¬ Z b) (k : StepM M M' B C) : KeepZ Z A C :=
  ⟨Nat.le_trans h.size k.tu.size, fun b hb hz => (k.tu.block b (Nat.lt_of_lt_of_le hb h.size) fun hm => hM b hm hz).trans (h.block b hb hz)⟩
theorem KeepZ.turns {Z K : Nat → Prop} {A B C : World} (h : KeepZ Z A B) (hK : ∀ b, K b → ¬ Z b) (k : TurnsAt K B C) : KeepZ Z A C :=
  ⟨Nat.le_trans h.size k.size, fun b hb hz => (k.block b (Nat.lt_of_lt_of_le hb h.size) fun hm => hK b hm hz).trans (h.block b hb hz)⟩
theorem KeepZ.low {Z : Nat → Prop} {n : Nat} {A B : World} (h : KeepZ Z A B) (hn : n ≤ A.heap.size) (hz : ∀ b, b < n → Z b) : ∀ b, b < n → B.heap[b]? = A.heap[b]? := fun b hb => h.block b (Nat.lt_of_lt_of_le hb hn) (hz b hb)
theorem stepM_lt {Z M M' : Nat → Prop} {A B : World} (hM : ∀ b, M b → b < A.heap.size ∧ ¬ Z b) (hZ : ∀ b, Z b → b < A.heap.size) (k : StepM M M' A B) : ∀ b, M' b → b < B.heap.size ∧ ¬ Z b := fun b hb => by
  refine ⟨k.lt b hb, fun hz => ?_⟩
  rcases k.sub b hb with h | h
  · exact (hM b h).2 hz
  · have := hZ b hz; omega
/-- the cells of a record, where a few blocks lie as they lay -/
theorem Nl.at {w w' : World} {p : Addr} {r : ScR} (h : Nl w p r) (hb : w'.heap[p.block]? = w.heap[p.block]?) : Nl w' p r := fun j v hv => by
  rw [World.cell?_of_block (w := w) (by rw [addr_blk]; exact hb)]; exact h j v hv
end Go.Proofs.Ythmjffijhlkgcaa
