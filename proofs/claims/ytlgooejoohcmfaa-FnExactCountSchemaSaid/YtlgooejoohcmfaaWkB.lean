/- WALKING A FOREST: what the stack's pointers find in memory; the kids of what the call owns, as new items. No function is spoken of. -/
import Derived.Test.YtlgooejoohcmfaaWkA
set_option linter.unusedVariables false
set_option linter.unusedSimpArgs false
namespace Go.Proofs.Ytlgooejoohcmfaa
open Go.RowKit

/-- what lies at an item's pointer: a plain block; if it is not open, its record, whose lists are owned -/
def MemI {α : Type} (k : Kd α) (d B : Nat) (w : World) (i : It α) : Prop :=
  Blk w i.a ∧ (i.op = false → ∃ r : k.ρ, (∀ j v, (k.enc r)[j]? = some v → w.cell? (i.a.add j) = some v) ∧ OwN k d B w r i.t i.S)
section
variable {α : Type} {k : Kd α} {d B : Nat} {w w' : World} {i : It α}
theorem MemI.open (h : MemI k d B w i) : MemI k d B w i.open := ⟨h.1, fun e => by cases e⟩
theorem MemI.to {e : Nat} (h : MemI k d B w i) (he : d ≤ e) : MemI k e B w i := ⟨h.1, fun ho => by obtain ⟨r, h1, h2⟩ := h.2 ho; exact ⟨r, h1, h2.to he⟩⟩
/-- a world in which the item's own block and its lists' blocks are as they were -/
theorem MemI.frame (h : MemI k d B w i) (ha : w'.heap[i.a.block]? = w.heap[i.a.block]?) (hS : i.op = false → ∀ b, i.S b → w'.heap[b]? = w.heap[b]?) : MemI k d B w' i := by
  refine ⟨?_, fun ho => ?_⟩
  · obtain ⟨cs, t, hb⟩ := h.1
    exact ⟨cs, t, ha.trans hb⟩
  · obtain ⟨r, h1, h2⟩ := h.2 ho
    refine ⟨r, fun j v hv => ?_, h2.frame (hS ho)⟩
    rw [World.cell?_of_block (w := w) (by rw [addr_blk]; exact ha)]
    exact h1 j v hv
theorem MemI.lt (h : MemI k d B w i) : i.a.block < w.heap.size := by
  obtain ⟨cs, t, hb⟩ := h.1
  exact (Array.getElem?_eq_some_iff.1 hb).1
theorem MemI.below (h : MemI k d B w i) (hb : Below w.heap.size w w') : MemI k d B w' i :=
  h.frame (hb.block _ h.lt) fun ho b hs => by obtain ⟨r, _, h2⟩ := h.2 ho; exact hb.block b (h2.lt b hs).2
/-- an owned list of trees as items of the stack -/
theorem kids_items (hz : 0 < k.z) {p : It α} {v : Value} {l : List (Tr α)} {S2 : Nat → Prop} (h : OwL k d B w v l S2) (hS : ∀ b, S2 b → p.S b) :
    (l = [] ∧ v = .slice none 0 0) ∨ ∃ g cap ks, v = .slice (some ⟨g, 0, none⟩) l.length cap ∧ B ≤ g ∧ g < w.heap.size ∧ ks.map (·.t) = l ∧ ks.length = l.length ∧ (∀ j (hj : j < ks.length), ks[j].a = ⟨g, j * k.z, none⟩) ∧ (∀ i ∈ ks, MemI k d B w i) ∧ (p.S g → KidsOf p g ks) ∧ p.S g := by
  rcases h.form with ⟨h1, h2⟩ | ⟨g, cap, h1, h2, h3⟩
  · exact .inl ⟨h2, h1⟩
  subst h1
  refine .inr ⟨g, cap, ?_⟩
  cases d with
  | zero =>
    obtain ⟨rfl, hr, hs⟩ := h
    have hg : p.S g := hS g ((hs g).2 rfl)
    exact ⟨[], rfl, h2, h3, rfl, rfl, fun j hj => absurd hj (by simp), fun i hi => absurd hi (by simp), fun _ => ⟨fun i hi => absurd hi (by simp), fun i hi => absurd hi (by simp), by simp, hg, fun i hi => absurd hi (by simp), .nil⟩, hg⟩
  | succ d =>
    obtain ⟨R, K, hr, hlen, hx, hap, hout, hs⟩ := h
    have hg : p.S g := hS g ((hs g).2 (.inl rfl))
    have hb : ∃ cur, w.heap[g]? = some (.cells cur k.E (0, 0)) := by
      rcases hr.2 with ⟨h1, _⟩ | ⟨g', cap', cur, h1, _, h4, _⟩
      · exact absurd h1.symm (by simp)
      · injection h1 with e1 e2 e3
        injection e1 with e1
        injection e1 with e1
        subst e1
        exact ⟨cur, h4⟩
    obtain ⟨cur, hb⟩ := hb
    let ks : List (It α) := List.ofFn fun q : Fin l.length => ⟨⟨g, q.1 * k.z, none⟩, l[q.1], K q.1, false⟩
    have hks : ks.length = l.length := List.length_ofFn
    have hget : ∀ j (hj : j < ks.length), ks[j] = ⟨⟨g, j * k.z, none⟩, l[j]'(by rw [← hks]; exact hj), K j, false⟩ := fun j hj => by simp [ks]
    have hmem : ∀ i ∈ ks, ∃ j, ∃ hj : j < l.length, i = ⟨⟨g, j * k.z, none⟩, l[j], K j, false⟩ := fun i hi => by
      obtain ⟨j, hj, e⟩ := List.getElem_of_mem hi
      exact ⟨j, by rw [← hks]; exact hj, by rw [← e, hget j hj]⟩
    refine ⟨ks, rfl, h2, h3, ?_, hks, fun j hj => by rw [hget j hj], fun i hi => ?_, fun _ => ⟨fun i hi => ?_, fun i hi => ?_, ?_, hg, fun i hi b hib => ?_, ?_⟩, hg⟩
    · refine List.ext_getElem (by rw [List.length_map, hks]) fun j h4 h5 => ?_
      rw [List.getElem_map, hget j (by simpa using h4)]
    · obtain ⟨j, hj, rfl⟩ := hmem i hi
      have hjR : j < R.length := by rw [hlen]; exact hj
      refine ⟨⟨cur, k.E, hb⟩, fun _ => ⟨R[j], fun q v hv => ?_, ?_⟩⟩
      · show w.cell? ((⟨g, j * k.z, none⟩ : Addr).add q) = some v
        rw [addr_at]
        exact hr.cell k.hz hjR hv
      · obtain ⟨S1, S3, a, b, c, e⟩ := hx j hjR hj
        exact ⟨S1, S3, a, b.to (Nat.le_succ d), c, e⟩
    · obtain ⟨j, hj, rfl⟩ := hmem i hi; rfl
    · obtain ⟨j, hj, rfl⟩ := hmem i hi; rfl
    · rw [List.nodup_iff_pairwise_ne, List.pairwise_iff_getElem]
      intro x y hx' hy' hxy
      rw [List.getElem_map, List.getElem_map, hget x (by simpa using hx'), hget y (by simpa using hy')]
      intro e
      injection e with _ e2 _
      have := Nat.eq_of_mul_eq_mul_right hz e2
      omega
    · obtain ⟨j, hj, rfl⟩ := hmem i hi
      have hjR : j < R.length := by rw [hlen]; exact hj
      refine ⟨hS b ((hs b).2 (.inr ⟨j, hjR, hib⟩)), fun e => ?_⟩
      subst e
      exact hout j _ hjR hib rfl
    · rw [List.pairwise_iff_getElem]
      intro x y hx' hy' hxy b h4 h5
      rw [hget x hx'] at h4
      rw [hget y hy'] at h5
      have := hap x y b (by rw [hlen, ← hks]; exact hx') (by rw [hlen, ← hks]; exact hy') h4 h5
      omega
end
end Go.Proofs.Ytlgooejoohcmfaa
