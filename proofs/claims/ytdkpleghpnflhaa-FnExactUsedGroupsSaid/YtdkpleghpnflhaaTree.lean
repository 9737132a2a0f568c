/- TREES IN MEMORY: a slice of records each of which holds, in one of its fields, a slice of records of the same kind, and so on: as they are read ('RdL', 'RdN'), as they are the call's own ('OwL', 'OwN': S says which blocks they take). Whatever the records are: 'Kd'. No function is spoken of. -/
import Derived.Test.YtdkpleghpnflhaaOpen
set_option linter.unusedVariables false
set_option linter.unusedSimpArgs false
namespace Go.Proofs.Ytdkpleghpnflhaa
open Go.RowKit

inductive Tr (α : Type) where
  | mk (x : α) (kids : List (Tr α))
namespace Tr
variable {α : Type}
def x : Tr α → α | mk a _ => a
def kids : Tr α → List (Tr α) | mk _ k => k
end Tr
/-- a kind of records: the cells of one, its field of kids, what it says (rd: as read; own: as owned, with the blocks that it takes besides its own cells and kids) -/
structure Kd (α : Type) where
  ρ : Type
  enc : ρ → List Value
  z : Nat
  E : TypeId
  kv : ρ → Value
  hz : ∀ r, (enc r).length = z
  rd : World → ρ → α → Prop
  own : Nat → World → ρ → α → (Nat → Prop) → Prop
  rd_below : ∀ {w w' r x}, rd w r x → Below w.heap.size w w' → rd w' r x
  own_rd : ∀ {B w r x S}, own B w r x S → rd w r x
  own_frame : ∀ {B w w' r x S}, own B w r x S → (∀ b, S b → w'.heap[b]? = w.heap[b]?) → own B w' r x S
  own_lt : ∀ {B w r x S}, own B w r x S → ∀ b, S b → B ≤ b ∧ b < w.heap.size
  own_mono : ∀ {B B' w r x S}, own B w r x S → B' ≤ B → own B' w r x S
section
variable {α : Type}
/-- v is a slice that holds the trees l -/
def RdL (k : Kd α) : Nat → World → Value → List (Tr α) → Prop
  | 0, w, v, l => l = [] ∧ HasR k.enc k.z w v ([] : List k.ρ)
  | d + 1, w, v, l => ∃ R : List k.ρ, HasR k.enc k.z w v R ∧ R.length = l.length ∧ ∀ i (h : i < R.length) (h' : i < l.length), k.rd w R[i] l[i].x ∧ RdL k d w (k.kv R[i]) l[i].kids
/-- r is a record that holds the tree t -/
def RdN (k : Kd α) (d : Nat) (w : World) (r : k.ρ) (t : Tr α) : Prop := k.rd w r t.x ∧ RdL k d w (k.kv r) t.kids
/-- the same, all of it the call's own, from the block B on; S: the blocks that it takes -/
def OwL (k : Kd α) : Nat → Nat → World → Value → List (Tr α) → (Nat → Prop) → Prop
  | 0, B, w, v, l, S => l = [] ∧ RowR k.enc k.z k.E B w v ([] : List k.ρ) ∧ ∀ b, S b ↔ v.ownBlock = some b
  | d + 1, B, w, v, l, S => ∃ (R : List k.ρ) (K : Nat → Nat → Prop), RowR k.enc k.z k.E B w v R ∧ R.length = l.length ∧
      (∀ i (h : i < R.length) (h' : i < l.length), ∃ S1 S2 : Nat → Prop, k.own B w R[i] l[i].x S1 ∧ OwL k d B w (k.kv R[i]) l[i].kids S2 ∧ (∀ b, S1 b → S2 b → False) ∧ ∀ b, K i b ↔ S1 b ∨ S2 b) ∧
      (∀ i j b, i < R.length → j < R.length → K i b → K j b → i = j) ∧
      (∀ i b, i < R.length → K i b → v.ownBlock ≠ some b) ∧
      ∀ b, S b ↔ v.ownBlock = some b ∨ ∃ i, i < R.length ∧ K i b
def OwN (k : Kd α) (d B : Nat) (w : World) (r : k.ρ) (t : Tr α) (S : Nat → Prop) : Prop :=
  ∃ S1 S2 : Nat → Prop, k.own B w r t.x S1 ∧ OwL k d B w (k.kv r) t.kids S2 ∧ (∀ b, S1 b → S2 b → False) ∧ ∀ b, S b ↔ S1 b ∨ S2 b
variable {k : Kd α} {d B B' : Nat} {w w' : World} {v : Value} {l : List (Tr α)} {S S' : Nat → Prop} {r : k.ρ} {t : Tr α}

theorem RdL.below : ∀ {d : Nat} {v : Value} {l : List (Tr α)}, RdL k d w v l → Below w.heap.size w w' → RdL k d w' v l
  | 0, _, _, ⟨h1, h2⟩, hb => ⟨h1, h2.below hb⟩
  | _ + 1, _, _, ⟨R, h1, h2, h3⟩, hb => ⟨R, h1.below hb, h2, fun i h h' => ⟨k.rd_below (h3 i h h').1 hb, RdL.below (h3 i h h').2 hb⟩⟩
theorem RdN.below (h : RdN k d w r t) (hb : Below w.heap.size w w') : RdN k d w' r t := ⟨k.rd_below h.1 hb, h.2.below hb⟩
theorem RdL.deeper : ∀ {d : Nat} {v : Value} {l : List (Tr α)}, RdL k d w v l → RdL k (d + 1) w v l
  | 0, _, _, ⟨h1, h2⟩ => ⟨[], h2, by rw [h1]; rfl, fun i h => absurd h (by simp)⟩
  | _ + 1, _, _, ⟨R, h1, h2, h3⟩ => ⟨R, h1, h2, fun i h h' => ⟨(h3 i h h').1, RdL.deeper (h3 i h h').2⟩⟩
theorem RdL.more (h : RdL k d w v l) (e : Nat) : RdL k (d + e) w v l := by
  induction e with
  | zero => exact h
  | succ e ih => exact ih.deeper
theorem RdL.to {e : Nat} (h : RdL k d w v l) (he : d ≤ e) : RdL k e w v l := by
  obtain ⟨j, rfl⟩ := Nat.le.dest he; exact h.more j
theorem RdL.form (h : RdL k d w v l) : ∃ A cap, v = .slice A l.length cap := by
  cases d with
  | zero => obtain ⟨rfl, A, cap, hv, _⟩ := h; exact ⟨A, cap, hv⟩
  | succ d => obtain ⟨R, ⟨A, cap, hv, _⟩, h2, _⟩ := h; exact ⟨A, cap, by rw [← h2]; exact hv⟩

theorem rowR_frame {α : Type} {enc : α → List Value} {z E B : Nat} {w w' : World} {v : Value} {l : List α} (h : RowR enc z E B w v l) (hf : ∀ b, v.ownBlock = some b → w'.heap[b]? = w.heap[b]?) : RowR enc z E B w' v l := by
  refine ⟨h.1, ?_⟩
  rcases h.2 with hn | ⟨g, cap, cur, rfl, hb, hg, rest⟩
  · exact .inl hn
  · exact .inr ⟨g, cap, cur, rfl, hb, (hf g rfl).trans hg, rest⟩
theorem OwL.frame : ∀ {d : Nat} {v : Value} {l : List (Tr α)} {S : Nat → Prop}, OwL k d B w v l S → (∀ b, S b → w'.heap[b]? = w.heap[b]?) → OwL k d B w' v l S
  | 0, _, _, _, ⟨h1, h2, h3⟩, hf => ⟨h1, rowR_frame h2 fun b hb => hf b ((h3 b).2 hb), h3⟩
  | _ + 1, _, _, _, ⟨R, K, h1, h2, h3, h4, h5, h6⟩, hf => ⟨R, K, rowR_frame h1 fun b hb => hf b ((h6 b).2 (.inl hb)), h2, fun i h h' => by
      obtain ⟨S1, S2, a, b, c, e⟩ := h3 i h h'
      exact ⟨S1, S2, k.own_frame a fun q hq => hf q ((h6 q).2 (.inr ⟨i, h, (e q).2 (.inl hq)⟩)), OwL.frame b fun q hq => hf q ((h6 q).2 (.inr ⟨i, h, (e q).2 (.inr hq)⟩)), c, e⟩, h4, h5, h6⟩
theorem OwN.frame (h : OwN k d B w r t S) (hf : ∀ b, S b → w'.heap[b]? = w.heap[b]?) : OwN k d B w' r t S := by
  obtain ⟨S1, S2, a, b, c, e⟩ := h
  exact ⟨S1, S2, k.own_frame a fun q hq => hf q ((e q).2 (.inl hq)), b.frame fun q hq => hf q ((e q).2 (.inr hq)), c, e⟩
theorem OwL.lt : ∀ {d : Nat} {v : Value} {l : List (Tr α)} {S : Nat → Prop}, OwL k d B w v l S → ∀ b, S b → B ≤ b ∧ b < w.heap.size
  | 0, _, _, _, ⟨_, h2, h3⟩, b, hb => h2.lt ((h3 b).1 hb)
  | _ + 1, _, _, _, ⟨R, K, h1, h2, h3, _, _, h6⟩, b, hb => by
      rcases (h6 b).1 hb with hv | ⟨i, hi, hk⟩
      · exact h1.lt hv
      · obtain ⟨S1, S2, a, c, _, e⟩ := h3 i hi (by rw [← h2]; exact hi)
        rcases (e b).1 hk with h | h
        · exact k.own_lt a b h
        · exact OwL.lt c b h
theorem OwN.lt (h : OwN k d B w r t S) : ∀ b, S b → B ≤ b ∧ b < w.heap.size := fun b hb => by
  obtain ⟨S1, S2, a, c, _, e⟩ := h
  rcases (e b).1 hb with h | h
  · exact k.own_lt a b h
  · exact c.lt b h
theorem OwL.rd : ∀ {d : Nat} {v : Value} {l : List (Tr α)} {S : Nat → Prop}, OwL k d B w v l S → RdL k d w v l
  | 0, _, _, _, ⟨h1, h2, _⟩ => ⟨h1, h2.has k.hz⟩
  | _ + 1, _, _, _, ⟨R, _, h1, h2, h3, _⟩ => ⟨R, h1.has k.hz, h2, fun i h h' => by
      obtain ⟨S1, S2, a, b, _⟩ := h3 i h h'
      exact ⟨k.own_rd a, b.rd⟩⟩
theorem OwN.rd (h : OwN k d B w r t S) : RdN k d w r t := by
  obtain ⟨S1, S2, a, b, _⟩ := h
  exact ⟨k.own_rd a, b.rd⟩
theorem OwL.mono : ∀ {d : Nat} {v : Value} {l : List (Tr α)} {S : Nat → Prop}, OwL k d B w v l S → B' ≤ B → OwL k d B' w v l S
  | 0, _, _, _, ⟨h1, h2, h3⟩, hb => ⟨h1, h2.mono hb, h3⟩
  | _ + 1, _, _, _, ⟨R, K, h1, h2, h3, h4⟩, hb => ⟨R, K, h1.mono hb, h2, fun i h h' => by
      obtain ⟨S1, S2, a, b, c⟩ := h3 i h h'
      exact ⟨S1, S2, k.own_mono a hb, OwL.mono b hb, c⟩, h4⟩
theorem OwN.mono (h : OwN k d B w r t S) (hb : B' ≤ B) : OwN k d B' w r t S := by
  obtain ⟨S1, S2, a, b, c⟩ := h
  exact ⟨S1, S2, k.own_mono a hb, b.mono hb, c⟩
theorem OwL.deeper : ∀ {d : Nat} {v : Value} {l : List (Tr α)} {S : Nat → Prop}, OwL k d B w v l S → OwL k (d + 1) B w v l S
  | 0, _, _, _, ⟨h1, h2, h3⟩ => ⟨[], fun _ _ => False, h2, by rw [h1]; rfl, fun i h => absurd h (by simp), fun i _ _ h => absurd h (by simp), fun i _ h => absurd h (by simp), fun b => by simp [h3 b]⟩
  | _ + 1, _, _, _, ⟨R, K, h1, h2, h3, h4⟩ => ⟨R, K, h1, h2, fun i h h' => by
      obtain ⟨S1, S2, a, b, c⟩ := h3 i h h'
      exact ⟨S1, S2, a, OwL.deeper b, c⟩, h4⟩
theorem OwL.to {e : Nat} (h : OwL k d B w v l S) (he : d ≤ e) : OwL k e B w v l S := by
  obtain ⟨j, rfl⟩ := Nat.le.dest he
  induction j with
  | zero => exact h
  | succ j ih => exact (ih (Nat.le_add_right _ _)).deeper
theorem OwN.to {e : Nat} (h : OwN k d B w r t S) (he : d ≤ e) : OwN k e B w r t S := by
  obtain ⟨S1, S2, a, b, c⟩ := h
  exact ⟨S1, S2, a, b.to he, c⟩
theorem RdN.to {e : Nat} (h : RdN k d w r t) (he : d ≤ e) : RdN k e w r t := ⟨h.1, h.2.to he⟩
theorem OwL.same (h : OwL k d B w v l S) (hs : ∀ b, S' b ↔ S b) : OwL k d B w v l S' := by
  cases d with
  | zero => exact ⟨h.1, h.2.1, fun b => (hs b).trans (h.2.2 b)⟩
  | succ d => obtain ⟨R, K, h1, h2, h3, h4, h5, h6⟩ := h; exact ⟨R, K, h1, h2, h3, h4, h5, fun b => (hs b).trans (h6 b)⟩
theorem OwL.form (h : OwL k d B w v l S) : (v = .slice none 0 0 ∧ l = []) ∨ ∃ g cap, v = .slice (some ⟨g, 0, none⟩) l.length cap ∧ B ≤ g ∧ g < w.heap.size := by
  cases d with
  | zero =>
    obtain ⟨rfl, h2, _⟩ := h
    rcases h2.form with ⟨h1, _⟩ | h1
    · exact .inl ⟨h1, rfl⟩
    · exact .inr h1
  | succ d =>
    obtain ⟨R, K, h1, h2, _⟩ := h
    rcases h1.form with ⟨h3, rfl⟩ | h3
    · exact .inl ⟨h3, List.length_eq_zero_iff.1 (by rw [← h2]; rfl)⟩
    · rw [h2] at h3; exact .inr h3
/-- what lies below is left alone -/
theorem OwL.below (h : OwL k d B w v l S) (hb : Below w.heap.size w w') : OwL k d B w' v l S := h.frame fun b hs => hb.block b (h.lt b hs).2
theorem OwN.below (h : OwN k d B w r t S) (hb : Below w.heap.size w w') : OwN k d B w' r t S := h.frame fun b hs => hb.block b (h.lt b hs).2
/-- another's row grew -/
theorem OwL.other {j : Option Nat} (h : OwL k d B w v l S) (hg : w.grownBy w' j) (hne : ∀ b, S b → some b ≠ j) : OwL k d B w' v l S := h.frame fun b hs => hg.block b (h.lt b hs).2 (hne b hs)
theorem OwN.other {j : Option Nat} (h : OwN k d B w r t S) (hg : w.grownBy w' j) (hne : ∀ b, S b → some b ≠ j) : OwN k d B w' r t S := h.frame fun b hs => hg.block b (h.lt b hs).2 (hne b hs)

theorem owL_nil (k : Kd α) (d B : Nat) (w : World) : OwL k d B w (.slice none 0 0) [] (fun _ => False) := by
  have h : OwL k 0 B w (.slice none 0 0) [] (fun _ => False) := ⟨rfl, ⟨by simp, .inl ⟨rfl, rfl⟩⟩, fun b => by simp [Value.ownBlock]⟩
  exact h.to (Nat.zero_le d)
/-- a new empty list -/
theorem owL_new (k : Kd α) (d B : Nat) (w : World) (hB : B ≤ w.heap.size) : OwL k d B (w.alloc (.cells #[] k.E)) (.slice (some ⟨w.heap.size, 0, none⟩) 0 0) [] (fun b => b = w.heap.size) := by
  have h : OwL k 0 B (w.alloc (.cells #[] k.E)) (.slice (some ⟨w.heap.size, 0, none⟩) 0 0) [] (fun b => b = w.heap.size) :=
    ⟨rfl, rowR_empty (heap_alloc_new w _) hB, fun b => by simp [Value.ownBlock, eq_comm]⟩
  exact h.to (Nat.zero_le d)
/-- the list, opened: its records; and the list with one more tree: v' holds the records of v and then r -/
theorem OwL.grow (h : OwL k (d + 1) B w v l S) : ∃ R : List k.ρ, RowR k.enc k.z k.E B w v R ∧ R.length = l.length ∧ ∀ {w' : World} {v' : Value} {r : k.ρ} {t : Tr α} {Sr : Nat → Prop}, OwN k d B w r t Sr → (∀ b, S b → Sr b → False) → RowR k.enc k.z k.E B w' v' (R ++ [r]) → w.grownBy w' v.ownBlock → (v'.ownBlock = v.ownBlock ∨ ∃ g, v'.ownBlock = some g ∧ w.heap.size ≤ g) →
    OwL k (d + 1) B w' v' (l ++ [t]) (fun b => v'.ownBlock = some b ∨ (S b ∧ v.ownBlock ≠ some b) ∨ Sr b) := by
  obtain ⟨R0, K, h1, h2, h3, h4, h5, h6⟩ := h
  refine ⟨R0, h1, h2, ?_⟩
  intro w' v' r t Sr hr hdis hrow hg hv
  have hKlt : ∀ i b, i < R0.length → K i b → B ≤ b ∧ b < w.heap.size := fun i b hi hk => by
    obtain ⟨S1, S2, a, c, _, e⟩ := h3 i hi (by rw [← h2]; exact hi)
    rcases (e b).1 hk with hh | hh
    · exact k.own_lt a b hh
    · exact c.lt b hh
  have hKf : ∀ i b, i < R0.length → K i b → w'.heap[b]? = w.heap[b]? := fun i b hi hk => hg.block b (hKlt i b hi hk).2 (fun e => h5 i b hi hk e.symm)
  have hrf : ∀ b, Sr b → w'.heap[b]? = w.heap[b]? := fun b hb => hg.block b (hr.lt b hb).2 (fun e => hdis b ((h6 b).2 (.inl e.symm)) hb)
  have hr' := hr.frame hrf
  refine ⟨R0 ++ [r], fun i b => (i < R0.length ∧ K i b) ∨ (i = R0.length ∧ Sr b), hrow, by simp [h2], fun i hi hi' => ?_, fun i j b hi hj hki hkj => ?_, fun i b hi hk => ?_, fun b => ?_⟩
  · by_cases hlt : i < R0.length
    · obtain ⟨S1, S2, a, c, e, f⟩ := h3 i hlt (by rw [← h2]; exact hlt)
      have g1 : (R0 ++ [r])[i] = R0[i] := List.getElem_append_left hlt
      have g2 : (l ++ [t])[i] = l[i]'(by rw [← h2]; exact hlt) := List.getElem_append_left (by rw [← h2]; exact hlt)
      rw [g1, g2]
      exact ⟨S1, S2, k.own_frame a fun b hb => hKf i b hlt ((f b).2 (.inl hb)), c.frame fun b hb => hKf i b hlt ((f b).2 (.inr hb)), e, fun b => by
        constructor
        · rintro (⟨_, hk⟩ | ⟨he, _⟩)
          · exact (f b).1 hk
          · omega
        · intro hs; exact .inl ⟨hlt, (f b).2 hs⟩⟩
    · have hi2 : i = R0.length := by simp at hi; omega
      subst hi2
      have g1 : (R0 ++ [r])[R0.length] = r := by simp
      have g2 : (l ++ [t])[R0.length] = t := by rw [List.getElem_append_right (by omega)]; simp [h2]
      rw [g1, g2]
      obtain ⟨S1, S2, a, c, e, f⟩ := hr'
      exact ⟨S1, S2, a, c, e, fun b => by
        constructor
        · rintro (⟨hlt, _⟩ | ⟨_, hk⟩)
          · omega
          · exact (f b).1 hk
        · intro hs; exact .inr ⟨rfl, (f b).2 hs⟩⟩
  · rcases hki with ⟨hi', hki⟩ | ⟨hi', hki⟩ <;> rcases hkj with ⟨hj', hkj⟩ | ⟨hj', hkj⟩
    · exact h4 i j b hi' hj' hki hkj
    · exact absurd hkj (fun hh => hdis b ((h6 b).2 (.inr ⟨i, hi', hki⟩)) hh)
    · exact absurd hki (fun hh => hdis b ((h6 b).2 (.inr ⟨j, hj', hkj⟩)) hh)
    · omega
  · have hblt : b < w.heap.size ∧ v.ownBlock ≠ some b := by
      rcases hk with ⟨hi', hk⟩ | ⟨_, hk⟩
      · exact ⟨(hKlt i b hi' hk).2, h5 i b hi' hk⟩
      · exact ⟨(hr.lt b hk).2, fun e => hdis b ((h6 b).2 (.inl e)) hk⟩
    rcases hv with hv | ⟨g, hv, hgl⟩
    · rw [hv]; exact hblt.2
    · rw [hv]; intro e; have := Option.some.inj e; omega
  · constructor
    · rintro (hh | ⟨hs, hne⟩ | hs)
      · exact .inl hh
      · rcases (h6 b).1 hs with hh | ⟨i, hi, hk⟩
        · exact absurd hh hne
        · exact .inr ⟨i, by simp; omega, .inl ⟨hi, hk⟩⟩
      · exact .inr ⟨R0.length, by simp, .inr ⟨rfl, hs⟩⟩
    · rintro (hh | ⟨i, hi, ⟨hi', hk⟩ | ⟨hi', hk⟩⟩)
      · exact .inl hh
      · exact .inr (.inl ⟨(h6 b).2 (.inr ⟨i, hi', hk⟩), h5 i b hi' hk⟩)
      · exact .inr (.inr hk)
/-- the list, opened for reading and writing: each tree with its blocks, and how they are put together again -/
theorem OwL.parts (h : OwL k (d + 1) B w v l S) : ∃ (R : List k.ρ) (K : Nat → Nat → Prop), RowR k.enc k.z k.E B w v R ∧ R.length = l.length ∧ (∀ i (h : i < R.length) (h' : i < l.length), OwN k d B w R[i] l[i] (K i)) ∧
      (∀ i j b, i < R.length → j < R.length → K i b → K j b → i = j) ∧ (∀ i b, i < R.length → K i b → v.ownBlock ≠ some b) ∧ ∀ b, S b ↔ v.ownBlock = some b ∨ ∃ i, i < R.length ∧ K i b := h
theorem OwL.whole {R : List k.ρ} {K : Nat → Nat → Prop} (h1 : RowR k.enc k.z k.E B w v R) (h2 : R.length = l.length) (h3 : ∀ i (h : i < R.length) (h' : i < l.length), OwN k d B w R[i] l[i] (K i))
      (h4 : ∀ i j b, i < R.length → j < R.length → K i b → K j b → i = j) (h5 : ∀ i b, i < R.length → K i b → v.ownBlock ≠ some b) (h6 : ∀ b, S b ↔ v.ownBlock = some b ∨ ∃ i, i < R.length ∧ K i b) : OwL k (d + 1) B w v l S := ⟨R, K, h1, h2, h3, h4, h5, h6⟩
/-- '[]T{x}' -/
theorem owL_one (h : OwN k d B w r t S) (hB : B ≤ w.heap.size) (h0 : 0 < k.z) (hc : ∀ v ∈ k.enc r, v.oneCell' = true) : OwL k (d + 1) B (w.alloc (.cells (k.enc r).toArray k.E)) (.slice (some ⟨w.heap.size, 0, none⟩) 1 1) [t] (fun b => b = w.heap.size ∨ S b) := by
  have hb := h.below ((Below.refl w.heap.size w).alloc (Nat.le_refl _) (.cells (k.enc r).toArray k.E))
  refine OwL.whole (R := [r]) (K := fun _ => S) ⟨by simp [k.hz], .inr ⟨w.heap.size, 1, (k.enc r).toArray, rfl, hB, heap_alloc_new w _, by simp, by unfold maxLen; omega, by simp [k.hz], by simp [List.take_of_length_le (Nat.le_of_eq (k.hz r))]⟩⟩ rfl ?_ ?_ ?_ ?_
  · intro i hi hi'
    obtain rfl : i = 0 := by simp at hi; omega
    exact hb
  · intro i j b hi hj _ _; simp at hi hj; omega
  · intro i b _ hk e
    have := (h.lt b hk).2
    have := Option.some.inj e
    simp at this; omega
  · intro b
    constructor
    · rintro (rfl | hs)
      · exact .inl rfl
      · exact .inr ⟨0, by simp, hs⟩
    · rintro (e | ⟨_, _, hs⟩)
      · have := Option.some.inj e; exact .inl this.symm
      · exact .inr hs
/-- what has turned lies in S or is new -/
structure TurnsAt (S : Nat → Prop) (w w' : World) : Prop where
  os : w'.os = w.os
  tape : w'.tape = w.tape
  output : w'.output = w.output
  size : w.heap.size ≤ w'.heap.size
  block : ∀ b, b < w.heap.size → ¬ S b → w'.heap[b]? = w.heap[b]?
variable {w'' : World}
theorem TurnsAt.refl (S : Nat → Prop) (w : World) : TurnsAt S w w := ⟨rfl, rfl, rfl, Nat.le_refl _, fun _ _ _ => rfl⟩
theorem TurnsAt.trans (h : TurnsAt S w w') (h' : TurnsAt S w' w'') : TurnsAt S w w'' :=
  ⟨h'.os.trans h.os, h'.tape.trans h.tape, h'.output.trans h.output, Nat.le_trans h.size h'.size, fun b hb hs => (h'.block b (Nat.lt_of_lt_of_le hb h.size) hs).trans (h.block b hb hs)⟩
theorem TurnsAt.mono (h : TurnsAt S w w') (hs : ∀ b, S b → b < w.heap.size → S' b) : TurnsAt S' w w' := ⟨h.os, h.tape, h.output, h.size, fun b hb hn => h.block b hb fun hh => hn (hs b hh hb)⟩
theorem below_turns (h : Below w.heap.size w w') : TurnsAt S w w' := ⟨h.os, h.tape, h.output, h.size, fun b hb _ => h.block b hb⟩
theorem grown_turns {j : Option Nat} (h : w.grownBy w' j) (hs : ∀ b, j = some b → S b) : TurnsAt S w w' := ⟨h.os, h.tape, h.output, h.size, fun b hb hn => h.block b hb fun e => hn (hs b e.symm)⟩
theorem TurnsAt.below (h : TurnsAt S w w') {B : Nat} (hb : B ≤ w.heap.size) (hs : ∀ b, S b → B ≤ b) : Below B w w' := ⟨h.os, h.tape, h.output, h.size, fun b hlt => h.block b (Nat.lt_of_lt_of_le hlt hb) fun hh => Nat.lt_irrefl _ (Nat.lt_of_lt_of_le hlt (hs b hh))⟩
theorem OwL.apart (h : OwL k d B w v l S) (ht : TurnsAt S' w w') (hd : ∀ b, S b → S' b → False) : OwL k d B w' v l S := h.frame fun b hb => ht.block b (h.lt b hb).2 (hd b hb)
theorem OwN.apart (h : OwN k d B w r t S) (ht : TurnsAt S' w w') (hd : ∀ b, S b → S' b → False) : OwN k d B w' r t S := h.frame fun b hb => ht.block b (h.lt b hb).2 (hd b hb)
theorem rowR_apart {α : Type} {enc : α → List Value} {z E B : Nat} {w w' : World} {v : Value} {l : List α} {S' : Nat → Prop} (h : RowR enc z E B w v l) (ht : TurnsAt S' w w') (hd : ∀ b, v.ownBlock = some b → S' b → False) : RowR enc z E B w' v l :=
  rowR_frame h fun b hb => ht.block b (h.lt hb).2 (hd b hb)
theorem OwL.set {b j : Nat} {u : Value} (h : OwL k d B w v l S) (hb : b < B) : OwL k d B (w.setCell ⟨b, j, none⟩ u) v l S := h.frame fun q hq => Below.heap_setCell w ⟨b, j, none⟩ u q (fun e => by have := (h.lt q hq).1; simp at e; omega)
theorem OwN.set {b j : Nat} {u : Value} (h : OwN k d B w r t S) (hb : b < B) : OwN k d B (w.setCell ⟨b, j, none⟩ u) r t S := h.frame fun q hq => Below.heap_setCell w ⟨b, j, none⟩ u q (fun e => by have := (h.lt q hq).1; simp at e; omega)
theorem OwL.al (h : OwL k d B w v l S) (o : Obj) : OwL k d B (w.alloc o) v l S := h.below ((Below.refl _ _).alloc (Nat.le_refl _) _)
theorem OwN.al (h : OwN k d B w r t S) (o : Obj) : OwN k d B (w.alloc o) r t S := h.below ((Below.refl _ _).alloc (Nat.le_refl _) _)
theorem below_set {W W' : World} {b j : Nat} {u : Value} (h : Below W.heap.size W W') (hb : W.heap.size ≤ b) : Below W.heap.size W (W'.setCell ⟨b, j, none⟩ u) := h.setCell (p := ⟨b, j, none⟩) hb u
/-- '[]T{x, y}' -/
theorem owL_two {r2 : k.ρ} {t2 : Tr α} {S2 : Nat → Prop} (h : OwN k d B w r t S) (h2 : OwN k d B w r2 t2 S2) (hd : ∀ b, S b → S2 b → False) (hB : B ≤ w.heap.size) :
    OwL k (d + 1) B (w.alloc (.cells (k.enc r ++ k.enc r2).toArray k.E)) (.slice (some ⟨w.heap.size, 0, none⟩) 2 2) [t, t2] (fun b => b = w.heap.size ∨ S b ∨ S2 b) := by
  have hb := h.al (.cells (k.enc r ++ k.enc r2).toArray k.E)
  have hb2 := h2.al (.cells (k.enc r ++ k.enc r2).toArray k.E)
  have hlen : (k.enc r ++ k.enc r2).length = 2 * k.z := by rw [List.length_append, k.hz, k.hz]; omega
  refine OwL.whole (R := [r, r2]) (K := fun i => if i = 0 then S else S2) ⟨by simp [k.hz]; omega, .inr ⟨w.heap.size, 2, (k.enc r ++ k.enc r2).toArray, rfl, hB, heap_alloc_new w _, by simp, by unfold maxLen; omega, by simpa using hlen, by simp [List.take_of_length_le (Nat.le_of_eq hlen)]⟩⟩ rfl ?_ ?_ ?_ ?_
  · intro i hi hi'
    match i, hi with
    | 0, _ => exact hb
    | 1, _ => exact hb2
  · intro i j b hi hj hki hkj
    match i, j, hi, hj with
    | 0, 0, _, _ => rfl
    | 1, 1, _, _ => rfl
    | 0, 1, _, _ => exact absurd hkj (fun hh => hd b hki hh)
    | 1, 0, _, _ => exact absurd hki (fun hh => hd b hkj hh)
  · intro i b hi hk e
    have : b < w.heap.size := by
      match i, hi with
      | 0, _ => exact (h.lt b hk).2
      | 1, _ => exact (h2.lt b hk).2
    have := Option.some.inj e
    simp at this; omega
  · intro b
    constructor
    · rintro (rfl | hs | hs)
      · exact .inl rfl
      · exact .inr ⟨0, by simp, hs⟩
      · exact .inr ⟨1, by simp, hs⟩
    · rintro (e | ⟨i, hi, hs⟩)
      · have := Option.some.inj e; exact .inl this.symm
      · match i, hi with
        | 0, _ => exact .inr (.inl hs)
        | 1, _ => exact .inr (.inr hs)
end
end Go.Proofs.Ytdkpleghpnflhaa
