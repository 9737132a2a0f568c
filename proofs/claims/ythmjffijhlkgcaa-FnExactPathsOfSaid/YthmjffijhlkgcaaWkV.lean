/- CHAPTER 9: WHAT A WALK TELLS: the list of visits, from the stack as it is meant. Plain mathematics. -/
import Derived.Test.YthmjffijhlkgcaaWkS
set_option linter.unusedVariables false
set_option linter.unusedSimpArgs false
namespace Go.Proofs.Ythmjffijhlkgcaa
open Go.RowKit

/-- the visits that a stack is good for (the top first); kids: what the walk puts on the stack below an item -/
inductive Tells {α : Type} (kids : It α → List (It α) → Prop) : List (It α) → List (It α × Bool) → Prop
  | nil : Tells kids [] []
  | close {p : It α} {rest : List (It α)} {L : List (It α × Bool)} : p.op = true → Tells kids rest L → Tells kids (p :: rest) ((p, false) :: L)
  | op {p : It α} {rest ks : List (It α)} {L : List (It α × Bool)} : p.op = false → kids p ks → Tells kids (ks ++ p.open :: rest) L → Tells kids (p :: rest) ((p, true) :: L)
section
variable {α : Type} {kids : It α → List (It α) → Prop}
/-- what is asked of the kids: not open yet; all kids of the tree, or none -/
def KidsOk (kids : It α → List (It α) → Prop) : Prop := ∀ p ks, kids p ks → (∀ i ∈ ks, i.op = false) ∧ (ks = [] ∨ ks.map (·.t) = p.t.kids)
theorem kids_less (hk : KidsOk kids) {p : It α} {rest ks : List (It α)} (hp : p.op = false) (h : kids p ks) : weight (ks ++ p.open :: rest) < weight (p :: rest) := by
  obtain ⟨h1, h2⟩ := hk p ks h
  rcases h2 with rfl | h2
  · exact weight_open_none hp
  · exact weight_open hp h1 h2
theorem Tells.exists (hk : KidsOk kids) (G : It α → Prop) (hG : ∀ p, G p → p.op = false → ∃ ks, kids p ks ∧ ∀ i ∈ ks, G i) (hO : ∀ p, G p → G p.open) : ∀ (n : Nat) (st : List (It α)), weight st ≤ n → (∀ i ∈ st, G i) → ∃ L, Tells kids st L
  | _, [], _, _ => ⟨[], .nil⟩
  | 0, p :: rest, hn, _ => by
    cases hp : p.op with
    | true => have := weight_close (rest := rest) hp; omega
    | false => have := weight_open_none (rest := rest) hp; omega
  | n + 1, p :: rest, hn, hg => by
    cases hp : p.op with
    | true =>
      obtain ⟨L, h⟩ := Tells.exists hk G hG hO n rest (by have := weight_close (rest := rest) hp; omega) (fun i hi => hg i (List.mem_cons_of_mem _ hi))
      exact ⟨_, .close hp h⟩
    | false =>
      obtain ⟨ks, h1, h2⟩ := hG p (hg p (by simp)) hp
      obtain ⟨L, h⟩ := Tells.exists hk G hG hO n (ks ++ p.open :: rest) (by have := kids_less (rest := rest) hk hp h1; omega) (fun i hi => by
        rcases List.mem_append.1 hi with hi | hi
        · exact h2 i hi
        · rcases List.mem_cons.1 hi with rfl | hi
          · exact hO p (hg p (by simp))
          · exact hg i (List.mem_cons_of_mem _ hi))
      exact ⟨_, .op hp h1 h⟩
theorem len_weight : ∀ (st : List (It α)), st.length ≤ weight st
  | [] => Nat.le_refl _
  | p :: rest => by
    have h := len_weight rest
    cases hp : p.op with
    | true => have := weight_close (rest := rest) hp; simp only [List.length_cons]; omega
    | false =>
      have h1 := weight_open_none (rest := rest) hp
      have h2 := weight_close (p := p.open) (rest := rest) rfl
      simp only [List.length_cons]; omega
/-- a count over the visits -/
theorem Tells.count (f : Tr α → Nat) (hf : ∀ p ks, kids p ks → f p.t = 1 + (ks.map fun i => f i.t).sum) (hk : KidsOk kids) {st : List (It α)} {L : List (It α × Bool)} (h : Tells kids st L) :
    (L.filter (·.2)).length = (st.map fun i => if i.op = true then 0 else f i.t).sum := by
  induction h with
  | nil => rfl
  | close hp _ ih => simp [hp, ih]
  | @op p rest ks L hp hks _ ih =>
    have hc : (ks.map fun i => if i.op = true then 0 else f i.t) = ks.map fun i => f i.t := List.map_congr_left fun i hi => by rw [(hk p ks hks).1 i hi]; simp
    rw [List.map_append, List.sum_append, hc, List.map_cons, List.sum_cons] at ih
    have hop : p.open.op = true := rfl
    simp only [List.filter_cons_of_pos, List.length_cons, List.map_cons, List.sum_cons, hp, ih, hop]
    have := hf p ks hks
    simp
    omega
end
/-- the last of a row goes -/
theorem rowR_short {α : Type} {enc : α → List Value} {z E B g c : Nat} {w : World} {l : List α} {x : α} (hz : ∀ x, (enc x).length = z) (h : RowR enc z E B w (.slice (some ⟨g, 0, none⟩) (l.length + 1) c) (l ++ [x])) : RowR enc z E B w (.slice (some ⟨g, 0, none⟩) l.length c) l := by
  obtain ⟨h1, h2⟩ := h
  refine ⟨flat_len hz l, ?_⟩
  rcases h2 with ⟨h2, _⟩ | ⟨g', cap, cur, h3, h4, h5, h6, h7, h8, h9⟩
  · cases h2
  · simp only [Value.slice.injEq, Option.some.injEq, Addr.mk.injEq] at h3
    obtain ⟨⟨rfl, _⟩, _, rfl⟩ := h3
    refine .inr ⟨g, c, cur, rfl, h4, h5, by simp at h6; omega, h7, h8, ?_⟩
    have := congrArg (List.take (l.length * z)) h9
    rw [List.take_take, List.length_append, List.length_singleton, Nat.min_eq_left (Nat.mul_le_mul_right _ (Nat.le_succ _)), List.flatMap_append, List.take_append_of_le_length (by rw [flat_len hz]; exact Nat.le_refl _)] at this
    exact this.trans (List.take_of_length_le (by rw [flat_len hz]; exact Nat.le_refl _))
end Go.Proofs.Ythmjffijhlkgcaa
