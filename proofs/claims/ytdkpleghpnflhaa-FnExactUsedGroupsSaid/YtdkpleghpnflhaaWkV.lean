/- MERGED for a claim: WkB WkV. -/
import Derived.Test.YtdkpleghpnflhaaWkA
set_option linter.unusedVariables false
set_option linter.unusedSimpArgs false
/- WALKING A FOREST: what the stack's pointers find in memory; the kids of what the call owns, as new items. No function is spoken of. -/
namespace Go.Proofs.Ytdkpleghpnflhaa
open Go.RowKit

/-- what lies at an item's pointer: a plain block; if it is not open, its record, whose lists are owned -/
def MemI {α : Type} (k : Kd α) (d B : Nat) (w : World) (i : It α) : Prop :=
  Blk w i.a ∧ (i.op = false → ∃ r : k.ρ, (∀ j v, (k.enc r)[j]? = some v → w.cell? (i.a.add j) = some v) ∧ OwN k d B w r i.t i.S)
section
variable {α : Type} {k : Kd α} {d B : Nat} {w w' : World} {i : It α}
theorem MemI.open (h : MemI k d B w i) : MemI k d B w i.open := ⟨h.1, fun e => by cases e⟩
theorem MemI.to {e : Nat} (h : MemI k d B w i) (he : d ≤ e) : MemI k e B w i := ⟨h.1, fun ho => by obtain ⟨r, h1, h2⟩ := h.2 ho; exact ⟨r, h1, h2.to he⟩⟩
/-- a world in which the item's own block and its lists' blocks are as they were -/
theorem MemI.frame (h : MemI k d B w i) (ha : w'.heap[i.a.block]? = w.heap[i.a.block]?) (hS : i.op = false → ∀ b, i.S b → w'.heap[b]? = w.heap[b]?) : MemI k d B w' i := by
  refine ⟨?_, fun ho => ?_⟩
  · obtain ⟨cs, t, hb⟩ := h.1
    exact ⟨cs, t, ha.trans hb⟩
  · obtain ⟨r, h1, h2⟩ := h.2 ho
    refine ⟨r, fun j v hv => ?_, h2.frame (hS ho)⟩
    rw [World.cell?_of_block (w := w) (by rw [addr_blk]; exact ha)]
    exact h1 j v hv
theorem MemI.lt (h : MemI k d B w i) : i.a.block < w.heap.size := by
  obtain ⟨cs, t, hb⟩ := h.1
  exact (Array.getElem?_eq_some_iff.1 hb).1
theorem MemI.below (h : MemI k d B w i) (hb : Below w.heap.size w w') : MemI k d B w' i :=
  h.frame (hb.block _ h.lt) fun ho b hs => by obtain ⟨r, _, h2⟩ := h.2 ho; exact hb.block b (h2.lt b hs).2
/-- an owned list of trees as items of the stack -/
theorem kids_items (hz : 0 < k.z) {p : It α} {v : Value} {l : List (Tr α)} {S2 : Nat → Prop} (h : OwL k d B w v l S2) (hS : ∀ b, S2 b → p.S b) :
    (l = [] ∧ v = .slice none 0 0) ∨ ∃ g cap ks, v = .slice (some ⟨g, 0, none⟩) l.length cap ∧ B ≤ g ∧ g < w.heap.size ∧ ks.map (·.t) = l ∧ ks.length = l.length ∧ (∀ j (hj : j < ks.length), ks[j].a = ⟨g, j * k.z, none⟩) ∧ (∀ i ∈ ks, MemI k d B w i) ∧ (p.S g → KidsOf p g ks) ∧ p.S g := by
  rcases h.form with ⟨h1, h2⟩ | ⟨g, cap, h1, h2, h3⟩
  · exact .inl ⟨h2, h1⟩
  subst h1
  refine .inr ⟨g, cap, ?_⟩
  cases d with
  | zero =>
    obtain ⟨rfl, hr, hs⟩ := h
    have hg : p.S g := hS g ((hs g).2 rfl)
    exact ⟨[], rfl, h2, h3, rfl, rfl, fun j hj => absurd hj (by simp), fun i hi => absurd hi (by simp), fun _ => ⟨fun i hi => absurd hi (by simp), fun i hi => absurd hi (by simp), by simp, hg, fun i hi => absurd hi (by simp), .nil⟩, hg⟩
  | succ d =>
    obtain ⟨R, K, hr, hlen, hx, hap, hout, hs⟩ := h
    have hg : p.S g := hS g ((hs g).2 (.inl rfl))
    have hb : ∃ cur, w.heap[g]? = some (.cells cur k.E (0, 0)) := by
      rcases hr.2 with ⟨h1, _⟩ | ⟨g', cap', cur, h1, _, h4, _⟩
      · exact absurd h1.symm (by simp)
      · injection h1 with e1 e2 e3
        injection e1 with e1
        injection e1 with e1
        subst e1
        exact ⟨cur, h4⟩
    obtain ⟨cur, hb⟩ := hb
    let ks : List (It α) := List.ofFn fun q : Fin l.length => ⟨⟨g, q.1 * k.z, none⟩, l[q.1], K q.1, false⟩
    have hks : ks.length = l.length := List.length_ofFn
    have hget : ∀ j (hj : j < ks.length), ks[j] = ⟨⟨g, j * k.z, none⟩, l[j]'(by rw [← hks]; exact hj), K j, false⟩ := fun j hj => by simp [ks]
    have hmem : ∀ i ∈ ks, ∃ j, ∃ hj : j < l.length, i = ⟨⟨g, j * k.z, none⟩, l[j], K j, false⟩ := fun i hi => by
      obtain ⟨j, hj, e⟩ := List.getElem_of_mem hi
      exact ⟨j, by rw [← hks]; exact hj, by rw [← e, hget j hj]⟩
    refine ⟨ks, rfl, h2, h3, ?_, hks, fun j hj => by rw [hget j hj], fun i hi => ?_, fun _ => ⟨fun i hi => ?_, fun i hi => ?_, ?_, hg, fun i hi b hib => ?_, ?_⟩, hg⟩
    · refine List.ext_getElem (by rw [List.length_map, hks]) fun j h4 h5 => ?_
      rw [List.getElem_map, hget j (by simpa using h4)]
    · obtain ⟨j, hj, rfl⟩ := hmem i hi
      have hjR : j < R.length := by rw [hlen]; exact hj
      refine ⟨⟨cur, k.E, hb⟩, fun _ => ⟨R[j], fun q v hv => ?_, ?_⟩⟩
      · show w.cell? ((⟨g, j * k.z, none⟩ : Addr).add q) = some v
        rw [addr_at]
        exact hr.cell k.hz hjR hv
      · obtain ⟨S1, S3, a, b, c, e⟩ := hx j hjR hj
        exact ⟨S1, S3, a, b.to (Nat.le_succ d), c, e⟩
    · obtain ⟨j, hj, rfl⟩ := hmem i hi; rfl
    · obtain ⟨j, hj, rfl⟩ := hmem i hi; rfl
    · rw [List.nodup_iff_pairwise_ne, List.pairwise_iff_getElem]
      intro x y hx' hy' hxy
      rw [List.getElem_map, List.getElem_map, hget x (by simpa using hx'), hget y (by simpa using hy')]
      intro e
      injection e with _ e2 _
      have := Nat.eq_of_mul_eq_mul_right hz e2
      omega
    · obtain ⟨j, hj, rfl⟩ := hmem i hi
      have hjR : j < R.length := by rw [hlen]; exact hj
      refine ⟨hS b ((hs b).2 (.inr ⟨j, hjR, hib⟩)), fun e => ?_⟩
      subst e
      exact hout j _ hjR hib rfl
    · rw [List.pairwise_iff_getElem]
      intro x y hx' hy' hxy b h4 h5
      rw [hget x hx'] at h4
      rw [hget y hy'] at h5
      have := hap x y b (by rw [hlen, ← hks]; exact hx') (by rw [hlen, ← hks]; exact hy') h4 h5
      omega
end
end Go.Proofs.Ytdkpleghpnflhaa

/- CHAPTER 9: WHAT A WALK TELLS: the list of visits, from the stack as it is meant. Plain mathematics. -/
namespace Go.Proofs.Ytdkpleghpnflhaa
open Go.RowKit

/-- the visits that a stack is good for (the top first); kids: what the walk puts on the stack below an item -/
inductive Tells {α : Type} (kids : It α → List (It α) → Prop) : List (It α) → List (It α × Bool) → Prop
  | nil : Tells kids [] []
  | close {p : It α} {rest : List (It α)} {L : List (It α × Bool)} : p.op = true → Tells kids rest L → Tells kids (p :: rest) ((p, false) :: L)
  | op {p : It α} {rest ks : List (It α)} {L : List (It α × Bool)} : p.op = false → kids p ks → Tells kids (ks ++ p.open :: rest) L → Tells kids (p :: rest) ((p, true) :: L)
section
variable {α : Type} {kids : It α → List (It α) → Prop}
/-- what is asked of the kids: not open yet; all kids of the tree, or none -/
def KidsOk (kids : It α → List (It α) → Prop) : Prop := ∀ p ks, kids p ks → (∀ i ∈ ks, i.op = false) ∧ (ks = [] ∨ ks.map (·.t) = p.t.kids)
theorem kids_less (hk : KidsOk kids) {p : It α} {rest ks : List (It α)} (hp : p.op = false) (h : kids p ks) : weight (ks ++ p.open :: rest) < weight (p :: rest) := by
  obtain ⟨h1, h2⟩ := hk p ks h
  rcases h2 with rfl | h2
  · exact weight_open_none hp
  · exact weight_open hp h1 h2
theorem Tells.exists (hk : KidsOk kids) (G : It α → Prop) (hG : ∀ p, G p → p.op = false → ∃ ks, kids p ks ∧ ∀ i ∈ ks, G i) (hO : ∀ p, G p → G p.open) : ∀ (n : Nat) (st : List (It α)), weight st ≤ n → (∀ i ∈ st, G i) → ∃ L, Tells kids st L
  | _, [], _, _ => ⟨[], .nil⟩
  | 0, p :: rest, hn, _ => by
    cases hp : p.op with
    | true => have := weight_close (rest := rest) hp; omega
    | false => have := weight_open_none (rest := rest) hp; omega
  | n + 1, p :: rest, hn, hg => by
    cases hp : p.op with
    | true =>
      obtain ⟨L, h⟩ := Tells.exists hk G hG hO n rest (by have := weight_close (rest := rest) hp; omega) (fun i hi => hg i (List.mem_cons_of_mem _ hi))
      exact ⟨_, .close hp h⟩
    | false =>
      obtain ⟨ks, h1, h2⟩ := hG p (hg p (by simp)) hp
      obtain ⟨L, h⟩ := Tells.exists hk G hG hO n (ks ++ p.open :: rest) (by have := kids_less (rest := rest) hk hp h1; omega) (fun i hi => by
        rcases List.mem_append.1 hi with hi | hi
        · exact h2 i hi
        · rcases List.mem_cons.1 hi with rfl | hi
          · exact hO p (hg p (by simp))
          · exact hg i (List.mem_cons_of_mem _ hi))
      exact ⟨_, .op hp h1 h⟩
theorem len_weight : ∀ (st : List (It α)), st.length ≤ weight st
  | [] => Nat.le_refl _
  | p :: rest => by
    have h := len_weight rest
    cases hp : p.op with
    | true => have := weight_close (rest := rest) hp; simp only [List.length_cons]; omega
    | false =>
      have h1 := weight_open_none (rest := rest) hp
      have h2 := weight_close (p := p.open) (rest := rest) rfl
      simp only [List.length_cons]; omega
/-- a count over the visits -/
theorem Tells.count (f : Tr α → Nat) (hf : ∀ p ks, kids p ks → f p.t = 1 + (ks.map fun i => f i.t).sum) (hk : KidsOk kids) {st : List (It α)} {L : List (It α × Bool)} (h : Tells kids st L) :
    (L.filter (·.2)).length = (st.map fun i => if i.op = true then 0 else f i.t).sum := by
  induction h with
  | nil => rfl
  | close hp _ ih => simp [hp, ih]
  | @op p rest ks L hp hks _ ih =>
    have hc : (ks.map fun i => if i.op = true then 0 else f i.t) = ks.map fun i => f i.t := List.map_congr_left fun i hi => by rw [(hk p ks hks).1 i hi]; simp
    rw [List.map_append, List.sum_append, hc, List.map_cons, List.sum_cons] at ih
    have hop : p.open.op = true := rfl
    simp only [List.filter_cons_of_pos, List.length_cons, List.map_cons, List.sum_cons, hp, ih, hop]
    have := hf p ks hks
    simp
    omega
end
/-- the last of a row goes -/
theorem rowR_short {α : Type} {enc : α → List Value} {z E B g c : Nat} {w : World} {l : List α} {x : α} (hz : ∀ x, (enc x).length = z) (h : RowR enc z E B w (.slice (some ⟨g, 0, none⟩) (l.length + 1) c) (l ++ [x])) : RowR enc z E B w (.slice (some ⟨g, 0, none⟩) l.length c) l := by
  obtain ⟨h1, h2⟩ := h
  refine ⟨flat_len hz l, ?_⟩
  rcases h2 with ⟨h2, _⟩ | ⟨g', cap, cur, h3, h4, h5, h6, h7, h8, h9⟩
  · cases h2
  · simp only [Value.slice.injEq, Option.some.injEq, Addr.mk.injEq] at h3
    obtain ⟨⟨rfl, _⟩, _, rfl⟩ := h3
    refine .inr ⟨g, c, cur, rfl, h4, h5, by simp at h6; omega, h7, h8, ?_⟩
    have := congrArg (List.take (l.length * z)) h9
    rw [List.take_take, List.length_append, List.length_singleton, Nat.min_eq_left (Nat.mul_le_mul_right _ (Nat.le_succ _)), List.flatMap_append, List.take_append_of_le_length (by rw [flat_len hz]; exact Nat.le_refl _)] at this
    exact this.trans (List.take_of_length_le (by rw [flat_len hz]; exact Nat.le_refl _))
end Go.Proofs.Ytdkpleghpnflhaa
