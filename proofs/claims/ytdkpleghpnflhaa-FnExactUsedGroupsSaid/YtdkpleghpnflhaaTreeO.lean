/- TREES AS ARGUMENTS, AND TREES BUILT PLACE BY PLACE: a slice of records of a recursive kind, opened ('open_tree', by the fuel that reads it); a list of trees of which the first k are set ('PartT'). Whatever the records are. No function is spoken of. -/
import Derived.Test.YtdkpleghpnflhaaTree
import Derived.Test.YtdkpleghpnflhaaOpen
set_option linter.unusedVariables false
set_option linter.unusedSimpArgs false
namespace Go.Proofs.Ytdkpleghpnflhaa
open Go.RowKit Go.ChangeShapes Go.WideShapes Go.Deep

theorem cellsAt {w : World} {b : Nat} {cs : Array Value} {t : TypeId} (h : w.heap[b]? = some (.cells cs t (0, 0))) (j : Nat) (v : Value) (hv : cs[j]? = some v) : w.cell? ⟨b, j, none⟩ = some v := by
  rw [cell_of_row _ b j _ _ _ h]; exact hv
theorem three_cellsT {w : World} {b : Nat} {a0 a1 a2 : Value} {t : TypeId} (h : w.heap[b]? = some (.cells #[a0, a1, a2] t (0, 0))) : w.cell? ⟨b, 0, none⟩ = some a0 ∧ w.cell? ⟨b, 1, none⟩ = some a1 ∧ w.cell? ⟨b, 2, none⟩ = some a2 :=
  ⟨cellsAt h 0 _ rfl, cellsAt h 1 _ rfl, cellsAt h 2 _ rfl⟩
theorem seven_cellsT {w : World} {b : Nat} {a0 a1 a2 a3 a4 a5 a6 : Value} {t : TypeId} (h : w.heap[b]? = some (.cells #[a0, a1, a2, a3, a4, a5, a6] t (0, 0))) : w.cell? ⟨b, 0, none⟩ = some a0 ∧ w.cell? ⟨b, 1, none⟩ = some a1 ∧ w.cell? ⟨b, 2, none⟩ = some a2 ∧ w.cell? ⟨b, 3, none⟩ = some a3 ∧ w.cell? ⟨b, 4, none⟩ = some a4 ∧ w.cell? ⟨b, 5, none⟩ = some a5 ∧ w.cell? ⟨b, 6, none⟩ = some a6 :=
  ⟨cellsAt h 0 _ rfl, cellsAt h 1 _ rfl, cellsAt h 2 _ rfl, cellsAt h 3 _ rfl, cellsAt h 4 _ rfl, cellsAt h 5 _ rfl, cellsAt h 6 _ rfl⟩
/-- every list of kids is short and every record is P -/
def SizT {α : Type} (P : α → Prop) : Nat → List (Tr α) → Prop
  | 0, _ => True
  | d + 1, l => l.length ≤ 1048576 ∧ ∀ t, t ∈ l → P t.x ∧ SizT P d t.kids
/-- how many levels the trees l have -/
def DeepT {α : Type} : Nat → List (Tr α) → Prop
  | 0, l => l = []
  | d + 1, l => ∀ t, t ∈ l → DeepT d t.kids
theorem DeepT.nil {α : Type} : ∀ d, DeepT d ([] : List (Tr α))
  | 0 => rfl
  | _ + 1 => fun _ h => by cases h
theorem DeepT.more {α : Type} : ∀ {d e : Nat} {l : List (Tr α)}, DeepT d l → d ≤ e → DeepT e l
  | 0, e, _, h, _ => by rw [show _ = [] from h]; exact DeepT.nil e
  | d + 1, 0, _, _, h => absurd h (Nat.not_succ_le_zero d)
  | d + 1, e + 1, _, h, he => fun t ht => DeepT.more (h t ht) (Nat.le_of_succ_le_succ he)
/-- every record of the trees l is P -/
def FitT {α : Type} (P : α → Prop) : Nat → List (Tr α) → Prop
  | 0, _ => True
  | d + 1, l => ∀ t, t ∈ l → P t.x ∧ FitT P d t.kids
theorem FitT.mono {α : Type} {P Q : α → Prop} (h : ∀ x, P x → Q x) : ∀ {d : Nat} {l : List (Tr α)}, FitT P d l → FitT Q d l
  | 0, _, _ => True.intro
  | _ + 1, _, hf => fun t ht => ⟨h _ (hf t ht).1, FitT.mono h (hf t ht).2⟩
theorem FitT.all {α : Type} {P : α → Prop} : ∀ {d : Nat} {l : List (Tr α)}, FitT P d l → DeepT d l → ∀ e, FitT P e l
  | _, _, _, _, 0 => True.intro
  | 0, _, _, h, _ + 1 => fun t ht => by rw [show _ = [] from h] at ht; cases ht
  | _ + 1, _, hf, h, e + 1 => fun t ht => ⟨(hf t ht).1, FitT.all (hf t ht).2 (h t ht) e⟩
theorem SizT.all {α : Type} {P : α → Prop} : ∀ {d : Nat} {l : List (Tr α)}, SizT P d l → DeepT d l → ∀ e, SizT P e l
  | _, _, _, _, 0 => True.intro
  | 0, _, _, h, _ + 1 => by rw [show _ = [] from h]; exact ⟨Nat.zero_le _, fun t ht => by cases ht⟩
  | _ + 1, _, hf, h, e + 1 => ⟨hf.1, fun t ht => ⟨(hf.2 t ht).1, SizT.all (hf.2 t ht).2 (h t ht) e⟩⟩
theorem rd_deepT {α : Type} {k : Kd α} : ∀ {d : Nat} {w : World} {v : Value} {l : List (Tr α)}, RdL k d w v l → DeepT d l
  | 0, _, _, _, h => h.1
  | _ + 1, _, _, _, ⟨_, _, hl, hk⟩ => fun t ht => by
    obtain ⟨i, hi, rfl⟩ := List.getElem_of_mem ht
    exact rd_deepT (hk i (by rw [hl]; exact hi) hi).2
section
variable {H : Type} {en : TypeId × Value → H} {P : Program} {w : World} {base : Nat} {spare : Nat → Bool} {held : Bool}
theorem open_rows_lt {α : Type} {enc : α → List Value} {z : Nat} {good : α → Prop} {t e : TypeId} {fuel : Nat} {cs : List Value} {x : DataW H × List MemPlace}
    (ht : P.underlying t = some (.slice e)) (hC : P.cellsOf e = z) (h0 : 0 < z)
    (hel : ∀ n, n < fuel → ∀ cs' y, DataW.trod en P w base spare held n e cs' = some y → ∃ x : α, cs' = enc x ∧ good x)
    (h : DataW.trod en P w base spare held fuel t cs = some x) : ∃ (A : Option Addr) (len cap : Nat) (l : List α), cs = [.slice A len cap] ∧ HasR enc z w (.slice A len cap) l ∧ ∀ x ∈ l, good x := by
  rcases DataW.trod_slice ht h with ⟨h1, _⟩ | ⟨a, len, cap, elems, rest, n, hn, hcs, _, _, hl, hm, hlen, hi, _, _⟩
  · exact ⟨none, 0, 0, [], h1, hasR_nil w, by simp⟩
  · have he : ∀ i, i < len → ∃ x : α, (∀ j y, (enc x)[j]? = some y → w.cell? ((a.add (i * z)).add j) = some y) ∧ good x ∧ a.block < w.heap.size := fun i hil => by
      have hb := hi i hil
      rw [List.getElem?_eq_getElem (by omega)] at hb
      obtain ⟨cs', hc, ht'⟩ := Option.bind_eq_some_iff.1 hb
      obtain ⟨x, rfl, hg⟩ := hel n (by omega) cs' _ ht'
      rw [hC] at hc
      obtain ⟨_, hcl, hat⟩ := World.cells?_some hc
      refine ⟨x, fun j y hy => ?_, hg, ?_⟩
      · have hj : j < z := by rw [← hcl]; exact (List.getElem?_eq_some_iff.1 hy).1
        rw [hat j hj, hy]
      · have h2 := hat 0 h0
        rw [List.getElem?_eq_getElem (by omega)] at h2
        have := block_of_cell h2
        rwa [addr_blk, addr_blk] at this
    have hls : ∃ l : List α, l.length = len ∧ ∀ i (h : i < l.length), (∀ j y, (enc l[i])[j]? = some y → w.cell? ((a.add (i * z)).add j) = some y) ∧ good l[i] ∧ a.block < w.heap.size := by
      refine ⟨(List.range len).attach.map fun i => Classical.choose (he i.1 (List.mem_range.1 i.2)), by simp, fun i h => ?_⟩
      simp only [List.getElem_map, List.getElem_attach, List.getElem_range]
      exact Classical.choose_spec (he i (by simpa using h))
    obtain ⟨l, hll, hp⟩ := hls
    refine ⟨some a, len, cap, l, hcs, ⟨some a, cap, by rw [hll], by unfold maxLen at hm; omega, fun i h => ⟨a, rfl, (hp i h).2.2, (hp i h).1⟩⟩, fun x hx => ?_⟩
    obtain ⟨i, hi', rfl⟩ := List.getElem_of_mem hx
    exact (hp i hi').2.1
/-- A LIST OF TREES, OPENED. 'one': what a record's cells say, once its list of kids has been read with less fuel. -/
theorem open_tree {α : Type} {k : Kd α} {Q : α → Prop} {t e : TypeId} (ht : P.underlying t = some (.slice e)) (hC : P.cellsOf e = k.z) (h0 : 0 < k.z)
    (one : ∀ n cs y, DataW.trod en P w base spare held n e cs = some y → ∃ (r : k.ρ) (x : α), cs = k.enc r ∧ k.rd w r x ∧ Q x ∧ ∃ m y', m < n ∧ DataW.trod en P w base spare held m t [k.kv r] = some y') :
    ∀ (fuel : Nat) (cs : List Value) (x : DataW H × List MemPlace), DataW.trod en P w base spare held fuel t cs = some x → ∃ (v : Value) (l : List (Tr α)), cs = [v] ∧ RdL k fuel w v l ∧ FitT Q fuel l := by
  intro fuel
  induction fuel using Nat.strongRecOn with
  | ind fuel ih =>
    intro cs x h
    cases fuel with
    | zero => simp [DataW.trod] at h
    | succ f =>
      obtain ⟨A, len, cap, R, hcs, hR, hg⟩ := open_rows_lt (enc := k.enc) (good := fun r => ∃ t : Tr α, k.rd w r t.x ∧ RdL k f w (k.kv r) t.kids ∧ Q t.x ∧ FitT Q f t.kids) ht hC h0 (fun n hn cs' y hy => by
        obtain ⟨r, x, rfl, hrd, hq, m, y', hm, hy'⟩ := one n cs' y hy
        obtain ⟨v, l, hv, hl, hf⟩ := ih m (by omega) _ _ hy'
        have hv' : k.kv r = v := by simpa using hv
        refine ⟨r, rfl, .mk x l, hrd, ?_, hq, ?_⟩
        · rw [hv']; exact hl.to (by omega)
        · have : ∀ {a b : Nat} {v : Value} {l : List (Tr α)}, RdL k a w v l → FitT Q a l → FitT Q (a + b) l := by
            intro a
            induction a with
            | zero =>
              intro b v l h1 _
              cases b with
              | zero => exact True.intro
              | succ b => rw [h1.1]; intro t ht; cases ht
            | succ a iha =>
              intro b v l h1 h2
              obtain ⟨R, _, hlen, hk⟩ := h1
              rw [show a + 1 + b = (a + b) + 1 by omega]
              intro t ht
              obtain ⟨i, hi, rfl⟩ := List.getElem_of_mem ht
              exact ⟨(h2 _ ht).1, iha (hk i (by rw [hlen]; exact hi) hi).2 (h2 _ ht).2⟩
          obtain ⟨j, hj⟩ := Nat.le.dest (show m ≤ f by omega)
          rw [← hj]
          exact this hl hf) h
      have hls : ∃ l : List (Tr α), l.length = R.length ∧ ∀ i (h : i < l.length) (h' : i < R.length), k.rd w R[i] l[i].x ∧ RdL k f w (k.kv R[i]) l[i].kids ∧ Q l[i].x ∧ FitT Q f l[i].kids := by
        refine ⟨R.attach.map fun r => Classical.choose (hg r.1 r.2), by simp, fun i h h' => ?_⟩
        simp only [List.getElem_map, List.getElem_attach]
        exact Classical.choose_spec (hg R[i] (List.getElem_mem h'))
      obtain ⟨l, hl, hp⟩ := hls
      refine ⟨_, l, hcs, ⟨R, hR, hl.symm, fun i h h' => ⟨(hp i h' h).1, (hp i h' h).2.1⟩⟩, fun t ht => ?_⟩
      obtain ⟨i, hi, rfl⟩ := List.getElem_of_mem ht
      exact (hp i hi (by rw [← hl]; exact hi)).2.2
end
/-! ### Built place by place -/
section
variable {α : Type} {k : Kd α} {d B g n : Nat} {w w' : World} {R : List k.ρ} {l : List (Tr α)} {K : Nat → Nat → Prop}
/-- the first n of the records R hold the trees l, each in blocks of its own, none of them g -/
structure PartT (k : Kd α) (d B : Nat) (w : World) (g : Nat) (R : List k.ρ) (l : List (Tr α)) (K : Nat → Nat → Prop) (n : Nat) : Prop where
  len : R.length = l.length
  at' : ∀ i (h : i < R.length) (h' : i < l.length), i < n → OwN k d B w R[i] l[i] (K i) ∧ ¬ K i g
  apart : ∀ i j b, i < n → j < n → K i b → K j b → i = j
theorem PartT.below (h : PartT k d B w g R l K n) (hb : Below w.heap.size w w') : PartT k d B w' g R l K n := ⟨h.len, fun i h1 h2 h3 => ⟨(h.at' i h1 h2 h3).1.below hb, (h.at' i h1 h2 h3).2⟩, h.apart⟩
theorem PartT.grown (h : PartT k d B w g R l K n) (hb : w.grownBy w' (some g)) : PartT k d B w' g R l K n :=
  ⟨h.len, fun i h1 h2 h3 => ⟨(h.at' i h1 h2 h3).1.other hb (fun b hb' e => (h.at' i h1 h2 h3).2 (by cases e; exact hb')), (h.at' i h1 h2 h3).2⟩, h.apart⟩
theorem PartT.zero (hl : R.length = l.length) : PartT k d B w g R l K 0 := ⟨hl, fun _ _ _ h => absurd h (Nat.not_lt_zero _), fun _ _ _ h => absurd h (Nat.not_lt_zero _)⟩
theorem PartT.next (h : PartT k d B w g R l K n) (hn : n < l.length) {r : k.ρ} {S : Nat → Prop} (hr : OwN k d B w r l[n] S) (hg : ¬ S g) (hd : ∀ i b, i < n → K i b → S b → False) :
    PartT k d B w g (R.set n r) l (fun i => if i = n then S else K i) (n + 1) := by
  have hnR : n < R.length := by rw [h.len]; exact hn
  refine ⟨by rw [List.length_set]; exact h.len, fun i h1 h2 h3 => ?_, fun i j b h1 h2 hi hj => ?_⟩
  · by_cases e : i = n
    · subst e
      rw [List.getElem_set_self]
      simp only [if_pos]
      exact ⟨hr, hg⟩
    · rw [List.getElem_set_ne (by omega)]
      simp only [if_neg e]
      exact h.at' i (by simpa using h1) h2 (by omega)
  · by_cases ei : i = n
    · by_cases ej : j = n
      · omega
      · simp only [if_pos ei] at hi
        simp only [if_neg ej] at hj
        exact absurd hi fun hi => hd j b (by omega) hj hi
    · simp only [if_neg ei] at hi
      by_cases ej : j = n
      · simp only [if_pos ej] at hj
        exact absurd hj fun hj => hd i b (by omega) hi hj
      · simp only [if_neg ej] at hj
        exact h.apart i j b (by omega) (by omega) hi hj
/-- what a record takes lies below the heap's end -/
theorem PartT.lt (h : PartT k d B w g R l K n) {i : Nat} (hi : i < n) (hl : i < l.length) {b : Nat} (hb : K i b) : B ≤ b ∧ b < w.heap.size := (h.at' i (by rw [h.len]; exact hl) hl hi).1.lt b hb
/-- all of them: the list is owned -/
theorem PartT.own {cap m : Nat} (h : PartT k d B w g R l K l.length) (hr : RowR k.enc k.z k.E B w (.slice (some ⟨g, 0, none⟩) m cap) R) :
    OwL k (d + 1) B w (.slice (some ⟨g, 0, none⟩) m cap) l (fun b => b = g ∨ ∃ i, i < R.length ∧ K i b) := by
  refine OwL.whole hr h.len (fun i h1 h2 => (h.at' i h1 h2 h2).1) (fun i j b h1 h2 hi hj => h.apart i j b (by rw [← h.len]; exact h1) (by rw [← h.len]; exact h2) hi hj) (fun i b h1 hk e => ?_) (fun b => ?_)
  · have := (h.at' i h1 (by rw [← h.len]; exact h1) (by rw [← h.len]; exact h1)).2
    have e' : g = b := by simpa [Value.ownBlock] using e
    rw [e'] at this; exact this hk
  · constructor
    · rintro (rfl | hh)
      · exact .inl rfl
      · exact .inr hh
    · rintro (e | hh)
      · have e' : g = b := by simpa [Value.ownBlock] using e
        exact .inl e'.symm
      · exact .inr hh
end
end Go.Proofs.Ytdkpleghpnflhaa
