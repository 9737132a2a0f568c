/- CHAPTER 5: impl's joinPats, readRepeat, readInner, readAtom, readSeq, readAlt (the class is asked for as a premise). -/
import Derived.Test.YtnpgeneahjlkpaaPatP
import Derived.Test.YtnpgeneahjlkpaaNameB
import Derived.Maps.AppendAt
set_option linter.unusedVariables false
set_option linter.unusedSimpArgs false
namespace Go.Proofs.Ytnpgeneahjlkpaa
open Go.RowKit

theorem infoPat : (Try.prog.info? 56).map (fun i => (i.zero, i.size, i.bytes)) = some (some (.agg #[.int .i64 0, .string ⟨#[]⟩, .slice none 0 0]), 3, 48) := by kernel_rfl
abbrev RowP (B : Nat) (w : World) (v : Value) (R : List PatR) : Prop := RowR PatR.enc 3 56 B w v R
/-- 'own = append(own, x)' of a pattern that lies in the block that the statement has just laid -/
theorem wpList_pat_append {ops : Array Oper} {rest : List Oper} {o : Oper} {a : Act} {Q : Exit → Act → World → Prop} {w : World} (hgd : o.guard = none) (s x : Operand)
    (ho : o.op = .call { callee := .builtin .append, args := #[s, x], argTypes := #[54, 54] })
    (B g n c : Nat) (L : List PatR) (hs : a.eval s = .slice (some ⟨g, 0, none⟩) n c) (hrow : RowP B w (.slice (some ⟨g, 0, none⟩) n c) L)
    (yo : Int) (yt : ByteArray) (ya : Option Addr) (yn yc : Nat) (b : Nat) (hx : a.eval x = .slice (some ⟨b, 0, none⟩) 1 1) (hb : b = w.heap.size) (hlen : n + 1 ≤ 1048576) (hbase : B ≤ w.heap.size) (q : Nat) (hq : q = n + 1)
    (h : ∀ g' c'' w', RowP B w' (.slice (some ⟨g', 0, none⟩) q c'') (L ++ [⟨yo, yt, .slice ya yn yc⟩]) → (w.alloc (.cells #[.int .i64 yo, .string yt, .slice ya yn yc] 56)).grownBy w' (some g) → (g' = g ∨ w.heap.size < g') → wpList Try.prog ops Q rest (a.put o.dst (.slice (some ⟨g', 0, none⟩) q c'')) w') :
    wpList Try.prog ops Q (o :: rest) a (w.alloc (.cells #[.int .i64 yo, .string yt, .slice ya yn yc] 56)) := by
  obtain ⟨i0, hi, hz0, hz1, hz2⟩ := info_parts infoPat
  have hnL := RowR.cap' hrow
  subst hq
  subst hnL
  subst hb
  refine wpList_append_own_at _ hgd s x 54 ho B 56 i0 (.agg #[.int .i64 0, .string ⟨#[]⟩, .slice none 0 0]) 3 48 Try.underlying54 hi hz0 hz1 hz2 rfl (by decide) _ L.length (L.flatMap PatR.enc) hs (RowR.alloc hrow _) ⟨w.heap.size, 0, none⟩ 1 1 [.int .i64 yo, .string yt, .slice ya yn yc] hx rfl (World.news_of_block (heap_alloc_new w _)) (by simp [Value.oneCell']) (by unfold maxLen; omega) (by omega) (Nat.le_trans hbase ((Below.refl 0 w).alloc (Nat.zero_le _) _).size) ?_
  intro v' w' h2 h3 h4 h6
  rcases h2.2 with ⟨h5, _⟩ | ⟨g', cap', cur, h5, _⟩
  · exact absurd (h4.1 h5).1 (by simp)
  · subst h5
    refine h g' cap' w' ?_ h3 ?_
    · unfold RowP RowR
      rw [List.length_append, List.flatMap_append, List.flatMap_singleton]
      exact h2
    · rcases h6 with h6 | h6
      · exact .inl (Option.some.inj h6)
      · have h7 : g' = (w.alloc (.cells #[.int .i64 yo, .string yt, .slice ya yn yc] 56)).heap.size := Option.some.inj h6
        exact .inr (by rw [h7]; simp)
/-- a struct variable of three cells, behind calls that leave it alone -/
theorem box3p {w w1 : World} {v0 v1 v2 : Value} {t : TypeId} (h : Below (w.alloc (.cells #[v0, v1, v2] t)).heap.size (w.alloc (.cells #[v0, v1, v2] t)) w1) :
    (w1.cell? ⟨w.heap.size, 0, none⟩ = some v0 ∧ w1.cell? ⟨w.heap.size, 1, none⟩ = some v1 ∧ w1.cell? ⟨w.heap.size, 2, none⟩ = some v2) ∧ (w1.frozen? ⟨w.heap.size, 0, none⟩ = false ∧ w1.frozen? ⟨w.heap.size, 1, none⟩ = false ∧ w1.frozen? ⟨w.heap.size, 2, none⟩ = false) ∧ w.heap.size < w1.heap.size := by
  have hl : w.heap.size < (w.alloc (.cells #[v0, v1, v2] t)).heap.size := by simp
  have hb : w1.heap[w.heap.size]? = some (.cells #[v0, v1, v2] t (0, 0)) := (h.block _ hl).trans (heap_alloc_new w _)
  refine ⟨⟨?_, ?_, ?_⟩, ⟨?_, ?_, ?_⟩, Nat.lt_of_lt_of_le hl h.size⟩
  · rw [cell_of_row _ w.heap.size 0 _ _ _ hb]; rfl
  · rw [cell_of_row _ w.heap.size 1 _ _ _ hb]; rfl
  · rw [cell_of_row _ w.heap.size 2 _ _ _ hb]; rfl
  all_goals simp [World.frozen?, hb]
theorem OwP.parts {d B : Nat} {w : World} {v : Value} {l : List Pat} {S : Nat → Prop} (h : OwL patK (d + 1) B w v l S) : ∃ (R : List PatR) (K : Nat → Nat → Prop), RowP B w v R ∧ R.length = l.length ∧ (∀ i (h : i < R.length) (h' : i < l.length), OwN patK d B w (R[i] : PatR) l[i] (K i)) ∧
      (∀ i j b, i < R.length → j < R.length → K i b → K j b → i = j) ∧ (∀ i b, i < R.length → K i b → v.ownBlock ≠ some b) ∧ ∀ b, S b ↔ v.ownBlock = some b ∨ ∃ i, i < R.length ∧ K i b := h.parts
/-- a record that holds a tree is what the tree says, and a slice -/
theorem OwN.slice {d B : Nat} {w : World} {x : PatR} {t : Pat} {S : Nat → Prop} (h : OwN patK d B w x t S) : ∃ A c, x = ⟨t.x.op, t.x.text, .slice A t.kids.length c⟩ := by
  obtain ⟨⟨h1, h2⟩, h3⟩ := h.rd
  obtain ⟨A, c, h4⟩ := h3.form
  obtain ⟨xo, xt, xk⟩ := x
  have h1' : xo = t.x.op := h1
  have h2' : xt = t.x.text := h2
  have h4' : xk = .slice A t.kids.length c := h4
  exact ⟨A, c, by rw [h1', h2', h4']⟩
theorem owN_of {d B : Nat} {w : World} {op : Int} {text : ByteArray} {v : Value} {l : List Pat} {S : Nat → Prop} (h : OwL patK d B w v l S) : OwN patK d B w ⟨op, text, v⟩ (.mk ⟨op, text⟩ l) S :=
  ⟨fun _ => False, S, ⟨⟨rfl, rfl⟩, fun _ => id⟩, h, fun _ => False.elim, fun b => by simp⟩
theorem join_op (op : Int) {l : List Pat} (h : l.length ≠ 1) : joinP op l = opP op l := by
  match l, h with
  | [], _ => rfl
  | [_], h => exact absurd rfl h
  | _ :: _ :: _, _ => rfl
def NodeOut (d B : Nat) (t : Pat) (S : Nat → Prop) (w : World) (e : Ending) (w' : World) : Prop :=
  ∃ (A : Option Addr) (c : Nat) (S' : Nat → Prop), e = .returned (.agg #[.int .i64 t.x.op, .string t.x.text, .slice A t.kids.length c]) ∧ OwN patK d B w' ⟨t.x.op, t.x.text, .slice A t.kids.length c⟩ t S' ∧ (∀ b, S' b → S b) ∧ Below w.heap.size w w'
set_option maxRecDepth 100000 in
set_option maxHeartbeats 1000000 in
theorem iJoin_one (d B : Nat) (op : Int) (A : Option Addr) (c : Nat) (t : Pat) (S : Nat → Prop) (w : World) (h : OwL patK (d + 1) B w (.slice A 1 c) [t] S) :
    Calls Try.prog 126 #[.int .i64 op, .slice A 1 c] w (NodeOut d B t S w) := by
  rcases h.form with ⟨_, h0⟩ | ⟨g, cap, hv, hgB, hg⟩
  · cases h0
  · injection hv with e1 e2 e3
    subst e1; subst e3; clear e2
    obtain ⟨R, K, h1, h2, h3, h4, h5, h6⟩ := OwP.parts h
    have hR : 0 < R.length := by rw [h2]; simp
    have hn := h3 0 hR (by simp)
    obtain ⟨Ak, ck, hx⟩ := hn.slice
    have hz : ∀ r : PatR, r.enc.length = 3 := fun _ => rfl
    have c0 : w.cell? ⟨g, 0, none⟩ = some (.int .i64 t.x.op) := by have := RowR.cell hz h1 hR (j := 0) (x := .int .i64 t.x.op) (by rw [hx]; rfl); simpa using this
    have c1 : w.cell? ⟨g, 1, none⟩ = some (.string t.x.text) := by have := RowR.cell hz h1 hR (j := 1) (x := .string t.x.text) (by rw [hx]; rfl); simpa using this
    have c2 : w.cell? ⟨g, 2, none⟩ = some (.slice Ak t.kids.length ck) := by have := RowR.cell hz h1 hR (j := 2) (x := .slice Ak t.kids.length ck) (by rw [hx]; rfl); simpa using this
    rw [hx] at hn
    have hn' : OwN patK d B w ⟨t.x.op, t.x.text, .slice Ak t.kids.length ck⟩ t (K 0) := hn
    have HN := Lib.hid hn'
    have HS : Hid (∀ b, K 0 b → S b) := Lib.hid fun b hb => (h6 b).2 (.inr ⟨0, hR, hb⟩)
    clear hn hn' h h1 h2 h3 h4 h5 h6 hx hz hR hgB
    go_enter Try.func126, Try.ntmps126
    go_wp2
    refine bodyPost_ret (v := .agg #[.int .i64 t.x.op, .string t.x.text, .slice Ak t.kids.length ck]) (by simp [results, Try.results126, go_sem]) rfl ?_
    exact ⟨Ak, ck, K 0, rfl, HN.out.below (below_al (Below.refl _ _) _), HS.out, below_al (Below.refl _ _) _⟩
set_option maxRecDepth 100000 in
set_option maxHeartbeats 1000000 in
theorem iJoin_op (d B : Nat) (op : Int) (A : Option Addr) (c : Nat) (l : List Pat) (S : Nat → Prop) (w : World) (h : OwL patK d B w (.slice A l.length c) l S) (h1 : l.length ≠ 1) :
    Calls Try.prog 126 #[.int .i64 op, .slice A l.length c] w (NodeOut d B (opP op l) S w) := by
  have HO : Hid (∀ w', Below w.heap.size w w' → OwN patK d B w' ⟨op, ⟨#[]⟩, .slice A l.length c⟩ (opP op l) S) := Lib.hid fun w' hb => owN_of (h.below hb)
  have hn1 : ((l.length : Int) == 1) = false := by simp only [beq_eq_false_iff_ne, ne_eq]; omega
  have H1 := Lib.hid h1
  clear h h1
  go_enter Try.func126, Try.ntmps126
  go_wp2
  refine bodyPost_ret (v := .agg #[.int .i64 op, .string ⟨#[]⟩, .slice A l.length c]) (by simp [results, Try.results126, go_sem]) rfl ?_
  exact ⟨A, c, S, rfl, HO.out _ (below_al (Below.refl _ _) _), fun _ => id, below_al (Below.refl _ _) _⟩
theorem iJoin_any (d B : Nat) (op : Int) (v : Value) (l : List Pat) (S : Nat → Prop) (w : World) (h : OwL patK (d + 1) B w v l S) :
    Calls Try.prog 126 #[.int .i64 op, v] w (NodeOut (d + 1) B (joinP op l) S w) := by
  have hf : ∃ A c, v = .slice A l.length c := h.rd.form
  obtain ⟨A, c, rfl⟩ := hf
  by_cases h1 : l.length = 1
  · match l, h1, h with
    | [t], _, h =>
      refine (iJoin_one d B op A c t S w h).mono ?_
      rintro e w' ⟨A', c', S', h2, h3, h4⟩
      exact ⟨A', c', S', h2, h3.to (Nat.le_succ d), h4⟩
  · rw [join_op op h1]
    exact iJoin_op (d + 1) B op A c l S w h h1
end Go.Proofs.Ytnpgeneahjlkpaa
