/- LISTS OF TOKENS: laws.eqTokenS, szTokenS, toTokenS. -/
import Derived.Test.YtdfapkceanicoaaDoorTok
import Derived.Test.YtdfapkceanicoaaDoorRec
import Derived.Deep.RegionHeld3
set_option linter.unusedVariables false
set_option linter.unusedSimpArgs false
namespace Go.Proofs.YtdfapkceanicoaaDoor
open Go.RowKit

/-- a token -/
structure Tok where
  k : Int
  t : ByteArray
  p : Int
def Tok.enc (x : Tok) : List Value := [.int .i64 x.k, .string x.t, .int .i64 x.p]
theorem Tok.enc_len (x : Tok) : x.enc.length = 3 := rfl
/-- the value v is a slice that holds the tokens l; it is the call's own -/
abbrev HasT (w : World) (v : Value) (l : List Tok) : Prop := HasR Tok.enc 3 w v l
abbrev RowT (B : Nat) (w : World) (v : Value) (l : List Tok) : Prop := RowR Tok.enc 3 70 B w v l

/-- at p lies the token x -/
def Tk (w : World) (p : Addr) (x : Tok) : Prop := w.cell? p = some (.int .i64 x.k) ∧ w.cell? ⟨p.block, p.off + 1, none⟩ = some (.string x.t) ∧ w.cell? ⟨p.block, p.off + 2, none⟩ = some (.int .i64 x.p)
theorem Tk.below {w w' : World} {p : Addr} {x : Tok} (h : Tk w p x) (hb : Below w.heap.size w w') (hp : p.block < w.heap.size) : Tk w' p x :=
  ⟨by rw [hb.cell hp]; exact h.1, by rw [hb.cell (p := ⟨p.block, p.off + 1, none⟩) hp]; exact h.2.1, by rw [hb.cell (p := ⟨p.block, p.off + 2, none⟩) hp]; exact h.2.2⟩
/-- the k-th token of a list that is read -/
theorem HasT.tk {w : World} {A : Option Addr} {l : List Tok} (h : ∀ i (h : i < l.length), ∃ a, A = some a ∧ a.block < w.heap.size ∧ ∀ j x, (l[i].enc)[j]? = some x → w.cell? ((a.add (i * 3)).add j) = some x) (k : Nat) (hk : k < l.length) :
    ∃ a, A = some a ∧ (a.add (k * 3)).block < w.heap.size ∧ Tk w (a.add (k * 3)) l[k] := by
  obtain ⟨a, ha, hb, hc⟩ := h k hk
  exact ⟨a, ha, by rw [addr_blk]; exact hb, hc 0 _ rfl, hc 1 _ rfl, hc 2 _ rfl⟩
theorem held_toks {w w1 w2 : World} {p q : Addr} {x y : Tok} (k : Below w1.heap.size w1 w2)
    (h : (w1.cell? p = some (.int .i64 x.k) ∧ w1.cell? ⟨p.block, p.off + 1, none⟩ = some (.string x.t) ∧ w1.cell? ⟨p.block, p.off + 2, none⟩ = some (.int .i64 x.p)) ∧ (w1.cell? q = some (.int .i64 y.k) ∧ w1.cell? ⟨q.block, q.off + 1, none⟩ = some (.string y.t) ∧ w1.cell? ⟨q.block, q.off + 2, none⟩ = some (.int .i64 y.p)) ∧ Below w.heap.size w w1)
    (hp : p.block < w.heap.size) (hq : q.block < w.heap.size) :
    (w2.cell? p = some (.int .i64 x.k) ∧ w2.cell? ⟨p.block, p.off + 1, none⟩ = some (.string x.t) ∧ w2.cell? ⟨p.block, p.off + 2, none⟩ = some (.int .i64 x.p)) ∧ (w2.cell? q = some (.int .i64 y.k) ∧ w2.cell? ⟨q.block, q.off + 1, none⟩ = some (.string y.t) ∧ w2.cell? ⟨q.block, q.off + 2, none⟩ = some (.int .i64 y.p)) ∧ Below w.heap.size w w2 :=
  ⟨Tk.below h.1 k (Nat.lt_of_lt_of_le hp h.2.2.size), Tk.below h.2.1 k (Nat.lt_of_lt_of_le hq h.2.2.size), below_step h.2.2 k⟩
/-- a boxed struct of three cells, behind calls that leave it alone -/
theorem box3 {w w1 : World} {v0 v1 v2 : Value} {t : TypeId} (h : Below (w.alloc (.cells #[v0, v1, v2] t)).heap.size (w.alloc (.cells #[v0, v1, v2] t)) w1) :
    w1.cell? ⟨w.heap.size, 0, none⟩ = some v0 ∧ w1.cell? ⟨w.heap.size, 1, none⟩ = some v1 ∧ w1.cell? ⟨w.heap.size, 2, none⟩ = some v2 := by
  have hn := World.news_of_block (cs := #[v0, v1, v2]) (t := t) (fr := (0, 0)) (heap_alloc_new w _)
  have hl : w.heap.size < (w.alloc (.cells #[v0, v1, v2] t)).heap.size := by simp
  refine ⟨?_, ?_, ?_⟩
  · rw [h.cell (p := ⟨w.heap.size, 0, none⟩) hl, ← addr_zero]; exact hn 0 v0 rfl
  · rw [h.cell (p := ⟨w.heap.size, 1, none⟩) hl, ← addr_zero]; exact hn 1 v1 rfl
  · rw [h.cell (p := ⟨w.heap.size, 2, none⟩) hl, ← addr_zero]; exact hn 2 v2 rfl
theorem infoTok : (Tryd.prog.info? 70).map (fun i => (i.zero, i.size, i.bytes)) = some (some (.agg #[.int .i64 0, .string ⟨#[]⟩, .int .i64 0]), 3, 32) := by kernel_rfl
/-- the zero token -/
def tok0 : Tok := ⟨0, ⟨#[]⟩, 0⟩
theorem set_fillT {l : List Tok} {k : Nat} (hk : k < l.length) (m : Nat) (z : Tok) (hm : m = l.length - k) : (l.take k ++ List.replicate m z).set k l[k] = l.take (k + 1) ++ List.replicate (m - 1) z := by
  subst hm
  obtain ⟨m, hm⟩ : ∃ m, l.length - k = m + 1 := ⟨l.length - k - 1, by omega⟩
  rw [hm, List.replicate_succ, List.set_append_right _ _ (by simp only [List.length_take]; exact Nat.min_le_left _ _), List.length_take, Nat.min_eq_left (by omega), Nat.sub_self, List.set_cons_zero, Nat.add_sub_cancel, List.take_succ_eq_append_getElem hk, List.append_assoc]
  rfl
/-- a token's field turned; the whole token turned -/
theorem RowT.put0 {B g n cap : Nat} {w : World} {L : List Tok} (h : RowT B w (.slice (some ⟨g, 0, none⟩) n cap) L) {i : Nat} (hi : i < L.length) (k : Int) :
    RowT B (w.setCell ⟨g, i * 3, none⟩ (.int .i64 k)) (.slice (some ⟨g, 0, none⟩) n cap) (L.set i { L[i] with k := k }) ∧ w.grownBy (w.setCell ⟨g, i * 3, none⟩ (.int .i64 k)) (some g) :=
  RowR.set1 Tok.enc_len h hi 0 (by omega) _ _ rfl
theorem RowT.put1 {B g n cap : Nat} {w : World} {L : List Tok} (h : RowT B w (.slice (some ⟨g, 0, none⟩) n cap) L) {i : Nat} (hi : i < L.length) (t : ByteArray) :
    RowT B (w.setCell ⟨g, i * 3 + 1, none⟩ (.string t)) (.slice (some ⟨g, 0, none⟩) n cap) (L.set i { L[i] with t := t }) ∧ w.grownBy (w.setCell ⟨g, i * 3 + 1, none⟩ (.string t)) (some g) :=
  RowR.set1 Tok.enc_len h hi 1 (by omega) _ _ rfl
theorem RowT.put2 {B g n cap : Nat} {w : World} {L : List Tok} (h : RowT B w (.slice (some ⟨g, 0, none⟩) n cap) L) {i : Nat} (hi : i < L.length) (p : Int) :
    RowT B (w.setCell ⟨g, i * 3 + 2, none⟩ (.int .i64 p)) (.slice (some ⟨g, 0, none⟩) n cap) (L.set i { L[i] with p := p }) ∧ w.grownBy (w.setCell ⟨g, i * 3 + 2, none⟩ (.int .i64 p)) (some g) :=
  RowR.set1 Tok.enc_len h hi 2 (by omega) _ _ rfl
theorem RowT.put {B g n cap : Nat} {w : World} {L : List Tok} (h : RowT B w (.slice (some ⟨g, 0, none⟩) n cap) L) {i : Nat} (hi : i < L.length) (x : Tok) :
    RowT B (((w.setCell ⟨g, i * 3, none⟩ (.int .i64 x.k)).setCell ⟨g, i * 3 + 1, none⟩ (.string x.t)).setCell ⟨g, i * 3 + 2, none⟩ (.int .i64 x.p)) (.slice (some ⟨g, 0, none⟩) n cap) (L.set i x) ∧
    w.grownBy (((w.setCell ⟨g, i * 3, none⟩ (.int .i64 x.k)).setCell ⟨g, i * 3 + 1, none⟩ (.string x.t)).setCell ⟨g, i * 3 + 2, none⟩ (.int .i64 x.p)) (some g) := by
  have h0 := h.put0 hi x.k
  have h1 := RowT.put1 h0.1 (i := i) (by simpa using hi) x.t
  have h2 := RowT.put2 h1.1 (i := i) (by simpa using hi) x.p
  refine ⟨?_, (h0.2.trans h1.2).trans h2.2⟩
  have := h2.1
  simpa [List.set_set] using this
/-- what the walk asks of the cells of a token of the call's own -/
theorem RowT.cells {B g n cap : Nat} {w : World} {L : List Tok} (h : RowT B w (.slice (some ⟨g, 0, none⟩) n cap) L) {i : Nat} (hi : i < L.length) :
    (w.cell? ⟨g, i * 3, none⟩ = some (.int .i64 L[i].k) ∧ w.cell? ⟨g, i * 3 + 1, none⟩ = some (.string L[i].t) ∧ w.cell? ⟨g, i * 3 + 2, none⟩ = some (.int .i64 L[i].p)) ∧
    w.frozen? ⟨g, i * 3, none⟩ = false ∧ w.frozen? ⟨g, i * 3 + 1, none⟩ = false ∧ w.frozen? ⟨g, i * 3 + 2, none⟩ = false :=
  ⟨⟨RowR.cell Tok.enc_len h hi (j := 0) rfl, RowR.cell Tok.enc_len h hi (j := 1) rfl, RowR.cell Tok.enc_len h hi (j := 2) rfl⟩, RowR.frozen h _, RowR.frozen h _, RowR.frozen h _⟩
/-- 'own = append(own, x)' of a token that lies in the block that the statement has just laid -/
theorem wpList_tok_append {ops : Array Oper} {rest : List Oper} {o : Oper} {a : Act} {Q : Exit → Act → World → Prop} {w : World} (hgd : o.guard = none) (s x : Operand)
    (ho : o.op = .call { callee := .builtin .append, args := #[s, x], argTypes := #[39, 39] })
    (B g n c : Nat) (L : List Tok) (hs : a.eval s = .slice (some ⟨g, 0, none⟩) n c) (hrow : RowT B w (.slice (some ⟨g, 0, none⟩) n c) L)
    (y : Tok) (b : Nat) (hx : a.eval x = .slice (some ⟨b, 0, none⟩) 1 1) (hb : b = w.heap.size) (hlen : n + 1 ≤ 4194304) (hbase : B ≤ w.heap.size) (q : Nat) (hq : q = n + 1)
    (h : ∀ g' c'' w', RowT B w' (.slice (some ⟨g', 0, none⟩) q c'') (L ++ [y]) → (w.alloc (.cells #[.int .i64 y.k, .string y.t, .int .i64 y.p] 70)).grownBy w' (some g) → wpList Tryd.prog ops Q rest (a.put o.dst (.slice (some ⟨g', 0, none⟩) q c'')) w') :
    wpList Tryd.prog ops Q (o :: rest) a (w.alloc (.cells #[.int .i64 y.k, .string y.t, .int .i64 y.p] 70)) := by
  obtain ⟨i0, hi, hz0, hz1, hz2⟩ := info_parts infoTok
  have hnL := RowR.cap' hrow
  subst hq
  subst hnL
  subst hb
  refine wpList_append_own _ hgd s x 39 ho B 70 i0 (.agg #[.int .i64 0, .string ⟨#[]⟩, .int .i64 0]) 3 32 Tryd.underlying39 hi hz0 hz1 hz2 rfl (by decide) _ L.length (L.flatMap Tok.enc) hs (RowR.alloc hrow _) ⟨w.heap.size, 0, none⟩ 1 1 y.enc hx rfl (World.news_of_block (heap_alloc_new w _)) (by simp [Tok.enc, Value.oneCell']) (by unfold maxLen; omega) (by omega) (Nat.le_trans hbase ((Below.refl 0 w).alloc (Nat.zero_le _) _).size) ?_
  intro v' w' h2 h3 h4
  rcases h2.2 with ⟨h5, _⟩ | ⟨g', cap', cur, h5, _⟩
  · exact absurd (h4.1 h5).1 (by simp)
  · subst h5
    refine h g' cap' w' ?_ h3
    unfold RowT RowR
    rw [List.length_append, List.flatMap_append, List.flatMap_singleton]
    exact h2
end Go.Proofs.YtdfapkceanicoaaDoor
