/- MERGED for a claim: RngOpen Strs NumPlain. -/
import Derived.Test.YtdkpleghpnflhaaOpen
import Derived.Test.YtdkpleghpnflhaaRng
import Derived.Test.YtdkpleghpnflhaaBase
import Derived.OwnWalk
import Derived.Laws.AppendOwn
import Derived.Deep.AppendLies
import Derived.Deep.Onto
import Derived.Deep.Light
import Derived.Deep.QuietTactic
import Derived.BigQuiet
import Derived.RegionTactic
import Derived.WalkKit
set_option linter.unusedVariables false
set_option linter.unusedSimpArgs false
/- ARGUMENTS OPENED: a list of ranges; what szRangeS says of it. -/
namespace Go.Proofs.Ytdkpleghpnflhaa
open Go.RowKit Go.ChangeShapes Go.WideShapes Go.Deep Go.Joins

/-- both ends are ints of 64 bits -/
def RgWf (x : Rg) : Prop := -9223372036854775808 ≤ x.lo ∧ x.lo ≤ 9223372036854775807 ∧ -9223372036854775808 ≤ x.hi ∧ x.hi ≤ 9223372036854775807
theorem wf_i64 {n : Int} (h : (Lit.int .i64 n).wf = true) : -9223372036854775808 ≤ n ∧ n ≤ 9223372036854775807 := by
  simp [Lit.wf, IntKind.min, IntKind.max, IntKind.signed, IntKind.bits] at h; omega
section
variable {H : Type} {en : TypeId × Value → H} {w : World} {base : Nat} {spare : Nat → Bool} {held : Bool}
set_option maxRecDepth 100000 in
theorem rng_of_cells {n : Nat} {cs : List Value} {y : DataW H × List MemPlace} (h : DataW.trod en Try.prog w base spare held n 131 cs = some y) : ∃ x : Rg, cs = x.enc ∧ RgWf x := by
  obtain ⟨y0, y1, m, _, hl, h0, h1⟩ := trod_struct2 Try.underlying131 h
  rw [show Try.prog.cellsOf 131 = 2 by kernel_rfl] at hl
  match cs, hl with
  | [c0, c1], _ =>
    rw [show Try.prog.cellsOf 3 = 1 by kernel_rfl] at h0 h1
    obtain ⟨k, hk, _, k1⟩ := DataW.trod_int Try.underlying3 h0
    obtain ⟨p, hp, _, p1⟩ := DataW.trod_int Try.underlying3 h1
    simp at hk hp
    subst hk hp
    have a := wf_i64 k1
    have b := wf_i64 p1
    exact ⟨⟨k, p⟩, rfl, a.1, a.2, b.1, b.2⟩
set_option maxRecDepth 100000 in
theorem rngs_open {fuel : Nat} {cs : List Value} {x : DataW H × List MemPlace} (h : DataW.trod en Try.prog w base spare held fuel 48 cs = some x) :
    ∃ (a : Option Addr) (len cap : Nat) (l : List Rg), cs = [.slice a len cap] ∧ HasG w (.slice a len cap) l ∧ ∀ x ∈ l, RgWf x :=
  open_rows Try.underlying48 (by kernel_rfl) (by omega) (fun _ _ _ h => rng_of_cells h) h
end
theorem szRngsX (v : Value) (l : List Rg) (left : Int) (w : World) (hv : HasG w v l) (h0 : 0 ≤ left) (h1 : left ≤ 1048576) :
    Calls Try.prog 51 #[v, .int .i64 left] w fun e w' => (∃ x : Int, e = .returned (.int .i64 x) ∧ (0 ≤ x → x = left - l.length)) ∧ w = w' := by
  refine (szRngs_any v l left w hv h0 h1).mono ?_
  rintro e w' ⟨he, hw⟩
  refine ⟨⟨_, he, ?_⟩, hw⟩
  intro h
  by_cases hl : left < l.length
  · rw [if_pos hl] at h; omega
  · rw [if_neg hl]
theorem amgm {a b : Nat} (h : a + b ≤ 1048576) : a * b ≤ 274877906944 := by
  have h1 : a * b ≤ a * (1048576 - a) := Nat.mul_le_mul_left a (by omega)
  refine Nat.le_trans h1 ?_
  rcases Nat.le_total a 524288 with h2 | h2
  · obtain ⟨d, hd⟩ : ∃ d, a + d = 524288 := ⟨524288 - a, by omega⟩
    have h3 := Nat.mul_self_sub_mul_self_eq 524288 d
    have e1 : a = 524288 - d := by omega
    have e2 : 1048576 - a = 524288 + d := by omega
    rw [e2, e1, Nat.mul_comm, ← h3]; omega
  · obtain ⟨d, hd⟩ : ∃ d, a = 524288 + d := ⟨a - 524288, by omega⟩
    have h3 := Nat.mul_self_sub_mul_self_eq 524288 d
    have e2 : 1048576 - a = 524288 - d := by omega
    rw [e2, hd, ← h3]; omega
theorem meetS_length (a b : List Rg) (ha : a.length ≤ 1048576) (hb : b.length ≤ 1048576) (hab : a.length * b.length ≤ 274877906944) : (meetS a b).length ≤ 274877906944 := by
  unfold meetS
  split
  · exact Nat.le_trans (normS_length _) (by omega)
  · split
    · exact Nat.le_trans (normS_length _) (by omega)
    · exact Nat.le_trans (normS_length _) (by rw [meets_length]; exact hab)
end Go.Proofs.Ytdkpleghpnflhaa

/- LISTS OF TEXTS: a slice that is read ('Has'), a slice of the call's own ('Row'); laws.szStringS, toStringS, eqStringS. -/
namespace Go.Proofs.Ytdkpleghpnflhaa
open Go.RowKit

theorem infoStr : (Try.prog.info? 9).map (fun i => (i.zero, i.size, i.bytes)) = some (some (.string ⟨#[]⟩), 1, 16) := by kernel_rfl
/-- the value v is a slice that holds the texts l -/
def Has (w : World) (v : Value) (l : List ByteArray) : Prop :=
  ∃ (A : Option Addr) (cap : Nat), v = .slice A l.length cap ∧ l.length ≤ 9223372036854775807 ∧ ∀ i (h : i < l.length), ∃ a, A = some a ∧ a.block < w.heap.size ∧ w.cell? (a.add i) = some (.string l[i])
/-- the slice v is the call's own (its block is from B on) and holds the texts l -/
def Row (B : Nat) (w : World) (v : Value) (l : List ByteArray) : Prop := w.ownsRow B 9 1 v l.length (l.map Value.string)
theorem add_blk (a : Addr) (j : Nat) : (a.add j).block = a.block := by unfold Addr.add; split <;> rfl
theorem add_zero (g j : Nat) : (⟨g, 0, none⟩ : Addr).add j = ⟨g, j, none⟩ := by
  unfold Addr.add; split
  · subst_vars; rfl
  · simp
theorem Has.below {w w' : World} {v : Value} {l : List ByteArray} (h : Has w v l) (hb : Below w.heap.size w w') : Has w' v l := by
  obtain ⟨A, cap, hv, hn, h⟩ := h
  refine ⟨A, cap, hv, hn, fun i hi => ?_⟩
  obtain ⟨a, h1, h2, h3⟩ := h i hi
  exact ⟨a, h1, Nat.lt_of_lt_of_le h2 hb.size, by rw [hb.cell (by rw [add_blk]; exact h2)]; exact h3⟩
theorem Row.cell {B : Nat} {w : World} {l : List ByteArray} {g cap n : Nat} (h : Row B w (.slice (some ⟨g, 0, none⟩) n cap) l) {i : Nat} (hi : i < l.length) : w.cell? ⟨g, i, none⟩ = some (.string l[i]) := by
  have := h.cells (g := g) rfl i (.string l[i]) (by rw [List.getElem?_map, List.getElem?_eq_getElem hi]; rfl)
  rwa [add_zero] at this
theorem Row.len {B : Nat} {w : World} {v : Value} {l : List ByteArray} (h : Row B w v l) : l.length ≤ 9223372036854775807 := by
  rcases h.2 with ⟨_, h0⟩ | ⟨g, cap, cur, _, _, _, h1, h2, _, _⟩
  · omega
  · unfold maxLen at h2; omega
theorem Row.form {B : Nat} {w : World} {v : Value} {l : List ByteArray} (h : Row B w v l) : (v = .slice none 0 0 ∧ l = []) ∨ ∃ g cap, v = .slice (some ⟨g, 0, none⟩) l.length cap ∧ B ≤ g ∧ g < w.heap.size := by
  rcases h.2 with ⟨h1, h0⟩ | ⟨g, cap, cur, h1, h2, h3, _⟩
  · exact .inl ⟨h1, List.length_eq_zero_iff.1 h0⟩
  · exact .inr ⟨g, cap, h1, h2, (Array.getElem?_eq_some_iff.1 h3).1⟩
theorem Row.has {B : Nat} {w : World} {v : Value} {l : List ByteArray} (h : Row B w v l) : Has w v l := by
  rcases h.form with ⟨rfl, rfl⟩ | ⟨g, cap, rfl, _, hg⟩
  · exact ⟨none, 0, rfl, by simp, fun i hi => absurd hi (by simp)⟩
  · exact ⟨_, cap, rfl, h.len, fun i hi => ⟨_, rfl, hg, by rw [add_zero]; exact h.cell hi⟩⟩
theorem has_nil (w : World) : Has w (.slice none 0 0) [] := ⟨none, 0, rfl, by simp, fun i hi => absurd hi (by simp)⟩
theorem lt_of_cell {w : World} {p : Addr} {v : Value} (h : w.cell? p = some v) : p.block < w.heap.size := by
  rcases Nat.lt_or_ge p.block w.heap.size with hlt | hge
  · exact hlt
  · unfold World.cell? at h; rw [Array.getElem?_eq_none hge] at h; cases h
/-- an argument that reads as a list of texts -/
theorem has_of {w : World} {x : Addr} {n c : Nat} {ss : List ByteArray} (hl : n ≤ ss.length) (hm : n ≤ maxLen) (hcell : ∀ i, i < ss.length → w.cell? (x.add i) = some (.string (ss.getD i ByteArray.empty))) : Has w (.slice (some x) n c) (ss.take n) := by
  have e : (ss.take n).length = n := by rw [List.length_take]; omega
  refine ⟨some x, c, by rw [e], by rw [e]; unfold maxLen at hm; omega, fun i hi => ?_⟩
  have hi' : i < ss.length := by rw [e] at hi; omega
  have h := hcell i hi'
  refine ⟨x, rfl, by have := lt_of_cell h; rwa [add_blk] at this, ?_⟩
  rw [h, List.getElem_take, List.getD_eq_getElem?_getD, List.getElem?_eq_getElem hi', Option.getD_some]
theorem Row.alloc {B : Nat} {w : World} {v : Value} {l : List ByteArray} (h : Row B w v l) (o : Obj) : Row B (w.alloc o) v l := World.ownsRow.alloc h o
theorem Row.below {B : Nat} {w w' : World} {v : Value} {l : List ByteArray} (h : Row B w v l) (hb : Below w.heap.size w w') : Row B w' v l :=
  h.kept (row := none) ⟨hb.os, hb.tape, hb.output, hb.size, fun k hk _ => hb.block k hk⟩ (by
    rcases h.form with ⟨rfl, _⟩ | ⟨g, cap, rfl, _, _⟩ <;> simp [Value.ownBlock])
theorem Row.other {B : Nat} {w w' : World} {v u : Value} {l : List ByteArray} (h : Row B w v l) (hg : w.grownBy w' u.ownBlock) (hne : ∀ k, v.ownBlock = some k → u.ownBlock ≠ some k) : Row B w' v l :=
  h.kept hg (by
    cases e : v.ownBlock with
    | none => exact .inl rfl
    | some k => exact .inr fun e' => hne k e e'.symm)
theorem Row.mono {B B' : Nat} {w : World} {v : Value} {l : List ByteArray} (h : Row B w v l) (hb : B' ≤ B) : Row B' w v l := World.ownsRow.mono h hb
theorem Row.lt {B : Nat} {w : World} {v : Value} {l : List ByteArray} (h : Row B w v l) {k : Nat} (hk : v.ownBlock = some k) : B ≤ k ∧ k < w.heap.size := World.ownsRow.lt h k hk
theorem Row.set {B : Nat} {w : World} {l : List ByteArray} {g cap n : Nat} (h : Row B w (.slice (some ⟨g, 0, none⟩) n cap) l) (hn : n = l.length) (i : Nat) (s : ByteArray) :
    Row B (w.setCell ⟨g, i, none⟩ (.string s)) (.slice (some ⟨g, 0, none⟩) n cap) (l.set i s) ∧ w.grownBy (w.setCell ⟨g, i, none⟩ (.string s)) (some g) := by
  subst hn
  have := World.ownsRow.stored h i (.string s)
  refine ⟨?_, this.2⟩
  unfold Row
  rw [List.length_set, List.map_set]
  exact this.1
theorem Row.frozen {B : Nat} {w : World} {l : List ByteArray} {g cap n : Nat} (h : Row B w (.slice (some ⟨g, 0, none⟩) n cap) l) (hn : n = l.length) (i : Nat) : w.frozen? ⟨g, i, none⟩ = false := by
  subst hn; exact World.ownsRow.frozenAt h i
theorem below_drewN {B : Nat} {a w : World} (h : Below B a w) (q : Nat) : Below B a (w.drewN q) := ⟨h.os, h.tape, h.output, h.size, h.block⟩
theorem grown_below {w w' : World} {row : Option Nat} (h : Below w.heap.size w w') : w.grownBy w' row := ⟨h.os, h.tape, h.output, h.size, fun k hk _ => h.block k hk⟩
theorem below_of {w w' : World} (h : w.grownBy w' none) : Below w.heap.size w w' := (Below.refl _ _).grown h (Nat.le_refl _) (by simp)
theorem set_fill {l : List ByteArray} {k : Nat} (hk : k < l.length) (m : Nat) (z : ByteArray) (hm : m = l.length - k) : (l.take k ++ List.replicate m z).set k l[k] = l.take (k + 1) ++ List.replicate (m - 1) z := by
  subst hm
  obtain ⟨m, hm⟩ : ∃ m, l.length - k = m + 1 := ⟨l.length - k - 1, by omega⟩
  rw [hm, List.replicate_succ, List.set_append_right _ _ (by simp only [List.length_take]; exact Nat.min_le_left _ _), List.length_take, Nat.min_eq_left (by omega), Nat.sub_self, List.set_cons_zero, Nat.add_sub_cancel, List.take_succ_eq_append_getElem hk, List.append_assoc]
  rfl

theorem Row.cap' {B : Nat} {w : World} {l : List ByteArray} {g cap n : Nat} (h : Row B w (.slice (some ⟨g, 0, none⟩) n cap) l) : n = l.length := by
  rcases h.2 with ⟨h', _⟩ | ⟨g', cap', cur, h', _⟩
  · cases h'
  · cases h'; rfl
/-- 'append(own, news...)' at a step of a region that draws its order -/
theorem step_row_append {w : World} {ops : Array Oper} {o : Oper} {a : Act} {K : Act → World → Prop} {Q : Exit → Act → World → Prop} {E : Prop} (hgd : o.guard = none) (s x : Operand)
    (ho : o.op = .call { callee := .builtin .append, args := #[s, x], argTypes := #[29, 29] })
    (B g n c : Nat) (L : List ByteArray) (hs : a.eval s = .slice (some ⟨g, 0, none⟩) n c) (hrow : Row B w (.slice (some ⟨g, 0, none⟩) n c) L) (hnL : n = L.length)
    (ad : Addr) (m c' : Nat) (news : List ByteArray) (hx : a.eval x = .slice (some ad) m c') (hm : m = news.length) (hnews : ∀ j (h : j < news.length), w.cell? (ad.add j) = some (.string news[j]))
    (hlen : n + m ≤ 4194304) (hbase : B ≤ w.heap.size) (q : Nat) (hq : q = n + m)
    (h : ∀ g' c'' w', Row B w' (.slice (some ⟨g', 0, none⟩) q c'') (L ++ news) → w.grownBy w' (some g) → K (a.put o.dst (.slice (some ⟨g', 0, none⟩) q c'')) w') :
    if Region.wanted o (yielded ops a.tmps) = true then Oper.wp Try.prog o a w K Q else E := by
  have hw : Region.wanted o (yielded ops a.tmps) = true := by simp [Region.wanted, hgd]
  rw [if_pos hw]
  obtain ⟨i0, hi, hz0, hz1, hz2⟩ := info_parts infoStr
  subst hq
  subst hnL hm
  refine wp_append_own w s x 29 ho B 9 i0 (.string ⟨#[]⟩) 1 16 Try.underlying29 hi hz0 hz1 hz2 rfl (by decide) _ L.length (L.map Value.string) hs hrow ad news.length c' (news.map Value.string) hx (by simp) (fun j u hj => ?_) (fun u hu => ?_) (by unfold maxLen; omega) (by omega) hbase ?_
  · rw [List.getElem?_map] at hj
    cases hlj : news[j]? with
    | none => rw [hlj] at hj; cases hj
    | some y =>
      rw [hlj] at hj; cases hj
      obtain ⟨hj', hy⟩ := List.getElem?_eq_some_iff.1 hlj
      rw [hnews j hj', hy]
  · obtain ⟨y, _, rfl⟩ := List.mem_map.1 hu; rfl
  · intro v' w' h2 h3 h4
    rcases h2.2 with ⟨h5, _⟩ | ⟨g', cap', cur, h5, _⟩
    · exact absurd (h4.1 h5).1 (by simp)
    · subst h5
      refine h g' cap' w' ?_ h3
      unfold Row
      rw [List.length_append, List.map_append]
      exact h2
/-- the same in a list of operations: 'own = append(own, x)' where x lies in the block that the statement has just laid -/
theorem wpList_row_append {ops : Array Oper} {rest : List Oper} {o : Oper} {a : Act} {Q : Exit → Act → World → Prop} {w : World} (hgd : o.guard = none) (s x : Operand)
    (ho : o.op = .call { callee := .builtin .append, args := #[s, x], argTypes := #[29, 29] })
    (B g n c : Nat) (L : List ByteArray) (hs : a.eval s = .slice (some ⟨g, 0, none⟩) n c) (hrow : Row B w (.slice (some ⟨g, 0, none⟩) n c) L)
    (y : ByteArray) (hx : a.eval x = .slice (some ⟨w.heap.size, 0, none⟩) 1 1) (hlen : n + 1 ≤ 4194304) (hbase : B ≤ w.heap.size) (q : Nat) (hq : q = n + 1)
    (h : ∀ g' c'' w', Row B w' (.slice (some ⟨g', 0, none⟩) q c'') (L ++ [y]) → (w.alloc (.cells #[.string y] 9)).grownBy w' (some g) → wpList Try.prog ops Q rest (a.put o.dst (.slice (some ⟨g', 0, none⟩) q c'')) w') :
    wpList Try.prog ops Q (o :: rest) a (w.alloc (.cells #[.string y] 9)) := by
  obtain ⟨i0, hi, hz0, hz1, hz2⟩ := info_parts infoStr
  have hnL := hrow.cap'
  subst hq
  subst hnL
  refine wpList_append_own _ hgd s x 29 ho B 9 i0 (.string ⟨#[]⟩) 1 16 Try.underlying29 hi hz0 hz1 hz2 rfl (by decide) _ L.length (L.map Value.string) hs (hrow.alloc _) ⟨w.heap.size, 0, none⟩ 1 1 [.string y] hx rfl (World.news_of_block (heap_alloc_new w _)) (by simp [Value.oneCell']) (by unfold maxLen; omega) (by omega) (Nat.le_trans hbase ((Below.refl 0 w).alloc (Nat.zero_le _) _).size) ?_
  intro v' w' h2 h3 h4
  rcases h2.2 with ⟨h5, _⟩ | ⟨g', cap', cur, h5, _⟩
  · exact absurd (h4.1 h5).1 (by simp)
  · subst h5
    refine h g' cap' w' ?_ h3
    unfold Row
    rw [List.length_append, List.map_append]
    exact h2
theorem s_alloc {w3 W : World} {p : Addr} {v : Value} (h : W.cell? p = some v ∧ Below w3.heap.size w3 W) (o : Obj) : (W.alloc o).cell? p = some v ∧ Below w3.heap.size w3 (W.alloc o) :=
  ⟨by rw [World.cell?_alloc_lt W _ _ (by
      rcases Nat.lt_or_ge p.block W.heap.size with hlt | hge
      · exact hlt
      · have := h.1; unfold World.cell? at this; rw [Array.getElem?_eq_none hge] at this; cases this)]; exact h.1, h.2.alloc h.2.size o⟩
theorem s_alloc_d {w3 W : World} {p : Addr} {v : Value} (h : W.drew.cell? p = some v ∧ Below w3.heap.size w3 W.drew) (o : Obj) : (W.alloc o).drew.cell? p = some v ∧ Below w3.heap.size w3 (W.alloc o).drew := s_alloc (W := W.drew) h o
theorem row_empty {B b : Nat} {W : World} (hb : W.heap[b]? = some (.cells #[] 9)) (hB : B ≤ b) : Row B W (.slice (some ⟨b, 0, none⟩) 0 0) [] := ⟨rfl, .inr ⟨b, 0, #[], rfl, hB, hb, by simp, by simp, rfl, rfl⟩⟩
theorem Row.cap {B : Nat} {w : World} {l : List ByteArray} {g cap n : Nat} (h : Row B w (.slice (some ⟨g, 0, none⟩) n cap) l) : n = l.length ∧ n ≤ cap := by
  rcases h.2 with ⟨h', _⟩ | ⟨g', cap', cur, h', _, _, h1, _, _, _⟩
  · cases h'
  · cases h'; exact ⟨rfl, h1⟩
theorem s_of {w3 W : World} {p : Addr} {v : Value} (h0 : w3.cell? p = some v) (h : Below w3.heap.size w3 W) : W.cell? p = some v ∧ Below w3.heap.size w3 W :=
  ⟨by rw [h.cell (by
      rcases Nat.lt_or_ge p.block w3.heap.size with hlt | hge
      · exact hlt
      · have := h0; unfold World.cell? at this; rw [Array.getElem?_eq_none hge] at this; cases this)]; exact h0, h⟩
theorem cell_new (w : World) (v : Value) (t : TypeId) : (w.alloc (.cells #[v] t)).cell? ⟨w.heap.size, 0, none⟩ = some v := by
  have := World.news_of_block (cs := #[v]) (t := t) (fr := (0, 0)) (heap_alloc_new w _) 0 v rfl
  rwa [add_zero] at this
theorem one_src {W : World} {b : Nat} {x : ByteArray} (h : W.cell? ⟨b, 0, none⟩ = some (.string x)) : ∀ j (h : j < [x].length), W.cell? ((⟨b, 0, none⟩ : Addr).add j) = some (.string [x][j]) := fun j hj => by
  have : j = 0 := by simpa using hj
  subst this
  rw [add_zero]; exact h
theorem Row.src_take {B : Nat} {w3 W : World} {L : List ByteArray} {g c m : Nat} (h : Row B w3 (.slice (some ⟨g, 0, none⟩) m c) L) (hb : Below w3.heap.size w3 W) (k : Nat) : ∀ j (hj : j < (L.take k).length), W.cell? ((⟨g, 0, none⟩ : Addr).add j) = some (.string (L.take k)[j]) := fun j hj => by
  have hl : j < L.length := by rw [List.length_take] at hj; omega
  rw [add_zero, hb.cell (p := ⟨g, j, none⟩) (h.lt rfl).2, h.cell hl, List.getElem_take]
theorem Row.src_drop {B : Nat} {w3 W : World} {L : List ByteArray} {g c m : Nat} (h : Row B w3 (.slice (some ⟨g, 0, none⟩) m c) L) (hb : Below w3.heap.size w3 W) (k : Nat) : ∀ j (hj : j < (L.drop k).length), W.cell? ((⟨g, k, none⟩ : Addr).add j) = some (.string (L.drop k)[j]) := fun j hj => by
  have hl : k + j < L.length := by rw [List.length_drop] at hj; omega
  have e : (⟨g, k, none⟩ : Addr).add j = ⟨g, k + j, none⟩ := by
    unfold Addr.add; split
    · subst_vars; rfl
    · rfl
  rw [e, hb.cell (p := ⟨g, k + j, none⟩) (h.lt rfl).2, h.cell hl, List.getElem_drop]
theorem heap_new1 (w : World) (o1 o2 : Obj) : ((w.alloc o1).alloc o2).heap[w.heap.size + 1]? = some o2 := by
  have h := heap_alloc_new (w.alloc o1) o2
  have e : (w.alloc o1).heap.size = w.heap.size + 1 := by simp
  rwa [e] at h
theorem heap_new0 (w : World) (o1 o2 : Obj) : ((w.alloc o1).alloc o2).heap[w.heap.size]? = some o1 := by
  rw [Below.heap_alloc _ _ _ (by have e : (w.alloc o1).heap.size = w.heap.size + 1 := by simp
                                 omega)]
  exact heap_alloc_new w o1
theorem cell_of_heap {w : World} {b : Nat} {v : Value} {t : TypeId} (h : w.heap[b]? = some (.cells #[v] t)) : w.cell? ⟨b, 0, none⟩ = some v := by
  have := World.news_of_block (cs := #[v]) (t := t) (fr := (0, 0)) h 0 v rfl
  rwa [add_zero] at this
set_option maxRecDepth 100000 in
set_option maxHeartbeats 1000000 in
theorem toStrs_any (v : Value) (l : List ByteArray) (w : World) (hv : Has w v l) (hn : l.length ≤ 1048576) :
    Calls Try.prog 41 #[v] w fun e w' => ∃ v', e = .returned v' ∧ Row w.heap.size w' v' l ∧ Below w.heap.size w w' := by
  obtain ⟨i0, hi, hz0, hz1, hz2⟩ := info_parts infoStr
  have hv' := hv
  obtain ⟨A, cap, rfl, hn', hc⟩ := hv
  obtain ⟨n, hnn⟩ : ∃ n, n = l.length := ⟨_, rfl⟩
  have HN : Hid (n = l.length) := Lib.hid hnn
  rw [← hnn] at hn hn' hv' ⊢
  clear hnn
  go_enter Try.func41, Try.ntmps41
  have hb2 : i0.bytes * n ≤ 281474976710656 := by rw [hz2]; omega
  have hb3 : n ≤ maxLen := by unfold maxLen; omega
  have HZ : Hid (i0.bytes = 16) := Lib.hid hz2
  clear hz2
  go_wp2_with (at_make; refine wpList_make_full _ rfl _ _ 29 rfl w.heap.size 9 i0 (.string ⟨#[]⟩) 1 Try.underlying29 hi hz0 hz1 _ _ _ _ n rfl rfl rfl rfl hb2 hb3 (Nat.le_refl _) ?_; intro w1 hown1 hg1)
  have hrow0 : Row w.heap.size w1 (.slice (some ⟨w.heap.size, 0, none⟩) n n) (l.take 0 ++ List.replicate n (⟨#[]⟩ : ByteArray)) := by
    have := hown1
    rw [show (Value.string ⟨#[]⟩).cells = #[.string ⟨#[]⟩] from rfl, toList_madeCells_one, Nat.mul_one] at this
    unfold Row
    simpa using this
  have hbel1 : Below w.heap.size w w1 := below_of hg1
  clear hown1 hg1
  go_loopw [4] (fun i wr => ∃ k : Nat, k ≤ n ∧ i = .int .i64 k ∧ Row w.heap.size wr (.slice (some ⟨w.heap.size, 0, none⟩) n n) (l.take k ++ List.replicate (n - k) (⟨#[]⟩ : ByteArray)) ∧ Below w.heap.size w wr) (fun i _ => n - (intOf i).toNat)
  case atStart => exact ⟨0, Nat.zero_le _, rfl, hrow0, hbel1⟩
  case round =>
    obtain ⟨k, hk, rfl, hrow, hbel⟩ := hrel
    by_cases hlt : k < n
    · obtain ⟨a, rfl, hab, hcell0⟩ := hc k (by rw [← HN.out]; exact hlt)
      have hcell : wr.cell? (a.add k) = some (.string (l[k]'(by rw [← HN.out]; exact hlt))) := by rw [hbel.cell (by rw [add_blk]; exact hab)]; exact hcell0
      have hfr := hrow.frozen (by have := HN.out; simp; omega) k
      have hcell2 := hrow.cell (i := k) (by have := HN.out; simp; omega)
      have HST := Lib.hid (hrow.set (by have := HN.out; simp; omega) k (l[k]'(by rw [← HN.out]; exact hlt)))
      clear hcell0 hrow
      go_wp2
      go_roundw
      case rel =>
        refine ⟨k + 1, by omega, by go_num, ?_, hbel.grown HST.out.2 hbel.size (fun _ h => by cases h; exact Nat.le_refl _)⟩
        have h := HST.out.1
        rw [set_fill (by rw [← HN.out]; exact hlt) _ _ (by have := HN.out; omega)] at h
        rw [show n - (k + 1) = n - k - 1 by omega]; exact h
      case measure => simp [intOf]; omega
    · go_wp2
      go_ret
      refine ⟨_, rfl, ?_, hbel⟩
      rw [List.take_of_length_le (by have := HN.out; omega), show n - k = 0 by omega, List.replicate_zero, List.append_nil] at hrow
      exact hrow
set_option maxRecDepth 100000 in
set_option maxHeartbeats 1000000 in
theorem eqStrs_any (u v : Value) (l : List ByteArray) (w : World) (hu : Has w u l) (hv : Has w v l) :
    Calls Try.prog 10 #[u, v] w fun e w' => e = .returned (.bool true) ∧ Below w.heap.size w w' := by
  obtain ⟨A, cap, rfl, hn', hc⟩ := hu
  obtain ⟨A', cap', rfl, _, hc'⟩ := hv
  obtain ⟨n, hnn⟩ : ∃ n, n = l.length := ⟨_, rfl⟩
  have HN : Hid (n = l.length) := Lib.hid hnn
  rw [← hnn] at hn' ⊢
  clear hnn
  go_enter Try.func10, Try.ntmps10
  go_wp2
  go_loopw [5] (fun i wr => ∃ k : Nat, k ≤ n ∧ i = .int .i64 k ∧ Below w.heap.size w wr) (fun i _ => n - (intOf i).toNat)
  case atStart => exact ⟨0, Nat.zero_le _, rfl, Below.refl _ _⟩
  case round =>
    obtain ⟨k, hk, rfl, hbel⟩ := hrel
    by_cases hlt : k < n
    · obtain ⟨a, rfl, hab, hcell0⟩ := hc k (by rw [← HN.out]; exact hlt)
      obtain ⟨a', rfl, hab', hcell0'⟩ := hc' k (by rw [← HN.out]; exact hlt)
      have hcell : wr.cell? (a.add k) = some (.string (l[k]'(by rw [← HN.out]; exact hlt))) := by rw [hbel.cell (by rw [add_blk]; exact hab)]; exact hcell0
      have hcell' : wr.cell? (a'.add k) = some (.string (l[k]'(by rw [← HN.out]; exact hlt))) := by rw [hbel.cell (by rw [add_blk]; exact hab')]; exact hcell0'
      clear hcell0 hcell0'
      go_wp2
      go_quiet (fail)
      go_wp2
      go_roundw
      case rel => exact ⟨k + 1, by omega, by go_num, below_drewN hbel _⟩
      case measure => simp [intOf]; omega
    · go_wp2
      go_ret
      exact ⟨rfl, hbel⟩
set_option maxRecDepth 100000 in
set_option maxHeartbeats 1000000 in
theorem szStrs_any (v : Value) (l : List ByteArray) (left : Int) (w : World) (hv : Has w v l) (hs : ∀ s ∈ l, s.size ≤ 9223372036854775807) (h0 : 0 ≤ left) (h1 : left ≤ 1048576) :
    Calls Try.prog 36 #[v, .int .i64 left] w fun e w' => (∃ x : Int, e = .returned (.int .i64 x) ∧ (0 ≤ x → l.length ≤ 1048576)) ∧ w = w' := by
  obtain ⟨A, cap, rfl, hn', hc⟩ := hv
  obtain ⟨n, hnn⟩ : ∃ n, n = l.length := ⟨_, rfl⟩
  have HN : Hid (n = l.length) := Lib.hid hnn
  rw [← hnn] at hn' ⊢
  clear hnn
  by_cases hbig : left < n
  · go_enter Try.func36, Try.ntmps36
    go_wp2
    go_ret
    exact ⟨⟨_, rfl, fun h => by omega⟩, rfl⟩
  · go_enter Try.func36, Try.ntmps36
    go_wp2
    go_loop [1, 5] (fun x i => ∃ (k : Nat) (y : Int), k ≤ n ∧ i = .int .i64 k ∧ x = .int .i64 y ∧ 0 ≤ y ∧ y ≤ 1048576) (fun _ i => n - (intOf i).toNat)
    case atStart => exact ⟨0, _, Nat.zero_le _, rfl, rfl, by omega, by omega⟩
    case round =>
      obtain ⟨k, y, hk, rfl, rfl, hy0, hy1⟩ := hrel
      by_cases hlt : k < n
      · obtain ⟨a, rfl, hab, hcell⟩ := hc k (by rw [← HN.out]; exact hlt)
        have hsz := hs _ (List.getElem_mem (by rw [← HN.out]; exact hlt : k < l.length))
        by_cases hy : y < (l[k]'(by rw [← HN.out]; exact hlt)).size
        · go_wp2
          go_ret
          exact ⟨⟨_, rfl, fun h => by omega⟩, rfl⟩
        · go_wp2
          go_round
          case rel => exact ⟨k + 1, _, by omega, by go_num, rfl, by omega, by omega⟩
          case measure => simp [intOf]; omega
      · go_wp2
        go_ret
        exact ⟨⟨_, rfl, fun h => by omega⟩, rfl⟩
end Go.Proofs.Ytdkpleghpnflhaa

/- PLAIN MATHEMATICS OF CHAPTER 1: decimal digits of a natural number, the decimal form of an integer, reading digits. No program is spoken of. -/
namespace Go.Proofs.Ytdkpleghpnflhaa.NumP

/-- the decimal digits of a number, the greatest first -/
def dec (m : Nat) : List UInt8 := if m < 10 then [UInt8.ofNat (48 + m)] else dec (m / 10) ++ [UInt8.ofNat (48 + m % 10)]
termination_by m
decreasing_by omega

def ndig (m : Nat) : Nat := if m < 10 then 1 else ndig (m / 10) + 1
termination_by m
decreasing_by omega

theorem dec_small {m : Nat} (h : m < 10) : dec m = [UInt8.ofNat (48 + m)] := by rw [dec, if_pos h]
theorem dec_big {m : Nat} (h : 10 ≤ m) : dec m = dec (m / 10) ++ [UInt8.ofNat (48 + m % 10)] := by rw [dec, if_neg (by omega)]
theorem ndig_small {m : Nat} (h : m < 10) : ndig m = 1 := by rw [ndig, if_pos h]
theorem ndig_big {m : Nat} (h : 10 ≤ m) : ndig m = ndig (m / 10) + 1 := by rw [ndig, if_neg (by omega)]
theorem ndig_pos (m : Nat) : 1 ≤ ndig m := by rw [ndig]; split <;> omega
theorem ndig_le (k : Nat) : ∀ m : Nat, m < 10 ^ (k + 1) → ndig m ≤ k + 1 := by
  induction k with
  | zero => intro m h; rw [ndig_small (by simpa using h)]; omega
  | succ k ih =>
    intro m h
    by_cases hm : m < 10
    · rw [ndig_small hm]; omega
    · rw [ndig_big (by omega)]
      have := ih (m / 10) (by rw [Nat.pow_succ] at h; omega)
      omega
theorem ndig_le20 {m : Nat} (h : m < 18446744073709551616) : ndig m ≤ 20 :=
  ndig_le 19 m (by have : (10 : Nat) ^ (19 + 1) = 100000000000000000000 := by decide
                   omega)
theorem dec_length (m : Nat) : (dec m).length = ndig m := by
  induction m using Nat.strongRecOn with
  | _ m ih =>
    by_cases h : m < 10
    · rw [dec_small h, ndig_small h]; rfl
    · rw [dec_big (by omega), ndig_big (by omega), List.length_append, ih (m / 10) (by omega)]; rfl

/-- the last k digits of a number, with zeros ahead -/
def pad : Nat → Nat → List UInt8
  | 0, _ => []
  | k + 1, m => pad k (m / 10) ++ [UInt8.ofNat (48 + m % 10)]
theorem pad_length (k : Nat) : ∀ m, (pad k m).length = k := by
  induction k with
  | zero => intro m; rfl
  | succ k ih => intro m; simp [pad, ih]
theorem pad_ndig (m : Nat) : pad (ndig m) m = dec m := by
  induction m using Nat.strongRecOn with
  | _ m ih =>
    by_cases h : m < 10
    · rw [ndig_small h, dec_small h]; simp [pad, Nat.mod_eq_of_lt h]
    · rw [ndig_big (by omega), dec_big (by omega), pad, ih (m / 10) (by omega)]

/-- an integer in decimal: '-' ahead of the digits of a negative one -/
def fmtL (n : Int) : List UInt8 := if n < 0 then 45 :: dec n.natAbs else dec n.natAbs
def fmtS (n : Int) : ByteArray := ⟨(fmtL n).toArray⟩
theorem fmtS_neg {n : Int} (h : n < 0) : fmtS n = ⟨(45 :: dec n.natAbs).toArray⟩ := by unfold fmtS fmtL; rw [if_pos h]
theorem fmtS_pos {n : Int} (h : 0 ≤ n) : fmtS n = ⟨(dec n.natAbs).toArray⟩ := by unfold fmtS fmtL; rw [if_neg (by omega)]
theorem fmtL_length {n : Int} (h : -9223372036854775808 ≤ n) (h' : n ≤ 9223372036854775807) : 1 ≤ (fmtL n).length ∧ (fmtL n).length ≤ 21 := by
  have h1 := ndig_le20 (m := n.natAbs) (by omega)
  have h2 := ndig_pos n.natAbs
  unfold fmtL; split <;> simp only [List.length_cons, dec_length] <;> omega

/-- reading digits: what the rest l makes of n; none where a byte is no digit, or the number passes 1000000000 -/
def rdGo : Nat → List UInt8 → Option Nat
  | n, [] => some n
  | n, c :: r => if 48 ≤ c.toNat ∧ c.toNat ≤ 57 then (if n * 10 + (c.toNat - 48) ≤ 1000000000 then rdGo (n * 10 + (c.toNat - 48)) r else none) else none
def rdL (l : List UInt8) : Option Nat := if l = [] then none else rdGo 0 l
theorem rdGo_le : ∀ (l : List UInt8) (n m : Nat), n ≤ 1000000000 → rdGo n l = some m → m ≤ 1000000000 := by
  intro l
  induction l with
  | nil => intro n m h e; simp [rdGo] at e; omega
  | cons c r ih =>
    intro n m h e
    rw [rdGo] at e
    split at e
    · split at e
      · exact ih _ _ ‹_› e
      · cases e
    · cases e
theorem rdL_le {l : List UInt8} {m : Nat} (e : rdL l = some m) : m ≤ 1000000000 := by
  unfold rdL at e; split at e
  · cases e
  · exact rdGo_le l 0 m (by omega) e

/-- what stands behind a sign, if there is one -/
def unsign : List UInt8 → List UInt8
  | [] => []
  | c :: r => if c = 45 ∨ c = 43 then r else c :: r
def minus : List UInt8 → Bool
  | [] => false
  | c :: _ => c == 45
/-- ReadInt: the number, if one is read -/
def readL (l : List UInt8) : Option Int := (rdL (unsign l)).map fun m => if minus l then -(m : Int) else m
/-- ParseInt -/
def parseL (l : List UInt8) : Option Int := (readL l).bind fun n => if fmtL n = l then some n else none
theorem readL_bd {l : List UInt8} {n : Int} (e : readL l = some n) : -1000000000 ≤ n ∧ n ≤ 1000000000 := by
  unfold readL at e
  cases h : rdL (unsign l) with
  | none => rw [h] at e; cases e
  | some m =>
    have := rdL_le h
    rw [h] at e; simp at e; subst e; split <;> omega
theorem parseL_bd {l : List UInt8} {n : Int} (e : parseL l = some n) : -1000000000 ≤ n ∧ n ≤ 1000000000 := by
  unfold parseL at e
  cases h : readL l with
  | none => rw [h] at e; cases e
  | some m =>
    rw [h] at e; simp only [Option.bind_some] at e; split at e
    · cases e; exact readL_bd h
    · cases e

theorem dec_digit (m : Nat) : ∀ c ∈ dec m, 48 ≤ c.toNat ∧ c.toNat ≤ 57 := by
  induction m using Nat.strongRecOn with
  | _ m ih =>
    intro c hc
    by_cases h : m < 10
    · rw [dec_small h, List.mem_singleton] at hc; subst hc; simp only [UInt8.toNat_ofNat']; omega
    · rw [dec_big (by omega)] at hc
      rcases List.mem_append.1 hc with hc | hc
      · exact ih (m / 10) (by omega) c hc
      · rw [List.mem_singleton] at hc; subst hc; simp only [UInt8.toNat_ofNat']; omega
theorem dec_ne_nil (m : Nat) : dec m ≠ [] := by
  intro h; have := dec_length m; rw [h] at this; have := ndig_pos m; simp at *; omega
/-- a decimal form does not begin with '+' -/
theorem fmtL_plus (n : Int) (r : List UInt8) : fmtL n ≠ 43 :: r := by
  intro h
  unfold fmtL at h; split at h
  · simp at h
  · have := dec_digit n.natAbs 43 (by rw [h]; simp)
    simp at this

theorem rdGo_append : ∀ (a b : List UInt8) (n : Nat), rdGo n (a ++ b) = (rdGo n a).bind fun m => rdGo m b := by
  intro a
  induction a with
  | nil => intro b n; simp [rdGo]
  | cons c r ih =>
    intro b n
    simp only [List.cons_append, rdGo]
    split
    · split
      · exact ih b _
      · rfl
    · rfl
theorem rdGo_dec (m : Nat) (h : m ≤ 1000000000) : rdGo 0 (dec m) = some m := by
  induction m using Nat.strongRecOn with
  | _ m ih =>
    by_cases hm : m < 10
    · rw [dec_small hm]; simp only [rdGo, UInt8.toNat_ofNat']
      rw [if_pos (by omega), if_pos (by omega)]; congr 1; omega
    · rw [dec_big (by omega), rdGo_append, ih (m / 10) (by omega) (by omega)]
      simp only [Option.bind_some, rdGo, UInt8.toNat_ofNat']
      rw [if_pos (by omega), if_pos (by omega)]; congr 1; omega
theorem rdGo_dec_big (m : Nat) (h : 1000000000 < m) : rdGo 0 (dec m) = none := by
  induction m using Nat.strongRecOn with
  | _ m ih =>
    rw [dec_big (by omega), rdGo_append]
    by_cases hm : m / 10 ≤ 1000000000
    · rw [rdGo_dec _ hm]; simp only [Option.bind_some, rdGo, UInt8.toNat_ofNat']
      rw [if_pos (by omega), if_neg (by omega)]
    · rw [ih (m / 10) (by omega) (by omega)]; rfl
theorem rdL_dec {m : Nat} (h : m ≤ 1000000000) : rdL (dec m) = some m := by unfold rdL; rw [if_neg (dec_ne_nil m), rdGo_dec m h]
theorem rdL_dec_big {m : Nat} (h : 1000000000 < m) : rdL (dec m) = none := by unfold rdL; rw [if_neg (dec_ne_nil m), rdGo_dec_big m h]
theorem unsign_dec (m : Nat) : unsign (dec m) = dec m ∧ minus (dec m) = false := by
  have hd := dec_digit m
  cases h : dec m with
  | nil => exact ⟨rfl, rfl⟩
  | cons c r =>
    have := hd c (by rw [h]; simp)
    have c1 : c ≠ 45 := by rintro rfl; simp at this
    have c2 : c ≠ 43 := by rintro rfl; simp at this
    simp [unsign, minus, c1, c2]
theorem readL_fmt {n : Int} (h : -1000000000 ≤ n) (h' : n ≤ 1000000000) : readL (fmtL n) = some n := by
  unfold readL fmtL
  split
  · simp only [unsign, minus]; rw [if_pos (by simp), rdL_dec (by omega)]; simp; omega
  · rw [(unsign_dec _).1, (unsign_dec _).2, rdL_dec (by omega)]; simp; omega
theorem readL_fmt_none {n : Int} (h : n < -1000000000 ∨ 1000000000 < n) : readL (fmtL n) = none := by
  unfold readL fmtL
  split
  · simp only [unsign, minus]; rw [if_pos (by simp), rdL_dec_big (by omega)]; rfl
  · rw [(unsign_dec _).1, rdL_dec_big (by omega)]; rfl
theorem parseL_fmt {n : Int} (h : -1000000000 ≤ n) (h' : n ≤ 1000000000) : parseL (fmtL n) = some n := by
  unfold parseL; rw [readL_fmt h h']; simp
theorem parseL_fmt_none {n : Int} (h : n < -1000000000 ∨ 1000000000 < n) : parseL (fmtL n) = none := by
  unfold parseL; rw [readL_fmt_none h]; rfl

end Go.Proofs.Ytdkpleghpnflhaa.NumP
