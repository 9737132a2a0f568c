/- LISTS OF TEXTS: a slice that is read ('Has'), a slice of the call's own ('Row'); laws.szStringS, toStringS, eqStringS. -/
import Derived.Test.YtlgooejoohcmfaaBase
import Derived.OwnWalk
import Derived.Laws.AppendOwn
import Derived.Deep.AppendLies
import Derived.Deep.Onto
import Derived.Deep.Light
import Derived.Deep.QuietTactic
import Derived.BigQuiet
import Derived.RegionTactic
set_option linter.unusedVariables false
set_option linter.unusedSimpArgs false
namespace Go.Proofs.Ytlgooejoohcmfaa
open Go.RowKit

theorem infoStr : (Try.prog.info? 9).map (fun i => (i.zero, i.size, i.bytes)) = some (some (.string ⟨#[]⟩), 1, 16) := by kernel_rfl
/-- the value v is a slice that holds the texts l -/
def Has (w : World) (v : Value) (l : List ByteArray) : Prop :=
  ∃ (A : Option Addr) (cap : Nat), v = .slice A l.length cap ∧ l.length ≤ 9223372036854775807 ∧ ∀ i (h : i < l.length), ∃ a, A = some a ∧ a.block < w.heap.size ∧ w.cell? (a.add i) = some (.string l[i])
/-- the slice v is the call's own (its block is from B on) and holds the texts l -/
def Row (B : Nat) (w : World) (v : Value) (l : List ByteArray) : Prop := w.ownsRow B 9 1 v l.length (l.map Value.string)
theorem add_blk (a : Addr) (j : Nat) : (a.add j).block = a.block := by unfold Addr.add; split <;> rfl
theorem add_zero (g j : Nat) : (⟨g, 0, none⟩ : Addr).add j = ⟨g, j, none⟩ := by
  unfold Addr.add; split
  · subst_vars; rfl
  · simp
theorem Has.below {w w' : World} {v : Value} {l : List ByteArray} (h : Has w v l) (hb : Below w.heap.size w w') : Has w' v l := by
  obtain ⟨A, cap, hv, hn, h⟩ := h
  refine ⟨A, cap, hv, hn, fun i hi => ?_⟩
  obtain ⟨a, h1, h2, h3⟩ := h i hi
  exact ⟨a, h1, Nat.lt_of_lt_of_le h2 hb.size, by rw [hb.cell (by rw [add_blk]; exact h2)]; exact h3⟩
theorem Row.cell {B : Nat} {w : World} {l : List ByteArray} {g cap n : Nat} (h : Row B w (.slice (some ⟨g, 0, none⟩) n cap) l) {i : Nat} (hi : i < l.length) : w.cell? ⟨g, i, none⟩ = some (.string l[i]) := by
  have := h.cells (g := g) rfl i (.string l[i]) (by rw [List.getElem?_map, List.getElem?_eq_getElem hi]; rfl)
  rwa [add_zero] at this
theorem Row.len {B : Nat} {w : World} {v : Value} {l : List ByteArray} (h : Row B w v l) : l.length ≤ 9223372036854775807 := by
  rcases h.2 with ⟨_, h0⟩ | ⟨g, cap, cur, _, _, _, h1, h2, _, _⟩
  · omega
  · unfold maxLen at h2; omega
theorem Row.form {B : Nat} {w : World} {v : Value} {l : List ByteArray} (h : Row B w v l) : (v = .slice none 0 0 ∧ l = []) ∨ ∃ g cap, v = .slice (some ⟨g, 0, none⟩) l.length cap ∧ B ≤ g ∧ g < w.heap.size := by
  rcases h.2 with ⟨h1, h0⟩ | ⟨g, cap, cur, h1, h2, h3, _⟩
  · exact .inl ⟨h1, List.length_eq_zero_iff.1 h0⟩
  · exact .inr ⟨g, cap, h1, h2, (Array.getElem?_eq_some_iff.1 h3).1⟩
theorem Row.has {B : Nat} {w : World} {v : Value} {l : List ByteArray} (h : Row B w v l) : Has w v l := by
  rcases h.form with ⟨rfl, rfl⟩ | ⟨g, cap, rfl, _, hg⟩
  · exact ⟨none, 0, rfl, by simp, fun i hi => absurd hi (by simp)⟩
  · exact ⟨_, cap, rfl, h.len, fun i hi => ⟨_, rfl, hg, by rw [add_zero]; exact h.cell hi⟩⟩
theorem has_nil (w : World) : Has w (.slice none 0 0) [] := ⟨none, 0, rfl, by simp, fun i hi => absurd hi (by simp)⟩
theorem lt_of_cell {w : World} {p : Addr} {v : Value} (h : w.cell? p = some v) : p.block < w.heap.size := by
  rcases Nat.lt_or_ge p.block w.heap.size with hlt | hge
  · exact hlt
  · unfold World.cell? at h; rw [Array.getElem?_eq_none hge] at h; cases h
/-- an argument that reads as a list of texts -/
theorem has_of {w : World} {x : Addr} {n c : Nat} {ss : List ByteArray} (hl : n ≤ ss.length) (hm : n ≤ maxLen) (hcell : ∀ i, i < ss.length → w.cell? (x.add i) = some (.string (ss.getD i ByteArray.empty))) : Has w (.slice (some x) n c) (ss.take n) := by
  have e : (ss.take n).length = n := by rw [List.length_take]; omega
  refine ⟨some x, c, by rw [e], by rw [e]; unfold maxLen at hm; omega, fun i hi => ?_⟩
  have hi' : i < ss.length := by rw [e] at hi; omega
  have h := hcell i hi'
  refine ⟨x, rfl, by have := lt_of_cell h; rwa [add_blk] at this, ?_⟩
  rw [h, List.getElem_take, List.getD_eq_getElem?_getD, List.getElem?_eq_getElem hi', Option.getD_some]
theorem Row.alloc {B : Nat} {w : World} {v : Value} {l : List ByteArray} (h : Row B w v l) (o : Obj) : Row B (w.alloc o) v l := World.ownsRow.alloc h o
theorem Row.below {B : Nat} {w w' : World} {v : Value} {l : List ByteArray} (h : Row B w v l) (hb : Below w.heap.size w w') : Row B w' v l :=
  h.kept (row := none) ⟨hb.os, hb.tape, hb.output, hb.size, fun k hk _ => hb.block k hk⟩ (by
    rcases h.form with ⟨rfl, _⟩ | ⟨g, cap, rfl, _, _⟩ <;> simp [Value.ownBlock])
theorem Row.other {B : Nat} {w w' : World} {v u : Value} {l : List ByteArray} (h : Row B w v l) (hg : w.grownBy w' u.ownBlock) (hne : ∀ k, v.ownBlock = some k → u.ownBlock ≠ some k) : Row B w' v l :=
  h.kept hg (by
    cases e : v.ownBlock with
    | none => exact .inl rfl
    | some k => exact .inr fun e' => hne k e e'.symm)
theorem Row.mono {B B' : Nat} {w : World} {v : Value} {l : List ByteArray} (h : Row B w v l) (hb : B' ≤ B) : Row B' w v l := World.ownsRow.mono h hb
theorem Row.lt {B : Nat} {w : World} {v : Value} {l : List ByteArray} (h : Row B w v l) {k : Nat} (hk : v.ownBlock = some k) : B ≤ k ∧ k < w.heap.size := World.ownsRow.lt h k hk
theorem Row.set {B : Nat} {w : World} {l : List ByteArray} {g cap n : Nat} (h : Row B w (.slice (some ⟨g, 0, none⟩) n cap) l) (hn : n = l.length) (i : Nat) (s : ByteArray) :
    Row B (w.setCell ⟨g, i, none⟩ (.string s)) (.slice (some ⟨g, 0, none⟩) n cap) (l.set i s) ∧ w.grownBy (w.setCell ⟨g, i, none⟩ (.string s)) (some g) := by
  subst hn
  have := World.ownsRow.stored h i (.string s)
  refine ⟨?_, this.2⟩
  unfold Row
  rw [List.length_set, List.map_set]
  exact this.1
theorem Row.frozen {B : Nat} {w : World} {l : List ByteArray} {g cap n : Nat} (h : Row B w (.slice (some ⟨g, 0, none⟩) n cap) l) (hn : n = l.length) (i : Nat) : w.frozen? ⟨g, i, none⟩ = false := by
  subst hn; exact World.ownsRow.frozenAt h i
theorem below_drewN {B : Nat} {a w : World} (h : Below B a w) (q : Nat) : Below B a (w.drewN q) := ⟨h.os, h.tape, h.output, h.size, h.block⟩
theorem grown_below {w w' : World} {row : Option Nat} (h : Below w.heap.size w w') : w.grownBy w' row := ⟨h.os, h.tape, h.output, h.size, fun k hk _ => h.block k hk⟩
theorem below_of {w w' : World} (h : w.grownBy w' none) : Below w.heap.size w w' := (Below.refl _ _).grown h (Nat.le_refl _) (by simp)
theorem set_fill {l : List ByteArray} {k : Nat} (hk : k < l.length) (m : Nat) (z : ByteArray) (hm : m = l.length - k) : (l.take k ++ List.replicate m z).set k l[k] = l.take (k + 1) ++ List.replicate (m - 1) z := by
  subst hm
  obtain ⟨m, hm⟩ : ∃ m, l.length - k = m + 1 := ⟨l.length - k - 1, by omega⟩
  rw [hm, List.replicate_succ, List.set_append_right _ _ (by simp only [List.length_take]; exact Nat.min_le_left _ _), List.length_take, Nat.min_eq_left (by omega), Nat.sub_self, List.set_cons_zero, Nat.add_sub_cancel, List.take_succ_eq_append_getElem hk, List.append_assoc]
  rfl

theorem Row.cap' {B : Nat} {w : World} {l : List ByteArray} {g cap n : Nat} (h : Row B w (.slice (some ⟨g, 0, none⟩) n cap) l) : n = l.length := by
  rcases h.2 with ⟨h', _⟩ | ⟨g', cap', cur, h', _⟩
  · cases h'
  · cases h'; rfl
/-- 'append(own, news...)' at a step of a region that draws its order -/
theorem step_row_append {w : World} {ops : Array Oper} {o : Oper} {a : Act} {K : Act → World → Prop} {Q : Exit → Act → World → Prop} {E : Prop} (hgd : o.guard = none) (s x : Operand)
    (ho : o.op = .call { callee := .builtin .append, args := #[s, x], argTypes := #[31, 31] })
    (B g n c : Nat) (L : List ByteArray) (hs : a.eval s = .slice (some ⟨g, 0, none⟩) n c) (hrow : Row B w (.slice (some ⟨g, 0, none⟩) n c) L) (hnL : n = L.length)
    (ad : Addr) (m c' : Nat) (news : List ByteArray) (hx : a.eval x = .slice (some ad) m c') (hm : m = news.length) (hnews : ∀ j (h : j < news.length), w.cell? (ad.add j) = some (.string news[j]))
    (hlen : n + m ≤ 4194304) (hbase : B ≤ w.heap.size) (q : Nat) (hq : q = n + m)
    (h : ∀ g' c'' w', Row B w' (.slice (some ⟨g', 0, none⟩) q c'') (L ++ news) → w.grownBy w' (some g) → K (a.put o.dst (.slice (some ⟨g', 0, none⟩) q c'')) w') :
    if Region.wanted o (yielded ops a.tmps) = true then Oper.wp Try.prog o a w K Q else E := by
  have hw : Region.wanted o (yielded ops a.tmps) = true := by simp [Region.wanted, hgd]
  rw [if_pos hw]
  obtain ⟨i0, hi, hz0, hz1, hz2⟩ := info_parts infoStr
  subst hq
  subst hnL hm
  refine wp_append_own w s x 31 ho B 9 i0 (.string ⟨#[]⟩) 1 16 Try.underlying31 hi hz0 hz1 hz2 rfl (by decide) _ L.length (L.map Value.string) hs hrow ad news.length c' (news.map Value.string) hx (by simp) (fun j u hj => ?_) (fun u hu => ?_) (by unfold maxLen; omega) (by omega) hbase ?_
  · rw [List.getElem?_map] at hj
    cases hlj : news[j]? with
    | none => rw [hlj] at hj; cases hj
    | some y =>
      rw [hlj] at hj; cases hj
      obtain ⟨hj', hy⟩ := List.getElem?_eq_some_iff.1 hlj
      rw [hnews j hj', hy]
  · obtain ⟨y, _, rfl⟩ := List.mem_map.1 hu; rfl
  · intro v' w' h2 h3 h4
    rcases h2.2 with ⟨h5, _⟩ | ⟨g', cap', cur, h5, _⟩
    · exact absurd (h4.1 h5).1 (by simp)
    · subst h5
      refine h g' cap' w' ?_ h3
      unfold Row
      rw [List.length_append, List.map_append]
      exact h2
/-- the same in a list of operations: 'own = append(own, x)' where x lies in the block that the statement has just laid -/
theorem wpList_row_append {ops : Array Oper} {rest : List Oper} {o : Oper} {a : Act} {Q : Exit → Act → World → Prop} {w : World} (hgd : o.guard = none) (s x : Operand)
    (ho : o.op = .call { callee := .builtin .append, args := #[s, x], argTypes := #[31, 31] })
    (B g n c : Nat) (L : List ByteArray) (hs : a.eval s = .slice (some ⟨g, 0, none⟩) n c) (hrow : Row B w (.slice (some ⟨g, 0, none⟩) n c) L)
    (y : ByteArray) (hx : a.eval x = .slice (some ⟨w.heap.size, 0, none⟩) 1 1) (hlen : n + 1 ≤ 4194304) (hbase : B ≤ w.heap.size) (q : Nat) (hq : q = n + 1)
    (h : ∀ g' c'' w', Row B w' (.slice (some ⟨g', 0, none⟩) q c'') (L ++ [y]) → (w.alloc (.cells #[.string y] 9)).grownBy w' (some g) → wpList Try.prog ops Q rest (a.put o.dst (.slice (some ⟨g', 0, none⟩) q c'')) w') :
    wpList Try.prog ops Q (o :: rest) a (w.alloc (.cells #[.string y] 9)) := by
  obtain ⟨i0, hi, hz0, hz1, hz2⟩ := info_parts infoStr
  have hnL := hrow.cap'
  subst hq
  subst hnL
  refine wpList_append_own _ hgd s x 31 ho B 9 i0 (.string ⟨#[]⟩) 1 16 Try.underlying31 hi hz0 hz1 hz2 rfl (by decide) _ L.length (L.map Value.string) hs (hrow.alloc _) ⟨w.heap.size, 0, none⟩ 1 1 [.string y] hx rfl (World.news_of_block (heap_alloc_new w _)) (by simp [Value.oneCell']) (by unfold maxLen; omega) (by omega) (Nat.le_trans hbase ((Below.refl 0 w).alloc (Nat.zero_le _) _).size) ?_
  intro v' w' h2 h3 h4
  rcases h2.2 with ⟨h5, _⟩ | ⟨g', cap', cur, h5, _⟩
  · exact absurd (h4.1 h5).1 (by simp)
  · subst h5
    refine h g' cap' w' ?_ h3
    unfold Row
    rw [List.length_append, List.map_append]
    exact h2
theorem s_alloc {w3 W : World} {p : Addr} {v : Value} (h : W.cell? p = some v ∧ Below w3.heap.size w3 W) (o : Obj) : (W.alloc o).cell? p = some v ∧ Below w3.heap.size w3 (W.alloc o) :=
  ⟨by rw [World.cell?_alloc_lt W _ _ (by
      rcases Nat.lt_or_ge p.block W.heap.size with hlt | hge
      · exact hlt
      · have := h.1; unfold World.cell? at this; rw [Array.getElem?_eq_none hge] at this; cases this)]; exact h.1, h.2.alloc h.2.size o⟩
theorem s_alloc_d {w3 W : World} {p : Addr} {v : Value} (h : W.drew.cell? p = some v ∧ Below w3.heap.size w3 W.drew) (o : Obj) : (W.alloc o).drew.cell? p = some v ∧ Below w3.heap.size w3 (W.alloc o).drew := s_alloc (W := W.drew) h o
theorem row_empty {B b : Nat} {W : World} (hb : W.heap[b]? = some (.cells #[] 9)) (hB : B ≤ b) : Row B W (.slice (some ⟨b, 0, none⟩) 0 0) [] := ⟨rfl, .inr ⟨b, 0, #[], rfl, hB, hb, by simp, by simp, rfl, rfl⟩⟩
theorem Row.cap {B : Nat} {w : World} {l : List ByteArray} {g cap n : Nat} (h : Row B w (.slice (some ⟨g, 0, none⟩) n cap) l) : n = l.length ∧ n ≤ cap := by
  rcases h.2 with ⟨h', _⟩ | ⟨g', cap', cur, h', _, _, h1, _, _, _⟩
  · cases h'
  · cases h'; exact ⟨rfl, h1⟩
theorem s_of {w3 W : World} {p : Addr} {v : Value} (h0 : w3.cell? p = some v) (h : Below w3.heap.size w3 W) : W.cell? p = some v ∧ Below w3.heap.size w3 W :=
  ⟨by rw [h.cell (by
      rcases Nat.lt_or_ge p.block w3.heap.size with hlt | hge
      · exact hlt
      · have := h0; unfold World.cell? at this; rw [Array.getElem?_eq_none hge] at this; cases this)]; exact h0, h⟩
theorem cell_new (w : World) (v : Value) (t : TypeId) : (w.alloc (.cells #[v] t)).cell? ⟨w.heap.size, 0, none⟩ = some v := by
  have := World.news_of_block (cs := #[v]) (t := t) (fr := (0, 0)) (heap_alloc_new w _) 0 v rfl
  rwa [add_zero] at this
theorem one_src {W : World} {b : Nat} {x : ByteArray} (h : W.cell? ⟨b, 0, none⟩ = some (.string x)) : ∀ j (h : j < [x].length), W.cell? ((⟨b, 0, none⟩ : Addr).add j) = some (.string [x][j]) := fun j hj => by
  have : j = 0 := by simpa using hj
  subst this
  rw [add_zero]; exact h
theorem Row.src_take {B : Nat} {w3 W : World} {L : List ByteArray} {g c m : Nat} (h : Row B w3 (.slice (some ⟨g, 0, none⟩) m c) L) (hb : Below w3.heap.size w3 W) (k : Nat) : ∀ j (hj : j < (L.take k).length), W.cell? ((⟨g, 0, none⟩ : Addr).add j) = some (.string (L.take k)[j]) := fun j hj => by
  have hl : j < L.length := by rw [List.length_take] at hj; omega
  rw [add_zero, hb.cell (p := ⟨g, j, none⟩) (h.lt rfl).2, h.cell hl, List.getElem_take]
theorem Row.src_drop {B : Nat} {w3 W : World} {L : List ByteArray} {g c m : Nat} (h : Row B w3 (.slice (some ⟨g, 0, none⟩) m c) L) (hb : Below w3.heap.size w3 W) (k : Nat) : ∀ j (hj : j < (L.drop k).length), W.cell? ((⟨g, k, none⟩ : Addr).add j) = some (.string (L.drop k)[j]) := fun j hj => by
  have hl : k + j < L.length := by rw [List.length_drop] at hj; omega
  have e : (⟨g, k, none⟩ : Addr).add j = ⟨g, k + j, none⟩ := by
    unfold Addr.add; split
    · subst_vars; rfl
    · rfl
  rw [e, hb.cell (p := ⟨g, k + j, none⟩) (h.lt rfl).2, h.cell hl, List.getElem_drop]
theorem heap_new1 (w : World) (o1 o2 : Obj) : ((w.alloc o1).alloc o2).heap[w.heap.size + 1]? = some o2 := by
  have h := heap_alloc_new (w.alloc o1) o2
  have e : (w.alloc o1).heap.size = w.heap.size + 1 := by simp
  rwa [e] at h
theorem heap_new0 (w : World) (o1 o2 : Obj) : ((w.alloc o1).alloc o2).heap[w.heap.size]? = some o1 := by
  rw [Below.heap_alloc _ _ _ (by have e : (w.alloc o1).heap.size = w.heap.size + 1 := by simp
                                 omega)]
  exact heap_alloc_new w o1
theorem cell_of_heap {w : World} {b : Nat} {v : Value} {t : TypeId} (h : w.heap[b]? = some (.cells #[v] t)) : w.cell? ⟨b, 0, none⟩ = some v := by
  have := World.news_of_block (cs := #[v]) (t := t) (fr := (0, 0)) h 0 v rfl
  rwa [add_zero] at this
set_option maxRecDepth 100000 in
set_option maxHeartbeats 1000000 in
theorem toStrs_any (v : Value) (l : List ByteArray) (w : World) (hv : Has w v l) (hn : l.length ≤ 1048576) :
    Calls Try.prog 17 #[v] w fun e w' => ∃ v', e = .returned v' ∧ Row w.heap.size w' v' l ∧ Below w.heap.size w w' := by
  obtain ⟨i0, hi, hz0, hz1, hz2⟩ := info_parts infoStr
  have hv' := hv
  obtain ⟨A, cap, rfl, hn', hc⟩ := hv
  obtain ⟨n, hnn⟩ : ∃ n, n = l.length := ⟨_, rfl⟩
  have HN : Hid (n = l.length) := Lib.hid hnn
  rw [← hnn] at hn hn' hv' ⊢
  clear hnn
  go_enter Try.func17, Try.ntmps17
  have hb2 : i0.bytes * n ≤ 281474976710656 := by rw [hz2]; omega
  have hb3 : n ≤ maxLen := by unfold maxLen; omega
  have HZ : Hid (i0.bytes = 16) := Lib.hid hz2
  clear hz2
  go_wp2_with (at_make; refine wpList_make_full _ rfl _ _ 31 rfl w.heap.size 9 i0 (.string ⟨#[]⟩) 1 Try.underlying31 hi hz0 hz1 _ _ _ _ n rfl rfl rfl rfl hb2 hb3 (Nat.le_refl _) ?_; intro w1 hown1 hg1)
  have hrow0 : Row w.heap.size w1 (.slice (some ⟨w.heap.size, 0, none⟩) n n) (l.take 0 ++ List.replicate n (⟨#[]⟩ : ByteArray)) := by
    have := hown1
    rw [show (Value.string ⟨#[]⟩).cells = #[.string ⟨#[]⟩] from rfl, toList_madeCells_one, Nat.mul_one] at this
    unfold Row
    simpa using this
  have hbel1 : Below w.heap.size w w1 := below_of hg1
  clear hown1 hg1
  go_loopw [4] (fun i wr => ∃ k : Nat, k ≤ n ∧ i = .int .i64 k ∧ Row w.heap.size wr (.slice (some ⟨w.heap.size, 0, none⟩) n n) (l.take k ++ List.replicate (n - k) (⟨#[]⟩ : ByteArray)) ∧ Below w.heap.size w wr) (fun i _ => n - (intOf i).toNat)
  case atStart => exact ⟨0, Nat.zero_le _, rfl, hrow0, hbel1⟩
  case round =>
    obtain ⟨k, hk, rfl, hrow, hbel⟩ := hrel
    by_cases hlt : k < n
    · obtain ⟨a, rfl, hab, hcell0⟩ := hc k (by rw [← HN.out]; exact hlt)
      have hcell : wr.cell? (a.add k) = some (.string (l[k]'(by rw [← HN.out]; exact hlt))) := by rw [hbel.cell (by rw [add_blk]; exact hab)]; exact hcell0
      have hfr := hrow.frozen (by have := HN.out; simp; omega) k
      have hcell2 := hrow.cell (i := k) (by have := HN.out; simp; omega)
      have HST := Lib.hid (hrow.set (by have := HN.out; simp; omega) k (l[k]'(by rw [← HN.out]; exact hlt)))
      clear hcell0 hrow
      go_wp2
      go_roundw
      case rel =>
        refine ⟨k + 1, by omega, by go_num, ?_, hbel.grown HST.out.2 hbel.size (fun _ h => by cases h; exact Nat.le_refl _)⟩
        have h := HST.out.1
        rw [set_fill (by rw [← HN.out]; exact hlt) _ _ (by have := HN.out; omega)] at h
        rw [show n - (k + 1) = n - k - 1 by omega]; exact h
      case measure => simp [intOf]; omega
    · go_wp2
      go_ret
      refine ⟨_, rfl, ?_, hbel⟩
      rw [List.take_of_length_le (by have := HN.out; omega), show n - k = 0 by omega, List.replicate_zero, List.append_nil] at hrow
      exact hrow
set_option maxRecDepth 100000 in
set_option maxHeartbeats 1000000 in
theorem eqStrs_any (u v : Value) (l : List ByteArray) (w : World) (hu : Has w u l) (hv : Has w v l) :
    Calls Try.prog 20 #[u, v] w fun e w' => e = .returned (.bool true) ∧ Below w.heap.size w w' := by
  obtain ⟨A, cap, rfl, hn', hc⟩ := hu
  obtain ⟨A', cap', rfl, _, hc'⟩ := hv
  obtain ⟨n, hnn⟩ : ∃ n, n = l.length := ⟨_, rfl⟩
  have HN : Hid (n = l.length) := Lib.hid hnn
  rw [← hnn] at hn' ⊢
  clear hnn
  go_enter Try.func20, Try.ntmps20
  go_wp2
  go_loopw [5] (fun i wr => ∃ k : Nat, k ≤ n ∧ i = .int .i64 k ∧ Below w.heap.size w wr) (fun i _ => n - (intOf i).toNat)
  case atStart => exact ⟨0, Nat.zero_le _, rfl, Below.refl _ _⟩
  case round =>
    obtain ⟨k, hk, rfl, hbel⟩ := hrel
    by_cases hlt : k < n
    · obtain ⟨a, rfl, hab, hcell0⟩ := hc k (by rw [← HN.out]; exact hlt)
      obtain ⟨a', rfl, hab', hcell0'⟩ := hc' k (by rw [← HN.out]; exact hlt)
      have hcell : wr.cell? (a.add k) = some (.string (l[k]'(by rw [← HN.out]; exact hlt))) := by rw [hbel.cell (by rw [add_blk]; exact hab)]; exact hcell0
      have hcell' : wr.cell? (a'.add k) = some (.string (l[k]'(by rw [← HN.out]; exact hlt))) := by rw [hbel.cell (by rw [add_blk]; exact hab')]; exact hcell0'
      clear hcell0 hcell0'
      go_wp2
      go_quiet (fail)
      go_wp2
      go_roundw
      case rel => exact ⟨k + 1, by omega, by go_num, below_drewN hbel _⟩
      case measure => simp [intOf]; omega
    · go_wp2
      go_ret
      exact ⟨rfl, hbel⟩
set_option maxRecDepth 100000 in
set_option maxHeartbeats 1000000 in
theorem szStrs_any (v : Value) (l : List ByteArray) (left : Int) (w : World) (hv : Has w v l) (hs : ∀ s ∈ l, s.size ≤ 9223372036854775807) (h0 : 0 ≤ left) (h1 : left ≤ 1048576) :
    Calls Try.prog 15 #[v, .int .i64 left] w fun e w' => (∃ x : Int, e = .returned (.int .i64 x) ∧ (0 ≤ x → l.length ≤ 1048576)) ∧ w = w' := by
  obtain ⟨A, cap, rfl, hn', hc⟩ := hv
  obtain ⟨n, hnn⟩ : ∃ n, n = l.length := ⟨_, rfl⟩
  have HN : Hid (n = l.length) := Lib.hid hnn
  rw [← hnn] at hn' ⊢
  clear hnn
  by_cases hbig : left < n
  · go_enter Try.func15, Try.ntmps15
    go_wp2
    go_ret
    exact ⟨⟨_, rfl, fun h => by omega⟩, rfl⟩
  · go_enter Try.func15, Try.ntmps15
    go_wp2
    go_loop [1, 5] (fun x i => ∃ (k : Nat) (y : Int), k ≤ n ∧ i = .int .i64 k ∧ x = .int .i64 y ∧ 0 ≤ y ∧ y ≤ 1048576) (fun _ i => n - (intOf i).toNat)
    case atStart => exact ⟨0, _, Nat.zero_le _, rfl, rfl, by omega, by omega⟩
    case round =>
      obtain ⟨k, y, hk, rfl, rfl, hy0, hy1⟩ := hrel
      by_cases hlt : k < n
      · obtain ⟨a, rfl, hab, hcell⟩ := hc k (by rw [← HN.out]; exact hlt)
        have hsz := hs _ (List.getElem_mem (by rw [← HN.out]; exact hlt : k < l.length))
        by_cases hy : y < (l[k]'(by rw [← HN.out]; exact hlt)).size
        · go_wp2
          go_ret
          exact ⟨⟨_, rfl, fun h => by omega⟩, rfl⟩
        · go_wp2
          go_round
          case rel => exact ⟨k + 1, _, by omega, by go_num, rfl, by omega, by omega⟩
          case measure => simp [intOf]; omega
      · go_wp2
        go_ret
        exact ⟨⟨_, rfl, fun h => by omega⟩, rfl⟩
end Go.Proofs.Ytlgooejoohcmfaa
