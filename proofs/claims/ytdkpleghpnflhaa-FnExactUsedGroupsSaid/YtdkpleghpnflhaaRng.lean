/- CHAPTER 4: LISTS OF RANGES: laws.eqRangeS, szRangeS, toRangeS, markRangeS, heldRangeS. -/
import Derived.Test.YtdkpleghpnflhaaBuf
import Derived.Test.YtdkpleghpnflhaaOpen
import Derived.Deep.RegionHeld3
import Derived.Maps.AppendAt
set_option linter.unusedVariables false
set_option linter.unusedSimpArgs false
namespace Go.Proofs.Ytdkpleghpnflhaa
open Go.RowKit

def Rg.enc (x : Rg) : List Value := [.int .i64 x.lo, .int .i64 x.hi]
instance : Inhabited Rg := ⟨⟨0, 0⟩⟩
theorem Rg.enc_len (x : Rg) : x.enc.length = 2 := rfl
/-- the value v is a slice that holds the ranges l; it is the call's own -/
abbrev HasG (w : World) (v : Value) (l : List Rg) : Prop := HasR Rg.enc 2 w v l
abbrev RowG (B : Nat) (w : World) (v : Value) (l : List Rg) : Prop := RowR Rg.enc 2 106 B w v l
theorem RowR.hasG {B : Nat} {w : World} {v : Value} {l : List Rg} (h : RowG B w v l) : HasG w v l := RowR.has Rg.enc_len h

/-- at p lies the range x -/
def Gk (w : World) (p : Addr) (x : Rg) : Prop := w.cell? p = some (.int .i64 x.lo) ∧ w.cell? ⟨p.block, p.off + 1, none⟩ = some (.int .i64 x.hi)
theorem Gk.below {w w' : World} {p : Addr} {x : Rg} (h : Gk w p x) (hb : Below w.heap.size w w') (hp : p.block < w.heap.size) : Gk w' p x :=
  ⟨by rw [hb.cell hp]; exact h.1, by rw [hb.cell (p := ⟨p.block, p.off + 1, none⟩) hp]; exact h.2⟩
/-- the k-th range of a list that is read -/
theorem HasG.gk {w : World} {A : Option Addr} {l : List Rg} (h : ∀ i (h : i < l.length), ∃ a, A = some a ∧ a.block < w.heap.size ∧ ∀ j x, (l[i].enc)[j]? = some x → w.cell? ((a.add (i * 2)).add j) = some x) (k : Nat) (hk : k < l.length) :
    ∃ a, A = some a ∧ (a.add (k * 2)).block < w.heap.size ∧ Gk w (a.add (k * 2)) l[k] := by
  obtain ⟨a, ha, hb, hc⟩ := h k hk
  exact ⟨a, ha, by rw [addr_blk]; exact hb, hc 0 _ rfl, hc 1 _ rfl⟩
theorem held_rngs {w w1 w2 : World} {p q : Addr} {x y : Rg} (k : Below w1.heap.size w1 w2)
    (h : (w1.cell? p = some (.int .i64 x.lo) ∧ w1.cell? ⟨p.block, p.off + 1, none⟩ = some (.int .i64 x.hi)) ∧ (w1.cell? q = some (.int .i64 y.lo) ∧ w1.cell? ⟨q.block, q.off + 1, none⟩ = some (.int .i64 y.hi)) ∧ Below w.heap.size w w1)
    (hp : p.block < w.heap.size) (hq : q.block < w.heap.size) :
    (w2.cell? p = some (.int .i64 x.lo) ∧ w2.cell? ⟨p.block, p.off + 1, none⟩ = some (.int .i64 x.hi)) ∧ (w2.cell? q = some (.int .i64 y.lo) ∧ w2.cell? ⟨q.block, q.off + 1, none⟩ = some (.int .i64 y.hi)) ∧ Below w.heap.size w w2 :=
  ⟨Gk.below h.1 k (Nat.lt_of_lt_of_le hp h.2.2.size), Gk.below h.2.1 k (Nat.lt_of_lt_of_le hq h.2.2.size), below_step h.2.2 k⟩
set_option maxRecDepth 100000 in
theorem eqRng_same (a b : Int) (w : World) :
    Calls Try.prog 62 #[.agg #[.int .i64 a, .int .i64 b], .agg #[.int .i64 a, .int .i64 b]] w fun e w' => e = .returned (.bool true) ∧ Below w.heap.size w w' := by
  go_enter Try.func62, Try.ntmps62
  go_wp2
  go_ret
  exact ⟨rfl, ((Below.refl _ _).alloc (Nat.le_refl _) _).alloc (by simp) _⟩
set_option maxRecDepth 100000 in
set_option maxHeartbeats 1000000 in
theorem eqRngs_any (u v : Value) (l : List Rg) (w : World) (hu : HasG w u l) (hv : HasG w v l) :
    Calls Try.prog 56 #[u, v] w fun e w' => e = .returned (.bool true) ∧ Below w.heap.size w w' := by
  obtain ⟨A, cap, rfl, hn', hc⟩ := hu
  obtain ⟨A', cap', rfl, _, hc'⟩ := hv
  obtain ⟨n, hnn⟩ : ∃ n, n = l.length := ⟨_, rfl⟩
  have HN : Hid (n = l.length) := Lib.hid hnn
  rw [← hnn] at hn' ⊢
  clear hnn
  go_enter Try.func56, Try.ntmps56
  go_wp2
  go_loopw [5] (fun i wr => ∃ k : Nat, k ≤ n ∧ i = .int .i64 k ∧ Below w.heap.size w wr) (fun i _ => n - (intOf i).toNat)
  case atStart => exact ⟨0, Nat.zero_le _, rfl, Below.refl _ _⟩
  case round =>
    obtain ⟨k, hk, rfl, hbel⟩ := hrel
    by_cases hlt : k < n
    · obtain ⟨a, rfl, hab, hcell0⟩ := HasG.gk hc k (by rw [← HN.out]; exact hlt)
      obtain ⟨a', rfl, hab', hcell0'⟩ := HasG.gk hc' k (by rw [← HN.out]; exact hlt)
      obtain ⟨x, hx⟩ : ∃ x, x = l[k]'(by rw [← HN.out]; exact hlt) := ⟨_, rfl⟩
      rw [← hx] at hcell0 hcell0'
      obtain ⟨c0, c1⟩ := hcell0.below hbel hab
      obtain ⟨d0, d1⟩ := hcell0'.below hbel hab'
      clear hx hc hc' hcell0 hcell0'
      go_wp2
      go_region_held3 (fun w' => (w'.cell? (a.add (k * 2)) = some (.int .i64 x.lo) ∧ w'.cell? ⟨(a.add (k * 2)).block, (a.add (k * 2)).off + 1, none⟩ = some (.int .i64 x.hi)) ∧ (w'.cell? (a'.add (k * 2)) = some (.int .i64 x.lo) ∧ w'.cell? ⟨(a'.add (k * 2)).block, (a'.add (k * 2)).off + 1, none⟩ = some (.int .i64 x.hi)) ∧ Below w.heap.size w w') (first | exact ⟨⟨c0, c1⟩, ⟨d0, d1⟩, hbel.drew⟩ | exact held_rngs hbm (by assumption) hab hab' | go_keep) (first | (go_at_call 62; refine (eqRng_same _ _ _).mono ?_; rintro e w1 ⟨rfl, hbm⟩))
      go_wp2
      go_roundw
      case rel => exact ⟨k + 1, by omega, by go_num, (by assumption : _ ∧ _ ∧ Below _ _ _).2.2⟩
      case measure => simp [intOf]; omega
    · go_wp2
      go_ret
      exact ⟨rfl, hbel⟩
set_option maxRecDepth 100000 in
theorem szRngs_any (v : Value) (l : List Rg) (left : Int) (w : World) (hv : HasG w v l) (h0 : 0 ≤ left) (h1 : left ≤ 1048576) :
    Calls Try.prog 51 #[v, .int .i64 left] w fun e w' => e = .returned (.int .i64 (if left < l.length then -1 else left - l.length)) ∧ w = w' := by
  obtain ⟨A, cap, rfl, hn', hc⟩ := hv
  clear hc
  generalize l.length = n at *
  by_cases hbig : left < n
  · rw [if_pos hbig]
    go_enter Try.func51, Try.ntmps51
    go_wp2
    go_ret
    exact ⟨rfl, rfl⟩
  · rw [if_neg hbig]
    go_enter Try.func51, Try.ntmps51
    go_wp2
    go_ret
    exact ⟨rfl, rfl⟩
theorem infoRng : (Try.prog.info? 106).map (fun i => (i.zero, i.size, i.bytes)) = some (some (.agg #[.int .i64 0, .int .i64 0]), 2, 16) := by kernel_rfl
theorem set_fillG {l : List Rg} {k : Nat} (hk : k < l.length) (m : Nat) (z : Rg) (hm : m = l.length - k) : (l.take k ++ List.replicate m z).set k l[k] = l.take (k + 1) ++ List.replicate (m - 1) z := by
  subst hm
  obtain ⟨m, hm⟩ : ∃ m, l.length - k = m + 1 := ⟨l.length - k - 1, by omega⟩
  rw [hm, List.replicate_succ, List.set_append_right _ _ (by simp only [List.length_take]; exact Nat.min_le_left _ _), List.length_take, Nat.min_eq_left (by omega), Nat.sub_self, List.set_cons_zero, Nat.add_sub_cancel, List.take_succ_eq_append_getElem hk, List.append_assoc]
  rfl
/-- a range's field turned; the whole range turned -/
theorem RowG.put0 {B g n cap : Nat} {w : World} {L : List Rg} (h : RowG B w (.slice (some ⟨g, 0, none⟩) n cap) L) {i : Nat} (hi : i < L.length) (k : Int) :
    RowG B (w.setCell ⟨g, i * 2, none⟩ (.int .i64 k)) (.slice (some ⟨g, 0, none⟩) n cap) (L.set i ⟨k, L[i].hi⟩) ∧ w.grownBy (w.setCell ⟨g, i * 2, none⟩ (.int .i64 k)) (some g) :=
  RowR.set1 Rg.enc_len h hi 0 (by omega) _ _ rfl
theorem RowG.put1 {B g n cap : Nat} {w : World} {L : List Rg} (h : RowG B w (.slice (some ⟨g, 0, none⟩) n cap) L) {i : Nat} (hi : i < L.length) (k : Int) :
    RowG B (w.setCell ⟨g, i * 2 + 1, none⟩ (.int .i64 k)) (.slice (some ⟨g, 0, none⟩) n cap) (L.set i ⟨L[i].lo, k⟩) ∧ w.grownBy (w.setCell ⟨g, i * 2 + 1, none⟩ (.int .i64 k)) (some g) :=
  RowR.set1 Rg.enc_len h hi 1 (by omega) _ _ rfl
theorem RowG.put {B g n cap : Nat} {w : World} {L : List Rg} (h : RowG B w (.slice (some ⟨g, 0, none⟩) n cap) L) {i : Nat} (hi : i < L.length) (x : Rg) :
    RowG B ((w.setCell ⟨g, i * 2, none⟩ (.int .i64 x.lo)).setCell ⟨g, i * 2 + 1, none⟩ (.int .i64 x.hi)) (.slice (some ⟨g, 0, none⟩) n cap) (L.set i x) ∧
    w.grownBy ((w.setCell ⟨g, i * 2, none⟩ (.int .i64 x.lo)).setCell ⟨g, i * 2 + 1, none⟩ (.int .i64 x.hi)) (some g) := by
  have h0 := h.put0 hi x.lo
  have h1 := RowG.put1 h0.1 (i := i) (by simpa using hi) x.hi
  refine ⟨?_, h0.2.trans h1.2⟩
  have := h1.1
  simpa [List.set_set] using this
/-- what the walk asks of the cells of a range of the call's own -/
theorem RowG.cells {B g n cap : Nat} {w : World} {L : List Rg} (h : RowG B w (.slice (some ⟨g, 0, none⟩) n cap) L) {i : Nat} (hi : i < L.length) :
    (w.cell? ⟨g, i * 2, none⟩ = some (.int .i64 L[i].lo) ∧ w.cell? ⟨g, i * 2 + 1, none⟩ = some (.int .i64 L[i].hi)) ∧
    w.frozen? ⟨g, i * 2, none⟩ = false ∧ w.frozen? ⟨g, i * 2 + 1, none⟩ = false :=
  ⟨⟨RowR.cell Rg.enc_len h hi (j := 0) rfl, RowR.cell Rg.enc_len h hi (j := 1) rfl⟩, RowR.frozen h _, RowR.frozen h _⟩
/-- 'own = append(own, x)' of a range that lies in the block that the statement has just laid -/
theorem wpList_rng_append {ops : Array Oper} {rest : List Oper} {o : Oper} {a : Act} {Q : Exit → Act → World → Prop} {w : World} (hgd : o.guard = none) (s x : Operand)
    (ho : o.op = .call { callee := .builtin .append, args := #[s, x], argTypes := #[54, 54] })
    (B g n c : Nat) (L : List Rg) (hs : a.eval s = .slice (some ⟨g, 0, none⟩) n c) (hrow : RowG B w (.slice (some ⟨g, 0, none⟩) n c) L)
    (y : Rg) (b : Nat) (hx : a.eval x = .slice (some ⟨b, 0, none⟩) 1 1) (hb : b = w.heap.size) (hlen : n + 1 ≤ 549755813888) (hbase : B ≤ w.heap.size) (q : Nat) (hq : q = n + 1)
    (h : ∀ g' c'' w', RowG B w' (.slice (some ⟨g', 0, none⟩) q c'') (L ++ [y]) → (w.alloc (.cells #[.int .i64 y.lo, .int .i64 y.hi] 106)).grownBy w' (some g) → wpList Try.prog ops Q rest (a.put o.dst (.slice (some ⟨g', 0, none⟩) q c'')) w') :
    wpList Try.prog ops Q (o :: rest) a (w.alloc (.cells #[.int .i64 y.lo, .int .i64 y.hi] 106)) := by
  obtain ⟨i0, hi, hz0, hz1, hz2⟩ := info_parts infoRng
  have hnL := RowR.cap' hrow
  subst hq
  subst hnL
  subst hb
  refine wpList_append_own _ hgd s x 54 ho B 106 i0 (.agg #[.int .i64 0, .int .i64 0]) 2 16 Try.underlying54 hi hz0 hz1 hz2 rfl (by decide) _ L.length (L.flatMap Rg.enc) hs (RowR.alloc hrow _) ⟨w.heap.size, 0, none⟩ 1 1 y.enc hx rfl (World.news_of_block (heap_alloc_new w _)) (by simp [Rg.enc, Value.oneCell']) (by unfold maxLen; omega) (by omega) (Nat.le_trans hbase ((Below.refl 0 w).alloc (Nat.zero_le _) _).size) ?_
  intro v' w' h2 h3 h4
  rcases h2.2 with ⟨h5, _⟩ | ⟨g', cap', cur, h5, _⟩
  · exact absurd (h4.1 h5).1 (by simp)
  · subst h5
    refine h g' cap' w' ?_ h3
    unfold RowG RowR
    rw [List.length_append, List.flatMap_append, List.flatMap_singleton]
    exact h2
/-- an empty list of the call's own -/
theorem rowG_new (w : World) (B : Nat) (h : B ≤ w.heap.size) : RowG B (w.alloc (.cells #[] 106)) (.slice (some ⟨w.heap.size, 0, none⟩) 0 0) [] := rowR_empty (heap_alloc_new w _) h
/-- the same, and where the new list lies -/
theorem wpList_rng_append_at {ops : Array Oper} {rest : List Oper} {o : Oper} {a : Act} {Q : Exit → Act → World → Prop} {w : World} (hgd : o.guard = none) (s x : Operand)
    (ho : o.op = .call { callee := .builtin .append, args := #[s, x], argTypes := #[54, 54] })
    (B g n c : Nat) (L : List Rg) (hs : a.eval s = .slice (some ⟨g, 0, none⟩) n c) (hrow : RowG B w (.slice (some ⟨g, 0, none⟩) n c) L)
    (y : Rg) (b : Nat) (hx : a.eval x = .slice (some ⟨b, 0, none⟩) 1 1) (hb : b = w.heap.size) (hlen : n + 1 ≤ 549755813888) (hbase : B ≤ w.heap.size) (q : Nat) (hq : q = n + 1)
    (h : ∀ g' c'' w', RowG B w' (.slice (some ⟨g', 0, none⟩) q c'') (L ++ [y]) → (w.alloc (.cells #[.int .i64 y.lo, .int .i64 y.hi] 106)).grownBy w' (some g) → (g' = g ∨ w.heap.size < g') → wpList Try.prog ops Q rest (a.put o.dst (.slice (some ⟨g', 0, none⟩) q c'')) w') :
    wpList Try.prog ops Q (o :: rest) a (w.alloc (.cells #[.int .i64 y.lo, .int .i64 y.hi] 106)) := by
  obtain ⟨i0, hi, hz0, hz1, hz2⟩ := info_parts infoRng
  have hnL := RowR.cap' hrow
  subst hq
  subst hnL
  subst hb
  refine wpList_append_own_at _ hgd s x 54 ho B 106 i0 (.agg #[.int .i64 0, .int .i64 0]) 2 16 Try.underlying54 hi hz0 hz1 hz2 rfl (by decide) _ L.length (L.flatMap Rg.enc) hs (RowR.alloc hrow _) ⟨w.heap.size, 0, none⟩ 1 1 y.enc hx rfl (World.news_of_block (heap_alloc_new w _)) (by simp [Rg.enc, Value.oneCell']) (by unfold maxLen; omega) (by omega) (Nat.le_trans hbase ((Below.refl 0 w).alloc (Nat.zero_le _) _).size) ?_
  intro v' w' h2 h3 h4 h6
  rcases h2.2 with ⟨h5, _⟩ | ⟨g', cap', cur, h5, _⟩
  · exact absurd (h4.1 h5).1 (by simp)
  · subst h5
    refine h g' cap' w' ?_ h3 ?_
    · unfold RowG RowR
      rw [List.length_append, List.flatMap_append, List.flatMap_singleton]
      exact h2
    · rcases h6 with h6 | h6
      · exact .inl (Option.some.inj h6)
      · have h7 : g' = (w.alloc (.cells #[.int .i64 y.lo, .int .i64 y.hi] 106)).heap.size := Option.some.inj h6
        exact .inr (by rw [h7]; simp)
/-- 'append(own, other...)' -/
theorem wpList_rng_appends {ops : Array Oper} {rest : List Oper} {o : Oper} {a : Act} {Q : Exit → Act → World → Prop} {w : World} (hgd : o.guard = none) (s x : Operand)
    (ho : o.op = .call { callee := .builtin .append, args := #[s, x], argTypes := #[54, 54] })
    (B g n c : Nat) (L : List Rg) (hs : a.eval s = .slice (some ⟨g, 0, none⟩) n c) (hrow : RowG B w (.slice (some ⟨g, 0, none⟩) n c) L)
    (B2 g2 n2 c2 : Nat) (L2 : List Rg) (hx : a.eval x = .slice (some ⟨g2, 0, none⟩) n2 c2) (hrow2 : RowG B2 w (.slice (some ⟨g2, 0, none⟩) n2 c2) L2)
    (h0 : 0 < n) (hlen : n + n2 ≤ 549755813888) (hbase : B ≤ w.heap.size) (q : Nat) (hq : q = n + n2)
    (h : ∀ g' c'' w', RowG B w' (.slice (some ⟨g', 0, none⟩) q c'') (L ++ L2) → w.grownBy w' (some g) → wpList Try.prog ops Q rest (a.put o.dst (.slice (some ⟨g', 0, none⟩) q c'')) w') :
    wpList Try.prog ops Q (o :: rest) a w := by
  obtain ⟨i0, hi, hz0, hz1, hz2⟩ := info_parts infoRng
  have hnL := RowR.cap' hrow
  have hnL2 := RowR.cap' hrow2
  subst hq
  subst hnL
  subst hnL2
  refine wpList_append_own _ hgd s x 54 ho B 106 i0 (.agg #[.int .i64 0, .int .i64 0]) 2 16 Try.underlying54 hi hz0 hz1 hz2 rfl (by decide) _ L.length (L.flatMap Rg.enc) hs hrow ⟨g2, 0, none⟩ L2.length c2 (L2.flatMap Rg.enc) hx (flat_len Rg.enc_len L2) (World.ownsRow.cells hrow2 (g := g2) rfl) (fun u hu => by obtain ⟨y, _, hy⟩ := List.mem_flatMap.1 hu; simp [Rg.enc] at hy; rcases hy with rfl | rfl <;> rfl) (by unfold maxLen; omega) (by omega) hbase ?_
  intro v' w' h2 h3 h4
  rcases h2.2 with ⟨h5, _⟩ | ⟨g', cap', cur, h5, _⟩
  · exact absurd (h4.1 h5).1 (by simp)
  · subst h5
    refine h g' cap' w' ?_ h3
    unfold RowG RowR
    rw [List.length_append, List.flatMap_append]
    exact h2
/-- 'own = append(own, x)' at a step of a region that draws its order -/
theorem step_rng_append {w : World} {ops : Array Oper} {o : Oper} {a : Act} {K : Act → World → Prop} {Q : Exit → Act → World → Prop} {E : Prop} (hgd : o.guard = none) (s x : Operand)
    (ho : o.op = .call { callee := .builtin .append, args := #[s, x], argTypes := #[54, 54] })
    (B g n c : Nat) (L : List Rg) (hs : a.eval s = .slice (some ⟨g, 0, none⟩) n c) (hrow : RowG B w (.slice (some ⟨g, 0, none⟩) n c) L)
    (y : Rg) (ad : Addr) (c' : Nat) (hx : a.eval x = .slice (some ad) 1 c') (hnews : ∀ j u, y.enc[j]? = some u → w.cell? (ad.add j) = some u)
    (hlen : n + 1 ≤ 549755813888) (hbase : B ≤ w.heap.size) (q : Nat) (hq : q = n + 1)
    (h : ∀ g' c'' w', RowG B w' (.slice (some ⟨g', 0, none⟩) q c'') (L ++ [y]) → w.grownBy w' (some g) → (g' = g ∨ g' = w.heap.size) → K (a.put o.dst (.slice (some ⟨g', 0, none⟩) q c'')) w') :
    if Region.wanted o (yielded ops a.tmps) = true then Oper.wp Try.prog o a w K Q else E := by
  have hw : Region.wanted o (yielded ops a.tmps) = true := by simp [Region.wanted, hgd]
  rw [if_pos hw]
  obtain ⟨i0, hi, hz0, hz1, hz2⟩ := info_parts infoRng
  have hnL := RowR.cap' hrow
  subst hq
  subst hnL
  obtain ⟨v', w', hr, h2, h3, h4, h5⟩ := run_append_own_at (P := Try.prog) w B 54 o.type 106 i0 (.agg #[.int .i64 0, .int .i64 0]) 2 16 Try.underlying54 hi hz0 hz1 hz2 rfl (by decide) _ L.length (L.flatMap Rg.enc) hrow ad 1 c' y.enc rfl hnews (by simp [Rg.enc, Value.oneCell']) (by unfold maxLen; omega) (by omega) hbase
  unfold Oper.wp execOp
  simp only [ho, resolve, invoke, builtin, Sem.run_bind, Sem.run_pure, Result.andThen_ok, List.map_toArray, List.map_cons, List.map_nil, hs, hx, hr]
  rcases h2.2 with ⟨h6, _⟩ | ⟨g', cap', cur, h6, _⟩
  · exact absurd (h4.1 h6).1 (by simp)
  · subst h6
    refine h g' cap' w' ?_ h3 ?_
    · unfold RowG RowR
      rw [List.length_append, List.flatMap_append, List.flatMap_singleton]
      exact h2
    · rcases h5 with h5 | h5
      · exact .inl (Option.some.inj h5)
      · exact .inr (Option.some.inj h5)
theorem news_rng (w : World) (y : Rg) (t : TypeId) : ∀ j u, y.enc[j]? = some u → (w.alloc (.cells #[.int .i64 y.lo, .int .i64 y.hi] t)).cell? ((⟨w.heap.size, 0, none⟩ : Addr).add j) = some u := World.news_of_block (heap_alloc_new w _)
/-- a variable of the call's own that holds a range -/
theorem rowG_box (w : World) (x : Rg) (B : Nat) (h : B ≤ w.heap.size) : RowG B (w.alloc (.cells #[.int .i64 x.lo, .int .i64 x.hi] 106)) (.slice (some ⟨w.heap.size, 0, none⟩) 1 1) [x] :=
  ⟨by simp [Rg.enc], .inr ⟨w.heap.size, 1, #[.int .i64 x.lo, .int .i64 x.hi], rfl, h, heap_alloc_new w _, by simp, by unfold maxLen; omega, by simp, by simp [Rg.enc]⟩⟩
theorem RowG.box {B g n c : Nat} {w : World} {x : Rg} (h : RowG B w (.slice (some ⟨g, 0, none⟩) n c) [x]) :
    w.cell? ⟨g, 0, none⟩ = some (.int .i64 x.lo) ∧ w.cell? ⟨g, 1, none⟩ = some (.int .i64 x.hi) ∧ w.frozen? ⟨g, 0, none⟩ = false ∧ w.frozen? ⟨g, 1, none⟩ = false := by
  have := RowG.cells h (i := 0) (by simp)
  exact ⟨this.1.1, this.1.2, this.2.1, this.2.2⟩
theorem RowG.boxPut {B g n c : Nat} {w : World} {x : Rg} (h : RowG B w (.slice (some ⟨g, 0, none⟩) n c) [x]) (y : Rg) :
    RowG B ((w.setCell ⟨g, 0, none⟩ (.int .i64 y.lo)).setCell ⟨g, 1, none⟩ (.int .i64 y.hi)) (.slice (some ⟨g, 0, none⟩) n c) [y] ∧ w.grownBy ((w.setCell ⟨g, 0, none⟩ (.int .i64 y.lo)).setCell ⟨g, 1, none⟩ (.int .i64 y.hi)) (some g) := RowG.put h (i := 0) (by simp) y
/-- another's row, where one row has grown -/
theorem RowR.apart {α : Type} {enc : α → List Value} {z E B g n c j : Nat} {w w' : World} {l : List α} (h : RowR enc z E B w (.slice (some ⟨g, 0, none⟩) n c) l) (hg : w.grownBy w' (some j)) (hne : g ≠ j) : RowR enc z E B w' (.slice (some ⟨g, 0, none⟩) n c) l :=
  RowR.other (u := .slice (some ⟨j, 0, none⟩) 0 0) h hg (fun k hk e => hne ((Option.some.inj hk).trans (Option.some.inj e).symm))
/-- a boxed struct of two cells, behind calls that leave it alone -/
theorem box2 {w w1 : World} {v0 v1 : Value} {t : TypeId} (h : Below (w.alloc (.cells #[v0, v1] t)).heap.size (w.alloc (.cells #[v0, v1] t)) w1) :
    w1.cell? ⟨w.heap.size, 0, none⟩ = some v0 ∧ w1.cell? ⟨w.heap.size, 1, none⟩ = some v1 := by
  have hn := World.news_of_block (cs := #[v0, v1]) (t := t) (fr := (0, 0)) (heap_alloc_new w _)
  have hl : w.heap.size < (w.alloc (.cells #[v0, v1] t)).heap.size := by simp
  refine ⟨?_, ?_⟩
  · rw [h.cell (p := ⟨w.heap.size, 0, none⟩) hl, ← addr_zero]; exact hn 0 v0 rfl
  · rw [h.cell (p := ⟨w.heap.size, 1, none⟩) hl, ← addr_zero]; exact hn 1 v1 rfl
set_option maxRecDepth 100000 in
theorem toRng_any (a b : Int) (w : World) :
    Calls Try.prog 60 #[.agg #[.int .i64 a, .int .i64 b]] w fun e w' => e = .returned (.agg #[.int .i64 a, .int .i64 b]) ∧ Below w.heap.size w w' := by
  go_enter Try.func60, Try.ntmps60
  go_wp2
  exact bodyPost_ret (v := .agg #[.int .i64 a, .int .i64 b]) (by simp [results, Try.results60, go_sem]) rfl ⟨rfl, below_al (below_al (below_al (Below.refl _ _) _) _) _⟩
set_option maxRecDepth 100000 in
set_option maxHeartbeats 1000000 in
theorem toRngs_any (v : Value) (l : List Rg) (w : World) (hv : HasG w v l) (hn : l.length ≤ 1048576) :
    Calls Try.prog 53 #[v] w fun e w' => ∃ v', e = .returned v' ∧ RowG w.heap.size w' v' l ∧ Below w.heap.size w w' := by
  obtain ⟨i0, hi, hz0, hz1, hz2⟩ := info_parts infoRng
  have hv' := hv
  obtain ⟨A, cap, rfl, hn', hc⟩ := hv
  obtain ⟨n, hnn⟩ : ∃ n, n = l.length := ⟨_, rfl⟩
  have HN : Hid (n = l.length) := Lib.hid hnn
  rw [← hnn] at hn hn' hv' ⊢
  clear hnn
  go_enter Try.func53, Try.ntmps53
  have hb2 : i0.bytes * n ≤ 281474976710656 := by rw [hz2]; omega
  have hb3 : n ≤ maxLen := by unfold maxLen; omega
  have HZ : Hid (i0.bytes = 16) := Lib.hid hz2
  clear hz2
  go_wp2_with (at_make; refine wpList_make_full _ rfl _ _ 54 rfl w.heap.size 106 i0 (.agg #[.int .i64 0, .int .i64 0]) 2 Try.underlying54 hi hz0 hz1 _ _ _ _ n rfl rfl rfl rfl hb2 hb3 (Nat.le_refl _) ?_; intro w1 hown1 hg1)
  have hrow0 : RowG w.heap.size w1 (.slice (some ⟨w.heap.size, 0, none⟩) n n) (l.take 0 ++ List.replicate n ⟨0, 0⟩) := by
    have := hown1
    rw [show (madeCells (Value.agg #[.int .i64 0, .int .i64 0]).cells (n * 2)).toList = (List.replicate n (⟨0, 0⟩ : Rg)).flatMap Rg.enc from made_flat Rg.enc_len (by omega) _ ⟨0, 0⟩ rfl n] at this
    unfold RowG RowR
    simpa using this
  have hbel1 : Below w.heap.size w w1 := (Below.refl _ _).grown hg1 (Nat.le_refl _) (by simp)
  clear hown1 hg1
  go_loopw [4] (fun i wr => ∃ k : Nat, k ≤ n ∧ i = .int .i64 k ∧ RowG w.heap.size wr (.slice (some ⟨w.heap.size, 0, none⟩) n n) (l.take k ++ List.replicate (n - k) ⟨0, 0⟩) ∧ Below w.heap.size w wr) (fun i _ => n - (intOf i).toNat)
  case atStart => exact ⟨0, Nat.zero_le _, rfl, hrow0, hbel1⟩
  case round =>
    obtain ⟨k, hk, rfl, hrow, hbel⟩ := hrel
    by_cases hlt : k < n
    · obtain ⟨a, rfl, hab, hcell⟩ := HasG.gk hc k (by rw [← HN.out]; exact hlt)
      obtain ⟨x, hx⟩ : ∃ x, x = l[k]'(by rw [← HN.out]; exact hlt) := ⟨_, rfl⟩
      rw [← hx] at hcell
      have HX := Lib.hid hx
      obtain ⟨c0, c1⟩ := hcell.below hbel hab
      clear hcell hx
      have hL : k < (l.take k ++ List.replicate (n - k) (⟨0, 0⟩ : Rg)).length := by have := HN.out; simp; omega
      go_wp2_with (go_at_call 60; refine (toRng_any _ _ _).mono ?_; rintro e w2 ⟨rfl, hb2⟩; have hrow2 := RowR.below hrow hb2; have hbel2 := below_step hbel hb2; obtain ⟨⟨e0, e1⟩, f0, f1⟩ := RowG.cells hrow2 hL; have HP := Lib.hid (RowG.put hrow2 hL x); clear hrow hbel hb2 hrow2)
      go_roundw
      case rel =>
        refine ⟨k + 1, by omega, by go_num, ?_, hbel2.grown HP.out.2 hbel2.size (fun _ h => by cases h; exact Nat.le_refl _)⟩
        have h := HP.out.1
        rw [HX.out, set_fillG (by rw [← HN.out]; exact hlt) _ _ (by have := HN.out; omega), ← HX.out] at h
        rw [show n - (k + 1) = n - k - 1 by omega]; exact h
      case measure => simp [intOf]; omega
    · go_wp2
      go_ret
      refine ⟨_, rfl, ?_, hbel⟩
      rw [List.take_of_length_le (by have := HN.out; omega), show n - k = 0 by omega, List.replicate_zero, List.append_nil] at hrow
      exact hrow
/-- the range that is marked from the q-th mark on; n of them -/
def mG (q : Nat) : Rg := ⟨q, (q : Int) + 1⟩
def marksG (k n : Nat) : List Rg := (List.range n).map fun i => mG (k + 2 * i)
theorem marksG_length (k n : Nat) : (marksG k n).length = n := by simp [marksG]
theorem marksG_get (k n i : Nat) (h : i < (marksG k n).length) : (marksG k n)[i] = mG (k + 2 * i) := by simp [marksG]
theorem marksG_step {l : List Rg} {k i n : Nat} (hi : i < n) (hn : n = l.length) : (marksG k i ++ l.drop i).set i (mG (k + 2 * i)) = marksG k (i + 1) ++ l.drop (i + 1) := by
  subst hn
  rw [List.set_append_right _ _ (by rw [marksG_length]; exact Nat.le_refl _), marksG_length, Nat.sub_self, List.drop_eq_getElem_cons hi, List.set_cons_zero]
  unfold marksG
  rw [List.range_succ, List.map_append, List.append_assoc]; rfl
set_option maxRecDepth 100000 in
set_option maxHeartbeats 1000000 in
theorem markRngsB (B : Nat) (v : Value) (l : List Rg) (k : Nat) (w : World) (hv : RowG B w v l) (hn : l.length ≤ 274877906944) (hk : k ≤ 4611686018427387904) :
    Calls Try.prog 31 #[v, .int .i64 k] w fun e w' => e = .returned (.int .i64 ((k + 2 * l.length : Nat) : Int)) ∧ RowG B w' v (marksG k l.length) ∧ w.grownBy w' v.ownBlock := by
  rcases RowR.form hv with ⟨rfl, rfl⟩ | ⟨g, cap, rfl, hg0, hg⟩
  · go_enter Try.func31, Try.ntmps31
    go_wp2
    go_loopw [1, 5] (fun x i wr => x = .int .i64 k ∧ i = .int .i64 0 ∧ wr = w) (fun _ _ _ => 0)
    case atStart => exact ⟨rfl, rfl, rfl⟩
    case round =>
      obtain ⟨rfl, rfl, rfl⟩ := hrel
      go_wp2
      go_ret
      exact ⟨ret_int (by simp), hv, ⟨rfl, rfl, rfl, Nat.le_refl _, fun _ _ _ => rfl⟩⟩
  · obtain ⟨n, hnn⟩ : ∃ n, n = l.length := ⟨_, rfl⟩
    have HN : Hid (n = l.length) := Lib.hid hnn
    have hv0 : RowG B w (.slice (some ⟨g, 0, none⟩) n cap) (marksG k 0 ++ l.drop 0) := by rw [hnn]; simpa [marksG] using hv
    rw [← hnn] at hn ⊢
    clear hv hnn
    go_enter Try.func31, Try.ntmps31
    go_wp2
    go_loopw [1, 5] (fun x i wr => ∃ j q : Nat, j ≤ n ∧ Hid (q = k + 2 * j) ∧ q ≤ 4611686568183201792 ∧ x = .int .i64 q ∧ i = .int .i64 j ∧ RowG B wr (.slice (some ⟨g, 0, none⟩) n cap) (marksG k j ++ l.drop j) ∧ w.grownBy wr (some g)) (fun _ i _ => n - (intOf i).toNat)
    case atStart => exact ⟨0, k, Nat.zero_le _, Lib.hid (by omega), by omega, rfl, rfl, hv0, ⟨rfl, rfl, rfl, Nat.le_refl _, fun _ _ _ => rfl⟩⟩
    case round =>
      obtain ⟨j, q, hj, HQ, hq, rfl, rfl, hrow, hgr⟩ := hrel
      by_cases hlt : j < n
      · have hL : j < (marksG k j ++ l.drop j).length := by have := HN.out; simp [marksG_length]; omega
        obtain ⟨⟨e0, e1⟩, f0, f1⟩ := RowG.cells hrow hL
        have hp := RowG.put hrow hL (mG q)
        have HP := Lib.hid hp.1
        have HG := Lib.hid hp.2
        clear hrow hp
        go_wp2
        go_roundw
        case rel =>
          refine ⟨j + 1, q + 2, by omega, Lib.hid (by have := HQ.out; omega), by have := HQ.out; omega, by go_num, by go_num, ?_, hgr.trans HG.out⟩
          have h := HP.out
          rw [show mG q = mG (k + 2 * j) by rw [HQ.out], marksG_step hlt HN.out, ← HQ.out] at h
          exact h
        case measure => simp [intOf]; omega
      · go_wp2
        go_ret
        have e : j = n := by omega
        subst e
        rw [List.drop_of_length_le (by have := HN.out; omega), List.append_nil] at hrow
        exact ⟨ret_int (by rw [HQ.out]), hrow, hgr⟩
theorem markRngs_any (B : Nat) (v : Value) (l : List Rg) (k : Nat) (w : World) (hv : RowG B w v l) (hn : l.length ≤ 274877906944) (hk : k ≤ 549755813889) :
    Calls Try.prog 31 #[v, .int .i64 k] w fun e w' => e = .returned (.int .i64 ((k + 2 * l.length : Nat) : Int)) ∧ RowG B w' v (marksG k l.length) ∧ w.grownBy w' v.ownBlock := markRngsB B v l k w hv hn (by omega)
theorem markRngsQ (B : Nat) (v : Value) (l : List Rg) (k : Nat) (w : World) (hv : RowG B w v l) (hn : l.length ≤ 1048576) (hk : k ≤ 1073741824) :
    Calls Try.prog 31 #[v, .int .i64 k] w fun e w' => (∃ q : Nat, e = .returned (.int .i64 q) ∧ q ≤ k + 2097152) ∧ RowG B w' v (marksG k l.length) ∧ w.grownBy w' v.ownBlock :=
  (markRngs_any B v l k w hv (by omega) (by omega)).mono fun _ _ ⟨he, h⟩ => ⟨⟨_, he, by omega⟩, h⟩
theorem markRngsQ1 (B : Nat) (v : Value) (l : List Rg) (w : World) (hv : RowG B w v l) (hn : l.length ≤ 1048576) :
    Calls Try.prog 31 #[v, .int .i64 1] w fun e w' => (∃ q : Nat, e = .returned (.int .i64 q) ∧ q ≤ 1 + 2097152) ∧ RowG B w' v (marksG 1 l.length) ∧ w.grownBy w' v.ownBlock := markRngsQ B v l 1 w hv hn (by omega)
theorem markRngs1 (B : Nat) (v : Value) (l : List Rg) (w : World) (hv : RowG B w v l) (hn : l.length ≤ 274877906944) :
    Calls Try.prog 31 #[v, .int .i64 1] w fun e w' => e = .returned (.int .i64 ((1 + 2 * l.length : Nat) : Int)) ∧ RowG B w' v (marksG 1 l.length) ∧ w.grownBy w' v.ownBlock :=
  markRngs_any B v l 1 w hv hn (by omega)
end Go.Proofs.Ytdkpleghpnflhaa
