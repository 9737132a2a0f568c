/- CHAPTER 7: DRAWS OF PATHS (printed by tools/gen_drawW.py). -/
import Derived.Test.YtdfapkceanicoaaDoorDrawT
import Derived.Test.YtdfapkceanicoaaDoorPpK
set_option linter.unusedVariables false
set_option linter.unusedSimpArgs false
namespace Go.Proofs.YtdfapkceanicoaaDoor
open Go.RowKit NumP
set_option maxRecDepth 100000

/-- a path while it is drawn: the cursor, the result's box at W0's end, the path's box at pb, its steps -/
structure D7 (W0 : World) (g : Nat) (A : Option Addr) (n cap pb : Nat) (root : Bool) (u : Int) (sv : Value) (st : List Stp) (S : Nat → Prop) (w : World) : Prop where
  C : Cur w g A n cap
  G : W0.grownBy w (some g)
  gl : g < W0.heap.size
  hA : 0 < n → ∀ a, A = some a → a.block < W0.heap.size
  Z : w.heap[W0.heap.size]? = some (.cells #[.bool false, .int .i64 0, .slice none 0 0] 26 (0, 0))
  X : w.heap[pb]? = some (.cells #[.bool root, .int .i64 u, sv] 26 (0, 0))
  pl : W0.heap.size < pb
  O : OwnS (W0.heap.size + 1) w sv st S
  np : ¬ S pb
section
variable {W0 w1 w2 : World} {g n cap pb sb : Nat} {A : Option Addr} {root : Bool} {u : Int} {sv tv : Value} {st : List Stp} {S : Nat → Prop} {nm : ByteArray} {L : List Tst}
theorem D7.step (h : D7 W0 g A n cap pb root u sv st S w1) (hC : Cur w2 g A n cap) (hG : w1.grownBy w2 (some g)) : D7 W0 g A n cap pb root u sv st S w2 := by
  have hb := h.gl
  have hp := h.pl
  exact ⟨hC, grown_trans h.G hG, hb, h.hA, grown_at hG h.Z (by omega), grown_at hG h.X (by omega), hp, OwL.frame h.O fun j hj => hG.block j (OwL.lt h.O j hj).2 (fun e => by have := Option.some.inj e; have := (OwL.lt h.O j hj).1; omega), h.np⟩
theorem D7.below (h : D7 W0 g A n cap pb root u sv st S w1) (hb : Below w1.heap.size w1 w2) : D7 W0 g A n cap pb root u sv st S w2 := h.step (h.C.below hb) (below_grown hb)
theorem D7.lt (h : D7 W0 g A n cap pb root u sv st S w1) : pb < w1.heap.size := (Array.getElem?_eq_some_iff.1 h.X).1
/-- another block, from the result's box on, is written -/
theorem D7.far {k : Nat} (h : D7 W0 g A n cap pb root u sv st S w1) (hg : w1.grownBy w2 (some k)) (hk : W0.heap.size < k) (hp : k ≠ pb) (hS : ¬ S k) : D7 W0 g A n cap pb root u sv st S w2 := by
  have hb := h.gl
  exact ⟨h.C.grown hg (by omega) (fun hn a ha => by have := h.hA hn a ha; omega), grown_far h.G hg (by omega), hb, h.hA, grown_at hg h.Z (by omega), grown_at hg h.X hp, h.pl, OwL.frame h.O fun j hj => hg.block j (OwL.lt h.O j hj).2 (fun e => by have := Option.some.inj e; subst this; exact hS hj), h.np⟩
theorem D7.put {root' : Bool} {u' : Int} (h : D7 W0 g A n cap pb root u sv st S w1) (j : Nat) (x : Value) (hX : #[.bool root, .int .i64 u, sv].setIfInBounds j x = #[.bool root', .int .i64 u', sv]) : D7 W0 g A n cap pb root' u' sv st S (w1.setCell ⟨pb, j, none⟩ x) := by
  have hg := grownBy_set w1 pb j x
  have hb := h.gl
  have hp := h.pl
  exact ⟨h.C.grown hg (by omega) (fun hn a ha => by have := h.hA hn a ha; omega), grown_far h.G hg (by omega), hb, h.hA, grown_at hg h.Z (by omega), by rw [heap_setCell_same w1 pb j _ _ _ h.X, hX], hp, OwL.frame h.O fun q hq => Below.heap_setCell w1 _ x q (fun e => by have e' : q = pb := e; subst e'; exact h.np hq), h.np⟩
theorem D7.putSv {sv' : Value} {st' : List Stp} {S' : Nat → Prop} (h : D7 W0 g A n cap pb root u sv st S w1) (hO : OwnS (W0.heap.size + 1) w1 sv' st' S') (hn : ¬ S' pb) : D7 W0 g A n cap pb root u sv' st' S' (w1.setCell ⟨pb, 2, none⟩ sv') := by
  have hg := grownBy_set w1 pb 2 sv'
  have hb := h.gl
  have hp := h.pl
  exact ⟨h.C.grown hg (by omega) (fun hn a ha => by have := h.hA hn a ha; omega), grown_far h.G hg (by omega), hb, h.hA, grown_at hg h.Z (by omega), by rw [heap_setCell_same w1 pb 2 _ _ _ h.X]; rfl, hp, OwL.frame hO fun q hq => Below.heap_setCell w1 _ sv' q (fun e => by have e' : q = pb := e; subst e'; exact hn hq), hn⟩
/-- the steps anew, then stored -/
theorem D7.snoc {k : Option Nat} {sv' : Value} {st' : List Stp} {S' : Nat → Prop} (h : D7 W0 g A n cap pb root u sv st S w1) (hg : w1.grownBy w2 k) (hk : ∀ j, k = some j → S j) (hO : OwnS (W0.heap.size + 1) w2 sv' st' S') (hn : ¬ S' pb) :
    w2.heap[pb]? = some (.cells #[.bool root, .int .i64 u, sv] 26 (0, 0)) ∧ D7 W0 g A n cap pb root u sv' st' S' (w2.setCell ⟨pb, 2, none⟩ sv') := by
  have hb := h.gl
  have hp := h.pl
  have hlt : ∀ j, k = some j → W0.heap.size < j ∧ j ≠ pb := fun j e => ⟨by have := (OwL.lt h.O j (hk j e)).1; omega, fun e' => h.np (e' ▸ hk j e)⟩
  have hat : ∀ {j : Nat} {o : Obj}, w1.heap[j]? = some o → (∀ q, k = some q → q ≠ j) → w2.heap[j]? = some o := fun hj hne => (hg.block _ (Array.getElem?_eq_some_iff.1 hj).1 (fun e => hne _ e.symm rfl)).trans hj
  have X := hat h.X (fun q e => (hlt q e).2)
  have Z := hat h.Z (fun q e => by have := (hlt q e).1; omega)
  have hC : Cur w2 g A n cap := by
    cases k with
    | none => exact h.C.below ⟨hg.os, hg.tape, hg.output, hg.size, fun q hq => hg.block q hq (by simp)⟩
    | some j => exact h.C.grown hg (by have := (hlt j rfl).1; omega) (fun hn a ha => by have := h.hA hn a ha; have := (hlt j rfl).1; omega)
  have hG : W0.grownBy w2 (some g) := ⟨hg.os.trans h.G.os, hg.tape.trans h.G.tape, hg.output.trans h.G.output, Nat.le_trans h.G.size hg.size, fun q hq hne => (hg.block q (Nat.lt_of_lt_of_le hq h.G.size) (fun e => by have := (hlt q e.symm).1; omega)).trans (h.G.block q hq hne)⟩
  have hg2 := grownBy_set w2 pb 2 sv'
  exact ⟨X, hC.grown hg2 (by omega) (fun hn a ha => by have := h.hA hn a ha; omega), grown_far hG hg2 (by omega), hb, h.hA, grown_at hg2 Z (by omega), by rw [heap_setCell_same w2 pb 2 _ _ _ X]; rfl, hp, OwL.frame hO fun q hq => Below.heap_setCell w2 _ sv' q (fun e => by have e' : q = pb := e; subst e'; exact hn hq), hn⟩
theorem D7.done (h : D7 W0 g A n cap pb root u sv st S w1) (x y z : Value) :
    OwnS (W0.heap.size + 1) (((w1.setCell ⟨W0.heap.size, 0, none⟩ x).setCell ⟨W0.heap.size, 1, none⟩ y).setCell ⟨W0.heap.size, 2, none⟩ z) sv st S ∧ Cur (((w1.setCell ⟨W0.heap.size, 0, none⟩ x).setCell ⟨W0.heap.size, 1, none⟩ y).setCell ⟨W0.heap.size, 2, none⟩ z) g A n cap ∧
    W0.grownBy (((w1.setCell ⟨W0.heap.size, 0, none⟩ x).setCell ⟨W0.heap.size, 1, none⟩ y).setCell ⟨W0.heap.size, 2, none⟩ z) (some g) := by
  have hb := h.gl
  have hA : ∀ k, W0.heap.size ≤ k → 0 < n → ∀ a, A = some a → a.block ≠ k := fun k hk hn a ha => by have := h.hA hn a ha; omega
  exact ⟨OwL.set (OwL.set (OwL.set h.O (by omega)) (by omega)) (by omega), ((h.C.grown (grownBy_set _ _ _ _) (by omega) (hA _ (Nat.le_refl _))).grown (grownBy_set _ _ _ _) (by omega) (hA _ (Nat.le_refl _))).grown (grownBy_set _ _ _ _) (by omega) (hA _ (Nat.le_refl _)), grown_far (grown_far (grown_far h.G (grownBy_set _ _ _ _) (Nat.le_refl _)) (grownBy_set _ _ _ _) (Nat.le_refl _)) (grownBy_set _ _ _ _) (Nat.le_refl _)⟩
/-- what the cursor's calls need -/
theorem D7.le (h : D7 W0 g A n cap pb root u sv st S w1) : W0.heap.size ≤ w1.heap.size := h.G.size
/-- the same while a step is drawn: its box at sb, its tests -/
structure E7 (W0 : World) (g : Nat) (A : Option Addr) (n cap pb : Nat) (root : Bool) (u : Int) (sv : Value) (st : List Stp) (S : Nat → Prop) (sb : Nat) (nm : ByteArray) (tv : Value) (L : List Tst) (w : World) : Prop where
  R : D7 W0 g A n cap pb root u sv st S w
  X : w.heap[sb]? = some (.cells #[.string nm, tv] 50 (0, 0))
  ts : RowX (sb + 1) w tv L
  lo : pb < sb
  Slt : ∀ j, S j → j < sb
theorem E7.step (h : E7 W0 g A n cap pb root u sv st S sb nm tv L w1) (hC : Cur w2 g A n cap) (hG : w1.grownBy w2 (some g)) : E7 W0 g A n cap pb root u sv st S sb nm tv L w2 := by
  have hb := h.R.gl
  have hp := h.R.pl
  have hl := h.lo
  exact ⟨h.R.step hC hG, grown_at hG h.X (by omega), rowR_frame h.ts fun j hj => hG.block j (RowR.lt h.ts hj).2 (fun e => by have := Option.some.inj e; have := (RowR.lt h.ts hj).1; omega), hl, h.Slt⟩
theorem E7.below (h : E7 W0 g A n cap pb root u sv st S sb nm tv L w1) (hb : Below w1.heap.size w1 w2) : E7 W0 g A n cap pb root u sv st S sb nm tv L w2 := h.step (h.R.C.below hb) (below_grown hb)
theorem E7.lt (h : E7 W0 g A n cap pb root u sv st S sb nm tv L w1) : sb < w1.heap.size := (Array.getElem?_eq_some_iff.1 h.X).1
theorem E7.snoc {k : Option Nat} {tv' : Value} {L' : List Tst} (h : E7 W0 g A n cap pb root u sv st S sb nm tv L w1) (hg : w1.grownBy w2 k) (hk : ∀ j, k = some j → sb + 1 ≤ j) (hN : RowX (sb + 1) w2 tv' L') :
    w2.heap[sb]? = some (.cells #[.string nm, tv] 50 (0, 0)) ∧ E7 W0 g A n cap pb root u sv st S sb nm tv' L' (w2.setCell ⟨sb, 1, none⟩ tv') := by
  have hb := h.R.gl
  have hp := h.R.pl
  have hl := h.lo
  obtain ⟨j, hg', hj⟩ : ∃ j, w1.grownBy w2 (some j) ∧ sb + 1 ≤ j := by
    cases k with
    | none => exact ⟨sb + 1, ⟨hg.os, hg.tape, hg.output, hg.size, fun q hq _ => hg.block q hq (by simp)⟩, Nat.le_refl _⟩
    | some j => exact ⟨j, hg, hk j rfl⟩
  have X := grown_at hg' h.X (by omega)
  have hg2 := grownBy_set w2 sb 1 tv'
  have R2 := h.R.far hg' (by omega) (by omega) (fun hh => by have := h.Slt _ hh; omega)
  refine ⟨X, R2.far hg2 (by omega) (by omega) (fun hh => by have := h.Slt _ hh; omega), by rw [heap_setCell_same w2 _ 1 _ _ _ X]; rfl, rowR_frame hN fun q hq => ?_, hl, h.Slt⟩
  have := RowR.lt hN hq
  exact Below.heap_setCell w2 _ tv' q (by show q ≠ sb; omega)
theorem e7_start (nm : ByteArray) (h : D7 W0 g A n cap pb root u sv st S w1) :
    E7 W0 g A n cap pb root u sv st S w1.heap.size nm (.slice none 0 0) [] (w1.alloc (.cells #[.string nm, .slice none 0 0] 50)) :=
  ⟨h.below (below_al (Below.refl _ _) _), heap_alloc_new w1 _, rowX_nil _ _, h.lt, fun j hj => (OwL.lt h.O j hj).2⟩
end
theorem d7_start {W0 : World} {g n cap : Nat} {A : Option Addr} (hC : Cur W0 g A n cap) (hA : 0 < n → ∀ a, A = some a → a.block < W0.heap.size) :
    D7 W0 g A n cap (W0.heap.size + 1) false 0 (.slice none 0 0) [] (fun _ => False) ((W0.alloc (.cells #[.bool false, .int .i64 0, .slice none 0 0] 26)).alloc (.cells #[.bool false, .int .i64 0, .slice none 0 0] 26)) := by
  have hb := below_al (below_al (Below.refl W0.heap.size W0) (.cells #[.bool false, .int .i64 0, .slice none 0 0] 26)) (.cells #[.bool false, .int .i64 0, .slice none 0 0] 26)
  exact ⟨hC.below hb, below_grown hb, hC.lt, hA, ((below_al (Below.refl _ _) _).block _ (by simp)).trans (heap_alloc_new W0 _), alloc_new_at' _ _ (by simp), by omega, owL_nil _ _ _ _, fun h => h⟩
def Small7 (st : List Stp) : Prop := st.length ≤ 10 ∧ ∀ s ∈ st, StpSz s
theorem small7_snoc {st : List Stp} {s : Stp} {k : Nat} (h : st.length ≤ k ∧ ∀ z ∈ st, StpSz z) (hs : StpSz s) : (st ++ [s]).length ≤ k + 1 ∧ ∀ z ∈ st ++ [s], StpSz z := by
  refine ⟨by rw [List.length_append]; simp; exact h.1, fun x hx => ?_⟩
  rcases List.mem_append.1 hx with hx | hx
  · exact h.2 x hx
  · rw [List.mem_singleton.1 hx]; exact hs
/-- what a draw of a path hands back -/
def DwV (W0 : World) (g : Nat) (A : Option Addr) (n cap : Nat) (e : Ending) (w' : World) : Prop :=
  ∃ root u sv st S, e = .returned (.agg #[.bool root, .int .i64 u, sv]) ∧ OwnS (W0.heap.size + 1) w' sv st S ∧ Hid (Small7 st) ∧ Cur w' g A n cap ∧ W0.grownBy w' (some g)
def emptyN (v : Option Value) : Nat := match v with
  | some (.slice _ m _) => if m = 0 then 1 else 0
  | _ => 0
theorem small_sz {s : ByteArray} (h : small s = true) : s.size ≤ 1048576 := by unfold small at h; have := of_decide_eq_true h; omega
theorem snoc_np {pb g' : Nat} {v : Value} {S Sr : Nat → Prop} {w : World} {o : Obj} {c' k : Nat} (hp : some g' = v.ownBlock ∨ g' = (w.alloc o).heap.size) (hv : ∀ q, v.ownBlock = some q → S q) (hn : ¬ S pb) (hr : ∀ q, Sr q → q ≠ pb) (hl : pb < (w.alloc o).heap.size) :
    ¬ ((Value.slice (some ⟨g', 0, none⟩) k c').ownBlock = some pb ∨ (S pb ∧ v.ownBlock ≠ some pb) ∨ Sr pb) := by
  rintro (h | h | h)
  · have e : g' = pb := Option.some.inj h
    rcases hp with hp | hp
    · exact hn (hv pb (by rw [← hp, e]))
    · omega
  · exact hn h.1
  · exact hr pb h rfl
set_option maxHeartbeats 64000000 in
theorem draw7_any (g : Nat) (A : Option Addr) (n cap : Nat) (w : World) (hc : Cur w g A n cap) (hA : 0 < n → ∀ a, A = some a → a.block < w.heap.size) :
    Calls Tryd.prog 35 #[.pointer (some ⟨g, 0, none⟩)] w fun e w' => DwV w g A n cap e w' := by
  have HD0 := Lib.hid (d7_start hc hA)
  clear hc hA
  go_enter Tryd.func35, Tryd.ntmps35
  go_wp2_with fail
  refine (below_any g A n cap 3 (by omega) _ HD0.out.C).mono ?_
  rintro e w1 ⟨x, hx0, -, hx2, rfl, hC, hG⟩
  have hx3 := hx2 (by omega)
  have HD1 := Lib.hid (HD0.out.step hC hG)
  clear hC hG HD0 hx2
  obtain ⟨⟨x0, x1, x2⟩, g0, g1, g2⟩ := three_f HD1.out.X
  rcases (show x = 0 ∨ x = 1 ∨ x = 2 by omega) with rfl | rfl | rfl
  · have HD2 := Lib.hid (HD1.out.put 0 (.bool true) rfl)
    go_wp2_with fail
    refine (below_any g A n cap 4 (by omega) _ HD2.out.C).mono ?_
    rintro e w2 ⟨y, hy0, -, hy2, rfl, hC, hG⟩
    have HI : Hid (0 ≤ y ∧ y ≤ 3) := Lib.hid (by have := hy2 (by omega); omega)
    have HDs := Lib.hid (HD2.out.step hC hG)
    clear hC hG hy2 hy0 HD1 HD2 x0 x1 x2 g0 g1 g2 hx0 hx3
    obtain ⟨pb, hpb⟩ : ∃ pb, pb = w.heap.size + 1 := ⟨_, rfl⟩
    rw [← hpb] at HDs ⊢
    clear hpb
    go_wp2
    go_loopw [4] (fun v wr => ∃ (i : Int) (root : Bool) (u : Int) (sv : Value) (st : List Stp) (S : Nat → Prop), v = .int .i64 i ∧ Hid (D7 w g A n cap pb root u sv st S wr) ∧ Hid ((st.length : Int) + (i.toNat : Int) ≤ 3 ∧ -1 ≤ i ∧ i ≤ 3 ∧ (i = -1 → st ≠ []) ∧ ∀ s ∈ st, StpSz s)) (fun v wr => (intOf v).toNat + emptyN (wr.cell? ⟨pb, 2, none⟩))
    case atStart => exact ⟨_, _, _, _, _, _, rfl, HDs, Lib.hid ⟨by have := HI.out; simp; omega, by have := HI.out; omega, by have := HI.out; omega, fun h => by have := HI.out; omega, fun s h => by cases h⟩⟩
    case round =>
      clear HDs HI
      obtain ⟨i, root, u, sv, st, S, rfl, HD, HB⟩ := hrel
      have hi1 : -1 ≤ i := HB.out.2.1
      have hi3 : i ≤ 3 := HB.out.2.2.1
      obtain ⟨As, ms, cs, hsv⟩ : ∃ A n c, sv = .slice A n c := by obtain ⟨A, c, hv, _⟩ := (OwnS.has HD.out.O).at; exact ⟨A, _, c, hv⟩
      have HMS : Hid (ms = st.length) := Lib.hid (by obtain ⟨A, c, hv, _⟩ := (OwnS.has HD.out.O).at; rw [hsv] at hv; injection hv)
      subst hsv
      have HMEAS : Hid (wr.cell? ⟨pb, 2, none⟩ = some (.slice As ms cs)) := Lib.hid (three_f HD.out.X).1.2.2
      obtain ⟨⟨x0, x1, x2⟩, g0, g1, g2⟩ := three_f HD.out.X
      by_cases hi : 0 < i
      · have HBI : Hid (0 ≤ i ∧ (0 < i ∨ (i ≤ 0 ∧ st.length = 0))) := Lib.hid ⟨by omega, .inl hi⟩
        go_wp2_with fail
        refine (name_any g A n cap _ HD.out.C).mono ?_
        rintro e w1 ⟨x, hx, rfl, hC, hG⟩
        have HD1 := Lib.hid (HD.out.step hC hG)
        have HX := Lib.hid (small_sz hx)
        have HE0 := Lib.hid (e7_start x HD1.out)
        clear hx hC hG x0 x1 x2 g0 g1 g2
        go_wp2_with fail
        refine (once_any g A n cap 3 (by omega) _ HE0.out.R.C).mono ?_
        rintro e w2 ⟨ob, rfl, hC, hG⟩
        have HE1 := Lib.hid (HE0.out.step hC hG)
        clear hC hG
        obtain ⟨sb, hsb⟩ : ∃ sb, sb = w1.heap.size := ⟨_, rfl⟩
        rw [← hsb] at HE1 ⊢
        clear hsb HE0
        cases ob
        · obtain ⟨At, m, ct, L, HTL⟩ : ∃ (At : Option Addr) (m ct : Nat) (L : List Tst), Hid (E7 w g A n cap pb root u (.slice As ms cs) st S sb x (.slice At m ct) L w2 ∧ (L.length ≤ 1 ∧ ∀ t ∈ L, TstSz t)) := ⟨none, 0, 0, [], Lib.hid ⟨HE1.out, by simp, fun t h => by cases h⟩⟩
          have HE := Lib.hid HTL.out.1
          have HSZ : Hid (StpSz ⟨x, L⟩) := Lib.hid ⟨HX.out, Nat.le_trans HTL.out.2.1 (by omega), HTL.out.2.2⟩
          have HSM : Hid (st.length ≤ 10) ∧ True := ⟨Lib.hid (by have := HB.out.1; omega), trivial⟩
          have HSM : Hid (st.length ≤ 10 ∧ True) := Lib.hid ⟨HSM.1.out, trivial⟩
          clear HE1
          have HSTL : Hid (ms + 1 ≤ 549755813888) := Lib.hid (by rw [HMS.out]; have := HSM.out.1; omega)
          obtain ⟨⟨z0, z1⟩, u0, u1⟩ := two_fro HE.out.X
          obtain ⟨⟨x0, x1, x2⟩, g0, g1, g2⟩ := three_f HE.out.R.X
          have hb8 := below_al (Below.refl w2.heap.size w2) (.cells #[.string x, .slice At m ct] 50)
          have HE8 := Lib.hid (HE.out.below hb8)
          have hSlt : ∀ q, S q → q < sb := HE.out.Slt
          have hNlt : ∀ q, (Value.slice At m ct).ownBlock = some q → sb + 1 ≤ q := fun q h => (RowR.lt HE8.out.ts h).1
          obtain ⟨R, hR, hRl, hgrow⟩ := OwL.grow HE8.out.R.O
          have HOS := Lib.hid (OwL.form HE.out.R.O)
          have HGROW := Lib.hid (fun (w' : World) (v' : Value) => hgrow (w' := w') (v' := v') (r := ⟨x, .slice At m ct⟩) (t := lf ⟨x, L⟩) (Sr := fun q => (Value.slice At m ct).ownBlock = some q) ⟨_, fun _ => False, ⟨⟨rfl, RowR.mono HE8.out.ts (B' := w.heap.size + 1) (by have := HE.out.lo; have := HE.out.R.pl; omega)⟩, fun q => Iff.rfl⟩, owL_nil _ _ _ _, fun q _ h => h, fun q => by simp⟩ (fun q h1 h2 => by have := hSlt q h1; have := hNlt q h2; omega))
          have HRR := Lib.hid hR
          have hRl' : ms = R.length := by rw [hRl, List.length_map]; exact HMS.out
          have HRL := Lib.hid hRl'
          have hSv : ∀ q, (Value.slice As ms cs).ownBlock = some q → S q := fun q hq => by
            obtain ⟨R9, K9, _, _, _, _, _, h6⟩ := HE.out.R.O
            exact (h6 q).2 (.inl hq)
          have HSV := Lib.hid hSv
          have HNL9 := Lib.hid hNlt
          have HBASE : Hid (w.heap.size + 1 ≤ w2.heap.size) := Lib.hid (by have := HE.out.R.lt; have := HE.out.R.pl; omega)
          have hs12 : sb < w2.heap.size := HE.out.lt
          have hs02 : pb < w2.heap.size := HE.out.R.lt
          have HR2w : Hid (RowT7 (w.heap.size + 1) w2 (.slice As ms cs) R) := Lib.hid (rowR_frame hR fun q hq => (Below.heap_alloc w2 (.cells #[.string x, .slice At m ct] 50) _ (by have := hSlt q (hSv q hq); omega)).symm)
          have HNP := Lib.hid HE.out.R.np
          have HLO := Lib.hid HE.out.lo
          clear hb8 hgrow hR hRl hRl' hSlt hNlt hSv
          go_wp2_with (at_builtin; refine wpList_stR_append rfl _ _ rfl (w.heap.size + 1) ms (.slice As ms cs) R (by rfl) HR2w.out HRL.out ⟨x, .slice At m ct⟩ rfl w2.heap.size (by rfl) rfl HSTL.out HBASE.out (ms + 1) rfl ?_; intro g' c' w8 hrow8 hg8 hp8; have HO8 : Hid (∃ S', OwnS (w.heap.size + 1) w8 (.slice (some ⟨g', 0, none⟩) (ms + 1) c') (st ++ [⟨x, L⟩]) S' ∧ ¬ S' pb) := Lib.hid ⟨_, by have h := HGROW.out w8 (.slice (some ⟨g', 0, none⟩) (ms + 1) c') hrow8 hg8 (hp8.elim (fun e => .inl e) (fun e => .inr ⟨g', rfl, by rw [e]; exact Nat.le_refl _⟩)); rw [lf_snoc] at h; exact h, (snoc_np hp8 HSV.out HNP.out (fun q hq => by have := HNL9.out q hq; have := HLO.out; omega) (by simp; omega))⟩; obtain ⟨S', hO8, hn8⟩ := HO8.out; have HS8 := Lib.hid (HE8.out.R.snoc hg8 HSV.out hO8 hn8); clear hO8 hn8 hp8 hrow8 hg8 x0 x1 x2 g0 g1 g2; obtain ⟨⟨x0, x1, x2⟩, g0, g1, g2⟩ := three_f HS8.out.1)
          go_wp2
          go_roundw
          case rel => exact ⟨i - 1, root, u, _, _, _, by go_num, Lib.hid HS8.out.2, Lib.hid ⟨by rw [List.length_append]; have := HB.out.1; have := HBI.out; simp; omega, by have := HBI.out.1; omega, by have := HB.out.2.2.1; omega, fun _ => by simp, (small7_snoc (k := st.length) ⟨Nat.le_refl _, HB.out.2.2.2.2⟩ HSZ.out).2⟩⟩
          case measure =>
            have h1 := (three_f HS8.out.2.X).1.2.2
            rw [h1, HMEAS.out]
            have hbi := HBI.out.2
            show (i - 1).toNat + emptyN (some (.slice (some ⟨g', 0, none⟩) (ms + 1) c')) < i.toNat + emptyN (some (.slice As ms cs))
            have e0 : emptyN (some (.slice (some ⟨g', 0, none⟩) (ms + 1) c')) = 0 := rfl
            rw [e0]
            rcases hbi with h | ⟨h, h9⟩
            · omega
            · have : ms = 0 := by rw [HMS.out]; exact h9
              subst this
              have e1 : emptyN (some (.slice As 0 cs)) = 1 := rfl
              rw [e1]; omega
        · obtain ⟨⟨z0, z1⟩, u0, u1⟩ := two_fro HE1.out.X
          have hs2 : sb < w2.heap.size := HE1.out.lt
          have HE2 := Lib.hid (HE1.out.below (below_al (Below.refl w2.heap.size w2) (.cells #[.string ⟨#[110, 97, 109, 101]⟩, .string ⟨#[97]⟩, .string ⟨#[98]⟩] 9)).drew)
          have HST3 : Hid (StrsAt (fun v => small v = true) (w2.alloc (.cells #[.string ⟨#[110, 97, 109, 101]⟩, .string ⟨#[97]⟩, .string ⟨#[98]⟩] 9)).drew g ⟨w2.heap.size, 0, none⟩ 3) := Lib.hid (new_strs small (by decide) (by decide) (Cur.lt HE1.out.R.C))
          obtain ⟨⟨p0, p1⟩, -⟩ := two_fro HE2.out.X
          go_wp2
          go_region_law (first
            | (refine step_tst_append rfl _ _ (by rfl) (sb + 1) 0 (.slice none 0 0) [] (by rfl) (rowX_nil _ _) rfl ⟨ta, tb⟩ ⟨w4.heap.size, 0, none⟩ 1 (by rfl) (news_tst w4 ⟨ta, tb⟩ 52) (by omega) HBS.out (0 + 1) rfl ?_; intro g' c' w5 hrow5 hg5; have HS5 := Lib.hid (HE5.out.snoc hg5 (fun j e => by cases e) hrow5); obtain ⟨⟨t0, t1⟩, v0, v1⟩ := two_fro HS5.out.1)
            | (go_simp; go_at_call 38; refine (str_any (fun v => small v = true) g A n cap ⟨w2.heap.size, 0, none⟩ 3 3 (by omega) (by omega) _ HST3.out HE2.out.R.C).mono ?_; rintro e w3 ⟨ta, hta, rfl, hC, hG⟩; have HTA := Lib.hid (small_sz hta); have HE3 := Lib.hid (HE2.out.step hC hG); clear hta hC hG; obtain ⟨⟨q0, q1⟩, -⟩ := two_fro HE3.out.X)
            | (go_simp; go_at_call 63; refine (text_any g A n cap _ HE3.out.R.C).mono ?_; rintro e w4 ⟨tb, htb, rfl, hC, hG⟩; have HTB := Lib.hid (small_sz htb); have HE4 := Lib.hid (HE3.out.step hC hG); clear htb hC hG; obtain ⟨⟨o0, o1⟩, -⟩ := two_fro HE4.out.X; have hs4 : sb < w4.heap.size := HE4.out.lt; have hb5 := below_al (Below.refl w4.heap.size w4) (.cells #[.string ta, .string tb] 52); have HE5 := Lib.hid (HE4.out.below hb5); have HBS : Hid (sb + 1 ≤ (w4.alloc (.cells #[.string ta, .string tb] 52)).heap.size) := Lib.hid HE5.out.lt; obtain ⟨⟨n0, n1⟩, -⟩ := two_fro HE5.out.X; clear hb5))
          all_goals
            have HL1 : Hid (([] ++ [⟨ta, tb⟩] : List Tst).length ≤ 1 ∧ ∀ t ∈ ([] ++ [⟨ta, tb⟩] : List Tst), TstSz t) := Lib.hid ⟨by simp, fun t h => by simp at h; subst h; exact ⟨HTA.out, HTB.out⟩⟩
            obtain ⟨L, hL⟩ : ∃ L : List Tst, L = [] ++ [⟨ta, tb⟩] := ⟨_, rfl⟩
            rw [← hL] at HL1 HS5
            obtain ⟨At, hAt⟩ : ∃ At : Option Addr, At = some ⟨g', 0, none⟩ := ⟨_, rfl⟩
            obtain ⟨m, hm⟩ : ∃ m : Nat, m = 0 + 1 := ⟨_, rfl⟩
            obtain ⟨ct, hct⟩ : ∃ ct : Nat, ct = c' := ⟨_, rfl⟩
            have HE : Hid (E7 w g A n cap pb root u (.slice As ms cs) st S sb x (.slice At m ct) L (w5.setCell ⟨sb, 1, none⟩ (.slice (some ⟨g', 0, none⟩) (0 + 1) c'))) := Lib.hid (by rw [hAt, hm, hct]; exact HS5.out.2)
            have HSZ : Hid (StpSz ⟨x, L⟩) := Lib.hid ⟨HX.out, Nat.le_trans HL1.out.1 (by omega), HL1.out.2⟩
            have HSM : Hid (st.length ≤ 10 ∧ True) := Lib.hid ⟨by have := HB.out.1; omega, trivial⟩
            clear hL hAt hm hct HS5 t0 t1 v0 v1 q0 q1 o0 o1 n0 n1 p0 p1 z0 z1 u0 u1
            have e5 : (w5.setCell ⟨sb, 1, none⟩ (.slice (some ⟨g', 0, none⟩) (0 + 1) c')) = (w5.setCell ⟨sb, 1, none⟩ (.slice (some ⟨g', 0, none⟩) (0 + 1) c')) := rfl
            generalize HW5 : (w5.setCell ⟨sb, 1, none⟩ (.slice (some ⟨g', 0, none⟩) (0 + 1) c')) = w6 at HE ⊢
            clear e5 HW5
            have HSTL : Hid (ms + 1 ≤ 549755813888) := Lib.hid (by rw [HMS.out]; have := HSM.out.1; omega)
            obtain ⟨⟨z0, z1⟩, u0, u1⟩ := two_fro HE.out.X
            obtain ⟨⟨x0, x1, x2⟩, g0, g1, g2⟩ := three_f HE.out.R.X
            have hb8 := below_al (Below.refl w6.heap.size w6) (.cells #[.string x, .slice At m ct] 50)
            have HE8 := Lib.hid (HE.out.below hb8)
            have hSlt : ∀ q, S q → q < sb := HE.out.Slt
            have hNlt : ∀ q, (Value.slice At m ct).ownBlock = some q → sb + 1 ≤ q := fun q h => (RowR.lt HE8.out.ts h).1
            obtain ⟨R, hR, hRl, hgrow⟩ := OwL.grow HE8.out.R.O
            have HOS := Lib.hid (OwL.form HE.out.R.O)
            have HGROW := Lib.hid (fun (w' : World) (v' : Value) => hgrow (w' := w') (v' := v') (r := ⟨x, .slice At m ct⟩) (t := lf ⟨x, L⟩) (Sr := fun q => (Value.slice At m ct).ownBlock = some q) ⟨_, fun _ => False, ⟨⟨rfl, RowR.mono HE8.out.ts (B' := w.heap.size + 1) (by have := HE.out.lo; have := HE.out.R.pl; omega)⟩, fun q => Iff.rfl⟩, owL_nil _ _ _ _, fun q _ h => h, fun q => by simp⟩ (fun q h1 h2 => by have := hSlt q h1; have := hNlt q h2; omega))
            have HRR := Lib.hid hR
            have hRl' : ms = R.length := by rw [hRl, List.length_map]; exact HMS.out
            have HRL := Lib.hid hRl'
            have hSv : ∀ q, (Value.slice As ms cs).ownBlock = some q → S q := fun q hq => by
              obtain ⟨R9, K9, _, _, _, _, _, h6⟩ := HE.out.R.O
              exact (h6 q).2 (.inl hq)
            have HSV := Lib.hid hSv
            have HNL9 := Lib.hid hNlt
            have HBASE : Hid (w.heap.size + 1 ≤ w6.heap.size) := Lib.hid (by have := HE.out.R.lt; have := HE.out.R.pl; omega)
            have hs12 : sb < w6.heap.size := HE.out.lt
            have hs02 : pb < w6.heap.size := HE.out.R.lt
            have HR2w : Hid (RowT7 (w.heap.size + 1) w6 (.slice As ms cs) R) := Lib.hid (rowR_frame hR fun q hq => (Below.heap_alloc w6 (.cells #[.string x, .slice At m ct] 50) _ (by have := hSlt q (hSv q hq); omega)).symm)
            have HNP := Lib.hid HE.out.R.np
            have HLO := Lib.hid HE.out.lo
            clear hb8 hgrow hR hRl hRl' hSlt hNlt hSv
            go_wp2_with (at_builtin; refine wpList_stR_append rfl _ _ rfl (w.heap.size + 1) ms (.slice As ms cs) R (by rfl) HR2w.out HRL.out ⟨x, .slice At m ct⟩ rfl w6.heap.size (by rfl) rfl HSTL.out HBASE.out (ms + 1) rfl ?_; intro g' c' w8 hrow8 hg8 hp8; have HO8 : Hid (∃ S', OwnS (w.heap.size + 1) w8 (.slice (some ⟨g', 0, none⟩) (ms + 1) c') (st ++ [⟨x, L⟩]) S' ∧ ¬ S' pb) := Lib.hid ⟨_, by have h := HGROW.out w8 (.slice (some ⟨g', 0, none⟩) (ms + 1) c') hrow8 hg8 (hp8.elim (fun e => .inl e) (fun e => .inr ⟨g', rfl, by rw [e]; exact Nat.le_refl _⟩)); rw [lf_snoc] at h; exact h, (snoc_np hp8 HSV.out HNP.out (fun q hq => by have := HNL9.out q hq; have := HLO.out; omega) (by simp; omega))⟩; obtain ⟨S', hO8, hn8⟩ := HO8.out; have HS8 := Lib.hid (HE8.out.R.snoc hg8 HSV.out hO8 hn8); clear hO8 hn8 hp8 hrow8 hg8 x0 x1 x2 g0 g1 g2; obtain ⟨⟨x0, x1, x2⟩, g0, g1, g2⟩ := three_f HS8.out.1)
            go_wp2
            go_roundw
            case rel => exact ⟨i - 1, root, u, _, _, _, by go_num, Lib.hid HS8.out.2, Lib.hid ⟨by rw [List.length_append]; have := HB.out.1; have := HBI.out; simp; omega, by have := HBI.out.1; omega, by have := HB.out.2.2.1; omega, fun _ => by simp, (small7_snoc (k := st.length) ⟨Nat.le_refl _, HB.out.2.2.2.2⟩ HSZ.out).2⟩⟩
            case measure =>
              have h1 := (three_f HS8.out.2.X).1.2.2
              rw [h1, HMEAS.out]
              have hbi := HBI.out.2
              show (i - 1).toNat + emptyN (some (.slice (some ⟨g', 0, none⟩) (ms + 1) c')) < i.toNat + emptyN (some (.slice As ms cs))
              have e0 : emptyN (some (.slice (some ⟨g', 0, none⟩) (ms + 1) c')) = 0 := rfl
              rw [e0]
              rcases hbi with h | ⟨h, h9⟩
              · omega
              · have : ms = 0 := by rw [HMS.out]; exact h9
                subst this
                have e1 : emptyN (some (.slice As 0 cs)) = 1 := rfl
                rw [e1]; omega
      · cases root
        · by_cases hu : u = 0
          · subst hu
            by_cases hm : ms = 0
            · have HBI : Hid (0 ≤ i ∧ (0 < i ∨ (i ≤ 0 ∧ st.length = 0))) := Lib.hid ⟨by
                have h9 : st = [] := List.length_eq_zero_iff.1 (by rw [← HMS.out]; exact hm)
                have h8 : ¬ i = -1 := fun e => HB.out.2.2.2.1 e h9
                omega, .inr ⟨by omega, by rw [← HMS.out]; exact hm⟩⟩
              have hmi : ((ms : Int) == 0) = true := by simp; omega
              have hmn : (ms == 0) = true := by simp; omega
              go_wp2_with fail
              refine (name_any g A n cap _ HD.out.C).mono ?_
              rintro e w1 ⟨x, hx, rfl, hC, hG⟩
              have HD1 := Lib.hid (HD.out.step hC hG)
              have HX := Lib.hid (small_sz hx)
              have HE0 := Lib.hid (e7_start x HD1.out)
              clear hx hC hG x0 x1 x2 g0 g1 g2 hmi hmn hm
              go_wp2_with fail
              refine (once_any g A n cap 3 (by omega) _ HE0.out.R.C).mono ?_
              rintro e w2 ⟨ob, rfl, hC, hG⟩
              have HE1 := Lib.hid (HE0.out.step hC hG)
              clear hC hG
              obtain ⟨sb, hsb⟩ : ∃ sb, sb = w1.heap.size := ⟨_, rfl⟩
              rw [← hsb] at HE1 ⊢
              clear hsb HE0
              cases ob
              · obtain ⟨At, m, ct, L, HTL⟩ : ∃ (At : Option Addr) (m ct : Nat) (L : List Tst), Hid (E7 w g A n cap pb false 0 (.slice As ms cs) st S sb x (.slice At m ct) L w2 ∧ (L.length ≤ 1 ∧ ∀ t ∈ L, TstSz t)) := ⟨none, 0, 0, [], Lib.hid ⟨HE1.out, by simp, fun t h => by cases h⟩⟩
                have HE := Lib.hid HTL.out.1
                have HSZ : Hid (StpSz ⟨x, L⟩) := Lib.hid ⟨HX.out, Nat.le_trans HTL.out.2.1 (by omega), HTL.out.2.2⟩
                have HSM : Hid (st.length ≤ 10) ∧ True := ⟨Lib.hid (by have := HB.out.1; omega), trivial⟩
                have HSM : Hid (st.length ≤ 10 ∧ True) := Lib.hid ⟨HSM.1.out, trivial⟩
                clear HE1
                have HSTL : Hid (ms + 1 ≤ 549755813888) := Lib.hid (by rw [HMS.out]; have := HSM.out.1; omega)
                obtain ⟨⟨z0, z1⟩, u0, u1⟩ := two_fro HE.out.X
                obtain ⟨⟨x0, x1, x2⟩, g0, g1, g2⟩ := three_f HE.out.R.X
                have hb8 := below_al (Below.refl w2.heap.size w2) (.cells #[.string x, .slice At m ct] 50)
                have HE8 := Lib.hid (HE.out.below hb8)
                have hSlt : ∀ q, S q → q < sb := HE.out.Slt
                have hNlt : ∀ q, (Value.slice At m ct).ownBlock = some q → sb + 1 ≤ q := fun q h => (RowR.lt HE8.out.ts h).1
                obtain ⟨R, hR, hRl, hgrow⟩ := OwL.grow HE8.out.R.O
                have HOS := Lib.hid (OwL.form HE.out.R.O)
                have HGROW := Lib.hid (fun (w' : World) (v' : Value) => hgrow (w' := w') (v' := v') (r := ⟨x, .slice At m ct⟩) (t := lf ⟨x, L⟩) (Sr := fun q => (Value.slice At m ct).ownBlock = some q) ⟨_, fun _ => False, ⟨⟨rfl, RowR.mono HE8.out.ts (B' := w.heap.size + 1) (by have := HE.out.lo; have := HE.out.R.pl; omega)⟩, fun q => Iff.rfl⟩, owL_nil _ _ _ _, fun q _ h => h, fun q => by simp⟩ (fun q h1 h2 => by have := hSlt q h1; have := hNlt q h2; omega))
                have HRR := Lib.hid hR
                have hRl' : ms = R.length := by rw [hRl, List.length_map]; exact HMS.out
                have HRL := Lib.hid hRl'
                have hSv : ∀ q, (Value.slice As ms cs).ownBlock = some q → S q := fun q hq => by
                  obtain ⟨R9, K9, _, _, _, _, _, h6⟩ := HE.out.R.O
                  exact (h6 q).2 (.inl hq)
                have HSV := Lib.hid hSv
                have HNL9 := Lib.hid hNlt
                have HBASE : Hid (w.heap.size + 1 ≤ w2.heap.size) := Lib.hid (by have := HE.out.R.lt; have := HE.out.R.pl; omega)
                have hs12 : sb < w2.heap.size := HE.out.lt
                have hs02 : pb < w2.heap.size := HE.out.R.lt
                have HR2w : Hid (RowT7 (w.heap.size + 1) w2 (.slice As ms cs) R) := Lib.hid (rowR_frame hR fun q hq => (Below.heap_alloc w2 (.cells #[.string x, .slice At m ct] 50) _ (by have := hSlt q (hSv q hq); omega)).symm)
                have HNP := Lib.hid HE.out.R.np
                have HLO := Lib.hid HE.out.lo
                clear hb8 hgrow hR hRl hRl' hSlt hNlt hSv
                go_wp2_with (at_builtin; refine wpList_stR_append rfl _ _ rfl (w.heap.size + 1) ms (.slice As ms cs) R (by rfl) HR2w.out HRL.out ⟨x, .slice At m ct⟩ rfl w2.heap.size (by rfl) rfl HSTL.out HBASE.out (ms + 1) rfl ?_; intro g' c' w8 hrow8 hg8 hp8; have HO8 : Hid (∃ S', OwnS (w.heap.size + 1) w8 (.slice (some ⟨g', 0, none⟩) (ms + 1) c') (st ++ [⟨x, L⟩]) S' ∧ ¬ S' pb) := Lib.hid ⟨_, by have h := HGROW.out w8 (.slice (some ⟨g', 0, none⟩) (ms + 1) c') hrow8 hg8 (hp8.elim (fun e => .inl e) (fun e => .inr ⟨g', rfl, by rw [e]; exact Nat.le_refl _⟩)); rw [lf_snoc] at h; exact h, (snoc_np hp8 HSV.out HNP.out (fun q hq => by have := HNL9.out q hq; have := HLO.out; omega) (by simp; omega))⟩; obtain ⟨S', hO8, hn8⟩ := HO8.out; have HS8 := Lib.hid (HE8.out.R.snoc hg8 HSV.out hO8 hn8); clear hO8 hn8 hp8 hrow8 hg8 x0 x1 x2 g0 g1 g2; obtain ⟨⟨x0, x1, x2⟩, g0, g1, g2⟩ := three_f HS8.out.1)
                go_wp2
                go_roundw
                case rel => exact ⟨i - 1, false, 0, _, _, _, by go_num, Lib.hid HS8.out.2, Lib.hid ⟨by rw [List.length_append]; have := HB.out.1; have := HBI.out; simp; omega, by have := HBI.out.1; omega, by have := HB.out.2.2.1; omega, fun _ => by simp, (small7_snoc (k := st.length) ⟨Nat.le_refl _, HB.out.2.2.2.2⟩ HSZ.out).2⟩⟩
                case measure =>
                  have h1 := (three_f HS8.out.2.X).1.2.2
                  rw [h1, HMEAS.out]
                  have hbi := HBI.out.2
                  show (i - 1).toNat + emptyN (some (.slice (some ⟨g', 0, none⟩) (ms + 1) c')) < i.toNat + emptyN (some (.slice As ms cs))
                  have e0 : emptyN (some (.slice (some ⟨g', 0, none⟩) (ms + 1) c')) = 0 := rfl
                  rw [e0]
                  rcases hbi with h | ⟨h, h9⟩
                  · omega
                  · have : ms = 0 := by rw [HMS.out]; exact h9
                    subst this
                    have e1 : emptyN (some (.slice As 0 cs)) = 1 := rfl
                    rw [e1]; omega
              · obtain ⟨⟨z0, z1⟩, u0, u1⟩ := two_fro HE1.out.X
                have hs2 : sb < w2.heap.size := HE1.out.lt
                have HE2 := Lib.hid (HE1.out.below (below_al (Below.refl w2.heap.size w2) (.cells #[.string ⟨#[110, 97, 109, 101]⟩, .string ⟨#[97]⟩, .string ⟨#[98]⟩] 9)).drew)
                have HST3 : Hid (StrsAt (fun v => small v = true) (w2.alloc (.cells #[.string ⟨#[110, 97, 109, 101]⟩, .string ⟨#[97]⟩, .string ⟨#[98]⟩] 9)).drew g ⟨w2.heap.size, 0, none⟩ 3) := Lib.hid (new_strs small (by decide) (by decide) (Cur.lt HE1.out.R.C))
                obtain ⟨⟨p0, p1⟩, -⟩ := two_fro HE2.out.X
                go_wp2
                go_region_law (first
                  | (refine step_tst_append rfl _ _ (by rfl) (sb + 1) 0 (.slice none 0 0) [] (by rfl) (rowX_nil _ _) rfl ⟨ta, tb⟩ ⟨w4.heap.size, 0, none⟩ 1 (by rfl) (news_tst w4 ⟨ta, tb⟩ 52) (by omega) HBS.out (0 + 1) rfl ?_; intro g' c' w5 hrow5 hg5; have HS5 := Lib.hid (HE5.out.snoc hg5 (fun j e => by cases e) hrow5); obtain ⟨⟨t0, t1⟩, v0, v1⟩ := two_fro HS5.out.1)
                  | (go_simp; go_at_call 38; refine (str_any (fun v => small v = true) g A n cap ⟨w2.heap.size, 0, none⟩ 3 3 (by omega) (by omega) _ HST3.out HE2.out.R.C).mono ?_; rintro e w3 ⟨ta, hta, rfl, hC, hG⟩; have HTA := Lib.hid (small_sz hta); have HE3 := Lib.hid (HE2.out.step hC hG); clear hta hC hG; obtain ⟨⟨q0, q1⟩, -⟩ := two_fro HE3.out.X)
                  | (go_simp; go_at_call 63; refine (text_any g A n cap _ HE3.out.R.C).mono ?_; rintro e w4 ⟨tb, htb, rfl, hC, hG⟩; have HTB := Lib.hid (small_sz htb); have HE4 := Lib.hid (HE3.out.step hC hG); clear htb hC hG; obtain ⟨⟨o0, o1⟩, -⟩ := two_fro HE4.out.X; have hs4 : sb < w4.heap.size := HE4.out.lt; have hb5 := below_al (Below.refl w4.heap.size w4) (.cells #[.string ta, .string tb] 52); have HE5 := Lib.hid (HE4.out.below hb5); have HBS : Hid (sb + 1 ≤ (w4.alloc (.cells #[.string ta, .string tb] 52)).heap.size) := Lib.hid HE5.out.lt; obtain ⟨⟨n0, n1⟩, -⟩ := two_fro HE5.out.X; clear hb5))
                all_goals
                  have HL1 : Hid (([] ++ [⟨ta, tb⟩] : List Tst).length ≤ 1 ∧ ∀ t ∈ ([] ++ [⟨ta, tb⟩] : List Tst), TstSz t) := Lib.hid ⟨by simp, fun t h => by simp at h; subst h; exact ⟨HTA.out, HTB.out⟩⟩
                  obtain ⟨L, hL⟩ : ∃ L : List Tst, L = [] ++ [⟨ta, tb⟩] := ⟨_, rfl⟩
                  rw [← hL] at HL1 HS5
                  obtain ⟨At, hAt⟩ : ∃ At : Option Addr, At = some ⟨g', 0, none⟩ := ⟨_, rfl⟩
                  obtain ⟨m, hm⟩ : ∃ m : Nat, m = 0 + 1 := ⟨_, rfl⟩
                  obtain ⟨ct, hct⟩ : ∃ ct : Nat, ct = c' := ⟨_, rfl⟩
                  have HE : Hid (E7 w g A n cap pb false 0 (.slice As ms cs) st S sb x (.slice At m ct) L (w5.setCell ⟨sb, 1, none⟩ (.slice (some ⟨g', 0, none⟩) (0 + 1) c'))) := Lib.hid (by rw [hAt, hm, hct]; exact HS5.out.2)
                  have HSZ : Hid (StpSz ⟨x, L⟩) := Lib.hid ⟨HX.out, Nat.le_trans HL1.out.1 (by omega), HL1.out.2⟩
                  have HSM : Hid (st.length ≤ 10 ∧ True) := Lib.hid ⟨by have := HB.out.1; omega, trivial⟩
                  clear hL hAt hm hct HS5 t0 t1 v0 v1 q0 q1 o0 o1 n0 n1 p0 p1 z0 z1 u0 u1
                  have e5 : (w5.setCell ⟨sb, 1, none⟩ (.slice (some ⟨g', 0, none⟩) (0 + 1) c')) = (w5.setCell ⟨sb, 1, none⟩ (.slice (some ⟨g', 0, none⟩) (0 + 1) c')) := rfl
                  generalize HW5 : (w5.setCell ⟨sb, 1, none⟩ (.slice (some ⟨g', 0, none⟩) (0 + 1) c')) = w6 at HE ⊢
                  clear e5 HW5
                  have HSTL : Hid (ms + 1 ≤ 549755813888) := Lib.hid (by rw [HMS.out]; have := HSM.out.1; omega)
                  obtain ⟨⟨z0, z1⟩, u0, u1⟩ := two_fro HE.out.X
                  obtain ⟨⟨x0, x1, x2⟩, g0, g1, g2⟩ := three_f HE.out.R.X
                  have hb8 := below_al (Below.refl w6.heap.size w6) (.cells #[.string x, .slice At m ct] 50)
                  have HE8 := Lib.hid (HE.out.below hb8)
                  have hSlt : ∀ q, S q → q < sb := HE.out.Slt
                  have hNlt : ∀ q, (Value.slice At m ct).ownBlock = some q → sb + 1 ≤ q := fun q h => (RowR.lt HE8.out.ts h).1
                  obtain ⟨R, hR, hRl, hgrow⟩ := OwL.grow HE8.out.R.O
                  have HOS := Lib.hid (OwL.form HE.out.R.O)
                  have HGROW := Lib.hid (fun (w' : World) (v' : Value) => hgrow (w' := w') (v' := v') (r := ⟨x, .slice At m ct⟩) (t := lf ⟨x, L⟩) (Sr := fun q => (Value.slice At m ct).ownBlock = some q) ⟨_, fun _ => False, ⟨⟨rfl, RowR.mono HE8.out.ts (B' := w.heap.size + 1) (by have := HE.out.lo; have := HE.out.R.pl; omega)⟩, fun q => Iff.rfl⟩, owL_nil _ _ _ _, fun q _ h => h, fun q => by simp⟩ (fun q h1 h2 => by have := hSlt q h1; have := hNlt q h2; omega))
                  have HRR := Lib.hid hR
                  have hRl' : ms = R.length := by rw [hRl, List.length_map]; exact HMS.out
                  have HRL := Lib.hid hRl'
                  have hSv : ∀ q, (Value.slice As ms cs).ownBlock = some q → S q := fun q hq => by
                    obtain ⟨R9, K9, _, _, _, _, _, h6⟩ := HE.out.R.O
                    exact (h6 q).2 (.inl hq)
                  have HSV := Lib.hid hSv
                  have HNL9 := Lib.hid hNlt
                  have HBASE : Hid (w.heap.size + 1 ≤ w6.heap.size) := Lib.hid (by have := HE.out.R.lt; have := HE.out.R.pl; omega)
                  have hs12 : sb < w6.heap.size := HE.out.lt
                  have hs02 : pb < w6.heap.size := HE.out.R.lt
                  have HR2w : Hid (RowT7 (w.heap.size + 1) w6 (.slice As ms cs) R) := Lib.hid (rowR_frame hR fun q hq => (Below.heap_alloc w6 (.cells #[.string x, .slice At m ct] 50) _ (by have := hSlt q (hSv q hq); omega)).symm)
                  have HNP := Lib.hid HE.out.R.np
                  have HLO := Lib.hid HE.out.lo
                  clear hb8 hgrow hR hRl hRl' hSlt hNlt hSv
                  go_wp2_with (at_builtin; refine wpList_stR_append rfl _ _ rfl (w.heap.size + 1) ms (.slice As ms cs) R (by rfl) HR2w.out HRL.out ⟨x, .slice At m ct⟩ rfl w6.heap.size (by rfl) rfl HSTL.out HBASE.out (ms + 1) rfl ?_; intro g' c' w8 hrow8 hg8 hp8; have HO8 : Hid (∃ S', OwnS (w.heap.size + 1) w8 (.slice (some ⟨g', 0, none⟩) (ms + 1) c') (st ++ [⟨x, L⟩]) S' ∧ ¬ S' pb) := Lib.hid ⟨_, by have h := HGROW.out w8 (.slice (some ⟨g', 0, none⟩) (ms + 1) c') hrow8 hg8 (hp8.elim (fun e => .inl e) (fun e => .inr ⟨g', rfl, by rw [e]; exact Nat.le_refl _⟩)); rw [lf_snoc] at h; exact h, (snoc_np hp8 HSV.out HNP.out (fun q hq => by have := HNL9.out q hq; have := HLO.out; omega) (by simp; omega))⟩; obtain ⟨S', hO8, hn8⟩ := HO8.out; have HS8 := Lib.hid (HE8.out.R.snoc hg8 HSV.out hO8 hn8); clear hO8 hn8 hp8 hrow8 hg8 x0 x1 x2 g0 g1 g2; obtain ⟨⟨x0, x1, x2⟩, g0, g1, g2⟩ := three_f HS8.out.1)
                  go_wp2
                  go_roundw
                  case rel => exact ⟨i - 1, false, 0, _, _, _, by go_num, Lib.hid HS8.out.2, Lib.hid ⟨by rw [List.length_append]; have := HB.out.1; have := HBI.out; simp; omega, by have := HBI.out.1; omega, by have := HB.out.2.2.1; omega, fun _ => by simp, (small7_snoc (k := st.length) ⟨Nat.le_refl _, HB.out.2.2.2.2⟩ HSZ.out).2⟩⟩
                  case measure =>
                    have h1 := (three_f HS8.out.2.X).1.2.2
                    rw [h1, HMEAS.out]
                    have hbi := HBI.out.2
                    show (i - 1).toNat + emptyN (some (.slice (some ⟨g', 0, none⟩) (ms + 1) c')) < i.toNat + emptyN (some (.slice As ms cs))
                    have e0 : emptyN (some (.slice (some ⟨g', 0, none⟩) (ms + 1) c')) = 0 := rfl
                    rw [e0]
                    rcases hbi with h | ⟨h, h9⟩
                    · omega
                    · have : ms = 0 := by rw [HMS.out]; exact h9
                      subst this
                      have e1 : emptyN (some (.slice As 0 cs)) = 1 := rfl
                      rw [e1]; omega
            · have hmi : ((ms : Int) == 0) = false := by simp; omega
              have hmn : (ms == 0) = false := by simp; omega
              clear x0 x1 x2 g0 g1 g2
              obtain ⟨⟨x0, x1, x2⟩, g0, g1, g2⟩ := three_f HD.out.X
              obtain ⟨⟨y0, y1, y2⟩, k0, k1, k2⟩ := three_f HD.out.Z
              have hs02 : pb < wr.heap.size := HD.out.lt
              skip
              go_wp2
              refine bodyPost_ret (results_c1 rfl _ _ ⟨w.heap.size, 0, none⟩ _ rfl (run_loadPth (pth_full HD.out.Z _ _ _))) rfl ?_
              exact ⟨_, _, _, st, _, rfl, (HD.out.done _ _ _).1, Lib.hid ⟨by have := HB.out.1; omega, HB.out.2.2.2.2⟩, (HD.out.done _ _ _).2.1, (HD.out.done _ _ _).2.2⟩
          · have hu' : (u == 0) = false := by simpa using hu
            clear x0 x1 x2 g0 g1 g2
            obtain ⟨⟨x0, x1, x2⟩, g0, g1, g2⟩ := three_f HD.out.X
            obtain ⟨⟨y0, y1, y2⟩, k0, k1, k2⟩ := three_f HD.out.Z
            have hs02 : pb < wr.heap.size := HD.out.lt
            skip
            go_wp2
            refine bodyPost_ret (results_c1 rfl _ _ ⟨w.heap.size, 0, none⟩ _ rfl (run_loadPth (pth_full HD.out.Z _ _ _))) rfl ?_
            exact ⟨_, _, _, st, _, rfl, (HD.out.done _ _ _).1, Lib.hid ⟨by have := HB.out.1; omega, HB.out.2.2.2.2⟩, (HD.out.done _ _ _).2.1, (HD.out.done _ _ _).2.2⟩
        · clear x0 x1 x2 g0 g1 g2
          obtain ⟨⟨x0, x1, x2⟩, g0, g1, g2⟩ := three_f HD.out.X
          obtain ⟨⟨y0, y1, y2⟩, k0, k1, k2⟩ := three_f HD.out.Z
          have hs02 : pb < wr.heap.size := HD.out.lt
          skip
          go_wp2
          refine bodyPost_ret (results_c1 rfl _ _ ⟨w.heap.size, 0, none⟩ _ rfl (run_loadPth (pth_full HD.out.Z _ _ _))) rfl ?_
          exact ⟨_, _, _, st, _, rfl, (HD.out.done _ _ _).1, Lib.hid ⟨by have := HB.out.1; omega, HB.out.2.2.2.2⟩, (HD.out.done _ _ _).2.1, (HD.out.done _ _ _).2.2⟩
  · have HD1a := HD1
    go_wp2_with fail
    refine (below_any g A n cap 2 (by omega) _ HD1.out.C).mono ?_
    rintro e w9 ⟨z, hz0, -, hz2, rfl, hC, hG⟩
    have hz3 := hz2 (by omega)
    have HD9 := Lib.hid (HD1.out.step hC hG)
    clear hC hG hz2 HD1 HD1a x0 x1 x2 g0 g1 g2
    obtain ⟨⟨x0, x1, x2⟩, g0, g1, g2⟩ := three_f HD9.out.X
    have HD2 := Lib.hid (HD9.out.put 1 (.int .i64 (1 + z)) rfl)
    go_wp2_with fail
    refine (below_any g A n cap 4 (by omega) _ HD2.out.C).mono ?_
    rintro e w2 ⟨y, hy0, -, hy2, rfl, hC, hG⟩
    have HI : Hid (0 ≤ y ∧ y ≤ 3) := Lib.hid (by have := hy2 (by omega); omega)
    have HDs := Lib.hid (HD2.out.step hC hG)
    clear hC hG hy2 hy0 HD9 HD2 x0 x1 x2 g0 g1 g2 hx0 hx3 hz0 hz3
    obtain ⟨pb, hpb⟩ : ∃ pb, pb = w.heap.size + 1 := ⟨_, rfl⟩
    rw [← hpb] at HDs ⊢
    clear hpb
    go_wp2
    go_loopw [4] (fun v wr => ∃ (i : Int) (root : Bool) (u : Int) (sv : Value) (st : List Stp) (S : Nat → Prop), v = .int .i64 i ∧ Hid (D7 w g A n cap pb root u sv st S wr) ∧ Hid ((st.length : Int) + (i.toNat : Int) ≤ 3 ∧ -1 ≤ i ∧ i ≤ 3 ∧ (i = -1 → st ≠ []) ∧ ∀ s ∈ st, StpSz s)) (fun v wr => (intOf v).toNat + emptyN (wr.cell? ⟨pb, 2, none⟩))
    case atStart => exact ⟨_, _, _, _, _, _, rfl, HDs, Lib.hid ⟨by have := HI.out; simp; omega, by have := HI.out; omega, by have := HI.out; omega, fun h => by have := HI.out; omega, fun s h => by cases h⟩⟩
    case round =>
      clear HDs HI
      obtain ⟨i, root, u, sv, st, S, rfl, HD, HB⟩ := hrel
      have hi1 : -1 ≤ i := HB.out.2.1
      have hi3 : i ≤ 3 := HB.out.2.2.1
      obtain ⟨As, ms, cs, hsv⟩ : ∃ A n c, sv = .slice A n c := by obtain ⟨A, c, hv, _⟩ := (OwnS.has HD.out.O).at; exact ⟨A, _, c, hv⟩
      have HMS : Hid (ms = st.length) := Lib.hid (by obtain ⟨A, c, hv, _⟩ := (OwnS.has HD.out.O).at; rw [hsv] at hv; injection hv)
      subst hsv
      have HMEAS : Hid (wr.cell? ⟨pb, 2, none⟩ = some (.slice As ms cs)) := Lib.hid (three_f HD.out.X).1.2.2
      obtain ⟨⟨x0, x1, x2⟩, g0, g1, g2⟩ := three_f HD.out.X
      by_cases hi : 0 < i
      · have HBI : Hid (0 ≤ i ∧ (0 < i ∨ (i ≤ 0 ∧ st.length = 0))) := Lib.hid ⟨by omega, .inl hi⟩
        go_wp2_with fail
        refine (name_any g A n cap _ HD.out.C).mono ?_
        rintro e w1 ⟨x, hx, rfl, hC, hG⟩
        have HD1 := Lib.hid (HD.out.step hC hG)
        have HX := Lib.hid (small_sz hx)
        have HE0 := Lib.hid (e7_start x HD1.out)
        clear hx hC hG x0 x1 x2 g0 g1 g2
        go_wp2_with fail
        refine (once_any g A n cap 3 (by omega) _ HE0.out.R.C).mono ?_
        rintro e w2 ⟨ob, rfl, hC, hG⟩
        have HE1 := Lib.hid (HE0.out.step hC hG)
        clear hC hG
        obtain ⟨sb, hsb⟩ : ∃ sb, sb = w1.heap.size := ⟨_, rfl⟩
        rw [← hsb] at HE1 ⊢
        clear hsb HE0
        cases ob
        · obtain ⟨At, m, ct, L, HTL⟩ : ∃ (At : Option Addr) (m ct : Nat) (L : List Tst), Hid (E7 w g A n cap pb root u (.slice As ms cs) st S sb x (.slice At m ct) L w2 ∧ (L.length ≤ 1 ∧ ∀ t ∈ L, TstSz t)) := ⟨none, 0, 0, [], Lib.hid ⟨HE1.out, by simp, fun t h => by cases h⟩⟩
          have HE := Lib.hid HTL.out.1
          have HSZ : Hid (StpSz ⟨x, L⟩) := Lib.hid ⟨HX.out, Nat.le_trans HTL.out.2.1 (by omega), HTL.out.2.2⟩
          have HSM : Hid (st.length ≤ 10) ∧ True := ⟨Lib.hid (by have := HB.out.1; omega), trivial⟩
          have HSM : Hid (st.length ≤ 10 ∧ True) := Lib.hid ⟨HSM.1.out, trivial⟩
          clear HE1
          have HSTL : Hid (ms + 1 ≤ 549755813888) := Lib.hid (by rw [HMS.out]; have := HSM.out.1; omega)
          obtain ⟨⟨z0, z1⟩, u0, u1⟩ := two_fro HE.out.X
          obtain ⟨⟨x0, x1, x2⟩, g0, g1, g2⟩ := three_f HE.out.R.X
          have hb8 := below_al (Below.refl w2.heap.size w2) (.cells #[.string x, .slice At m ct] 50)
          have HE8 := Lib.hid (HE.out.below hb8)
          have hSlt : ∀ q, S q → q < sb := HE.out.Slt
          have hNlt : ∀ q, (Value.slice At m ct).ownBlock = some q → sb + 1 ≤ q := fun q h => (RowR.lt HE8.out.ts h).1
          obtain ⟨R, hR, hRl, hgrow⟩ := OwL.grow HE8.out.R.O
          have HOS := Lib.hid (OwL.form HE.out.R.O)
          have HGROW := Lib.hid (fun (w' : World) (v' : Value) => hgrow (w' := w') (v' := v') (r := ⟨x, .slice At m ct⟩) (t := lf ⟨x, L⟩) (Sr := fun q => (Value.slice At m ct).ownBlock = some q) ⟨_, fun _ => False, ⟨⟨rfl, RowR.mono HE8.out.ts (B' := w.heap.size + 1) (by have := HE.out.lo; have := HE.out.R.pl; omega)⟩, fun q => Iff.rfl⟩, owL_nil _ _ _ _, fun q _ h => h, fun q => by simp⟩ (fun q h1 h2 => by have := hSlt q h1; have := hNlt q h2; omega))
          have HRR := Lib.hid hR
          have hRl' : ms = R.length := by rw [hRl, List.length_map]; exact HMS.out
          have HRL := Lib.hid hRl'
          have hSv : ∀ q, (Value.slice As ms cs).ownBlock = some q → S q := fun q hq => by
            obtain ⟨R9, K9, _, _, _, _, _, h6⟩ := HE.out.R.O
            exact (h6 q).2 (.inl hq)
          have HSV := Lib.hid hSv
          have HNL9 := Lib.hid hNlt
          have HBASE : Hid (w.heap.size + 1 ≤ w2.heap.size) := Lib.hid (by have := HE.out.R.lt; have := HE.out.R.pl; omega)
          have hs12 : sb < w2.heap.size := HE.out.lt
          have hs02 : pb < w2.heap.size := HE.out.R.lt
          have HR2w : Hid (RowT7 (w.heap.size + 1) w2 (.slice As ms cs) R) := Lib.hid (rowR_frame hR fun q hq => (Below.heap_alloc w2 (.cells #[.string x, .slice At m ct] 50) _ (by have := hSlt q (hSv q hq); omega)).symm)
          have HNP := Lib.hid HE.out.R.np
          have HLO := Lib.hid HE.out.lo
          clear hb8 hgrow hR hRl hRl' hSlt hNlt hSv
          go_wp2_with (at_builtin; refine wpList_stR_append rfl _ _ rfl (w.heap.size + 1) ms (.slice As ms cs) R (by rfl) HR2w.out HRL.out ⟨x, .slice At m ct⟩ rfl w2.heap.size (by rfl) rfl HSTL.out HBASE.out (ms + 1) rfl ?_; intro g' c' w8 hrow8 hg8 hp8; have HO8 : Hid (∃ S', OwnS (w.heap.size + 1) w8 (.slice (some ⟨g', 0, none⟩) (ms + 1) c') (st ++ [⟨x, L⟩]) S' ∧ ¬ S' pb) := Lib.hid ⟨_, by have h := HGROW.out w8 (.slice (some ⟨g', 0, none⟩) (ms + 1) c') hrow8 hg8 (hp8.elim (fun e => .inl e) (fun e => .inr ⟨g', rfl, by rw [e]; exact Nat.le_refl _⟩)); rw [lf_snoc] at h; exact h, (snoc_np hp8 HSV.out HNP.out (fun q hq => by have := HNL9.out q hq; have := HLO.out; omega) (by simp; omega))⟩; obtain ⟨S', hO8, hn8⟩ := HO8.out; have HS8 := Lib.hid (HE8.out.R.snoc hg8 HSV.out hO8 hn8); clear hO8 hn8 hp8 hrow8 hg8 x0 x1 x2 g0 g1 g2; obtain ⟨⟨x0, x1, x2⟩, g0, g1, g2⟩ := three_f HS8.out.1)
          go_wp2
          go_roundw
          case rel => exact ⟨i - 1, root, u, _, _, _, by go_num, Lib.hid HS8.out.2, Lib.hid ⟨by rw [List.length_append]; have := HB.out.1; have := HBI.out; simp; omega, by have := HBI.out.1; omega, by have := HB.out.2.2.1; omega, fun _ => by simp, (small7_snoc (k := st.length) ⟨Nat.le_refl _, HB.out.2.2.2.2⟩ HSZ.out).2⟩⟩
          case measure =>
            have h1 := (three_f HS8.out.2.X).1.2.2
            rw [h1, HMEAS.out]
            have hbi := HBI.out.2
            show (i - 1).toNat + emptyN (some (.slice (some ⟨g', 0, none⟩) (ms + 1) c')) < i.toNat + emptyN (some (.slice As ms cs))
            have e0 : emptyN (some (.slice (some ⟨g', 0, none⟩) (ms + 1) c')) = 0 := rfl
            rw [e0]
            rcases hbi with h | ⟨h, h9⟩
            · omega
            · have : ms = 0 := by rw [HMS.out]; exact h9
              subst this
              have e1 : emptyN (some (.slice As 0 cs)) = 1 := rfl
              rw [e1]; omega
        · obtain ⟨⟨z0, z1⟩, u0, u1⟩ := two_fro HE1.out.X
          have hs2 : sb < w2.heap.size := HE1.out.lt
          have HE2 := Lib.hid (HE1.out.below (below_al (Below.refl w2.heap.size w2) (.cells #[.string ⟨#[110, 97, 109, 101]⟩, .string ⟨#[97]⟩, .string ⟨#[98]⟩] 9)).drew)
          have HST3 : Hid (StrsAt (fun v => small v = true) (w2.alloc (.cells #[.string ⟨#[110, 97, 109, 101]⟩, .string ⟨#[97]⟩, .string ⟨#[98]⟩] 9)).drew g ⟨w2.heap.size, 0, none⟩ 3) := Lib.hid (new_strs small (by decide) (by decide) (Cur.lt HE1.out.R.C))
          obtain ⟨⟨p0, p1⟩, -⟩ := two_fro HE2.out.X
          go_wp2
          go_region_law (first
            | (refine step_tst_append rfl _ _ (by rfl) (sb + 1) 0 (.slice none 0 0) [] (by rfl) (rowX_nil _ _) rfl ⟨ta, tb⟩ ⟨w4.heap.size, 0, none⟩ 1 (by rfl) (news_tst w4 ⟨ta, tb⟩ 52) (by omega) HBS.out (0 + 1) rfl ?_; intro g' c' w5 hrow5 hg5; have HS5 := Lib.hid (HE5.out.snoc hg5 (fun j e => by cases e) hrow5); obtain ⟨⟨t0, t1⟩, v0, v1⟩ := two_fro HS5.out.1)
            | (go_simp; go_at_call 38; refine (str_any (fun v => small v = true) g A n cap ⟨w2.heap.size, 0, none⟩ 3 3 (by omega) (by omega) _ HST3.out HE2.out.R.C).mono ?_; rintro e w3 ⟨ta, hta, rfl, hC, hG⟩; have HTA := Lib.hid (small_sz hta); have HE3 := Lib.hid (HE2.out.step hC hG); clear hta hC hG; obtain ⟨⟨q0, q1⟩, -⟩ := two_fro HE3.out.X)
            | (go_simp; go_at_call 63; refine (text_any g A n cap _ HE3.out.R.C).mono ?_; rintro e w4 ⟨tb, htb, rfl, hC, hG⟩; have HTB := Lib.hid (small_sz htb); have HE4 := Lib.hid (HE3.out.step hC hG); clear htb hC hG; obtain ⟨⟨o0, o1⟩, -⟩ := two_fro HE4.out.X; have hs4 : sb < w4.heap.size := HE4.out.lt; have hb5 := below_al (Below.refl w4.heap.size w4) (.cells #[.string ta, .string tb] 52); have HE5 := Lib.hid (HE4.out.below hb5); have HBS : Hid (sb + 1 ≤ (w4.alloc (.cells #[.string ta, .string tb] 52)).heap.size) := Lib.hid HE5.out.lt; obtain ⟨⟨n0, n1⟩, -⟩ := two_fro HE5.out.X; clear hb5))
          all_goals
            have HL1 : Hid (([] ++ [⟨ta, tb⟩] : List Tst).length ≤ 1 ∧ ∀ t ∈ ([] ++ [⟨ta, tb⟩] : List Tst), TstSz t) := Lib.hid ⟨by simp, fun t h => by simp at h; subst h; exact ⟨HTA.out, HTB.out⟩⟩
            obtain ⟨L, hL⟩ : ∃ L : List Tst, L = [] ++ [⟨ta, tb⟩] := ⟨_, rfl⟩
            rw [← hL] at HL1 HS5
            obtain ⟨At, hAt⟩ : ∃ At : Option Addr, At = some ⟨g', 0, none⟩ := ⟨_, rfl⟩
            obtain ⟨m, hm⟩ : ∃ m : Nat, m = 0 + 1 := ⟨_, rfl⟩
            obtain ⟨ct, hct⟩ : ∃ ct : Nat, ct = c' := ⟨_, rfl⟩
            have HE : Hid (E7 w g A n cap pb root u (.slice As ms cs) st S sb x (.slice At m ct) L (w5.setCell ⟨sb, 1, none⟩ (.slice (some ⟨g', 0, none⟩) (0 + 1) c'))) := Lib.hid (by rw [hAt, hm, hct]; exact HS5.out.2)
            have HSZ : Hid (StpSz ⟨x, L⟩) := Lib.hid ⟨HX.out, Nat.le_trans HL1.out.1 (by omega), HL1.out.2⟩
            have HSM : Hid (st.length ≤ 10 ∧ True) := Lib.hid ⟨by have := HB.out.1; omega, trivial⟩
            clear hL hAt hm hct HS5 t0 t1 v0 v1 q0 q1 o0 o1 n0 n1 p0 p1 z0 z1 u0 u1
            have e5 : (w5.setCell ⟨sb, 1, none⟩ (.slice (some ⟨g', 0, none⟩) (0 + 1) c')) = (w5.setCell ⟨sb, 1, none⟩ (.slice (some ⟨g', 0, none⟩) (0 + 1) c')) := rfl
            generalize HW5 : (w5.setCell ⟨sb, 1, none⟩ (.slice (some ⟨g', 0, none⟩) (0 + 1) c')) = w6 at HE ⊢
            clear e5 HW5
            have HSTL : Hid (ms + 1 ≤ 549755813888) := Lib.hid (by rw [HMS.out]; have := HSM.out.1; omega)
            obtain ⟨⟨z0, z1⟩, u0, u1⟩ := two_fro HE.out.X
            obtain ⟨⟨x0, x1, x2⟩, g0, g1, g2⟩ := three_f HE.out.R.X
            have hb8 := below_al (Below.refl w6.heap.size w6) (.cells #[.string x, .slice At m ct] 50)
            have HE8 := Lib.hid (HE.out.below hb8)
            have hSlt : ∀ q, S q → q < sb := HE.out.Slt
            have hNlt : ∀ q, (Value.slice At m ct).ownBlock = some q → sb + 1 ≤ q := fun q h => (RowR.lt HE8.out.ts h).1
            obtain ⟨R, hR, hRl, hgrow⟩ := OwL.grow HE8.out.R.O
            have HOS := Lib.hid (OwL.form HE.out.R.O)
            have HGROW := Lib.hid (fun (w' : World) (v' : Value) => hgrow (w' := w') (v' := v') (r := ⟨x, .slice At m ct⟩) (t := lf ⟨x, L⟩) (Sr := fun q => (Value.slice At m ct).ownBlock = some q) ⟨_, fun _ => False, ⟨⟨rfl, RowR.mono HE8.out.ts (B' := w.heap.size + 1) (by have := HE.out.lo; have := HE.out.R.pl; omega)⟩, fun q => Iff.rfl⟩, owL_nil _ _ _ _, fun q _ h => h, fun q => by simp⟩ (fun q h1 h2 => by have := hSlt q h1; have := hNlt q h2; omega))
            have HRR := Lib.hid hR
            have hRl' : ms = R.length := by rw [hRl, List.length_map]; exact HMS.out
            have HRL := Lib.hid hRl'
            have hSv : ∀ q, (Value.slice As ms cs).ownBlock = some q → S q := fun q hq => by
              obtain ⟨R9, K9, _, _, _, _, _, h6⟩ := HE.out.R.O
              exact (h6 q).2 (.inl hq)
            have HSV := Lib.hid hSv
            have HNL9 := Lib.hid hNlt
            have HBASE : Hid (w.heap.size + 1 ≤ w6.heap.size) := Lib.hid (by have := HE.out.R.lt; have := HE.out.R.pl; omega)
            have hs12 : sb < w6.heap.size := HE.out.lt
            have hs02 : pb < w6.heap.size := HE.out.R.lt
            have HR2w : Hid (RowT7 (w.heap.size + 1) w6 (.slice As ms cs) R) := Lib.hid (rowR_frame hR fun q hq => (Below.heap_alloc w6 (.cells #[.string x, .slice At m ct] 50) _ (by have := hSlt q (hSv q hq); omega)).symm)
            have HNP := Lib.hid HE.out.R.np
            have HLO := Lib.hid HE.out.lo
            clear hb8 hgrow hR hRl hRl' hSlt hNlt hSv
            go_wp2_with (at_builtin; refine wpList_stR_append rfl _ _ rfl (w.heap.size + 1) ms (.slice As ms cs) R (by rfl) HR2w.out HRL.out ⟨x, .slice At m ct⟩ rfl w6.heap.size (by rfl) rfl HSTL.out HBASE.out (ms + 1) rfl ?_; intro g' c' w8 hrow8 hg8 hp8; have HO8 : Hid (∃ S', OwnS (w.heap.size + 1) w8 (.slice (some ⟨g', 0, none⟩) (ms + 1) c') (st ++ [⟨x, L⟩]) S' ∧ ¬ S' pb) := Lib.hid ⟨_, by have h := HGROW.out w8 (.slice (some ⟨g', 0, none⟩) (ms + 1) c') hrow8 hg8 (hp8.elim (fun e => .inl e) (fun e => .inr ⟨g', rfl, by rw [e]; exact Nat.le_refl _⟩)); rw [lf_snoc] at h; exact h, (snoc_np hp8 HSV.out HNP.out (fun q hq => by have := HNL9.out q hq; have := HLO.out; omega) (by simp; omega))⟩; obtain ⟨S', hO8, hn8⟩ := HO8.out; have HS8 := Lib.hid (HE8.out.R.snoc hg8 HSV.out hO8 hn8); clear hO8 hn8 hp8 hrow8 hg8 x0 x1 x2 g0 g1 g2; obtain ⟨⟨x0, x1, x2⟩, g0, g1, g2⟩ := three_f HS8.out.1)
            go_wp2
            go_roundw
            case rel => exact ⟨i - 1, root, u, _, _, _, by go_num, Lib.hid HS8.out.2, Lib.hid ⟨by rw [List.length_append]; have := HB.out.1; have := HBI.out; simp; omega, by have := HBI.out.1; omega, by have := HB.out.2.2.1; omega, fun _ => by simp, (small7_snoc (k := st.length) ⟨Nat.le_refl _, HB.out.2.2.2.2⟩ HSZ.out).2⟩⟩
            case measure =>
              have h1 := (three_f HS8.out.2.X).1.2.2
              rw [h1, HMEAS.out]
              have hbi := HBI.out.2
              show (i - 1).toNat + emptyN (some (.slice (some ⟨g', 0, none⟩) (ms + 1) c')) < i.toNat + emptyN (some (.slice As ms cs))
              have e0 : emptyN (some (.slice (some ⟨g', 0, none⟩) (ms + 1) c')) = 0 := rfl
              rw [e0]
              rcases hbi with h | ⟨h, h9⟩
              · omega
              · have : ms = 0 := by rw [HMS.out]; exact h9
                subst this
                have e1 : emptyN (some (.slice As 0 cs)) = 1 := rfl
                rw [e1]; omega
      · cases root
        · by_cases hu : u = 0
          · subst hu
            by_cases hm : ms = 0
            · have HBI : Hid (0 ≤ i ∧ (0 < i ∨ (i ≤ 0 ∧ st.length = 0))) := Lib.hid ⟨by
                have h9 : st = [] := List.length_eq_zero_iff.1 (by rw [← HMS.out]; exact hm)
                have h8 : ¬ i = -1 := fun e => HB.out.2.2.2.1 e h9
                omega, .inr ⟨by omega, by rw [← HMS.out]; exact hm⟩⟩
              have hmi : ((ms : Int) == 0) = true := by simp; omega
              have hmn : (ms == 0) = true := by simp; omega
              go_wp2_with fail
              refine (name_any g A n cap _ HD.out.C).mono ?_
              rintro e w1 ⟨x, hx, rfl, hC, hG⟩
              have HD1 := Lib.hid (HD.out.step hC hG)
              have HX := Lib.hid (small_sz hx)
              have HE0 := Lib.hid (e7_start x HD1.out)
              clear hx hC hG x0 x1 x2 g0 g1 g2 hmi hmn hm
              go_wp2_with fail
              refine (once_any g A n cap 3 (by omega) _ HE0.out.R.C).mono ?_
              rintro e w2 ⟨ob, rfl, hC, hG⟩
              have HE1 := Lib.hid (HE0.out.step hC hG)
              clear hC hG
              obtain ⟨sb, hsb⟩ : ∃ sb, sb = w1.heap.size := ⟨_, rfl⟩
              rw [← hsb] at HE1 ⊢
              clear hsb HE0
              cases ob
              · obtain ⟨At, m, ct, L, HTL⟩ : ∃ (At : Option Addr) (m ct : Nat) (L : List Tst), Hid (E7 w g A n cap pb false 0 (.slice As ms cs) st S sb x (.slice At m ct) L w2 ∧ (L.length ≤ 1 ∧ ∀ t ∈ L, TstSz t)) := ⟨none, 0, 0, [], Lib.hid ⟨HE1.out, by simp, fun t h => by cases h⟩⟩
                have HE := Lib.hid HTL.out.1
                have HSZ : Hid (StpSz ⟨x, L⟩) := Lib.hid ⟨HX.out, Nat.le_trans HTL.out.2.1 (by omega), HTL.out.2.2⟩
                have HSM : Hid (st.length ≤ 10) ∧ True := ⟨Lib.hid (by have := HB.out.1; omega), trivial⟩
                have HSM : Hid (st.length ≤ 10 ∧ True) := Lib.hid ⟨HSM.1.out, trivial⟩
                clear HE1
                have HSTL : Hid (ms + 1 ≤ 549755813888) := Lib.hid (by rw [HMS.out]; have := HSM.out.1; omega)
                obtain ⟨⟨z0, z1⟩, u0, u1⟩ := two_fro HE.out.X
                obtain ⟨⟨x0, x1, x2⟩, g0, g1, g2⟩ := three_f HE.out.R.X
                have hb8 := below_al (Below.refl w2.heap.size w2) (.cells #[.string x, .slice At m ct] 50)
                have HE8 := Lib.hid (HE.out.below hb8)
                have hSlt : ∀ q, S q → q < sb := HE.out.Slt
                have hNlt : ∀ q, (Value.slice At m ct).ownBlock = some q → sb + 1 ≤ q := fun q h => (RowR.lt HE8.out.ts h).1
                obtain ⟨R, hR, hRl, hgrow⟩ := OwL.grow HE8.out.R.O
                have HOS := Lib.hid (OwL.form HE.out.R.O)
                have HGROW := Lib.hid (fun (w' : World) (v' : Value) => hgrow (w' := w') (v' := v') (r := ⟨x, .slice At m ct⟩) (t := lf ⟨x, L⟩) (Sr := fun q => (Value.slice At m ct).ownBlock = some q) ⟨_, fun _ => False, ⟨⟨rfl, RowR.mono HE8.out.ts (B' := w.heap.size + 1) (by have := HE.out.lo; have := HE.out.R.pl; omega)⟩, fun q => Iff.rfl⟩, owL_nil _ _ _ _, fun q _ h => h, fun q => by simp⟩ (fun q h1 h2 => by have := hSlt q h1; have := hNlt q h2; omega))
                have HRR := Lib.hid hR
                have hRl' : ms = R.length := by rw [hRl, List.length_map]; exact HMS.out
                have HRL := Lib.hid hRl'
                have hSv : ∀ q, (Value.slice As ms cs).ownBlock = some q → S q := fun q hq => by
                  obtain ⟨R9, K9, _, _, _, _, _, h6⟩ := HE.out.R.O
                  exact (h6 q).2 (.inl hq)
                have HSV := Lib.hid hSv
                have HNL9 := Lib.hid hNlt
                have HBASE : Hid (w.heap.size + 1 ≤ w2.heap.size) := Lib.hid (by have := HE.out.R.lt; have := HE.out.R.pl; omega)
                have hs12 : sb < w2.heap.size := HE.out.lt
                have hs02 : pb < w2.heap.size := HE.out.R.lt
                have HR2w : Hid (RowT7 (w.heap.size + 1) w2 (.slice As ms cs) R) := Lib.hid (rowR_frame hR fun q hq => (Below.heap_alloc w2 (.cells #[.string x, .slice At m ct] 50) _ (by have := hSlt q (hSv q hq); omega)).symm)
                have HNP := Lib.hid HE.out.R.np
                have HLO := Lib.hid HE.out.lo
                clear hb8 hgrow hR hRl hRl' hSlt hNlt hSv
                go_wp2_with (at_builtin; refine wpList_stR_append rfl _ _ rfl (w.heap.size + 1) ms (.slice As ms cs) R (by rfl) HR2w.out HRL.out ⟨x, .slice At m ct⟩ rfl w2.heap.size (by rfl) rfl HSTL.out HBASE.out (ms + 1) rfl ?_; intro g' c' w8 hrow8 hg8 hp8; have HO8 : Hid (∃ S', OwnS (w.heap.size + 1) w8 (.slice (some ⟨g', 0, none⟩) (ms + 1) c') (st ++ [⟨x, L⟩]) S' ∧ ¬ S' pb) := Lib.hid ⟨_, by have h := HGROW.out w8 (.slice (some ⟨g', 0, none⟩) (ms + 1) c') hrow8 hg8 (hp8.elim (fun e => .inl e) (fun e => .inr ⟨g', rfl, by rw [e]; exact Nat.le_refl _⟩)); rw [lf_snoc] at h; exact h, (snoc_np hp8 HSV.out HNP.out (fun q hq => by have := HNL9.out q hq; have := HLO.out; omega) (by simp; omega))⟩; obtain ⟨S', hO8, hn8⟩ := HO8.out; have HS8 := Lib.hid (HE8.out.R.snoc hg8 HSV.out hO8 hn8); clear hO8 hn8 hp8 hrow8 hg8 x0 x1 x2 g0 g1 g2; obtain ⟨⟨x0, x1, x2⟩, g0, g1, g2⟩ := three_f HS8.out.1)
                go_wp2
                go_roundw
                case rel => exact ⟨i - 1, false, 0, _, _, _, by go_num, Lib.hid HS8.out.2, Lib.hid ⟨by rw [List.length_append]; have := HB.out.1; have := HBI.out; simp; omega, by have := HBI.out.1; omega, by have := HB.out.2.2.1; omega, fun _ => by simp, (small7_snoc (k := st.length) ⟨Nat.le_refl _, HB.out.2.2.2.2⟩ HSZ.out).2⟩⟩
                case measure =>
                  have h1 := (three_f HS8.out.2.X).1.2.2
                  rw [h1, HMEAS.out]
                  have hbi := HBI.out.2
                  show (i - 1).toNat + emptyN (some (.slice (some ⟨g', 0, none⟩) (ms + 1) c')) < i.toNat + emptyN (some (.slice As ms cs))
                  have e0 : emptyN (some (.slice (some ⟨g', 0, none⟩) (ms + 1) c')) = 0 := rfl
                  rw [e0]
                  rcases hbi with h | ⟨h, h9⟩
                  · omega
                  · have : ms = 0 := by rw [HMS.out]; exact h9
                    subst this
                    have e1 : emptyN (some (.slice As 0 cs)) = 1 := rfl
                    rw [e1]; omega
              · obtain ⟨⟨z0, z1⟩, u0, u1⟩ := two_fro HE1.out.X
                have hs2 : sb < w2.heap.size := HE1.out.lt
                have HE2 := Lib.hid (HE1.out.below (below_al (Below.refl w2.heap.size w2) (.cells #[.string ⟨#[110, 97, 109, 101]⟩, .string ⟨#[97]⟩, .string ⟨#[98]⟩] 9)).drew)
                have HST3 : Hid (StrsAt (fun v => small v = true) (w2.alloc (.cells #[.string ⟨#[110, 97, 109, 101]⟩, .string ⟨#[97]⟩, .string ⟨#[98]⟩] 9)).drew g ⟨w2.heap.size, 0, none⟩ 3) := Lib.hid (new_strs small (by decide) (by decide) (Cur.lt HE1.out.R.C))
                obtain ⟨⟨p0, p1⟩, -⟩ := two_fro HE2.out.X
                go_wp2
                go_region_law (first
                  | (refine step_tst_append rfl _ _ (by rfl) (sb + 1) 0 (.slice none 0 0) [] (by rfl) (rowX_nil _ _) rfl ⟨ta, tb⟩ ⟨w4.heap.size, 0, none⟩ 1 (by rfl) (news_tst w4 ⟨ta, tb⟩ 52) (by omega) HBS.out (0 + 1) rfl ?_; intro g' c' w5 hrow5 hg5; have HS5 := Lib.hid (HE5.out.snoc hg5 (fun j e => by cases e) hrow5); obtain ⟨⟨t0, t1⟩, v0, v1⟩ := two_fro HS5.out.1)
                  | (go_simp; go_at_call 38; refine (str_any (fun v => small v = true) g A n cap ⟨w2.heap.size, 0, none⟩ 3 3 (by omega) (by omega) _ HST3.out HE2.out.R.C).mono ?_; rintro e w3 ⟨ta, hta, rfl, hC, hG⟩; have HTA := Lib.hid (small_sz hta); have HE3 := Lib.hid (HE2.out.step hC hG); clear hta hC hG; obtain ⟨⟨q0, q1⟩, -⟩ := two_fro HE3.out.X)
                  | (go_simp; go_at_call 63; refine (text_any g A n cap _ HE3.out.R.C).mono ?_; rintro e w4 ⟨tb, htb, rfl, hC, hG⟩; have HTB := Lib.hid (small_sz htb); have HE4 := Lib.hid (HE3.out.step hC hG); clear htb hC hG; obtain ⟨⟨o0, o1⟩, -⟩ := two_fro HE4.out.X; have hs4 : sb < w4.heap.size := HE4.out.lt; have hb5 := below_al (Below.refl w4.heap.size w4) (.cells #[.string ta, .string tb] 52); have HE5 := Lib.hid (HE4.out.below hb5); have HBS : Hid (sb + 1 ≤ (w4.alloc (.cells #[.string ta, .string tb] 52)).heap.size) := Lib.hid HE5.out.lt; obtain ⟨⟨n0, n1⟩, -⟩ := two_fro HE5.out.X; clear hb5))
                all_goals
                  have HL1 : Hid (([] ++ [⟨ta, tb⟩] : List Tst).length ≤ 1 ∧ ∀ t ∈ ([] ++ [⟨ta, tb⟩] : List Tst), TstSz t) := Lib.hid ⟨by simp, fun t h => by simp at h; subst h; exact ⟨HTA.out, HTB.out⟩⟩
                  obtain ⟨L, hL⟩ : ∃ L : List Tst, L = [] ++ [⟨ta, tb⟩] := ⟨_, rfl⟩
                  rw [← hL] at HL1 HS5
                  obtain ⟨At, hAt⟩ : ∃ At : Option Addr, At = some ⟨g', 0, none⟩ := ⟨_, rfl⟩
                  obtain ⟨m, hm⟩ : ∃ m : Nat, m = 0 + 1 := ⟨_, rfl⟩
                  obtain ⟨ct, hct⟩ : ∃ ct : Nat, ct = c' := ⟨_, rfl⟩
                  have HE : Hid (E7 w g A n cap pb false 0 (.slice As ms cs) st S sb x (.slice At m ct) L (w5.setCell ⟨sb, 1, none⟩ (.slice (some ⟨g', 0, none⟩) (0 + 1) c'))) := Lib.hid (by rw [hAt, hm, hct]; exact HS5.out.2)
                  have HSZ : Hid (StpSz ⟨x, L⟩) := Lib.hid ⟨HX.out, Nat.le_trans HL1.out.1 (by omega), HL1.out.2⟩
                  have HSM : Hid (st.length ≤ 10 ∧ True) := Lib.hid ⟨by have := HB.out.1; omega, trivial⟩
                  clear hL hAt hm hct HS5 t0 t1 v0 v1 q0 q1 o0 o1 n0 n1 p0 p1 z0 z1 u0 u1
                  have e5 : (w5.setCell ⟨sb, 1, none⟩ (.slice (some ⟨g', 0, none⟩) (0 + 1) c')) = (w5.setCell ⟨sb, 1, none⟩ (.slice (some ⟨g', 0, none⟩) (0 + 1) c')) := rfl
                  generalize HW5 : (w5.setCell ⟨sb, 1, none⟩ (.slice (some ⟨g', 0, none⟩) (0 + 1) c')) = w6 at HE ⊢
                  clear e5 HW5
                  have HSTL : Hid (ms + 1 ≤ 549755813888) := Lib.hid (by rw [HMS.out]; have := HSM.out.1; omega)
                  obtain ⟨⟨z0, z1⟩, u0, u1⟩ := two_fro HE.out.X
                  obtain ⟨⟨x0, x1, x2⟩, g0, g1, g2⟩ := three_f HE.out.R.X
                  have hb8 := below_al (Below.refl w6.heap.size w6) (.cells #[.string x, .slice At m ct] 50)
                  have HE8 := Lib.hid (HE.out.below hb8)
                  have hSlt : ∀ q, S q → q < sb := HE.out.Slt
                  have hNlt : ∀ q, (Value.slice At m ct).ownBlock = some q → sb + 1 ≤ q := fun q h => (RowR.lt HE8.out.ts h).1
                  obtain ⟨R, hR, hRl, hgrow⟩ := OwL.grow HE8.out.R.O
                  have HOS := Lib.hid (OwL.form HE.out.R.O)
                  have HGROW := Lib.hid (fun (w' : World) (v' : Value) => hgrow (w' := w') (v' := v') (r := ⟨x, .slice At m ct⟩) (t := lf ⟨x, L⟩) (Sr := fun q => (Value.slice At m ct).ownBlock = some q) ⟨_, fun _ => False, ⟨⟨rfl, RowR.mono HE8.out.ts (B' := w.heap.size + 1) (by have := HE.out.lo; have := HE.out.R.pl; omega)⟩, fun q => Iff.rfl⟩, owL_nil _ _ _ _, fun q _ h => h, fun q => by simp⟩ (fun q h1 h2 => by have := hSlt q h1; have := hNlt q h2; omega))
                  have HRR := Lib.hid hR
                  have hRl' : ms = R.length := by rw [hRl, List.length_map]; exact HMS.out
                  have HRL := Lib.hid hRl'
                  have hSv : ∀ q, (Value.slice As ms cs).ownBlock = some q → S q := fun q hq => by
                    obtain ⟨R9, K9, _, _, _, _, _, h6⟩ := HE.out.R.O
                    exact (h6 q).2 (.inl hq)
                  have HSV := Lib.hid hSv
                  have HNL9 := Lib.hid hNlt
                  have HBASE : Hid (w.heap.size + 1 ≤ w6.heap.size) := Lib.hid (by have := HE.out.R.lt; have := HE.out.R.pl; omega)
                  have hs12 : sb < w6.heap.size := HE.out.lt
                  have hs02 : pb < w6.heap.size := HE.out.R.lt
                  have HR2w : Hid (RowT7 (w.heap.size + 1) w6 (.slice As ms cs) R) := Lib.hid (rowR_frame hR fun q hq => (Below.heap_alloc w6 (.cells #[.string x, .slice At m ct] 50) _ (by have := hSlt q (hSv q hq); omega)).symm)
                  have HNP := Lib.hid HE.out.R.np
                  have HLO := Lib.hid HE.out.lo
                  clear hb8 hgrow hR hRl hRl' hSlt hNlt hSv
                  go_wp2_with (at_builtin; refine wpList_stR_append rfl _ _ rfl (w.heap.size + 1) ms (.slice As ms cs) R (by rfl) HR2w.out HRL.out ⟨x, .slice At m ct⟩ rfl w6.heap.size (by rfl) rfl HSTL.out HBASE.out (ms + 1) rfl ?_; intro g' c' w8 hrow8 hg8 hp8; have HO8 : Hid (∃ S', OwnS (w.heap.size + 1) w8 (.slice (some ⟨g', 0, none⟩) (ms + 1) c') (st ++ [⟨x, L⟩]) S' ∧ ¬ S' pb) := Lib.hid ⟨_, by have h := HGROW.out w8 (.slice (some ⟨g', 0, none⟩) (ms + 1) c') hrow8 hg8 (hp8.elim (fun e => .inl e) (fun e => .inr ⟨g', rfl, by rw [e]; exact Nat.le_refl _⟩)); rw [lf_snoc] at h; exact h, (snoc_np hp8 HSV.out HNP.out (fun q hq => by have := HNL9.out q hq; have := HLO.out; omega) (by simp; omega))⟩; obtain ⟨S', hO8, hn8⟩ := HO8.out; have HS8 := Lib.hid (HE8.out.R.snoc hg8 HSV.out hO8 hn8); clear hO8 hn8 hp8 hrow8 hg8 x0 x1 x2 g0 g1 g2; obtain ⟨⟨x0, x1, x2⟩, g0, g1, g2⟩ := three_f HS8.out.1)
                  go_wp2
                  go_roundw
                  case rel => exact ⟨i - 1, false, 0, _, _, _, by go_num, Lib.hid HS8.out.2, Lib.hid ⟨by rw [List.length_append]; have := HB.out.1; have := HBI.out; simp; omega, by have := HBI.out.1; omega, by have := HB.out.2.2.1; omega, fun _ => by simp, (small7_snoc (k := st.length) ⟨Nat.le_refl _, HB.out.2.2.2.2⟩ HSZ.out).2⟩⟩
                  case measure =>
                    have h1 := (three_f HS8.out.2.X).1.2.2
                    rw [h1, HMEAS.out]
                    have hbi := HBI.out.2
                    show (i - 1).toNat + emptyN (some (.slice (some ⟨g', 0, none⟩) (ms + 1) c')) < i.toNat + emptyN (some (.slice As ms cs))
                    have e0 : emptyN (some (.slice (some ⟨g', 0, none⟩) (ms + 1) c')) = 0 := rfl
                    rw [e0]
                    rcases hbi with h | ⟨h, h9⟩
                    · omega
                    · have : ms = 0 := by rw [HMS.out]; exact h9
                      subst this
                      have e1 : emptyN (some (.slice As 0 cs)) = 1 := rfl
                      rw [e1]; omega
            · have hmi : ((ms : Int) == 0) = false := by simp; omega
              have hmn : (ms == 0) = false := by simp; omega
              clear x0 x1 x2 g0 g1 g2
              obtain ⟨⟨x0, x1, x2⟩, g0, g1, g2⟩ := three_f HD.out.X
              obtain ⟨⟨y0, y1, y2⟩, k0, k1, k2⟩ := three_f HD.out.Z
              have hs02 : pb < wr.heap.size := HD.out.lt
              skip
              go_wp2
              refine bodyPost_ret (results_c1 rfl _ _ ⟨w.heap.size, 0, none⟩ _ rfl (run_loadPth (pth_full HD.out.Z _ _ _))) rfl ?_
              exact ⟨_, _, _, st, _, rfl, (HD.out.done _ _ _).1, Lib.hid ⟨by have := HB.out.1; omega, HB.out.2.2.2.2⟩, (HD.out.done _ _ _).2.1, (HD.out.done _ _ _).2.2⟩
          · have hu' : (u == 0) = false := by simpa using hu
            clear x0 x1 x2 g0 g1 g2
            obtain ⟨⟨x0, x1, x2⟩, g0, g1, g2⟩ := three_f HD.out.X
            obtain ⟨⟨y0, y1, y2⟩, k0, k1, k2⟩ := three_f HD.out.Z
            have hs02 : pb < wr.heap.size := HD.out.lt
            skip
            go_wp2
            refine bodyPost_ret (results_c1 rfl _ _ ⟨w.heap.size, 0, none⟩ _ rfl (run_loadPth (pth_full HD.out.Z _ _ _))) rfl ?_
            exact ⟨_, _, _, st, _, rfl, (HD.out.done _ _ _).1, Lib.hid ⟨by have := HB.out.1; omega, HB.out.2.2.2.2⟩, (HD.out.done _ _ _).2.1, (HD.out.done _ _ _).2.2⟩
        · clear x0 x1 x2 g0 g1 g2
          obtain ⟨⟨x0, x1, x2⟩, g0, g1, g2⟩ := three_f HD.out.X
          obtain ⟨⟨y0, y1, y2⟩, k0, k1, k2⟩ := three_f HD.out.Z
          have hs02 : pb < wr.heap.size := HD.out.lt
          skip
          go_wp2
          refine bodyPost_ret (results_c1 rfl _ _ ⟨w.heap.size, 0, none⟩ _ rfl (run_loadPth (pth_full HD.out.Z _ _ _))) rfl ?_
          exact ⟨_, _, _, st, _, rfl, (HD.out.done _ _ _).1, Lib.hid ⟨by have := HB.out.1; omega, HB.out.2.2.2.2⟩, (HD.out.done _ _ _).2.1, (HD.out.done _ _ _).2.2⟩
  · go_wp2_with fail
    refine (below_any g A n cap 4 (by omega) _ HD1.out.C).mono ?_
    rintro e w2 ⟨y, hy0, -, hy2, rfl, hC, hG⟩
    have HI : Hid (0 ≤ y ∧ y ≤ 3) := Lib.hid (by have := hy2 (by omega); omega)
    have HDs := Lib.hid (HD1.out.step hC hG)
    clear hC hG hy2 hy0 HD1 x0 x1 x2 g0 g1 g2 hx0 hx3
    obtain ⟨pb, hpb⟩ : ∃ pb, pb = w.heap.size + 1 := ⟨_, rfl⟩
    rw [← hpb] at HDs ⊢
    clear hpb
    go_wp2
    go_loopw [4] (fun v wr => ∃ (i : Int) (root : Bool) (u : Int) (sv : Value) (st : List Stp) (S : Nat → Prop), v = .int .i64 i ∧ Hid (D7 w g A n cap pb root u sv st S wr) ∧ Hid ((st.length : Int) + (i.toNat : Int) ≤ 3 ∧ -1 ≤ i ∧ i ≤ 3 ∧ (i = -1 → st ≠ []) ∧ ∀ s ∈ st, StpSz s)) (fun v wr => (intOf v).toNat + emptyN (wr.cell? ⟨pb, 2, none⟩))
    case atStart => exact ⟨_, _, _, _, _, _, rfl, HDs, Lib.hid ⟨by have := HI.out; simp; omega, by have := HI.out; omega, by have := HI.out; omega, fun h => by have := HI.out; omega, fun s h => by cases h⟩⟩
    case round =>
      clear HDs HI
      obtain ⟨i, root, u, sv, st, S, rfl, HD, HB⟩ := hrel
      have hi1 : -1 ≤ i := HB.out.2.1
      have hi3 : i ≤ 3 := HB.out.2.2.1
      obtain ⟨As, ms, cs, hsv⟩ : ∃ A n c, sv = .slice A n c := by obtain ⟨A, c, hv, _⟩ := (OwnS.has HD.out.O).at; exact ⟨A, _, c, hv⟩
      have HMS : Hid (ms = st.length) := Lib.hid (by obtain ⟨A, c, hv, _⟩ := (OwnS.has HD.out.O).at; rw [hsv] at hv; injection hv)
      subst hsv
      have HMEAS : Hid (wr.cell? ⟨pb, 2, none⟩ = some (.slice As ms cs)) := Lib.hid (three_f HD.out.X).1.2.2
      obtain ⟨⟨x0, x1, x2⟩, g0, g1, g2⟩ := three_f HD.out.X
      by_cases hi : 0 < i
      · have HBI : Hid (0 ≤ i ∧ (0 < i ∨ (i ≤ 0 ∧ st.length = 0))) := Lib.hid ⟨by omega, .inl hi⟩
        go_wp2_with fail
        refine (name_any g A n cap _ HD.out.C).mono ?_
        rintro e w1 ⟨x, hx, rfl, hC, hG⟩
        have HD1 := Lib.hid (HD.out.step hC hG)
        have HX := Lib.hid (small_sz hx)
        have HE0 := Lib.hid (e7_start x HD1.out)
        clear hx hC hG x0 x1 x2 g0 g1 g2
        go_wp2_with fail
        refine (once_any g A n cap 3 (by omega) _ HE0.out.R.C).mono ?_
        rintro e w2 ⟨ob, rfl, hC, hG⟩
        have HE1 := Lib.hid (HE0.out.step hC hG)
        clear hC hG
        obtain ⟨sb, hsb⟩ : ∃ sb, sb = w1.heap.size := ⟨_, rfl⟩
        rw [← hsb] at HE1 ⊢
        clear hsb HE0
        cases ob
        · obtain ⟨At, m, ct, L, HTL⟩ : ∃ (At : Option Addr) (m ct : Nat) (L : List Tst), Hid (E7 w g A n cap pb root u (.slice As ms cs) st S sb x (.slice At m ct) L w2 ∧ (L.length ≤ 1 ∧ ∀ t ∈ L, TstSz t)) := ⟨none, 0, 0, [], Lib.hid ⟨HE1.out, by simp, fun t h => by cases h⟩⟩
          have HE := Lib.hid HTL.out.1
          have HSZ : Hid (StpSz ⟨x, L⟩) := Lib.hid ⟨HX.out, Nat.le_trans HTL.out.2.1 (by omega), HTL.out.2.2⟩
          have HSM : Hid (st.length ≤ 10) ∧ True := ⟨Lib.hid (by have := HB.out.1; omega), trivial⟩
          have HSM : Hid (st.length ≤ 10 ∧ True) := Lib.hid ⟨HSM.1.out, trivial⟩
          clear HE1
          have HSTL : Hid (ms + 1 ≤ 549755813888) := Lib.hid (by rw [HMS.out]; have := HSM.out.1; omega)
          obtain ⟨⟨z0, z1⟩, u0, u1⟩ := two_fro HE.out.X
          obtain ⟨⟨x0, x1, x2⟩, g0, g1, g2⟩ := three_f HE.out.R.X
          have hb8 := below_al (Below.refl w2.heap.size w2) (.cells #[.string x, .slice At m ct] 50)
          have HE8 := Lib.hid (HE.out.below hb8)
          have hSlt : ∀ q, S q → q < sb := HE.out.Slt
          have hNlt : ∀ q, (Value.slice At m ct).ownBlock = some q → sb + 1 ≤ q := fun q h => (RowR.lt HE8.out.ts h).1
          obtain ⟨R, hR, hRl, hgrow⟩ := OwL.grow HE8.out.R.O
          have HOS := Lib.hid (OwL.form HE.out.R.O)
          have HGROW := Lib.hid (fun (w' : World) (v' : Value) => hgrow (w' := w') (v' := v') (r := ⟨x, .slice At m ct⟩) (t := lf ⟨x, L⟩) (Sr := fun q => (Value.slice At m ct).ownBlock = some q) ⟨_, fun _ => False, ⟨⟨rfl, RowR.mono HE8.out.ts (B' := w.heap.size + 1) (by have := HE.out.lo; have := HE.out.R.pl; omega)⟩, fun q => Iff.rfl⟩, owL_nil _ _ _ _, fun q _ h => h, fun q => by simp⟩ (fun q h1 h2 => by have := hSlt q h1; have := hNlt q h2; omega))
          have HRR := Lib.hid hR
          have hRl' : ms = R.length := by rw [hRl, List.length_map]; exact HMS.out
          have HRL := Lib.hid hRl'
          have hSv : ∀ q, (Value.slice As ms cs).ownBlock = some q → S q := fun q hq => by
            obtain ⟨R9, K9, _, _, _, _, _, h6⟩ := HE.out.R.O
            exact (h6 q).2 (.inl hq)
          have HSV := Lib.hid hSv
          have HNL9 := Lib.hid hNlt
          have HBASE : Hid (w.heap.size + 1 ≤ w2.heap.size) := Lib.hid (by have := HE.out.R.lt; have := HE.out.R.pl; omega)
          have hs12 : sb < w2.heap.size := HE.out.lt
          have hs02 : pb < w2.heap.size := HE.out.R.lt
          have HR2w : Hid (RowT7 (w.heap.size + 1) w2 (.slice As ms cs) R) := Lib.hid (rowR_frame hR fun q hq => (Below.heap_alloc w2 (.cells #[.string x, .slice At m ct] 50) _ (by have := hSlt q (hSv q hq); omega)).symm)
          have HNP := Lib.hid HE.out.R.np
          have HLO := Lib.hid HE.out.lo
          clear hb8 hgrow hR hRl hRl' hSlt hNlt hSv
          go_wp2_with (at_builtin; refine wpList_stR_append rfl _ _ rfl (w.heap.size + 1) ms (.slice As ms cs) R (by rfl) HR2w.out HRL.out ⟨x, .slice At m ct⟩ rfl w2.heap.size (by rfl) rfl HSTL.out HBASE.out (ms + 1) rfl ?_; intro g' c' w8 hrow8 hg8 hp8; have HO8 : Hid (∃ S', OwnS (w.heap.size + 1) w8 (.slice (some ⟨g', 0, none⟩) (ms + 1) c') (st ++ [⟨x, L⟩]) S' ∧ ¬ S' pb) := Lib.hid ⟨_, by have h := HGROW.out w8 (.slice (some ⟨g', 0, none⟩) (ms + 1) c') hrow8 hg8 (hp8.elim (fun e => .inl e) (fun e => .inr ⟨g', rfl, by rw [e]; exact Nat.le_refl _⟩)); rw [lf_snoc] at h; exact h, (snoc_np hp8 HSV.out HNP.out (fun q hq => by have := HNL9.out q hq; have := HLO.out; omega) (by simp; omega))⟩; obtain ⟨S', hO8, hn8⟩ := HO8.out; have HS8 := Lib.hid (HE8.out.R.snoc hg8 HSV.out hO8 hn8); clear hO8 hn8 hp8 hrow8 hg8 x0 x1 x2 g0 g1 g2; obtain ⟨⟨x0, x1, x2⟩, g0, g1, g2⟩ := three_f HS8.out.1)
          go_wp2
          go_roundw
          case rel => exact ⟨i - 1, root, u, _, _, _, by go_num, Lib.hid HS8.out.2, Lib.hid ⟨by rw [List.length_append]; have := HB.out.1; have := HBI.out; simp; omega, by have := HBI.out.1; omega, by have := HB.out.2.2.1; omega, fun _ => by simp, (small7_snoc (k := st.length) ⟨Nat.le_refl _, HB.out.2.2.2.2⟩ HSZ.out).2⟩⟩
          case measure =>
            have h1 := (three_f HS8.out.2.X).1.2.2
            rw [h1, HMEAS.out]
            have hbi := HBI.out.2
            show (i - 1).toNat + emptyN (some (.slice (some ⟨g', 0, none⟩) (ms + 1) c')) < i.toNat + emptyN (some (.slice As ms cs))
            have e0 : emptyN (some (.slice (some ⟨g', 0, none⟩) (ms + 1) c')) = 0 := rfl
            rw [e0]
            rcases hbi with h | ⟨h, h9⟩
            · omega
            · have : ms = 0 := by rw [HMS.out]; exact h9
              subst this
              have e1 : emptyN (some (.slice As 0 cs)) = 1 := rfl
              rw [e1]; omega
        · obtain ⟨⟨z0, z1⟩, u0, u1⟩ := two_fro HE1.out.X
          have hs2 : sb < w2.heap.size := HE1.out.lt
          have HE2 := Lib.hid (HE1.out.below (below_al (Below.refl w2.heap.size w2) (.cells #[.string ⟨#[110, 97, 109, 101]⟩, .string ⟨#[97]⟩, .string ⟨#[98]⟩] 9)).drew)
          have HST3 : Hid (StrsAt (fun v => small v = true) (w2.alloc (.cells #[.string ⟨#[110, 97, 109, 101]⟩, .string ⟨#[97]⟩, .string ⟨#[98]⟩] 9)).drew g ⟨w2.heap.size, 0, none⟩ 3) := Lib.hid (new_strs small (by decide) (by decide) (Cur.lt HE1.out.R.C))
          obtain ⟨⟨p0, p1⟩, -⟩ := two_fro HE2.out.X
          go_wp2
          go_region_law (first
            | (refine step_tst_append rfl _ _ (by rfl) (sb + 1) 0 (.slice none 0 0) [] (by rfl) (rowX_nil _ _) rfl ⟨ta, tb⟩ ⟨w4.heap.size, 0, none⟩ 1 (by rfl) (news_tst w4 ⟨ta, tb⟩ 52) (by omega) HBS.out (0 + 1) rfl ?_; intro g' c' w5 hrow5 hg5; have HS5 := Lib.hid (HE5.out.snoc hg5 (fun j e => by cases e) hrow5); obtain ⟨⟨t0, t1⟩, v0, v1⟩ := two_fro HS5.out.1)
            | (go_simp; go_at_call 38; refine (str_any (fun v => small v = true) g A n cap ⟨w2.heap.size, 0, none⟩ 3 3 (by omega) (by omega) _ HST3.out HE2.out.R.C).mono ?_; rintro e w3 ⟨ta, hta, rfl, hC, hG⟩; have HTA := Lib.hid (small_sz hta); have HE3 := Lib.hid (HE2.out.step hC hG); clear hta hC hG; obtain ⟨⟨q0, q1⟩, -⟩ := two_fro HE3.out.X)
            | (go_simp; go_at_call 63; refine (text_any g A n cap _ HE3.out.R.C).mono ?_; rintro e w4 ⟨tb, htb, rfl, hC, hG⟩; have HTB := Lib.hid (small_sz htb); have HE4 := Lib.hid (HE3.out.step hC hG); clear htb hC hG; obtain ⟨⟨o0, o1⟩, -⟩ := two_fro HE4.out.X; have hs4 : sb < w4.heap.size := HE4.out.lt; have hb5 := below_al (Below.refl w4.heap.size w4) (.cells #[.string ta, .string tb] 52); have HE5 := Lib.hid (HE4.out.below hb5); have HBS : Hid (sb + 1 ≤ (w4.alloc (.cells #[.string ta, .string tb] 52)).heap.size) := Lib.hid HE5.out.lt; obtain ⟨⟨n0, n1⟩, -⟩ := two_fro HE5.out.X; clear hb5))
          all_goals
            have HL1 : Hid (([] ++ [⟨ta, tb⟩] : List Tst).length ≤ 1 ∧ ∀ t ∈ ([] ++ [⟨ta, tb⟩] : List Tst), TstSz t) := Lib.hid ⟨by simp, fun t h => by simp at h; subst h; exact ⟨HTA.out, HTB.out⟩⟩
            obtain ⟨L, hL⟩ : ∃ L : List Tst, L = [] ++ [⟨ta, tb⟩] := ⟨_, rfl⟩
            rw [← hL] at HL1 HS5
            obtain ⟨At, hAt⟩ : ∃ At : Option Addr, At = some ⟨g', 0, none⟩ := ⟨_, rfl⟩
            obtain ⟨m, hm⟩ : ∃ m : Nat, m = 0 + 1 := ⟨_, rfl⟩
            obtain ⟨ct, hct⟩ : ∃ ct : Nat, ct = c' := ⟨_, rfl⟩
            have HE : Hid (E7 w g A n cap pb root u (.slice As ms cs) st S sb x (.slice At m ct) L (w5.setCell ⟨sb, 1, none⟩ (.slice (some ⟨g', 0, none⟩) (0 + 1) c'))) := Lib.hid (by rw [hAt, hm, hct]; exact HS5.out.2)
            have HSZ : Hid (StpSz ⟨x, L⟩) := Lib.hid ⟨HX.out, Nat.le_trans HL1.out.1 (by omega), HL1.out.2⟩
            have HSM : Hid (st.length ≤ 10 ∧ True) := Lib.hid ⟨by have := HB.out.1; omega, trivial⟩
            clear hL hAt hm hct HS5 t0 t1 v0 v1 q0 q1 o0 o1 n0 n1 p0 p1 z0 z1 u0 u1
            have e5 : (w5.setCell ⟨sb, 1, none⟩ (.slice (some ⟨g', 0, none⟩) (0 + 1) c')) = (w5.setCell ⟨sb, 1, none⟩ (.slice (some ⟨g', 0, none⟩) (0 + 1) c')) := rfl
            generalize HW5 : (w5.setCell ⟨sb, 1, none⟩ (.slice (some ⟨g', 0, none⟩) (0 + 1) c')) = w6 at HE ⊢
            clear e5 HW5
            have HSTL : Hid (ms + 1 ≤ 549755813888) := Lib.hid (by rw [HMS.out]; have := HSM.out.1; omega)
            obtain ⟨⟨z0, z1⟩, u0, u1⟩ := two_fro HE.out.X
            obtain ⟨⟨x0, x1, x2⟩, g0, g1, g2⟩ := three_f HE.out.R.X
            have hb8 := below_al (Below.refl w6.heap.size w6) (.cells #[.string x, .slice At m ct] 50)
            have HE8 := Lib.hid (HE.out.below hb8)
            have hSlt : ∀ q, S q → q < sb := HE.out.Slt
            have hNlt : ∀ q, (Value.slice At m ct).ownBlock = some q → sb + 1 ≤ q := fun q h => (RowR.lt HE8.out.ts h).1
            obtain ⟨R, hR, hRl, hgrow⟩ := OwL.grow HE8.out.R.O
            have HOS := Lib.hid (OwL.form HE.out.R.O)
            have HGROW := Lib.hid (fun (w' : World) (v' : Value) => hgrow (w' := w') (v' := v') (r := ⟨x, .slice At m ct⟩) (t := lf ⟨x, L⟩) (Sr := fun q => (Value.slice At m ct).ownBlock = some q) ⟨_, fun _ => False, ⟨⟨rfl, RowR.mono HE8.out.ts (B' := w.heap.size + 1) (by have := HE.out.lo; have := HE.out.R.pl; omega)⟩, fun q => Iff.rfl⟩, owL_nil _ _ _ _, fun q _ h => h, fun q => by simp⟩ (fun q h1 h2 => by have := hSlt q h1; have := hNlt q h2; omega))
            have HRR := Lib.hid hR
            have hRl' : ms = R.length := by rw [hRl, List.length_map]; exact HMS.out
            have HRL := Lib.hid hRl'
            have hSv : ∀ q, (Value.slice As ms cs).ownBlock = some q → S q := fun q hq => by
              obtain ⟨R9, K9, _, _, _, _, _, h6⟩ := HE.out.R.O
              exact (h6 q).2 (.inl hq)
            have HSV := Lib.hid hSv
            have HNL9 := Lib.hid hNlt
            have HBASE : Hid (w.heap.size + 1 ≤ w6.heap.size) := Lib.hid (by have := HE.out.R.lt; have := HE.out.R.pl; omega)
            have hs12 : sb < w6.heap.size := HE.out.lt
            have hs02 : pb < w6.heap.size := HE.out.R.lt
            have HR2w : Hid (RowT7 (w.heap.size + 1) w6 (.slice As ms cs) R) := Lib.hid (rowR_frame hR fun q hq => (Below.heap_alloc w6 (.cells #[.string x, .slice At m ct] 50) _ (by have := hSlt q (hSv q hq); omega)).symm)
            have HNP := Lib.hid HE.out.R.np
            have HLO := Lib.hid HE.out.lo
            clear hb8 hgrow hR hRl hRl' hSlt hNlt hSv
            go_wp2_with (at_builtin; refine wpList_stR_append rfl _ _ rfl (w.heap.size + 1) ms (.slice As ms cs) R (by rfl) HR2w.out HRL.out ⟨x, .slice At m ct⟩ rfl w6.heap.size (by rfl) rfl HSTL.out HBASE.out (ms + 1) rfl ?_; intro g' c' w8 hrow8 hg8 hp8; have HO8 : Hid (∃ S', OwnS (w.heap.size + 1) w8 (.slice (some ⟨g', 0, none⟩) (ms + 1) c') (st ++ [⟨x, L⟩]) S' ∧ ¬ S' pb) := Lib.hid ⟨_, by have h := HGROW.out w8 (.slice (some ⟨g', 0, none⟩) (ms + 1) c') hrow8 hg8 (hp8.elim (fun e => .inl e) (fun e => .inr ⟨g', rfl, by rw [e]; exact Nat.le_refl _⟩)); rw [lf_snoc] at h; exact h, (snoc_np hp8 HSV.out HNP.out (fun q hq => by have := HNL9.out q hq; have := HLO.out; omega) (by simp; omega))⟩; obtain ⟨S', hO8, hn8⟩ := HO8.out; have HS8 := Lib.hid (HE8.out.R.snoc hg8 HSV.out hO8 hn8); clear hO8 hn8 hp8 hrow8 hg8 x0 x1 x2 g0 g1 g2; obtain ⟨⟨x0, x1, x2⟩, g0, g1, g2⟩ := three_f HS8.out.1)
            go_wp2
            go_roundw
            case rel => exact ⟨i - 1, root, u, _, _, _, by go_num, Lib.hid HS8.out.2, Lib.hid ⟨by rw [List.length_append]; have := HB.out.1; have := HBI.out; simp; omega, by have := HBI.out.1; omega, by have := HB.out.2.2.1; omega, fun _ => by simp, (small7_snoc (k := st.length) ⟨Nat.le_refl _, HB.out.2.2.2.2⟩ HSZ.out).2⟩⟩
            case measure =>
              have h1 := (three_f HS8.out.2.X).1.2.2
              rw [h1, HMEAS.out]
              have hbi := HBI.out.2
              show (i - 1).toNat + emptyN (some (.slice (some ⟨g', 0, none⟩) (ms + 1) c')) < i.toNat + emptyN (some (.slice As ms cs))
              have e0 : emptyN (some (.slice (some ⟨g', 0, none⟩) (ms + 1) c')) = 0 := rfl
              rw [e0]
              rcases hbi with h | ⟨h, h9⟩
              · omega
              · have : ms = 0 := by rw [HMS.out]; exact h9
                subst this
                have e1 : emptyN (some (.slice As 0 cs)) = 1 := rfl
                rw [e1]; omega
      · cases root
        · by_cases hu : u = 0
          · subst hu
            by_cases hm : ms = 0
            · have HBI : Hid (0 ≤ i ∧ (0 < i ∨ (i ≤ 0 ∧ st.length = 0))) := Lib.hid ⟨by
                have h9 : st = [] := List.length_eq_zero_iff.1 (by rw [← HMS.out]; exact hm)
                have h8 : ¬ i = -1 := fun e => HB.out.2.2.2.1 e h9
                omega, .inr ⟨by omega, by rw [← HMS.out]; exact hm⟩⟩
              have hmi : ((ms : Int) == 0) = true := by simp; omega
              have hmn : (ms == 0) = true := by simp; omega
              go_wp2_with fail
              refine (name_any g A n cap _ HD.out.C).mono ?_
              rintro e w1 ⟨x, hx, rfl, hC, hG⟩
              have HD1 := Lib.hid (HD.out.step hC hG)
              have HX := Lib.hid (small_sz hx)
              have HE0 := Lib.hid (e7_start x HD1.out)
              clear hx hC hG x0 x1 x2 g0 g1 g2 hmi hmn hm
              go_wp2_with fail
              refine (once_any g A n cap 3 (by omega) _ HE0.out.R.C).mono ?_
              rintro e w2 ⟨ob, rfl, hC, hG⟩
              have HE1 := Lib.hid (HE0.out.step hC hG)
              clear hC hG
              obtain ⟨sb, hsb⟩ : ∃ sb, sb = w1.heap.size := ⟨_, rfl⟩
              rw [← hsb] at HE1 ⊢
              clear hsb HE0
              cases ob
              · obtain ⟨At, m, ct, L, HTL⟩ : ∃ (At : Option Addr) (m ct : Nat) (L : List Tst), Hid (E7 w g A n cap pb false 0 (.slice As ms cs) st S sb x (.slice At m ct) L w2 ∧ (L.length ≤ 1 ∧ ∀ t ∈ L, TstSz t)) := ⟨none, 0, 0, [], Lib.hid ⟨HE1.out, by simp, fun t h => by cases h⟩⟩
                have HE := Lib.hid HTL.out.1
                have HSZ : Hid (StpSz ⟨x, L⟩) := Lib.hid ⟨HX.out, Nat.le_trans HTL.out.2.1 (by omega), HTL.out.2.2⟩
                have HSM : Hid (st.length ≤ 10) ∧ True := ⟨Lib.hid (by have := HB.out.1; omega), trivial⟩
                have HSM : Hid (st.length ≤ 10 ∧ True) := Lib.hid ⟨HSM.1.out, trivial⟩
                clear HE1
                have HSTL : Hid (ms + 1 ≤ 549755813888) := Lib.hid (by rw [HMS.out]; have := HSM.out.1; omega)
                obtain ⟨⟨z0, z1⟩, u0, u1⟩ := two_fro HE.out.X
                obtain ⟨⟨x0, x1, x2⟩, g0, g1, g2⟩ := three_f HE.out.R.X
                have hb8 := below_al (Below.refl w2.heap.size w2) (.cells #[.string x, .slice At m ct] 50)
                have HE8 := Lib.hid (HE.out.below hb8)
                have hSlt : ∀ q, S q → q < sb := HE.out.Slt
                have hNlt : ∀ q, (Value.slice At m ct).ownBlock = some q → sb + 1 ≤ q := fun q h => (RowR.lt HE8.out.ts h).1
                obtain ⟨R, hR, hRl, hgrow⟩ := OwL.grow HE8.out.R.O
                have HOS := Lib.hid (OwL.form HE.out.R.O)
                have HGROW := Lib.hid (fun (w' : World) (v' : Value) => hgrow (w' := w') (v' := v') (r := ⟨x, .slice At m ct⟩) (t := lf ⟨x, L⟩) (Sr := fun q => (Value.slice At m ct).ownBlock = some q) ⟨_, fun _ => False, ⟨⟨rfl, RowR.mono HE8.out.ts (B' := w.heap.size + 1) (by have := HE.out.lo; have := HE.out.R.pl; omega)⟩, fun q => Iff.rfl⟩, owL_nil _ _ _ _, fun q _ h => h, fun q => by simp⟩ (fun q h1 h2 => by have := hSlt q h1; have := hNlt q h2; omega))
                have HRR := Lib.hid hR
                have hRl' : ms = R.length := by rw [hRl, List.length_map]; exact HMS.out
                have HRL := Lib.hid hRl'
                have hSv : ∀ q, (Value.slice As ms cs).ownBlock = some q → S q := fun q hq => by
                  obtain ⟨R9, K9, _, _, _, _, _, h6⟩ := HE.out.R.O
                  exact (h6 q).2 (.inl hq)
                have HSV := Lib.hid hSv
                have HNL9 := Lib.hid hNlt
                have HBASE : Hid (w.heap.size + 1 ≤ w2.heap.size) := Lib.hid (by have := HE.out.R.lt; have := HE.out.R.pl; omega)
                have hs12 : sb < w2.heap.size := HE.out.lt
                have hs02 : pb < w2.heap.size := HE.out.R.lt
                have HR2w : Hid (RowT7 (w.heap.size + 1) w2 (.slice As ms cs) R) := Lib.hid (rowR_frame hR fun q hq => (Below.heap_alloc w2 (.cells #[.string x, .slice At m ct] 50) _ (by have := hSlt q (hSv q hq); omega)).symm)
                have HNP := Lib.hid HE.out.R.np
                have HLO := Lib.hid HE.out.lo
                clear hb8 hgrow hR hRl hRl' hSlt hNlt hSv
                go_wp2_with (at_builtin; refine wpList_stR_append rfl _ _ rfl (w.heap.size + 1) ms (.slice As ms cs) R (by rfl) HR2w.out HRL.out ⟨x, .slice At m ct⟩ rfl w2.heap.size (by rfl) rfl HSTL.out HBASE.out (ms + 1) rfl ?_; intro g' c' w8 hrow8 hg8 hp8; have HO8 : Hid (∃ S', OwnS (w.heap.size + 1) w8 (.slice (some ⟨g', 0, none⟩) (ms + 1) c') (st ++ [⟨x, L⟩]) S' ∧ ¬ S' pb) := Lib.hid ⟨_, by have h := HGROW.out w8 (.slice (some ⟨g', 0, none⟩) (ms + 1) c') hrow8 hg8 (hp8.elim (fun e => .inl e) (fun e => .inr ⟨g', rfl, by rw [e]; exact Nat.le_refl _⟩)); rw [lf_snoc] at h; exact h, (snoc_np hp8 HSV.out HNP.out (fun q hq => by have := HNL9.out q hq; have := HLO.out; omega) (by simp; omega))⟩; obtain ⟨S', hO8, hn8⟩ := HO8.out; have HS8 := Lib.hid (HE8.out.R.snoc hg8 HSV.out hO8 hn8); clear hO8 hn8 hp8 hrow8 hg8 x0 x1 x2 g0 g1 g2; obtain ⟨⟨x0, x1, x2⟩, g0, g1, g2⟩ := three_f HS8.out.1)
                go_wp2
                go_roundw
                case rel => exact ⟨i - 1, false, 0, _, _, _, by go_num, Lib.hid HS8.out.2, Lib.hid ⟨by rw [List.length_append]; have := HB.out.1; have := HBI.out; simp; omega, by have := HBI.out.1; omega, by have := HB.out.2.2.1; omega, fun _ => by simp, (small7_snoc (k := st.length) ⟨Nat.le_refl _, HB.out.2.2.2.2⟩ HSZ.out).2⟩⟩
                case measure =>
                  have h1 := (three_f HS8.out.2.X).1.2.2
                  rw [h1, HMEAS.out]
                  have hbi := HBI.out.2
                  show (i - 1).toNat + emptyN (some (.slice (some ⟨g', 0, none⟩) (ms + 1) c')) < i.toNat + emptyN (some (.slice As ms cs))
                  have e0 : emptyN (some (.slice (some ⟨g', 0, none⟩) (ms + 1) c')) = 0 := rfl
                  rw [e0]
                  rcases hbi with h | ⟨h, h9⟩
                  · omega
                  · have : ms = 0 := by rw [HMS.out]; exact h9
                    subst this
                    have e1 : emptyN (some (.slice As 0 cs)) = 1 := rfl
                    rw [e1]; omega
              · obtain ⟨⟨z0, z1⟩, u0, u1⟩ := two_fro HE1.out.X
                have hs2 : sb < w2.heap.size := HE1.out.lt
                have HE2 := Lib.hid (HE1.out.below (below_al (Below.refl w2.heap.size w2) (.cells #[.string ⟨#[110, 97, 109, 101]⟩, .string ⟨#[97]⟩, .string ⟨#[98]⟩] 9)).drew)
                have HST3 : Hid (StrsAt (fun v => small v = true) (w2.alloc (.cells #[.string ⟨#[110, 97, 109, 101]⟩, .string ⟨#[97]⟩, .string ⟨#[98]⟩] 9)).drew g ⟨w2.heap.size, 0, none⟩ 3) := Lib.hid (new_strs small (by decide) (by decide) (Cur.lt HE1.out.R.C))
                obtain ⟨⟨p0, p1⟩, -⟩ := two_fro HE2.out.X
                go_wp2
                go_region_law (first
                  | (refine step_tst_append rfl _ _ (by rfl) (sb + 1) 0 (.slice none 0 0) [] (by rfl) (rowX_nil _ _) rfl ⟨ta, tb⟩ ⟨w4.heap.size, 0, none⟩ 1 (by rfl) (news_tst w4 ⟨ta, tb⟩ 52) (by omega) HBS.out (0 + 1) rfl ?_; intro g' c' w5 hrow5 hg5; have HS5 := Lib.hid (HE5.out.snoc hg5 (fun j e => by cases e) hrow5); obtain ⟨⟨t0, t1⟩, v0, v1⟩ := two_fro HS5.out.1)
                  | (go_simp; go_at_call 38; refine (str_any (fun v => small v = true) g A n cap ⟨w2.heap.size, 0, none⟩ 3 3 (by omega) (by omega) _ HST3.out HE2.out.R.C).mono ?_; rintro e w3 ⟨ta, hta, rfl, hC, hG⟩; have HTA := Lib.hid (small_sz hta); have HE3 := Lib.hid (HE2.out.step hC hG); clear hta hC hG; obtain ⟨⟨q0, q1⟩, -⟩ := two_fro HE3.out.X)
                  | (go_simp; go_at_call 63; refine (text_any g A n cap _ HE3.out.R.C).mono ?_; rintro e w4 ⟨tb, htb, rfl, hC, hG⟩; have HTB := Lib.hid (small_sz htb); have HE4 := Lib.hid (HE3.out.step hC hG); clear htb hC hG; obtain ⟨⟨o0, o1⟩, -⟩ := two_fro HE4.out.X; have hs4 : sb < w4.heap.size := HE4.out.lt; have hb5 := below_al (Below.refl w4.heap.size w4) (.cells #[.string ta, .string tb] 52); have HE5 := Lib.hid (HE4.out.below hb5); have HBS : Hid (sb + 1 ≤ (w4.alloc (.cells #[.string ta, .string tb] 52)).heap.size) := Lib.hid HE5.out.lt; obtain ⟨⟨n0, n1⟩, -⟩ := two_fro HE5.out.X; clear hb5))
                all_goals
                  have HL1 : Hid (([] ++ [⟨ta, tb⟩] : List Tst).length ≤ 1 ∧ ∀ t ∈ ([] ++ [⟨ta, tb⟩] : List Tst), TstSz t) := Lib.hid ⟨by simp, fun t h => by simp at h; subst h; exact ⟨HTA.out, HTB.out⟩⟩
                  obtain ⟨L, hL⟩ : ∃ L : List Tst, L = [] ++ [⟨ta, tb⟩] := ⟨_, rfl⟩
                  rw [← hL] at HL1 HS5
                  obtain ⟨At, hAt⟩ : ∃ At : Option Addr, At = some ⟨g', 0, none⟩ := ⟨_, rfl⟩
                  obtain ⟨m, hm⟩ : ∃ m : Nat, m = 0 + 1 := ⟨_, rfl⟩
                  obtain ⟨ct, hct⟩ : ∃ ct : Nat, ct = c' := ⟨_, rfl⟩
                  have HE : Hid (E7 w g A n cap pb false 0 (.slice As ms cs) st S sb x (.slice At m ct) L (w5.setCell ⟨sb, 1, none⟩ (.slice (some ⟨g', 0, none⟩) (0 + 1) c'))) := Lib.hid (by rw [hAt, hm, hct]; exact HS5.out.2)
                  have HSZ : Hid (StpSz ⟨x, L⟩) := Lib.hid ⟨HX.out, Nat.le_trans HL1.out.1 (by omega), HL1.out.2⟩
                  have HSM : Hid (st.length ≤ 10 ∧ True) := Lib.hid ⟨by have := HB.out.1; omega, trivial⟩
                  clear hL hAt hm hct HS5 t0 t1 v0 v1 q0 q1 o0 o1 n0 n1 p0 p1 z0 z1 u0 u1
                  have e5 : (w5.setCell ⟨sb, 1, none⟩ (.slice (some ⟨g', 0, none⟩) (0 + 1) c')) = (w5.setCell ⟨sb, 1, none⟩ (.slice (some ⟨g', 0, none⟩) (0 + 1) c')) := rfl
                  generalize HW5 : (w5.setCell ⟨sb, 1, none⟩ (.slice (some ⟨g', 0, none⟩) (0 + 1) c')) = w6 at HE ⊢
                  clear e5 HW5
                  have HSTL : Hid (ms + 1 ≤ 549755813888) := Lib.hid (by rw [HMS.out]; have := HSM.out.1; omega)
                  obtain ⟨⟨z0, z1⟩, u0, u1⟩ := two_fro HE.out.X
                  obtain ⟨⟨x0, x1, x2⟩, g0, g1, g2⟩ := three_f HE.out.R.X
                  have hb8 := below_al (Below.refl w6.heap.size w6) (.cells #[.string x, .slice At m ct] 50)
                  have HE8 := Lib.hid (HE.out.below hb8)
                  have hSlt : ∀ q, S q → q < sb := HE.out.Slt
                  have hNlt : ∀ q, (Value.slice At m ct).ownBlock = some q → sb + 1 ≤ q := fun q h => (RowR.lt HE8.out.ts h).1
                  obtain ⟨R, hR, hRl, hgrow⟩ := OwL.grow HE8.out.R.O
                  have HOS := Lib.hid (OwL.form HE.out.R.O)
                  have HGROW := Lib.hid (fun (w' : World) (v' : Value) => hgrow (w' := w') (v' := v') (r := ⟨x, .slice At m ct⟩) (t := lf ⟨x, L⟩) (Sr := fun q => (Value.slice At m ct).ownBlock = some q) ⟨_, fun _ => False, ⟨⟨rfl, RowR.mono HE8.out.ts (B' := w.heap.size + 1) (by have := HE.out.lo; have := HE.out.R.pl; omega)⟩, fun q => Iff.rfl⟩, owL_nil _ _ _ _, fun q _ h => h, fun q => by simp⟩ (fun q h1 h2 => by have := hSlt q h1; have := hNlt q h2; omega))
                  have HRR := Lib.hid hR
                  have hRl' : ms = R.length := by rw [hRl, List.length_map]; exact HMS.out
                  have HRL := Lib.hid hRl'
                  have hSv : ∀ q, (Value.slice As ms cs).ownBlock = some q → S q := fun q hq => by
                    obtain ⟨R9, K9, _, _, _, _, _, h6⟩ := HE.out.R.O
                    exact (h6 q).2 (.inl hq)
                  have HSV := Lib.hid hSv
                  have HNL9 := Lib.hid hNlt
                  have HBASE : Hid (w.heap.size + 1 ≤ w6.heap.size) := Lib.hid (by have := HE.out.R.lt; have := HE.out.R.pl; omega)
                  have hs12 : sb < w6.heap.size := HE.out.lt
                  have hs02 : pb < w6.heap.size := HE.out.R.lt
                  have HR2w : Hid (RowT7 (w.heap.size + 1) w6 (.slice As ms cs) R) := Lib.hid (rowR_frame hR fun q hq => (Below.heap_alloc w6 (.cells #[.string x, .slice At m ct] 50) _ (by have := hSlt q (hSv q hq); omega)).symm)
                  have HNP := Lib.hid HE.out.R.np
                  have HLO := Lib.hid HE.out.lo
                  clear hb8 hgrow hR hRl hRl' hSlt hNlt hSv
                  go_wp2_with (at_builtin; refine wpList_stR_append rfl _ _ rfl (w.heap.size + 1) ms (.slice As ms cs) R (by rfl) HR2w.out HRL.out ⟨x, .slice At m ct⟩ rfl w6.heap.size (by rfl) rfl HSTL.out HBASE.out (ms + 1) rfl ?_; intro g' c' w8 hrow8 hg8 hp8; have HO8 : Hid (∃ S', OwnS (w.heap.size + 1) w8 (.slice (some ⟨g', 0, none⟩) (ms + 1) c') (st ++ [⟨x, L⟩]) S' ∧ ¬ S' pb) := Lib.hid ⟨_, by have h := HGROW.out w8 (.slice (some ⟨g', 0, none⟩) (ms + 1) c') hrow8 hg8 (hp8.elim (fun e => .inl e) (fun e => .inr ⟨g', rfl, by rw [e]; exact Nat.le_refl _⟩)); rw [lf_snoc] at h; exact h, (snoc_np hp8 HSV.out HNP.out (fun q hq => by have := HNL9.out q hq; have := HLO.out; omega) (by simp; omega))⟩; obtain ⟨S', hO8, hn8⟩ := HO8.out; have HS8 := Lib.hid (HE8.out.R.snoc hg8 HSV.out hO8 hn8); clear hO8 hn8 hp8 hrow8 hg8 x0 x1 x2 g0 g1 g2; obtain ⟨⟨x0, x1, x2⟩, g0, g1, g2⟩ := three_f HS8.out.1)
                  go_wp2
                  go_roundw
                  case rel => exact ⟨i - 1, false, 0, _, _, _, by go_num, Lib.hid HS8.out.2, Lib.hid ⟨by rw [List.length_append]; have := HB.out.1; have := HBI.out; simp; omega, by have := HBI.out.1; omega, by have := HB.out.2.2.1; omega, fun _ => by simp, (small7_snoc (k := st.length) ⟨Nat.le_refl _, HB.out.2.2.2.2⟩ HSZ.out).2⟩⟩
                  case measure =>
                    have h1 := (three_f HS8.out.2.X).1.2.2
                    rw [h1, HMEAS.out]
                    have hbi := HBI.out.2
                    show (i - 1).toNat + emptyN (some (.slice (some ⟨g', 0, none⟩) (ms + 1) c')) < i.toNat + emptyN (some (.slice As ms cs))
                    have e0 : emptyN (some (.slice (some ⟨g', 0, none⟩) (ms + 1) c')) = 0 := rfl
                    rw [e0]
                    rcases hbi with h | ⟨h, h9⟩
                    · omega
                    · have : ms = 0 := by rw [HMS.out]; exact h9
                      subst this
                      have e1 : emptyN (some (.slice As 0 cs)) = 1 := rfl
                      rw [e1]; omega
            · have hmi : ((ms : Int) == 0) = false := by simp; omega
              have hmn : (ms == 0) = false := by simp; omega
              clear x0 x1 x2 g0 g1 g2
              obtain ⟨⟨x0, x1, x2⟩, g0, g1, g2⟩ := three_f HD.out.X
              obtain ⟨⟨y0, y1, y2⟩, k0, k1, k2⟩ := three_f HD.out.Z
              have hs02 : pb < wr.heap.size := HD.out.lt
              skip
              go_wp2
              refine bodyPost_ret (results_c1 rfl _ _ ⟨w.heap.size, 0, none⟩ _ rfl (run_loadPth (pth_full HD.out.Z _ _ _))) rfl ?_
              exact ⟨_, _, _, st, _, rfl, (HD.out.done _ _ _).1, Lib.hid ⟨by have := HB.out.1; omega, HB.out.2.2.2.2⟩, (HD.out.done _ _ _).2.1, (HD.out.done _ _ _).2.2⟩
          · have hu' : (u == 0) = false := by simpa using hu
            clear x0 x1 x2 g0 g1 g2
            obtain ⟨⟨x0, x1, x2⟩, g0, g1, g2⟩ := three_f HD.out.X
            obtain ⟨⟨y0, y1, y2⟩, k0, k1, k2⟩ := three_f HD.out.Z
            have hs02 : pb < wr.heap.size := HD.out.lt
            skip
            go_wp2
            refine bodyPost_ret (results_c1 rfl _ _ ⟨w.heap.size, 0, none⟩ _ rfl (run_loadPth (pth_full HD.out.Z _ _ _))) rfl ?_
            exact ⟨_, _, _, st, _, rfl, (HD.out.done _ _ _).1, Lib.hid ⟨by have := HB.out.1; omega, HB.out.2.2.2.2⟩, (HD.out.done _ _ _).2.1, (HD.out.done _ _ _).2.2⟩
        · clear x0 x1 x2 g0 g1 g2
          obtain ⟨⟨x0, x1, x2⟩, g0, g1, g2⟩ := three_f HD.out.X
          obtain ⟨⟨y0, y1, y2⟩, k0, k1, k2⟩ := three_f HD.out.Z
          have hs02 : pb < wr.heap.size := HD.out.lt
          skip
          go_wp2
          refine bodyPost_ret (results_c1 rfl _ _ ⟨w.heap.size, 0, none⟩ _ rfl (run_loadPth (pth_full HD.out.Z _ _ _))) rfl ?_
          exact ⟨_, _, _, st, _, rfl, (HD.out.done _ _ _).1, Lib.hid ⟨by have := HB.out.1; omega, HB.out.2.2.2.2⟩, (HD.out.done _ _ _).2.1, (HD.out.done _ _ _).2.2⟩
end Go.Proofs.YtdfapkceanicoaaDoor
