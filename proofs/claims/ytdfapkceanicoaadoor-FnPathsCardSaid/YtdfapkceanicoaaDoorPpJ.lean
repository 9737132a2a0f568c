/- CHAPTER 7: PATHS READ FROM TOKENS, spec: the parser's calls said for every state; what reading a test, a step, a part leaves (plain); the state while a path is read. -/
import Derived.Test.YtdfapkceanicoaaDoorPpI
import Derived.Test.YtdfapkceanicoaaDoorPpS
set_option linter.unusedVariables false
set_option linter.unusedSimpArgs false
namespace Go.Proofs.YtdfapkceanicoaaDoor
open Go.RowKit NumP
set_option maxRecDepth 100000

/-- a call of the parser that takes what it wants, or says 'bad' -/
def W8 (bad g : Bool) (i i' : Nat) (bad' : Bool) : Prop := (bad = false ∧ g = true ∧ i' = i + 1 ∧ bad' = false) ∨ ((bad = true ∨ g = false) ∧ i' = i ∧ bad' = true)
section
variable {B b n cap i : Nat} {A : Option Addr} {T : List Tok} {bad : Bool} {w : World}
theorem sWt8 (m : ByteArray) (hm : m.toList.isEmpty = false) (h : Par B b A n cap T i bad w) :
    Calls Tryd.prog 56 #[.pointer (some ⟨b, 0, none⟩), .string m] w fun e w' => e = .returned (.tuple #[]) ∧ ∃ i' bad', Hid (W8 bad (mkB (T.drop i) m) i i' bad') ∧ Par B b A n cap T i' bad' w' ∧ w.grownBy w' (some b) := by
  by_cases hk : bad = false ∧ mkB (T.drop i) m = true
  · obtain ⟨rfl, hk⟩ := hk
    refine (sWant_yes m hm h hk).mono ?_
    rintro e w' ⟨h1, h2, h3⟩
    exact ⟨h1, _, _, Lib.hid (.inl ⟨rfl, hk, rfl, rfl⟩), h2, h3⟩
  · have hk' : (!bad && mkB (T.drop i) m) = false := by cases bad <;> cases h9 : mkB (T.drop i) m <;> simp [h9] at hk ⊢
    refine (sWant_no m hm h hk').mono ?_
    rintro e w' ⟨h1, h2, h3⟩
    exact ⟨h1, _, _, Lib.hid (.inr ⟨by cases bad <;> simp at hk' ⊢; exact hk', rfl, rfl⟩), h2, h3⟩
theorem sTk8 (k : Int) (hts : ∀ x ∈ T, x.t.size ≤ 1048576) (h : Par B b A n cap T i bad w) :
    Calls Tryd.prog 55 #[.pointer (some ⟨b, 0, none⟩), .int .i64 k] w fun e w' => ∃ (x : ByteArray) (i' : Nat) (bad' : Bool), e = .returned (.string x) ∧ Hid (W8 bad (kB k (T.drop i)) i i' bad' ∧ (bad' = false → x = textAt (T.drop i)) ∧ x.size ≤ 1048576) ∧ Par B b A n cap T i' bad' w' ∧ w.grownBy w' (some b) := by
  by_cases hk : bad = false ∧ kB k (T.drop i) = true
  · obtain ⟨rfl, hk⟩ := hk
    obtain ⟨x, r, hx, hxk⟩ := kB_inv hk
    refine (sTkY k h hx hxk).mono ?_
    rintro e w' ⟨h1, h2, h3⟩
    have e1 : textAt (T.drop i) = x.t := by rw [hx]; rfl
    exact ⟨x.t, _, _, h1, Lib.hid ⟨.inl ⟨rfl, hk, rfl, rfl⟩, fun _ => e1.symm, by rw [← e1]; exact textAt_sz hts i⟩, h2, h3⟩
  · have hk' : (!bad && kB k (T.drop i)) = false := by cases bad <;> cases h9 : kB k (T.drop i) <;> simp [h9] at hk ⊢
    refine (sTkN k h hk').mono ?_
    rintro e w' ⟨h1, h2, h3⟩
    exact ⟨⟨#[]⟩, _, _, h1, Lib.hid ⟨.inr ⟨by cases bad <;> simp at hk' ⊢; exact hk', rfl, rfl⟩, (fun h => by cases h), Nat.zero_le _⟩, h2, h3⟩
theorem sEat8 (m : ByteArray) (hm : m.toList.isEmpty = false) (h : Par B b A n cap T i bad w) :
    Calls Tryd.prog 53 #[.pointer (some ⟨b, 0, none⟩), .string m] w fun e w' => ∃ (g : Bool) (i' : Nat), e = .returned (.bool g) ∧ Hid (g = (!bad && mkB (T.drop i) m) ∧ i' = if g = true then i + 1 else i) ∧ Par B b A n cap T i' bad w' ∧ w.grownBy w' (some b) := by
  cases bad with
  | true =>
    refine (sEat_bad m h).mono ?_
    rintro e w' ⟨h1, h2, h3⟩
    exact ⟨false, i, h1, Lib.hid ⟨rfl, rfl⟩, h2, h3⟩
  | false =>
    cases hk : mkB (T.drop i) m with
    | false =>
      refine (sEat_no m hm h hk).mono ?_
      rintro e w' ⟨h1, h2, h3⟩
      exact ⟨false, i, h1, Lib.hid ⟨by simp, rfl⟩, h2, h3⟩
    | true =>
      refine (sEat_yes m hm h hk).mono ?_
      rintro e w' ⟨h1, h2, h3⟩
      exact ⟨true, i + 1, h1, Lib.hid ⟨by simp, rfl⟩, h2, h3⟩
end
/- plain -/
theorem W8.le {bad g bad' : Bool} {i i' : Nat} (h : W8 bad g i i' bad') : i ≤ i' ∧ i' ≤ i + 1 := by rcases h with ⟨_, _, h, _⟩ | ⟨_, h, _⟩ <;> omega
theorem test_step {T : List Tok} {i a1 a2 a3 a4 : Nat} {b1 b2 b3 b4 : Bool} {x y : ByteArray} {L : List Tst} {r3 : Option (List Tst × Nat)} (hm : mkB (T.drop i) lbrT = true)
    (h1 : W8 false (kB 1 (T.drop (i + 1))) (i + 1) a1 b1) (hx : b1 = false → x = textAt (T.drop (i + 1))) (h2 : W8 b1 (mkB (T.drop a1) ⟨#[61]⟩) a1 a2 b2) (h3 : W8 b2 (kB 3 (T.drop a2)) a2 a3 b3) (hy : b3 = false → y = textAt (T.drop a2)) (h4 : W8 b3 (mkB (T.drop a3) ⟨#[93]⟩) a3 a4 b4)
    (hr : Tsr T i L r3) : (b4 = false ∧ Tsr T a4 (L ++ [⟨x, y⟩]) r3) ∨ (b4 = true ∧ r3 = none) := by
  have no : testT (T.drop i) = none → b4 = true → (b4 = false ∧ Tsr T a4 (L ++ [⟨x, y⟩]) r3) ∨ (b4 = true ∧ r3 = none) := fun h hb => .inr ⟨hb, by
    rcases hr.inv with ⟨k1, _⟩ | ⟨_, _, k3⟩ | ⟨t, _, k2, _⟩
    · rw [hm] at k1; cases k1
    · exact k3
    · rw [h] at k2; cases k2⟩
  have b_up : ∀ {c d g : Bool} {j j' : Nat}, c = true → W8 c g j j' d → d = true := fun hc h => by
    rcases h with ⟨h, _⟩ | ⟨_, _, h⟩
    · rw [hc] at h; cases h
    · exact h
  rcases h1 with ⟨_, g1, rfl, rfl⟩ | ⟨g1, rfl, rfl⟩
  · rcases h2 with ⟨_, g2, rfl, rfl⟩ | ⟨g2, rfl, rfl⟩
    · rcases h3 with ⟨_, g3, rfl, rfl⟩ | ⟨g3, rfl, rfl⟩
      · rcases h4 with ⟨_, g4, rfl, rfl⟩ | ⟨g4, rfl, rfl⟩
        · refine .inl ⟨rfl, ?_⟩
          have ht : testT (T.drop i) = some ⟨x, y⟩ := by
            have hl := mkB_len g4
            rw [hx rfl, hy rfl]
            refine (if_pos ⟨by rw [List.length_drop]; omega, hm, by rw [List.drop_drop]; exact g1, by rw [List.drop_drop]; exact g2, by rw [List.drop_drop]; exact g3, by rw [List.drop_drop]; exact g4⟩).trans ?_
            rw [List.drop_drop, List.drop_drop]
          rcases hr.inv with ⟨k1, _⟩ | ⟨_, k2, _⟩ | ⟨t, _, k2, k3⟩
          · rw [hm] at k1; cases k1
          · rw [ht] at k2; cases k2
          · rw [ht] at k2; cases k2; exact k3
        · refine no (testT_none fun h => ?_) rfl
          have := h.2.2.2.2.2
          rw [List.drop_drop] at this
          rcases g4 with g4 | g4
          · cases g4
          · rw [show i + 4 = i + 1 + 1 + 1 + 1 by omega, g4] at this; cases this
      · refine no (testT_none fun h => ?_) (b_up rfl h4)
        have := h.2.2.2.2.1
        rw [List.drop_drop] at this
        rcases g3 with g3 | g3
        · cases g3
        · rw [show i + 3 = i + 1 + 1 + 1 by omega, g3] at this; cases this
    · refine no (testT_none fun h => ?_) (b_up (b_up rfl h3) h4)
      have := h.2.2.2.1
      rw [List.drop_drop] at this
      rcases g2 with g2 | g2
      · cases g2
      · rw [show i + 2 = i + 1 + 1 by omega, g2] at this; cases this
  · refine no (testT_none fun h => ?_) (b_up (b_up (b_up rfl h2) h3) h4)
    have := h.2.2.1
    rw [List.drop_drop] at this
    rcases g1 with g1 | g1
    · cases g1
    · rw [g1] at this; cases this
/-- a step's name taken: what the tests behind it are to be -/
theorem nameStep7 {T : List Tok} {i i1 : Nat} {b1 : Bool} {x : ByteArray} (h1 : W8 false (kB 1 (T.drop i)) i i1 b1) (hx : b1 = false → x = textAt (T.drop i)) :
    ∃ r3 : Option (List Tst × Nat), ((b1 = false ∧ Tsr T i1 [] r3) ∨ (b1 = true ∧ r3 = none)) ∧ Spr T i (r3.map fun q => (⟨x, q.1⟩, q.2)) := by
  rcases h1 with ⟨_, g, rfl, rfl⟩ | ⟨g, rfl, rfl⟩
  · obtain ⟨r3, hr⟩ := Tsr.exists T T.length (i + 1) [] (by omega)
    refine ⟨r3, .inl ⟨rfl, hr⟩, ?_⟩
    rw [hx rfl]
    match r3, hr with
    | none, hr => exact .bad g hr
    | some (L, q), hr => exact .yes g hr
  · refine ⟨none, .inr ⟨rfl, rfl⟩, .no ?_⟩
    rcases g with g | g
    · cases g
    · exact g
theorem tests_end {T : List Tok} {i : Nat} {bad g : Bool} {L : List Tst} {r3 : Option (List Tst × Nat)} (h : (bad = false ∧ Tsr T i L r3) ∨ (bad = true ∧ r3 = none)) (hg : g = (!bad && mkB (T.drop i) lbrT)) :
    (g = true → bad = false ∧ mkB (T.drop i) lbrT = true ∧ Tsr T i L r3) ∧ (g = false → (bad = false ∧ r3 = some (L, i)) ∨ (bad = true ∧ r3 = none)) := by
  rcases h with ⟨rfl, h⟩ | ⟨rfl, h⟩
  · refine ⟨fun e => ⟨rfl, by rw [e] at hg; simpa using hg.symm, h⟩, fun e => ?_⟩
    rw [e] at hg
    have hm : mkB (T.drop i) lbrT = false := by simpa using hg.symm
    rcases h.inv with ⟨_, k2⟩ | ⟨k1, _⟩ | ⟨t, k1, _⟩
    · exact .inl ⟨rfl, k2⟩
    · rw [hm] at k1; cases k1
    · rw [hm] at k1; cases k1
  · exact ⟨fun e => by rw [e] at hg; simp at hg, fun _ => .inr ⟨rfl, h⟩⟩
theorem upB_snoc {T : List Tok} {root : Bool} {st : List Stp} {s : Stp} {p : Nat} : upB T root (st ++ [s]) p = false := by
  unfold upB
  cases st <;> simp
theorem part_step {T : List Tok} {root : Bool} {i u i2 i3 : Nat} {st : List Stp} {r2 : Option (Nat × List Stp × Nat)} {r3 : Option (List Tst × Nat)} {x : ByteArray} {L : List Tst} {bad g : Bool} (hp : Ptr T root i u st r2) (hup : upB T root st i = false) (hs : Spr T i (r3.map fun q => (⟨x, q.1⟩, q.2)))
    (hex : (bad = false ∧ r3 = some (L, i2)) ∨ (bad = true ∧ r3 = none)) (hg : g = (!bad && mkB (T.drop i2) slashT) ∧ i3 = if g = true then i2 + 1 else i2) :
    (g = true ∧ bad = false ∧ i3 = i2 + 1 ∧ Ptr T root i3 u (st ++ [⟨x, L⟩]) r2) ∨ (g = false ∧ i3 = i2 ∧ ((bad = false ∧ r2 = some (u, st ++ [⟨x, L⟩], i3)) ∨ (bad = true ∧ r2 = none))) := by
  obtain ⟨hg1, hg2⟩ := hg
  rcases hex with ⟨rfl, rfl⟩ | ⟨rfl, rfl⟩
  · rcases hp.inv with ⟨k, _⟩ | ⟨k, _⟩ | ⟨_, k, _⟩ | ⟨s, j, _, k, k2, k3⟩ | ⟨s, j, _, k, k2, k3⟩
    · rw [hup] at k; cases k
    · rw [hup] at k; cases k
    · cases k.uniq hs
    · cases k.uniq hs
      rw [k2] at hg1
      obtain rfl : g = false := by simpa using hg1
      simp at hg2; subst hg2
      exact .inr ⟨rfl, rfl, .inl ⟨rfl, k3⟩⟩
    · cases k.uniq hs
      rw [k2] at hg1
      obtain rfl : g = true := by simpa using hg1
      simp at hg2; subst hg2
      exact .inl ⟨rfl, rfl, rfl, k3⟩
  · obtain rfl : g = false := by simpa using hg1
    simp at hg2; subst hg2
    refine .inr ⟨rfl, rfl, .inr ⟨rfl, ?_⟩⟩
    rcases hp.inv with ⟨k, _⟩ | ⟨k, _⟩ | ⟨_, _, k⟩ | ⟨s, j, _, k, k2, k3⟩ | ⟨s, j, _, k, k2, k3⟩
    · rw [hup] at k; cases k
    · rw [hup] at k; cases k
    · exact k
    · cases k.uniq hs
    · cases k.uniq hs
/-- the state of l7Path: the parser, the result's box, the path's box, its steps -/
structure R7 (W0 : World) (B b : Nat) (A : Option Addr) (n cap : Nat) (T : List Tok) (i : Nat) (bad root : Bool) (u : Int) (sv : Value) (st : List Stp) (S : Nat → Prop) (w : World) : Prop where
  P : Par B b A n cap T i bad w
  G : W0.grownBy w (some b)
  bl : b < W0.heap.size
  Z : w.heap[W0.heap.size]? = some (.cells #[.bool false, .int .i64 0, .slice none 0 0] 26 (0, 0))
  X : w.heap[W0.heap.size + 1]? = some (.cells #[.bool root, .int .i64 u, sv] 26 (0, 0))
  O : OwnS (W0.heap.size + 2) w sv st S
section
variable {W0 w1 w2 : World} {B b n cap i i' : Nat} {A : Option Addr} {T : List Tok} {bad bad' root : Bool} {u : Int} {sv : Value} {st : List Stp} {S : Nat → Prop}
theorem grown_at {k j : Nat} {o : Obj} (hg : w1.grownBy w2 (some k)) (h : w1.heap[j]? = some o) (hk : k ≠ j) : w2.heap[j]? = some o := (hg.block j (Array.getElem?_eq_some_iff.1 h).1 (fun e => hk (Option.some.inj e).symm)).trans h
theorem R7.step (h : R7 W0 B b A n cap T i bad root u sv st S w1) (hP : Par B b A n cap T i' bad' w2) (hG : w1.grownBy w2 (some b)) : R7 W0 B b A n cap T i' bad' root u sv st S w2 := by
  have hb := h.bl
  exact ⟨hP, grown_trans h.G hG, hb, grown_at hG h.Z (by omega), grown_at hG h.X (by omega), OwL.frame h.O fun j hj => hG.block j (OwL.lt h.O j hj).2 (fun e => by have := Option.some.inj e; have := (OwL.lt h.O j hj).1; omega)⟩
theorem R7.below (h : R7 W0 B b A n cap T i bad root u sv st S w1) (hb : Below w1.heap.size w1 w2) : R7 W0 B b A n cap T i bad root u sv st S w2 := h.step (h.P.below hb) (below_grown hb)
theorem R7.setBad (h : R7 W0 B b A n cap T i bad root u sv st S w1) (z : Bool) : R7 W0 B b A n cap T i z root u sv st S (w1.setCell ⟨b, 2, none⟩ (.bool z)) := h.step (h.P.setBadV z) (grownBy_set _ _ _ _)
theorem R7.lt (h : R7 W0 B b A n cap T i bad root u sv st S w1) : W0.heap.size + 1 < w1.heap.size := (Array.getElem?_eq_some_iff.1 h.X).1
theorem R7.ups (h : R7 W0 B b A n cap T i bad root u sv st S w1) (v : Int) : R7 W0 B b A n cap T i bad root v sv st S (w1.setCell ⟨W0.heap.size + 1, 1, none⟩ (.int .i64 v)) := by
  have hg := grownBy_set w1 (W0.heap.size + 1) 1 (.int .i64 v)
  have hb := h.bl
  exact ⟨h.P.other hg (by omega), grown_far h.G hg (by omega), hb, grown_at hg h.Z (by omega), by rw [heap_setCell_same w1 _ 1 _ _ _ h.X]; rfl, OwL.set h.O (by omega)⟩
theorem R7.putRoot (h : R7 W0 B b A n cap T i bad root u sv st S w1) (v : Bool) : R7 W0 B b A n cap T i bad v u sv st S (w1.setCell ⟨W0.heap.size + 1, 0, none⟩ (.bool v)) := by
  have hg := grownBy_set w1 (W0.heap.size + 1) 0 (.bool v)
  have hb := h.bl
  exact ⟨h.P.other hg (by omega), grown_far h.G hg (by omega), hb, grown_at hg h.Z (by omega), by rw [heap_setCell_same w1 _ 0 _ _ _ h.X]; rfl, OwL.set h.O (by omega)⟩
/-- the steps anew, then stored -/
theorem R7.snoc {k : Option Nat} {sv' : Value} {st' : List Stp} {S' : Nat → Prop} (h : R7 W0 B b A n cap T i bad root u sv st S w1) (hg : w1.grownBy w2 k) (hk : ∀ j, k = some j → W0.heap.size + 2 ≤ j) (hO : OwnS (W0.heap.size + 2) w2 sv' st' S') :
    w2.heap[W0.heap.size + 1]? = some (.cells #[.bool root, .int .i64 u, sv] 26 (0, 0)) ∧ R7 W0 B b A n cap T i bad root u sv' st' S' (w2.setCell ⟨W0.heap.size + 1, 2, none⟩ sv') := by
  have hb := h.bl
  obtain ⟨j, hg', hj⟩ : ∃ j, w1.grownBy w2 (some j) ∧ W0.heap.size + 2 ≤ j := by
    cases k with
    | none => exact ⟨W0.heap.size + 2, ⟨hg.os, hg.tape, hg.output, hg.size, fun q hq _ => hg.block q hq (by simp)⟩, Nat.le_refl _⟩
    | some j => exact ⟨j, hg, hk j rfl⟩
  have X := grown_at hg' h.X (by omega)
  have hg2 := grownBy_set w2 (W0.heap.size + 1) 2 sv'
  exact ⟨X, (h.P.other hg' (by omega)).other hg2 (by omega), grown_far (grown_far h.G hg' (by omega)) hg2 (by omega), hb, grown_at hg2 (grown_at hg' h.Z (by omega)) (by omega), by rw [heap_setCell_same w2 _ 2 _ _ _ X]; rfl, OwL.set hO (by omega)⟩
theorem R7.done (h : R7 W0 B b A n cap T i bad root u sv st S w1) (x y z : Value) :
    (OwnS W0.heap.size (((w1.setCell ⟨W0.heap.size, 0, none⟩ x).setCell ⟨W0.heap.size, 1, none⟩ y).setCell ⟨W0.heap.size, 2, none⟩ z) sv st S ∧ Par B b A n cap T i bad (((w1.setCell ⟨W0.heap.size, 0, none⟩ x).setCell ⟨W0.heap.size, 1, none⟩ y).setCell ⟨W0.heap.size, 2, none⟩ z)) ∧
    W0.grownBy (((w1.setCell ⟨W0.heap.size, 0, none⟩ x).setCell ⟨W0.heap.size, 1, none⟩ y).setCell ⟨W0.heap.size, 2, none⟩ z) (some b) := by
  have hb := h.bl
  exact ⟨⟨OwL.mono (OwL.set (OwL.set (OwL.set h.O (by omega)) (by omega)) (by omega)) (by omega), ((h.P.other (grownBy_set _ _ _ _) hb).other (grownBy_set _ _ _ _) hb).other (grownBy_set _ _ _ _) hb⟩, grown_far (grown_far (grown_far h.G (grownBy_set _ _ _ _) (Nat.le_refl _)) (grownBy_set _ _ _ _) (Nat.le_refl _)) (grownBy_set _ _ _ _) (Nat.le_refl _)⟩
end
theorem r7_start {W0 : World} {B b n cap i : Nat} {A : Option Addr} {T : List Tok} {bad : Bool} (h : Par B b A n cap T i bad W0) :
    R7 W0 B b A n cap T i bad false 0 (.slice none 0 0) [] (fun _ => False) ((W0.alloc (.cells #[.bool false, .int .i64 0, .slice none 0 0] 26)).alloc (.cells #[.bool false, .int .i64 0, .slice none 0 0] 26)) := by
  have hb := below_al (below_al (Below.refl W0.heap.size W0) (.cells #[.bool false, .int .i64 0, .slice none 0 0] 26)) (.cells #[.bool false, .int .i64 0, .slice none 0 0] 26)
  exact ⟨h.below hb, below_grown hb, h.hi, ((below_al (Below.refl _ _) _).block _ (by simp)).trans (heap_alloc_new W0 _), alloc_new_at' _ _ (by simp), owL_nil _ _ _ _⟩
/-- the same while a step is read: its box at sb, its tests -/
structure I7 (W0 : World) (B b : Nat) (A : Option Addr) (n cap : Nat) (T : List Tok) (i : Nat) (bad root : Bool) (u : Int) (sv : Value) (st : List Stp) (S : Nat → Prop) (sb : Nat) (nm : ByteArray) (tv : Value) (L : List Tst) (w : World) : Prop where
  R : R7 W0 B b A n cap T i bad root u sv st S w
  X : w.heap[sb]? = some (.cells #[.string nm, tv] 50 (0, 0))
  ts : RowX (sb + 1) w tv L
  lo : W0.heap.size + 2 ≤ sb
  Slt : ∀ j, S j → j < sb
section
variable {W0 w1 w2 : World} {B b n cap i i' sb : Nat} {A : Option Addr} {T : List Tok} {bad bad' root : Bool} {u : Int} {sv tv : Value} {st : List Stp} {S : Nat → Prop} {nm : ByteArray} {L : List Tst}
theorem I7.step (h : I7 W0 B b A n cap T i bad root u sv st S sb nm tv L w1) (hP : Par B b A n cap T i' bad' w2) (hG : w1.grownBy w2 (some b)) : I7 W0 B b A n cap T i' bad' root u sv st S sb nm tv L w2 := by
  have hb := h.R.bl
  have hl := h.lo
  exact ⟨h.R.step hP hG, grown_at hG h.X (by omega), rowR_frame h.ts fun j hj => hG.block j (RowR.lt h.ts hj).2 (fun e => by have := Option.some.inj e; have := (RowR.lt h.ts hj).1; omega), hl, h.Slt⟩
theorem I7.below (h : I7 W0 B b A n cap T i bad root u sv st S sb nm tv L w1) (hb : Below w1.heap.size w1 w2) : I7 W0 B b A n cap T i bad root u sv st S sb nm tv L w2 := h.step (h.R.P.below hb) (below_grown hb)
theorem I7.lt (h : I7 W0 B b A n cap T i bad root u sv st S sb nm tv L w1) : sb < w1.heap.size := (Array.getElem?_eq_some_iff.1 h.X).1
/-- another box, behind: stored into -/
theorem I7.far {k : Nat} (h : I7 W0 B b A n cap T i bad root u sv st S sb nm tv L w1) (hg : w1.grownBy w2 (some k)) (hk : sb < k) (ht : tv.ownBlock ≠ some k) : I7 W0 B b A n cap T i bad root u sv st S sb nm tv L w2 := by
  have hb := h.R.bl
  have hl := h.lo
  refine ⟨⟨h.R.P.other hg (by omega), grown_far h.R.G hg (by omega), hb, grown_at hg h.R.Z (by omega), grown_at hg h.R.X (by omega), OwL.frame h.R.O fun j hj => hg.block j (OwL.lt h.R.O j hj).2 (fun e => by have := Option.some.inj e; have := h.Slt j hj; omega)⟩, grown_at hg h.X (by omega), rowR_frame h.ts fun j hj => hg.block j (RowR.lt h.ts hj).2 (fun e => ht (hj.trans e)), hl, h.Slt⟩
theorem I7.snoc {k : Option Nat} {tv' : Value} {L' : List Tst} (h : I7 W0 B b A n cap T i bad root u sv st S sb nm tv L w1) (hg : w1.grownBy w2 k) (hk : ∀ j, k = some j → sb + 1 ≤ j) (hN : RowX (sb + 1) w2 tv' L') :
    w2.heap[sb]? = some (.cells #[.string nm, tv] 50 (0, 0)) ∧ I7 W0 B b A n cap T i bad root u sv st S sb nm tv' L' (w2.setCell ⟨sb, 1, none⟩ tv') := by
  have hb := h.R.bl
  have hl := h.lo
  obtain ⟨j, hg', hj⟩ : ∃ j, w1.grownBy w2 (some j) ∧ sb + 1 ≤ j := by
    cases k with
    | none => exact ⟨sb + 1, ⟨hg.os, hg.tape, hg.output, hg.size, fun q hq _ => hg.block q hq (by simp)⟩, Nat.le_refl _⟩
    | some j => exact ⟨j, hg, hk j rfl⟩
  have X := grown_at hg' h.X (by omega)
  have hg2 := grownBy_set w2 sb 1 tv'
  refine ⟨X, ⟨(h.R.P.other hg' (by omega)).other hg2 (by omega), grown_far (grown_far h.R.G hg' (by omega)) hg2 (by omega), hb, grown_at hg2 (grown_at hg' h.R.Z (by omega)) (by omega), grown_at hg2 (grown_at hg' h.R.X (by omega)) (by omega), ?_⟩, by rw [heap_setCell_same w2 _ 1 _ _ _ X]; rfl, rowR_frame hN fun q hq => ?_, hl, h.Slt⟩
  · have h1 : OwnS (W0.heap.size + 2) w2 sv st S := OwL.frame h.R.O fun q hq => hg'.block q (OwL.lt h.R.O q hq).2 (fun e => by have := Option.some.inj e; have := h.Slt q hq; omega)
    exact OwL.frame h1 fun q hq => hg2.block q (OwL.lt h1 q hq).2 (fun e => by have := Option.some.inj e; have := h.Slt q hq; omega)
  · have := RowR.lt hN hq
    exact Below.heap_setCell w2 _ tv' q (by show q ≠ sb; omega)
end
theorem i7_start {W0 w1 : World} {B b n cap i : Nat} {A : Option Addr} {T : List Tok} {bad root : Bool} {u : Int} {sv : Value} {st : List Stp} {S : Nat → Prop} (nm : ByteArray) (h : R7 W0 B b A n cap T i bad root u sv st S w1) :
    I7 W0 B b A n cap T i bad root u sv st S w1.heap.size nm (.slice none 0 0) [] (w1.alloc (.cells #[.string nm, .slice none 0 0] 50)) :=
  ⟨h.below (below_al (Below.refl _ _) _), heap_alloc_new w1 _, rowX_nil _ _, h.lt, fun j hj => (OwL.lt h.O j hj).2⟩
/-- 'own = append(own, x)' of a test at a step of a region that draws its order; own may be nil -/
theorem step_tst_append {w : World} {ops : Array Oper} {o : Oper} {a : Act} {K : Act → World → Prop} {Q : Exit → Act → World → Prop} {E : Prop} (hgd : o.guard = none) (s x : Operand)
    (ho : o.op = .call { callee := .builtin .append, args := #[s, x], argTypes := #[48, 48] })
    (B n : Nat) (v : Value) (L : List Tst) (hs : a.eval s = v) (hrow : RowX B w v L) (hn : n = L.length)
    (y : Tst) (ad : Addr) (c' : Nat) (hx : a.eval x = .slice (some ad) 1 c') (hnews : ∀ j u, (Tst.enc y)[j]? = some u → w.cell? (ad.add j) = some u)
    (hlen : n + 1 ≤ 549755813888) (hbase : B ≤ w.heap.size) (q : Nat) (hq : q = n + 1)
    (h : ∀ g' c'' w', RowX B w' (.slice (some ⟨g', 0, none⟩) q c'') (L ++ [y]) → w.grownBy w' v.ownBlock → K (a.put o.dst (.slice (some ⟨g', 0, none⟩) q c'')) w') :
    if Region.wanted o (yielded ops a.tmps) = true then Oper.wp Tryd.prog o a w K Q else E := by
  have hw : Region.wanted o (yielded ops a.tmps) = true := by simp [Region.wanted, hgd]
  rw [if_pos hw]
  obtain ⟨i0, hi, hz0, hz1, hz2⟩ := info_parts infoTst
  subst hq hn
  obtain ⟨v', w', hr, h2, h3, h4, h5⟩ := run_append_own_at (P := Tryd.prog) w B 48 o.type 52 i0 (.agg #[.string ⟨#[]⟩, .string ⟨#[]⟩]) 2 32 Tryd.underlying48 hi hz0 hz1 hz2 rfl (by decide) v L.length (L.flatMap Tst.enc) hrow ad 1 c' (Tst.enc y) rfl hnews (by simp [Tst.enc, Value.oneCell']) (by unfold maxLen; omega) (by omega) hbase
  unfold Oper.wp execOp
  simp only [ho, resolve, invoke, builtin, Sem.run_bind, Sem.run_pure, Result.andThen_ok, List.map_toArray, List.map_cons, List.map_nil, hs, hx, hr]
  rcases h2.2 with ⟨_, h6⟩ | ⟨g', cap', cur, h6, _⟩
  · omega
  · subst h6
    refine h g' cap' w' ?_ h3
    unfold RowX RowR
    rw [List.length_append, List.flatMap_append, List.flatMap_singleton]
    exact h2
theorem news_tst (w : World) (y : Tst) (t : TypeId) : ∀ j u, (Tst.enc y)[j]? = some u → (w.alloc (.cells #[.string y.n, .string y.v] t)).cell? ((⟨w.heap.size, 0, none⟩ : Addr).add j) = some u := World.news_of_block (heap_alloc_new w _)
end Go.Proofs.YtdfapkceanicoaaDoor
