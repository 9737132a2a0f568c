/- CHAPTER 4, RANGES READ: spec's l4Ranges, ParseRanges. -/
import Derived.Test.YtldjkjdmadoaoaaDoorParU
namespace Go.Proofs.YtldjkjdmadoaoaaDoor
open Go.RowKit NumP

theorem rdR_noInv {l : List Tok} (h : rdR l = none) : rdB l = none ∨ ∃ lo k, rdB l = some (lo, k) ∧ mkB (l.drop k) dotsT = true ∧ rdB (l.drop (k + 1)) = none := by
  cases hb : rdB l with
  | none => exact .inl rfl
  | some p =>
    obtain ⟨lo, k⟩ := p
    cases hm : mkB (l.drop k) dotsT with
    | false => rw [rdR_one hb hm] at h; cases h
    | true =>
      rw [rdR_two hb hm] at h
      cases h2 : rdB (l.drop (k + 1)) with
      | none => exact .inr ⟨lo, k, rfl, hm, h2⟩
      | some q => rw [h2] at h; cases h
theorem rdR_inv {l : List Tok} {x : Rg} {k : Nat} (h : rdR l = some (x, k)) : (∃ lo, rdB l = some (lo, k) ∧ mkB (l.drop k) dotsT = false ∧ x = ⟨lo, lo⟩) ∨ (∃ lo k1 hi j, rdB l = some (lo, k1) ∧ mkB (l.drop k1) dotsT = true ∧ rdB (l.drop (k1 + 1)) = some (hi, j) ∧ x = ⟨lo, hi⟩ ∧ k = k1 + 1 + j) := by
  cases hb : rdB l with
  | none => rw [rdR_none hb] at h; cases h
  | some p =>
    obtain ⟨lo, k1⟩ := p
    cases hm : mkB (l.drop k1) dotsT with
    | false => rw [rdR_one hb hm] at h; cases h; exact .inl ⟨lo, rfl, hm, rfl⟩
    | true =>
      rw [rdR_two hb hm] at h
      cases h2 : rdB (l.drop (k1 + 1)) with
      | none => rw [h2] at h; cases h
      | some q => obtain ⟨hi, j⟩ := q; rw [h2] at h; cases h; exact .inr ⟨lo, k1, hi, j, rfl, hm, h2, rfl, rfl⟩
/-- what l4Ranges leaves -/
def RgsV (W0 : World) (B b : Nat) (A : Option Addr) (n cap : Nat) (T : List Tok) (res : Option (List Rg × Nat)) (e : Ending) (w' : World) : Prop :=
  ∃ (v' : Value) (R : List Rg) (j : Nat) (bad : Bool), e = .returned v' ∧ RowG W0.heap.size w' v' R ∧ Par B b A n cap T j bad w' ∧ W0.grownBy w' (some b) ∧ Hid ((bad = false ∧ res = some (R, j) ∧ Are R) ∨ (bad = true ∧ ∀ Q k, res = some (Q, k) → ¬ Are Q))
/-- within a round of l4Ranges: the parser, the list so far, the range at hand in its variable -/
structure Bod (W0 : World) (B b : Nat) (A : Option Addr) (n cap : Nat) (T : List Tok) (i : Nat) (bad : Bool) (g m c : Nat) (R : List Rg) (bx : Nat) (x : Rg) (w' : World) : Prop where
  P : Par B b A n cap T i bad w'
  G : W0.grownBy w' (some b)
  O : RowG W0.heap.size w' (.slice (some ⟨g, 0, none⟩) m c) R
  X : RowG W0.heap.size w' (.slice (some ⟨bx, 0, none⟩) 1 1) [x]
  ne : g < bx
  bl : b < W0.heap.size
section
variable {W0 w1 w2 : World} {B b n cap i i' g m c bx : Nat} {A : Option Addr} {T : List Tok} {bad bad' : Bool} {R : List Rg} {x : Rg}
theorem Bod.low (h : Bod W0 B b A n cap T i bad g m c R bx x w1) : W0.heap.size ≤ g ∧ W0.heap.size ≤ bx ∧ bx < w1.heap.size := ⟨(h.O.lt rfl).1, (h.X.lt rfl).1, (h.X.lt rfl).2⟩
theorem Bod.start (P : Par B b A n cap T i bad w1) (G : W0.grownBy w1 (some b)) (O : RowG W0.heap.size w1 (.slice (some ⟨g, 0, none⟩) m c) R) (bl : b < W0.heap.size) (v : Int) :
    Bod W0 B b A n cap T i bad g m c R w1.heap.size ⟨v, v⟩ (w1.alloc (.cells #[.int .i64 v, .int .i64 v] 33)) :=
  ⟨P.below (below_al (Below.refl _ _) _), grown_trans G (below_grown (below_al (Below.refl _ _) _)), RowR.alloc O _, rowG_box w1 ⟨v, v⟩ _ G.size, (O.lt rfl).2, bl⟩
theorem Bod.step (h : Bod W0 B b A n cap T i bad g m c R bx x w1) (hP : Par B b A n cap T i' bad' w2) (hG : w1.grownBy w2 (some b)) : Bod W0 B b A n cap T i' bad' g m c R bx x w2 := by
  have hl := h.low
  have hb := h.bl
  exact ⟨hP, grown_trans h.G hG, h.O.apart hG (by omega), h.X.apart hG (by omega), h.ne, hb⟩
theorem grown_far {k : Nat} (h : W0.grownBy w1 (some b)) (hg : w1.grownBy w2 (some k)) (hk : W0.heap.size ≤ k) : W0.grownBy w2 (some b) :=
  ⟨hg.os.trans h.os, hg.tape.trans h.tape, hg.output.trans h.output, Nat.le_trans h.size hg.size, fun j hj hne => (hg.block j (Nat.lt_of_lt_of_le hj h.size) (fun e => by have := Option.some.inj e; omega)).trans (h.block j hj hne)⟩
theorem Bod.put1 (h : Bod W0 B b A n cap T i bad g m c R bx x w1) (v : Int) : Bod W0 B b A n cap T i bad g m c R bx ⟨x.lo, v⟩ (w1.setCell ⟨bx, 1, none⟩ (.int .i64 v)) := by
  have hl := h.low
  have hb := h.bl
  have hn := h.ne
  have hp := RowG.put1 h.X (i := 0) (by simp) v
  exact ⟨h.P.other hp.2 (by omega), grown_far h.G hp.2 hl.2.1, h.O.apart hp.2 (by omega), hp.1, hn, hb⟩
theorem Bod.append {o : Obj} (h : Bod W0 B b A n cap T i bad g m c R bx x w1) (hg : (w1.alloc o).grownBy w2 (some g)) : Par B b A n cap T i bad w2 ∧ W0.grownBy w2 (some b) := by
  have hl := h.low
  have hb := h.bl
  exact ⟨(h.P.below (below_al (Below.refl _ _) o)).other hg (by omega), grown_far (grown_trans h.G (below_grown (below_al (Below.refl _ _) o))) hg hl.1⟩
end
theorem isE1 : (⟨#[46, 46]⟩ : ByteArray).toList.isEmpty = false := by rw [ByteArray.toList_eq]; rfl
theorem isE2 : (⟨#[124]⟩ : ByteArray).toList.isEmpty = false := by rw [ByteArray.toList_eq]; rfl
set_option maxRecDepth 100000 in
set_option maxHeartbeats 8000000 in
theorem sRgs_any (B b n cap : Nat) (A : Option Addr) (T : List Tok) (w : World) (hts : ∀ x ∈ T, x.t.size ≤ 1048576) (hnb : n ≤ 1048576) (h : Par B b A n cap T 0 false w) (res : Option (List Rg × Nat)) (hr : Run T 0 [] res) :
    Calls Tryd.prog 36 #[.pointer (some ⟨b, 0, none⟩)] w fun e w' => RgsV w B b A n cap T res e w' := by
  have HTS := Lib.hid hts
  have HNB := Lib.hid hnb
  have HR := Lib.hid hr
  have HBW : Hid (b < w.heap.size) := Lib.hid h.hi
  have P0 := Lib.hid (h.below (below_al (Below.refl _ _) (.cells #[] 33)))
  have hrow0 : RowG w.heap.size (w.alloc (.cells #[] 33)) (.slice (some ⟨w.heap.size, 0, none⟩) 0 0) [] := rowG_new w _ (Nat.le_refl _)
  have hg0 : w.grownBy (w.alloc (.cells #[] 33)) (some b) := below_grown (below_al (Below.refl _ _) _)
  clear hts hnb hr h
  go_enter Tryd.func36, Tryd.ntmps36
  go_wp2
  go_loopw [3] (fun u wr => ∃ (p m g c : Nat) (R : List Rg), Hid (p ≤ n ∧ m ≤ p) ∧ u = .slice (some ⟨g, 0, none⟩) m c ∧ Hid (Run T p R res) ∧ RowG w.heap.size wr (.slice (some ⟨g, 0, none⟩) m c) R ∧ Hid (Par B b A n cap T p false wr) ∧ Hid (w.grownBy wr (some b))) (fun _ wr => n - (intOf ((wr.cell? ⟨b, 1, none⟩).getD undef)).toNat)
  case atStart => exact ⟨0, 0, w.heap.size, 0, [], Lib.hid ⟨by omega, by omega⟩, rfl, HR, hrow0, P0, Lib.hid hg0⟩
  case round =>
    clear hrow0 hg0 P0 HR
    obtain ⟨p, m, g, c, R, HPM, rfl, HRun, hrow, P, HG⟩ := hrel
    have HROW := Lib.hid hrow
    have HGB : Hid (w.heap.size ≤ g) := Lib.hid (hrow.lt rfl).1
    have HM : Hid (m + 1 ≤ 549755813888) := Lib.hid (by have := HPM.out; have := HNB.out; omega)
    have c2 := P.out.c2
    have HMEAS : Hid (intOf ((wr.cell? ⟨b, 1, none⟩).getD undef) = p) := Lib.hid (by rw [P.out.c1]; rfl)
    clear hrow
    rcases HRun.out.inv with ⟨h1, h2⟩ | ⟨x, k, h1, h2⟩
    · have HRES : Hid (res = none) := Lib.hid h2
      clear h2
      rcases rdR_noInv h1 with hb1 | ⟨lo, k1, hb1, hm1, hb2⟩
      · have HB1 := Lib.hid hb1
        clear h1 hb1
        go_wp2_with (first
          | (go_at_call 54; ((with_reducible refine (sInt_any HTS.out P.out).mono ?_)); rintro e w1 ⟨hV, hG⟩; rw [HB1.out] at hV; obtain ⟨lo, j1, rfl, hP⟩ := hV; have S1 := Lib.hid (Bod.start hP (grown_trans HG.out hG) (HROW.out.apart hG (by have := HGB.out; have := HBW.out; omega)) HBW.out lo); clear hP hG)
          | (go_at_call 55; ((with_reducible refine (sEat_bad ⟨#[46, 46]⟩ S1.out.P).mono ?_)); rintro e w2 ⟨rfl, hP, hG⟩; have S2 := Lib.hid (S1.out.step hP hG); clear hP hG; obtain ⟨e0, e1, f0, f1⟩ := RowG.box S2.out.X)
          | (at_builtin; refine wpList_rng_append rfl _ _ rfl w.heap.size g m c R (by rfl) S2.out.O ⟨lo, lo⟩ _ (by rfl) rfl HM.out S2.out.G.size (m + 1) rfl ?_; intro g' c' w5 hrow5 hg5; have P5 := Lib.hid (S2.out.append hg5).1; have G5 := Lib.hid (S2.out.append hg5).2; have R5 := Lib.hid hrow5; have HG5 : Hid (g' ≠ b) := Lib.hid (by have h9 : w.heap.size ≤ g' := (hrow5.lt rfl).1; have := HBW.out; omega); clear hrow5 hg5)
          | (go_at_call 55; ((with_reducible refine (sEat_bad ⟨#[124]⟩ P5.out).mono ?_)); rintro e w6 ⟨rfl, hP, hG⟩; have P6 := Lib.hid hP; have G6 := Lib.hid (grown_trans G5.out hG); have R6 := Lib.hid (R5.out.apart hG HG5.out); clear hP hG)
          | (go_at_call 56; refine (sAre_any _ (R ++ [⟨lo, lo⟩]) _ R6.out.hasG).mono ?_; generalize areB (R ++ [⟨lo, lo⟩]) = ra; rintro e w7 ⟨rfl, hb⟩; have P7 := Lib.hid (P6.out.below hb); have G7 := Lib.hid (grown_trans G6.out (below_grown hb)); have R7 := Lib.hid (RowR.below R6.out hb); clear hb; have c2' := P7.out.c2; have f2' := P7.out.f2))
        all_goals
          go_ret
          first
            | exact ⟨_, _, _, _, rfl, R7.out, P7.out, G7.out, Lib.hid (.inr ⟨rfl, fun Q k e => by rw [HRES.out] at e; cases e⟩)⟩
            | exact ⟨_, _, _, _, rfl, R7.out.apart (grownBy_set _ b 2 _) (fun e => HG5.out e), P7.out.setBad, grown_trans G7.out (grownBy_set _ _ _ _), Lib.hid (.inr ⟨rfl, fun Q k e => by rw [HRES.out] at e; cases e⟩)⟩
      · have HB1 := Lib.hid hb1
        have HK1 : Hid (mkB (T.drop (p + k1)) ⟨#[46, 46]⟩ = true) := Lib.hid (by rw [List.drop_drop] at hm1; exact hm1)
        have HB2 : Hid (rdB (T.drop (p + k1 + 1)) = none) := Lib.hid (by rw [List.drop_drop] at hb2; exact hb2)
        clear h1 hb1 hm1 hb2
        go_wp2_with (first
          | (go_at_call 54; ((with_reducible refine (sInt_any HTS.out P.out).mono ?_)); rintro e w1 ⟨hV, hG⟩; rw [HB1.out] at hV; obtain ⟨rfl, hP⟩ := hV; have S1 := Lib.hid (Bod.start hP (grown_trans HG.out hG) (HROW.out.apart hG (by have := HGB.out; have := HBW.out; omega)) HBW.out lo); clear hP hG)
          | (go_at_call 55; ((with_reducible refine (sEat_yes ⟨#[46, 46]⟩ isE1 S1.out.P HK1.out).mono ?_)); rintro e w2 ⟨rfl, hP, hG⟩; have S2 := Lib.hid (S1.out.step hP hG); clear hP hG; obtain ⟨e0, e1, f0, f1⟩ := RowG.box S2.out.X)
          | (go_at_call 54; ((with_reducible refine (sInt_any HTS.out S2.out.P).mono ?_)); rintro e w3 ⟨hV, hG⟩; rw [HB2.out] at hV; obtain ⟨hi, j2, rfl, hP⟩ := hV; have S3 := Lib.hid (S2.out.step hP hG); clear hP hG e0 e1 f0 f1; obtain ⟨e0, e1, f0, f1⟩ := RowG.box S3.out.X; have S4 := Lib.hid (S3.out.put1 hi))
          | (at_builtin; refine wpList_rng_append rfl _ _ rfl w.heap.size g m c R (by rfl) S4.out.O ⟨lo, hi⟩ w3.heap.size (by rfl) (by simp) HM.out S4.out.G.size (m + 1) rfl ?_; intro g' c' w5 hrow5 hg5; have P5 := Lib.hid (S4.out.append hg5).1; have G5 := Lib.hid (S4.out.append hg5).2; have R5 := Lib.hid hrow5; have HG5 : Hid (g' ≠ b) := Lib.hid (by have h9 : w.heap.size ≤ g' := (hrow5.lt rfl).1; have := HBW.out; omega); clear hrow5 hg5)
          | (go_at_call 55; ((with_reducible refine (sEat_bad ⟨#[124]⟩ P5.out).mono ?_)); rintro e w6 ⟨rfl, hP, hG⟩; have P6 := Lib.hid hP; have G6 := Lib.hid (grown_trans G5.out hG); have R6 := Lib.hid (R5.out.apart hG HG5.out); clear hP hG)
          | (go_at_call 56; refine (sAre_any _ (R ++ [⟨lo, hi⟩]) _ R6.out.hasG).mono ?_; generalize areB (R ++ [⟨lo, hi⟩]) = ra; rintro e w7 ⟨rfl, hb⟩; have P7 := Lib.hid (P6.out.below hb); have G7 := Lib.hid (grown_trans G6.out (below_grown hb)); have R7 := Lib.hid (RowR.below R6.out hb); clear hb; have c2' := P7.out.c2; have f2' := P7.out.f2))
        all_goals
          go_ret
          first
            | exact ⟨_, _, _, _, rfl, R7.out, P7.out, G7.out, Lib.hid (.inr ⟨rfl, fun Q k e => by rw [HRES.out] at e; cases e⟩)⟩
            | exact ⟨_, _, _, _, rfl, R7.out.apart (grownBy_set _ b 2 _) (fun e => HG5.out e), P7.out.setBad, grown_trans G7.out (grownBy_set _ _ _ _), Lib.hid (.inr ⟨rfl, fun Q k e => by rw [HRES.out] at e; cases e⟩)⟩
    · have hkl := (rdR_len h1).2
      rw [List.length_drop] at hkl
      rcases rdR_inv h1 with ⟨lo, hb1, hm1, rfl⟩ | ⟨lo, k1, hi, j, hb1, hm1, hb2, rfl, rfl⟩
      · have HB1 := Lib.hid hb1
        have HK1 : Hid (mkB (T.drop (p + k)) ⟨#[46, 46]⟩ = false) := Lib.hid (by rw [List.drop_drop] at hm1; exact hm1)
        clear h1 hb1 hm1 hkl
        rcases h2 with ⟨hmk, h2⟩ | ⟨hmk, h2⟩
        · have HK2 : Hid (mkB (T.drop (p + k)) ⟨#[124]⟩ = false) := Lib.hid hmk
          have HRES := Lib.hid h2
          clear hmk h2
          cases ha : areB (R ++ [⟨lo, lo⟩]) with
          | true =>
            have HAr := Lib.hid ha
            have HAre : Hid (Are (R ++ [⟨lo, lo⟩])) := Lib.hid (Classical.byContradiction fun h => by rw [areB_no h] at ha; cases ha)
            clear ha
            go_wp2_with (first
              | (go_at_call 54; ((with_reducible refine (sInt_any HTS.out P.out).mono ?_)); rintro e w1 ⟨hV, hG⟩; rw [HB1.out] at hV; obtain ⟨rfl, hP⟩ := hV; have S1 := Lib.hid (Bod.start hP (grown_trans HG.out hG) (HROW.out.apart hG (by have := HGB.out; have := HBW.out; omega)) HBW.out lo); clear hP hG)
              | (go_at_call 55; ((with_reducible refine (sEat_no ⟨#[46, 46]⟩ isE1 S1.out.P HK1.out).mono ?_)); rintro e w2 ⟨rfl, hP, hG⟩; have S2 := Lib.hid (S1.out.step hP hG); clear hP hG; obtain ⟨e0, e1, f0, f1⟩ := RowG.box S2.out.X)
              | (at_builtin; refine wpList_rng_append rfl _ _ rfl w.heap.size g m c R (by rfl) S2.out.O ⟨lo, lo⟩ _ (by rfl) rfl HM.out S2.out.G.size (m + 1) rfl ?_; intro g' c' w5 hrow5 hg5; have P5 := Lib.hid (S2.out.append hg5).1; have G5 := Lib.hid (S2.out.append hg5).2; have R5 := Lib.hid hrow5; have HG5 : Hid (g' ≠ b) := Lib.hid (by have h9 : w.heap.size ≤ g' := (hrow5.lt rfl).1; have := HBW.out; omega); clear hrow5 hg5)
              | (go_at_call 55; ((with_reducible refine (sEat_no ⟨#[124]⟩ isE2 P5.out HK2.out).mono ?_)); rintro e w6 ⟨rfl, hP, hG⟩; have P6 := Lib.hid hP; have G6 := Lib.hid (grown_trans G5.out hG); have R6 := Lib.hid (R5.out.apart hG HG5.out); clear hP hG)
              | (go_at_call 56; refine (sAre_any _ (R ++ [⟨lo, lo⟩]) _ R6.out.hasG).mono ?_; rw [HAr.out]; rintro e w7 ⟨rfl, hb⟩; have P7 := Lib.hid (P6.out.below hb); have G7 := Lib.hid (grown_trans G6.out (below_grown hb)); have R7 := Lib.hid (RowR.below R6.out hb); clear hb; have c2' := P7.out.c2; have f2' := P7.out.f2))
            go_ret
            exact ⟨_, _, _, _, rfl, R7.out, P7.out, G7.out, Lib.hid (.inl ⟨rfl, HRES.out, HAre.out⟩)⟩
          | false =>
            have HAr := Lib.hid ha
            have HAre : Hid (¬ Are (R ++ [⟨lo, lo⟩])) := Lib.hid (fun h => by rw [areB_yes h] at ha; cases ha)
            clear ha
            go_wp2_with (first
              | (go_at_call 54; ((with_reducible refine (sInt_any HTS.out P.out).mono ?_)); rintro e w1 ⟨hV, hG⟩; rw [HB1.out] at hV; obtain ⟨rfl, hP⟩ := hV; have S1 := Lib.hid (Bod.start hP (grown_trans HG.out hG) (HROW.out.apart hG (by have := HGB.out; have := HBW.out; omega)) HBW.out lo); clear hP hG)
              | (go_at_call 55; ((with_reducible refine (sEat_no ⟨#[46, 46]⟩ isE1 S1.out.P HK1.out).mono ?_)); rintro e w2 ⟨rfl, hP, hG⟩; have S2 := Lib.hid (S1.out.step hP hG); clear hP hG; obtain ⟨e0, e1, f0, f1⟩ := RowG.box S2.out.X)
              | (at_builtin; refine wpList_rng_append rfl _ _ rfl w.heap.size g m c R (by rfl) S2.out.O ⟨lo, lo⟩ _ (by rfl) rfl HM.out S2.out.G.size (m + 1) rfl ?_; intro g' c' w5 hrow5 hg5; have P5 := Lib.hid (S2.out.append hg5).1; have G5 := Lib.hid (S2.out.append hg5).2; have R5 := Lib.hid hrow5; have HG5 : Hid (g' ≠ b) := Lib.hid (by have h9 : w.heap.size ≤ g' := (hrow5.lt rfl).1; have := HBW.out; omega); clear hrow5 hg5)
              | (go_at_call 55; ((with_reducible refine (sEat_no ⟨#[124]⟩ isE2 P5.out HK2.out).mono ?_)); rintro e w6 ⟨rfl, hP, hG⟩; have P6 := Lib.hid hP; have G6 := Lib.hid (grown_trans G5.out hG); have R6 := Lib.hid (R5.out.apart hG HG5.out); clear hP hG)
              | (go_at_call 56; refine (sAre_any _ (R ++ [⟨lo, lo⟩]) _ R6.out.hasG).mono ?_; rw [HAr.out]; rintro e w7 ⟨rfl, hb⟩; have P7 := Lib.hid (P6.out.below hb); have G7 := Lib.hid (grown_trans G6.out (below_grown hb)); have R7 := Lib.hid (RowR.below R6.out hb); clear hb; have c2' := P7.out.c2; have f2' := P7.out.f2))
            go_ret
            exact ⟨_, _, _, _, rfl, R7.out.apart (grownBy_set _ b 2 _) (fun e => HG5.out e), P7.out.setBad, grown_trans G7.out (grownBy_set _ _ _ _), Lib.hid (.inr ⟨rfl, fun Q k e => by rw [HRES.out] at e; cases e; exact HAre.out⟩)⟩
        · have HK2 : Hid (mkB (T.drop (p + k)) ⟨#[124]⟩ = true) := Lib.hid hmk
          have HLT : Hid (p + k + 1 ≤ n) := Lib.hid (by have h3 := mkB_len hmk; have h4 := P.out.size.1; omega)
          have HRUN2 := Lib.hid h2
          clear hmk h2
          go_wp2_with (first
            | (go_at_call 54; ((with_reducible refine (sInt_any HTS.out P.out).mono ?_)); rintro e w1 ⟨hV, hG⟩; rw [HB1.out] at hV; obtain ⟨rfl, hP⟩ := hV; have S1 := Lib.hid (Bod.start hP (grown_trans HG.out hG) (HROW.out.apart hG (by have := HGB.out; have := HBW.out; omega)) HBW.out lo); clear hP hG)
            | (go_at_call 55; ((with_reducible refine (sEat_no ⟨#[46, 46]⟩ isE1 S1.out.P HK1.out).mono ?_)); rintro e w2 ⟨rfl, hP, hG⟩; have S2 := Lib.hid (S1.out.step hP hG); clear hP hG; obtain ⟨e0, e1, f0, f1⟩ := RowG.box S2.out.X)
            | (at_builtin; refine wpList_rng_append rfl _ _ rfl w.heap.size g m c R (by rfl) S2.out.O ⟨lo, lo⟩ _ (by rfl) rfl HM.out S2.out.G.size (m + 1) rfl ?_; intro g' c' w5 hrow5 hg5; have P5 := Lib.hid (S2.out.append hg5).1; have G5 := Lib.hid (S2.out.append hg5).2; have R5 := Lib.hid hrow5; have HG5 : Hid (g' ≠ b) := Lib.hid (by have h9 : w.heap.size ≤ g' := (hrow5.lt rfl).1; have := HBW.out; omega); clear hrow5 hg5)
            | (go_at_call 55; ((with_reducible refine (sEat_yes ⟨#[124]⟩ isE2 P5.out HK2.out).mono ?_)); rintro e w6 ⟨rfl, hP, hG⟩; have P6 := Lib.hid hP; have G6 := Lib.hid (grown_trans G5.out hG); have R6 := Lib.hid (R5.out.apart hG HG5.out); clear hP hG))
          go_roundw
          case rel => exact ⟨p + k + 1, m + 1, g', c', R ++ [⟨lo, lo⟩], Lib.hid ⟨by have := HLT.out; omega, by have := HPM.out; omega⟩, rfl, HRUN2, R6.out, P6, G6⟩
          case measure => rw [HMEAS.out, P6.out.c1]; have := HLT.out; show n - (((p + k + 1 : Nat) : Int)).toNat < n - ((p : Nat) : Int).toNat; omega
      · have HB1 := Lib.hid hb1
        have HK1 : Hid (mkB (T.drop (p + k1)) ⟨#[46, 46]⟩ = true) := Lib.hid (by rw [List.drop_drop] at hm1; exact hm1)
        have HB2 : Hid (rdB (T.drop (p + k1 + 1)) = some (hi, j)) := Lib.hid (by rw [List.drop_drop] at hb2; exact hb2)
        have HADD : Hid (p + (k1 + 1 + j) = p + k1 + 1 + j) := Lib.hid (by omega)
        clear h1 hb1 hm1 hb2 hkl
        rw [HADD.out] at h2
        rcases h2 with ⟨hmk, h2⟩ | ⟨hmk, h2⟩
        · have HK2 : Hid (mkB (T.drop (p + k1 + 1 + j)) ⟨#[124]⟩ = false) := Lib.hid hmk
          have HRES := Lib.hid h2
          clear hmk h2
          cases ha : areB (R ++ [⟨lo, hi⟩]) with
          | true =>
            have HAr := Lib.hid ha
            have HAre : Hid (Are (R ++ [⟨lo, hi⟩])) := Lib.hid (Classical.byContradiction fun h => by rw [areB_no h] at ha; cases ha)
            clear ha
            go_wp2_with (first
              | (go_at_call 54; ((with_reducible refine (sInt_any HTS.out P.out).mono ?_)); rintro e w1 ⟨hV, hG⟩; rw [HB1.out] at hV; obtain ⟨rfl, hP⟩ := hV; have S1 := Lib.hid (Bod.start hP (grown_trans HG.out hG) (HROW.out.apart hG (by have := HGB.out; have := HBW.out; omega)) HBW.out lo); clear hP hG)
              | (go_at_call 55; ((with_reducible refine (sEat_yes ⟨#[46, 46]⟩ isE1 S1.out.P HK1.out).mono ?_)); rintro e w2 ⟨rfl, hP, hG⟩; have S2 := Lib.hid (S1.out.step hP hG); clear hP hG; obtain ⟨e0, e1, f0, f1⟩ := RowG.box S2.out.X)
              | (go_at_call 54; ((with_reducible refine (sInt_any HTS.out S2.out.P).mono ?_)); rintro e w3 ⟨hV, hG⟩; rw [HB2.out] at hV; obtain ⟨rfl, hP⟩ := hV; have S3 := Lib.hid (S2.out.step hP hG); clear hP hG e0 e1 f0 f1; obtain ⟨e0, e1, f0, f1⟩ := RowG.box S3.out.X; have S4 := Lib.hid (S3.out.put1 hi))
              | (at_builtin; refine wpList_rng_append rfl _ _ rfl w.heap.size g m c R (by rfl) S4.out.O ⟨lo, hi⟩ w3.heap.size (by rfl) (by simp) HM.out S4.out.G.size (m + 1) rfl ?_; intro g' c' w5 hrow5 hg5; have P5 := Lib.hid (S4.out.append hg5).1; have G5 := Lib.hid (S4.out.append hg5).2; have R5 := Lib.hid hrow5; have HG5 : Hid (g' ≠ b) := Lib.hid (by have h9 : w.heap.size ≤ g' := (hrow5.lt rfl).1; have := HBW.out; omega); clear hrow5 hg5)
              | (go_at_call 55; ((with_reducible refine (sEat_no ⟨#[124]⟩ isE2 P5.out HK2.out).mono ?_)); rintro e w6 ⟨rfl, hP, hG⟩; have P6 := Lib.hid hP; have G6 := Lib.hid (grown_trans G5.out hG); have R6 := Lib.hid (R5.out.apart hG HG5.out); clear hP hG)
              | (go_at_call 56; refine (sAre_any _ (R ++ [⟨lo, hi⟩]) _ R6.out.hasG).mono ?_; rw [HAr.out]; rintro e w7 ⟨rfl, hb⟩; have P7 := Lib.hid (P6.out.below hb); have G7 := Lib.hid (grown_trans G6.out (below_grown hb)); have R7 := Lib.hid (RowR.below R6.out hb); clear hb; have c2' := P7.out.c2; have f2' := P7.out.f2))
            go_ret
            exact ⟨_, _, _, _, rfl, R7.out, P7.out, G7.out, Lib.hid (.inl ⟨rfl, HRES.out, HAre.out⟩)⟩
          | false =>
            have HAr := Lib.hid ha
            have HAre : Hid (¬ Are (R ++ [⟨lo, hi⟩])) := Lib.hid (fun h => by rw [areB_yes h] at ha; cases ha)
            clear ha
            go_wp2_with (first
              | (go_at_call 54; ((with_reducible refine (sInt_any HTS.out P.out).mono ?_)); rintro e w1 ⟨hV, hG⟩; rw [HB1.out] at hV; obtain ⟨rfl, hP⟩ := hV; have S1 := Lib.hid (Bod.start hP (grown_trans HG.out hG) (HROW.out.apart hG (by have := HGB.out; have := HBW.out; omega)) HBW.out lo); clear hP hG)
              | (go_at_call 55; ((with_reducible refine (sEat_yes ⟨#[46, 46]⟩ isE1 S1.out.P HK1.out).mono ?_)); rintro e w2 ⟨rfl, hP, hG⟩; have S2 := Lib.hid (S1.out.step hP hG); clear hP hG; obtain ⟨e0, e1, f0, f1⟩ := RowG.box S2.out.X)
              | (go_at_call 54; ((with_reducible refine (sInt_any HTS.out S2.out.P).mono ?_)); rintro e w3 ⟨hV, hG⟩; rw [HB2.out] at hV; obtain ⟨rfl, hP⟩ := hV; have S3 := Lib.hid (S2.out.step hP hG); clear hP hG e0 e1 f0 f1; obtain ⟨e0, e1, f0, f1⟩ := RowG.box S3.out.X; have S4 := Lib.hid (S3.out.put1 hi))
              | (at_builtin; refine wpList_rng_append rfl _ _ rfl w.heap.size g m c R (by rfl) S4.out.O ⟨lo, hi⟩ w3.heap.size (by rfl) (by simp) HM.out S4.out.G.size (m + 1) rfl ?_; intro g' c' w5 hrow5 hg5; have P5 := Lib.hid (S4.out.append hg5).1; have G5 := Lib.hid (S4.out.append hg5).2; have R5 := Lib.hid hrow5; have HG5 : Hid (g' ≠ b) := Lib.hid (by have h9 : w.heap.size ≤ g' := (hrow5.lt rfl).1; have := HBW.out; omega); clear hrow5 hg5)
              | (go_at_call 55; ((with_reducible refine (sEat_no ⟨#[124]⟩ isE2 P5.out HK2.out).mono ?_)); rintro e w6 ⟨rfl, hP, hG⟩; have P6 := Lib.hid hP; have G6 := Lib.hid (grown_trans G5.out hG); have R6 := Lib.hid (R5.out.apart hG HG5.out); clear hP hG)
              | (go_at_call 56; refine (sAre_any _ (R ++ [⟨lo, hi⟩]) _ R6.out.hasG).mono ?_; rw [HAr.out]; rintro e w7 ⟨rfl, hb⟩; have P7 := Lib.hid (P6.out.below hb); have G7 := Lib.hid (grown_trans G6.out (below_grown hb)); have R7 := Lib.hid (RowR.below R6.out hb); clear hb; have c2' := P7.out.c2; have f2' := P7.out.f2))
            go_ret
            exact ⟨_, _, _, _, rfl, R7.out.apart (grownBy_set _ b 2 _) (fun e => HG5.out e), P7.out.setBad, grown_trans G7.out (grownBy_set _ _ _ _), Lib.hid (.inr ⟨rfl, fun Q k e => by rw [HRES.out] at e; cases e; exact HAre.out⟩)⟩
        · have HK2 : Hid (mkB (T.drop (p + k1 + 1 + j)) ⟨#[124]⟩ = true) := Lib.hid hmk
          have HLT : Hid (p + k1 + 1 + j + 1 ≤ n) := Lib.hid (by have h3 := mkB_len hmk; have h4 := P.out.size.1; omega)
          have HRUN2 := Lib.hid h2
          clear hmk h2
          go_wp2_with (first
            | (go_at_call 54; ((with_reducible refine (sInt_any HTS.out P.out).mono ?_)); rintro e w1 ⟨hV, hG⟩; rw [HB1.out] at hV; obtain ⟨rfl, hP⟩ := hV; have S1 := Lib.hid (Bod.start hP (grown_trans HG.out hG) (HROW.out.apart hG (by have := HGB.out; have := HBW.out; omega)) HBW.out lo); clear hP hG)
            | (go_at_call 55; ((with_reducible refine (sEat_yes ⟨#[46, 46]⟩ isE1 S1.out.P HK1.out).mono ?_)); rintro e w2 ⟨rfl, hP, hG⟩; have S2 := Lib.hid (S1.out.step hP hG); clear hP hG; obtain ⟨e0, e1, f0, f1⟩ := RowG.box S2.out.X)
            | (go_at_call 54; ((with_reducible refine (sInt_any HTS.out S2.out.P).mono ?_)); rintro e w3 ⟨hV, hG⟩; rw [HB2.out] at hV; obtain ⟨rfl, hP⟩ := hV; have S3 := Lib.hid (S2.out.step hP hG); clear hP hG e0 e1 f0 f1; obtain ⟨e0, e1, f0, f1⟩ := RowG.box S3.out.X; have S4 := Lib.hid (S3.out.put1 hi))
            | (at_builtin; refine wpList_rng_append rfl _ _ rfl w.heap.size g m c R (by rfl) S4.out.O ⟨lo, hi⟩ w3.heap.size (by rfl) (by simp) HM.out S4.out.G.size (m + 1) rfl ?_; intro g' c' w5 hrow5 hg5; have P5 := Lib.hid (S4.out.append hg5).1; have G5 := Lib.hid (S4.out.append hg5).2; have R5 := Lib.hid hrow5; have HG5 : Hid (g' ≠ b) := Lib.hid (by have h9 : w.heap.size ≤ g' := (hrow5.lt rfl).1; have := HBW.out; omega); clear hrow5 hg5)
            | (go_at_call 55; ((with_reducible refine (sEat_yes ⟨#[124]⟩ isE2 P5.out HK2.out).mono ?_)); rintro e w6 ⟨rfl, hP, hG⟩; have P6 := Lib.hid hP; have G6 := Lib.hid (grown_trans G5.out hG); have R6 := Lib.hid (R5.out.apart hG HG5.out); clear hP hG))
          go_roundw
          case rel => exact ⟨p + k1 + 1 + j + 1, m + 1, g', c', R ++ [⟨lo, hi⟩], Lib.hid ⟨by have := HLT.out; omega, by have := HPM.out; omega⟩, rfl, HRUN2, R6.out, P6, G6⟩
          case measure => rw [HMEAS.out, P6.out.c1]; have := HLT.out; show n - (((p + k1 + 1 + j + 1 : Nat) : Int)).toNat < n - ((p : Nat) : Int).toNat; omega
end Go.Proofs.YtldjkjdmadoaoaaDoor
