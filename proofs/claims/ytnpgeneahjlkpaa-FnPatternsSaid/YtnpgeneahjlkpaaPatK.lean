/- CHAPTER 5: impl's readSeq, readAlt, ParsePattern, IsPattern (the class is asked for as a premise). -/
import Derived.Test.YtnpgeneahjlkpaaPatJ
set_option linter.unusedVariables false
set_option linter.unusedSimpArgs false
namespace Go.Proofs.Ytnpgeneahjlkpaa
open Go.RowKit

/-- one more tree behind a list of the call's own that the append law has made -/
theorem own_append {d B g n g' c' : Nat} {w w' : World} {l : List Pat} {p : Pat} {A : Option Addr} {cc : Nat} {S Sp : Nat → Prop} {R : List PatR}
    (hgrow : ∀ {w' : World} {v' : Value} {r : PatR} {t : Pat} {Sr : Nat → Prop}, OwN patK d B w r t Sr → (∀ b, S b → Sr b → False) → RowP B w' v' (R ++ [r]) → w.grownBy w' (some g) → (v'.ownBlock = some g ∨ ∃ g, v'.ownBlock = some g ∧ w.heap.size ≤ g) →
      OwL patK (d + 1) B w' v' (l ++ [t]) (fun b => v'.ownBlock = some b ∨ (S b ∧ some g ≠ some b) ∨ Sr b))
    (hp : OwN patK d B w ⟨p.x.op, p.x.text, .slice A p.kids.length cc⟩ p Sp) (hdis : ∀ b, S b → Sp b → False)
    (hrow : RowP B w' (.slice (some ⟨g', 0, none⟩) n c') (R ++ [⟨p.x.op, p.x.text, .slice A p.kids.length cc⟩])) {o : Obj} (hg : (w.alloc o).grownBy w' (some g)) (hv : g' = g ∨ w.heap.size < g') :
    ∃ S', OwL patK (d + 1) B w' (.slice (some ⟨g', 0, none⟩) n c') (l ++ [p]) S' := by
  refine ⟨_, hgrow hp hdis hrow ((World.grownBy_alloc w o (some g)).trans hg) ?_⟩
  rcases hv with rfl | h
  · exact .inl rfl
  · exact .inr ⟨g', rfl, by omega⟩
theorem seq_done {A : List UInt8 → Option (Pat × List UInt8)} {m : Nat} {l : List UInt8} (h : repL A l = none) : seqL A m l = ([], l) := by
  cases m with
  | zero => rfl
  | succ m => rw [seqL, h]
theorem seq_step {A : List UInt8 → Option (Pat × List UInt8)} (hs : Sh A) (h0 : A [] = none) {m m' : Nat} {l r : List UInt8} {p : Pat} (hl : l.length ≤ m) (h : repL A l = some (p, r)) (hr : r.length ≤ m') : seqL A m l = (p :: (seqL A m' r).1, (seqL A m' r).2) := by
  have hlt := (repL_sh hs l p r h).2
  match m, hl with
  | 0, hl => omega
  | m + 1, hl =>
    rw [seqL, h]
    show (p :: (seqL A m r).1, (seqL A m r).2) = _
    rw [seqL_more hs h0 m m' r (by omega) hr]
set_option maxRecDepth 100000 in
set_option maxHeartbeats 2000000 in
theorem seq_of {n : Nat} (hA : RepC n) : SeqC n := by
  intro s w hn h30
  have hs9 : s.size ≤ 9223372036854775807 := by omega
  have HA := Lib.hid hA
  have HN := Lib.hid hn
  have H30 := Lib.hid h30
  have hlen : ∀ k, (s.data.toList.drop k).length = s.size - k := fun k => by simp
  have HL := Lib.hid hlen
  obtain ⟨l, hl⟩ : ∃ l, l = s.data.toList := ⟨_, rfl⟩
  have HLL := Lib.hid hl
  rw [← hl]
  have h0 : OwL patK (4 * n + 3) (w.heap.size + 1) ((w.alloc (.cells #[.int .i64 0, .string ⟨#[]⟩, .slice none 0 0] 56)).alloc (.cells #[] 56)) (.slice (some ⟨w.heap.size + 1, 0, none⟩) 0 0) [] (fun b => b = w.heap.size + 1) := by
    have := owL_new patK (4 * n + 3) (w.heap.size + 1) (w.alloc (.cells #[.int .i64 0, .string ⟨#[]⟩, .slice none 0 0] 56)) (by simp)
    simpa [patK] using this
  have HO0 := Lib.hid h0
  have hb0 : Below (w.alloc (.cells #[.int .i64 0, .string ⟨#[]⟩, .slice none 0 0] 56)).heap.size (w.alloc (.cells #[.int .i64 0, .string ⟨#[]⟩, .slice none 0 0] 56)) ((w.alloc (.cells #[.int .i64 0, .string ⟨#[]⟩, .slice none 0 0] 56)).alloc (.cells #[] 56)) := below_al (Below.refl _ _) _
  clear h0 hA hn h30 hlen hl
  go_enter Try.func125, Try.ntmps125
  go_wp2
  go_loopw [4, 5] (fun u i wr => ∃ (k g c : Nat) (lk : List Pat) (S : Nat → Prop), k ≤ s.size ∧ lk.length ≤ k ∧ u = .slice (some ⟨g, 0, none⟩) lk.length c ∧ i = .int .i64 k ∧ Hid (OwL patK (4 * n + 3) (w.heap.size + 1) wr (.slice (some ⟨g, 0, none⟩) lk.length c) lk S) ∧ Hid (seqL (atomF n) s.size l = (lk ++ (seqL (atomF n) (s.size - k) (l.drop k)).1, (seqL (atomF n) (s.size - k) (l.drop k)).2)) ∧ Below (w.alloc (.cells #[.int .i64 0, .string ⟨#[]⟩, .slice none 0 0] 56)).heap.size (w.alloc (.cells #[.int .i64 0, .string ⟨#[]⟩, .slice none 0 0] 56)) wr) (fun _ i _ => s.size - (intOf i).toNat)
  case atStart => exact ⟨0, w.heap.size + 1, 0, [], _, by omega, by simp, rfl, rfl, HO0, Lib.hid (by simp), hb0⟩
  case round =>
    obtain ⟨k, g, c, lk, S, hk, hlk, rfl, rfl, HO, HQ, hbel⟩ := hrel
    clear hb0
    have hC := fun w => HA.out (s.extract k s.size) w (by rw [ext_size]; have := HN.out; omega) (by rw [ext_size]; have := H30.out; omega)
    rw [ext_drop, ext_size, ← HLL.out] at hC
    have hkl : (k : Int) ≤ (s.size : Int) := by omega
    cases hrep : repL (atomF n) (l.drop k) with
    | none =>
      rw [hrep] at hC
      have HC := Lib.hid hC
      have HD : Hid (seqP (atomF n) l = (joinP 2 lk, l.drop k)) := Lib.hid (by
        have hll : l.length = s.size := by rw [HLL.out]; simp
        unfold seqP; rw [hll, HQ.out, seq_done hrep]; simp)
      have HK : Hid ((s.size - (l.drop k).length : Nat) = k) := Lib.hid (by have := HL.out k; rw [← HLL.out] at this; omega)
      clear hC hrep
      rw [HD.out]
      go_wp2_with (first
        | (go_at_call 146; ((refine (HC.out _).mono ?_); rintro e w1 ⟨rfl, hb⟩; have hbel1 := below_step hbel hb; have HO1 := Lib.hid (HO.out.below hb); clear hbel hb))
        | (go_at_call 126; ((refine (iJoin_any (4 * n + 2) (w.heap.size + 1) 2 _ lk S _ (HO1.out.al _)).mono ?_); rintro e w2 ⟨Ak, ck, S', rfl, hn2, hS, hb2⟩; have hbel2 := below_step (below_al hbel1 _) hb2; obtain ⟨⟨b0, b1, b2⟩, ⟨f0, f1, f2⟩, hz⟩ := box3p hbel2)))
      refine bodyPost_ret (v := .tuple #[.agg #[.int .i64 (joinP 2 lk).x.op, .string (joinP 2 lk).x.text, .slice Ak (joinP 2 lk).kids.length ck], .int .i64 (k : Int)]) (by simp [results, Try.results125, go_sem, b0, b1, b2, hz]) rfl ?_
      exact tree_some (by simpa using hn2) hbel2 (Nat.le_refl _) HK.out
    | some x =>
      obtain ⟨p, r⟩ := x
      rw [hrep] at hC
      have hsh := repL_sh (atomF_sh n) (l.drop k) p r hrep
      have hdl : (l.drop k).length = s.size - k := by rw [HLL.out]; exact HL.out k
      have hr := hsh.1.drop
      have hrl := hsh.2
      rw [hdl] at hr hrl
      rw [List.drop_drop] at hr
      obtain ⟨j, hj⟩ : ∃ j, s.size - k - r.length = j := ⟨_, rfl⟩
      rw [hj] at hr
      have hj0 : 0 < j := by omega
      have hkj : k + j ≤ s.size := by omega
      have HC : Hid (∀ w, Calls Try.prog 146 #[.string (s.extract k s.size)] w fun e w' => ∃ (A : Option Addr) (c : Nat) (S : Nat → Prop), e = .returned (.tuple #[.agg #[.int .i64 p.x.op, .string p.x.text, .slice A p.kids.length c], .int .i64 (j : Int)]) ∧ OwN patK (4 * n + 2) w.heap.size w' ⟨p.x.op, p.x.text, .slice A p.kids.length c⟩ p S ∧ Below w.heap.size w w') := Lib.hid (by rw [← hj]; exact hC)
      have HQ2 : Hid (seqL (atomF n) s.size l = ((lk ++ [p]) ++ (seqL (atomF n) (s.size - (k + j)) (l.drop (k + j))).1, (seqL (atomF n) (s.size - (k + j)) (l.drop (k + j))).2)) := Lib.hid (by
        rw [HQ.out, seq_step (atomF_sh n) (atomF_nil n) (Nat.le_of_eq hdl) hrep (m' := s.size - (k + j)) (by omega), hr]
        simp)
      have hq0 : ((j : Int) == 0) = false := by simp only [beq_eq_false_iff_ne, ne_eq]; omega
      obtain ⟨nk, hnk⟩ : ∃ nk, nk = lk.length := ⟨_, rfl⟩
      have HNK := Lib.hid hnk
      rw [← hnk] at hlk HO ⊢
      have hjb : (j : Int) ≤ 30 := by have := H30.out; omega
      have hkb : (k : Int) ≤ 30 := by have := H30.out; omega
      have hnb : nk + 1 ≤ 1048576 := by have := H30.out; omega
      have hwr : w.heap.size + 1 ≤ wr.heap.size := by have := hbel.size; simp at this; omega
      have HST : Hid (∀ (w1 : World) (A1 : Option Addr) (c1 : Nat) (S1 : Nat → Prop), OwN patK (4 * n + 2) wr.heap.size w1 ⟨p.x.op, p.x.text, .slice A1 p.kids.length c1⟩ p S1 → Below wr.heap.size wr w1 → ∃ R : List PatR, RowP (w.heap.size + 1) (w1.alloc (.cells #[.int .i64 p.x.op, .string p.x.text, .slice A1 p.kids.length c1] 56)) (.slice (some ⟨g, 0, none⟩) nk c) R ∧ w.heap.size + 1 ≤ g ∧ w.heap.size + 1 ≤ w1.heap.size ∧
          ∀ g' c' w4, RowP (w.heap.size + 1) w4 (.slice (some ⟨g', 0, none⟩) (nk + 1) c') (R ++ [⟨p.x.op, p.x.text, .slice A1 p.kids.length c1⟩]) → ((w1.alloc (.cells #[.int .i64 p.x.op, .string p.x.text, .slice A1 p.kids.length c1] 56)).alloc (.cells #[.int .i64 p.x.op, .string p.x.text, .slice A1 p.kids.length c1] 56)).grownBy w4 (some g) → (g' = g ∨ (w1.alloc (.cells #[.int .i64 p.x.op, .string p.x.text, .slice A1 p.kids.length c1] 56)).heap.size < g') → ∃ S', OwL patK (4 * n + 3) (w.heap.size + 1) w4 (.slice (some ⟨g', 0, none⟩) (nk + 1) c') (lk ++ [p]) S') := Lib.hid (by
        intro w1 A1 c1 S1 ho hb
        have hO1 := (HO.out.below hb).al (.cells #[.int .i64 p.x.op, .string p.x.text, .slice A1 p.kids.length c1] 56)
        obtain ⟨R, hrow, hRl, hgrow⟩ := hO1.grow
        refine ⟨R, hrow, (hrow.lt (k := g) rfl).1, Nat.le_trans hwr hb.size, fun g' c' w4 h1 h2 h3 => ?_⟩
        exact own_append hgrow ((ho.al _).mono hwr) (fun b hb1 hb2 => absurd (HO.out.lt b hb1).2 (Nat.not_lt.2 (ho.lt b hb2).1)) h1 h2 h3)
      clear hC hsh hdl hr hrl hj hrep HQ hnk
      go_wp2_with (first
        | (go_at_call 146; ((refine (HC.out _).mono ?_); rintro e w1 ⟨A1, c1, S1, rfl, ho, hb⟩; have hbel1 := below_step hbel hb; obtain ⟨R, hrow, hgB, hw1, hF⟩ := HST.out w1 A1 c1 S1 ho hb; have HF := Lib.hid hF; have hbx := below_al hbel1 (.cells #[.int .i64 p.x.op, .string p.x.text, .slice A1 p.kids.length c1] 56); clear hbel hb hF ho))
        | (at_builtin; refine wpList_pat_append rfl _ _ rfl (w.heap.size + 1) g nk c R rfl hrow p.x.op p.x.text A1 p.kids.length c1 (w1.heap.size + 1) rfl (by simp) hnb (by simp; omega) (nk + 1) rfl ?_; intro g' c' w4 hrow4 hg4 hg4'))
      go_roundw
      case rel =>
        obtain ⟨S', hS'⟩ := HF.out g' c' w4 hrow4 hg4 hg4'
        have hl1 : (lk ++ [p]).length = nk + 1 := by rw [List.length_append, ← HNK.out]; rfl
        exact ⟨k + j, g', c', lk ++ [p], S', by omega, by rw [hl1]; omega, by rw [hl1], by go_num, by rw [hl1]; exact Lib.hid hS', HQ2, (below_al hbx _).grown hg4 (below_al hbx _).size (fun _ h => by cases h; simp; omega)⟩
      case measure => simp [intOf]; omega
theorem seq_any {n : Nat} (hA : RepC n) : SeqC n := seq_of hA
/-- what follows a sequence of an alternative -/
def contL (A : List UInt8 → Option (Pat × List UInt8)) (m : Nat) : List UInt8 → List Pat × List UInt8
  | [] => ([], [])
  | c :: r => if c = 124 then altL A m r else ([], c :: r)
theorem alt_unroll {A : List UInt8 → Option (Pat × List UInt8)} (h : Sh A) {m : Nat} {l : List UInt8} (hl : l.length ≤ m) : altL A m l = ((seqP A l).1 :: (contL A m (seqP A l).2).1, (contL A m (seqP A l).2).2) := by
  rw [altL_more h m (m + 1) l hl (by omega), altL]
  cases (seqP A l).2 with
  | nil => rfl
  | cons c r =>
    simp only [contL]
    split <;> rfl
set_option maxRecDepth 100000 in
set_option maxHeartbeats 2000000 in
theorem alt_of {n : Nat} (hA : SeqC n) : AltC n := by
  intro s w hn h30
  have hs9 : s.size ≤ 9223372036854775807 := by omega
  have HA := Lib.hid hA
  have HN := Lib.hid hn
  have H30 := Lib.hid h30
  have hlen : ∀ k, (s.data.toList.drop k).length = s.size - k := fun k => by simp
  have HL := Lib.hid hlen
  obtain ⟨l, hl⟩ : ∃ l, l = s.data.toList := ⟨_, rfl⟩
  have HLL := Lib.hid hl
  have hll : l.length = s.size := by rw [hl]; simp
  have hAs := fun w => hA s w hn h30
  rw [← hl] at hAs ⊢
  have hsuf := seqP_suf (atomF_sh n) l
  have hun := alt_unroll (atomF_sh n) (m := s.size) (l := l) (by omega)
  obtain ⟨⟨p0, r0⟩, hpr⟩ : ∃ x, x = seqP (atomF n) l := ⟨_, rfl⟩
  rw [← hpr] at hAs hsuf hun
  have hr0 := hsuf.drop
  have hrl0 := hsuf.len
  simp only [hll] at hr0 hrl0
  obtain ⟨k0, hk0⟩ : ∃ k, s.size - r0.length = k := ⟨_, rfl⟩
  rw [hk0] at hr0
  have HC0 : Hid (∀ w, Calls Try.prog 125 #[.string s] w fun e w' => ∃ (A : Option Addr) (c : Nat) (S : Nat → Prop), e = .returned (.tuple #[.agg #[.int .i64 p0.x.op, .string p0.x.text, .slice A p0.kids.length c], .int .i64 (k0 : Int)]) ∧ OwN patK (4 * n + 3) w.heap.size w' ⟨p0.x.op, p0.x.text, .slice A p0.kids.length c⟩ p0 S ∧ Below w.heap.size w w') := Lib.hid (by rw [← hk0]; exact hAs)
  have HQ0 : Hid (altL (atomF n) s.size l = ([p0] ++ (contL (atomF n) s.size (l.drop k0)).1, (contL (atomF n) s.size (l.drop k0)).2)) := Lib.hid (by rw [hun, hr0]; rfl)
  have hk0s : k0 ≤ s.size := by omega
  have HLn : Hid (l.length = s.size) := Lib.hid hll
  clear hA hn h30 hlen hl hll hAs hsuf hun hpr hr0 hrl0 hk0
  go_enter Try.func101, Try.ntmps101
  go_wp2_with (go_at_call 125; ((refine (HC0.out _).mono ?_); rintro e w1 ⟨A0, c0, S0, rfl, ho0, hb1⟩))
  have hO0 : OwL patK (4 * n + 4) (w.heap.size + 1) ((w1.alloc (.cells #[.int .i64 p0.x.op, .string p0.x.text, .slice A0 p0.kids.length c0] 56)).alloc (.cells #[.int .i64 p0.x.op, .string p0.x.text, .slice A0 p0.kids.length c0] 56)) (.slice (some ⟨w1.heap.size + 1, 0, none⟩) 1 1) [p0] (fun b => b = w1.heap.size + 1 ∨ S0 b) := by
    have h1 : OwN patK (4 * n + 3) (w.heap.size + 1) w1 ⟨p0.x.op, p0.x.text, .slice A0 p0.kids.length c0⟩ p0 S0 := ho0.mono (by simp)
    have hz := hb1.size
    simp at hz
    have h2 := owL_one (h1.al (.cells #[.int .i64 p0.x.op, .string p0.x.text, .slice A0 p0.kids.length c0] 56)) (by simp; omega) (by decide) (pat_cells _ _ _ _ _)
    simpa [patK, PatR.enc] using h2
  have HO0 := Lib.hid hO0
  have hbl0 := below_al (below_al hb1 (.cells #[.int .i64 p0.x.op, .string p0.x.text, .slice A0 p0.kids.length c0] 56)) (.cells #[.int .i64 p0.x.op, .string p0.x.text, .slice A0 p0.kids.length c0] 56)
  clear hO0 ho0 hb1
  go_loopw [6, 5] (fun u i wr => ∃ (k g c : Nat) (lk : List Pat) (S : Nat → Prop), k ≤ s.size ∧ lk.length ≤ k + 1 ∧ u = .slice (some ⟨g, 0, none⟩) lk.length c ∧ i = .int .i64 k ∧ Hid (OwL patK (4 * n + 4) (w.heap.size + 1) wr (.slice (some ⟨g, 0, none⟩) lk.length c) lk S) ∧ Hid (altL (atomF n) s.size l = (lk ++ (contL (atomF n) s.size (l.drop k)).1, (contL (atomF n) s.size (l.drop k)).2)) ∧ Below (w.alloc (.cells #[.int .i64 0, .string ⟨#[]⟩, .slice none 0 0] 56)).heap.size (w.alloc (.cells #[.int .i64 0, .string ⟨#[]⟩, .slice none 0 0] 56)) wr) (fun _ i _ => s.size - (intOf i).toNat)
  case atStart => exact ⟨k0, w1.heap.size + 1, 1, [p0], _, hk0s, by simp, rfl, rfl, HO0, HQ0, hbl0⟩
  case round =>
    obtain ⟨k, g, c, lk, S, hk, hlk, rfl, rfl, HO, HQ, hbel⟩ := hrel
    clear hbl0
    by_cases hgo : ∃ h : k < s.size, s[k] = 124
    · obtain ⟨hlt, h124⟩ := hgo
      have hq : ((s[k].toNat : Int) == 124) = true := by rw [h124]; rfl
      have hd : l.drop k = 124 :: l.drop (k + 1) := by rw [HLL.out, data_drop s k hlt, h124]
      have hC := fun w => HA.out (s.extract (k + 1) s.size) w (by rw [ext_size]; have := HN.out; omega) (by rw [ext_size]; have := H30.out; omega)
      rw [ext_drop, ext_size, ← HLL.out] at hC
      have hdl : (l.drop (k + 1)).length = s.size - (k + 1) := by rw [HLL.out]; exact HL.out (k + 1)
      have hun := alt_unroll (atomF_sh n) (m := s.size) (l := l.drop (k + 1)) (by omega)
      have hcl : contL (atomF n) s.size (l.drop k) = altL (atomF n) s.size (l.drop (k + 1)) := by rw [hd]; rfl
      have hsuf := seqP_suf (atomF_sh n) (l.drop (k + 1))
      obtain ⟨⟨p, r⟩, hpr⟩ : ∃ x, x = seqP (atomF n) (l.drop (k + 1)) := ⟨_, rfl⟩
      rw [← hpr] at hC hsuf hun
      have hr := hsuf.drop
      have hrl := hsuf.len
      simp only [hdl] at hr hrl
      rw [List.drop_drop] at hr
      obtain ⟨j, hj⟩ : ∃ j, s.size - (k + 1) - r.length = j := ⟨_, rfl⟩
      rw [hj] at hr
      have hkj : k + 1 + j ≤ s.size := by omega
      have HC : Hid (∀ w, Calls Try.prog 125 #[.string (s.extract (k + 1) s.size)] w fun e w' => ∃ (A : Option Addr) (c : Nat) (S : Nat → Prop), e = .returned (.tuple #[.agg #[.int .i64 p.x.op, .string p.x.text, .slice A p.kids.length c], .int .i64 (j : Int)]) ∧ OwN patK (4 * n + 3) w.heap.size w' ⟨p.x.op, p.x.text, .slice A p.kids.length c⟩ p S ∧ Below w.heap.size w w') := Lib.hid (by rw [← hj]; exact hC)
      have HQ2 : Hid (altL (atomF n) s.size l = ((lk ++ [p]) ++ (contL (atomF n) s.size (l.drop (k + 1 + j))).1, (contL (atomF n) s.size (l.drop (k + 1 + j))).2)) := Lib.hid (by
        rw [HQ.out, hcl, hun, hr]; simp)
      obtain ⟨nk, hnk⟩ : ∃ nk, nk = lk.length := ⟨_, rfl⟩
      have HNK := Lib.hid hnk
      rw [← hnk] at hlk HO ⊢
      have hjb : (j : Int) ≤ 30 := by have := H30.out; omega
      have hkb : (k : Int) ≤ 30 := by have := H30.out; omega
      have hnb : nk + 1 ≤ 1048576 := by have := H30.out; omega
      have hlk1 : (k : Int) + 1 ≤ (s.size : Int) := by omega
      have hlt1 : (k : Int) < (s.size : Int) := by omega
      have hwr : w.heap.size + 1 ≤ wr.heap.size := by have := hbel.size; simp at this; omega
      have HST : Hid (∀ (w1 : World) (A1 : Option Addr) (c1 : Nat) (S1 : Nat → Prop), OwN patK (4 * n + 3) wr.heap.size w1 ⟨p.x.op, p.x.text, .slice A1 p.kids.length c1⟩ p S1 → Below wr.heap.size wr w1 → ∃ R : List PatR, RowP (w.heap.size + 1) (w1.alloc (.cells #[.int .i64 p.x.op, .string p.x.text, .slice A1 p.kids.length c1] 56)) (.slice (some ⟨g, 0, none⟩) nk c) R ∧ w.heap.size + 1 ≤ g ∧ w.heap.size + 1 ≤ w1.heap.size ∧
          ∀ g' c' w4, RowP (w.heap.size + 1) w4 (.slice (some ⟨g', 0, none⟩) (nk + 1) c') (R ++ [⟨p.x.op, p.x.text, .slice A1 p.kids.length c1⟩]) → ((w1.alloc (.cells #[.int .i64 p.x.op, .string p.x.text, .slice A1 p.kids.length c1] 56)).alloc (.cells #[.int .i64 p.x.op, .string p.x.text, .slice A1 p.kids.length c1] 56)).grownBy w4 (some g) → (g' = g ∨ (w1.alloc (.cells #[.int .i64 p.x.op, .string p.x.text, .slice A1 p.kids.length c1] 56)).heap.size < g') → ∃ S', OwL patK (4 * n + 4) (w.heap.size + 1) w4 (.slice (some ⟨g', 0, none⟩) (nk + 1) c') (lk ++ [p]) S') := Lib.hid (by
        intro w1 A1 c1 S1 ho hb
        have hO1 := (HO.out.below hb).al (.cells #[.int .i64 p.x.op, .string p.x.text, .slice A1 p.kids.length c1] 56)
        obtain ⟨R, hrow, hRl, hgrow⟩ := hO1.grow
        refine ⟨R, hrow, (hrow.lt (k := g) rfl).1, Nat.le_trans hwr hb.size, fun g' c' w4 h1 h2 h3 => ?_⟩
        exact own_append hgrow ((ho.al _).mono hwr) (fun b hb1 hb2 => absurd (HO.out.lt b hb1).2 (Nat.not_lt.2 (ho.lt b hb2).1)) h1 h2 h3)
      clear hC hdl hun hcl hsuf hpr hr hrl hj HQ hnk hd h124
      go_wp2_with (first
        | (go_at_call 125; ((refine (HC.out _).mono ?_); rintro e w2 ⟨A1, c1, S1, rfl, ho, hb⟩; have hbel1 := below_step hbel hb; obtain ⟨R, hrow, hgB, hw1, hF⟩ := HST.out w2 A1 c1 S1 ho hb; have HF := Lib.hid hF; have hbx := below_al hbel1 (.cells #[.int .i64 p.x.op, .string p.x.text, .slice A1 p.kids.length c1] 56); clear hbel hb hF ho))
        | (at_builtin; refine wpList_pat_append rfl _ _ rfl (w.heap.size + 1) g nk c R rfl hrow p.x.op p.x.text A1 p.kids.length c1 (w2.heap.size + 1) rfl (by simp) hnb (by simp; omega) (nk + 1) rfl ?_; intro g' c' w4 hrow4 hg4 hg4'))
      go_roundw
      case rel =>
        obtain ⟨S', hS'⟩ := HF.out g' c' w4 hrow4 hg4 hg4'
        have hl1 : (lk ++ [p]).length = nk + 1 := by rw [List.length_append, ← HNK.out]; rfl
        exact ⟨k + 1 + j, g', c', lk ++ [p], S', by omega, by rw [hl1]; omega, by rw [hl1], by go_num, by rw [hl1]; exact Lib.hid hS', HQ2, (below_al hbx _).grown hg4 (below_al hbx _).size (fun _ h => by cases h; simp; omega)⟩
      case measure => simp [intOf]; omega
    · have hcont : contL (atomF n) s.size (l.drop k) = ([], l.drop k) := by
        by_cases hlt : k < s.size
        · rw [HLL.out, data_drop s k hlt]
          exact if_neg fun e => hgo ⟨hlt, e⟩
        · rw [HLL.out, List.drop_eq_nil_of_le (by simp; omega)]; rfl
      have HD : Hid (altP (atomF n) l = (joinP 3 lk, l.drop k)) := Lib.hid (by
        unfold altP; rw [HLn.out, HQ.out, hcont]; simp)
      have HK : Hid ((s.size - (l.drop k).length : Nat) = k) := Lib.hid (by have := HL.out k; rw [← HLL.out] at this; omega)
      have HG := Lib.hid hgo
      clear hcont
      by_cases hlt : k < s.size
      · have hq : ((s[k].toNat : Int) == 124) = false := byte_ne (d := 124) (fun e => HG.out ⟨hlt, e⟩)
        have hlt1 : (k : Int) < (s.size : Int) := by omega
        clear hgo
        go_wp2_with (go_at_call 126; ((refine (iJoin_any (4 * n + 3) (w.heap.size + 1) 3 _ lk S _ HO.out).mono ?_); rintro e w2 ⟨Ak, ck, S', rfl, hn2, hS, hb2⟩; have hbel2 := below_step hbel hb2; obtain ⟨⟨b0, b1, b2⟩, ⟨f0, f1, f2⟩, hz⟩ := box3p hbel2))
        refine bodyPost_ret (v := .tuple #[.agg #[.int .i64 (joinP 3 lk).x.op, .string (joinP 3 lk).x.text, .slice Ak (joinP 3 lk).kids.length ck], .int .i64 (k : Int)]) (by simp [results, Try.results101, go_sem, b0, b1, b2, hz]) rfl ?_
        rw [HD.out]
        exact tree_some (by simpa using hn2) hbel2 (Nat.le_refl _) HK.out
      · have hge : ¬ (k : Int) < (s.size : Int) := by omega
        clear hgo
        go_wp2_with (go_at_call 126; ((refine (iJoin_any (4 * n + 3) (w.heap.size + 1) 3 _ lk S _ HO.out).mono ?_); rintro e w2 ⟨Ak, ck, S', rfl, hn2, hS, hb2⟩; have hbel2 := below_step hbel hb2; obtain ⟨⟨b0, b1, b2⟩, ⟨f0, f1, f2⟩, hz⟩ := box3p hbel2))
        refine bodyPost_ret (v := .tuple #[.agg #[.int .i64 (joinP 3 lk).x.op, .string (joinP 3 lk).x.text, .slice Ak (joinP 3 lk).kids.length ck], .int .i64 (k : Int)]) (by simp [results, Try.results101, go_sem, b0, b1, b2, hz]) rfl ?_
        rw [HD.out]
        exact tree_some (by simpa using hn2) hbel2 (Nat.le_refl _) HK.out
set_option maxRecDepth 100000 in
theorem atom_0 : AtomC 0 := by
  intro s w hn h30
  have h0 : s.size = 0 := by omega
  have he : s.data.toList = [] := by rw [str_empty h0]
  have hem : s.toList.isEmpty = true := by rw [ByteArray.toList_eq, he]; rfl
  have hem2 : s.toList = [] := by rw [ByteArray.toList_eq, he]
  rw [he, atomF_nil]
  clear he h0 hn h30
  go_enter Try.func152, Try.ntmps152
  go_wp2
  refine bodyPost_ret (v := .tuple #[.agg #[.int .i64 0, .string ⟨#[]⟩, .slice none 0 0], .int .i64 0]) (by simp [results, Try.results152, go_sem]) rfl ?_
  exact ⟨rfl, below_al (Below.refl _ _) _⟩
theorem atom_any (hK : ClassC) : ∀ n, AtomC n
  | 0 => atom_0
  | n + 1 => atom_of (inner_of (alt_of (seq_of (rep_of (atom_any hK n))))) hK
theorem alt_any (hK : ClassC) (n : Nat) : AltC n := alt_of (seq_of (rep_of (atom_any hK n)))
/-- what ParsePattern hands back -/
def ParseOut (o : Option Pat) (w : World) (e : Ending) (w' : World) : Prop := match o with
  | none => e = .returned (.tuple #[.agg #[.int .i64 0, .string ⟨#[]⟩, .slice none 0 0], .bool false]) ∧ Below w.heap.size w w'
  | some p => ∃ (A : Option Addr) (c : Nat) (S : Nat → Prop), e = .returned (.tuple #[.agg #[.int .i64 p.x.op, .string p.x.text, .slice A p.kids.length c], .bool true]) ∧ OwN patK 124 w.heap.size w' ⟨p.x.op, p.x.text, .slice A p.kids.length c⟩ p S ∧ Below w.heap.size w w'
set_option maxRecDepth 100000 in
set_option maxHeartbeats 1000000 in
theorem iParsePat_any (hK : ClassC) (s : ByteArray) (hs : s.size ≤ maxLen) (w : World) : Calls Try.prog 65 #[.string s] w (ParseOut (patS s.data.toList) w) := by
  unfold maxLen at hs
  have hll : s.data.toList.length = s.size := by simp
  unfold patS
  rw [hll]
  by_cases h30 : 30 < s.size
  · rw [if_pos h30]
    have hq : decide ((30 : Int) < (s.size : Int)) = true := by simp; omega
    have hq' : (30 : Int) < (s.size : Int) := by omega
    clear h30 hll
    go_enter Try.func65, Try.ntmps65
    go_wp2
    refine bodyPost_ret (v := .tuple #[.agg #[.int .i64 0, .string ⟨#[]⟩, .slice none 0 0], .bool false]) (by simp [results, Try.results65, go_sem]) rfl ?_
    exact ⟨rfl, below_al (Below.refl _ _) _⟩
  · rw [if_neg h30]
    have hC := fun w => alt_any hK s.size s w (Nat.le_refl _) (by omega)
    have hsuf := altP_suf (atomF_sh s.size) s.data.toList
    obtain ⟨⟨p, r⟩, hpr⟩ : ∃ x, x = altP (atomF s.size) s.data.toList := ⟨_, rfl⟩
    rw [← hpr] at hC hsuf ⊢
    have hrl := hsuf.len
    simp only [hll] at hrl ⊢
    obtain ⟨k, hk⟩ : ∃ k, s.size - r.length = k := ⟨_, rfl⟩
    have HC : Hid (∀ w, Calls Try.prog 101 #[.string s] w fun e w' => ∃ (A : Option Addr) (c : Nat) (S : Nat → Prop), e = .returned (.tuple #[.agg #[.int .i64 p.x.op, .string p.x.text, .slice A p.kids.length c], .int .i64 (k : Int)]) ∧ OwN patK (4 * s.size + 4) w.heap.size w' ⟨p.x.op, p.x.text, .slice A p.kids.length c⟩ p S ∧ Below w.heap.size w w') := Lib.hid (by rw [← hk]; exact hC)
    have hq : ¬ (30 : Int) < (s.size : Int) := by omega
    have H30 := Lib.hid h30
    by_cases hr : r = []
    · rw [if_pos hr]
      have hks : k = s.size := by rw [hr] at hk; simpa using hk.symm
      have hq2 : ((k : Int) != (s.size : Int)) = false := by simp; omega
      have HKS := Lib.hid hks
      clear hll h30 hC hsuf hpr hrl hk hr hks
      go_enter Try.func65, Try.ntmps65
      go_wp2_with (go_at_call 101; ((refine (HC.out _).mono ?_); rintro e w1 ⟨A, c, S, rfl, ho, hb⟩; obtain ⟨⟨b0, b1, b2⟩, ⟨f0, f1, f2⟩, hz⟩ := box3p hb))
      refine bodyPost_ret (v := .tuple #[.agg #[.int .i64 p.x.op, .string p.x.text, .slice A p.kids.length c], .bool true]) (by simp [results, Try.results65, go_sem, b0, b1, b2, hz]) rfl ?_
      exact ⟨A, c, S, rfl, (((((OwN.set ho (by simp)).set (by simp)).set (by simp)).al _).mono (by simp)).to (by have := H30.out; omega), below_al (set3_below hb) _⟩
    · rw [if_neg hr]
      have hks : k ≠ s.size := by
        have := List.length_pos_iff.2 hr
        omega
      have hq2 : ((k : Int) != (s.size : Int)) = true := by simp; omega
      have HKS := Lib.hid hks
      clear hll h30 hC hsuf hpr hrl hk hr hks
      go_enter Try.func65, Try.ntmps65
      go_wp2_with (go_at_call 101; ((refine (HC.out _).mono ?_); rintro e w1 ⟨A, c, S, rfl, ho, hb⟩; obtain ⟨⟨b0, b1, b2⟩, ⟨f0, f1, f2⟩, hz⟩ := box3p hb))
      refine bodyPost_ret (v := .tuple #[.agg #[.int .i64 0, .string ⟨#[]⟩, .slice none 0 0], .bool false]) (by simp [results, Try.results65, go_sem, b0, b1, b2, hz]) rfl ?_
      exact ⟨rfl, below_al (set3_below hb) _⟩
set_option maxRecDepth 100000 in
theorem iIsPat_any (hK : ClassC) (s : ByteArray) (hs : s.size ≤ maxLen) (w : World) : Calls Try.prog 32 #[.string s] w fun e w' => e = .returned (.bool (patS s.data.toList).isSome) ∧ Below w.heap.size w w' := by
  have HC := Lib.hid (fun w => iParsePat_any hK s hs w)
  unfold maxLen at hs
  cases ho : patS s.data.toList with
  | none =>
    rw [ho] at HC
    clear ho
    go_enter Try.func32, Try.ntmps32
    go_wp2_with (go_at_call 65; ((refine (HC.out _).mono ?_); rintro e w1 ⟨rfl, hb⟩))
    go_ret
    exact ⟨rfl, below_al hb _⟩
  | some p =>
    rw [ho] at HC
    clear ho
    go_enter Try.func32, Try.ntmps32
    go_wp2_with (go_at_call 65; ((refine (HC.out _).mono ?_); rintro e w1 ⟨A, c, S, rfl, _, hb⟩))
    go_ret
    exact ⟨rfl, below_al hb _⟩
end Go.Proofs.Ytnpgeneahjlkpaa
