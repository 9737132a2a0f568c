/- CHAPTER 7: laws.toPath (and what it calls). -/
import Derived.Test.YtdkpleghpnflhaaDig
set_option linter.unusedVariables false
set_option linter.unusedSimpArgs false
namespace Go.Proofs.Ytdkpleghpnflhaa
open Go.RowKit

theorem infoTst : (Try.prog.info? 136).map (fun i => (i.zero, i.size, i.bytes)) = some (some (.agg #[.string ⟨#[]⟩, .string ⟨#[]⟩]), 2, 32) := by kernel_rfl
theorem infoStp : (Try.prog.info? 127).map (fun i => (i.zero, i.size, i.bytes)) = some (some (.agg #[.string ⟨#[]⟩, .slice none 0 0]), 2, 40) := by kernel_rfl
theorem set_fillX {α : Type} {l : List α} {k : Nat} (hk : k < l.length) (m : Nat) (z : α) (hm : m = l.length - k) : (l.take k ++ List.replicate m z).set k l[k] = l.take (k + 1) ++ List.replicate (m - 1) z := by
  subst hm
  obtain ⟨m, hm⟩ : ∃ m, l.length - k = m + 1 := ⟨l.length - k - 1, by omega⟩
  rw [hm, List.replicate_succ, List.set_append_right _ _ (by simp only [List.length_take]; exact Nat.min_le_left _ _), List.length_take, Nat.min_eq_left (by omega), Nat.sub_self, List.set_cons_zero, Nat.add_sub_cancel, List.take_succ_eq_append_getElem hk, List.append_assoc]
  rfl
theorem alloc_new_at' (w : World) (o : Obj) {b : Nat} (h : b = w.heap.size) : (w.alloc o).heap[b]? = some o := by rw [h]; exact heap_alloc_new w o
theorem tstCells {B g n cap : Nat} {w : World} {L : List Tst} (h : RowX B w (.slice (some ⟨g, 0, none⟩) n cap) L) {i : Nat} (hi : i < L.length) :
    (w.cell? ⟨g, i * 2, none⟩ = some (.string L[i].n) ∧ w.cell? ⟨g, i * 2 + 1, none⟩ = some (.string L[i].v)) ∧ w.frozen? ⟨g, i * 2, none⟩ = false ∧ w.frozen? ⟨g, i * 2 + 1, none⟩ = false :=
  ⟨⟨RowR.cell Tst.enc_len h hi (j := 0) rfl, RowR.cell Tst.enc_len h hi (j := 1) rfl⟩, RowR.frozen h _, RowR.frozen h _⟩
theorem RowX.put {B g n cap : Nat} {w : World} {L : List Tst} (h : RowX B w (.slice (some ⟨g, 0, none⟩) n cap) L) {i : Nat} (hi : i < L.length) (x : Tst) :
    RowX B ((w.setCell ⟨g, i * 2, none⟩ (.string x.n)).setCell ⟨g, i * 2 + 1, none⟩ (.string x.v)) (.slice (some ⟨g, 0, none⟩) n cap) (L.set i x) ∧
    w.grownBy ((w.setCell ⟨g, i * 2, none⟩ (.string x.n)).setCell ⟨g, i * 2 + 1, none⟩ (.string x.v)) (some g) := by
  have h0 := RowR.set1 Tst.enc_len h hi 0 (by omega) (.string x.n) ⟨x.n, L[i].v⟩ rfl
  have h1 := RowR.set1 Tst.enc_len h0.1 (i := i) (by simpa using hi) 1 (by omega) (.string x.v) x (by simp [Tst.enc])
  refine ⟨?_, h0.2.trans h1.2⟩
  have := h1.1
  simpa [List.set_set] using this
theorem StR.enc_len (r : StR) : r.enc.length = 2 := rfl
abbrev RowT7 (B : Nat) (w : World) (v : Value) (R : List StR) : Prop := RowR StR.enc 2 127 B w v R
theorem stCells {B g n cap : Nat} {w : World} {L : List StR} (h : RowT7 B w (.slice (some ⟨g, 0, none⟩) n cap) L) {i : Nat} (hi : i < L.length) :
    (w.cell? ⟨g, i * 2, none⟩ = some (.string L[i].n) ∧ w.cell? ⟨g, i * 2 + 1, none⟩ = some L[i].tv) ∧ w.frozen? ⟨g, i * 2, none⟩ = false ∧ w.frozen? ⟨g, i * 2 + 1, none⟩ = false :=
  ⟨⟨RowR.cell StR.enc_len h hi (j := 0) rfl, RowR.cell StR.enc_len h hi (j := 1) rfl⟩, RowR.frozen h _, RowR.frozen h _⟩
theorem RowT7.put {B g n cap : Nat} {w : World} {L : List StR} (h : RowT7 B w (.slice (some ⟨g, 0, none⟩) n cap) L) {i : Nat} (hi : i < L.length) (x : StR) :
    RowT7 B ((w.setCell ⟨g, i * 2, none⟩ (.string x.n)).setCell ⟨g, i * 2 + 1, none⟩ x.tv) (.slice (some ⟨g, 0, none⟩) n cap) (L.set i x) ∧
    w.grownBy ((w.setCell ⟨g, i * 2, none⟩ (.string x.n)).setCell ⟨g, i * 2 + 1, none⟩ x.tv) (some g) := by
  have h0 := RowR.set1 StR.enc_len h hi 0 (by omega) (.string x.n) ⟨x.n, L[i].tv⟩ rfl
  have h1 := RowR.set1 StR.enc_len h0.1 (i := i) (by simpa using hi) 1 (by omega) x.tv x (by simp [StR.enc])
  refine ⟨?_, h0.2.trans h1.2⟩
  have := h1.1
  simpa [List.set_set] using this
/-- the first k of the records R hold the steps l, each with tests of its own -/
structure Part (B : Nat) (w : World) (g : Nat) (R : List StR) (l : List Stp) (k : Nat) : Prop where
  len : R.length = l.length
  at' : ∀ i (h : i < R.length) (h' : i < l.length), i < k → R[i].n = l[i].n ∧ RowX B w R[i].tv l[i].ts ∧ R[i].tv.ownBlock ≠ some g
  apart : ∀ i j (h : i < R.length) (h' : j < R.length), i < k → j < k → i ≠ j → ∀ b, R[i].tv.ownBlock = some b → R[j].tv.ownBlock ≠ some b
theorem Part.below {B g k : Nat} {w w' : World} {R : List StR} {l : List Stp} (h : Part B w g R l k) (hb : Below w.heap.size w w') : Part B w' g R l k :=
  ⟨h.len, fun i h1 h2 h3 => ⟨(h.at' i h1 h2 h3).1, RowR.below (h.at' i h1 h2 h3).2.1 hb, (h.at' i h1 h2 h3).2.2⟩, h.apart⟩
theorem Part.grown {B g k : Nat} {w w' : World} {R : List StR} {l : List Stp} (h : Part B w g R l k) (hb : w.grownBy w' (some g)) : Part B w' g R l k :=
  ⟨h.len, fun i h1 h2 h3 => ⟨(h.at' i h1 h2 h3).1, RowR.other (u := .slice (some ⟨g, 0, none⟩) 0 0) (h.at' i h1 h2 h3).2.1 hb (fun j hj e => (h.at' i h1 h2 h3).2.2 (hj.trans e.symm)), (h.at' i h1 h2 h3).2.2⟩, h.apart⟩
theorem Part.next {B g k : Nat} {w : World} {R : List StR} {l : List Stp} (h : Part B w g R l k) (hk : k < l.length) {r : StR} (hn : r.n = l[k].n) (hr : RowX B w r.tv l[k].ts) (hg : r.tv.ownBlock ≠ some g)
    (hd : ∀ i (hi : i < R.length), i < k → ∀ b, R[i].tv.ownBlock = some b → r.tv.ownBlock ≠ some b) : Part B w g (R.set k r) l (k + 1) := by
  have hkR : k < R.length := by rw [h.len]; exact hk
  refine ⟨by rw [List.length_set]; exact h.len, fun i h1 h2 h3 => ?_, fun i j h1 h2 h3 h4 hne b hb => ?_⟩
  · by_cases e : i = k
    · subst e; rw [List.getElem_set_self]; exact ⟨hn, hr, hg⟩
    · rw [List.getElem_set_ne (by omega)]
      exact h.at' i (by simpa using h1) h2 (by omega)
  · have h1' : i < R.length := by simpa using h1
    have h2' : j < R.length := by simpa using h2
    by_cases ei : i = k
    · subst ei
      rw [List.getElem_set_self] at hb
      rw [List.getElem_set_ne (by omega)]
      intro e
      exact hd j h2' (by omega) b e hb
    · rw [List.getElem_set_ne (by omega)] at hb
      by_cases ej : j = k
      · subst ej
        rw [List.getElem_set_self]
        exact hd i h1' (by omega) b hb
      · rw [List.getElem_set_ne (by omega)]
        exact h.apart i j h1' h2' (by omega) (by omega) hne b hb
/-- all of them: the steps are owned -/
theorem Part.own {B g cap : Nat} {w : World} {R : List StR} {l : List Stp} {n : Nat} (h : Part B w g R l l.length) (hr : RowT7 B w (.slice (some ⟨g, 0, none⟩) n cap) R) : ∃ S, OwnS B w (.slice (some ⟨g, 0, none⟩) n cap) l S := by
  refine ⟨fun b => (some g = some b) ∨ ∃ i, i < R.length ∧ ∃ h : i < R.length, R[i].tv.ownBlock = some b, ?_⟩
  refine ⟨R, fun i b => ∃ h : i < R.length, R[i].tv.ownBlock = some b, hr, by rw [List.length_map]; exact h.len, fun i h1 h2 => ?_, fun i j b h1 h2 h3 h4 => ?_, fun i b h1 h2 => ?_, fun b => Iff.rfl⟩
  · rw [List.length_map] at h2
    have := h.at' i h1 h2 h2
    refine ⟨fun b => R[i].tv.ownBlock = some b, fun _ => False, ⟨⟨?_, ?_⟩, fun b => Iff.rfl⟩, ?_, fun b _ hb => hb, fun b => ?_⟩
    · rw [List.getElem_map]; exact this.1
    · rw [List.getElem_map]; exact this.2.1
    · rw [List.getElem_map]; exact ⟨rfl, ⟨by simp, .inl ⟨rfl, rfl⟩⟩, fun b => by simp [stK, Value.ownBlock]⟩
    · exact ⟨fun ⟨_, hh⟩ => .inl hh, fun hh => ⟨h1, hh.elim id False.elim⟩⟩
  · obtain ⟨_, h3⟩ := h3
    obtain ⟨_, h4⟩ := h4
    by_cases e : i = j
    · exact e
    · exact absurd h4 (h.apart i j h1 h2 (by rw [← h.len]; exact h1) (by rw [← h.len]; exact h2) e b h3)
  · obtain ⟨_, h2⟩ := h2
    intro e
    have := (h.at' i h1 (by rw [← h.len]; exact h1) (by rw [← h.len]; exact h1)).2.2
    exact this (h2.trans e.symm)
set_option maxRecDepth 100000 in
theorem toTst_any (a b : ByteArray) (w : World) :
    Calls Try.prog 74 #[.agg #[.string a, .string b]] w fun e w' => e = .returned (.agg #[.string a, .string b]) ∧ Below w.heap.size w w' := by
  go_enter Try.func74, Try.ntmps74
  go_wp2
  exact bodyPost_ret (v := .agg #[.string a, .string b]) (by simp [results, Try.results74, go_sem]) rfl ⟨rfl, below_al (below_al (below_al (Below.refl _ _) _) _) _⟩
set_option maxRecDepth 100000 in
set_option maxHeartbeats 1000000 in
theorem toTsts_any (v : Value) (l : List Tst) (w : World) (hv : HasX w v l) (hn : l.length ≤ 1048576) :
    Calls Try.prog 71 #[v] w fun e w' => ∃ v', e = .returned v' ∧ RowX w.heap.size w' v' l ∧ Below w.heap.size w w' := by
  obtain ⟨i0, hi, hz0, hz1, hz2⟩ := info_parts infoTst
  have hv' := hv
  obtain ⟨A, cap, rfl, hn', hc⟩ := hv
  obtain ⟨n, hnn⟩ : ∃ n, n = l.length := ⟨_, rfl⟩
  have HN : Hid (n = l.length) := Lib.hid hnn
  rw [← hnn] at hn hn' hv' ⊢
  clear hnn
  go_enter Try.func71, Try.ntmps71
  have hb2 : i0.bytes * n ≤ 281474976710656 := by rw [hz2]; omega
  have hb3 : n ≤ maxLen := by unfold maxLen; omega
  have HZ : Hid (i0.bytes = 32) := Lib.hid hz2
  clear hz2
  go_wp2_with (at_make; refine wpList_make_full _ rfl _ _ 125 rfl w.heap.size 136 i0 (.agg #[.string ⟨#[]⟩, .string ⟨#[]⟩]) 2 Try.underlying125 hi hz0 hz1 _ _ _ _ n rfl rfl rfl rfl hb2 hb3 (Nat.le_refl _) ?_; intro w1 hown1 hg1)
  have hrow0 : RowX w.heap.size w1 (.slice (some ⟨w.heap.size, 0, none⟩) n n) (l.take 0 ++ List.replicate n ⟨⟨#[]⟩, ⟨#[]⟩⟩) := by
    have := hown1
    rw [show (madeCells (Value.agg #[.string ⟨#[]⟩, .string ⟨#[]⟩]).cells (n * 2)).toList = (List.replicate n (⟨⟨#[]⟩, ⟨#[]⟩⟩ : Tst)).flatMap Tst.enc from made_flat Tst.enc_len (by omega) _ ⟨⟨#[]⟩, ⟨#[]⟩⟩ rfl n] at this
    unfold RowX RowR
    simpa using this
  have hbel1 : Below w.heap.size w w1 := (Below.refl _ _).grown hg1 (Nat.le_refl _) (by simp)
  clear hown1 hg1
  go_loopw [4] (fun i wr => ∃ k : Nat, k ≤ n ∧ i = .int .i64 k ∧ RowX w.heap.size wr (.slice (some ⟨w.heap.size, 0, none⟩) n n) (l.take k ++ List.replicate (n - k) ⟨⟨#[]⟩, ⟨#[]⟩⟩) ∧ Below w.heap.size w wr) (fun i _ => n - (intOf i).toNat)
  case atStart => exact ⟨0, Nat.zero_le _, rfl, hrow0, hbel1⟩
  case round =>
    obtain ⟨k, hk, rfl, hrow, hbel⟩ := hrel
    by_cases hlt : k < n
    · obtain ⟨a, rfl, hab, hcell⟩ := HasX.xk hc k (by rw [← HN.out]; exact hlt)
      obtain ⟨x, hx⟩ : ∃ x, x = l[k]'(by rw [← HN.out]; exact hlt) := ⟨_, rfl⟩
      rw [← hx] at hcell
      have HX := Lib.hid hx
      obtain ⟨c0, c1⟩ := hcell.below hbel hab
      clear hcell hx
      have hL : k < (l.take k ++ List.replicate (n - k) (⟨⟨#[]⟩, ⟨#[]⟩⟩ : Tst)).length := by have := HN.out; simp; omega
      go_wp2_with (go_at_call 74; refine (toTst_any _ _ _).mono ?_; rintro e w2 ⟨rfl, hb2⟩; have hrow2 := RowR.below hrow hb2; have hbel2 := below_step hbel hb2; obtain ⟨⟨e0, e1⟩, f0, f1⟩ := tstCells hrow2 hL; have HP := Lib.hid (RowX.put hrow2 hL x); clear hrow hbel hb2 hrow2)
      go_roundw
      case rel =>
        refine ⟨k + 1, by omega, by go_num, ?_, hbel2.grown HP.out.2 hbel2.size (fun _ h => by cases h; exact Nat.le_refl _)⟩
        have h := HP.out.1
        rw [HX.out, set_fillX (by rw [← HN.out]; exact hlt) _ _ (by have := HN.out; omega), ← HX.out] at h
        rw [show n - (k + 1) = n - k - 1 by omega]; exact h
      case measure => simp [intOf]; omega
    · go_wp2
      go_ret
      refine ⟨_, rfl, ?_, hbel⟩
      rw [List.take_of_length_le (by have := HN.out; omega), show n - k = 0 by omega, List.replicate_zero, List.append_nil] at hrow
      exact hrow
set_option maxRecDepth 100000 in
set_option maxHeartbeats 1000000 in
theorem toStp_any (r : StR) (s : Stp) (w : World) (hn : r.n = s.n) (ht : HasX w r.tv s.ts) (hl : s.ts.length ≤ 1048576) :
    Calls Try.prog 68 #[.agg #[.string r.n, r.tv]] w fun e w' => ∃ r' : StR, e = .returned (.agg #[.string r'.n, r'.tv]) ∧ r'.n = s.n ∧ RowX w.heap.size w' r'.tv s.ts ∧ Below w.heap.size w w' := by
  obtain ⟨n, ts⟩ := s
  obtain ⟨n', tv⟩ := r
  dsimp only at hn ht hl ⊢
  subst hn
  have HR := Lib.hid (fun W (hb : Below w.heap.size w W) => toTsts_any tv ts W (HasR.below ht hb) hl)
  have HB0 := Lib.hid (Below.refl w.heap.size w)
  clear ht hl
  go_enter Try.func68, Try.ntmps68
  go_wp2_with fail
  refine (HR.out _ (below_al (below_al (below_al HB0.out _) _) _)).mono ?_
  rintro e w1 ⟨tv', rfl, hown, hb1⟩
  obtain ⟨D1, m1, c1, rfl⟩ : ∃ A n c, tv' = .slice A n c := by obtain ⟨A, c, hv, _⟩ := RowR.hasX hown; exact ⟨A, _, c, hv⟩
  have HB1 := Lib.hid (below_step (below_al (below_al (below_al HB0.out _) _) _) hb1)
  have X1 : w1.heap[w.heap.size + 1 + 1]? = some (.cells #[.string n', .slice none 0 0] 127 (0, 0)) := (hb1.block _ (by simp)).trans (alloc_new_at' _ _ (by simp))
  have R1 : w1.heap[w.heap.size + 1]? = some (.cells #[.string ⟨#[]⟩, .slice none 0 0] 127 (0, 0)) := (hb1.block _ (by simp)).trans (by rw [Below.heap_alloc _ _ _ (by simp)]; exact alloc_new_at' _ _ (by simp))
  have HO := Lib.hid (RowR.mono hown (B' := w.heap.size + 3) (by simp))
  have hz1 : w.heap.size + 3 ≤ w1.heap.size := by have := hb1.size; simpa using this
  have x0 : w1.cell? ⟨w.heap.size + 1 + 1, 0, none⟩ = some (.string n') := by rw [cell_of_row _ _ 0 _ _ _ X1]; rfl
  have x1 : w1.cell? ⟨w.heap.size + 1 + 1, 1, none⟩ = some (.slice none 0 0) := by rw [cell_of_row _ _ 1 _ _ _ X1]; rfl
  have f0 := frozen_of_row _ _ 0 _ _ X1
  have f1 := frozen_of_row _ _ 1 _ _ X1
  have r0 : w1.cell? ⟨w.heap.size + 1, 0, none⟩ = some (.string ⟨#[]⟩) := by rw [cell_of_row _ _ 0 _ _ _ R1]; rfl
  have r1 : w1.cell? ⟨w.heap.size + 1, 1, none⟩ = some (.slice none 0 0) := by rw [cell_of_row _ _ 1 _ _ _ R1]; rfl
  have g0 := frozen_of_row _ _ 0 _ _ R1
  have g1 := frozen_of_row _ _ 1 _ _ R1
  clear hown hb1 X1 R1
  go_wp2
  refine bodyPost_ret (v := .agg #[.string n', .slice D1 m1 c1]) (by simp [results, Try.results68, go_sem, x0, x1, f0, f1, r0, r1, g0, g1]) rfl ?_
  refine ⟨⟨n', .slice D1 m1 c1⟩, rfl, rfl, ?_, ?_⟩
  · have h1 : ∀ (W : World) b j u, b < w.heap.size + 3 → RowX (w.heap.size + 3) W (.slice D1 m1 c1) ts → RowX (w.heap.size + 3) (W.setCell ⟨b, j, none⟩ u) (.slice D1 m1 c1) ts := fun W b j u hb h => ownsRow_setCell_other h (a := ⟨b, j, none⟩) (fun e => by have := (RowR.lt h e).1; simp at this; omega) _
    exact RowR.mono (h1 _ _ _ _ (by omega) (h1 _ _ _ _ (by omega) (h1 _ _ _ _ (by omega) HO.out))) (by omega)
  · exact below_set (below_set (below_set HB1.out (by omega)) (by omega)) (by omega)
end Go.Proofs.Ytdkpleghpnflhaa
