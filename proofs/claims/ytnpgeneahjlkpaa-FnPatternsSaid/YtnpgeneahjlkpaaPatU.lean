/- CHAPTER 5, spec: l5Alt (the sequence is asked for as a premise). -/
import Derived.Test.YtnpgeneahjlkpaaPatT
import Derived.Test.YtnpgeneahjlkpaaPatK
import Derived.Deep.LoopGhost
set_option linter.unusedVariables false
set_option linter.unusedSimpArgs false
namespace Go.Proofs.Ytnpgeneahjlkpaa
open Go.RowKit

theorem PS.grown {w w' : World} {b g : Nat} {s : ByteArray} {i : Nat} {bad : Bool} (h : PS w b s i bad) (hg : w.grownBy w' (some g)) (hne : g ≠ b) : PS w' b s i bad :=
  (hg.block b h.lt (fun e => hne (Option.some.inj e).symm)).trans h
theorem turns_grown {S : Nat → Prop} {W w w' : World} {g : Nat} (h : TurnsAt S W w) (hg : w.grownBy w' (some g)) (hn : W.heap.size ≤ g) : TurnsAt S W w' :=
  ⟨hg.os.trans h.os, hg.tape.trans h.tape, hg.output.trans h.output, Nat.le_trans h.size hg.size, fun q hq hs => (hg.block q (Nat.lt_of_lt_of_le hq h.size) (fun e => by have := Option.some.inj e; omega)).trans (h.block q hq hs)⟩
theorem grown_al {w : World} (o : Obj) (g : Nat) : w.grownBy (w.alloc o) (some g) := World.grownBy_alloc w o _
/-- every record's kids are a slice -/
def Slc (R : List PatR) : Prop := ∀ r ∈ R, ∃ A m c, r.kv = .slice A m c
theorem slc_snoc {R : List PatR} (h : Slc R) (op : Int) (t : ByteArray) (A : Option Addr) (m c : Nat) : Slc (R ++ [⟨op, t, .slice A m c⟩]) := fun r hr => by
  rcases List.mem_append.1 hr with hr | hr
  · exact h r hr
  · rw [List.mem_singleton.1 hr]; exact ⟨A, m, c, rfl⟩
theorem slc_own {d B : Nat} {w : World} {R : List PatR} {l : List Pat} {K : Nat → Nat → Prop} (hl : R.length = l.length) (h : ∀ i (h : i < R.length) (h' : i < l.length), OwN patK d B w (R[i] : PatR) l[i] (K i)) : Slc R := fun r hr => by
  obtain ⟨i, hi, rfl⟩ := List.getElem_of_mem hr
  obtain ⟨A, c, e⟩ := OwN.slice (h i hi (by rw [← hl]; exact hi))
  exact ⟨A, _, c, by rw [e]⟩
/-- the cells of the first record -/
theorem RowP.first {B g n c : Nat} {w : World} {R : List PatR} (h : RowP B w (.slice (some ⟨g, 0, none⟩) n c) R) (hR : 0 < R.length) : w.cell? ⟨g, 0, none⟩ = some (.int .i64 R[0].op) ∧ w.cell? ⟨g, 1, none⟩ = some (.string R[0].text) ∧ w.cell? ⟨g, 2, none⟩ = some R[0].kv := by
  have hz : ∀ r : PatR, r.enc.length = 3 := fun _ => rfl
  refine ⟨?_, ?_, ?_⟩
  · have := RowR.cell hz h hR (j := 0) (x := .int .i64 R[0].op) rfl; simpa using this
  · have := RowR.cell hz h hR (j := 1) (x := .string R[0].text) rfl; simpa using this
  · have := RowR.cell hz h hR (j := 2) (x := R[0].kv) rfl; simpa using this
/-- the list that a reader of spec collects: all is well so far, or not -/
def Col (d b : Nat) (s : ByteArray) (w0 : World) (ok : Nat → List Pat → Prop) (bad : Prop) (g n c G : Nat) (w : World) : Prop :=
  (∃ (k : Nat) (lk : List Pat) (S : Nat → Prop), k ≤ s.size ∧ n = lk.length ∧ n ≤ k + 1 ∧ G = s.size - k + 1 ∧ PS w b s k false ∧ OwL patK (d + 1) (w0.heap.size + 1) w (.slice (some ⟨g, 0, none⟩) n c) lk S ∧ ok k lk) ∨
  (∃ (j : Nat) (R : List PatR), G = 0 ∧ PS w b s j true ∧ RowP (w0.heap.size + 1) w (.slice (some ⟨g, 0, none⟩) n c) R ∧ R.length = n ∧ Slc R ∧ bad)
/-- one more tree -/
theorem col_good {d b g n c k' : Nat} {s : ByteArray} {w0 wr w1 w2 : World} {ok : Nat → List Pat → Prop} {bad : Prop} {lk : List Pat} {S Sp : Nat → Prop} {p : Pat} {A : Option Addr} {cc : Nat}
    (hO : OwL patK (d + 1) (w0.heap.size + 1) wr (.slice (some ⟨g, 0, none⟩) n c) lk S) (hn : n = lk.length) (hbl : b < w0.heap.size) (h01 : w0.heap.size + 1 ≤ w1.heap.size) (hr1 : wr.heap.size ≤ w1.heap.size) (ht : RT b wr w2)
    (hp : OwN patK d w1.heap.size w2 ⟨p.x.op, p.x.text, .slice A p.kids.length cc⟩ p Sp) (hP : PS w2 b s k' false) (hk : k' ≤ s.size) (hnk : n ≤ k') (hok : ok k' (lk ++ [p])) :
    ∃ R : List PatR, RowP (w0.heap.size + 1) w2 (.slice (some ⟨g, 0, none⟩) n c) R ∧ w0.heap.size + 1 ≤ g ∧ (∀ g' c' w4 o, RowP (w0.heap.size + 1) w4 (.slice (some ⟨g', 0, none⟩) (n + 1) c') (R ++ [⟨p.x.op, p.x.text, .slice A p.kids.length cc⟩]) → (w2.alloc o).grownBy w4 (some g) → (g' = g ∨ w2.heap.size < g') → Col d b s w0 ok bad g' (n + 1) c' (s.size - k' + 1) w4) := by
  have hO2 := hO.apart ht (fun q hq e => by have := (hO.lt q hq).1; omega)
  obtain ⟨R, hrow, hRl, hgrow⟩ := hO2.grow
  have hgB : w0.heap.size + 1 ≤ g := (hrow.lt (k := g) rfl).1
  refine ⟨R, hrow, hgB, fun g' c' w4 o h1 h2 h3 => ?_⟩
  obtain ⟨S', hS'⟩ := own_append hgrow (hp.mono h01) (fun q h1 h2 => absurd (hO.lt q h1).2 (Nat.not_lt.2 (Nat.le_trans hr1 (hp.lt q h2).1))) h1 h2 h3
  exact .inl ⟨k', lk ++ [p], S', hk, by rw [List.length_append, ← hn]; rfl, by omega, rfl, (hP.al o).grown h2 (by omega), hS', hok⟩
/-- one more record, and all is not well -/
theorem col_bad {d b g n c j : Nat} {s : ByteArray} {w0 wr w2 : World} {ok : Nat → List Pat → Prop} {bad : Prop} {lk : List Pat} {S : Nat → Prop} {op : Int} {text : ByteArray} {A : Option Addr} {m cc : Nat}
    (hO : OwL patK (d + 1) (w0.heap.size + 1) wr (.slice (some ⟨g, 0, none⟩) n c) lk S) (hn : n = lk.length) (hbl : b < w0.heap.size) (ht : RT b wr w2) (hP : PS w2 b s j true) (hbad : bad) :
    ∃ R : List PatR, RowP (w0.heap.size + 1) w2 (.slice (some ⟨g, 0, none⟩) n c) R ∧ w0.heap.size + 1 ≤ g ∧ (∀ g' c' w4 o, RowP (w0.heap.size + 1) w4 (.slice (some ⟨g', 0, none⟩) (n + 1) c') (R ++ [⟨op, text, .slice A m cc⟩]) → (w2.alloc o).grownBy w4 (some g) → Col d b s w0 ok bad g' (n + 1) c' 0 w4) := by
  have hO2 := hO.apart ht (fun q hq e => by have := (hO.lt q hq).1; omega)
  obtain ⟨R, K, hrow, hRl, hK, _⟩ := OwP.parts hO2
  have hgB : w0.heap.size + 1 ≤ g := (hrow.lt (k := g) rfl).1
  refine ⟨R, hrow, hgB, fun g' c' w4 o h1 h2 => .inr ⟨j, _, rfl, (hP.al o).grown h2 (by omega), h1, ?_, slc_snoc (slc_own hRl hK) _ _ _ _ _, hbad⟩⟩
  rw [List.length_append, hRl, ← hn]; rfl
set_option maxRecDepth 100000 in
set_option maxHeartbeats 4000000 in
theorem salt_of {n : Nat} (hS : SSeqC n) : SAltC n := by
  intro b s i w hP h30 hi hn
  have hbl := hP.lt
  have hnb : ¬ w.heap.size = b := by omega
  have hnb' : ¬ b = w.heap.size := by omega
  have hs : s.size ≤ maxLen := by unfold maxLen; omega
  have hs9 : s.size ≤ 9223372036854775807 := by omega
  have hP0 := hP.al (.cells #[.int .i64 0, .string ⟨#[]⟩, .slice none 0 0] 56)
  have hlen : ∀ k, (s.data.toList.drop k).length = s.size - k := fun k => by simp
  obtain ⟨l0, hl0⟩ : ∃ l0, l0 = s.data.toList.drop i := ⟨_, rfl⟩
  rw [← hl0]
  have hm : l0.length = s.size - i := by rw [hl0]; exact hlen i
  obtain ⟨okA, hokA⟩ : ∃ okA : Nat → List Pat → Prop, okA = fun k lk => i ≤ k ∧ okR (s.data.toList.drop k) = true ∧ altL (atomF n) l0.length l0 = (lk ++ (contL (atomF n) l0.length (s.data.toList.drop k)).1, (contL (atomF n) l0.length (s.data.toList.drop k)).2) := ⟨_, rfl⟩
  obtain ⟨badA, hbadA⟩ : ∃ badA : Prop, badA = (okR (altP (atomF n) l0).2 = false) := ⟨_, rfl⟩
  -- a sequence read at the place k, and what it makes of the alternative
  have hseq : ∀ (k : Nat) (lk : List Pat), i ≤ k → k ≤ s.size → altL (atomF n) l0.length l0 = (lk ++ (altL (atomF n) l0.length (s.data.toList.drop k)).1, (altL (atomF n) l0.length (s.data.toList.drop k)).2) →
      ∃ (p : Pat) (k' : Nat), k ≤ k' ∧ k' ≤ s.size ∧ ((okR (s.data.toList.drop k') = true ∧ okA k' (lk ++ [p]) ∧ ∀ w, PS w b s k false → Calls Try.prog 127 #[.pointer (some ⟨b, 0, none⟩)] w fun e w' => ∃ (A : Option Addr) (c : Nat) (S : Nat → Prop), e = .returned (.agg #[.int .i64 p.x.op, .string p.x.text, .slice A p.kids.length c]) ∧ OwN patK (4 * n + 3) w.heap.size w' ⟨p.x.op, p.x.text, .slice A p.kids.length c⟩ p S ∧ PS w' b s k' false ∧ RT b w w') ∨
        (badA ∧ ∀ w, PS w b s k false → Calls Try.prog 127 #[.pointer (some ⟨b, 0, none⟩)] w fun e w' => ∃ (op : Int) (text : ByteArray) (A : Option Addr) (m c j : Nat), e = .returned (.agg #[.int .i64 op, .string text, .slice A m c]) ∧ PS w' b s j true ∧ RT b w w')) := by
    intro k lk hik hks halt
    have hun := alt_unroll (atomF_sh n) (m := l0.length) (l := s.data.toList.drop k) (by rw [hlen, hm]; omega)
    have hsuf := seqP_suf (atomF_sh n) (s.data.toList.drop k)
    have hC := fun w hP => hS b s k w hP h30 hks (by omega)
    obtain ⟨⟨p, r⟩, hpr⟩ : ∃ x, x = seqP (atomF n) (s.data.toList.drop k) := ⟨_, rfl⟩
    rw [← hpr] at hun hsuf hC
    have hr := hsuf.drop
    have hrl := hsuf.len
    simp only [hlen] at hr hrl hC
    rw [List.drop_drop] at hr
    have hkk : k + (s.size - k - r.length) = s.size - r.length := by omega
    rw [hkk] at hr
    refine ⟨p, s.size - r.length, by omega, by omega, ?_⟩
    rw [hun] at halt
    cases hok : okR r with
    | true =>
      refine .inl ⟨by rw [← hr]; exact hok, ?_, ?_⟩
      · rw [hokA]; exact ⟨by omega, by rw [← hr]; exact hok, by rw [halt, ← hr]; simp⟩
      · intro w hP
        have := hC w hP
        rw [hok, if_pos rfl] at this
        exact this
    | false =>
      refine .inr ⟨?_, ?_⟩
      · rw [hbadA]
        show okR (altL (atomF n) l0.length l0).2 = false
        rw [halt]
        cases r with
        | nil => cases hok
        | cons c r' =>
          have h124 : c ≠ 124 := by rintro rfl; simp [okR] at hok
          show okR (contL (atomF n) l0.length (c :: r')).2 = false
          rw [show contL (atomF n) l0.length (c :: r') = ([], c :: r') from if_neg h124]
          exact hok
      · intro w hP
        have := hC w hP
        rw [hok, if_neg (by decide)] at this
        exact this
  obtain ⟨O, hO⟩ : ∃ O, O = (if okR (altP (atomF n) l0).2 = true then some (altP (atomF n) l0) else none) := ⟨_, rfl⟩
  rw [← hO]
  have HBAD : Hid (badA → O = none) := Lib.hid (by rw [hbadA, hO]; intro h; rw [h]; rfl)
  have hcont : ∀ k, NoNext s k false 124 → contL (atomF n) l0.length (s.data.toList.drop k) = ([], s.data.toList.drop k) := by
    intro k hk
    have hk' : ∀ h : k < s.size, s[k] ≠ 124 := by rcases hk with h | h; · cases h
                                                  · exact h
    by_cases hlt : k < s.size
    · rw [data_drop s k hlt]
      exact if_neg (hk' hlt)
    · rw [List.drop_eq_nil_of_le (by simp; omega)]; rfl
  have HGOOD : Hid (∀ k lk, okA k lk → NoNext s k false 124 → O = some (joinP 3 lk, s.data.toList.drop k)) := Lib.hid (by
    intro k lk hok hk
    rw [hokA] at hok
    obtain ⟨_, h2, h3⟩ := hok
    rw [hcont k hk] at h3
    have h4 : altP (atomF n) l0 = (joinP 3 lk, s.data.toList.drop k) := by unfold altP; rw [h3]; simp
    rw [hO, h4]
    exact if_pos h2)
  have HMORE : Hid (∀ k lk, okA k lk → ∀ h : k < s.size, s[k] = 124 → i ≤ k ∧ altL (atomF n) l0.length l0 = (lk ++ (altL (atomF n) l0.length (s.data.toList.drop (k + 1))).1, (altL (atomF n) l0.length (s.data.toList.drop (k + 1))).2)) := Lib.hid (by
    intro k lk hok hlt h124
    rw [hokA] at hok
    obtain ⟨h1, _, h3⟩ := hok
    have hd : s.data.toList.drop k = 124 :: s.data.toList.drop (k + 1) := by rw [data_drop s k hlt, h124]
    rw [h3, hd]
    exact ⟨h1, rfl⟩)
  have HSEQ := Lib.hid hseq
  have HOKA := Lib.hid hokA
  have HBADA := Lib.hid hbadA
  have HLEN := Lib.hid hlen
  have H30 := Lib.hid h30
  have HI := Lib.hid hi
  clear hseq hS hokA hbadA hlen hm hn h30 hi hP hcont hO
  -- the first sequence
  have HF : Hid (∀ w1, PS w1 b s i false → RT b (w.alloc (.cells #[.int .i64 0, .string ⟨#[]⟩, .slice none 0 0] 56)) w1 → Calls Try.prog 127 #[.pointer (some ⟨b, 0, none⟩)] w1 fun e w2 => ∃ (op : Int) (text : ByteArray) (A : Option Addr) (m c G : Nat), e = .returned (.agg #[.int .i64 op, .string text, .slice A m c]) ∧ RT b (w.alloc (.cells #[.int .i64 0, .string ⟨#[]⟩, .slice none 0 0] 56)) w2 ∧ Hid (Col (4 * n + 3) b s w okA badA w2.heap.size 1 1 G (w2.alloc (.cells #[.int .i64 op, .string text, .slice A m c] 56)))) := Lib.hid (by
    intro w1 hP1 hT1
    obtain ⟨p, k', hk1, hk2, hcase⟩ := HSEQ.out i [] (Nat.le_refl _) HI.out (by rw [← hl0]; simp)
    have hw1 : w.heap.size + 1 ≤ w1.heap.size := by have := hT1.size; simp at this; omega
    rcases hcase with ⟨_, hok, hC⟩ | ⟨hbad, hC⟩
    · refine (hC w1 hP1).mono ?_
      rintro e w2 ⟨A, c, S, rfl, ho, hP2, hT2⟩
      refine ⟨_, _, A, _, c, s.size - k' + 1, rfl, hT1.trans hT2, Lib.hid <| .inl ⟨k', [p], _, hk2, rfl, by omega, rfl, hP2.al _, owL_one (ho.mono hw1) (by have := hT2.size; omega) (by decide) (pat_cells _ _ _ _ _), hok⟩⟩
    · refine (hC w1 hP1).mono ?_
      rintro e w2 ⟨op, text, A, m, c, j, rfl, hP2, hT2⟩
      refine ⟨op, text, A, m, c, 0, rfl, hT1.trans hT2, Lib.hid <| .inr ⟨j, [⟨op, text, .slice A m c⟩], rfl, hP2.al _, ⟨by simp [PatR.enc], .inr ⟨w2.heap.size, 1, #[.int .i64 op, .string text, .slice A m c], rfl, by have := hT2.size; omega, heap_alloc_new w2 _, by simp, by unfold maxLen; omega, by simp, by simp [PatR.enc]⟩⟩, rfl, ?_, hbad⟩⟩
      intro r hr
      rw [List.mem_singleton.1 hr]; exact ⟨A, m, c, rfl⟩)
  have hTr := TurnsAt.refl (fun q => q = b) (w.alloc (.cells #[.int .i64 0, .string ⟨#[]⟩, .slice none 0 0] 56))
  go_enter Try.func102, Try.ntmps102
  go_wp2_with (go_at_call 127; ((refine (HF.out _ hP0 hTr).mono ?_); rintro e w2 ⟨op, text, A, m, c, G0, rfl, hT2, HC0⟩))
  have hTa := turns_al hT2 (.cells #[.int .i64 op, .string text, .slice A m c] 56)
  clear hT2
  go_loopg [3] G0 (fun G u wr => ∃ (g m c : Nat), u = .slice (some ⟨g, 0, none⟩) m c ∧ Hid (Col (4 * n + 3) b s w okA badA g m c G wr) ∧ RT b (w.alloc (.cells #[.int .i64 0, .string ⟨#[]⟩, .slice none 0 0] 56)) wr) 
  case atStart => exact ⟨w2.heap.size, 1, 1, rfl, HC0, hTa⟩
  case round =>
    clear HC0 hTa
    obtain ⟨g, m, c, rfl, HC, hT⟩ := hrel
    have hwr : w.heap.size + 1 ≤ wr.heap.size := by have := hT.size; simp at this; omega
    have key : Hid (∃ k, PS wr b s k false ∧ (∃ h : k < s.size, s[k] = 124) ∧ m + 1 ≤ 1048576 ∧
        (∀ w3, PS w3 b s (k + 1) false → RT b wr w3 → Calls Try.prog 127 #[.pointer (some ⟨b, 0, none⟩)] w3 fun e w4 => ∃ (op : Int) (text : ByteArray) (A : Option Addr) (m2 c2 G' : Nat), e = .returned (.agg #[.int .i64 op, .string text, .slice A m2 c2]) ∧ G' < gk ∧ RT b w3 w4 ∧ Hid (∃ R : List PatR, RowP (w.heap.size + 1) w4 (.slice (some ⟨g, 0, none⟩) m c) R ∧ w.heap.size + 1 ≤ g ∧
          ∀ g' c' w5 o, RowP (w.heap.size + 1) w5 (.slice (some ⟨g', 0, none⟩) (m + 1) c') (R ++ [⟨op, text, .slice A m2 c2⟩]) → (w4.alloc o).grownBy w5 (some g) → (g' = g ∨ w4.heap.size < g') → Col (4 * n + 3) b s w okA badA g' (m + 1) c' G' w5))) ∨
      Hid (∃ k bad, PS wr b s k bad ∧ NoNext s k bad 124 ∧
        (m = 1 → ∀ w3, PS w3 b s k bad → RT b wr w3 → ∃ (op : Int) (text : ByteArray) (A : Option Addr) (m2 c2 : Nat), w3.cell? ⟨g, 0, none⟩ = some (.int .i64 op) ∧ w3.cell? ⟨g, 1, none⟩ = some (.string text) ∧ w3.cell? ⟨g, 2, none⟩ = some (.slice A m2 c2) ∧
          ∀ x0 x1 x2, SOut (4 * n + 4) O b s w (.returned (.agg #[.int .i64 op, .string text, .slice A m2 c2])) (((w3.setCell ⟨w.heap.size, 0, none⟩ x0).setCell ⟨w.heap.size, 1, none⟩ x1).setCell ⟨w.heap.size, 2, none⟩ x2)) ∧
        (m ≠ 1 → ∀ w3, PS w3 b s k bad → RT b wr w3 → ∀ x0 x1 x2, SOut (4 * n + 4) O b s w (.returned (.agg #[.int .i64 3, .string ⟨#[]⟩, .slice (some ⟨g, 0, none⟩) m c])) (((w3.setCell ⟨w.heap.size, 0, none⟩ x0).setCell ⟨w.heap.size, 1, none⟩ x1).setCell ⟨w.heap.size, 2, none⟩ x2))) := by
      rcases HC.out with ⟨k, lk, S, hk, hn, hnk, hG, hP, hO, hok⟩ | ⟨j, R, hG, hP, hrow, hRl, hslc, hbad⟩
      · by_cases hgo : ∃ h : k < s.size, s[k] = 124
        · refine .inl (Lib.hid ⟨k, hP, hgo, by have := H30.out; omega, ?_⟩)
          intro w3 hP3 hT3
          obtain ⟨hlt, h124⟩ := hgo
          obtain ⟨hik, hal⟩ := HMORE.out k lk hok hlt h124
          obtain ⟨p, k', hk1, hk2, hcase⟩ := HSEQ.out (k + 1) lk (by omega) (by omega) hal
          have hr1 : wr.heap.size ≤ w3.heap.size := hT3.size
          rcases hcase with ⟨_, hok', hCs⟩ | ⟨hbad, hCs⟩
          · refine (hCs w3 hP3).mono ?_
            rintro e w4 ⟨A, c2, S2, rfl, ho, hP4, hT4⟩
            exact ⟨_, _, A, _, c2, s.size - k' + 1, rfl, by omega, hT4, Lib.hid (col_good hO hn hbl (by omega) hr1 (hT3.trans hT4) ho hP4 hk2 (by omega) hok')⟩
          · refine (hCs w3 hP3).mono ?_
            rintro e w4 ⟨op, text, A, m2, c2, j, rfl, hP4, hT4⟩
            obtain ⟨R, h1, h2, h3⟩ := col_bad (op := op) (text := text) (A := A) (m := m2) (cc := c2) hO hn hbl (hT3.trans hT4) hP4 hbad
            exact ⟨op, text, A, m2, c2, 0, rfl, by omega, hT4, Lib.hid ⟨R, h1, h2, fun g' c' w5 o a1 a2 _ => h3 g' c' w5 o a1 a2⟩⟩
        · have hno : NoNext s k false 124 := .inr fun h e => hgo ⟨h, e⟩
          have hOe := HGOOD.out k lk hok hno
          have hkl : s.size - (s.data.toList.drop k).length = k := by rw [HLEN.out]; omega
          refine .inr (Lib.hid ⟨k, false, hP, hno, ?_, ?_⟩)
          · intro hm1 w3 hP3 hT3
            have hO3 := hO.apart hT3 (fun q hq e => by have := (hO.lt q hq).1; omega)
            obtain ⟨R, K, hrow, hRl, hK, _⟩ := OwP.parts hO3
            obtain ⟨x, rfl⟩ : ∃ x, lk = [x] := List.length_eq_one_iff.1 (by omega)
            obtain ⟨r, rfl⟩ : ∃ r, R = [r] := List.length_eq_one_iff.1 hRl
            have hx : OwN patK (4 * n + 3) (w.heap.size + 1) w3 r x (K 0) := hK 0 (by simp) (by simp)
            obtain ⟨A, c2, rfl⟩ := OwN.slice hx
            obtain ⟨f0, f1, f2⟩ := RowP.first hrow (by simp)
            refine ⟨_, _, A, _, c2, f0, f1, f2, fun x0 x1 x2 => ?_⟩
            rw [hOe]
            exact s_some (o := .cells #[.int .i64 0, .string ⟨#[]⟩, .slice none 0 0] 56) (hx.mono (by simp)) hP3 hkl (hT.trans hT3) hbl (by omega)
          · intro hm1 w3 hP3 hT3 x0 x1 x2
            have hO3 := hO.apart hT3 (fun q hq e => by have := (hO.lt q hq).1; omega)
            rw [hOe, join_op 3 (by omega)]
            rw [hn] at hO3 ⊢
            exact s_some (p := opP 3 lk) (o := .cells #[.int .i64 0, .string ⟨#[]⟩, .slice none 0 0] 56) ((owN_of hO3).mono (by simp)) hP3 hkl (hT.trans hT3) hbl (Nat.le_refl _)
      · refine .inr (Lib.hid ⟨j, true, hP, .inl rfl, ?_, ?_⟩)
        · intro hm1 w3 hP3 hT3
          have hrow3 := rowR_apart hrow hT3 (fun q hq e => by have := (hrow.lt hq).1; omega)
          obtain ⟨r, rfl⟩ : ∃ r, R = [r] := List.length_eq_one_iff.1 (by omega)
          obtain ⟨f0, f1, f2⟩ := RowP.first hrow3 (by simp)
          obtain ⟨A, m2, c2, hkv⟩ := hslc r (by simp)
          refine ⟨_, _, A, m2, c2, f0, f1, by rw [f2]; exact congrArg some hkv, fun x0 x1 x2 => ?_⟩
          rw [HBAD.out hbad]
          exact s_none (o := .cells #[.int .i64 0, .string ⟨#[]⟩, .slice none 0 0] 56) hP3 (hT.trans hT3) hbl
        · intro hm1 w3 hP3 hT3 x0 x1 x2
          rw [HBAD.out hbad]
          exact s_none (o := .cells #[.int .i64 0, .string ⟨#[]⟩, .slice none 0 0] 56) hP3 (hT.trans hT3) hbl
    clear HC HSEQ HF
    rcases key with key | key
    · obtain ⟨k, hP, hgo, hm1, hCs⟩ := key.out
      obtain ⟨hlt, h124⟩ := hgo
      have HCS := Lib.hid hCs
      have HP := Lib.hid hP
      have HE := Lib.hid h124
      clear hCs hP h124 key
      go_wp2_with (first
        | (go_at_call 128; ((refine (next_yes b s hs k 124 _ rfl _ HP.out hlt HE.out).mono ?_); rintro e w3 ⟨rfl, hP3, hT3⟩; have hTn := hT.trans hT3; have HP3 := Lib.hid hP3; have HT3 := Lib.hid hT3; clear hT hP3 hT3))
        | (go_at_call 127; ((refine (HCS.out _ HP3.out HT3.out).mono ?_); rintro e w4 ⟨op2, text2, A2, m2, c2, G2, rfl, hG2, hT4, HR⟩; obtain ⟨R, hrow, hgB, hF⟩ := HR.out; have HF := Lib.hid hF; have HG2 := Lib.hid hG2; have hTx := hTn.trans hT4; clear hTn hT4 hF HR hG2))
        | (at_builtin; refine wpList_pat_append rfl _ _ rfl (w.heap.size + 1) g m c R rfl hrow op2 text2 A2 m2 c2 w4.heap.size rfl rfl hm1 (by have := hTx.size; simp at this; omega) (m + 1) rfl ?_; intro g' c' w5 hrow5 hg5 hg5'))
      go_roundg G2
      case rel => exact ⟨g', m + 1, c', by go_num, Lib.hid (HF.out g' c' w5 _ hrow5 hg5 hg5'), turns_grown (turns_al hTx _) hg5 (by simpa using hgB)⟩
      case measure => exact HG2.out
    · obtain ⟨k, bad, hP, hno, h1, h2⟩ := key.out
      have HP := Lib.hid hP
      have HNO := Lib.hid hno
      have H1 := Lib.hid h1
      have H2 := Lib.hid h2
      clear hP hno h1 h2 key
      by_cases hm1 : m = 1
      · have hq : ((m : Int) == 1) = true := by rw [hm1]; rfl
        have HM := Lib.hid hm1
        have hpos : (0 : Int) < (m : Int) := by omega
        clear hm1
        go_wp2_with (go_at_call 128; ((refine (next_no b s hs k bad 124 _ rfl _ HP.out HNO.out).mono ?_); rintro e w3 ⟨rfl, hP3, hT3⟩; obtain ⟨op, text, A, m2, c2, f0, f1, f2, hF⟩ := H1.out HM.out w3 hP3 hT3; have HF := Lib.hid hF; have hTn := hT.trans hT3; obtain ⟨⟨b0, b1, b2⟩, ⟨z0, z1, z2⟩, hz⟩ := box3t hTn hbl; clear hF hT hP3 hT3))
        refine bodyPost_ret (v := .agg #[.int .i64 op, .string text, .slice A m2 c2]) (by simp [results, Try.results102, go_sem, b0, b1, b2, hz, hnb, hnb']) rfl ?_
        exact HF.out _ _ _
      · have hq : ((m : Int) == 1) = false := by simp; omega
        have HM := Lib.hid hm1
        clear hm1
        go_wp2_with (go_at_call 128; ((refine (next_no b s hs k bad 124 _ rfl _ HP.out HNO.out).mono ?_); rintro e w3 ⟨rfl, hP3, hT3⟩; have hF := H2.out HM.out w3 hP3 hT3; have HF := Lib.hid hF; have hTn := hT.trans hT3; obtain ⟨⟨b0, b1, b2⟩, ⟨z0, z1, z2⟩, hz⟩ := box3t hTn hbl; clear hF hT hP3 hT3))
        refine bodyPost_ret (v := .agg #[.int .i64 3, .string ⟨#[]⟩, .slice (some ⟨g, 0, none⟩) m c]) (by simp [results, Try.results102, go_sem, b0, b1, b2, hz, hnb, hnb']) rfl ?_
        exact HF.out _ _ _
end Go.Proofs.Ytnpgeneahjlkpaa
