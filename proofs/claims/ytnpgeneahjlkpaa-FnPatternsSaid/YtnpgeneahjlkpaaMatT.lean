/- CHAPTER 5, spec: l5Ends by what the pattern is. -/
import Derived.Test.YtnpgeneahjlkpaaMatS
import Derived.Test.YtnpgeneahjlkpaaPatT
import Derived.Laws.CopyOwn
set_option linter.unusedVariables false
set_option linter.unusedSimpArgs false
namespace Go.Proofs.Ytnpgeneahjlkpaa
open Go.RowKit

theorem bE_map (l : List Bool) : l.flatMap bE = l.map Value.bool := by induction l with | nil => rfl | cons b r ih => rw [List.flatMap_cons, ih]; rfl
/-- 'copy(own, v)' of as many -/
theorem wpList_copy_bools {ops : Array Oper} {rest : List Oper} {o : Oper} {a : Act} {Q : Exit → Act → World → Prop} {w : World} (hgd : o.guard = none) (x y : Operand)
    (ho : o.op = .call { callee := .builtin .copy, args := #[x, y], argTypes := #[94, 94] })
    (B g n c : Nat) (L A : List Bool) (hx : a.eval x = .slice (some ⟨g, 0, none⟩) n c) (hrow : RowB B w (.slice (some ⟨g, 0, none⟩) n c) L) (v : Value) (hy : a.eval y = v) (hA : HasB w v A) (hl : A.length = n) (h0 : 0 < n)
    (h : ∀ w', RowB B w' (.slice (some ⟨g, 0, none⟩) n c) A → w.grownBy w' (some g) → ∀ z, wpList Try.prog ops Q rest (a.put o.dst z) w') : wpList Try.prog ops Q (o :: rest) a w := by
  obtain ⟨a1, cap, rfl, hab, _⟩ := hA.cell (i := 0) (by omega)
  rcases hrow.2 with ⟨h', _⟩ | ⟨g', c', cur, h', h1, h2, h3, h4, h5, h6⟩
  · cases h'
  · cases h'
    refine wpList_copy_own hgd x y 94 94 ho 4 Try.underlying94 (by kernel_rfl) g 0 _ c a1 A.length cap hx hy cur 4 h2 (A.map Value.bool) (by rw [List.length_map, hl]; exact (Nat.min_self _).symm) (fun j u hu => ?_) (by rw [List.length_map, hl, h5]; omega) (fun u hu => by obtain ⟨b, _, rfl⟩ := List.mem_map.1 hu; rfl) ?_
    · rw [List.getElem?_map] at hu
      cases hj : A[j]? with
      | none => rw [hj] at hu; cases hu
      | some b =>
        rw [hj] at hu
        obtain ⟨hj', hb'⟩ := List.getElem?_eq_some_iff.1 hj
        obtain ⟨a2, cap2, e, _, hc⟩ := hA.cell hj'
        cases e
        rw [hc, hb']; exact hu
    · refine h _ ?_ ?_ _
      · unfold RowB RowR
        refine ⟨by rw [flat_len bE_len], .inr ⟨g, c, _, by rw [hl], h1, setRow_heap w g _ _ 4 _ h2, by rw [hl]; exact h3, h4, ?_, ?_⟩⟩
        · simp [hl, h5]; omega
        · rw [bE_map, Nat.mul_one, hl]
          simp [← hl]
      · refine ⟨rfl, rfl, rfl, by simp [World.setRow], fun k hk hne => setRow_other w g k _ (fun e => hne (by rw [e]))⟩
/-- what l5Ends leaves -/
def EndsPost (s : ByteArray) (R : Nat → Nat → Prop) (A : List Bool) (w : World) (e : Ending) (w' : World) : Prop := ∃ (o : Value) (O : List Bool), e = .returned o ∧ Hid (RowB w.heap.size w' o O) ∧ O.length = s.size + 1 ∧ Hid (EndsOf R A O) ∧ Hid (Below w.heap.size w w')
/-- the kids, as they are read and matched -/
def KidsC (s : ByteArray) (d : Nat) (w : World) (Ak : Option Addr) (kids : List Pat) : Prop := ∀ i (h : i < kids.length), ∃ (a : Addr) (x : PatR), Ak = some a ∧ (a.add (i * 3)).block < w.heap.size ∧ Pk w (a.add (i * 3)) x ∧ ∀ (v : Value) (A : List Bool) (W : World), Below w.heap.size w W → HasB W v A → A.length = s.size + 1 →
    Calls Try.prog 56 #[.agg #[.int .i64 x.op, .string x.text, x.kv], .string s, v] W (EndsPost s (kidM s d kids[i]) A W)
def EndsC (s : ByteArray) (d : Nat) (t : Pat) : Prop := ∀ (Ak : Option Addr) (m ck : Nat) (v : Value) (A : List Bool) (w : World), KidsC s d w Ak t.kids → m = t.kids.length → HasB w v A → A.length = s.size + 1 → s.size ≤ 1048576 → t.x.text.size ≤ 9223372036854775807 → m ≤ 9223372036854775807 →
    Calls Try.prog 56 #[.agg #[.int .i64 t.x.op, .string t.x.text, .slice Ak m ck], .string s, v] w (EndsPost s (StepM s (kidM s d) t) A w)
theorem ends_none {s : ByteArray} {R : Nat → Nat → Prop} {A : List Bool} (h : ∀ i j, ¬ R i j) (n : Nat) : EndsOf R A (List.replicate n false) := fun j _ => ⟨fun hh => absurd hh (on_rep _ _), fun ⟨i, _, hr⟩ => absurd hr (h i j)⟩
set_option maxRecDepth 100000 in
set_option maxHeartbeats 2000000 in
theorem ends_other (s : ByteArray) (d : Nat) (t : Pat) (h1 : t.x.op ≠ 1) (h2 : t.x.op ≠ 2) (h3 : t.x.op ≠ 3) (h4 : t.x.op ≠ 4) (h5 : t.x.op ≠ 5) : EndsC s d t := by
  intro Ak m ck v A w hK hm hA hl hs ht hmm
  obtain ⟨i0, hi0, hz0, hz1, hz2⟩ := info_parts infoBool
  have HE : Hid (EndsOf (StepM s (kidM s d) t) A (List.replicate (s.size + 1) false)) := Lib.hid (ends_none (s := s) (fun i j => by unfold StepM; simp [h1, h2, h3, h4, h5]) _)
  obtain ⟨op, hop⟩ : ∃ op, op = t.x.op := ⟨_, rfl⟩
  rw [← hop] at h1 h2 h3 h4 h5 ⊢
  have q1 : ((op : Int) == 1) = false := by rw [beq_eq_false_iff_ne]; exact h1
  have q2 : ((op : Int) == 2) = false := by rw [beq_eq_false_iff_ne]; exact h2
  have q3 : ((op : Int) == 3) = false := by rw [beq_eq_false_iff_ne]; exact h3
  have q4 : ((op : Int) == 4) = false := by rw [beq_eq_false_iff_ne]; exact h4
  have q5 : ((op : Int) == 5) = false := by rw [beq_eq_false_iff_ne]; exact h5
  obtain ⟨n1, hn1⟩ : ∃ n1, n1 = s.size + 1 := ⟨_, rfl⟩
  have hnz : (s.size : Int) + 1 = (n1 : Int) := by omega
  have hn9 : n1 ≤ 1048577 := by omega
  have hs9 : s.size ≤ 9223372036854775807 := by omega
  rw [← hn1] at HE
  have HN1 := Lib.hid hn1
  have hb2 : i0.bytes * n1 ≤ 281474976710656 := by rw [hz2]; omega
  have hb3 : n1 ≤ maxLen := by unfold maxLen; omega
  clear hz2 hK hm hA hl hop h1 h2 h3 h4 h5 hn1
  go_enter Try.func56, Try.ntmps56
  go_wp2_with (at_make; refine wpList_make_full _ rfl _ _ 94 rfl w.heap.size 4 i0 (.bool false) 1 Try.underlying94 hi0 hz0 hz1 _ _ _ _ n1 rfl rfl (by first | rfl | exact hnz) (by first | rfl | exact hnz) hb2 hb3 (by simp) ?_; intro w1 hown1 hg1; have hbel1 : Below w.heap.size w w1 := (below_al (Below.refl _ _) _).grown hg1 (by simp) (by simp); have hq1 : w1.heap[w.heap.size]? = some (.cells #[.int .i64 op, .string t.x.text, .slice Ak m ck] 56 (0, 0)) := (hg1.block _ (by simp) (by simp)).trans (heap_alloc_new w _); have c0 : w1.cell? ⟨w.heap.size, 0, none⟩ = some (.int .i64 op) := (by rw [cell_of_row _ w.heap.size 0 _ _ _ hq1]; rfl))
  have hrow1 : RowB w.heap.size w1 (.slice (some ⟨w.heap.size + 1, 0, none⟩) n1 n1) (List.replicate n1 false) := by
    have := hown1
    rw [show (madeCells (Value.bool false).cells (n1 * 1)).toList = (List.replicate n1 false).flatMap bE from made_flat bE_len (by omega) _ false rfl n1] at this
    unfold RowB RowR
    rw [List.length_replicate]
    simpa using this
  go_ret
  exact ⟨_, _, rfl, Lib.hid hrow1, by rw [List.length_replicate]; exact HN1.out, HE, Lib.hid hbel1⟩
end Go.Proofs.Ytnpgeneahjlkpaa
