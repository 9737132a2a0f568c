/- CHAPTER 5, spec: what l5Seq's walk needs (the walk itself: wip/open/XPatX.lean.tpl). -/
import Derived.Test.YtnpgeneahjlkpaaPatU
import Derived.Test.YtnpgeneahjlkpaaPatF
set_option linter.unusedVariables false
set_option linter.unusedSimpArgs false
namespace Go.Proofs.Ytnpgeneahjlkpaa
open Go.RowKit

/-- what one more record makes of the list -/
def More (d b : Nat) (s : ByteArray) (w0 : World) (ok : Nat → List Pat → Prop) (bad : Prop) (g m c : Nat) (w4 : World) (op : Int) (text : ByteArray) (A : Option Addr) (m2 c2 G : Nat) : Prop :=
  ∃ R : List PatR, RowP (w0.heap.size + 1) w4 (.slice (some ⟨g, 0, none⟩) m c) R ∧ w0.heap.size + 1 ≤ g ∧
    ∀ g' c' w5 o, RowP (w0.heap.size + 1) w5 (.slice (some ⟨g', 0, none⟩) (m + 1) c') (R ++ [⟨op, text, .slice A m2 c2⟩]) → (w4.alloc o).grownBy w5 (some g) → (g' = g ∨ w4.heap.size < g') → Col d b s w0 ok bad g' (m + 1) c' G w5
/-- a tree's copy -/
def STwinC : Prop := ∀ (d : Nat) (r : PatR) (t : Pat) (w : World), RdN patK d w r t → Few d t.kids → Calls Try.prog 148 #[.agg #[.int .i64 r.op, .string r.text, r.kv]] w fun e w' => ∃ (A : Option Addr) (c : Nat) (S : Nat → Prop), e = .returned (.agg #[.int .i64 t.x.op, .string t.x.text, .slice A t.kids.length c]) ∧ OwN patK d w.heap.size w' ⟨t.x.op, t.x.text, .slice A t.kids.length c⟩ t S ∧ Below w.heap.size w w'
theorem atomF_stop (n : Nat) (c : UInt8) (l : List UInt8) (h : c = 124 ∨ c = 41) : atomF n (c :: l) = none := by
  cases n with
  | zero => rfl
  | succ n => rcases h with rfl | rfl <;> rfl
theorem neq_byte {c d : UInt8} (h : c ≠ d) : ((c.toNat : Int) != (d.toNat : Int)) = true := by rw [bne, byte_ne h]; rfl
theorem OwN.setOff {d B b j : Nat} {w : World} {r : PatR} {t : Pat} {S : Nat → Prop} {u : Value} (h : OwN patK d B w r t S) (hn : ¬ S b) : OwN patK d B (w.setCell ⟨b, j, none⟩ u) r t S := h.frame fun q hq => Below.heap_setCell w ⟨b, j, none⟩ u q (fun e => hn (by simp at e; rw [← e]; exact hq))
/-- a sign's record in the box of the atom -/
theorem sign_own {d B b k k' g m c : Nat} {s : ByteArray} {wr w1 w2 : World} {p : Pat} {A : Option Addr} {cc : Nat} {S : Nat → Prop} {o1 : Obj} (op : Int) (ho : OwN patK d B w1 ⟨p.x.op, p.x.text, .slice A p.kids.length cc⟩ p S) (hB : B ≤ w1.heap.size) (hb : b < B) (hrB : wr.heap.size ≤ w1.heap.size) (hT1 : RT b wr w1) (hT2 : RT b (w1.alloc o1) w2) (hP : PS w2 b s k false) (x0 x1 x2 : Value) :
    ∃ S', OwN patK (d + 1) B ((((w2.setCell ⟨w1.heap.size, 0, none⟩ x0).setCell ⟨w1.heap.size, 1, none⟩ x1).setCell ⟨w1.heap.size, 2, none⟩ x2).alloc (.cells #[.int .i64 p.x.op, .string p.x.text, .slice A p.kids.length cc] 56)) ⟨op, ⟨#[]⟩, .slice (some ⟨w2.heap.size, 0, none⟩) 1 1⟩ (opP op [p]) S' ∧
      PS ((((w2.setCell ⟨w1.heap.size, 0, none⟩ x0).setCell ⟨w1.heap.size, 1, none⟩ x1).setCell ⟨w1.heap.size, 2, none⟩ x2).alloc (.cells #[.int .i64 p.x.op, .string p.x.text, .slice A p.kids.length cc] 56)) b s k false ∧ RT b wr ((((w2.setCell ⟨w1.heap.size, 0, none⟩ x0).setCell ⟨w1.heap.size, 1, none⟩ x1).setCell ⟨w1.heap.size, 2, none⟩ x2).alloc (.cells #[.int .i64 p.x.op, .string p.x.text, .slice A p.kids.length cc] 56)) := by
  have hz2 : w1.heap.size + 1 ≤ w2.heap.size := by have := hT2.size; simpa using this
  have hn : ¬ S w1.heap.size := fun h => absurd (ho.lt _ h).2 (by omega)
  have ho2 : OwN patK d B w2 ⟨p.x.op, p.x.text, .slice A p.kids.length cc⟩ p S := (ho.al o1).apart hT2 (fun q hq e => by have := (ho.lt q hq).1; omega)
  have ho3 := ((ho2.setOff (j := 0) (u := x0) hn).setOff (j := 1) (u := x1) hn).setOff (j := 2) (u := x2) hn
  have h1 := owL_one ho3 (by simp; omega) (by decide) (pat_cells _ _ _ _ _)
  have h2 : OwL patK (d + 1) B ((((w2.setCell ⟨w1.heap.size, 0, none⟩ x0).setCell ⟨w1.heap.size, 1, none⟩ x1).setCell ⟨w1.heap.size, 2, none⟩ x2).alloc (.cells #[.int .i64 p.x.op, .string p.x.text, .slice A p.kids.length cc] 56)) (.slice (some ⟨w2.heap.size, 0, none⟩) 1 1) [p] (fun b => b = w2.heap.size ∨ S b) := by simpa [patK, PatR.enc] using h1
  exact ⟨_, owN_of (op := op) (text := ⟨#[]⟩) h2, (((hP.setNew (by omega)).setNew (by omega)).setNew (by omega)).al _, turns_al (turns_new (turns_new (turns_new (hT1.trans (turns_of_al hT2)) hrB) hrB) hrB) _⟩
end Go.Proofs.Ytnpgeneahjlkpaa
