/- A LIST OF BYTES THAT A CALL BUILDS BY APPEND, AND THE TEXT THAT IS MADE OF IT. No function is spoken of. -/
import Derived.Test.YtlgooejoohcmfaaBase
import Derived.Lib.BufSteps
import Derived.Laws.IdiomStrings
set_option linter.unusedVariables false
set_option linter.unusedSimpArgs false
namespace Go.Proofs.Ytlgooejoohcmfaa
open Go.RowKit

def u8v (c : UInt8) : Value := .int .u8 (c.toNat : Int)
theorem infoU8 : (Try.prog.info? 5).map (fun i => (i.zero, i.size, i.bytes)) = some (some (.int .u8 0), 1, 1) := by kernel_rfl
/-- in w the slice v, the call's own (in a block from B on), holds the bytes l; below B nothing has turned since W0 -/
def Buf (B : Nat) (v : Value) (l : List UInt8) (W0 w : World) : Prop := Lib.OwnBuf B 5 v l.length (l.map u8v) W0 w
theorem Buf.alloc {B : Nat} {v : Value} {l : List UInt8} {W0 w : World} (h : Buf B v l W0 w) (o : Obj) : Buf B v l W0 (w.alloc o) := Lib.OwnBuf.alloc h o
theorem Buf.drewN {B : Nat} {v : Value} {l : List UInt8} {W0 w : World} (h : Buf B v l W0 w) (q : Nat) : Buf B v l W0 (w.drewN q) := Lib.OwnBuf.drewN h q
theorem Buf.below {B : Nat} {v : Value} {l : List UInt8} {W0 w : World} (h : Buf B v l W0 w) : Below B W0 w := h.2.1
/-- '[]byte{}' -/
theorem buf_none {w0 w : World} (h : Below w0.heap.size w0 w) : Buf w0.heap.size (.slice (some ⟨w.heap.size, 0, none⟩) 0 0) [] w0 (w.alloc (.cells #[] 5)) :=
  ⟨⟨rfl, .inr ⟨w.heap.size, 0, #[], (0, 0), rfl, h.size, heap_alloc_new w _, by simp, by simp, by simp, rfl, rfl⟩⟩, h.alloc h.size _, (h.alloc h.size _).size⟩
/-- '[]byte{c}' -/
theorem buf_one {w0 w : World} (h : Below w0.heap.size w0 w) (b : UInt8) {c : Int} (hc : (b.toNat : Int) = c) : Buf w0.heap.size (.slice (some ⟨w.heap.size, 0, none⟩) 1 1) [b] w0 (w.alloc (.cells #[.int .u8 c] 5)) :=
  ⟨⟨rfl, .inr ⟨w.heap.size, 1, #[.int .u8 c], (0, 0), rfl, h.size, heap_alloc_new w _, by simp, by simp, by unfold maxLen; omega, rfl, by subst hc; rfl⟩⟩, h.alloc h.size _, (h.alloc h.size _).size⟩
/-- 'buf = append(buf, c)' -/
theorem buf_append {ops : Array Oper} {rest : List Oper} {o : Oper} {a : Act} {Q : Exit → Act → World → Prop} (hgd : o.guard = none) (s x : Operand)
    (ho : o.op = .call { callee := .builtin .append, args := #[s, x], argTypes := #[93, 93] })
    (B : Nat) (v : Value) (l : List UInt8) (hs : a.eval s = v) (W0 w0 : World) (c : Int) (hb : Buf B v l W0 w0)
    (hx : a.eval x = .slice (some ⟨w0.heap.size, 0, none⟩) 1 1) (b : UInt8) (hc : (b.toNat : Int) = c) (hlen : l.length + 1 ≤ 140737488355328)
    (h : ∀ v' w', Buf B v' (l ++ [b]) W0 w' → wpList Try.prog ops Q rest (a.put o.dst v') w') : wpList Try.prog ops Q (o :: rest) a (w0.alloc (.cells #[.int .u8 c] 5)) := by
  obtain ⟨i0, hi, hz0, hz1, hz2⟩ := info_parts infoU8
  refine Lib.wpList_append_byte hgd s x 93 ho B 5 i0 Try.underlying93 hi hz0 hz1 hz2 v l.length (l.map u8v) hs W0 w0 c hb hx hlen ?_
  intro v' w' h'
  refine h v' w' ?_
  subst hc
  unfold Buf
  rw [List.length_append, List.map_append]
  exact h'
/-- 'string(buf)' -/
theorem buf_str {B : Nat} {v : Value} {l : List UInt8} {W0 w : World} (h : Buf B v l W0 w) : (convert 93 9 v).run Try.prog w = .ok (.string ⟨l.toArray⟩) w := by
  rcases h.1.2 with ⟨rfl, h0⟩ | ⟨g, cap, cur, fz, rfl, hrest⟩
  · have hl : l = [] := List.length_eq_zero_iff.1 h0
    subst hl
    rw [run_convert_bytes_string w 93 9 5 none 0 0 Try.underlying93 Try.underlying5 Try.underlying9]
    rfl
  · refine run_convert_bytes_back (P := Try.prog) w 93 9 5 ⟨g, 0, none⟩ cap l Try.underlying93 Try.underlying5 Try.underlying9 (fun j hj => h.1.cells (g := g) rfl j _ (by
      rw [List.getElem?_map, List.getElem?_eq_getElem hj]; rfl))
end Go.Proofs.Ytlgooejoohcmfaa
