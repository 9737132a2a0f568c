/- CHAPTER 9, impl: walk's add: a list's nodes are put on the stack, the first on top. -/
import Derived.Test.YthmjffijhlkgcaaWkS
import Derived.Test.YthmjffijhlkgcaaWkR
set_option linter.unusedVariables false
set_option linter.unusedSimpArgs false
namespace Go.Proofs.Ythmjffijhlkgcaa
open Go.RowKit Go.Shelf
attribute [local go_sem] Oper.semAt_some
set_option maxRecDepth 100000

/-- the cells of a pointer -/
abbrev encA (a : Addr) : List Value := [.pointer (some a)]
theorem encA_len (a : Addr) : (encA a).length = 1 := rfl
theorem TurnsAt.then {S T : Nat → Prop} {A B C : World} (h : TurnsAt S A B) (k : TurnsAt T B C) (hs : ∀ b, T b → b < A.heap.size → S b) : TurnsAt S A C :=
  ⟨k.os.trans h.os, k.tape.trans h.tape, k.output.trans h.output, Nat.le_trans h.size k.size, fun b hb hn => (k.block b (Nat.lt_of_lt_of_le hb h.size) (fun ht => hn (hs b ht hb))).trans (h.block b hb hn)⟩
end Go.Proofs.Ythmjffijhlkgcaa
