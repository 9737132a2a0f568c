/-
  NARROWER THAN 'FOR EVERY INPUT', by the rows' own cells (each row's printed sentence says how): FnExactCountSchema: loops · FnExactDataKids: loops · FnExactFindNode: loops.
  DERIVED. THE GIVEN ROWS OF THIS SEAT. 3 by the template 'for every input the law returns true; each argument reads behind the call as it read before'; 0 by the template 'total and deterministic' (their statements: YtlgooejoohcmfaaTotals.lean).
  GIVEN WITH THE SEED: the statements are not yours to turn. If you find one false, say at which input.
  Laid BY PROGRAM, IN A SANDBOX (cutbox-rows.mjs): the forced cells as the released guide's own fill.sh prints them over the translation 44eea3a4aebfb404… (all of the seat's roots in one cut). By AI agents, Wed Nov 11 2026. No macro, syntax, notation, axiom, sorry.
-/
import Derived.Test.YtlgooejoohcmfaaChecked
import GoSem.Claim
import GoSem.ClaimJoined
import GoSem.ClaimMapViews
import Derived.JoinedTies
import Derived.KernelRfl
namespace Go.Proofs.Ytlgooejoohcmfaa
/- THE CELL 'sum', in the pinned program and in every row, IS THE sha256 OF THE DUMP (.gsa) THAT YtlgooejoohcmfaaProg.lean LOADS. Nothing in Lean hashes anything: it is a label: what it is worth is what the hold of that sum in a sandbox is worth. -/
noncomputable def Try.pinned : Pinned := { name := "ytlgooejoohcmfaa", sum := "44eea3a4aebfb404cdae918ac181cd12c2aff82786c26c79814344f0c65d7ecd", checked := Try.checked }
namespace Rows
def none {H : Type} : Left H := { results := [], args := [] }

/-- 'laws.FnExactCountSchema': WHATEVER THE INPUT: true; the input reads as it did. -/
def fnExactCountSchemaSpec : ChangeSpec := { name := "fnExactCountSchema", fn := fun _ => fun
  | [d] => { results := [.lit (.bool true)], args := [d] }
  | _ => none }
def fnExactCountSchemaRow : OpenClaim := { program := "ytlgooejoohcmfaa", sum := "44eea3a4aebfb404cdae918ac181cd12c2aff82786c26c79814344f0c65d7ecd", func := "loop.example/g03013/laws.FnExactCountSchema", spec := "fnExactCountSchema", unfollowed := true, recurses := true, loops := true, apart := false }
def FnExactCountSchemaSaid : Prop := fnExactCountSchemaRow.holds Try.pinned (OpenSpec.ofChange fnExactCountSchemaSpec)

/-- ITS FALSE NEIGHBOUR: 'it returns false'. Refute it at one input. -/
def fnExactCountSchemaWrong : ChangeSpec := { name := "fnExactCountSchema", fn := fun _ => fun
  | [d] => { results := [.lit (.bool false)], args := [d] }
  | _ => none }
def FnExactCountSchemaWrongFalsely : Prop := fnExactCountSchemaRow.holds Try.pinned (OpenSpec.ofChange fnExactCountSchemaWrong)

/-- 'laws.FnExactDataKids': WHATEVER THE INPUT: true; the input reads as it did. -/
def fnExactDataKidsSpec : ChangeSpec := { name := "fnExactDataKids", fn := fun _ => fun
  | [d] => { results := [.lit (.bool true)], args := [d] }
  | _ => none }
def fnExactDataKidsRow : OpenClaim := { program := "ytlgooejoohcmfaa", sum := "44eea3a4aebfb404cdae918ac181cd12c2aff82786c26c79814344f0c65d7ecd", func := "loop.example/g03013/laws.FnExactDataKids", spec := "fnExactDataKids", unfollowed := true, recurses := true, loops := true, apart := false }
def FnExactDataKidsSaid : Prop := fnExactDataKidsRow.holds Try.pinned (OpenSpec.ofChange fnExactDataKidsSpec)

/-- ITS FALSE NEIGHBOUR: 'it returns false'. Refute it at one input. -/
def fnExactDataKidsWrong : ChangeSpec := { name := "fnExactDataKids", fn := fun _ => fun
  | [d] => { results := [.lit (.bool false)], args := [d] }
  | _ => none }
def FnExactDataKidsWrongFalsely : Prop := fnExactDataKidsRow.holds Try.pinned (OpenSpec.ofChange fnExactDataKidsWrong)

/-- 'laws.FnExactFindNode': WHATEVER THE INPUT: true; the input reads as it did. -/
def fnExactFindNodeSpec : ChangeSpec := { name := "fnExactFindNode", fn := fun _ => fun
  | [d1, d2] => { results := [.lit (.bool true)], args := [d1, d2] }
  | _ => none }
def fnExactFindNodeRow : OpenClaim := { program := "ytlgooejoohcmfaa", sum := "44eea3a4aebfb404cdae918ac181cd12c2aff82786c26c79814344f0c65d7ecd", func := "loop.example/g03013/laws.FnExactFindNode", spec := "fnExactFindNode", unfollowed := true, recurses := true, loops := true, apart := false }
def FnExactFindNodeSaid : Prop := fnExactFindNodeRow.holds Try.pinned (OpenSpec.ofChange fnExactFindNodeSpec)

/-- ITS FALSE NEIGHBOUR: 'it returns false'. Refute it at one input. -/
def fnExactFindNodeWrong : ChangeSpec := { name := "fnExactFindNode", fn := fun _ => fun
  | [d1, d2] => { results := [.lit (.bool false)], args := [d1, d2] }
  | _ => none }
def FnExactFindNodeWrongFalsely : Prop := fnExactFindNodeRow.holds Try.pinned (OpenSpec.ofChange fnExactFindNodeWrong)

/- THE SECOND FORM. 'bulk': how many values and letters a reading holds, each counted each time it is reached (what is shared counts as often as it is met; a slice's spare places count too). A statement '..UptoSaid' is the law's where the arguments, and the package variables that the reading takes, are together of bulk at most 1048576: NARROWER than '..Said'. Prove '..Said' where nothing that the law and all that it calls make is longer than what came in: it says more and counts as full. Else prove '..UptoSaid'. A law counts once. -/
mutual
def uptoBulk {H : Type} : DataW H → Nat
  | .lit (.string bytes) => bytes.length + 1
  | .lit _ => 1
  | .nil => 1
  | .ptr d => uptoBulk d + 1
  | .slice elems spare => uptoBulkAll elems + uptoBulkAll spare + 1
  | .agg parts => uptoBulkAll parts + 1
  | .iface _ d => uptoBulk d + 1
  | .map entries => uptoBulkEntries entries + 1
  | .held _ => 1
def uptoBulkAll {H : Type} : List (DataW H) → Nat
  | [] => 0
  | d :: r => uptoBulk d + uptoBulkAll r
def uptoBulkEntries {H : Type} : List (Lit × DataW H) → Nat
  | [] => 0
  | x :: r => uptoBulkEntry x + uptoBulkEntries r
def uptoBulkEntry {H : Type} : Lit × DataW H → Nat
  | (.string bytes, d) => bytes.length + uptoBulk d + 1
  | (_, d) => uptoBulk d + 1
 end
def uptoSmall : (H : Type) → List (DataW H) → Bool := fun _ ds => decide (uptoBulkAll ds ≤ 1048576)
def OpenSpec.upto (s : _root_.Go.ChangeSpec) : _root_.Go.OpenSpec := { _root_.Go.OpenSpec.ofChange s with cond := some uptoSmall }

/-- 'laws.FnExactCountSchema', WHERE WHAT IT READS IS OF BULK AT MOST 1048576: true; the input reads as it did. -/
def fnExactCountSchemaUptoRow : OpenClaim := { program := "ytlgooejoohcmfaa", sum := "44eea3a4aebfb404cdae918ac181cd12c2aff82786c26c79814344f0c65d7ecd", func := "loop.example/g03013/laws.FnExactCountSchema", spec := "fnExactCountSchema", unfollowed := true, recurses := true, loops := true, apart := false, narrowed := true }
def FnExactCountSchemaUptoSaid : Prop := fnExactCountSchemaUptoRow.holds Try.pinned (OpenSpec.upto fnExactCountSchemaSpec)

/-- 'laws.FnExactDataKids', WHERE WHAT IT READS IS OF BULK AT MOST 1048576: true; the input reads as it did. -/
def fnExactDataKidsUptoRow : OpenClaim := { program := "ytlgooejoohcmfaa", sum := "44eea3a4aebfb404cdae918ac181cd12c2aff82786c26c79814344f0c65d7ecd", func := "loop.example/g03013/laws.FnExactDataKids", spec := "fnExactDataKids", unfollowed := true, recurses := true, loops := true, apart := false, narrowed := true }
def FnExactDataKidsUptoSaid : Prop := fnExactDataKidsUptoRow.holds Try.pinned (OpenSpec.upto fnExactDataKidsSpec)

/-- 'laws.FnExactFindNode', WHERE WHAT IT READS IS OF BULK AT MOST 1048576: true; the input reads as it did. -/
def fnExactFindNodeUptoRow : OpenClaim := { program := "ytlgooejoohcmfaa", sum := "44eea3a4aebfb404cdae918ac181cd12c2aff82786c26c79814344f0c65d7ecd", func := "loop.example/g03013/laws.FnExactFindNode", spec := "fnExactFindNode", unfollowed := true, recurses := true, loops := true, apart := false, narrowed := true }
def FnExactFindNodeUptoSaid : Prop := fnExactFindNodeUptoRow.holds Try.pinned (OpenSpec.upto fnExactFindNodeSpec)

end Rows
end Go.Proofs.Ytlgooejoohcmfaa
