/-
  No cell of these rows narrows 'for every input' (looked for: loops, veiled, ifaces, maps, wideKeys, modest, calm, conditions, laid).
  DERIVED. THE GIVEN ROWS OF THIS SEAT. 5 by the template 'for every input the law returns true; each argument reads behind the call as it read before'; 0 by the template 'total and deterministic' (their statements: YtldjkjdmadoaoaaTotals.lean).
  GIVEN WITH THE SEED: the statements are not yours to turn. If you find one false, say at which input.
  Laid BY PROGRAM, IN A SANDBOX (cutbox-rows.mjs): the forced cells as the released guide's own fill.sh prints them over the translation 067b4895542b4ed9… (all of the seat's roots in one cut). By AI agents, Wed Nov 11 2026. No macro, syntax, notation, axiom, sorry.
-/
import Derived.Test.YtldjkjdmadoaoaaChecked
import GoSem.Claim
import GoSem.ClaimJoined
import GoSem.ClaimMapViews
import Derived.JoinedTies
import Derived.KernelRfl
namespace Go.Proofs.Ytldjkjdmadoaoaa
/- THE CELL 'sum', in the pinned program and in every row, IS THE sha256 OF THE DUMP (.gsa) THAT YtldjkjdmadoaoaaProg.lean LOADS. Nothing in Lean hashes anything: it is a label: what it is worth is what the hold of that sum in a sandbox is worth. -/
noncomputable def Try.pinned : Pinned := { name := "ytldjkjdmadoaoaa", sum := "067b4895542b4ed97663bf9f7fce467e6d2b2e9295a207cc328f40d14e5eddea", checked := Try.checked }
namespace Rows
def none {H : Type} : Left H := { results := [], args := [] }

/-- 'laws.FnExactAreRanges': WHATEVER THE INPUT: true; the input reads as it did. -/
def fnExactAreRangesSpec : ChangeSpec := { name := "fnExactAreRanges", fn := fun _ => fun
  | [d] => { results := [.lit (.bool true)], args := [d] }
  | _ => none }
def fnExactAreRangesRow : OpenClaim := { program := "ytldjkjdmadoaoaa", sum := "067b4895542b4ed97663bf9f7fce467e6d2b2e9295a207cc328f40d14e5eddea", func := "loop.example/g03013/laws.FnExactAreRanges", spec := "fnExactAreRanges", apart := false }
def FnExactAreRangesSaid : Prop := fnExactAreRangesRow.holds Try.pinned (OpenSpec.ofChange fnExactAreRangesSpec)

/-- ITS FALSE NEIGHBOUR: 'it returns false'. Refute it at one input. -/
def fnExactAreRangesWrong : ChangeSpec := { name := "fnExactAreRanges", fn := fun _ => fun
  | [d] => { results := [.lit (.bool false)], args := [d] }
  | _ => none }
def FnExactAreRangesWrongFalsely : Prop := fnExactAreRangesRow.holds Try.pinned (OpenSpec.ofChange fnExactAreRangesWrong)

/-- 'laws.FnExactInRanges': WHATEVER THE INPUT: true; the input reads as it did. -/
def fnExactInRangesSpec : ChangeSpec := { name := "fnExactInRanges", fn := fun _ => fun
  | [d1, d2] => { results := [.lit (.bool true)], args := [d1, d2] }
  | _ => none }
def fnExactInRangesRow : OpenClaim := { program := "ytldjkjdmadoaoaa", sum := "067b4895542b4ed97663bf9f7fce467e6d2b2e9295a207cc328f40d14e5eddea", func := "loop.example/g03013/laws.FnExactInRanges", spec := "fnExactInRanges", apart := false }
def FnExactInRangesSaid : Prop := fnExactInRangesRow.holds Try.pinned (OpenSpec.ofChange fnExactInRangesSpec)

/-- ITS FALSE NEIGHBOUR: 'it returns false'. Refute it at one input. -/
def fnExactInRangesWrong : ChangeSpec := { name := "fnExactInRanges", fn := fun _ => fun
  | [d1, d2] => { results := [.lit (.bool false)], args := [d1, d2] }
  | _ => none }
def FnExactInRangesWrongFalsely : Prop := fnExactInRangesRow.holds Try.pinned (OpenSpec.ofChange fnExactInRangesWrong)

/-- 'laws.FnExactNormalRanges': WHATEVER THE INPUT: true; the input reads as it did. -/
def fnExactNormalRangesSpec : ChangeSpec := { name := "fnExactNormalRanges", fn := fun _ => fun
  | [d] => { results := [.lit (.bool true)], args := [d] }
  | _ => none }
def fnExactNormalRangesRow : OpenClaim := { program := "ytldjkjdmadoaoaa", sum := "067b4895542b4ed97663bf9f7fce467e6d2b2e9295a207cc328f40d14e5eddea", func := "loop.example/g03013/laws.FnExactNormalRanges", spec := "fnExactNormalRanges", unfollowed := true, recurses := true, apart := false }
def FnExactNormalRangesSaid : Prop := fnExactNormalRangesRow.holds Try.pinned (OpenSpec.ofChange fnExactNormalRangesSpec)

/-- ITS FALSE NEIGHBOUR: 'it returns false'. Refute it at one input. -/
def fnExactNormalRangesWrong : ChangeSpec := { name := "fnExactNormalRanges", fn := fun _ => fun
  | [d] => { results := [.lit (.bool false)], args := [d] }
  | _ => none }
def FnExactNormalRangesWrongFalsely : Prop := fnExactNormalRangesRow.holds Try.pinned (OpenSpec.ofChange fnExactNormalRangesWrong)

/-- 'laws.FnExactMeetRanges': WHATEVER THE INPUT: true; the input reads as it did. -/
def fnExactMeetRangesSpec : ChangeSpec := { name := "fnExactMeetRanges", fn := fun _ => fun
  | [d1, d2] => { results := [.lit (.bool true)], args := [d1, d2] }
  | _ => none }
def fnExactMeetRangesRow : OpenClaim := { program := "ytldjkjdmadoaoaa", sum := "067b4895542b4ed97663bf9f7fce467e6d2b2e9295a207cc328f40d14e5eddea", func := "loop.example/g03013/laws.FnExactMeetRanges", spec := "fnExactMeetRanges", unfollowed := true, recurses := true, apart := false }
def FnExactMeetRangesSaid : Prop := fnExactMeetRangesRow.holds Try.pinned (OpenSpec.ofChange fnExactMeetRangesSpec)

/-- ITS FALSE NEIGHBOUR: 'it returns false'. Refute it at one input. -/
def fnExactMeetRangesWrong : ChangeSpec := { name := "fnExactMeetRanges", fn := fun _ => fun
  | [d1, d2] => { results := [.lit (.bool false)], args := [d1, d2] }
  | _ => none }
def FnExactMeetRangesWrongFalsely : Prop := fnExactMeetRangesRow.holds Try.pinned (OpenSpec.ofChange fnExactMeetRangesWrong)

/-- 'laws.FnExactFormatRanges': WHATEVER THE INPUT: true; the input reads as it did. -/
def fnExactFormatRangesSpec : ChangeSpec := { name := "fnExactFormatRanges", fn := fun _ => fun
  | [d] => { results := [.lit (.bool true)], args := [d] }
  | _ => none }
def fnExactFormatRangesRow : OpenClaim := { program := "ytldjkjdmadoaoaa", sum := "067b4895542b4ed97663bf9f7fce467e6d2b2e9295a207cc328f40d14e5eddea", func := "loop.example/g03013/laws.FnExactFormatRanges", spec := "fnExactFormatRanges", inPlace := ["internal/abi.NoEscape", "internal/bytealg.MakeNoZero"], apart := false }
def FnExactFormatRangesSaid : Prop := fnExactFormatRangesRow.holds Try.pinned (OpenSpec.ofChange fnExactFormatRangesSpec)

/-- ITS FALSE NEIGHBOUR: 'it returns false'. Refute it at one input. -/
def fnExactFormatRangesWrong : ChangeSpec := { name := "fnExactFormatRanges", fn := fun _ => fun
  | [d] => { results := [.lit (.bool false)], args := [d] }
  | _ => none }
def FnExactFormatRangesWrongFalsely : Prop := fnExactFormatRangesRow.holds Try.pinned (OpenSpec.ofChange fnExactFormatRangesWrong)

/- THE SECOND FORM. 'bulk': how many values and letters a reading holds, each counted each time it is reached (what is shared counts as often as it is met; a slice's spare places count too). A statement '..UptoSaid' is the law's where the arguments, and the package variables that the reading takes, are together of bulk at most 1048576: NARROWER than '..Said'. Prove '..Said' where nothing that the law and all that it calls make is longer than what came in: it says more and counts as full. Else prove '..UptoSaid'. A law counts once. -/
mutual
def uptoBulk {H : Type} : DataW H → Nat
  | .lit (.string bytes) => bytes.length + 1
  | .lit _ => 1
  | .nil => 1
  | .ptr d => uptoBulk d + 1
  | .slice elems spare => uptoBulkAll elems + uptoBulkAll spare + 1
  | .agg parts => uptoBulkAll parts + 1
  | .iface _ d => uptoBulk d + 1
  | .map entries => uptoBulkEntries entries + 1
  | .held _ => 1
def uptoBulkAll {H : Type} : List (DataW H) → Nat
  | [] => 0
  | d :: r => uptoBulk d + uptoBulkAll r
def uptoBulkEntries {H : Type} : List (Lit × DataW H) → Nat
  | [] => 0
  | x :: r => uptoBulkEntry x + uptoBulkEntries r
def uptoBulkEntry {H : Type} : Lit × DataW H → Nat
  | (.string bytes, d) => bytes.length + uptoBulk d + 1
  | (_, d) => uptoBulk d + 1
 end
def uptoSmall : (H : Type) → List (DataW H) → Bool := fun _ ds => decide (uptoBulkAll ds ≤ 1048576)
def OpenSpec.upto (s : _root_.Go.ChangeSpec) : _root_.Go.OpenSpec := { _root_.Go.OpenSpec.ofChange s with cond := some uptoSmall }

/-- 'laws.FnExactAreRanges', WHERE WHAT IT READS IS OF BULK AT MOST 1048576: true; the input reads as it did. -/
def fnExactAreRangesUptoRow : OpenClaim := { program := "ytldjkjdmadoaoaa", sum := "067b4895542b4ed97663bf9f7fce467e6d2b2e9295a207cc328f40d14e5eddea", func := "loop.example/g03013/laws.FnExactAreRanges", spec := "fnExactAreRanges", apart := false, narrowed := true }
def FnExactAreRangesUptoSaid : Prop := fnExactAreRangesUptoRow.holds Try.pinned (OpenSpec.upto fnExactAreRangesSpec)

/-- 'laws.FnExactInRanges', WHERE WHAT IT READS IS OF BULK AT MOST 1048576: true; the input reads as it did. -/
def fnExactInRangesUptoRow : OpenClaim := { program := "ytldjkjdmadoaoaa", sum := "067b4895542b4ed97663bf9f7fce467e6d2b2e9295a207cc328f40d14e5eddea", func := "loop.example/g03013/laws.FnExactInRanges", spec := "fnExactInRanges", apart := false, narrowed := true }
def FnExactInRangesUptoSaid : Prop := fnExactInRangesUptoRow.holds Try.pinned (OpenSpec.upto fnExactInRangesSpec)

/-- 'laws.FnExactNormalRanges', WHERE WHAT IT READS IS OF BULK AT MOST 1048576: true; the input reads as it did. -/
def fnExactNormalRangesUptoRow : OpenClaim := { program := "ytldjkjdmadoaoaa", sum := "067b4895542b4ed97663bf9f7fce467e6d2b2e9295a207cc328f40d14e5eddea", func := "loop.example/g03013/laws.FnExactNormalRanges", spec := "fnExactNormalRanges", unfollowed := true, recurses := true, apart := false, narrowed := true }
def FnExactNormalRangesUptoSaid : Prop := fnExactNormalRangesUptoRow.holds Try.pinned (OpenSpec.upto fnExactNormalRangesSpec)

/-- 'laws.FnExactMeetRanges', WHERE WHAT IT READS IS OF BULK AT MOST 1048576: true; the input reads as it did. -/
def fnExactMeetRangesUptoRow : OpenClaim := { program := "ytldjkjdmadoaoaa", sum := "067b4895542b4ed97663bf9f7fce467e6d2b2e9295a207cc328f40d14e5eddea", func := "loop.example/g03013/laws.FnExactMeetRanges", spec := "fnExactMeetRanges", unfollowed := true, recurses := true, apart := false, narrowed := true }
def FnExactMeetRangesUptoSaid : Prop := fnExactMeetRangesUptoRow.holds Try.pinned (OpenSpec.upto fnExactMeetRangesSpec)

/-- 'laws.FnExactFormatRanges', WHERE WHAT IT READS IS OF BULK AT MOST 1048576: true; the input reads as it did. -/
def fnExactFormatRangesUptoRow : OpenClaim := { program := "ytldjkjdmadoaoaa", sum := "067b4895542b4ed97663bf9f7fce467e6d2b2e9295a207cc328f40d14e5eddea", func := "loop.example/g03013/laws.FnExactFormatRanges", spec := "fnExactFormatRanges", inPlace := ["internal/abi.NoEscape", "internal/bytealg.MakeNoZero"], apart := false, narrowed := true }
def FnExactFormatRangesUptoSaid : Prop := fnExactFormatRangesUptoRow.holds Try.pinned (OpenSpec.upto fnExactFormatRangesSpec)

end Rows
end Go.Proofs.Ytldjkjdmadoaoaa
