/-
  No cell of these rows narrows 'for every input' (looked for: loops, veiled, ifaces, maps, wideKeys, modest, calm, conditions, laid).
  DERIVED. THE GIVEN ROWS OF THIS SEAT. 3 by the template 'for every input the law returns true; each argument reads behind the call as it read before'; 0 by the template 'total and deterministic' (their statements: YtdmccopggmienaaGreatTotals.lean).
  GIVEN WITH THE SEED: the statements are not yours to turn. If you find one false, say at which input.
  Laid BY PROGRAM, IN A SANDBOX (cutbox-rows.mjs): the forced cells as the released guide's own fill.sh prints them over the translation 879514a9efb9e3e3… (all of the seat's roots in one cut). By AI agents, Wed Nov 11 2026. No macro, syntax, notation, axiom, sorry.
-/
import Derived.Test.YtdmccopggmienaaGreatChecked
import GoSem.Claim
import GoSem.ClaimJoined
import GoSem.ClaimMapViews
import Derived.JoinedTies
import Derived.KernelRfl
namespace Go.Proofs.YtdmccopggmienaaGreat
/- THE CELL 'sum', in the pinned program and in every row, IS THE sha256 OF THE DUMP (.gsa) THAT YtdmccopggmienaaGreatProg.lean LOADS. Nothing in Lean hashes anything: it is a label: what it is worth is what the hold of that sum in a sandbox is worth. -/
noncomputable def Tryz.pinned : Pinned := { name := "ytdmccopggmienaagreat", sum := "879514a9efb9e3e384f84e93ca80c3f67304140442ca29cbada751b5a05bada3", checked := Tryz.checked }
namespace Rows
def none {H : Type} : Left H := { results := [], args := [] }

/-- 'laws.FnExactCanonValue': WHATEVER THE INPUT: true; the input reads as it did. -/
def fnExactCanonValueSpec : ChangeSpec := { name := "fnExactCanonValue", fn := fun _ => fun
  | [d1, d2] => { results := [.lit (.bool true)], args := [d1, d2] }
  | _ => none }
def fnExactCanonValueRow : OpenClaim := { program := "ytdmccopggmienaagreat", sum := "879514a9efb9e3e384f84e93ca80c3f67304140442ca29cbada751b5a05bada3", func := "loop.example/g03013/laws.FnExactCanonValue", spec := "fnExactCanonValue", inPlace := ["internal/bytealg.IndexByteString"], unfollowed := true, recurses := true, apart := false }
def FnExactCanonValueSaid : Prop := fnExactCanonValueRow.holds Tryz.pinned (OpenSpec.ofChange fnExactCanonValueSpec)

/-- ITS FALSE NEIGHBOUR: 'it returns false'. Refute it at one input. -/
def fnExactCanonValueWrong : ChangeSpec := { name := "fnExactCanonValue", fn := fun _ => fun
  | [d1, d2] => { results := [.lit (.bool false)], args := [d1, d2] }
  | _ => none }
def FnExactCanonValueWrongFalsely : Prop := fnExactCanonValueRow.holds Tryz.pinned (OpenSpec.ofChange fnExactCanonValueWrong)

/-- 'laws.FnExactIsValue': WHATEVER THE INPUT: true; the input reads as it did. -/
def fnExactIsValueSpec : ChangeSpec := { name := "fnExactIsValue", fn := fun _ => fun
  | [d1, d2] => { results := [.lit (.bool true)], args := [d1, d2] }
  | _ => none }
def fnExactIsValueRow : OpenClaim := { program := "ytdmccopggmienaagreat", sum := "879514a9efb9e3e384f84e93ca80c3f67304140442ca29cbada751b5a05bada3", func := "loop.example/g03013/laws.FnExactIsValue", spec := "fnExactIsValue", inPlace := ["internal/bytealg.IndexByteString"], unfollowed := true, recurses := true, apart := false }
def FnExactIsValueSaid : Prop := fnExactIsValueRow.holds Tryz.pinned (OpenSpec.ofChange fnExactIsValueSpec)

/-- ITS FALSE NEIGHBOUR: 'it returns false'. Refute it at one input. -/
def fnExactIsValueWrong : ChangeSpec := { name := "fnExactIsValue", fn := fun _ => fun
  | [d1, d2] => { results := [.lit (.bool false)], args := [d1, d2] }
  | _ => none }
def FnExactIsValueWrongFalsely : Prop := fnExactIsValueRow.holds Tryz.pinned (OpenSpec.ofChange fnExactIsValueWrong)

/-- 'laws.FnExactNarrowType': WHATEVER THE INPUT: true; the input reads as it did. -/
def fnExactNarrowTypeSpec : ChangeSpec := { name := "fnExactNarrowType", fn := fun _ => fun
  | [d1, d2] => { results := [.lit (.bool true)], args := [d1, d2] }
  | _ => none }
def fnExactNarrowTypeRow : OpenClaim := { program := "ytdmccopggmienaagreat", sum := "879514a9efb9e3e384f84e93ca80c3f67304140442ca29cbada751b5a05bada3", func := "loop.example/g03013/laws.FnExactNarrowType", spec := "fnExactNarrowType", unfollowed := true, recurses := true, apart := false }
def FnExactNarrowTypeSaid : Prop := fnExactNarrowTypeRow.holds Tryz.pinned (OpenSpec.ofChange fnExactNarrowTypeSpec)

/-- ITS FALSE NEIGHBOUR: 'it returns false'. Refute it at one input. -/
def fnExactNarrowTypeWrong : ChangeSpec := { name := "fnExactNarrowType", fn := fun _ => fun
  | [d1, d2] => { results := [.lit (.bool false)], args := [d1, d2] }
  | _ => none }
def FnExactNarrowTypeWrongFalsely : Prop := fnExactNarrowTypeRow.holds Tryz.pinned (OpenSpec.ofChange fnExactNarrowTypeWrong)

/- THE SECOND FORM. 'bulk': how many values and letters a reading holds, each counted each time it is reached (what is shared counts as often as it is met; a slice's spare places count too). A statement '..UptoSaid' is the law's where the arguments, and the package variables that the reading takes, are together of bulk at most 1048576: NARROWER than '..Said'. Prove '..Said' where nothing that the law and all that it calls make is longer than what came in: it says more and counts as full. Else prove '..UptoSaid'. A law counts once. -/
mutual
def uptoBulk {H : Type} : DataW H → Nat
  | .lit (.string bytes) => bytes.length + 1
  | .lit _ => 1
  | .nil => 1
  | .ptr d => uptoBulk d + 1
  | .slice elems spare => uptoBulkAll elems + uptoBulkAll spare + 1
  | .agg parts => uptoBulkAll parts + 1
  | .iface _ d => uptoBulk d + 1
  | .map entries => uptoBulkEntries entries + 1
  | .held _ => 1
def uptoBulkAll {H : Type} : List (DataW H) → Nat
  | [] => 0
  | d :: r => uptoBulk d + uptoBulkAll r
def uptoBulkEntries {H : Type} : List (Lit × DataW H) → Nat
  | [] => 0
  | x :: r => uptoBulkEntry x + uptoBulkEntries r
def uptoBulkEntry {H : Type} : Lit × DataW H → Nat
  | (.string bytes, d) => bytes.length + uptoBulk d + 1
  | (_, d) => uptoBulk d + 1
 end
def uptoSmall : (H : Type) → List (DataW H) → Bool := fun _ ds => decide (uptoBulkAll ds ≤ 1048576)
def OpenSpec.upto (s : _root_.Go.ChangeSpec) : _root_.Go.OpenSpec := { _root_.Go.OpenSpec.ofChange s with cond := some uptoSmall }

/-- 'laws.FnExactCanonValue', WHERE WHAT IT READS IS OF BULK AT MOST 1048576: true; the input reads as it did. -/
def fnExactCanonValueUptoRow : OpenClaim := { program := "ytdmccopggmienaagreat", sum := "879514a9efb9e3e384f84e93ca80c3f67304140442ca29cbada751b5a05bada3", func := "loop.example/g03013/laws.FnExactCanonValue", spec := "fnExactCanonValue", inPlace := ["internal/bytealg.IndexByteString"], unfollowed := true, recurses := true, apart := false, narrowed := true }
def FnExactCanonValueUptoSaid : Prop := fnExactCanonValueUptoRow.holds Tryz.pinned (OpenSpec.upto fnExactCanonValueSpec)

/-- 'laws.FnExactIsValue', WHERE WHAT IT READS IS OF BULK AT MOST 1048576: true; the input reads as it did. -/
def fnExactIsValueUptoRow : OpenClaim := { program := "ytdmccopggmienaagreat", sum := "879514a9efb9e3e384f84e93ca80c3f67304140442ca29cbada751b5a05bada3", func := "loop.example/g03013/laws.FnExactIsValue", spec := "fnExactIsValue", inPlace := ["internal/bytealg.IndexByteString"], unfollowed := true, recurses := true, apart := false, narrowed := true }
def FnExactIsValueUptoSaid : Prop := fnExactIsValueUptoRow.holds Tryz.pinned (OpenSpec.upto fnExactIsValueSpec)

/-- 'laws.FnExactNarrowType', WHERE WHAT IT READS IS OF BULK AT MOST 1048576: true; the input reads as it did. -/
def fnExactNarrowTypeUptoRow : OpenClaim := { program := "ytdmccopggmienaagreat", sum := "879514a9efb9e3e384f84e93ca80c3f67304140442ca29cbada751b5a05bada3", func := "loop.example/g03013/laws.FnExactNarrowType", spec := "fnExactNarrowType", unfollowed := true, recurses := true, apart := false, narrowed := true }
def FnExactNarrowTypeUptoSaid : Prop := fnExactNarrowTypeUptoRow.holds Tryz.pinned (OpenSpec.upto fnExactNarrowTypeSpec)

end Rows
end Go.Proofs.YtdmccopggmienaaGreat
