/-
  No cell of these rows narrows 'for every input' (looked for: loops, veiled, ifaces, maps, wideKeys, modest, calm, conditions, laid).
  DERIVED. THE GIVEN ROWS OF THIS SEAT. 6 by the template 'for every input the law returns true; each argument reads behind the call as it read before'; 0 by the template 'total and deterministic' (their statements: YtjienajcpjcfiabTotals.lean).
  GIVEN WITH THE SEED: the statements are not yours to turn. If you find one false, say at which input.
  Laid BY PROGRAM, IN A SANDBOX (cutbox-rows.mjs): the forced cells as the released guide's own fill.sh prints them over the translation a92c46ec63432829… (all of the seat's roots in one cut). By AI agents, Wed Nov 11 2026. No macro, syntax, notation, axiom, sorry.
-/
import Derived.Test.YtjienajcpjcfiabChecked
import GoSem.Claim
import GoSem.ClaimJoined
import GoSem.ClaimMapViews
import Derived.JoinedTies
import Derived.KernelRfl
namespace Go.Proofs.Ytjienajcpjcfiab
/- THE CELL 'sum', in the pinned program and in every row, IS THE sha256 OF THE DUMP (.gsa) THAT YtjienajcpjcfiabProg.lean LOADS. Nothing in Lean hashes anything: it is a label: what it is worth is what the hold of that sum in a sandbox is worth. -/
noncomputable def Try.pinned : Pinned := { name := "ytjienajcpjcfiab", sum := "a92c46ec6343282979564b68855a3aad75da1e20cb5ce586cc1fe110a5fdda45", checked := Try.checked }
namespace Rows
def none {H : Type} : Left H := { results := [], args := [] }

/-- 'laws.FnCommon': WHATEVER THE INPUT: true; the input reads as it did. -/
def fnCommonSpec : ChangeSpec := { name := "fnCommon", fn := fun _ => fun
  | [d] => { results := [.lit (.bool true)], args := [d] }
  | _ => none }
def fnCommonRow : OpenClaim := { program := "ytjienajcpjcfiab", sum := "a92c46ec6343282979564b68855a3aad75da1e20cb5ce586cc1fe110a5fdda45", func := "loop.example/kilntree/laws.FnCommon", spec := "fnCommon", plainKeys := false, apart := false }
def FnCommonSaid : Prop := fnCommonRow.holds Try.pinned (OpenSpec.ofChange fnCommonSpec)

/-- ITS FALSE NEIGHBOUR: 'it returns false'. Refute it at one input. -/
def fnCommonWrong : ChangeSpec := { name := "fnCommon", fn := fun _ => fun
  | [d] => { results := [.lit (.bool false)], args := [d] }
  | _ => none }
def FnCommonWrongFalsely : Prop := fnCommonRow.holds Try.pinned (OpenSpec.ofChange fnCommonWrong)

/-- 'laws.FnExactEncode': WHATEVER THE INPUT: true; the input reads as it did. -/
def fnExactEncodeSpec : ChangeSpec := { name := "fnExactEncode", fn := fun _ => fun
  | [d1, d2] => { results := [.lit (.bool true)], args := [d1, d2] }
  | _ => none }
def fnExactEncodeRow : OpenClaim := { program := "ytjienajcpjcfiab", sum := "a92c46ec6343282979564b68855a3aad75da1e20cb5ce586cc1fe110a5fdda45", func := "loop.example/kilntree/laws.FnExactEncode", spec := "fnExactEncode", plainKeys := false, apart := false }
def FnExactEncodeSaid : Prop := fnExactEncodeRow.holds Try.pinned (OpenSpec.ofChange fnExactEncodeSpec)

/-- ITS FALSE NEIGHBOUR: 'it returns false'. Refute it at one input. -/
def fnExactEncodeWrong : ChangeSpec := { name := "fnExactEncode", fn := fun _ => fun
  | [d1, d2] => { results := [.lit (.bool false)], args := [d1, d2] }
  | _ => none }
def FnExactEncodeWrongFalsely : Prop := fnExactEncodeRow.holds Try.pinned (OpenSpec.ofChange fnExactEncodeWrong)

/-- 'laws.FnExactEvidence': WHATEVER THE INPUT: true; the input reads as it did. -/
def fnExactEvidenceSpec : ChangeSpec := { name := "fnExactEvidence", fn := fun _ => fun
  | [d1, d2, d3] => { results := [.lit (.bool true)], args := [d1, d2, d3] }
  | _ => none }
def fnExactEvidenceRow : OpenClaim := { program := "ytjienajcpjcfiab", sum := "a92c46ec6343282979564b68855a3aad75da1e20cb5ce586cc1fe110a5fdda45", func := "loop.example/kilntree/laws.FnExactEvidence", spec := "fnExactEvidence", plainKeys := false, apart := false }
def FnExactEvidenceSaid : Prop := fnExactEvidenceRow.holds Try.pinned (OpenSpec.ofChange fnExactEvidenceSpec)

/-- ITS FALSE NEIGHBOUR: 'it returns false'. Refute it at one input. -/
def fnExactEvidenceWrong : ChangeSpec := { name := "fnExactEvidence", fn := fun _ => fun
  | [d1, d2, d3] => { results := [.lit (.bool false)], args := [d1, d2, d3] }
  | _ => none }
def FnExactEvidenceWrongFalsely : Prop := fnExactEvidenceRow.holds Try.pinned (OpenSpec.ofChange fnExactEvidenceWrong)

/-- 'laws.FnExactCommon': WHATEVER THE INPUT: true; the input reads as it did. -/
def fnExactCommonSpec : ChangeSpec := { name := "fnExactCommon", fn := fun _ => fun
  | [d1, d2] => { results := [.lit (.bool true)], args := [d1, d2] }
  | _ => none }
def fnExactCommonRow : OpenClaim := { program := "ytjienajcpjcfiab", sum := "a92c46ec6343282979564b68855a3aad75da1e20cb5ce586cc1fe110a5fdda45", func := "loop.example/kilntree/laws.FnExactCommon", spec := "fnExactCommon", plainKeys := false, apart := false }
def FnExactCommonSaid : Prop := fnExactCommonRow.holds Try.pinned (OpenSpec.ofChange fnExactCommonSpec)

/-- ITS FALSE NEIGHBOUR: 'it returns false'. Refute it at one input. -/
def fnExactCommonWrong : ChangeSpec := { name := "fnExactCommon", fn := fun _ => fun
  | [d1, d2] => { results := [.lit (.bool false)], args := [d1, d2] }
  | _ => none }
def FnExactCommonWrongFalsely : Prop := fnExactCommonRow.holds Try.pinned (OpenSpec.ofChange fnExactCommonWrong)

/-- 'laws.FnExactValidDecoder': WHATEVER THE INPUT: true; the input reads as it did. -/
def fnExactValidDecoderSpec : ChangeSpec := { name := "fnExactValidDecoder", fn := fun _ => fun
  | [d] => { results := [.lit (.bool true)], args := [d] }
  | _ => none }
def fnExactValidDecoderRow : OpenClaim := { program := "ytjienajcpjcfiab", sum := "a92c46ec6343282979564b68855a3aad75da1e20cb5ce586cc1fe110a5fdda45", func := "loop.example/kilntree/laws.FnExactValidDecoder", spec := "fnExactValidDecoder", unfollowed := true, recurses := true, plainKeys := false, apart := false }
def FnExactValidDecoderSaid : Prop := fnExactValidDecoderRow.holds Try.pinned (OpenSpec.ofChange fnExactValidDecoderSpec)

/-- ITS FALSE NEIGHBOUR: 'it returns false'. Refute it at one input. -/
def fnExactValidDecoderWrong : ChangeSpec := { name := "fnExactValidDecoder", fn := fun _ => fun
  | [d] => { results := [.lit (.bool false)], args := [d] }
  | _ => none }
def FnExactValidDecoderWrongFalsely : Prop := fnExactValidDecoderRow.holds Try.pinned (OpenSpec.ofChange fnExactValidDecoderWrong)

/-- 'laws.FnExactMergeText': WHATEVER THE INPUT: true; the input reads as it did. -/
def fnExactMergeTextSpec : ChangeSpec := { name := "fnExactMergeText", fn := fun _ => fun
  | [d1, d2, d3] => { results := [.lit (.bool true)], args := [d1, d2, d3] }
  | _ => none }
def fnExactMergeTextRow : OpenClaim := { program := "ytjienajcpjcfiab", sum := "a92c46ec6343282979564b68855a3aad75da1e20cb5ce586cc1fe110a5fdda45", func := "loop.example/kilntree/laws.FnExactMergeText", spec := "fnExactMergeText", inPlace := ["internal/bytealg.IndexByteString", "internal/abi.NoEscape", "internal/bytealg.MakeNoZero"], unfollowed := true, recurses := true, plainKeys := false, apart := false }
def FnExactMergeTextSaid : Prop := fnExactMergeTextRow.holds Try.pinned (OpenSpec.ofChange fnExactMergeTextSpec)

/-- ITS FALSE NEIGHBOUR: 'it returns false'. Refute it at one input. -/
def fnExactMergeTextWrong : ChangeSpec := { name := "fnExactMergeText", fn := fun _ => fun
  | [d1, d2, d3] => { results := [.lit (.bool false)], args := [d1, d2, d3] }
  | _ => none }
def FnExactMergeTextWrongFalsely : Prop := fnExactMergeTextRow.holds Try.pinned (OpenSpec.ofChange fnExactMergeTextWrong)

/- THE SECOND FORM. 'bulk': how many values and letters a reading holds, each counted each time it is reached (what is shared counts as often as it is met; a slice's spare places count too). A statement '..UptoSaid' is the law's where the arguments, and the package variables that the reading takes, are together of bulk at most 1048576: NARROWER than '..Said'. Prove '..Said' where nothing that the law and all that it calls make is longer than what came in: it says more and counts as full. Else prove '..UptoSaid'. A law counts once. -/
mutual
def uptoBulk {H : Type} : DataW H → Nat
  | .lit (.string bytes) => bytes.length + 1
  | .lit _ => 1
  | .nil => 1
  | .ptr d => uptoBulk d + 1
  | .slice elems spare => uptoBulkAll elems + uptoBulkAll spare + 1
  | .agg parts => uptoBulkAll parts + 1
  | .iface _ d => uptoBulk d + 1
  | .map entries => uptoBulkEntries entries + 1
  | .held _ => 1
def uptoBulkAll {H : Type} : List (DataW H) → Nat
  | [] => 0
  | d :: r => uptoBulk d + uptoBulkAll r
def uptoBulkEntries {H : Type} : List (Lit × DataW H) → Nat
  | [] => 0
  | x :: r => uptoBulkEntry x + uptoBulkEntries r
def uptoBulkEntry {H : Type} : Lit × DataW H → Nat
  | (.string bytes, d) => bytes.length + uptoBulk d + 1
  | (_, d) => uptoBulk d + 1
 end
def uptoSmall : (H : Type) → List (DataW H) → Bool := fun _ ds => decide (uptoBulkAll ds ≤ 1048576)
def OpenSpec.upto (s : _root_.Go.ChangeSpec) : _root_.Go.OpenSpec := { _root_.Go.OpenSpec.ofChange s with cond := some uptoSmall }

/-- 'laws.FnCommon', WHERE WHAT IT READS IS OF BULK AT MOST 1048576: true; the input reads as it did. -/
def fnCommonUptoRow : OpenClaim := { program := "ytjienajcpjcfiab", sum := "a92c46ec6343282979564b68855a3aad75da1e20cb5ce586cc1fe110a5fdda45", func := "loop.example/kilntree/laws.FnCommon", spec := "fnCommon", plainKeys := false, apart := false, narrowed := true }
def FnCommonUptoSaid : Prop := fnCommonUptoRow.holds Try.pinned (OpenSpec.upto fnCommonSpec)

/-- 'laws.FnExactEncode', WHERE WHAT IT READS IS OF BULK AT MOST 1048576: true; the input reads as it did. -/
def fnExactEncodeUptoRow : OpenClaim := { program := "ytjienajcpjcfiab", sum := "a92c46ec6343282979564b68855a3aad75da1e20cb5ce586cc1fe110a5fdda45", func := "loop.example/kilntree/laws.FnExactEncode", spec := "fnExactEncode", plainKeys := false, apart := false, narrowed := true }
def FnExactEncodeUptoSaid : Prop := fnExactEncodeUptoRow.holds Try.pinned (OpenSpec.upto fnExactEncodeSpec)

/-- 'laws.FnExactEvidence', WHERE WHAT IT READS IS OF BULK AT MOST 1048576: true; the input reads as it did. -/
def fnExactEvidenceUptoRow : OpenClaim := { program := "ytjienajcpjcfiab", sum := "a92c46ec6343282979564b68855a3aad75da1e20cb5ce586cc1fe110a5fdda45", func := "loop.example/kilntree/laws.FnExactEvidence", spec := "fnExactEvidence", plainKeys := false, apart := false, narrowed := true }
def FnExactEvidenceUptoSaid : Prop := fnExactEvidenceUptoRow.holds Try.pinned (OpenSpec.upto fnExactEvidenceSpec)

/-- 'laws.FnExactCommon', WHERE WHAT IT READS IS OF BULK AT MOST 1048576: true; the input reads as it did. -/
def fnExactCommonUptoRow : OpenClaim := { program := "ytjienajcpjcfiab", sum := "a92c46ec6343282979564b68855a3aad75da1e20cb5ce586cc1fe110a5fdda45", func := "loop.example/kilntree/laws.FnExactCommon", spec := "fnExactCommon", plainKeys := false, apart := false, narrowed := true }
def FnExactCommonUptoSaid : Prop := fnExactCommonUptoRow.holds Try.pinned (OpenSpec.upto fnExactCommonSpec)

/-- 'laws.FnExactValidDecoder', WHERE WHAT IT READS IS OF BULK AT MOST 1048576: true; the input reads as it did. -/
def fnExactValidDecoderUptoRow : OpenClaim := { program := "ytjienajcpjcfiab", sum := "a92c46ec6343282979564b68855a3aad75da1e20cb5ce586cc1fe110a5fdda45", func := "loop.example/kilntree/laws.FnExactValidDecoder", spec := "fnExactValidDecoder", unfollowed := true, recurses := true, plainKeys := false, apart := false, narrowed := true }
def FnExactValidDecoderUptoSaid : Prop := fnExactValidDecoderUptoRow.holds Try.pinned (OpenSpec.upto fnExactValidDecoderSpec)

/-- 'laws.FnExactMergeText', WHERE WHAT IT READS IS OF BULK AT MOST 1048576: true; the input reads as it did. -/
def fnExactMergeTextUptoRow : OpenClaim := { program := "ytjienajcpjcfiab", sum := "a92c46ec6343282979564b68855a3aad75da1e20cb5ce586cc1fe110a5fdda45", func := "loop.example/kilntree/laws.FnExactMergeText", spec := "fnExactMergeText", inPlace := ["internal/bytealg.IndexByteString", "internal/abi.NoEscape", "internal/bytealg.MakeNoZero"], unfollowed := true, recurses := true, plainKeys := false, apart := false, narrowed := true }
def FnExactMergeTextUptoSaid : Prop := fnExactMergeTextUptoRow.holds Try.pinned (OpenSpec.upto fnExactMergeTextSpec)

end Rows
end Go.Proofs.Ytjienajcpjcfiab
