/-
  No cell of these rows narrows 'for every input' (looked for: loops, veiled, ifaces, maps, wideKeys, modest, calm, conditions, laid).
  DERIVED. THE GIVEN ROWS OF THIS SEAT. 8 by the template 'for every input the law returns true; each argument reads behind the call as it read before'; 0 by the template 'total and deterministic' (their statements: YtlekcnddejnejaaTotals.lean).
  GIVEN WITH THE SEED: the statements are not yours to turn. If you find one false, say at which input.
  Laid BY PROGRAM, IN A SANDBOX (cutbox-rows.mjs): the forced cells as the released guide's own fill.sh prints them over the translation b9e58c69fcbc10db… (all of the seat's roots in one cut). By AI agents, Wed Nov 11 2026. No macro, syntax, notation, axiom, sorry.
-/
import Derived.Test.YtlekcnddejnejaaChecked
import GoSem.Claim
import GoSem.ClaimJoined
import GoSem.ClaimMapViews
import Derived.JoinedTies
import Derived.KernelRfl
namespace Go.Proofs.Ytlekcnddejnejaa
/- THE CELL 'sum', in the pinned program and in every row, IS THE sha256 OF THE DUMP (.gsa) THAT YtlekcnddejnejaaProg.lean LOADS. Nothing in Lean hashes anything: it is a label: what it is worth is what the hold of that sum in a sandbox is worth. -/
noncomputable def Try.pinned : Pinned := { name := "ytlekcnddejnejaa", sum := "b9e58c69fcbc10db9fb083932ee5294dc59256d2cfefcbea60f1bf0c6a96c695", checked := Try.checked }
namespace Rows
def none {H : Type} : Left H := { results := [], args := [] }

/-- 'laws.FnExactIsCandidate': WHATEVER THE INPUT: true; the input reads as it did. -/
def fnExactIsCandidateSpec : ChangeSpec := { name := "fnExactIsCandidate", fn := fun _ => fun
  | [d] => { results := [.lit (.bool true)], args := [d] }
  | _ => none }
def fnExactIsCandidateRow : OpenClaim := { program := "ytlekcnddejnejaa", sum := "b9e58c69fcbc10db9fb083932ee5294dc59256d2cfefcbea60f1bf0c6a96c695", func := "loop.example/g02080/laws.FnExactIsCandidate", spec := "fnExactIsCandidate", inPlace := ["internal/bytealg.IndexByteString"], apart := false }
def FnExactIsCandidateSaid : Prop := fnExactIsCandidateRow.holds Try.pinned (OpenSpec.ofChange fnExactIsCandidateSpec)

/-- ITS FALSE NEIGHBOUR: 'it returns false'. Refute it at one input. -/
def fnExactIsCandidateWrong : ChangeSpec := { name := "fnExactIsCandidate", fn := fun _ => fun
  | [d] => { results := [.lit (.bool false)], args := [d] }
  | _ => none }
def FnExactIsCandidateWrongFalsely : Prop := fnExactIsCandidateRow.holds Try.pinned (OpenSpec.ofChange fnExactIsCandidateWrong)

/-- 'laws.FnExactInputOf': WHATEVER THE INPUT: true; the input reads as it did. -/
def fnExactInputOfSpec : ChangeSpec := { name := "fnExactInputOf", fn := fun _ => fun
  | [d] => { results := [.lit (.bool true)], args := [d] }
  | _ => none }
def fnExactInputOfRow : OpenClaim := { program := "ytlekcnddejnejaa", sum := "b9e58c69fcbc10db9fb083932ee5294dc59256d2cfefcbea60f1bf0c6a96c695", func := "loop.example/g02080/laws.FnExactInputOf", spec := "fnExactInputOf", inPlace := ["internal/bytealg.IndexByteString"], apart := false }
def FnExactInputOfSaid : Prop := fnExactInputOfRow.holds Try.pinned (OpenSpec.ofChange fnExactInputOfSpec)

/-- ITS FALSE NEIGHBOUR: 'it returns false'. Refute it at one input. -/
def fnExactInputOfWrong : ChangeSpec := { name := "fnExactInputOf", fn := fun _ => fun
  | [d] => { results := [.lit (.bool false)], args := [d] }
  | _ => none }
def FnExactInputOfWrongFalsely : Prop := fnExactInputOfRow.holds Try.pinned (OpenSpec.ofChange fnExactInputOfWrong)

/-- 'laws.FnExactOutputOf': WHATEVER THE INPUT: true; the input reads as it did. -/
def fnExactOutputOfSpec : ChangeSpec := { name := "fnExactOutputOf", fn := fun _ => fun
  | [d] => { results := [.lit (.bool true)], args := [d] }
  | _ => none }
def fnExactOutputOfRow : OpenClaim := { program := "ytlekcnddejnejaa", sum := "b9e58c69fcbc10db9fb083932ee5294dc59256d2cfefcbea60f1bf0c6a96c695", func := "loop.example/g02080/laws.FnExactOutputOf", spec := "fnExactOutputOf", inPlace := ["internal/bytealg.IndexByteString"], apart := false }
def FnExactOutputOfSaid : Prop := fnExactOutputOfRow.holds Try.pinned (OpenSpec.ofChange fnExactOutputOfSpec)

/-- ITS FALSE NEIGHBOUR: 'it returns false'. Refute it at one input. -/
def fnExactOutputOfWrong : ChangeSpec := { name := "fnExactOutputOf", fn := fun _ => fun
  | [d] => { results := [.lit (.bool false)], args := [d] }
  | _ => none }
def FnExactOutputOfWrongFalsely : Prop := fnExactOutputOfRow.holds Try.pinned (OpenSpec.ofChange fnExactOutputOfWrong)

/-- 'laws.FnExactCountEdits': WHATEVER THE INPUT: true; the input reads as it did. -/
def fnExactCountEditsSpec : ChangeSpec := { name := "fnExactCountEdits", fn := fun _ => fun
  | [d] => { results := [.lit (.bool true)], args := [d] }
  | _ => none }
def fnExactCountEditsRow : OpenClaim := { program := "ytlekcnddejnejaa", sum := "b9e58c69fcbc10db9fb083932ee5294dc59256d2cfefcbea60f1bf0c6a96c695", func := "loop.example/g02080/laws.FnExactCountEdits", spec := "fnExactCountEdits", apart := false }
def FnExactCountEditsSaid : Prop := fnExactCountEditsRow.holds Try.pinned (OpenSpec.ofChange fnExactCountEditsSpec)

/-- ITS FALSE NEIGHBOUR: 'it returns false'. Refute it at one input. -/
def fnExactCountEditsWrong : ChangeSpec := { name := "fnExactCountEdits", fn := fun _ => fun
  | [d] => { results := [.lit (.bool false)], args := [d] }
  | _ => none }
def FnExactCountEditsWrongFalsely : Prop := fnExactCountEditsRow.holds Try.pinned (OpenSpec.ofChange fnExactCountEditsWrong)

/-- 'laws.FnExactFaithfulCandidate': WHATEVER THE INPUT: true; the input reads as it did. -/
def fnExactFaithfulCandidateSpec : ChangeSpec := { name := "fnExactFaithfulCandidate", fn := fun _ => fun
  | [d] => { results := [.lit (.bool true)], args := [d] }
  | _ => none }
def fnExactFaithfulCandidateRow : OpenClaim := { program := "ytlekcnddejnejaa", sum := "b9e58c69fcbc10db9fb083932ee5294dc59256d2cfefcbea60f1bf0c6a96c695", func := "loop.example/g02080/laws.FnExactFaithfulCandidate", spec := "fnExactFaithfulCandidate", inPlace := ["internal/bytealg.IndexByteString"], apart := false }
def FnExactFaithfulCandidateSaid : Prop := fnExactFaithfulCandidateRow.holds Try.pinned (OpenSpec.ofChange fnExactFaithfulCandidateSpec)

/-- ITS FALSE NEIGHBOUR: 'it returns false'. Refute it at one input. -/
def fnExactFaithfulCandidateWrong : ChangeSpec := { name := "fnExactFaithfulCandidate", fn := fun _ => fun
  | [d] => { results := [.lit (.bool false)], args := [d] }
  | _ => none }
def FnExactFaithfulCandidateWrongFalsely : Prop := fnExactFaithfulCandidateRow.holds Try.pinned (OpenSpec.ofChange fnExactFaithfulCandidateWrong)

/-- 'laws.FnExactFormatCandidate': WHATEVER THE INPUT: true; the input reads as it did. -/
def fnExactFormatCandidateSpec : ChangeSpec := { name := "fnExactFormatCandidate", fn := fun _ => fun
  | [d] => { results := [.lit (.bool true)], args := [d] }
  | _ => none }
def fnExactFormatCandidateRow : OpenClaim := { program := "ytlekcnddejnejaa", sum := "b9e58c69fcbc10db9fb083932ee5294dc59256d2cfefcbea60f1bf0c6a96c695", func := "loop.example/g02080/laws.FnExactFormatCandidate", spec := "fnExactFormatCandidate", inPlace := ["internal/bytealg.IndexByteString"], apart := false }
def FnExactFormatCandidateSaid : Prop := fnExactFormatCandidateRow.holds Try.pinned (OpenSpec.ofChange fnExactFormatCandidateSpec)

/-- ITS FALSE NEIGHBOUR: 'it returns false'. Refute it at one input. -/
def fnExactFormatCandidateWrong : ChangeSpec := { name := "fnExactFormatCandidate", fn := fun _ => fun
  | [d] => { results := [.lit (.bool false)], args := [d] }
  | _ => none }
def FnExactFormatCandidateWrongFalsely : Prop := fnExactFormatCandidateRow.holds Try.pinned (OpenSpec.ofChange fnExactFormatCandidateWrong)

/-- 'laws.FnExactParseCandidate': WHATEVER THE INPUT: true; the input reads as it did. -/
def fnExactParseCandidateSpec : ChangeSpec := { name := "fnExactParseCandidate", fn := fun _ => fun
  | [d] => { results := [.lit (.bool true)], args := [d] }
  | _ => none }
def fnExactParseCandidateRow : OpenClaim := { program := "ytlekcnddejnejaa", sum := "b9e58c69fcbc10db9fb083932ee5294dc59256d2cfefcbea60f1bf0c6a96c695", func := "loop.example/g02080/laws.FnExactParseCandidate", spec := "fnExactParseCandidate", inPlace := ["internal/bytealg.IndexByteString"], apart := false }
def FnExactParseCandidateSaid : Prop := fnExactParseCandidateRow.holds Try.pinned (OpenSpec.ofChange fnExactParseCandidateSpec)

/-- ITS FALSE NEIGHBOUR: 'it returns false'. Refute it at one input. -/
def fnExactParseCandidateWrong : ChangeSpec := { name := "fnExactParseCandidate", fn := fun _ => fun
  | [d] => { results := [.lit (.bool false)], args := [d] }
  | _ => none }
def FnExactParseCandidateWrongFalsely : Prop := fnExactParseCandidateRow.holds Try.pinned (OpenSpec.ofChange fnExactParseCandidateWrong)

/-- 'laws.FnExactEqualCandidates': WHATEVER THE INPUT: true; the input reads as it did. -/
def fnExactEqualCandidatesSpec : ChangeSpec := { name := "fnExactEqualCandidates", fn := fun _ => fun
  | [d1, d2] => { results := [.lit (.bool true)], args := [d1, d2] }
  | _ => none }
def fnExactEqualCandidatesRow : OpenClaim := { program := "ytlekcnddejnejaa", sum := "b9e58c69fcbc10db9fb083932ee5294dc59256d2cfefcbea60f1bf0c6a96c695", func := "loop.example/g02080/laws.FnExactEqualCandidates", spec := "fnExactEqualCandidates", apart := false }
def FnExactEqualCandidatesSaid : Prop := fnExactEqualCandidatesRow.holds Try.pinned (OpenSpec.ofChange fnExactEqualCandidatesSpec)

/-- ITS FALSE NEIGHBOUR: 'it returns false'. Refute it at one input. -/
def fnExactEqualCandidatesWrong : ChangeSpec := { name := "fnExactEqualCandidates", fn := fun _ => fun
  | [d1, d2] => { results := [.lit (.bool false)], args := [d1, d2] }
  | _ => none }
def FnExactEqualCandidatesWrongFalsely : Prop := fnExactEqualCandidatesRow.holds Try.pinned (OpenSpec.ofChange fnExactEqualCandidatesWrong)

/- THE SECOND FORM. 'bulk': how many values and letters a reading holds, each counted each time it is reached (what is shared counts as often as it is met; a slice's spare places count too). A statement '..UptoSaid' is the law's where the arguments, and the package variables that the reading takes, are together of bulk at most 1048576: NARROWER than '..Said'. Prove '..Said' where nothing that the law and all that it calls make is longer than what came in: it says more and counts as full. Else prove '..UptoSaid'. A law counts once. -/
mutual
def uptoBulk {H : Type} : DataW H → Nat
  | .lit (.string bytes) => bytes.length + 1
  | .lit _ => 1
  | .nil => 1
  | .ptr d => uptoBulk d + 1
  | .slice elems spare => uptoBulkAll elems + uptoBulkAll spare + 1
  | .agg parts => uptoBulkAll parts + 1
  | .iface _ d => uptoBulk d + 1
  | .map entries => uptoBulkEntries entries + 1
  | .held _ => 1
def uptoBulkAll {H : Type} : List (DataW H) → Nat
  | [] => 0
  | d :: r => uptoBulk d + uptoBulkAll r
def uptoBulkEntries {H : Type} : List (Lit × DataW H) → Nat
  | [] => 0
  | x :: r => uptoBulkEntry x + uptoBulkEntries r
def uptoBulkEntry {H : Type} : Lit × DataW H → Nat
  | (.string bytes, d) => bytes.length + uptoBulk d + 1
  | (_, d) => uptoBulk d + 1
 end
def uptoSmall : (H : Type) → List (DataW H) → Bool := fun _ ds => decide (uptoBulkAll ds ≤ 1048576)
def OpenSpec.upto (s : _root_.Go.ChangeSpec) : _root_.Go.OpenSpec := { _root_.Go.OpenSpec.ofChange s with cond := some uptoSmall }

/-- 'laws.FnExactIsCandidate', WHERE WHAT IT READS IS OF BULK AT MOST 1048576: true; the input reads as it did. -/
def fnExactIsCandidateUptoRow : OpenClaim := { program := "ytlekcnddejnejaa", sum := "b9e58c69fcbc10db9fb083932ee5294dc59256d2cfefcbea60f1bf0c6a96c695", func := "loop.example/g02080/laws.FnExactIsCandidate", spec := "fnExactIsCandidate", inPlace := ["internal/bytealg.IndexByteString"], apart := false, narrowed := true }
def FnExactIsCandidateUptoSaid : Prop := fnExactIsCandidateUptoRow.holds Try.pinned (OpenSpec.upto fnExactIsCandidateSpec)

/-- 'laws.FnExactInputOf', WHERE WHAT IT READS IS OF BULK AT MOST 1048576: true; the input reads as it did. -/
def fnExactInputOfUptoRow : OpenClaim := { program := "ytlekcnddejnejaa", sum := "b9e58c69fcbc10db9fb083932ee5294dc59256d2cfefcbea60f1bf0c6a96c695", func := "loop.example/g02080/laws.FnExactInputOf", spec := "fnExactInputOf", inPlace := ["internal/bytealg.IndexByteString"], apart := false, narrowed := true }
def FnExactInputOfUptoSaid : Prop := fnExactInputOfUptoRow.holds Try.pinned (OpenSpec.upto fnExactInputOfSpec)

/-- 'laws.FnExactOutputOf', WHERE WHAT IT READS IS OF BULK AT MOST 1048576: true; the input reads as it did. -/
def fnExactOutputOfUptoRow : OpenClaim := { program := "ytlekcnddejnejaa", sum := "b9e58c69fcbc10db9fb083932ee5294dc59256d2cfefcbea60f1bf0c6a96c695", func := "loop.example/g02080/laws.FnExactOutputOf", spec := "fnExactOutputOf", inPlace := ["internal/bytealg.IndexByteString"], apart := false, narrowed := true }
def FnExactOutputOfUptoSaid : Prop := fnExactOutputOfUptoRow.holds Try.pinned (OpenSpec.upto fnExactOutputOfSpec)

/-- 'laws.FnExactCountEdits', WHERE WHAT IT READS IS OF BULK AT MOST 1048576: true; the input reads as it did. -/
def fnExactCountEditsUptoRow : OpenClaim := { program := "ytlekcnddejnejaa", sum := "b9e58c69fcbc10db9fb083932ee5294dc59256d2cfefcbea60f1bf0c6a96c695", func := "loop.example/g02080/laws.FnExactCountEdits", spec := "fnExactCountEdits", apart := false, narrowed := true }
def FnExactCountEditsUptoSaid : Prop := fnExactCountEditsUptoRow.holds Try.pinned (OpenSpec.upto fnExactCountEditsSpec)

/-- 'laws.FnExactFaithfulCandidate', WHERE WHAT IT READS IS OF BULK AT MOST 1048576: true; the input reads as it did. -/
def fnExactFaithfulCandidateUptoRow : OpenClaim := { program := "ytlekcnddejnejaa", sum := "b9e58c69fcbc10db9fb083932ee5294dc59256d2cfefcbea60f1bf0c6a96c695", func := "loop.example/g02080/laws.FnExactFaithfulCandidate", spec := "fnExactFaithfulCandidate", inPlace := ["internal/bytealg.IndexByteString"], apart := false, narrowed := true }
def FnExactFaithfulCandidateUptoSaid : Prop := fnExactFaithfulCandidateUptoRow.holds Try.pinned (OpenSpec.upto fnExactFaithfulCandidateSpec)

/-- 'laws.FnExactFormatCandidate', WHERE WHAT IT READS IS OF BULK AT MOST 1048576: true; the input reads as it did. -/
def fnExactFormatCandidateUptoRow : OpenClaim := { program := "ytlekcnddejnejaa", sum := "b9e58c69fcbc10db9fb083932ee5294dc59256d2cfefcbea60f1bf0c6a96c695", func := "loop.example/g02080/laws.FnExactFormatCandidate", spec := "fnExactFormatCandidate", inPlace := ["internal/bytealg.IndexByteString"], apart := false, narrowed := true }
def FnExactFormatCandidateUptoSaid : Prop := fnExactFormatCandidateUptoRow.holds Try.pinned (OpenSpec.upto fnExactFormatCandidateSpec)

/-- 'laws.FnExactParseCandidate', WHERE WHAT IT READS IS OF BULK AT MOST 1048576: true; the input reads as it did. -/
def fnExactParseCandidateUptoRow : OpenClaim := { program := "ytlekcnddejnejaa", sum := "b9e58c69fcbc10db9fb083932ee5294dc59256d2cfefcbea60f1bf0c6a96c695", func := "loop.example/g02080/laws.FnExactParseCandidate", spec := "fnExactParseCandidate", inPlace := ["internal/bytealg.IndexByteString"], apart := false, narrowed := true }
def FnExactParseCandidateUptoSaid : Prop := fnExactParseCandidateUptoRow.holds Try.pinned (OpenSpec.upto fnExactParseCandidateSpec)

/-- 'laws.FnExactEqualCandidates', WHERE WHAT IT READS IS OF BULK AT MOST 1048576: true; the input reads as it did. -/
def fnExactEqualCandidatesUptoRow : OpenClaim := { program := "ytlekcnddejnejaa", sum := "b9e58c69fcbc10db9fb083932ee5294dc59256d2cfefcbea60f1bf0c6a96c695", func := "loop.example/g02080/laws.FnExactEqualCandidates", spec := "fnExactEqualCandidates", apart := false, narrowed := true }
def FnExactEqualCandidatesUptoSaid : Prop := fnExactEqualCandidatesUptoRow.holds Try.pinned (OpenSpec.upto fnExactEqualCandidatesSpec)

end Rows
end Go.Proofs.Ytlekcnddejnejaa
