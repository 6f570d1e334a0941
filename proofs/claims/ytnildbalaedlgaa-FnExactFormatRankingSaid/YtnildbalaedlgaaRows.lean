/-
  No cell of these rows narrows 'for every input' (looked for: loops, veiled, ifaces, maps, wideKeys, modest, calm, conditions, laid).
  DERIVED. THE GIVEN ROWS OF THIS SEAT. 6 by the template 'for every input the law returns true; each argument reads behind the call as it read before'; 0 by the template 'total and deterministic' (their statements: YtnildbalaedlgaaTotals.lean).
  GIVEN WITH THE SEED: the statements are not yours to turn. If you find one false, say at which input.
  Laid BY PROGRAM, IN A SANDBOX (cutbox-rows.mjs): the forced cells as the released guide's own fill.sh prints them over the translation c76cc0db06f95101… (all of the seat's roots in one cut). By AI agents, Wed Nov 11 2026. No macro, syntax, notation, axiom, sorry.
-/
import Derived.Test.YtnildbalaedlgaaChecked
import GoSem.Claim
import GoSem.ClaimJoined
import GoSem.ClaimMapViews
import Derived.JoinedTies
import Derived.KernelRfl
namespace Go.Proofs.Ytnildbalaedlgaa
/- THE CELL 'sum', in the pinned program and in every row, IS THE sha256 OF THE DUMP (.gsa) THAT YtnildbalaedlgaaProg.lean LOADS. Nothing in Lean hashes anything: it is a label: what it is worth is what the hold of that sum in a sandbox is worth. -/
noncomputable def Try.pinned : Pinned := { name := "ytnildbalaedlgaa", sum := "c76cc0db06f951011778fe123898b428972fb116efa50072338e75b7c7049629", checked := Try.checked }
namespace Rows
def none {H : Type} : Left H := { results := [], args := [] }

/-- 'laws.FnExactIsRanking': WHATEVER THE INPUT: true; the input reads as it did. -/
def fnExactIsRankingSpec : ChangeSpec := { name := "fnExactIsRanking", fn := fun _ => fun
  | [d1, d2] => { results := [.lit (.bool true)], args := [d1, d2] }
  | _ => none }
def fnExactIsRankingRow : OpenClaim := { program := "ytnildbalaedlgaa", sum := "c76cc0db06f951011778fe123898b428972fb116efa50072338e75b7c7049629", func := "loop.example/g02080/laws.FnExactIsRanking", spec := "fnExactIsRanking", apart := false }
def FnExactIsRankingSaid : Prop := fnExactIsRankingRow.holds Try.pinned (OpenSpec.ofChange fnExactIsRankingSpec)

/-- ITS FALSE NEIGHBOUR: 'it returns false'. Refute it at one input. -/
def fnExactIsRankingWrong : ChangeSpec := { name := "fnExactIsRanking", fn := fun _ => fun
  | [d1, d2] => { results := [.lit (.bool false)], args := [d1, d2] }
  | _ => none }
def FnExactIsRankingWrongFalsely : Prop := fnExactIsRankingRow.holds Try.pinned (OpenSpec.ofChange fnExactIsRankingWrong)

/-- 'laws.FnExactCompareMarks': WHATEVER THE INPUT: true; the input reads as it did. -/
def fnExactCompareMarksSpec : ChangeSpec := { name := "fnExactCompareMarks", fn := fun _ => fun
  | [d1, d2, d3] => { results := [.lit (.bool true)], args := [d1, d2, d3] }
  | _ => none }
def fnExactCompareMarksRow : OpenClaim := { program := "ytnildbalaedlgaa", sum := "c76cc0db06f951011778fe123898b428972fb116efa50072338e75b7c7049629", func := "loop.example/g02080/laws.FnExactCompareMarks", spec := "fnExactCompareMarks", apart := false }
def FnExactCompareMarksSaid : Prop := fnExactCompareMarksRow.holds Try.pinned (OpenSpec.ofChange fnExactCompareMarksSpec)

/-- ITS FALSE NEIGHBOUR: 'it returns false'. Refute it at one input. -/
def fnExactCompareMarksWrong : ChangeSpec := { name := "fnExactCompareMarks", fn := fun _ => fun
  | [d1, d2, d3] => { results := [.lit (.bool false)], args := [d1, d2, d3] }
  | _ => none }
def FnExactCompareMarksWrongFalsely : Prop := fnExactCompareMarksRow.holds Try.pinned (OpenSpec.ofChange fnExactCompareMarksWrong)

/-- 'laws.FnExactAllRankings': WHATEVER THE INPUT: true; the input reads as it did. -/
def fnExactAllRankingsSpec : ChangeSpec := { name := "fnExactAllRankings", fn := fun _ => fun
  | [d] => { results := [.lit (.bool true)], args := [d] }
  | _ => none }
def fnExactAllRankingsRow : OpenClaim := { program := "ytnildbalaedlgaa", sum := "c76cc0db06f951011778fe123898b428972fb116efa50072338e75b7c7049629", func := "loop.example/g02080/laws.FnExactAllRankings", spec := "fnExactAllRankings", apart := false }
def FnExactAllRankingsSaid : Prop := fnExactAllRankingsRow.holds Try.pinned (OpenSpec.ofChange fnExactAllRankingsSpec)

/-- ITS FALSE NEIGHBOUR: 'it returns false'. Refute it at one input. -/
def fnExactAllRankingsWrong : ChangeSpec := { name := "fnExactAllRankings", fn := fun _ => fun
  | [d] => { results := [.lit (.bool false)], args := [d] }
  | _ => none }
def FnExactAllRankingsWrongFalsely : Prop := fnExactAllRankingsRow.holds Try.pinned (OpenSpec.ofChange fnExactAllRankingsWrong)

/-- 'laws.FnExactFormatRanking': WHATEVER THE INPUT: true; the input reads as it did. -/
def fnExactFormatRankingSpec : ChangeSpec := { name := "fnExactFormatRanking", fn := fun _ => fun
  | [d1, d2] => { results := [.lit (.bool true)], args := [d1, d2] }
  | _ => none }
def fnExactFormatRankingRow : OpenClaim := { program := "ytnildbalaedlgaa", sum := "c76cc0db06f951011778fe123898b428972fb116efa50072338e75b7c7049629", func := "loop.example/g02080/laws.FnExactFormatRanking", spec := "fnExactFormatRanking", inPlace := ["internal/abi.NoEscape", "internal/bytealg.MakeNoZero"], apart := false }
def FnExactFormatRankingSaid : Prop := fnExactFormatRankingRow.holds Try.pinned (OpenSpec.ofChange fnExactFormatRankingSpec)

/-- ITS FALSE NEIGHBOUR: 'it returns false'. Refute it at one input. -/
def fnExactFormatRankingWrong : ChangeSpec := { name := "fnExactFormatRanking", fn := fun _ => fun
  | [d1, d2] => { results := [.lit (.bool false)], args := [d1, d2] }
  | _ => none }
def FnExactFormatRankingWrongFalsely : Prop := fnExactFormatRankingRow.holds Try.pinned (OpenSpec.ofChange fnExactFormatRankingWrong)

/-- 'laws.FnExactAreConstraints': WHATEVER THE INPUT: true; the input reads as it did. -/
def fnExactAreConstraintsSpec : ChangeSpec := { name := "fnExactAreConstraints", fn := fun _ => fun
  | [d] => { results := [.lit (.bool true)], args := [d] }
  | _ => none }
def fnExactAreConstraintsRow : OpenClaim := { program := "ytnildbalaedlgaa", sum := "c76cc0db06f951011778fe123898b428972fb116efa50072338e75b7c7049629", func := "loop.example/g02080/laws.FnExactAreConstraints", spec := "fnExactAreConstraints", apart := false }
def FnExactAreConstraintsSaid : Prop := fnExactAreConstraintsRow.holds Try.pinned (OpenSpec.ofChange fnExactAreConstraintsSpec)

/-- ITS FALSE NEIGHBOUR: 'it returns false'. Refute it at one input. -/
def fnExactAreConstraintsWrong : ChangeSpec := { name := "fnExactAreConstraints", fn := fun _ => fun
  | [d] => { results := [.lit (.bool false)], args := [d] }
  | _ => none }
def FnExactAreConstraintsWrongFalsely : Prop := fnExactAreConstraintsRow.holds Try.pinned (OpenSpec.ofChange fnExactAreConstraintsWrong)

/-- 'laws.FnExactFormatNames': WHATEVER THE INPUT: true; the input reads as it did. -/
def fnExactFormatNamesSpec : ChangeSpec := { name := "fnExactFormatNames", fn := fun _ => fun
  | [d] => { results := [.lit (.bool true)], args := [d] }
  | _ => none }
def fnExactFormatNamesRow : OpenClaim := { program := "ytnildbalaedlgaa", sum := "c76cc0db06f951011778fe123898b428972fb116efa50072338e75b7c7049629", func := "loop.example/g02080/laws.FnExactFormatNames", spec := "fnExactFormatNames", inPlace := ["internal/abi.NoEscape", "internal/bytealg.MakeNoZero"], apart := false }
def FnExactFormatNamesSaid : Prop := fnExactFormatNamesRow.holds Try.pinned (OpenSpec.ofChange fnExactFormatNamesSpec)

/-- ITS FALSE NEIGHBOUR: 'it returns false'. Refute it at one input. -/
def fnExactFormatNamesWrong : ChangeSpec := { name := "fnExactFormatNames", fn := fun _ => fun
  | [d] => { results := [.lit (.bool false)], args := [d] }
  | _ => none }
def FnExactFormatNamesWrongFalsely : Prop := fnExactFormatNamesRow.holds Try.pinned (OpenSpec.ofChange fnExactFormatNamesWrong)

/- THE SECOND FORM. 'bulk': how many values and letters a reading holds, each counted each time it is reached (what is shared counts as often as it is met; a slice's spare places count too). A statement '..UptoSaid' is the law's where the arguments, and the package variables that the reading takes, are together of bulk at most 1048576: NARROWER than '..Said'. Prove '..Said' where nothing that the law and all that it calls make is longer than what came in: it says more and counts as full. Else prove '..UptoSaid'. A law counts once. -/
mutual
def uptoBulk {H : Type} : DataW H → Nat
  | .lit (.string bytes) => bytes.length + 1
  | .lit _ => 1
  | .nil => 1
  | .ptr d => uptoBulk d + 1
  | .slice elems spare => uptoBulkAll elems + uptoBulkAll spare + 1
  | .agg parts => uptoBulkAll parts + 1
  | .iface _ d => uptoBulk d + 1
  | .map entries => uptoBulkEntries entries + 1
  | .held _ => 1
def uptoBulkAll {H : Type} : List (DataW H) → Nat
  | [] => 0
  | d :: r => uptoBulk d + uptoBulkAll r
def uptoBulkEntries {H : Type} : List (Lit × DataW H) → Nat
  | [] => 0
  | x :: r => uptoBulkEntry x + uptoBulkEntries r
def uptoBulkEntry {H : Type} : Lit × DataW H → Nat
  | (.string bytes, d) => bytes.length + uptoBulk d + 1
  | (_, d) => uptoBulk d + 1
 end
def uptoSmall : (H : Type) → List (DataW H) → Bool := fun _ ds => decide (uptoBulkAll ds ≤ 1048576)
def OpenSpec.upto (s : _root_.Go.ChangeSpec) : _root_.Go.OpenSpec := { _root_.Go.OpenSpec.ofChange s with cond := some uptoSmall }

/-- 'laws.FnExactIsRanking', WHERE WHAT IT READS IS OF BULK AT MOST 1048576: true; the input reads as it did. -/
def fnExactIsRankingUptoRow : OpenClaim := { program := "ytnildbalaedlgaa", sum := "c76cc0db06f951011778fe123898b428972fb116efa50072338e75b7c7049629", func := "loop.example/g02080/laws.FnExactIsRanking", spec := "fnExactIsRanking", apart := false, narrowed := true }
def FnExactIsRankingUptoSaid : Prop := fnExactIsRankingUptoRow.holds Try.pinned (OpenSpec.upto fnExactIsRankingSpec)

/-- 'laws.FnExactCompareMarks', WHERE WHAT IT READS IS OF BULK AT MOST 1048576: true; the input reads as it did. -/
def fnExactCompareMarksUptoRow : OpenClaim := { program := "ytnildbalaedlgaa", sum := "c76cc0db06f951011778fe123898b428972fb116efa50072338e75b7c7049629", func := "loop.example/g02080/laws.FnExactCompareMarks", spec := "fnExactCompareMarks", apart := false, narrowed := true }
def FnExactCompareMarksUptoSaid : Prop := fnExactCompareMarksUptoRow.holds Try.pinned (OpenSpec.upto fnExactCompareMarksSpec)

/-- 'laws.FnExactAllRankings', WHERE WHAT IT READS IS OF BULK AT MOST 1048576: true; the input reads as it did. -/
def fnExactAllRankingsUptoRow : OpenClaim := { program := "ytnildbalaedlgaa", sum := "c76cc0db06f951011778fe123898b428972fb116efa50072338e75b7c7049629", func := "loop.example/g02080/laws.FnExactAllRankings", spec := "fnExactAllRankings", apart := false, narrowed := true }
def FnExactAllRankingsUptoSaid : Prop := fnExactAllRankingsUptoRow.holds Try.pinned (OpenSpec.upto fnExactAllRankingsSpec)

/-- 'laws.FnExactFormatRanking', WHERE WHAT IT READS IS OF BULK AT MOST 1048576: true; the input reads as it did. -/
def fnExactFormatRankingUptoRow : OpenClaim := { program := "ytnildbalaedlgaa", sum := "c76cc0db06f951011778fe123898b428972fb116efa50072338e75b7c7049629", func := "loop.example/g02080/laws.FnExactFormatRanking", spec := "fnExactFormatRanking", inPlace := ["internal/abi.NoEscape", "internal/bytealg.MakeNoZero"], apart := false, narrowed := true }
def FnExactFormatRankingUptoSaid : Prop := fnExactFormatRankingUptoRow.holds Try.pinned (OpenSpec.upto fnExactFormatRankingSpec)

/-- 'laws.FnExactAreConstraints', WHERE WHAT IT READS IS OF BULK AT MOST 1048576: true; the input reads as it did. -/
def fnExactAreConstraintsUptoRow : OpenClaim := { program := "ytnildbalaedlgaa", sum := "c76cc0db06f951011778fe123898b428972fb116efa50072338e75b7c7049629", func := "loop.example/g02080/laws.FnExactAreConstraints", spec := "fnExactAreConstraints", apart := false, narrowed := true }
def FnExactAreConstraintsUptoSaid : Prop := fnExactAreConstraintsUptoRow.holds Try.pinned (OpenSpec.upto fnExactAreConstraintsSpec)

/-- 'laws.FnExactFormatNames', WHERE WHAT IT READS IS OF BULK AT MOST 1048576: true; the input reads as it did. -/
def fnExactFormatNamesUptoRow : OpenClaim := { program := "ytnildbalaedlgaa", sum := "c76cc0db06f951011778fe123898b428972fb116efa50072338e75b7c7049629", func := "loop.example/g02080/laws.FnExactFormatNames", spec := "fnExactFormatNames", inPlace := ["internal/abi.NoEscape", "internal/bytealg.MakeNoZero"], apart := false, narrowed := true }
def FnExactFormatNamesUptoSaid : Prop := fnExactFormatNamesUptoRow.holds Try.pinned (OpenSpec.upto fnExactFormatNamesSpec)

end Rows
end Go.Proofs.Ytnildbalaedlgaa
