/-
  NARROWER THAN 'FOR EVERY INPUT', by the rows' own cells (each row's printed sentence says how): FnExactIsVowelAt: laid · FnExactCountVowels: laid · FnExactSkeletonOf: laid.
  DERIVED. THE GIVEN ROWS OF THIS SEAT. 3 by the template 'for every input the law returns true; each argument reads behind the call as it read before'; 0 by the template 'total and deterministic' (their statements: YtekcmphcpkhkkaaDoorTotals.lean).
  GIVEN WITH THE SEED: the statements are not yours to turn. If you find one false, say at which input.
  Laid BY PROGRAM, IN A SANDBOX (cutbox-rows.mjs): the forced cells as the released guide's own fill.sh prints them over the translation 805ed12d9055e157… (all of the seat's roots in one cut). By AI agents, Wed Nov 11 2026. No macro, syntax, notation, axiom, sorry.
-/
import Derived.Test.YtekcmphcpkhkkaaDoorChecked
import GoSem.Claim
import GoSem.ClaimJoined
import GoSem.ClaimMapViews
import Derived.JoinedTies
import Derived.KernelRfl
namespace Go.Proofs.YtekcmphcpkhkkaaDoor
/- THE CELL 'sum', in the pinned program and in every row, IS THE sha256 OF THE DUMP (.gsa) THAT YtekcmphcpkhkkaaDoorProg.lean LOADS. Nothing in Lean hashes anything: it is a label: what it is worth is what the hold of that sum in a sandbox is worth. -/
noncomputable def Tryd.pinned : Pinned := { name := "ytekcmphcpkhkkaadoor", sum := "805ed12d9055e157ad81cc9312f3012e246c6f97b007bfd14d0db0cb8f888283", checked := Tryd.checked }
namespace Rows
def none {H : Type} : Left H := { results := [], args := [] }

/- WHAT THE LISTED PACKAGE-LEVEL VARIABLES READ AS WHEN THE CALL BEGINS. Each datum BY PROGRAM (the guide's laid-datum.mjs) off the statement by which the dump's own 'gosem.cut.vars' lays the variable. In a bare row this is a premise. The card (YtekcmphcpkhkkaaDoorCards.lean) ties it to the program's text. -/
def laid_loop_example_g02080_impl_featureSounds {H : Type} : DataW H := .agg [.lit (.string [97, 105]), .lit (.string [98, 100, 110, 97, 105]), .lit (.string [110]), .lit (.string [112, 98]), .lit (.string [105])]

/-- 'laws.FnExactIsVowelAt': WHATEVER THE INPUT: true; the input reads as it did. -/
def fnExactIsVowelAtSpec : ChangeSpec := { name := "fnExactIsVowelAt", vars := ["loop.example/g02080/impl.featureSounds"], fn := fun _ => fun
  | [d1, d2, g1] => { results := [.lit (.bool true)], args := [d1, d2], vars := [g1] }
  | _ => none }
def fnExactIsVowelAtRow : OpenClaim := { program := "ytekcmphcpkhkkaadoor", sum := "805ed12d9055e157ad81cc9312f3012e246c6f97b007bfd14d0db0cb8f888283", func := "loop.example/g02080/laws.FnExactIsVowelAt", spec := "fnExactIsVowelAt", inPlace := ["internal/bytealg.IndexByteString"], named := ["loop.example/g02080/impl.featureSounds"], apart := false, laid := [("loop.example/g02080/impl.featureSounds", laid_loop_example_g02080_impl_featureSounds)] }
def FnExactIsVowelAtSaid : Prop := fnExactIsVowelAtRow.holds Tryd.pinned (OpenSpec.ofChange fnExactIsVowelAtSpec)

/-- ITS FALSE NEIGHBOUR: 'it returns false'. Refute it at one input. -/
def fnExactIsVowelAtWrong : ChangeSpec := { name := "fnExactIsVowelAt", vars := ["loop.example/g02080/impl.featureSounds"], fn := fun _ => fun
  | [d1, d2, g1] => { results := [.lit (.bool false)], args := [d1, d2], vars := [g1] }
  | _ => none }
def FnExactIsVowelAtWrongFalsely : Prop := fnExactIsVowelAtRow.holds Tryd.pinned (OpenSpec.ofChange fnExactIsVowelAtWrong)

/-- 'laws.FnExactCountVowels': WHATEVER THE INPUT: true; the input reads as it did. -/
def fnExactCountVowelsSpec : ChangeSpec := { name := "fnExactCountVowels", vars := ["loop.example/g02080/impl.featureSounds"], fn := fun _ => fun
  | [d, g1] => { results := [.lit (.bool true)], args := [d], vars := [g1] }
  | _ => none }
def fnExactCountVowelsRow : OpenClaim := { program := "ytekcmphcpkhkkaadoor", sum := "805ed12d9055e157ad81cc9312f3012e246c6f97b007bfd14d0db0cb8f888283", func := "loop.example/g02080/laws.FnExactCountVowels", spec := "fnExactCountVowels", inPlace := ["internal/bytealg.IndexByteString"], named := ["loop.example/g02080/impl.featureSounds"], apart := false, laid := [("loop.example/g02080/impl.featureSounds", laid_loop_example_g02080_impl_featureSounds)] }
def FnExactCountVowelsSaid : Prop := fnExactCountVowelsRow.holds Tryd.pinned (OpenSpec.ofChange fnExactCountVowelsSpec)

/-- ITS FALSE NEIGHBOUR: 'it returns false'. Refute it at one input. -/
def fnExactCountVowelsWrong : ChangeSpec := { name := "fnExactCountVowels", vars := ["loop.example/g02080/impl.featureSounds"], fn := fun _ => fun
  | [d, g1] => { results := [.lit (.bool false)], args := [d], vars := [g1] }
  | _ => none }
def FnExactCountVowelsWrongFalsely : Prop := fnExactCountVowelsRow.holds Tryd.pinned (OpenSpec.ofChange fnExactCountVowelsWrong)

/-- 'laws.FnExactSkeletonOf': WHATEVER THE INPUT: true; the input reads as it did. -/
def fnExactSkeletonOfSpec : ChangeSpec := { name := "fnExactSkeletonOf", vars := ["loop.example/g02080/impl.featureSounds"], fn := fun _ => fun
  | [d, g1] => { results := [.lit (.bool true)], args := [d], vars := [g1] }
  | _ => none }
def fnExactSkeletonOfRow : OpenClaim := { program := "ytekcmphcpkhkkaadoor", sum := "805ed12d9055e157ad81cc9312f3012e246c6f97b007bfd14d0db0cb8f888283", func := "loop.example/g02080/laws.FnExactSkeletonOf", spec := "fnExactSkeletonOf", inPlace := ["internal/bytealg.IndexByteString"], named := ["loop.example/g02080/impl.featureSounds"], apart := false, laid := [("loop.example/g02080/impl.featureSounds", laid_loop_example_g02080_impl_featureSounds)] }
def FnExactSkeletonOfSaid : Prop := fnExactSkeletonOfRow.holds Tryd.pinned (OpenSpec.ofChange fnExactSkeletonOfSpec)

/-- ITS FALSE NEIGHBOUR: 'it returns false'. Refute it at one input. -/
def fnExactSkeletonOfWrong : ChangeSpec := { name := "fnExactSkeletonOf", vars := ["loop.example/g02080/impl.featureSounds"], fn := fun _ => fun
  | [d, g1] => { results := [.lit (.bool false)], args := [d], vars := [g1] }
  | _ => none }
def FnExactSkeletonOfWrongFalsely : Prop := fnExactSkeletonOfRow.holds Tryd.pinned (OpenSpec.ofChange fnExactSkeletonOfWrong)

/- THE SECOND FORM. 'bulk': how many values and letters a reading holds, each counted each time it is reached (what is shared counts as often as it is met; a slice's spare places count too). A statement '..UptoSaid' is the law's where the arguments, and the package variables that the reading takes, are together of bulk at most 1048576: NARROWER than '..Said'. Prove '..Said' where nothing that the law and all that it calls make is longer than what came in: it says more and counts as full. Else prove '..UptoSaid'. A law counts once. -/
mutual
def uptoBulk {H : Type} : DataW H → Nat
  | .lit (.string bytes) => bytes.length + 1
  | .lit _ => 1
  | .nil => 1
  | .ptr d => uptoBulk d + 1
  | .slice elems spare => uptoBulkAll elems + uptoBulkAll spare + 1
  | .agg parts => uptoBulkAll parts + 1
  | .iface _ d => uptoBulk d + 1
  | .map entries => uptoBulkEntries entries + 1
  | .held _ => 1
def uptoBulkAll {H : Type} : List (DataW H) → Nat
  | [] => 0
  | d :: r => uptoBulk d + uptoBulkAll r
def uptoBulkEntries {H : Type} : List (Lit × DataW H) → Nat
  | [] => 0
  | x :: r => uptoBulkEntry x + uptoBulkEntries r
def uptoBulkEntry {H : Type} : Lit × DataW H → Nat
  | (.string bytes, d) => bytes.length + uptoBulk d + 1
  | (_, d) => uptoBulk d + 1
 end
def uptoSmall : (H : Type) → List (DataW H) → Bool := fun _ ds => decide (uptoBulkAll ds ≤ 1048576)
def OpenSpec.upto (s : _root_.Go.ChangeSpec) : _root_.Go.OpenSpec := { _root_.Go.OpenSpec.ofChange s with cond := some uptoSmall }

/-- 'laws.FnExactIsVowelAt', WHERE WHAT IT READS IS OF BULK AT MOST 1048576: true; the input reads as it did. -/
def fnExactIsVowelAtUptoRow : OpenClaim := { program := "ytekcmphcpkhkkaadoor", sum := "805ed12d9055e157ad81cc9312f3012e246c6f97b007bfd14d0db0cb8f888283", func := "loop.example/g02080/laws.FnExactIsVowelAt", spec := "fnExactIsVowelAt", inPlace := ["internal/bytealg.IndexByteString"], named := ["loop.example/g02080/impl.featureSounds"], apart := false, laid := [("loop.example/g02080/impl.featureSounds", laid_loop_example_g02080_impl_featureSounds)], narrowed := true }
def FnExactIsVowelAtUptoSaid : Prop := fnExactIsVowelAtUptoRow.holds Tryd.pinned (OpenSpec.upto fnExactIsVowelAtSpec)

/-- 'laws.FnExactCountVowels', WHERE WHAT IT READS IS OF BULK AT MOST 1048576: true; the input reads as it did. -/
def fnExactCountVowelsUptoRow : OpenClaim := { program := "ytekcmphcpkhkkaadoor", sum := "805ed12d9055e157ad81cc9312f3012e246c6f97b007bfd14d0db0cb8f888283", func := "loop.example/g02080/laws.FnExactCountVowels", spec := "fnExactCountVowels", inPlace := ["internal/bytealg.IndexByteString"], named := ["loop.example/g02080/impl.featureSounds"], apart := false, laid := [("loop.example/g02080/impl.featureSounds", laid_loop_example_g02080_impl_featureSounds)], narrowed := true }
def FnExactCountVowelsUptoSaid : Prop := fnExactCountVowelsUptoRow.holds Tryd.pinned (OpenSpec.upto fnExactCountVowelsSpec)

/-- 'laws.FnExactSkeletonOf', WHERE WHAT IT READS IS OF BULK AT MOST 1048576: true; the input reads as it did. -/
def fnExactSkeletonOfUptoRow : OpenClaim := { program := "ytekcmphcpkhkkaadoor", sum := "805ed12d9055e157ad81cc9312f3012e246c6f97b007bfd14d0db0cb8f888283", func := "loop.example/g02080/laws.FnExactSkeletonOf", spec := "fnExactSkeletonOf", inPlace := ["internal/bytealg.IndexByteString"], named := ["loop.example/g02080/impl.featureSounds"], apart := false, laid := [("loop.example/g02080/impl.featureSounds", laid_loop_example_g02080_impl_featureSounds)], narrowed := true }
def FnExactSkeletonOfUptoSaid : Prop := fnExactSkeletonOfUptoRow.holds Tryd.pinned (OpenSpec.upto fnExactSkeletonOfSpec)

end Rows
end Go.Proofs.YtekcmphcpkhkkaaDoor
