/-
  NARROWER THAN 'FOR EVERY INPUT', by the rows' own cells (each row's printed sentence says how): FnForms: laid · FnExactSyllablesOf: laid · FnExactCountSyllables: laid · FnExactIsRegular: laid.
  DERIVED. THE GIVEN ROWS OF THIS SEAT. 4 by the template 'for every input the law returns true; each argument reads behind the call as it read before'; 0 by the template 'total and deterministic' (their statements: YtjajbkbocbodfaaDoorTotals.lean).
  GIVEN WITH THE SEED: the statements are not yours to turn. If you find one false, say at which input.
  Laid BY PROGRAM, IN A SANDBOX (cutbox-rows.mjs): the forced cells as the released guide's own fill.sh prints them over the translation eb5f72337ec761a6… (all of the seat's roots in one cut). By AI agents, Wed Nov 11 2026. No macro, syntax, notation, axiom, sorry.
-/
import Derived.Test.YtjajbkbocbodfaaDoorChecked
import GoSem.Claim
import GoSem.ClaimJoined
import GoSem.ClaimMapViews
import Derived.JoinedTies
import Derived.KernelRfl
namespace Go.Proofs.YtjajbkbocbodfaaDoor
/- THE CELL 'sum', in the pinned program and in every row, IS THE sha256 OF THE DUMP (.gsa) THAT YtjajbkbocbodfaaDoorProg.lean LOADS. Nothing in Lean hashes anything: it is a label: what it is worth is what the hold of that sum in a sandbox is worth. -/
noncomputable def Tryd.pinned : Pinned := { name := "ytjajbkbocbodfaadoor", sum := "eb5f72337ec761a6c7c30a41d0cbe3b87edda0d4f7c67b434b4c3ccf2c273dfa", checked := Tryd.checked }
namespace Rows
def none {H : Type} : Left H := { results := [], args := [] }

/- WHAT THE LISTED PACKAGE-LEVEL VARIABLES READ AS WHEN THE CALL BEGINS. Each datum BY PROGRAM (the guide's laid-datum.mjs) off the statement by which the dump's own 'gosem.cut.vars' lays the variable. In a bare row this is a premise. The card (YtjajbkbocbodfaaDoorCards.lean) ties it to the program's text. -/
def laid_loop_example_g02080_impl_featureSounds {H : Type} : DataW H := .agg [.lit (.string [97, 105]), .lit (.string [98, 100, 110, 97, 105]), .lit (.string [110]), .lit (.string [112, 98]), .lit (.string [105])]

/-- 'laws.FnForms': WHATEVER THE INPUT: true; the input reads as it did. -/
def fnFormsSpec : ChangeSpec := { name := "fnForms", vars := ["loop.example/g02080/impl.featureSounds"], fn := fun _ => fun
  | [d, g1] => { results := [.lit (.bool true)], args := [d], vars := [g1] }
  | _ => none }
def fnFormsRow : OpenClaim := { program := "ytjajbkbocbodfaadoor", sum := "eb5f72337ec761a6c7c30a41d0cbe3b87edda0d4f7c67b434b4c3ccf2c273dfa", func := "loop.example/g02080/laws.FnForms", spec := "fnForms", inPlace := ["internal/bytealg.IndexByteString", "internal/abi.NoEscape", "internal/bytealg.MakeNoZero"], unfollowed := true, recurses := true, named := ["loop.example/g02080/impl.featureSounds"], apart := false, laid := [("loop.example/g02080/impl.featureSounds", laid_loop_example_g02080_impl_featureSounds)] }
def FnFormsSaid : Prop := fnFormsRow.holds Tryd.pinned (OpenSpec.ofChange fnFormsSpec)

/-- ITS FALSE NEIGHBOUR: 'it returns false'. Refute it at one input. -/
def fnFormsWrong : ChangeSpec := { name := "fnForms", vars := ["loop.example/g02080/impl.featureSounds"], fn := fun _ => fun
  | [d, g1] => { results := [.lit (.bool false)], args := [d], vars := [g1] }
  | _ => none }
def FnFormsWrongFalsely : Prop := fnFormsRow.holds Tryd.pinned (OpenSpec.ofChange fnFormsWrong)

/-- 'laws.FnExactSyllablesOf': WHATEVER THE INPUT: true; the input reads as it did. -/
def fnExactSyllablesOfSpec : ChangeSpec := { name := "fnExactSyllablesOf", vars := ["loop.example/g02080/impl.featureSounds"], fn := fun _ => fun
  | [d, g1] => { results := [.lit (.bool true)], args := [d], vars := [g1] }
  | _ => none }
def fnExactSyllablesOfRow : OpenClaim := { program := "ytjajbkbocbodfaadoor", sum := "eb5f72337ec761a6c7c30a41d0cbe3b87edda0d4f7c67b434b4c3ccf2c273dfa", func := "loop.example/g02080/laws.FnExactSyllablesOf", spec := "fnExactSyllablesOf", inPlace := ["internal/bytealg.IndexByteString"], named := ["loop.example/g02080/impl.featureSounds"], apart := false, laid := [("loop.example/g02080/impl.featureSounds", laid_loop_example_g02080_impl_featureSounds)] }
def FnExactSyllablesOfSaid : Prop := fnExactSyllablesOfRow.holds Tryd.pinned (OpenSpec.ofChange fnExactSyllablesOfSpec)

/-- ITS FALSE NEIGHBOUR: 'it returns false'. Refute it at one input. -/
def fnExactSyllablesOfWrong : ChangeSpec := { name := "fnExactSyllablesOf", vars := ["loop.example/g02080/impl.featureSounds"], fn := fun _ => fun
  | [d, g1] => { results := [.lit (.bool false)], args := [d], vars := [g1] }
  | _ => none }
def FnExactSyllablesOfWrongFalsely : Prop := fnExactSyllablesOfRow.holds Tryd.pinned (OpenSpec.ofChange fnExactSyllablesOfWrong)

/-- 'laws.FnExactCountSyllables': WHATEVER THE INPUT: true; the input reads as it did. -/
def fnExactCountSyllablesSpec : ChangeSpec := { name := "fnExactCountSyllables", vars := ["loop.example/g02080/impl.featureSounds"], fn := fun _ => fun
  | [d, g1] => { results := [.lit (.bool true)], args := [d], vars := [g1] }
  | _ => none }
def fnExactCountSyllablesRow : OpenClaim := { program := "ytjajbkbocbodfaadoor", sum := "eb5f72337ec761a6c7c30a41d0cbe3b87edda0d4f7c67b434b4c3ccf2c273dfa", func := "loop.example/g02080/laws.FnExactCountSyllables", spec := "fnExactCountSyllables", inPlace := ["internal/bytealg.IndexByteString"], named := ["loop.example/g02080/impl.featureSounds"], apart := false, laid := [("loop.example/g02080/impl.featureSounds", laid_loop_example_g02080_impl_featureSounds)] }
def FnExactCountSyllablesSaid : Prop := fnExactCountSyllablesRow.holds Tryd.pinned (OpenSpec.ofChange fnExactCountSyllablesSpec)

/-- ITS FALSE NEIGHBOUR: 'it returns false'. Refute it at one input. -/
def fnExactCountSyllablesWrong : ChangeSpec := { name := "fnExactCountSyllables", vars := ["loop.example/g02080/impl.featureSounds"], fn := fun _ => fun
  | [d, g1] => { results := [.lit (.bool false)], args := [d], vars := [g1] }
  | _ => none }
def FnExactCountSyllablesWrongFalsely : Prop := fnExactCountSyllablesRow.holds Tryd.pinned (OpenSpec.ofChange fnExactCountSyllablesWrong)

/-- 'laws.FnExactIsRegular': WHATEVER THE INPUT: true; the input reads as it did. -/
def fnExactIsRegularSpec : ChangeSpec := { name := "fnExactIsRegular", vars := ["loop.example/g02080/impl.featureSounds"], fn := fun _ => fun
  | [d, g1] => { results := [.lit (.bool true)], args := [d], vars := [g1] }
  | _ => none }
def fnExactIsRegularRow : OpenClaim := { program := "ytjajbkbocbodfaadoor", sum := "eb5f72337ec761a6c7c30a41d0cbe3b87edda0d4f7c67b434b4c3ccf2c273dfa", func := "loop.example/g02080/laws.FnExactIsRegular", spec := "fnExactIsRegular", inPlace := ["internal/bytealg.IndexByteString"], named := ["loop.example/g02080/impl.featureSounds"], apart := false, laid := [("loop.example/g02080/impl.featureSounds", laid_loop_example_g02080_impl_featureSounds)] }
def FnExactIsRegularSaid : Prop := fnExactIsRegularRow.holds Tryd.pinned (OpenSpec.ofChange fnExactIsRegularSpec)

/-- ITS FALSE NEIGHBOUR: 'it returns false'. Refute it at one input. -/
def fnExactIsRegularWrong : ChangeSpec := { name := "fnExactIsRegular", vars := ["loop.example/g02080/impl.featureSounds"], fn := fun _ => fun
  | [d, g1] => { results := [.lit (.bool false)], args := [d], vars := [g1] }
  | _ => none }
def FnExactIsRegularWrongFalsely : Prop := fnExactIsRegularRow.holds Tryd.pinned (OpenSpec.ofChange fnExactIsRegularWrong)

/- THE SECOND FORM. 'bulk': how many values and letters a reading holds, each counted each time it is reached (what is shared counts as often as it is met; a slice's spare places count too). A statement '..UptoSaid' is the law's where the arguments, and the package variables that the reading takes, are together of bulk at most 1048576: NARROWER than '..Said'. Prove '..Said' where nothing that the law and all that it calls make is longer than what came in: it says more and counts as full. Else prove '..UptoSaid'. A law counts once. -/
mutual
def uptoBulk {H : Type} : DataW H → Nat
  | .lit (.string bytes) => bytes.length + 1
  | .lit _ => 1
  | .nil => 1
  | .ptr d => uptoBulk d + 1
  | .slice elems spare => uptoBulkAll elems + uptoBulkAll spare + 1
  | .agg parts => uptoBulkAll parts + 1
  | .iface _ d => uptoBulk d + 1
  | .map entries => uptoBulkEntries entries + 1
  | .held _ => 1
def uptoBulkAll {H : Type} : List (DataW H) → Nat
  | [] => 0
  | d :: r => uptoBulk d + uptoBulkAll r
def uptoBulkEntries {H : Type} : List (Lit × DataW H) → Nat
  | [] => 0
  | x :: r => uptoBulkEntry x + uptoBulkEntries r
def uptoBulkEntry {H : Type} : Lit × DataW H → Nat
  | (.string bytes, d) => bytes.length + uptoBulk d + 1
  | (_, d) => uptoBulk d + 1
 end
def uptoSmall : (H : Type) → List (DataW H) → Bool := fun _ ds => decide (uptoBulkAll ds ≤ 1048576)
def OpenSpec.upto (s : _root_.Go.ChangeSpec) : _root_.Go.OpenSpec := { _root_.Go.OpenSpec.ofChange s with cond := some uptoSmall }

/-- 'laws.FnForms', WHERE WHAT IT READS IS OF BULK AT MOST 1048576: true; the input reads as it did. -/
def fnFormsUptoRow : OpenClaim := { program := "ytjajbkbocbodfaadoor", sum := "eb5f72337ec761a6c7c30a41d0cbe3b87edda0d4f7c67b434b4c3ccf2c273dfa", func := "loop.example/g02080/laws.FnForms", spec := "fnForms", inPlace := ["internal/bytealg.IndexByteString", "internal/abi.NoEscape", "internal/bytealg.MakeNoZero"], unfollowed := true, recurses := true, named := ["loop.example/g02080/impl.featureSounds"], apart := false, laid := [("loop.example/g02080/impl.featureSounds", laid_loop_example_g02080_impl_featureSounds)], narrowed := true }
def FnFormsUptoSaid : Prop := fnFormsUptoRow.holds Tryd.pinned (OpenSpec.upto fnFormsSpec)

/-- 'laws.FnExactSyllablesOf', WHERE WHAT IT READS IS OF BULK AT MOST 1048576: true; the input reads as it did. -/
def fnExactSyllablesOfUptoRow : OpenClaim := { program := "ytjajbkbocbodfaadoor", sum := "eb5f72337ec761a6c7c30a41d0cbe3b87edda0d4f7c67b434b4c3ccf2c273dfa", func := "loop.example/g02080/laws.FnExactSyllablesOf", spec := "fnExactSyllablesOf", inPlace := ["internal/bytealg.IndexByteString"], named := ["loop.example/g02080/impl.featureSounds"], apart := false, laid := [("loop.example/g02080/impl.featureSounds", laid_loop_example_g02080_impl_featureSounds)], narrowed := true }
def FnExactSyllablesOfUptoSaid : Prop := fnExactSyllablesOfUptoRow.holds Tryd.pinned (OpenSpec.upto fnExactSyllablesOfSpec)

/-- 'laws.FnExactCountSyllables', WHERE WHAT IT READS IS OF BULK AT MOST 1048576: true; the input reads as it did. -/
def fnExactCountSyllablesUptoRow : OpenClaim := { program := "ytjajbkbocbodfaadoor", sum := "eb5f72337ec761a6c7c30a41d0cbe3b87edda0d4f7c67b434b4c3ccf2c273dfa", func := "loop.example/g02080/laws.FnExactCountSyllables", spec := "fnExactCountSyllables", inPlace := ["internal/bytealg.IndexByteString"], named := ["loop.example/g02080/impl.featureSounds"], apart := false, laid := [("loop.example/g02080/impl.featureSounds", laid_loop_example_g02080_impl_featureSounds)], narrowed := true }
def FnExactCountSyllablesUptoSaid : Prop := fnExactCountSyllablesUptoRow.holds Tryd.pinned (OpenSpec.upto fnExactCountSyllablesSpec)

/-- 'laws.FnExactIsRegular', WHERE WHAT IT READS IS OF BULK AT MOST 1048576: true; the input reads as it did. -/
def fnExactIsRegularUptoRow : OpenClaim := { program := "ytjajbkbocbodfaadoor", sum := "eb5f72337ec761a6c7c30a41d0cbe3b87edda0d4f7c67b434b4c3ccf2c273dfa", func := "loop.example/g02080/laws.FnExactIsRegular", spec := "fnExactIsRegular", inPlace := ["internal/bytealg.IndexByteString"], named := ["loop.example/g02080/impl.featureSounds"], apart := false, laid := [("loop.example/g02080/impl.featureSounds", laid_loop_example_g02080_impl_featureSounds)], narrowed := true }
def FnExactIsRegularUptoSaid : Prop := fnExactIsRegularUptoRow.holds Tryd.pinned (OpenSpec.upto fnExactIsRegularSpec)

end Rows
end Go.Proofs.YtjajbkbocbodfaaDoor
