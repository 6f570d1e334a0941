/-
  No cell of these rows narrows 'for every input' (looked for: loops, veiled, ifaces, maps, wideKeys, modest, calm, conditions, laid).
  DERIVED. THE GIVEN ROWS OF THIS SEAT. 4 by the template 'for every input the law returns true; each argument reads behind the call as it read before'; 0 by the template 'total and deterministic' (their statements: YtjhfoifdaiilhaaTotals.lean).
  GIVEN WITH THE SEED: the statements are not yours to turn. If you find one false, say at which input.
  Laid BY PROGRAM, IN A SANDBOX (cutbox-rows.mjs): the forced cells as the released guide's own fill.sh prints them over the translation bc3dc8b4822c9315… (all of the seat's roots in one cut). By AI agents, Wed Nov 11 2026. No macro, syntax, notation, axiom, sorry.
-/
import Derived.Test.YtjhfoifdaiilhaaChecked
import GoSem.Claim
import GoSem.ClaimJoined
import GoSem.ClaimMapViews
import Derived.JoinedTies
import Derived.KernelRfl
namespace Go.Proofs.Ytjhfoifdaiilhaa
/- THE CELL 'sum', in the pinned program and in every row, IS THE sha256 OF THE DUMP (.gsa) THAT YtjhfoifdaiilhaaProg.lean LOADS. Nothing in Lean hashes anything: it is a label: what it is worth is what the hold of that sum in a sandbox is worth. -/
noncomputable def Try.pinned : Pinned := { name := "ytjhfoifdaiilhaa", sum := "bc3dc8b4822c931526ae5dc609073a60ef2be98a685fc6710b268d5a665e3e38", checked := Try.checked }
namespace Rows
def none {H : Type} : Left H := { results := [], args := [] }

/-- 'laws.FnExactConstraintNames': WHATEVER THE INPUT: true; the input reads as it did. -/
def fnExactConstraintNamesSpec : ChangeSpec := { name := "fnExactConstraintNames", fn := fun _ => fun
  | [] => { results := [.lit (.bool true)], args := [] }
  | _ => none }
def fnExactConstraintNamesRow : OpenClaim := { program := "ytjhfoifdaiilhaa", sum := "bc3dc8b4822c931526ae5dc609073a60ef2be98a685fc6710b268d5a665e3e38", func := "loop.example/g02080/laws.FnExactConstraintNames", spec := "fnExactConstraintNames", apart := false }
def FnExactConstraintNamesSaid : Prop := fnExactConstraintNamesRow.holds Try.pinned (OpenSpec.ofChange fnExactConstraintNamesSpec)

/-- ITS FALSE NEIGHBOUR: 'it returns false'. Refute it at one input. -/
def fnExactConstraintNamesWrong : ChangeSpec := { name := "fnExactConstraintNames", fn := fun _ => fun
  | [] => { results := [.lit (.bool false)], args := [] }
  | _ => none }
def FnExactConstraintNamesWrongFalsely : Prop := fnExactConstraintNamesRow.holds Try.pinned (OpenSpec.ofChange fnExactConstraintNamesWrong)

/-- 'laws.FnExactIsMarkedness': WHATEVER THE INPUT: true; the input reads as it did. -/
def fnExactIsMarkednessSpec : ChangeSpec := { name := "fnExactIsMarkedness", fn := fun _ => fun
  | [d] => { results := [.lit (.bool true)], args := [d] }
  | _ => none }
def fnExactIsMarkednessRow : OpenClaim := { program := "ytjhfoifdaiilhaa", sum := "bc3dc8b4822c931526ae5dc609073a60ef2be98a685fc6710b268d5a665e3e38", func := "loop.example/g02080/laws.FnExactIsMarkedness", spec := "fnExactIsMarkedness", apart := false }
def FnExactIsMarkednessSaid : Prop := fnExactIsMarkednessRow.holds Try.pinned (OpenSpec.ofChange fnExactIsMarkednessSpec)

/-- ITS FALSE NEIGHBOUR: 'it returns false'. Refute it at one input. -/
def fnExactIsMarkednessWrong : ChangeSpec := { name := "fnExactIsMarkedness", fn := fun _ => fun
  | [d] => { results := [.lit (.bool false)], args := [d] }
  | _ => none }
def FnExactIsMarkednessWrongFalsely : Prop := fnExactIsMarkednessRow.holds Try.pinned (OpenSpec.ofChange fnExactIsMarkednessWrong)

/-- 'laws.FnExactAreConstraints': WHATEVER THE INPUT: true; the input reads as it did. -/
def fnExactAreConstraintsSpec : ChangeSpec := { name := "fnExactAreConstraints", fn := fun _ => fun
  | [d] => { results := [.lit (.bool true)], args := [d] }
  | _ => none }
def fnExactAreConstraintsRow : OpenClaim := { program := "ytjhfoifdaiilhaa", sum := "bc3dc8b4822c931526ae5dc609073a60ef2be98a685fc6710b268d5a665e3e38", func := "loop.example/g02080/laws.FnExactAreConstraints", spec := "fnExactAreConstraints", apart := false }
def FnExactAreConstraintsSaid : Prop := fnExactAreConstraintsRow.holds Try.pinned (OpenSpec.ofChange fnExactAreConstraintsSpec)

/-- ITS FALSE NEIGHBOUR: 'it returns false'. Refute it at one input. -/
def fnExactAreConstraintsWrong : ChangeSpec := { name := "fnExactAreConstraints", fn := fun _ => fun
  | [d] => { results := [.lit (.bool false)], args := [d] }
  | _ => none }
def FnExactAreConstraintsWrongFalsely : Prop := fnExactAreConstraintsRow.holds Try.pinned (OpenSpec.ofChange fnExactAreConstraintsWrong)

/-- 'laws.FnExactFormatNames': WHATEVER THE INPUT: true; the input reads as it did. -/
def fnExactFormatNamesSpec : ChangeSpec := { name := "fnExactFormatNames", fn := fun _ => fun
  | [d] => { results := [.lit (.bool true)], args := [d] }
  | _ => none }
def fnExactFormatNamesRow : OpenClaim := { program := "ytjhfoifdaiilhaa", sum := "bc3dc8b4822c931526ae5dc609073a60ef2be98a685fc6710b268d5a665e3e38", func := "loop.example/g02080/laws.FnExactFormatNames", spec := "fnExactFormatNames", inPlace := ["internal/abi.NoEscape", "internal/bytealg.MakeNoZero"], apart := false }
def FnExactFormatNamesSaid : Prop := fnExactFormatNamesRow.holds Try.pinned (OpenSpec.ofChange fnExactFormatNamesSpec)

/-- ITS FALSE NEIGHBOUR: 'it returns false'. Refute it at one input. -/
def fnExactFormatNamesWrong : ChangeSpec := { name := "fnExactFormatNames", fn := fun _ => fun
  | [d] => { results := [.lit (.bool false)], args := [d] }
  | _ => none }
def FnExactFormatNamesWrongFalsely : Prop := fnExactFormatNamesRow.holds Try.pinned (OpenSpec.ofChange fnExactFormatNamesWrong)

/- THE SECOND FORM. 'bulk': how many values and letters a reading holds, each counted each time it is reached (what is shared counts as often as it is met; a slice's spare places count too). A statement '..UptoSaid' is the law's where the arguments, and the package variables that the reading takes, are together of bulk at most 1048576: NARROWER than '..Said'. Prove '..Said' where nothing that the law and all that it calls make is longer than what came in: it says more and counts as full. Else prove '..UptoSaid'. A law counts once. -/
mutual
def uptoBulk {H : Type} : DataW H → Nat
  | .lit (.string bytes) => bytes.length + 1
  | .lit _ => 1
  | .nil => 1
  | .ptr d => uptoBulk d + 1
  | .slice elems spare => uptoBulkAll elems + uptoBulkAll spare + 1
  | .agg parts => uptoBulkAll parts + 1
  | .iface _ d => uptoBulk d + 1
  | .map entries => uptoBulkEntries entries + 1
  | .held _ => 1
def uptoBulkAll {H : Type} : List (DataW H) → Nat
  | [] => 0
  | d :: r => uptoBulk d + uptoBulkAll r
def uptoBulkEntries {H : Type} : List (Lit × DataW H) → Nat
  | [] => 0
  | x :: r => uptoBulkEntry x + uptoBulkEntries r
def uptoBulkEntry {H : Type} : Lit × DataW H → Nat
  | (.string bytes, d) => bytes.length + uptoBulk d + 1
  | (_, d) => uptoBulk d + 1
 end
def uptoSmall : (H : Type) → List (DataW H) → Bool := fun _ ds => decide (uptoBulkAll ds ≤ 1048576)
def OpenSpec.upto (s : _root_.Go.ChangeSpec) : _root_.Go.OpenSpec := { _root_.Go.OpenSpec.ofChange s with cond := some uptoSmall }

/-- 'laws.FnExactConstraintNames', WHERE WHAT IT READS IS OF BULK AT MOST 1048576: true; the input reads as it did. -/
def fnExactConstraintNamesUptoRow : OpenClaim := { program := "ytjhfoifdaiilhaa", sum := "bc3dc8b4822c931526ae5dc609073a60ef2be98a685fc6710b268d5a665e3e38", func := "loop.example/g02080/laws.FnExactConstraintNames", spec := "fnExactConstraintNames", apart := false, narrowed := true }
def FnExactConstraintNamesUptoSaid : Prop := fnExactConstraintNamesUptoRow.holds Try.pinned (OpenSpec.upto fnExactConstraintNamesSpec)

/-- 'laws.FnExactIsMarkedness', WHERE WHAT IT READS IS OF BULK AT MOST 1048576: true; the input reads as it did. -/
def fnExactIsMarkednessUptoRow : OpenClaim := { program := "ytjhfoifdaiilhaa", sum := "bc3dc8b4822c931526ae5dc609073a60ef2be98a685fc6710b268d5a665e3e38", func := "loop.example/g02080/laws.FnExactIsMarkedness", spec := "fnExactIsMarkedness", apart := false, narrowed := true }
def FnExactIsMarkednessUptoSaid : Prop := fnExactIsMarkednessUptoRow.holds Try.pinned (OpenSpec.upto fnExactIsMarkednessSpec)

/-- 'laws.FnExactAreConstraints', WHERE WHAT IT READS IS OF BULK AT MOST 1048576: true; the input reads as it did. -/
def fnExactAreConstraintsUptoRow : OpenClaim := { program := "ytjhfoifdaiilhaa", sum := "bc3dc8b4822c931526ae5dc609073a60ef2be98a685fc6710b268d5a665e3e38", func := "loop.example/g02080/laws.FnExactAreConstraints", spec := "fnExactAreConstraints", apart := false, narrowed := true }
def FnExactAreConstraintsUptoSaid : Prop := fnExactAreConstraintsUptoRow.holds Try.pinned (OpenSpec.upto fnExactAreConstraintsSpec)

/-- 'laws.FnExactFormatNames', WHERE WHAT IT READS IS OF BULK AT MOST 1048576: true; the input reads as it did. -/
def fnExactFormatNamesUptoRow : OpenClaim := { program := "ytjhfoifdaiilhaa", sum := "bc3dc8b4822c931526ae5dc609073a60ef2be98a685fc6710b268d5a665e3e38", func := "loop.example/g02080/laws.FnExactFormatNames", spec := "fnExactFormatNames", inPlace := ["internal/abi.NoEscape", "internal/bytealg.MakeNoZero"], apart := false, narrowed := true }
def FnExactFormatNamesUptoSaid : Prop := fnExactFormatNamesUptoRow.holds Try.pinned (OpenSpec.upto fnExactFormatNamesSpec)

end Rows
end Go.Proofs.Ytjhfoifdaiilhaa
