/-
  No cell of these rows narrows 'for every input' (looked for: loops, veiled, ifaces, maps, wideKeys, modest, calm, conditions, laid).
  DERIVED. THE GIVEN ROWS OF THIS SEAT. 6 by the template 'for every input the law returns true; each argument reads behind the call as it read before'; 0 by the template 'total and deterministic' (their statements: YtifmcbhgoncgjaaTotals.lean).
  GIVEN WITH THE SEED: the statements are not yours to turn. If you find one false, say at which input.
  Laid BY PROGRAM, IN A SANDBOX (cutbox-rows.mjs): the forced cells as the released guide's own fill.sh prints them over the translation d757a3476b2502f1… (all of the seat's roots in one cut). By AI agents, Wed Nov 11 2026. No macro, syntax, notation, axiom, sorry.
-/
import Derived.Test.YtifmcbhgoncgjaaChecked
import GoSem.Claim
import GoSem.ClaimJoined
import GoSem.ClaimMapViews
import Derived.JoinedTies
import Derived.KernelRfl
namespace Go.Proofs.Ytifmcbhgoncgjaa
/- THE CELL 'sum', in the pinned program and in every row, IS THE sha256 OF THE DUMP (.gsa) THAT YtifmcbhgoncgjaaProg.lean LOADS. Nothing in Lean hashes anything: it is a label: what it is worth is what the hold of that sum in a sandbox is worth. -/
noncomputable def Try.pinned : Pinned := { name := "ytifmcbhgoncgjaa", sum := "d757a3476b2502f1b54eb9236b354ca687ea0039aa8169c7368bba215355d475", checked := Try.checked }
namespace Rows
def none {H : Type} : Left H := { results := [], args := [] }

/-- 'laws.FnExactIsFooting': WHATEVER THE INPUT: true; the input reads as it did. -/
def fnExactIsFootingSpec : ChangeSpec := { name := "fnExactIsFooting", fn := fun _ => fun
  | [d] => { results := [.lit (.bool true)], args := [d] }
  | _ => none }
def fnExactIsFootingRow : OpenClaim := { program := "ytifmcbhgoncgjaa", sum := "d757a3476b2502f1b54eb9236b354ca687ea0039aa8169c7368bba215355d475", func := "loop.example/g02080/laws.FnExactIsFooting", spec := "fnExactIsFooting", apart := false }
def FnExactIsFootingSaid : Prop := fnExactIsFootingRow.holds Try.pinned (OpenSpec.ofChange fnExactIsFootingSpec)

/-- ITS FALSE NEIGHBOUR: 'it returns false'. Refute it at one input. -/
def fnExactIsFootingWrong : ChangeSpec := { name := "fnExactIsFooting", fn := fun _ => fun
  | [d] => { results := [.lit (.bool false)], args := [d] }
  | _ => none }
def FnExactIsFootingWrongFalsely : Prop := fnExactIsFootingRow.holds Try.pinned (OpenSpec.ofChange fnExactIsFootingWrong)

/-- 'laws.FnExactStressesOf': WHATEVER THE INPUT: true; the input reads as it did. -/
def fnExactStressesOfSpec : ChangeSpec := { name := "fnExactStressesOf", fn := fun _ => fun
  | [d] => { results := [.lit (.bool true)], args := [d] }
  | _ => none }
def fnExactStressesOfRow : OpenClaim := { program := "ytifmcbhgoncgjaa", sum := "d757a3476b2502f1b54eb9236b354ca687ea0039aa8169c7368bba215355d475", func := "loop.example/g02080/laws.FnExactStressesOf", spec := "fnExactStressesOf", apart := false }
def FnExactStressesOfSaid : Prop := fnExactStressesOfRow.holds Try.pinned (OpenSpec.ofChange fnExactStressesOfSpec)

/-- ITS FALSE NEIGHBOUR: 'it returns false'. Refute it at one input. -/
def fnExactStressesOfWrong : ChangeSpec := { name := "fnExactStressesOf", fn := fun _ => fun
  | [d] => { results := [.lit (.bool false)], args := [d] }
  | _ => none }
def FnExactStressesOfWrongFalsely : Prop := fnExactStressesOfRow.holds Try.pinned (OpenSpec.ofChange fnExactStressesOfWrong)

/-- 'laws.FnExactFootingsOf': WHATEVER THE INPUT: true; the input reads as it did. -/
def fnExactFootingsOfSpec : ChangeSpec := { name := "fnExactFootingsOf", fn := fun _ => fun
  | [d] => { results := [.lit (.bool true)], args := [d] }
  | _ => none }
def fnExactFootingsOfRow : OpenClaim := { program := "ytifmcbhgoncgjaa", sum := "d757a3476b2502f1b54eb9236b354ca687ea0039aa8169c7368bba215355d475", func := "loop.example/g02080/laws.FnExactFootingsOf", spec := "fnExactFootingsOf", unfollowed := true, recurses := true, apart := false }
def FnExactFootingsOfSaid : Prop := fnExactFootingsOfRow.holds Try.pinned (OpenSpec.ofChange fnExactFootingsOfSpec)

/-- ITS FALSE NEIGHBOUR: 'it returns false'. Refute it at one input. -/
def fnExactFootingsOfWrong : ChangeSpec := { name := "fnExactFootingsOf", fn := fun _ => fun
  | [d] => { results := [.lit (.bool false)], args := [d] }
  | _ => none }
def FnExactFootingsOfWrongFalsely : Prop := fnExactFootingsOfRow.holds Try.pinned (OpenSpec.ofChange fnExactFootingsOfWrong)

/-- 'laws.FnExactFootingsFor': WHATEVER THE INPUT: true; the input reads as it did. -/
def fnExactFootingsForSpec : ChangeSpec := { name := "fnExactFootingsFor", fn := fun _ => fun
  | [d] => { results := [.lit (.bool true)], args := [d] }
  | _ => none }
def fnExactFootingsForRow : OpenClaim := { program := "ytifmcbhgoncgjaa", sum := "d757a3476b2502f1b54eb9236b354ca687ea0039aa8169c7368bba215355d475", func := "loop.example/g02080/laws.FnExactFootingsFor", spec := "fnExactFootingsFor", unfollowed := true, recurses := true, apart := false }
def FnExactFootingsForSaid : Prop := fnExactFootingsForRow.holds Try.pinned (OpenSpec.ofChange fnExactFootingsForSpec)

/-- ITS FALSE NEIGHBOUR: 'it returns false'. Refute it at one input. -/
def fnExactFootingsForWrong : ChangeSpec := { name := "fnExactFootingsFor", fn := fun _ => fun
  | [d] => { results := [.lit (.bool false)], args := [d] }
  | _ => none }
def FnExactFootingsForWrongFalsely : Prop := fnExactFootingsForRow.holds Try.pinned (OpenSpec.ofChange fnExactFootingsForWrong)

/-- 'laws.FnExactFootMarks': WHATEVER THE INPUT: true; the input reads as it did. -/
def fnExactFootMarksSpec : ChangeSpec := { name := "fnExactFootMarks", fn := fun _ => fun
  | [d] => { results := [.lit (.bool true)], args := [d] }
  | _ => none }
def fnExactFootMarksRow : OpenClaim := { program := "ytifmcbhgoncgjaa", sum := "d757a3476b2502f1b54eb9236b354ca687ea0039aa8169c7368bba215355d475", func := "loop.example/g02080/laws.FnExactFootMarks", spec := "fnExactFootMarks", apart := false }
def FnExactFootMarksSaid : Prop := fnExactFootMarksRow.holds Try.pinned (OpenSpec.ofChange fnExactFootMarksSpec)

/-- ITS FALSE NEIGHBOUR: 'it returns false'. Refute it at one input. -/
def fnExactFootMarksWrong : ChangeSpec := { name := "fnExactFootMarks", fn := fun _ => fun
  | [d] => { results := [.lit (.bool false)], args := [d] }
  | _ => none }
def FnExactFootMarksWrongFalsely : Prop := fnExactFootMarksRow.holds Try.pinned (OpenSpec.ofChange fnExactFootMarksWrong)

/-- 'laws.FnExactEqualFootings': WHATEVER THE INPUT: true; the input reads as it did. -/
def fnExactEqualFootingsSpec : ChangeSpec := { name := "fnExactEqualFootings", fn := fun _ => fun
  | [d1, d2] => { results := [.lit (.bool true)], args := [d1, d2] }
  | _ => none }
def fnExactEqualFootingsRow : OpenClaim := { program := "ytifmcbhgoncgjaa", sum := "d757a3476b2502f1b54eb9236b354ca687ea0039aa8169c7368bba215355d475", func := "loop.example/g02080/laws.FnExactEqualFootings", spec := "fnExactEqualFootings", apart := false }
def FnExactEqualFootingsSaid : Prop := fnExactEqualFootingsRow.holds Try.pinned (OpenSpec.ofChange fnExactEqualFootingsSpec)

/-- ITS FALSE NEIGHBOUR: 'it returns false'. Refute it at one input. -/
def fnExactEqualFootingsWrong : ChangeSpec := { name := "fnExactEqualFootings", fn := fun _ => fun
  | [d1, d2] => { results := [.lit (.bool false)], args := [d1, d2] }
  | _ => none }
def FnExactEqualFootingsWrongFalsely : Prop := fnExactEqualFootingsRow.holds Try.pinned (OpenSpec.ofChange fnExactEqualFootingsWrong)

/- THE SECOND FORM. 'bulk': how many values and letters a reading holds, each counted each time it is reached (what is shared counts as often as it is met; a slice's spare places count too). A statement '..UptoSaid' is the law's where the arguments, and the package variables that the reading takes, are together of bulk at most 1048576: NARROWER than '..Said'. Prove '..Said' where nothing that the law and all that it calls make is longer than what came in: it says more and counts as full. Else prove '..UptoSaid'. A law counts once. -/
mutual
def uptoBulk {H : Type} : DataW H → Nat
  | .lit (.string bytes) => bytes.length + 1
  | .lit _ => 1
  | .nil => 1
  | .ptr d => uptoBulk d + 1
  | .slice elems spare => uptoBulkAll elems + uptoBulkAll spare + 1
  | .agg parts => uptoBulkAll parts + 1
  | .iface _ d => uptoBulk d + 1
  | .map entries => uptoBulkEntries entries + 1
  | .held _ => 1
def uptoBulkAll {H : Type} : List (DataW H) → Nat
  | [] => 0
  | d :: r => uptoBulk d + uptoBulkAll r
def uptoBulkEntries {H : Type} : List (Lit × DataW H) → Nat
  | [] => 0
  | x :: r => uptoBulkEntry x + uptoBulkEntries r
def uptoBulkEntry {H : Type} : Lit × DataW H → Nat
  | (.string bytes, d) => bytes.length + uptoBulk d + 1
  | (_, d) => uptoBulk d + 1
 end
def uptoSmall : (H : Type) → List (DataW H) → Bool := fun _ ds => decide (uptoBulkAll ds ≤ 1048576)
def OpenSpec.upto (s : _root_.Go.ChangeSpec) : _root_.Go.OpenSpec := { _root_.Go.OpenSpec.ofChange s with cond := some uptoSmall }

/-- 'laws.FnExactIsFooting', WHERE WHAT IT READS IS OF BULK AT MOST 1048576: true; the input reads as it did. -/
def fnExactIsFootingUptoRow : OpenClaim := { program := "ytifmcbhgoncgjaa", sum := "d757a3476b2502f1b54eb9236b354ca687ea0039aa8169c7368bba215355d475", func := "loop.example/g02080/laws.FnExactIsFooting", spec := "fnExactIsFooting", apart := false, narrowed := true }
def FnExactIsFootingUptoSaid : Prop := fnExactIsFootingUptoRow.holds Try.pinned (OpenSpec.upto fnExactIsFootingSpec)

/-- 'laws.FnExactStressesOf', WHERE WHAT IT READS IS OF BULK AT MOST 1048576: true; the input reads as it did. -/
def fnExactStressesOfUptoRow : OpenClaim := { program := "ytifmcbhgoncgjaa", sum := "d757a3476b2502f1b54eb9236b354ca687ea0039aa8169c7368bba215355d475", func := "loop.example/g02080/laws.FnExactStressesOf", spec := "fnExactStressesOf", apart := false, narrowed := true }
def FnExactStressesOfUptoSaid : Prop := fnExactStressesOfUptoRow.holds Try.pinned (OpenSpec.upto fnExactStressesOfSpec)

/-- 'laws.FnExactFootingsOf', WHERE WHAT IT READS IS OF BULK AT MOST 1048576: true; the input reads as it did. -/
def fnExactFootingsOfUptoRow : OpenClaim := { program := "ytifmcbhgoncgjaa", sum := "d757a3476b2502f1b54eb9236b354ca687ea0039aa8169c7368bba215355d475", func := "loop.example/g02080/laws.FnExactFootingsOf", spec := "fnExactFootingsOf", unfollowed := true, recurses := true, apart := false, narrowed := true }
def FnExactFootingsOfUptoSaid : Prop := fnExactFootingsOfUptoRow.holds Try.pinned (OpenSpec.upto fnExactFootingsOfSpec)

/-- 'laws.FnExactFootingsFor', WHERE WHAT IT READS IS OF BULK AT MOST 1048576: true; the input reads as it did. -/
def fnExactFootingsForUptoRow : OpenClaim := { program := "ytifmcbhgoncgjaa", sum := "d757a3476b2502f1b54eb9236b354ca687ea0039aa8169c7368bba215355d475", func := "loop.example/g02080/laws.FnExactFootingsFor", spec := "fnExactFootingsFor", unfollowed := true, recurses := true, apart := false, narrowed := true }
def FnExactFootingsForUptoSaid : Prop := fnExactFootingsForUptoRow.holds Try.pinned (OpenSpec.upto fnExactFootingsForSpec)

/-- 'laws.FnExactFootMarks', WHERE WHAT IT READS IS OF BULK AT MOST 1048576: true; the input reads as it did. -/
def fnExactFootMarksUptoRow : OpenClaim := { program := "ytifmcbhgoncgjaa", sum := "d757a3476b2502f1b54eb9236b354ca687ea0039aa8169c7368bba215355d475", func := "loop.example/g02080/laws.FnExactFootMarks", spec := "fnExactFootMarks", apart := false, narrowed := true }
def FnExactFootMarksUptoSaid : Prop := fnExactFootMarksUptoRow.holds Try.pinned (OpenSpec.upto fnExactFootMarksSpec)

/-- 'laws.FnExactEqualFootings', WHERE WHAT IT READS IS OF BULK AT MOST 1048576: true; the input reads as it did. -/
def fnExactEqualFootingsUptoRow : OpenClaim := { program := "ytifmcbhgoncgjaa", sum := "d757a3476b2502f1b54eb9236b354ca687ea0039aa8169c7368bba215355d475", func := "loop.example/g02080/laws.FnExactEqualFootings", spec := "fnExactEqualFootings", apart := false, narrowed := true }
def FnExactEqualFootingsUptoSaid : Prop := fnExactEqualFootingsUptoRow.holds Try.pinned (OpenSpec.upto fnExactEqualFootingsSpec)

end Rows
end Go.Proofs.Ytifmcbhgoncgjaa
