/-
  NARROWER THAN 'FOR EVERY INPUT', by the rows' own cells (each row's printed sentence says how): FnExactWinnersOf: laid · FnExactOptimalOutputs: laid · FnExactFatalMark: laid · FnExactOnlyRows: laid · FnExactProfileOf: laid · FnExactIsTableau: laid · FnExactRowWith: laid · FnExactDistinctProfiles: laid · FnExactFormatRow: laid.
  DERIVED. THE GIVEN ROWS OF THIS SEAT. 9 by the template 'for every input the law returns true; each argument reads behind the call as it read before'; 0 by the template 'total and deterministic' (their statements: YtkaihnlknncfdaaGreatDoorTotals.lean).
  GIVEN WITH THE SEED: the statements are not yours to turn. If you find one false, say at which input.
  Laid BY PROGRAM, IN A SANDBOX (cutbox-rows.mjs): the forced cells as the released guide's own fill.sh prints them over the translation 280e338c03f36f70… (all of the seat's roots in one cut). By AI agents, Wed Nov 11 2026. No macro, syntax, notation, axiom, sorry.
-/
import Derived.Test.YtkaihnlknncfdaaGreatDoorChecked
import GoSem.Claim
import GoSem.ClaimJoined
import GoSem.ClaimMapViews
import Derived.JoinedTies
import Derived.KernelRfl
namespace Go.Proofs.YtkaihnlknncfdaaGreatDoor
/- THE CELL 'sum', in the pinned program and in every row, IS THE sha256 OF THE DUMP (.gsa) THAT YtkaihnlknncfdaaGreatDoorProg.lean LOADS. Nothing in Lean hashes anything: it is a label: what it is worth is what the hold of that sum in a sandbox is worth. -/
noncomputable def Tryz.pinned : Pinned := { name := "ytkaihnlknncfdaagreatdoor", sum := "280e338c03f36f70feab87f58e6ff55fa23fb7ec624f219c253bc47b893296d0", checked := Tryz.checked }
namespace Rows
def none {H : Type} : Left H := { results := [], args := [] }

/- WHAT THE LISTED PACKAGE-LEVEL VARIABLES READ AS WHEN THE CALL BEGINS. Each datum BY PROGRAM (the guide's laid-datum.mjs) off the statement by which the dump's own 'gosem.cut.vars' lays the variable. In a bare row this is a premise. The card (YtkaihnlknncfdaaGreatDoorCards.lean) ties it to the program's text. -/
def laid_loop_example_g02080_impl_featureSounds {H : Type} : DataW H := .agg [.lit (.string [97, 105]), .lit (.string [98, 100, 110, 97, 105]), .lit (.string [110]), .lit (.string [112, 98]), .lit (.string [105])]
def laid_math_bits_deBruijn32tab {H : Type} : DataW H := .agg [.lit (.int .u8 0), .lit (.int .u8 1), .lit (.int .u8 28), .lit (.int .u8 2), .lit (.int .u8 29), .lit (.int .u8 14), .lit (.int .u8 24), .lit (.int .u8 3), .lit (.int .u8 30), .lit (.int .u8 22), .lit (.int .u8 20), .lit (.int .u8 15), .lit (.int .u8 25), .lit (.int .u8 17), .lit (.int .u8 4), .lit (.int .u8 8), .lit (.int .u8 31), .lit (.int .u8 27), .lit (.int .u8 13), .lit (.int .u8 23), .lit (.int .u8 21), .lit (.int .u8 19), .lit (.int .u8 16), .lit (.int .u8 7), .lit (.int .u8 26), .lit (.int .u8 12), .lit (.int .u8 18), .lit (.int .u8 6), .lit (.int .u8 11), .lit (.int .u8 5), .lit (.int .u8 10), .lit (.int .u8 9)]
def laid_math_bits_deBruijn64tab {H : Type} : DataW H := .agg [.lit (.int .u8 0), .lit (.int .u8 1), .lit (.int .u8 56), .lit (.int .u8 2), .lit (.int .u8 57), .lit (.int .u8 49), .lit (.int .u8 28), .lit (.int .u8 3), .lit (.int .u8 61), .lit (.int .u8 58), .lit (.int .u8 42), .lit (.int .u8 50), .lit (.int .u8 38), .lit (.int .u8 29), .lit (.int .u8 17), .lit (.int .u8 4), .lit (.int .u8 62), .lit (.int .u8 47), .lit (.int .u8 59), .lit (.int .u8 36), .lit (.int .u8 45), .lit (.int .u8 43), .lit (.int .u8 51), .lit (.int .u8 22), .lit (.int .u8 53), .lit (.int .u8 39), .lit (.int .u8 33), .lit (.int .u8 30), .lit (.int .u8 24), .lit (.int .u8 18), .lit (.int .u8 12), .lit (.int .u8 5), .lit (.int .u8 63), .lit (.int .u8 55), .lit (.int .u8 48), .lit (.int .u8 27), .lit (.int .u8 60), .lit (.int .u8 41), .lit (.int .u8 37), .lit (.int .u8 16), .lit (.int .u8 46), .lit (.int .u8 35), .lit (.int .u8 44), .lit (.int .u8 21), .lit (.int .u8 52), .lit (.int .u8 32), .lit (.int .u8 23), .lit (.int .u8 11), .lit (.int .u8 54), .lit (.int .u8 26), .lit (.int .u8 40), .lit (.int .u8 15), .lit (.int .u8 34), .lit (.int .u8 20), .lit (.int .u8 31), .lit (.int .u8 10), .lit (.int .u8 25), .lit (.int .u8 14), .lit (.int .u8 19), .lit (.int .u8 9), .lit (.int .u8 13), .lit (.int .u8 8), .lit (.int .u8 7), .lit (.int .u8 6)]
def laid_internal_strconv_uint64pow10 {H : Type} : DataW H := .agg [.lit (.int .u64 1), .lit (.int .u64 10), .lit (.int .u64 100), .lit (.int .u64 1000), .lit (.int .u64 10000), .lit (.int .u64 100000), .lit (.int .u64 1000000), .lit (.int .u64 10000000), .lit (.int .u64 100000000), .lit (.int .u64 1000000000), .lit (.int .u64 10000000000), .lit (.int .u64 100000000000), .lit (.int .u64 1000000000000), .lit (.int .u64 10000000000000), .lit (.int .u64 100000000000000), .lit (.int .u64 1000000000000000), .lit (.int .u64 10000000000000000), .lit (.int .u64 100000000000000000), .lit (.int .u64 1000000000000000000), .lit (.int .u64 10000000000000000000)]

/-- 'laws.FnExactWinnersOf': WHATEVER THE INPUT: true; the input reads as it did. -/
def fnExactWinnersOfSpec : ChangeSpec := { name := "fnExactWinnersOf", vars := ["loop.example/g02080/impl.featureSounds"], fn := fun _ => fun
  | [d1, d2, g1] => { results := [.lit (.bool true)], args := [d1, d2], vars := [g1] }
  | _ => none }
def fnExactWinnersOfRow : OpenClaim := { program := "ytkaihnlknncfdaagreatdoor", sum := "280e338c03f36f70feab87f58e6ff55fa23fb7ec624f219c253bc47b893296d0", func := "loop.example/g02080/laws.FnExactWinnersOf", spec := "fnExactWinnersOf", inPlace := ["internal/bytealg.IndexByteString"], unfollowed := true, recurses := true, named := ["loop.example/g02080/impl.featureSounds"], apart := false, laid := [("loop.example/g02080/impl.featureSounds", laid_loop_example_g02080_impl_featureSounds)] }
def FnExactWinnersOfSaid : Prop := fnExactWinnersOfRow.holds Tryz.pinned (OpenSpec.ofChange fnExactWinnersOfSpec)

/-- ITS FALSE NEIGHBOUR: 'it returns false'. Refute it at one input. -/
def fnExactWinnersOfWrong : ChangeSpec := { name := "fnExactWinnersOf", vars := ["loop.example/g02080/impl.featureSounds"], fn := fun _ => fun
  | [d1, d2, g1] => { results := [.lit (.bool false)], args := [d1, d2], vars := [g1] }
  | _ => none }
def FnExactWinnersOfWrongFalsely : Prop := fnExactWinnersOfRow.holds Tryz.pinned (OpenSpec.ofChange fnExactWinnersOfWrong)

/-- 'laws.FnExactOptimalOutputs': WHATEVER THE INPUT: true; the input reads as it did. -/
def fnExactOptimalOutputsSpec : ChangeSpec := { name := "fnExactOptimalOutputs", vars := ["loop.example/g02080/impl.featureSounds"], fn := fun _ => fun
  | [d1, d2, g1] => { results := [.lit (.bool true)], args := [d1, d2], vars := [g1] }
  | _ => none }
def fnExactOptimalOutputsRow : OpenClaim := { program := "ytkaihnlknncfdaagreatdoor", sum := "280e338c03f36f70feab87f58e6ff55fa23fb7ec624f219c253bc47b893296d0", func := "loop.example/g02080/laws.FnExactOptimalOutputs", spec := "fnExactOptimalOutputs", inPlace := ["internal/bytealg.IndexByteString"], unfollowed := true, recurses := true, named := ["loop.example/g02080/impl.featureSounds"], apart := false, laid := [("loop.example/g02080/impl.featureSounds", laid_loop_example_g02080_impl_featureSounds)] }
def FnExactOptimalOutputsSaid : Prop := fnExactOptimalOutputsRow.holds Tryz.pinned (OpenSpec.ofChange fnExactOptimalOutputsSpec)

/-- ITS FALSE NEIGHBOUR: 'it returns false'. Refute it at one input. -/
def fnExactOptimalOutputsWrong : ChangeSpec := { name := "fnExactOptimalOutputs", vars := ["loop.example/g02080/impl.featureSounds"], fn := fun _ => fun
  | [d1, d2, g1] => { results := [.lit (.bool false)], args := [d1, d2], vars := [g1] }
  | _ => none }
def FnExactOptimalOutputsWrongFalsely : Prop := fnExactOptimalOutputsRow.holds Tryz.pinned (OpenSpec.ofChange fnExactOptimalOutputsWrong)

/-- 'laws.FnExactFatalMark': WHATEVER THE INPUT: true; the input reads as it did. -/
def fnExactFatalMarkSpec : ChangeSpec := { name := "fnExactFatalMark", vars := ["loop.example/g02080/impl.featureSounds"], fn := fun _ => fun
  | [d1, d2, d3, g1] => { results := [.lit (.bool true)], args := [d1, d2, d3], vars := [g1] }
  | _ => none }
def fnExactFatalMarkRow : OpenClaim := { program := "ytkaihnlknncfdaagreatdoor", sum := "280e338c03f36f70feab87f58e6ff55fa23fb7ec624f219c253bc47b893296d0", func := "loop.example/g02080/laws.FnExactFatalMark", spec := "fnExactFatalMark", inPlace := ["internal/bytealg.IndexByteString"], unfollowed := true, recurses := true, named := ["loop.example/g02080/impl.featureSounds"], apart := false, laid := [("loop.example/g02080/impl.featureSounds", laid_loop_example_g02080_impl_featureSounds)] }
def FnExactFatalMarkSaid : Prop := fnExactFatalMarkRow.holds Tryz.pinned (OpenSpec.ofChange fnExactFatalMarkSpec)

/-- ITS FALSE NEIGHBOUR: 'it returns false'. Refute it at one input. -/
def fnExactFatalMarkWrong : ChangeSpec := { name := "fnExactFatalMark", vars := ["loop.example/g02080/impl.featureSounds"], fn := fun _ => fun
  | [d1, d2, d3, g1] => { results := [.lit (.bool false)], args := [d1, d2, d3], vars := [g1] }
  | _ => none }
def FnExactFatalMarkWrongFalsely : Prop := fnExactFatalMarkRow.holds Tryz.pinned (OpenSpec.ofChange fnExactFatalMarkWrong)

/-- 'laws.FnExactOnlyRows': WHATEVER THE INPUT: true; the input reads as it did. -/
def fnExactOnlyRowsSpec : ChangeSpec := { name := "fnExactOnlyRows", vars := ["loop.example/g02080/impl.featureSounds"], fn := fun _ => fun
  | [d1, d2, g1] => { results := [.lit (.bool true)], args := [d1, d2], vars := [g1] }
  | _ => none }
def fnExactOnlyRowsRow : OpenClaim := { program := "ytkaihnlknncfdaagreatdoor", sum := "280e338c03f36f70feab87f58e6ff55fa23fb7ec624f219c253bc47b893296d0", func := "loop.example/g02080/laws.FnExactOnlyRows", spec := "fnExactOnlyRows", inPlace := ["internal/bytealg.IndexByteString"], unfollowed := true, recurses := true, named := ["loop.example/g02080/impl.featureSounds"], apart := false, laid := [("loop.example/g02080/impl.featureSounds", laid_loop_example_g02080_impl_featureSounds)] }
def FnExactOnlyRowsSaid : Prop := fnExactOnlyRowsRow.holds Tryz.pinned (OpenSpec.ofChange fnExactOnlyRowsSpec)

/-- ITS FALSE NEIGHBOUR: 'it returns false'. Refute it at one input. -/
def fnExactOnlyRowsWrong : ChangeSpec := { name := "fnExactOnlyRows", vars := ["loop.example/g02080/impl.featureSounds"], fn := fun _ => fun
  | [d1, d2, g1] => { results := [.lit (.bool false)], args := [d1, d2], vars := [g1] }
  | _ => none }
def FnExactOnlyRowsWrongFalsely : Prop := fnExactOnlyRowsRow.holds Tryz.pinned (OpenSpec.ofChange fnExactOnlyRowsWrong)

/-- 'laws.FnExactProfileOf': WHATEVER THE INPUT: true; the input reads as it did. -/
def fnExactProfileOfSpec : ChangeSpec := { name := "fnExactProfileOf", vars := ["loop.example/g02080/impl.featureSounds"], fn := fun _ => fun
  | [d1, d2, g1] => { results := [.lit (.bool true)], args := [d1, d2], vars := [g1] }
  | _ => none }
def fnExactProfileOfRow : OpenClaim := { program := "ytkaihnlknncfdaagreatdoor", sum := "280e338c03f36f70feab87f58e6ff55fa23fb7ec624f219c253bc47b893296d0", func := "loop.example/g02080/laws.FnExactProfileOf", spec := "fnExactProfileOf", inPlace := ["internal/bytealg.IndexByteString"], unfollowed := true, recurses := true, named := ["loop.example/g02080/impl.featureSounds"], apart := false, laid := [("loop.example/g02080/impl.featureSounds", laid_loop_example_g02080_impl_featureSounds)] }
def FnExactProfileOfSaid : Prop := fnExactProfileOfRow.holds Tryz.pinned (OpenSpec.ofChange fnExactProfileOfSpec)

/-- ITS FALSE NEIGHBOUR: 'it returns false'. Refute it at one input. -/
def fnExactProfileOfWrong : ChangeSpec := { name := "fnExactProfileOf", vars := ["loop.example/g02080/impl.featureSounds"], fn := fun _ => fun
  | [d1, d2, g1] => { results := [.lit (.bool false)], args := [d1, d2], vars := [g1] }
  | _ => none }
def FnExactProfileOfWrongFalsely : Prop := fnExactProfileOfRow.holds Tryz.pinned (OpenSpec.ofChange fnExactProfileOfWrong)

/-- 'laws.FnExactIsTableau': WHATEVER THE INPUT: true; the input reads as it did. -/
def fnExactIsTableauSpec : ChangeSpec := { name := "fnExactIsTableau", vars := ["loop.example/g02080/impl.featureSounds"], fn := fun _ => fun
  | [d, g1] => { results := [.lit (.bool true)], args := [d], vars := [g1] }
  | _ => none }
def fnExactIsTableauRow : OpenClaim := { program := "ytkaihnlknncfdaagreatdoor", sum := "280e338c03f36f70feab87f58e6ff55fa23fb7ec624f219c253bc47b893296d0", func := "loop.example/g02080/laws.FnExactIsTableau", spec := "fnExactIsTableau", inPlace := ["internal/bytealg.IndexByteString"], unfollowed := true, recurses := true, named := ["loop.example/g02080/impl.featureSounds"], apart := false, laid := [("loop.example/g02080/impl.featureSounds", laid_loop_example_g02080_impl_featureSounds)] }
def FnExactIsTableauSaid : Prop := fnExactIsTableauRow.holds Tryz.pinned (OpenSpec.ofChange fnExactIsTableauSpec)

/-- ITS FALSE NEIGHBOUR: 'it returns false'. Refute it at one input. -/
def fnExactIsTableauWrong : ChangeSpec := { name := "fnExactIsTableau", vars := ["loop.example/g02080/impl.featureSounds"], fn := fun _ => fun
  | [d, g1] => { results := [.lit (.bool false)], args := [d], vars := [g1] }
  | _ => none }
def FnExactIsTableauWrongFalsely : Prop := fnExactIsTableauRow.holds Tryz.pinned (OpenSpec.ofChange fnExactIsTableauWrong)

/-- 'laws.FnExactRowWith': WHATEVER THE INPUT: true; the input reads as it did. -/
def fnExactRowWithSpec : ChangeSpec := { name := "fnExactRowWith", vars := ["loop.example/g02080/impl.featureSounds"], fn := fun _ => fun
  | [d1, d2, g1] => { results := [.lit (.bool true)], args := [d1, d2], vars := [g1] }
  | _ => none }
def fnExactRowWithRow : OpenClaim := { program := "ytkaihnlknncfdaagreatdoor", sum := "280e338c03f36f70feab87f58e6ff55fa23fb7ec624f219c253bc47b893296d0", func := "loop.example/g02080/laws.FnExactRowWith", spec := "fnExactRowWith", inPlace := ["internal/bytealg.IndexByteString"], unfollowed := true, recurses := true, named := ["loop.example/g02080/impl.featureSounds"], apart := false, laid := [("loop.example/g02080/impl.featureSounds", laid_loop_example_g02080_impl_featureSounds)] }
def FnExactRowWithSaid : Prop := fnExactRowWithRow.holds Tryz.pinned (OpenSpec.ofChange fnExactRowWithSpec)

/-- ITS FALSE NEIGHBOUR: 'it returns false'. Refute it at one input. -/
def fnExactRowWithWrong : ChangeSpec := { name := "fnExactRowWith", vars := ["loop.example/g02080/impl.featureSounds"], fn := fun _ => fun
  | [d1, d2, g1] => { results := [.lit (.bool false)], args := [d1, d2], vars := [g1] }
  | _ => none }
def FnExactRowWithWrongFalsely : Prop := fnExactRowWithRow.holds Tryz.pinned (OpenSpec.ofChange fnExactRowWithWrong)

/-- 'laws.FnExactDistinctProfiles': WHATEVER THE INPUT: true; the input reads as it did. -/
def fnExactDistinctProfilesSpec : ChangeSpec := { name := "fnExactDistinctProfiles", vars := ["loop.example/g02080/impl.featureSounds"], fn := fun _ => fun
  | [d, g1] => { results := [.lit (.bool true)], args := [d], vars := [g1] }
  | _ => none }
def fnExactDistinctProfilesRow : OpenClaim := { program := "ytkaihnlknncfdaagreatdoor", sum := "280e338c03f36f70feab87f58e6ff55fa23fb7ec624f219c253bc47b893296d0", func := "loop.example/g02080/laws.FnExactDistinctProfiles", spec := "fnExactDistinctProfiles", inPlace := ["internal/bytealg.IndexByteString"], unfollowed := true, recurses := true, named := ["loop.example/g02080/impl.featureSounds"], apart := false, laid := [("loop.example/g02080/impl.featureSounds", laid_loop_example_g02080_impl_featureSounds)] }
def FnExactDistinctProfilesSaid : Prop := fnExactDistinctProfilesRow.holds Tryz.pinned (OpenSpec.ofChange fnExactDistinctProfilesSpec)

/-- ITS FALSE NEIGHBOUR: 'it returns false'. Refute it at one input. -/
def fnExactDistinctProfilesWrong : ChangeSpec := { name := "fnExactDistinctProfiles", vars := ["loop.example/g02080/impl.featureSounds"], fn := fun _ => fun
  | [d, g1] => { results := [.lit (.bool false)], args := [d], vars := [g1] }
  | _ => none }
def FnExactDistinctProfilesWrongFalsely : Prop := fnExactDistinctProfilesRow.holds Tryz.pinned (OpenSpec.ofChange fnExactDistinctProfilesWrong)

/-- 'laws.FnExactFormatRow': WHATEVER THE INPUT: true; the input reads as it did. -/
def fnExactFormatRowSpec : ChangeSpec := { name := "fnExactFormatRow", vars := ["loop.example/g02080/impl.featureSounds"], fn := fun _ => fun
  | [d1, d2, g1] => { results := [.lit (.bool true)], args := [d1, d2], vars := [g1] }
  | _ => none }
def fnExactFormatRowRow : OpenClaim := { program := "ytkaihnlknncfdaagreatdoor", sum := "280e338c03f36f70feab87f58e6ff55fa23fb7ec624f219c253bc47b893296d0", func := "loop.example/g02080/laws.FnExactFormatRow", spec := "fnExactFormatRow", inPlace := ["internal/bytealg.IndexByteString", "internal/abi.NoEscape", "internal/bytealg.MakeNoZero"], unfollowed := true, recurses := true, named := ["loop.example/g02080/impl.featureSounds", "internal/strconv.uint64pow10", "math/bits.deBruijn32tab", "math/bits.deBruijn64tab"], apart := false, laid := [("math/bits.deBruijn32tab", laid_math_bits_deBruijn32tab), ("math/bits.deBruijn64tab", laid_math_bits_deBruijn64tab), ("internal/strconv.uint64pow10", laid_internal_strconv_uint64pow10), ("loop.example/g02080/impl.featureSounds", laid_loop_example_g02080_impl_featureSounds)] }
def FnExactFormatRowSaid : Prop := fnExactFormatRowRow.holds Tryz.pinned (OpenSpec.ofChange fnExactFormatRowSpec)

/-- ITS FALSE NEIGHBOUR: 'it returns false'. Refute it at one input. -/
def fnExactFormatRowWrong : ChangeSpec := { name := "fnExactFormatRow", vars := ["loop.example/g02080/impl.featureSounds"], fn := fun _ => fun
  | [d1, d2, g1] => { results := [.lit (.bool false)], args := [d1, d2], vars := [g1] }
  | _ => none }
def FnExactFormatRowWrongFalsely : Prop := fnExactFormatRowRow.holds Tryz.pinned (OpenSpec.ofChange fnExactFormatRowWrong)

/- THE SECOND FORM. 'bulk': how many values and letters a reading holds, each counted each time it is reached (what is shared counts as often as it is met; a slice's spare places count too). A statement '..UptoSaid' is the law's where the arguments, and the package variables that the reading takes, are together of bulk at most 1048576: NARROWER than '..Said'. Prove '..Said' where nothing that the law and all that it calls make is longer than what came in: it says more and counts as full. Else prove '..UptoSaid'. A law counts once. -/
mutual
def uptoBulk {H : Type} : DataW H → Nat
  | .lit (.string bytes) => bytes.length + 1
  | .lit _ => 1
  | .nil => 1
  | .ptr d => uptoBulk d + 1
  | .slice elems spare => uptoBulkAll elems + uptoBulkAll spare + 1
  | .agg parts => uptoBulkAll parts + 1
  | .iface _ d => uptoBulk d + 1
  | .map entries => uptoBulkEntries entries + 1
  | .held _ => 1
def uptoBulkAll {H : Type} : List (DataW H) → Nat
  | [] => 0
  | d :: r => uptoBulk d + uptoBulkAll r
def uptoBulkEntries {H : Type} : List (Lit × DataW H) → Nat
  | [] => 0
  | x :: r => uptoBulkEntry x + uptoBulkEntries r
def uptoBulkEntry {H : Type} : Lit × DataW H → Nat
  | (.string bytes, d) => bytes.length + uptoBulk d + 1
  | (_, d) => uptoBulk d + 1
 end
def uptoSmall : (H : Type) → List (DataW H) → Bool := fun _ ds => decide (uptoBulkAll ds ≤ 1048576)
def OpenSpec.upto (s : _root_.Go.ChangeSpec) : _root_.Go.OpenSpec := { _root_.Go.OpenSpec.ofChange s with cond := some uptoSmall }

/-- 'laws.FnExactWinnersOf', WHERE WHAT IT READS IS OF BULK AT MOST 1048576: true; the input reads as it did. -/
def fnExactWinnersOfUptoRow : OpenClaim := { program := "ytkaihnlknncfdaagreatdoor", sum := "280e338c03f36f70feab87f58e6ff55fa23fb7ec624f219c253bc47b893296d0", func := "loop.example/g02080/laws.FnExactWinnersOf", spec := "fnExactWinnersOf", inPlace := ["internal/bytealg.IndexByteString"], unfollowed := true, recurses := true, named := ["loop.example/g02080/impl.featureSounds"], apart := false, laid := [("loop.example/g02080/impl.featureSounds", laid_loop_example_g02080_impl_featureSounds)], narrowed := true }
def FnExactWinnersOfUptoSaid : Prop := fnExactWinnersOfUptoRow.holds Tryz.pinned (OpenSpec.upto fnExactWinnersOfSpec)

/-- 'laws.FnExactOptimalOutputs', WHERE WHAT IT READS IS OF BULK AT MOST 1048576: true; the input reads as it did. -/
def fnExactOptimalOutputsUptoRow : OpenClaim := { program := "ytkaihnlknncfdaagreatdoor", sum := "280e338c03f36f70feab87f58e6ff55fa23fb7ec624f219c253bc47b893296d0", func := "loop.example/g02080/laws.FnExactOptimalOutputs", spec := "fnExactOptimalOutputs", inPlace := ["internal/bytealg.IndexByteString"], unfollowed := true, recurses := true, named := ["loop.example/g02080/impl.featureSounds"], apart := false, laid := [("loop.example/g02080/impl.featureSounds", laid_loop_example_g02080_impl_featureSounds)], narrowed := true }
def FnExactOptimalOutputsUptoSaid : Prop := fnExactOptimalOutputsUptoRow.holds Tryz.pinned (OpenSpec.upto fnExactOptimalOutputsSpec)

/-- 'laws.FnExactFatalMark', WHERE WHAT IT READS IS OF BULK AT MOST 1048576: true; the input reads as it did. -/
def fnExactFatalMarkUptoRow : OpenClaim := { program := "ytkaihnlknncfdaagreatdoor", sum := "280e338c03f36f70feab87f58e6ff55fa23fb7ec624f219c253bc47b893296d0", func := "loop.example/g02080/laws.FnExactFatalMark", spec := "fnExactFatalMark", inPlace := ["internal/bytealg.IndexByteString"], unfollowed := true, recurses := true, named := ["loop.example/g02080/impl.featureSounds"], apart := false, laid := [("loop.example/g02080/impl.featureSounds", laid_loop_example_g02080_impl_featureSounds)], narrowed := true }
def FnExactFatalMarkUptoSaid : Prop := fnExactFatalMarkUptoRow.holds Tryz.pinned (OpenSpec.upto fnExactFatalMarkSpec)

/-- 'laws.FnExactOnlyRows', WHERE WHAT IT READS IS OF BULK AT MOST 1048576: true; the input reads as it did. -/
def fnExactOnlyRowsUptoRow : OpenClaim := { program := "ytkaihnlknncfdaagreatdoor", sum := "280e338c03f36f70feab87f58e6ff55fa23fb7ec624f219c253bc47b893296d0", func := "loop.example/g02080/laws.FnExactOnlyRows", spec := "fnExactOnlyRows", inPlace := ["internal/bytealg.IndexByteString"], unfollowed := true, recurses := true, named := ["loop.example/g02080/impl.featureSounds"], apart := false, laid := [("loop.example/g02080/impl.featureSounds", laid_loop_example_g02080_impl_featureSounds)], narrowed := true }
def FnExactOnlyRowsUptoSaid : Prop := fnExactOnlyRowsUptoRow.holds Tryz.pinned (OpenSpec.upto fnExactOnlyRowsSpec)

/-- 'laws.FnExactProfileOf', WHERE WHAT IT READS IS OF BULK AT MOST 1048576: true; the input reads as it did. -/
def fnExactProfileOfUptoRow : OpenClaim := { program := "ytkaihnlknncfdaagreatdoor", sum := "280e338c03f36f70feab87f58e6ff55fa23fb7ec624f219c253bc47b893296d0", func := "loop.example/g02080/laws.FnExactProfileOf", spec := "fnExactProfileOf", inPlace := ["internal/bytealg.IndexByteString"], unfollowed := true, recurses := true, named := ["loop.example/g02080/impl.featureSounds"], apart := false, laid := [("loop.example/g02080/impl.featureSounds", laid_loop_example_g02080_impl_featureSounds)], narrowed := true }
def FnExactProfileOfUptoSaid : Prop := fnExactProfileOfUptoRow.holds Tryz.pinned (OpenSpec.upto fnExactProfileOfSpec)

/-- 'laws.FnExactIsTableau', WHERE WHAT IT READS IS OF BULK AT MOST 1048576: true; the input reads as it did. -/
def fnExactIsTableauUptoRow : OpenClaim := { program := "ytkaihnlknncfdaagreatdoor", sum := "280e338c03f36f70feab87f58e6ff55fa23fb7ec624f219c253bc47b893296d0", func := "loop.example/g02080/laws.FnExactIsTableau", spec := "fnExactIsTableau", inPlace := ["internal/bytealg.IndexByteString"], unfollowed := true, recurses := true, named := ["loop.example/g02080/impl.featureSounds"], apart := false, laid := [("loop.example/g02080/impl.featureSounds", laid_loop_example_g02080_impl_featureSounds)], narrowed := true }
def FnExactIsTableauUptoSaid : Prop := fnExactIsTableauUptoRow.holds Tryz.pinned (OpenSpec.upto fnExactIsTableauSpec)

/-- 'laws.FnExactRowWith', WHERE WHAT IT READS IS OF BULK AT MOST 1048576: true; the input reads as it did. -/
def fnExactRowWithUptoRow : OpenClaim := { program := "ytkaihnlknncfdaagreatdoor", sum := "280e338c03f36f70feab87f58e6ff55fa23fb7ec624f219c253bc47b893296d0", func := "loop.example/g02080/laws.FnExactRowWith", spec := "fnExactRowWith", inPlace := ["internal/bytealg.IndexByteString"], unfollowed := true, recurses := true, named := ["loop.example/g02080/impl.featureSounds"], apart := false, laid := [("loop.example/g02080/impl.featureSounds", laid_loop_example_g02080_impl_featureSounds)], narrowed := true }
def FnExactRowWithUptoSaid : Prop := fnExactRowWithUptoRow.holds Tryz.pinned (OpenSpec.upto fnExactRowWithSpec)

/-- 'laws.FnExactDistinctProfiles', WHERE WHAT IT READS IS OF BULK AT MOST 1048576: true; the input reads as it did. -/
def fnExactDistinctProfilesUptoRow : OpenClaim := { program := "ytkaihnlknncfdaagreatdoor", sum := "280e338c03f36f70feab87f58e6ff55fa23fb7ec624f219c253bc47b893296d0", func := "loop.example/g02080/laws.FnExactDistinctProfiles", spec := "fnExactDistinctProfiles", inPlace := ["internal/bytealg.IndexByteString"], unfollowed := true, recurses := true, named := ["loop.example/g02080/impl.featureSounds"], apart := false, laid := [("loop.example/g02080/impl.featureSounds", laid_loop_example_g02080_impl_featureSounds)], narrowed := true }
def FnExactDistinctProfilesUptoSaid : Prop := fnExactDistinctProfilesUptoRow.holds Tryz.pinned (OpenSpec.upto fnExactDistinctProfilesSpec)

/-- 'laws.FnExactFormatRow', WHERE WHAT IT READS IS OF BULK AT MOST 1048576: true; the input reads as it did. -/
def fnExactFormatRowUptoRow : OpenClaim := { program := "ytkaihnlknncfdaagreatdoor", sum := "280e338c03f36f70feab87f58e6ff55fa23fb7ec624f219c253bc47b893296d0", func := "loop.example/g02080/laws.FnExactFormatRow", spec := "fnExactFormatRow", inPlace := ["internal/bytealg.IndexByteString", "internal/abi.NoEscape", "internal/bytealg.MakeNoZero"], unfollowed := true, recurses := true, named := ["loop.example/g02080/impl.featureSounds", "internal/strconv.uint64pow10", "math/bits.deBruijn32tab", "math/bits.deBruijn64tab"], apart := false, laid := [("math/bits.deBruijn32tab", laid_math_bits_deBruijn32tab), ("math/bits.deBruijn64tab", laid_math_bits_deBruijn64tab), ("internal/strconv.uint64pow10", laid_internal_strconv_uint64pow10), ("loop.example/g02080/impl.featureSounds", laid_loop_example_g02080_impl_featureSounds)], narrowed := true }
def FnExactFormatRowUptoSaid : Prop := fnExactFormatRowUptoRow.holds Tryz.pinned (OpenSpec.upto fnExactFormatRowSpec)

end Rows
end Go.Proofs.YtkaihnlknncfdaaGreatDoor
