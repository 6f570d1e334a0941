/-
  NARROWER THAN 'FOR EVERY INPUT', by the rows' own cells (each row's printed sentence says how): FnExactCountOnsetless: laid · FnExactCountCodas: laid · FnExactCountClusters: laid · FnExactCountVoiced: laid · FnExactCountFinalVoiced: laid · FnExactCountNasalVoiceless: laid · FnExactIsPerfect: laid.
  DERIVED. THE GIVEN ROWS OF THIS SEAT. 7 by the template 'for every input the law returns true; each argument reads behind the call as it read before'; 0 by the template 'total and deterministic' (their statements: YtlcjpbjnjnolfaaDoorTotals.lean).
  GIVEN WITH THE SEED: the statements are not yours to turn. If you find one false, say at which input.
  Laid BY PROGRAM, IN A SANDBOX (cutbox-rows.mjs): the forced cells as the released guide's own fill.sh prints them over the translation 0801751140d9cd44… (all of the seat's roots in one cut). By AI agents, Wed Nov 11 2026. No macro, syntax, notation, axiom, sorry.
-/
import Derived.Test.YtlcjpbjnjnolfaaDoorChecked
import GoSem.Claim
import GoSem.ClaimJoined
import GoSem.ClaimMapViews
import Derived.JoinedTies
import Derived.KernelRfl
namespace Go.Proofs.YtlcjpbjnjnolfaaDoor
/- THE CELL 'sum', in the pinned program and in every row, IS THE sha256 OF THE DUMP (.gsa) THAT YtlcjpbjnjnolfaaDoorProg.lean LOADS. Nothing in Lean hashes anything: it is a label: what it is worth is what the hold of that sum in a sandbox is worth. -/
noncomputable def Tryd.pinned : Pinned := { name := "ytlcjpbjnjnolfaadoor", sum := "0801751140d9cd447a71db91626a0c04b54018d91201203b262450b56764dd14", checked := Tryd.checked }
namespace Rows
def none {H : Type} : Left H := { results := [], args := [] }

/- WHAT THE LISTED PACKAGE-LEVEL VARIABLES READ AS WHEN THE CALL BEGINS. Each datum BY PROGRAM (the guide's laid-datum.mjs) off the statement by which the dump's own 'gosem.cut.vars' lays the variable. In a bare row this is a premise. The card (YtlcjpbjnjnolfaaDoorCards.lean) ties it to the program's text. -/
def laid_loop_example_g02080_impl_featureSounds {H : Type} : DataW H := .agg [.lit (.string [97, 105]), .lit (.string [98, 100, 110, 97, 105]), .lit (.string [110]), .lit (.string [112, 98]), .lit (.string [105])]

/-- 'laws.FnExactCountOnsetless': WHATEVER THE INPUT: true; the input reads as it did. -/
def fnExactCountOnsetlessSpec : ChangeSpec := { name := "fnExactCountOnsetless", vars := ["loop.example/g02080/impl.featureSounds"], fn := fun _ => fun
  | [d, g1] => { results := [.lit (.bool true)], args := [d], vars := [g1] }
  | _ => none }
def fnExactCountOnsetlessRow : OpenClaim := { program := "ytlcjpbjnjnolfaadoor", sum := "0801751140d9cd447a71db91626a0c04b54018d91201203b262450b56764dd14", func := "loop.example/g02080/laws.FnExactCountOnsetless", spec := "fnExactCountOnsetless", inPlace := ["internal/bytealg.IndexByteString"], unfollowed := true, recurses := true, named := ["loop.example/g02080/impl.featureSounds"], apart := false, laid := [("loop.example/g02080/impl.featureSounds", laid_loop_example_g02080_impl_featureSounds)] }
def FnExactCountOnsetlessSaid : Prop := fnExactCountOnsetlessRow.holds Tryd.pinned (OpenSpec.ofChange fnExactCountOnsetlessSpec)

/-- ITS FALSE NEIGHBOUR: 'it returns false'. Refute it at one input. -/
def fnExactCountOnsetlessWrong : ChangeSpec := { name := "fnExactCountOnsetless", vars := ["loop.example/g02080/impl.featureSounds"], fn := fun _ => fun
  | [d, g1] => { results := [.lit (.bool false)], args := [d], vars := [g1] }
  | _ => none }
def FnExactCountOnsetlessWrongFalsely : Prop := fnExactCountOnsetlessRow.holds Tryd.pinned (OpenSpec.ofChange fnExactCountOnsetlessWrong)

/-- 'laws.FnExactCountCodas': WHATEVER THE INPUT: true; the input reads as it did. -/
def fnExactCountCodasSpec : ChangeSpec := { name := "fnExactCountCodas", vars := ["loop.example/g02080/impl.featureSounds"], fn := fun _ => fun
  | [d, g1] => { results := [.lit (.bool true)], args := [d], vars := [g1] }
  | _ => none }
def fnExactCountCodasRow : OpenClaim := { program := "ytlcjpbjnjnolfaadoor", sum := "0801751140d9cd447a71db91626a0c04b54018d91201203b262450b56764dd14", func := "loop.example/g02080/laws.FnExactCountCodas", spec := "fnExactCountCodas", inPlace := ["internal/bytealg.IndexByteString"], unfollowed := true, recurses := true, named := ["loop.example/g02080/impl.featureSounds"], apart := false, laid := [("loop.example/g02080/impl.featureSounds", laid_loop_example_g02080_impl_featureSounds)] }
def FnExactCountCodasSaid : Prop := fnExactCountCodasRow.holds Tryd.pinned (OpenSpec.ofChange fnExactCountCodasSpec)

/-- ITS FALSE NEIGHBOUR: 'it returns false'. Refute it at one input. -/
def fnExactCountCodasWrong : ChangeSpec := { name := "fnExactCountCodas", vars := ["loop.example/g02080/impl.featureSounds"], fn := fun _ => fun
  | [d, g1] => { results := [.lit (.bool false)], args := [d], vars := [g1] }
  | _ => none }
def FnExactCountCodasWrongFalsely : Prop := fnExactCountCodasRow.holds Tryd.pinned (OpenSpec.ofChange fnExactCountCodasWrong)

/-- 'laws.FnExactCountClusters': WHATEVER THE INPUT: true; the input reads as it did. -/
def fnExactCountClustersSpec : ChangeSpec := { name := "fnExactCountClusters", vars := ["loop.example/g02080/impl.featureSounds"], fn := fun _ => fun
  | [d, g1] => { results := [.lit (.bool true)], args := [d], vars := [g1] }
  | _ => none }
def fnExactCountClustersRow : OpenClaim := { program := "ytlcjpbjnjnolfaadoor", sum := "0801751140d9cd447a71db91626a0c04b54018d91201203b262450b56764dd14", func := "loop.example/g02080/laws.FnExactCountClusters", spec := "fnExactCountClusters", inPlace := ["internal/bytealg.IndexByteString"], unfollowed := true, recurses := true, named := ["loop.example/g02080/impl.featureSounds"], apart := false, laid := [("loop.example/g02080/impl.featureSounds", laid_loop_example_g02080_impl_featureSounds)] }
def FnExactCountClustersSaid : Prop := fnExactCountClustersRow.holds Tryd.pinned (OpenSpec.ofChange fnExactCountClustersSpec)

/-- ITS FALSE NEIGHBOUR: 'it returns false'. Refute it at one input. -/
def fnExactCountClustersWrong : ChangeSpec := { name := "fnExactCountClusters", vars := ["loop.example/g02080/impl.featureSounds"], fn := fun _ => fun
  | [d, g1] => { results := [.lit (.bool false)], args := [d], vars := [g1] }
  | _ => none }
def FnExactCountClustersWrongFalsely : Prop := fnExactCountClustersRow.holds Tryd.pinned (OpenSpec.ofChange fnExactCountClustersWrong)

/-- 'laws.FnExactCountVoiced': WHATEVER THE INPUT: true; the input reads as it did. -/
def fnExactCountVoicedSpec : ChangeSpec := { name := "fnExactCountVoiced", vars := ["loop.example/g02080/impl.featureSounds"], fn := fun _ => fun
  | [d, g1] => { results := [.lit (.bool true)], args := [d], vars := [g1] }
  | _ => none }
def fnExactCountVoicedRow : OpenClaim := { program := "ytlcjpbjnjnolfaadoor", sum := "0801751140d9cd447a71db91626a0c04b54018d91201203b262450b56764dd14", func := "loop.example/g02080/laws.FnExactCountVoiced", spec := "fnExactCountVoiced", inPlace := ["internal/bytealg.IndexByteString"], unfollowed := true, recurses := true, named := ["loop.example/g02080/impl.featureSounds"], apart := false, laid := [("loop.example/g02080/impl.featureSounds", laid_loop_example_g02080_impl_featureSounds)] }
def FnExactCountVoicedSaid : Prop := fnExactCountVoicedRow.holds Tryd.pinned (OpenSpec.ofChange fnExactCountVoicedSpec)

/-- ITS FALSE NEIGHBOUR: 'it returns false'. Refute it at one input. -/
def fnExactCountVoicedWrong : ChangeSpec := { name := "fnExactCountVoiced", vars := ["loop.example/g02080/impl.featureSounds"], fn := fun _ => fun
  | [d, g1] => { results := [.lit (.bool false)], args := [d], vars := [g1] }
  | _ => none }
def FnExactCountVoicedWrongFalsely : Prop := fnExactCountVoicedRow.holds Tryd.pinned (OpenSpec.ofChange fnExactCountVoicedWrong)

/-- 'laws.FnExactCountFinalVoiced': WHATEVER THE INPUT: true; the input reads as it did. -/
def fnExactCountFinalVoicedSpec : ChangeSpec := { name := "fnExactCountFinalVoiced", vars := ["loop.example/g02080/impl.featureSounds"], fn := fun _ => fun
  | [d, g1] => { results := [.lit (.bool true)], args := [d], vars := [g1] }
  | _ => none }
def fnExactCountFinalVoicedRow : OpenClaim := { program := "ytlcjpbjnjnolfaadoor", sum := "0801751140d9cd447a71db91626a0c04b54018d91201203b262450b56764dd14", func := "loop.example/g02080/laws.FnExactCountFinalVoiced", spec := "fnExactCountFinalVoiced", inPlace := ["internal/bytealg.IndexByteString"], unfollowed := true, recurses := true, named := ["loop.example/g02080/impl.featureSounds"], apart := false, laid := [("loop.example/g02080/impl.featureSounds", laid_loop_example_g02080_impl_featureSounds)] }
def FnExactCountFinalVoicedSaid : Prop := fnExactCountFinalVoicedRow.holds Tryd.pinned (OpenSpec.ofChange fnExactCountFinalVoicedSpec)

/-- ITS FALSE NEIGHBOUR: 'it returns false'. Refute it at one input. -/
def fnExactCountFinalVoicedWrong : ChangeSpec := { name := "fnExactCountFinalVoiced", vars := ["loop.example/g02080/impl.featureSounds"], fn := fun _ => fun
  | [d, g1] => { results := [.lit (.bool false)], args := [d], vars := [g1] }
  | _ => none }
def FnExactCountFinalVoicedWrongFalsely : Prop := fnExactCountFinalVoicedRow.holds Tryd.pinned (OpenSpec.ofChange fnExactCountFinalVoicedWrong)

/-- 'laws.FnExactCountNasalVoiceless': WHATEVER THE INPUT: true; the input reads as it did. -/
def fnExactCountNasalVoicelessSpec : ChangeSpec := { name := "fnExactCountNasalVoiceless", vars := ["loop.example/g02080/impl.featureSounds"], fn := fun _ => fun
  | [d, g1] => { results := [.lit (.bool true)], args := [d], vars := [g1] }
  | _ => none }
def fnExactCountNasalVoicelessRow : OpenClaim := { program := "ytlcjpbjnjnolfaadoor", sum := "0801751140d9cd447a71db91626a0c04b54018d91201203b262450b56764dd14", func := "loop.example/g02080/laws.FnExactCountNasalVoiceless", spec := "fnExactCountNasalVoiceless", inPlace := ["internal/bytealg.IndexByteString"], unfollowed := true, recurses := true, named := ["loop.example/g02080/impl.featureSounds"], apart := false, laid := [("loop.example/g02080/impl.featureSounds", laid_loop_example_g02080_impl_featureSounds)] }
def FnExactCountNasalVoicelessSaid : Prop := fnExactCountNasalVoicelessRow.holds Tryd.pinned (OpenSpec.ofChange fnExactCountNasalVoicelessSpec)

/-- ITS FALSE NEIGHBOUR: 'it returns false'. Refute it at one input. -/
def fnExactCountNasalVoicelessWrong : ChangeSpec := { name := "fnExactCountNasalVoiceless", vars := ["loop.example/g02080/impl.featureSounds"], fn := fun _ => fun
  | [d, g1] => { results := [.lit (.bool false)], args := [d], vars := [g1] }
  | _ => none }
def FnExactCountNasalVoicelessWrongFalsely : Prop := fnExactCountNasalVoicelessRow.holds Tryd.pinned (OpenSpec.ofChange fnExactCountNasalVoicelessWrong)

/-- 'laws.FnExactIsPerfect': WHATEVER THE INPUT: true; the input reads as it did. -/
def fnExactIsPerfectSpec : ChangeSpec := { name := "fnExactIsPerfect", vars := ["loop.example/g02080/impl.featureSounds"], fn := fun _ => fun
  | [d, g1] => { results := [.lit (.bool true)], args := [d], vars := [g1] }
  | _ => none }
def fnExactIsPerfectRow : OpenClaim := { program := "ytlcjpbjnjnolfaadoor", sum := "0801751140d9cd447a71db91626a0c04b54018d91201203b262450b56764dd14", func := "loop.example/g02080/laws.FnExactIsPerfect", spec := "fnExactIsPerfect", inPlace := ["internal/bytealg.IndexByteString"], unfollowed := true, recurses := true, named := ["loop.example/g02080/impl.featureSounds"], apart := false, laid := [("loop.example/g02080/impl.featureSounds", laid_loop_example_g02080_impl_featureSounds)] }
def FnExactIsPerfectSaid : Prop := fnExactIsPerfectRow.holds Tryd.pinned (OpenSpec.ofChange fnExactIsPerfectSpec)

/-- ITS FALSE NEIGHBOUR: 'it returns false'. Refute it at one input. -/
def fnExactIsPerfectWrong : ChangeSpec := { name := "fnExactIsPerfect", vars := ["loop.example/g02080/impl.featureSounds"], fn := fun _ => fun
  | [d, g1] => { results := [.lit (.bool false)], args := [d], vars := [g1] }
  | _ => none }
def FnExactIsPerfectWrongFalsely : Prop := fnExactIsPerfectRow.holds Tryd.pinned (OpenSpec.ofChange fnExactIsPerfectWrong)

/- THE SECOND FORM. 'bulk': how many values and letters a reading holds, each counted each time it is reached (what is shared counts as often as it is met; a slice's spare places count too). A statement '..UptoSaid' is the law's where the arguments, and the package variables that the reading takes, are together of bulk at most 1048576: NARROWER than '..Said'. Prove '..Said' where nothing that the law and all that it calls make is longer than what came in: it says more and counts as full. Else prove '..UptoSaid'. A law counts once. -/
mutual
def uptoBulk {H : Type} : DataW H → Nat
  | .lit (.string bytes) => bytes.length + 1
  | .lit _ => 1
  | .nil => 1
  | .ptr d => uptoBulk d + 1
  | .slice elems spare => uptoBulkAll elems + uptoBulkAll spare + 1
  | .agg parts => uptoBulkAll parts + 1
  | .iface _ d => uptoBulk d + 1
  | .map entries => uptoBulkEntries entries + 1
  | .held _ => 1
def uptoBulkAll {H : Type} : List (DataW H) → Nat
  | [] => 0
  | d :: r => uptoBulk d + uptoBulkAll r
def uptoBulkEntries {H : Type} : List (Lit × DataW H) → Nat
  | [] => 0
  | x :: r => uptoBulkEntry x + uptoBulkEntries r
def uptoBulkEntry {H : Type} : Lit × DataW H → Nat
  | (.string bytes, d) => bytes.length + uptoBulk d + 1
  | (_, d) => uptoBulk d + 1
 end
def uptoSmall : (H : Type) → List (DataW H) → Bool := fun _ ds => decide (uptoBulkAll ds ≤ 1048576)
def OpenSpec.upto (s : _root_.Go.ChangeSpec) : _root_.Go.OpenSpec := { _root_.Go.OpenSpec.ofChange s with cond := some uptoSmall }

/-- 'laws.FnExactCountOnsetless', WHERE WHAT IT READS IS OF BULK AT MOST 1048576: true; the input reads as it did. -/
def fnExactCountOnsetlessUptoRow : OpenClaim := { program := "ytlcjpbjnjnolfaadoor", sum := "0801751140d9cd447a71db91626a0c04b54018d91201203b262450b56764dd14", func := "loop.example/g02080/laws.FnExactCountOnsetless", spec := "fnExactCountOnsetless", inPlace := ["internal/bytealg.IndexByteString"], unfollowed := true, recurses := true, named := ["loop.example/g02080/impl.featureSounds"], apart := false, laid := [("loop.example/g02080/impl.featureSounds", laid_loop_example_g02080_impl_featureSounds)], narrowed := true }
def FnExactCountOnsetlessUptoSaid : Prop := fnExactCountOnsetlessUptoRow.holds Tryd.pinned (OpenSpec.upto fnExactCountOnsetlessSpec)

/-- 'laws.FnExactCountCodas', WHERE WHAT IT READS IS OF BULK AT MOST 1048576: true; the input reads as it did. -/
def fnExactCountCodasUptoRow : OpenClaim := { program := "ytlcjpbjnjnolfaadoor", sum := "0801751140d9cd447a71db91626a0c04b54018d91201203b262450b56764dd14", func := "loop.example/g02080/laws.FnExactCountCodas", spec := "fnExactCountCodas", inPlace := ["internal/bytealg.IndexByteString"], unfollowed := true, recurses := true, named := ["loop.example/g02080/impl.featureSounds"], apart := false, laid := [("loop.example/g02080/impl.featureSounds", laid_loop_example_g02080_impl_featureSounds)], narrowed := true }
def FnExactCountCodasUptoSaid : Prop := fnExactCountCodasUptoRow.holds Tryd.pinned (OpenSpec.upto fnExactCountCodasSpec)

/-- 'laws.FnExactCountClusters', WHERE WHAT IT READS IS OF BULK AT MOST 1048576: true; the input reads as it did. -/
def fnExactCountClustersUptoRow : OpenClaim := { program := "ytlcjpbjnjnolfaadoor", sum := "0801751140d9cd447a71db91626a0c04b54018d91201203b262450b56764dd14", func := "loop.example/g02080/laws.FnExactCountClusters", spec := "fnExactCountClusters", inPlace := ["internal/bytealg.IndexByteString"], unfollowed := true, recurses := true, named := ["loop.example/g02080/impl.featureSounds"], apart := false, laid := [("loop.example/g02080/impl.featureSounds", laid_loop_example_g02080_impl_featureSounds)], narrowed := true }
def FnExactCountClustersUptoSaid : Prop := fnExactCountClustersUptoRow.holds Tryd.pinned (OpenSpec.upto fnExactCountClustersSpec)

/-- 'laws.FnExactCountVoiced', WHERE WHAT IT READS IS OF BULK AT MOST 1048576: true; the input reads as it did. -/
def fnExactCountVoicedUptoRow : OpenClaim := { program := "ytlcjpbjnjnolfaadoor", sum := "0801751140d9cd447a71db91626a0c04b54018d91201203b262450b56764dd14", func := "loop.example/g02080/laws.FnExactCountVoiced", spec := "fnExactCountVoiced", inPlace := ["internal/bytealg.IndexByteString"], unfollowed := true, recurses := true, named := ["loop.example/g02080/impl.featureSounds"], apart := false, laid := [("loop.example/g02080/impl.featureSounds", laid_loop_example_g02080_impl_featureSounds)], narrowed := true }
def FnExactCountVoicedUptoSaid : Prop := fnExactCountVoicedUptoRow.holds Tryd.pinned (OpenSpec.upto fnExactCountVoicedSpec)

/-- 'laws.FnExactCountFinalVoiced', WHERE WHAT IT READS IS OF BULK AT MOST 1048576: true; the input reads as it did. -/
def fnExactCountFinalVoicedUptoRow : OpenClaim := { program := "ytlcjpbjnjnolfaadoor", sum := "0801751140d9cd447a71db91626a0c04b54018d91201203b262450b56764dd14", func := "loop.example/g02080/laws.FnExactCountFinalVoiced", spec := "fnExactCountFinalVoiced", inPlace := ["internal/bytealg.IndexByteString"], unfollowed := true, recurses := true, named := ["loop.example/g02080/impl.featureSounds"], apart := false, laid := [("loop.example/g02080/impl.featureSounds", laid_loop_example_g02080_impl_featureSounds)], narrowed := true }
def FnExactCountFinalVoicedUptoSaid : Prop := fnExactCountFinalVoicedUptoRow.holds Tryd.pinned (OpenSpec.upto fnExactCountFinalVoicedSpec)

/-- 'laws.FnExactCountNasalVoiceless', WHERE WHAT IT READS IS OF BULK AT MOST 1048576: true; the input reads as it did. -/
def fnExactCountNasalVoicelessUptoRow : OpenClaim := { program := "ytlcjpbjnjnolfaadoor", sum := "0801751140d9cd447a71db91626a0c04b54018d91201203b262450b56764dd14", func := "loop.example/g02080/laws.FnExactCountNasalVoiceless", spec := "fnExactCountNasalVoiceless", inPlace := ["internal/bytealg.IndexByteString"], unfollowed := true, recurses := true, named := ["loop.example/g02080/impl.featureSounds"], apart := false, laid := [("loop.example/g02080/impl.featureSounds", laid_loop_example_g02080_impl_featureSounds)], narrowed := true }
def FnExactCountNasalVoicelessUptoSaid : Prop := fnExactCountNasalVoicelessUptoRow.holds Tryd.pinned (OpenSpec.upto fnExactCountNasalVoicelessSpec)

/-- 'laws.FnExactIsPerfect', WHERE WHAT IT READS IS OF BULK AT MOST 1048576: true; the input reads as it did. -/
def fnExactIsPerfectUptoRow : OpenClaim := { program := "ytlcjpbjnjnolfaadoor", sum := "0801751140d9cd447a71db91626a0c04b54018d91201203b262450b56764dd14", func := "loop.example/g02080/laws.FnExactIsPerfect", spec := "fnExactIsPerfect", inPlace := ["internal/bytealg.IndexByteString"], unfollowed := true, recurses := true, named := ["loop.example/g02080/impl.featureSounds"], apart := false, laid := [("loop.example/g02080/impl.featureSounds", laid_loop_example_g02080_impl_featureSounds)], narrowed := true }
def FnExactIsPerfectUptoSaid : Prop := fnExactIsPerfectUptoRow.holds Tryd.pinned (OpenSpec.upto fnExactIsPerfectSpec)

end Rows
end Go.Proofs.YtlcjpbjnjnolfaaDoor
