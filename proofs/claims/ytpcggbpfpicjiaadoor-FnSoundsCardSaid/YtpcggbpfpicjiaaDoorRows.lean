/-
  NARROWER THAN 'FOR EVERY INPUT', by the rows' own cells (each row's printed sentence says how): FnSounds: laid · FnExactHasFeature: laid · FnExactSoundsWith: laid · FnExactSharedFeatures: laid · FnExactNaturalClass: laid · FnExactIsNaturalClass: laid.
  DERIVED. THE GIVEN ROWS OF THIS SEAT. 6 by the template 'for every input the law returns true; each argument reads behind the call as it read before'; 0 by the template 'total and deterministic' (their statements: YtpcggbpfpicjiaaDoorTotals.lean).
  GIVEN WITH THE SEED: the statements are not yours to turn. If you find one false, say at which input.
  Laid BY PROGRAM, IN A SANDBOX (cutbox-rows.mjs): the forced cells as the released guide's own fill.sh prints them over the translation 2322668484d07045… (all of the seat's roots in one cut). By AI agents, Wed Nov 11 2026. No macro, syntax, notation, axiom, sorry.
-/
import Derived.Test.YtpcggbpfpicjiaaDoorChecked
import GoSem.Claim
import GoSem.ClaimJoined
import GoSem.ClaimMapViews
import Derived.JoinedTies
import Derived.KernelRfl
namespace Go.Proofs.YtpcggbpfpicjiaaDoor
/- THE CELL 'sum', in the pinned program and in every row, IS THE sha256 OF THE DUMP (.gsa) THAT YtpcggbpfpicjiaaDoorProg.lean LOADS. Nothing in Lean hashes anything: it is a label: what it is worth is what the hold of that sum in a sandbox is worth. -/
noncomputable def Tryd.pinned : Pinned := { name := "ytpcggbpfpicjiaadoor", sum := "2322668484d07045fa38c40a7e78fadc602a0184ed25cf1908973dfc6ccba392", checked := Tryd.checked }
namespace Rows
def none {H : Type} : Left H := { results := [], args := [] }

/- WHAT THE LISTED PACKAGE-LEVEL VARIABLES READ AS WHEN THE CALL BEGINS. Each datum BY PROGRAM (the guide's laid-datum.mjs) off the statement by which the dump's own 'gosem.cut.vars' lays the variable. In a bare row this is a premise. The card (YtpcggbpfpicjiaaDoorCards.lean) ties it to the program's text. -/
def laid_loop_example_g02080_impl_featureSounds {H : Type} : DataW H := .agg [.lit (.string [97, 105]), .lit (.string [98, 100, 110, 97, 105]), .lit (.string [110]), .lit (.string [112, 98]), .lit (.string [105])]

/-- 'laws.FnSounds': WHATEVER THE INPUT: true; the input reads as it did. -/
def fnSoundsSpec : ChangeSpec := { name := "fnSounds", vars := ["loop.example/g02080/impl.featureSounds"], fn := fun _ => fun
  | [d, g1] => { results := [.lit (.bool true)], args := [d], vars := [g1] }
  | _ => none }
def fnSoundsRow : OpenClaim := { program := "ytpcggbpfpicjiaadoor", sum := "2322668484d07045fa38c40a7e78fadc602a0184ed25cf1908973dfc6ccba392", func := "loop.example/g02080/laws.FnSounds", spec := "fnSounds", inPlace := ["internal/bytealg.IndexByteString"], unfollowed := true, recurses := true, named := ["loop.example/g02080/impl.featureSounds"], apart := false, laid := [("loop.example/g02080/impl.featureSounds", laid_loop_example_g02080_impl_featureSounds)] }
def FnSoundsSaid : Prop := fnSoundsRow.holds Tryd.pinned (OpenSpec.ofChange fnSoundsSpec)

/-- ITS FALSE NEIGHBOUR: 'it returns false'. Refute it at one input. -/
def fnSoundsWrong : ChangeSpec := { name := "fnSounds", vars := ["loop.example/g02080/impl.featureSounds"], fn := fun _ => fun
  | [d, g1] => { results := [.lit (.bool false)], args := [d], vars := [g1] }
  | _ => none }
def FnSoundsWrongFalsely : Prop := fnSoundsRow.holds Tryd.pinned (OpenSpec.ofChange fnSoundsWrong)

/-- 'laws.FnExactHasFeature': WHATEVER THE INPUT: true; the input reads as it did. -/
def fnExactHasFeatureSpec : ChangeSpec := { name := "fnExactHasFeature", vars := ["loop.example/g02080/impl.featureSounds"], fn := fun _ => fun
  | [d1, d2, g1] => { results := [.lit (.bool true)], args := [d1, d2], vars := [g1] }
  | _ => none }
def fnExactHasFeatureRow : OpenClaim := { program := "ytpcggbpfpicjiaadoor", sum := "2322668484d07045fa38c40a7e78fadc602a0184ed25cf1908973dfc6ccba392", func := "loop.example/g02080/laws.FnExactHasFeature", spec := "fnExactHasFeature", inPlace := ["internal/bytealg.IndexByteString"], named := ["loop.example/g02080/impl.featureSounds"], apart := false, laid := [("loop.example/g02080/impl.featureSounds", laid_loop_example_g02080_impl_featureSounds)] }
def FnExactHasFeatureSaid : Prop := fnExactHasFeatureRow.holds Tryd.pinned (OpenSpec.ofChange fnExactHasFeatureSpec)

/-- ITS FALSE NEIGHBOUR: 'it returns false'. Refute it at one input. -/
def fnExactHasFeatureWrong : ChangeSpec := { name := "fnExactHasFeature", vars := ["loop.example/g02080/impl.featureSounds"], fn := fun _ => fun
  | [d1, d2, g1] => { results := [.lit (.bool false)], args := [d1, d2], vars := [g1] }
  | _ => none }
def FnExactHasFeatureWrongFalsely : Prop := fnExactHasFeatureRow.holds Tryd.pinned (OpenSpec.ofChange fnExactHasFeatureWrong)

/-- 'laws.FnExactSoundsWith': WHATEVER THE INPUT: true; the input reads as it did. -/
def fnExactSoundsWithSpec : ChangeSpec := { name := "fnExactSoundsWith", vars := ["loop.example/g02080/impl.featureSounds"], fn := fun _ => fun
  | [d1, d2, g1] => { results := [.lit (.bool true)], args := [d1, d2], vars := [g1] }
  | _ => none }
def fnExactSoundsWithRow : OpenClaim := { program := "ytpcggbpfpicjiaadoor", sum := "2322668484d07045fa38c40a7e78fadc602a0184ed25cf1908973dfc6ccba392", func := "loop.example/g02080/laws.FnExactSoundsWith", spec := "fnExactSoundsWith", inPlace := ["internal/bytealg.IndexByteString"], unfollowed := true, recurses := true, named := ["loop.example/g02080/impl.featureSounds"], apart := false, laid := [("loop.example/g02080/impl.featureSounds", laid_loop_example_g02080_impl_featureSounds)] }
def FnExactSoundsWithSaid : Prop := fnExactSoundsWithRow.holds Tryd.pinned (OpenSpec.ofChange fnExactSoundsWithSpec)

/-- ITS FALSE NEIGHBOUR: 'it returns false'. Refute it at one input. -/
def fnExactSoundsWithWrong : ChangeSpec := { name := "fnExactSoundsWith", vars := ["loop.example/g02080/impl.featureSounds"], fn := fun _ => fun
  | [d1, d2, g1] => { results := [.lit (.bool false)], args := [d1, d2], vars := [g1] }
  | _ => none }
def FnExactSoundsWithWrongFalsely : Prop := fnExactSoundsWithRow.holds Tryd.pinned (OpenSpec.ofChange fnExactSoundsWithWrong)

/-- 'laws.FnExactSharedFeatures': WHATEVER THE INPUT: true; the input reads as it did. -/
def fnExactSharedFeaturesSpec : ChangeSpec := { name := "fnExactSharedFeatures", vars := ["loop.example/g02080/impl.featureSounds"], fn := fun _ => fun
  | [d, g1] => { results := [.lit (.bool true)], args := [d], vars := [g1] }
  | _ => none }
def fnExactSharedFeaturesRow : OpenClaim := { program := "ytpcggbpfpicjiaadoor", sum := "2322668484d07045fa38c40a7e78fadc602a0184ed25cf1908973dfc6ccba392", func := "loop.example/g02080/laws.FnExactSharedFeatures", spec := "fnExactSharedFeatures", inPlace := ["internal/bytealg.IndexByteString"], named := ["loop.example/g02080/impl.featureSounds"], apart := false, laid := [("loop.example/g02080/impl.featureSounds", laid_loop_example_g02080_impl_featureSounds)] }
def FnExactSharedFeaturesSaid : Prop := fnExactSharedFeaturesRow.holds Tryd.pinned (OpenSpec.ofChange fnExactSharedFeaturesSpec)

/-- ITS FALSE NEIGHBOUR: 'it returns false'. Refute it at one input. -/
def fnExactSharedFeaturesWrong : ChangeSpec := { name := "fnExactSharedFeatures", vars := ["loop.example/g02080/impl.featureSounds"], fn := fun _ => fun
  | [d, g1] => { results := [.lit (.bool false)], args := [d], vars := [g1] }
  | _ => none }
def FnExactSharedFeaturesWrongFalsely : Prop := fnExactSharedFeaturesRow.holds Tryd.pinned (OpenSpec.ofChange fnExactSharedFeaturesWrong)

/-- 'laws.FnExactNaturalClass': WHATEVER THE INPUT: true; the input reads as it did. -/
def fnExactNaturalClassSpec : ChangeSpec := { name := "fnExactNaturalClass", vars := ["loop.example/g02080/impl.featureSounds"], fn := fun _ => fun
  | [d, g1] => { results := [.lit (.bool true)], args := [d], vars := [g1] }
  | _ => none }
def fnExactNaturalClassRow : OpenClaim := { program := "ytpcggbpfpicjiaadoor", sum := "2322668484d07045fa38c40a7e78fadc602a0184ed25cf1908973dfc6ccba392", func := "loop.example/g02080/laws.FnExactNaturalClass", spec := "fnExactNaturalClass", inPlace := ["internal/bytealg.IndexByteString"], unfollowed := true, recurses := true, named := ["loop.example/g02080/impl.featureSounds"], apart := false, laid := [("loop.example/g02080/impl.featureSounds", laid_loop_example_g02080_impl_featureSounds)] }
def FnExactNaturalClassSaid : Prop := fnExactNaturalClassRow.holds Tryd.pinned (OpenSpec.ofChange fnExactNaturalClassSpec)

/-- ITS FALSE NEIGHBOUR: 'it returns false'. Refute it at one input. -/
def fnExactNaturalClassWrong : ChangeSpec := { name := "fnExactNaturalClass", vars := ["loop.example/g02080/impl.featureSounds"], fn := fun _ => fun
  | [d, g1] => { results := [.lit (.bool false)], args := [d], vars := [g1] }
  | _ => none }
def FnExactNaturalClassWrongFalsely : Prop := fnExactNaturalClassRow.holds Tryd.pinned (OpenSpec.ofChange fnExactNaturalClassWrong)

/-- 'laws.FnExactIsNaturalClass': WHATEVER THE INPUT: true; the input reads as it did. -/
def fnExactIsNaturalClassSpec : ChangeSpec := { name := "fnExactIsNaturalClass", vars := ["loop.example/g02080/impl.featureSounds"], fn := fun _ => fun
  | [d, g1] => { results := [.lit (.bool true)], args := [d], vars := [g1] }
  | _ => none }
def fnExactIsNaturalClassRow : OpenClaim := { program := "ytpcggbpfpicjiaadoor", sum := "2322668484d07045fa38c40a7e78fadc602a0184ed25cf1908973dfc6ccba392", func := "loop.example/g02080/laws.FnExactIsNaturalClass", spec := "fnExactIsNaturalClass", inPlace := ["internal/bytealg.IndexByteString"], unfollowed := true, recurses := true, named := ["loop.example/g02080/impl.featureSounds"], apart := false, laid := [("loop.example/g02080/impl.featureSounds", laid_loop_example_g02080_impl_featureSounds)] }
def FnExactIsNaturalClassSaid : Prop := fnExactIsNaturalClassRow.holds Tryd.pinned (OpenSpec.ofChange fnExactIsNaturalClassSpec)

/-- ITS FALSE NEIGHBOUR: 'it returns false'. Refute it at one input. -/
def fnExactIsNaturalClassWrong : ChangeSpec := { name := "fnExactIsNaturalClass", vars := ["loop.example/g02080/impl.featureSounds"], fn := fun _ => fun
  | [d, g1] => { results := [.lit (.bool false)], args := [d], vars := [g1] }
  | _ => none }
def FnExactIsNaturalClassWrongFalsely : Prop := fnExactIsNaturalClassRow.holds Tryd.pinned (OpenSpec.ofChange fnExactIsNaturalClassWrong)

/- THE SECOND FORM. 'bulk': how many values and letters a reading holds, each counted each time it is reached (what is shared counts as often as it is met; a slice's spare places count too). A statement '..UptoSaid' is the law's where the arguments, and the package variables that the reading takes, are together of bulk at most 1048576: NARROWER than '..Said'. Prove '..Said' where nothing that the law and all that it calls make is longer than what came in: it says more and counts as full. Else prove '..UptoSaid'. A law counts once. -/
mutual
def uptoBulk {H : Type} : DataW H → Nat
  | .lit (.string bytes) => bytes.length + 1
  | .lit _ => 1
  | .nil => 1
  | .ptr d => uptoBulk d + 1
  | .slice elems spare => uptoBulkAll elems + uptoBulkAll spare + 1
  | .agg parts => uptoBulkAll parts + 1
  | .iface _ d => uptoBulk d + 1
  | .map entries => uptoBulkEntries entries + 1
  | .held _ => 1
def uptoBulkAll {H : Type} : List (DataW H) → Nat
  | [] => 0
  | d :: r => uptoBulk d + uptoBulkAll r
def uptoBulkEntries {H : Type} : List (Lit × DataW H) → Nat
  | [] => 0
  | x :: r => uptoBulkEntry x + uptoBulkEntries r
def uptoBulkEntry {H : Type} : Lit × DataW H → Nat
  | (.string bytes, d) => bytes.length + uptoBulk d + 1
  | (_, d) => uptoBulk d + 1
 end
def uptoSmall : (H : Type) → List (DataW H) → Bool := fun _ ds => decide (uptoBulkAll ds ≤ 1048576)
def OpenSpec.upto (s : _root_.Go.ChangeSpec) : _root_.Go.OpenSpec := { _root_.Go.OpenSpec.ofChange s with cond := some uptoSmall }

/-- 'laws.FnSounds', WHERE WHAT IT READS IS OF BULK AT MOST 1048576: true; the input reads as it did. -/
def fnSoundsUptoRow : OpenClaim := { program := "ytpcggbpfpicjiaadoor", sum := "2322668484d07045fa38c40a7e78fadc602a0184ed25cf1908973dfc6ccba392", func := "loop.example/g02080/laws.FnSounds", spec := "fnSounds", inPlace := ["internal/bytealg.IndexByteString"], unfollowed := true, recurses := true, named := ["loop.example/g02080/impl.featureSounds"], apart := false, laid := [("loop.example/g02080/impl.featureSounds", laid_loop_example_g02080_impl_featureSounds)], narrowed := true }
def FnSoundsUptoSaid : Prop := fnSoundsUptoRow.holds Tryd.pinned (OpenSpec.upto fnSoundsSpec)

/-- 'laws.FnExactHasFeature', WHERE WHAT IT READS IS OF BULK AT MOST 1048576: true; the input reads as it did. -/
def fnExactHasFeatureUptoRow : OpenClaim := { program := "ytpcggbpfpicjiaadoor", sum := "2322668484d07045fa38c40a7e78fadc602a0184ed25cf1908973dfc6ccba392", func := "loop.example/g02080/laws.FnExactHasFeature", spec := "fnExactHasFeature", inPlace := ["internal/bytealg.IndexByteString"], named := ["loop.example/g02080/impl.featureSounds"], apart := false, laid := [("loop.example/g02080/impl.featureSounds", laid_loop_example_g02080_impl_featureSounds)], narrowed := true }
def FnExactHasFeatureUptoSaid : Prop := fnExactHasFeatureUptoRow.holds Tryd.pinned (OpenSpec.upto fnExactHasFeatureSpec)

/-- 'laws.FnExactSoundsWith', WHERE WHAT IT READS IS OF BULK AT MOST 1048576: true; the input reads as it did. -/
def fnExactSoundsWithUptoRow : OpenClaim := { program := "ytpcggbpfpicjiaadoor", sum := "2322668484d07045fa38c40a7e78fadc602a0184ed25cf1908973dfc6ccba392", func := "loop.example/g02080/laws.FnExactSoundsWith", spec := "fnExactSoundsWith", inPlace := ["internal/bytealg.IndexByteString"], unfollowed := true, recurses := true, named := ["loop.example/g02080/impl.featureSounds"], apart := false, laid := [("loop.example/g02080/impl.featureSounds", laid_loop_example_g02080_impl_featureSounds)], narrowed := true }
def FnExactSoundsWithUptoSaid : Prop := fnExactSoundsWithUptoRow.holds Tryd.pinned (OpenSpec.upto fnExactSoundsWithSpec)

/-- 'laws.FnExactSharedFeatures', WHERE WHAT IT READS IS OF BULK AT MOST 1048576: true; the input reads as it did. -/
def fnExactSharedFeaturesUptoRow : OpenClaim := { program := "ytpcggbpfpicjiaadoor", sum := "2322668484d07045fa38c40a7e78fadc602a0184ed25cf1908973dfc6ccba392", func := "loop.example/g02080/laws.FnExactSharedFeatures", spec := "fnExactSharedFeatures", inPlace := ["internal/bytealg.IndexByteString"], named := ["loop.example/g02080/impl.featureSounds"], apart := false, laid := [("loop.example/g02080/impl.featureSounds", laid_loop_example_g02080_impl_featureSounds)], narrowed := true }
def FnExactSharedFeaturesUptoSaid : Prop := fnExactSharedFeaturesUptoRow.holds Tryd.pinned (OpenSpec.upto fnExactSharedFeaturesSpec)

/-- 'laws.FnExactNaturalClass', WHERE WHAT IT READS IS OF BULK AT MOST 1048576: true; the input reads as it did. -/
def fnExactNaturalClassUptoRow : OpenClaim := { program := "ytpcggbpfpicjiaadoor", sum := "2322668484d07045fa38c40a7e78fadc602a0184ed25cf1908973dfc6ccba392", func := "loop.example/g02080/laws.FnExactNaturalClass", spec := "fnExactNaturalClass", inPlace := ["internal/bytealg.IndexByteString"], unfollowed := true, recurses := true, named := ["loop.example/g02080/impl.featureSounds"], apart := false, laid := [("loop.example/g02080/impl.featureSounds", laid_loop_example_g02080_impl_featureSounds)], narrowed := true }
def FnExactNaturalClassUptoSaid : Prop := fnExactNaturalClassUptoRow.holds Tryd.pinned (OpenSpec.upto fnExactNaturalClassSpec)

/-- 'laws.FnExactIsNaturalClass', WHERE WHAT IT READS IS OF BULK AT MOST 1048576: true; the input reads as it did. -/
def fnExactIsNaturalClassUptoRow : OpenClaim := { program := "ytpcggbpfpicjiaadoor", sum := "2322668484d07045fa38c40a7e78fadc602a0184ed25cf1908973dfc6ccba392", func := "loop.example/g02080/laws.FnExactIsNaturalClass", spec := "fnExactIsNaturalClass", inPlace := ["internal/bytealg.IndexByteString"], unfollowed := true, recurses := true, named := ["loop.example/g02080/impl.featureSounds"], apart := false, laid := [("loop.example/g02080/impl.featureSounds", laid_loop_example_g02080_impl_featureSounds)], narrowed := true }
def FnExactIsNaturalClassUptoSaid : Prop := fnExactIsNaturalClassUptoRow.holds Tryd.pinned (OpenSpec.upto fnExactIsNaturalClassSpec)

end Rows
end Go.Proofs.YtpcggbpfpicjiaaDoor
