/-
  No cell of these rows narrows 'for every input' (looked for: loops, veiled, ifaces, maps, wideKeys, modest, calm, conditions, laid).
  DERIVED. THE GIVEN ROWS OF THIS SEAT. 3 by the template 'for every input the law returns true; each argument reads behind the call as it read before'; 0 by the template 'total and deterministic' (their statements: YtpcggbpfpicjiaaTotals.lean).
  GIVEN WITH THE SEED: the statements are not yours to turn. If you find one false, say at which input.
  Laid BY PROGRAM, IN A SANDBOX (cutbox-rows.mjs): the forced cells as the released guide's own fill.sh prints them over the translation 42e27b9a5cdd7773… (all of the seat's roots in one cut). By AI agents, Wed Nov 11 2026. No macro, syntax, notation, axiom, sorry.
-/
import Derived.Test.YtpcggbpfpicjiaaChecked
import GoSem.Claim
import GoSem.ClaimJoined
import GoSem.ClaimMapViews
import Derived.JoinedTies
import Derived.KernelRfl
namespace Go.Proofs.Ytpcggbpfpicjiaa
/- THE CELL 'sum', in the pinned program and in every row, IS THE sha256 OF THE DUMP (.gsa) THAT YtpcggbpfpicjiaaProg.lean LOADS. Nothing in Lean hashes anything: it is a label: what it is worth is what the hold of that sum in a sandbox is worth. -/
noncomputable def Try.pinned : Pinned := { name := "ytpcggbpfpicjiaa", sum := "42e27b9a5cdd777309d809e3ec0f762f3eede33fc16c8553d1f288353652be19", checked := Try.checked }
namespace Rows
def none {H : Type} : Left H := { results := [], args := [] }

/-- 'laws.FnExactIsSound': WHATEVER THE INPUT: true; the input reads as it did. -/
def fnExactIsSoundSpec : ChangeSpec := { name := "fnExactIsSound", fn := fun _ => fun
  | [d] => { results := [.lit (.bool true)], args := [d] }
  | _ => none }
def fnExactIsSoundRow : OpenClaim := { program := "ytpcggbpfpicjiaa", sum := "42e27b9a5cdd777309d809e3ec0f762f3eede33fc16c8553d1f288353652be19", func := "loop.example/g02080/laws.FnExactIsSound", spec := "fnExactIsSound", inPlace := ["internal/bytealg.IndexByteString"], apart := false }
def FnExactIsSoundSaid : Prop := fnExactIsSoundRow.holds Try.pinned (OpenSpec.ofChange fnExactIsSoundSpec)

/-- ITS FALSE NEIGHBOUR: 'it returns false'. Refute it at one input. -/
def fnExactIsSoundWrong : ChangeSpec := { name := "fnExactIsSound", fn := fun _ => fun
  | [d] => { results := [.lit (.bool false)], args := [d] }
  | _ => none }
def FnExactIsSoundWrongFalsely : Prop := fnExactIsSoundRow.holds Try.pinned (OpenSpec.ofChange fnExactIsSoundWrong)

/-- 'laws.FnExactIsObstruent': WHATEVER THE INPUT: true; the input reads as it did. -/
def fnExactIsObstruentSpec : ChangeSpec := { name := "fnExactIsObstruent", fn := fun _ => fun
  | [d] => { results := [.lit (.bool true)], args := [d] }
  | _ => none }
def fnExactIsObstruentRow : OpenClaim := { program := "ytpcggbpfpicjiaa", sum := "42e27b9a5cdd777309d809e3ec0f762f3eede33fc16c8553d1f288353652be19", func := "loop.example/g02080/laws.FnExactIsObstruent", spec := "fnExactIsObstruent", inPlace := ["internal/bytealg.IndexByteString"], apart := false }
def FnExactIsObstruentSaid : Prop := fnExactIsObstruentRow.holds Try.pinned (OpenSpec.ofChange fnExactIsObstruentSpec)

/-- ITS FALSE NEIGHBOUR: 'it returns false'. Refute it at one input. -/
def fnExactIsObstruentWrong : ChangeSpec := { name := "fnExactIsObstruent", fn := fun _ => fun
  | [d] => { results := [.lit (.bool false)], args := [d] }
  | _ => none }
def FnExactIsObstruentWrongFalsely : Prop := fnExactIsObstruentRow.holds Try.pinned (OpenSpec.ofChange fnExactIsObstruentWrong)

/-- 'laws.FnExactSwapVoice': WHATEVER THE INPUT: true; the input reads as it did. -/
def fnExactSwapVoiceSpec : ChangeSpec := { name := "fnExactSwapVoice", fn := fun _ => fun
  | [d] => { results := [.lit (.bool true)], args := [d] }
  | _ => none }
def fnExactSwapVoiceRow : OpenClaim := { program := "ytpcggbpfpicjiaa", sum := "42e27b9a5cdd777309d809e3ec0f762f3eede33fc16c8553d1f288353652be19", func := "loop.example/g02080/laws.FnExactSwapVoice", spec := "fnExactSwapVoice", apart := false }
def FnExactSwapVoiceSaid : Prop := fnExactSwapVoiceRow.holds Try.pinned (OpenSpec.ofChange fnExactSwapVoiceSpec)

/-- ITS FALSE NEIGHBOUR: 'it returns false'. Refute it at one input. -/
def fnExactSwapVoiceWrong : ChangeSpec := { name := "fnExactSwapVoice", fn := fun _ => fun
  | [d] => { results := [.lit (.bool false)], args := [d] }
  | _ => none }
def FnExactSwapVoiceWrongFalsely : Prop := fnExactSwapVoiceRow.holds Try.pinned (OpenSpec.ofChange fnExactSwapVoiceWrong)

/- THE SECOND FORM. 'bulk': how many values and letters a reading holds, each counted each time it is reached (what is shared counts as often as it is met; a slice's spare places count too). A statement '..UptoSaid' is the law's where the arguments, and the package variables that the reading takes, are together of bulk at most 1048576: NARROWER than '..Said'. Prove '..Said' where nothing that the law and all that it calls make is longer than what came in: it says more and counts as full. Else prove '..UptoSaid'. A law counts once. -/
mutual
def uptoBulk {H : Type} : DataW H → Nat
  | .lit (.string bytes) => bytes.length + 1
  | .lit _ => 1
  | .nil => 1
  | .ptr d => uptoBulk d + 1
  | .slice elems spare => uptoBulkAll elems + uptoBulkAll spare + 1
  | .agg parts => uptoBulkAll parts + 1
  | .iface _ d => uptoBulk d + 1
  | .map entries => uptoBulkEntries entries + 1
  | .held _ => 1
def uptoBulkAll {H : Type} : List (DataW H) → Nat
  | [] => 0
  | d :: r => uptoBulk d + uptoBulkAll r
def uptoBulkEntries {H : Type} : List (Lit × DataW H) → Nat
  | [] => 0
  | x :: r => uptoBulkEntry x + uptoBulkEntries r
def uptoBulkEntry {H : Type} : Lit × DataW H → Nat
  | (.string bytes, d) => bytes.length + uptoBulk d + 1
  | (_, d) => uptoBulk d + 1
 end
def uptoSmall : (H : Type) → List (DataW H) → Bool := fun _ ds => decide (uptoBulkAll ds ≤ 1048576)
def OpenSpec.upto (s : _root_.Go.ChangeSpec) : _root_.Go.OpenSpec := { _root_.Go.OpenSpec.ofChange s with cond := some uptoSmall }

/-- 'laws.FnExactIsSound', WHERE WHAT IT READS IS OF BULK AT MOST 1048576: true; the input reads as it did. -/
def fnExactIsSoundUptoRow : OpenClaim := { program := "ytpcggbpfpicjiaa", sum := "42e27b9a5cdd777309d809e3ec0f762f3eede33fc16c8553d1f288353652be19", func := "loop.example/g02080/laws.FnExactIsSound", spec := "fnExactIsSound", inPlace := ["internal/bytealg.IndexByteString"], apart := false, narrowed := true }
def FnExactIsSoundUptoSaid : Prop := fnExactIsSoundUptoRow.holds Try.pinned (OpenSpec.upto fnExactIsSoundSpec)

/-- 'laws.FnExactIsObstruent', WHERE WHAT IT READS IS OF BULK AT MOST 1048576: true; the input reads as it did. -/
def fnExactIsObstruentUptoRow : OpenClaim := { program := "ytpcggbpfpicjiaa", sum := "42e27b9a5cdd777309d809e3ec0f762f3eede33fc16c8553d1f288353652be19", func := "loop.example/g02080/laws.FnExactIsObstruent", spec := "fnExactIsObstruent", inPlace := ["internal/bytealg.IndexByteString"], apart := false, narrowed := true }
def FnExactIsObstruentUptoSaid : Prop := fnExactIsObstruentUptoRow.holds Try.pinned (OpenSpec.upto fnExactIsObstruentSpec)

/-- 'laws.FnExactSwapVoice', WHERE WHAT IT READS IS OF BULK AT MOST 1048576: true; the input reads as it did. -/
def fnExactSwapVoiceUptoRow : OpenClaim := { program := "ytpcggbpfpicjiaa", sum := "42e27b9a5cdd777309d809e3ec0f762f3eede33fc16c8553d1f288353652be19", func := "loop.example/g02080/laws.FnExactSwapVoice", spec := "fnExactSwapVoice", apart := false, narrowed := true }
def FnExactSwapVoiceUptoSaid : Prop := fnExactSwapVoiceUptoRow.holds Try.pinned (OpenSpec.upto fnExactSwapVoiceSpec)

end Rows
end Go.Proofs.Ytpcggbpfpicjiaa
