/-
  No cell of these rows narrows 'for every input' (looked for: loops, veiled, ifaces, maps, wideKeys, modest, calm, conditions, laid).
  DERIVED. THE GIVEN ROWS OF THIS SEAT. 4 by the template 'for every input the law returns true; each argument reads behind the call as it read before'; 0 by the template 'total and deterministic' (their statements: YtjajbkbocbodfaaTotals.lean).
  GIVEN WITH THE SEED: the statements are not yours to turn. If you find one false, say at which input.
  Laid BY PROGRAM, IN A SANDBOX (cutbox-rows.mjs): the forced cells as the released guide's own fill.sh prints them over the translation 503d97e2254540f7… (all of the seat's roots in one cut). By AI agents, Wed Nov 11 2026. No macro, syntax, notation, axiom, sorry.
-/
import Derived.Test.YtjajbkbocbodfaaChecked
import GoSem.Claim
import GoSem.ClaimJoined
import GoSem.ClaimMapViews
import Derived.JoinedTies
import Derived.KernelRfl
namespace Go.Proofs.Ytjajbkbocbodfaa
/- THE CELL 'sum', in the pinned program and in every row, IS THE sha256 OF THE DUMP (.gsa) THAT YtjajbkbocbodfaaProg.lean LOADS. Nothing in Lean hashes anything: it is a label: what it is worth is what the hold of that sum in a sandbox is worth. -/
noncomputable def Try.pinned : Pinned := { name := "ytjajbkbocbodfaa", sum := "503d97e2254540f791cb4d88a31c1f4e4f3bbea6c30dc54bc7b2059208bb1d2c", checked := Try.checked }
namespace Rows
def none {H : Type} : Left H := { results := [], args := [] }

/-- 'laws.FnExactJoinSyllables': WHATEVER THE INPUT: true; the input reads as it did. -/
def fnExactJoinSyllablesSpec : ChangeSpec := { name := "fnExactJoinSyllables", fn := fun _ => fun
  | [d] => { results := [.lit (.bool true)], args := [d] }
  | _ => none }
def fnExactJoinSyllablesRow : OpenClaim := { program := "ytjajbkbocbodfaa", sum := "503d97e2254540f791cb4d88a31c1f4e4f3bbea6c30dc54bc7b2059208bb1d2c", func := "loop.example/g02080/laws.FnExactJoinSyllables", spec := "fnExactJoinSyllables", inPlace := ["internal/abi.NoEscape", "internal/bytealg.MakeNoZero"], apart := false }
def FnExactJoinSyllablesSaid : Prop := fnExactJoinSyllablesRow.holds Try.pinned (OpenSpec.ofChange fnExactJoinSyllablesSpec)

/-- ITS FALSE NEIGHBOUR: 'it returns false'. Refute it at one input. -/
def fnExactJoinSyllablesWrong : ChangeSpec := { name := "fnExactJoinSyllables", fn := fun _ => fun
  | [d] => { results := [.lit (.bool false)], args := [d] }
  | _ => none }
def FnExactJoinSyllablesWrongFalsely : Prop := fnExactJoinSyllablesRow.holds Try.pinned (OpenSpec.ofChange fnExactJoinSyllablesWrong)

/-- 'laws.FnExactIsOpen': WHATEVER THE INPUT: true; the input reads as it did. -/
def fnExactIsOpenSpec : ChangeSpec := { name := "fnExactIsOpen", fn := fun _ => fun
  | [d] => { results := [.lit (.bool true)], args := [d] }
  | _ => none }
def fnExactIsOpenRow : OpenClaim := { program := "ytjajbkbocbodfaa", sum := "503d97e2254540f791cb4d88a31c1f4e4f3bbea6c30dc54bc7b2059208bb1d2c", func := "loop.example/g02080/laws.FnExactIsOpen", spec := "fnExactIsOpen", apart := false }
def FnExactIsOpenSaid : Prop := fnExactIsOpenRow.holds Try.pinned (OpenSpec.ofChange fnExactIsOpenSpec)

/-- ITS FALSE NEIGHBOUR: 'it returns false'. Refute it at one input. -/
def fnExactIsOpenWrong : ChangeSpec := { name := "fnExactIsOpen", fn := fun _ => fun
  | [d] => { results := [.lit (.bool false)], args := [d] }
  | _ => none }
def FnExactIsOpenWrongFalsely : Prop := fnExactIsOpenRow.holds Try.pinned (OpenSpec.ofChange fnExactIsOpenWrong)

/-- 'laws.FnExactWeightOf': WHATEVER THE INPUT: true; the input reads as it did. -/
def fnExactWeightOfSpec : ChangeSpec := { name := "fnExactWeightOf", fn := fun _ => fun
  | [d] => { results := [.lit (.bool true)], args := [d] }
  | _ => none }
def fnExactWeightOfRow : OpenClaim := { program := "ytjajbkbocbodfaa", sum := "503d97e2254540f791cb4d88a31c1f4e4f3bbea6c30dc54bc7b2059208bb1d2c", func := "loop.example/g02080/laws.FnExactWeightOf", spec := "fnExactWeightOf", apart := false }
def FnExactWeightOfSaid : Prop := fnExactWeightOfRow.holds Try.pinned (OpenSpec.ofChange fnExactWeightOfSpec)

/-- ITS FALSE NEIGHBOUR: 'it returns false'. Refute it at one input. -/
def fnExactWeightOfWrong : ChangeSpec := { name := "fnExactWeightOf", fn := fun _ => fun
  | [d] => { results := [.lit (.bool false)], args := [d] }
  | _ => none }
def FnExactWeightOfWrongFalsely : Prop := fnExactWeightOfRow.holds Try.pinned (OpenSpec.ofChange fnExactWeightOfWrong)

/-- 'laws.FnExactFormatSyllables': WHATEVER THE INPUT: true; the input reads as it did. -/
def fnExactFormatSyllablesSpec : ChangeSpec := { name := "fnExactFormatSyllables", fn := fun _ => fun
  | [d] => { results := [.lit (.bool true)], args := [d] }
  | _ => none }
def fnExactFormatSyllablesRow : OpenClaim := { program := "ytjajbkbocbodfaa", sum := "503d97e2254540f791cb4d88a31c1f4e4f3bbea6c30dc54bc7b2059208bb1d2c", func := "loop.example/g02080/laws.FnExactFormatSyllables", spec := "fnExactFormatSyllables", inPlace := ["internal/abi.NoEscape", "internal/bytealg.MakeNoZero"], apart := false }
def FnExactFormatSyllablesSaid : Prop := fnExactFormatSyllablesRow.holds Try.pinned (OpenSpec.ofChange fnExactFormatSyllablesSpec)

/-- ITS FALSE NEIGHBOUR: 'it returns false'. Refute it at one input. -/
def fnExactFormatSyllablesWrong : ChangeSpec := { name := "fnExactFormatSyllables", fn := fun _ => fun
  | [d] => { results := [.lit (.bool false)], args := [d] }
  | _ => none }
def FnExactFormatSyllablesWrongFalsely : Prop := fnExactFormatSyllablesRow.holds Try.pinned (OpenSpec.ofChange fnExactFormatSyllablesWrong)

/- THE SECOND FORM. 'bulk': how many values and letters a reading holds, each counted each time it is reached (what is shared counts as often as it is met; a slice's spare places count too). A statement '..UptoSaid' is the law's where the arguments, and the package variables that the reading takes, are together of bulk at most 1048576: NARROWER than '..Said'. Prove '..Said' where nothing that the law and all that it calls make is longer than what came in: it says more and counts as full. Else prove '..UptoSaid'. A law counts once. -/
mutual
def uptoBulk {H : Type} : DataW H → Nat
  | .lit (.string bytes) => bytes.length + 1
  | .lit _ => 1
  | .nil => 1
  | .ptr d => uptoBulk d + 1
  | .slice elems spare => uptoBulkAll elems + uptoBulkAll spare + 1
  | .agg parts => uptoBulkAll parts + 1
  | .iface _ d => uptoBulk d + 1
  | .map entries => uptoBulkEntries entries + 1
  | .held _ => 1
def uptoBulkAll {H : Type} : List (DataW H) → Nat
  | [] => 0
  | d :: r => uptoBulk d + uptoBulkAll r
def uptoBulkEntries {H : Type} : List (Lit × DataW H) → Nat
  | [] => 0
  | x :: r => uptoBulkEntry x + uptoBulkEntries r
def uptoBulkEntry {H : Type} : Lit × DataW H → Nat
  | (.string bytes, d) => bytes.length + uptoBulk d + 1
  | (_, d) => uptoBulk d + 1
 end
def uptoSmall : (H : Type) → List (DataW H) → Bool := fun _ ds => decide (uptoBulkAll ds ≤ 1048576)
def OpenSpec.upto (s : _root_.Go.ChangeSpec) : _root_.Go.OpenSpec := { _root_.Go.OpenSpec.ofChange s with cond := some uptoSmall }

/-- 'laws.FnExactJoinSyllables', WHERE WHAT IT READS IS OF BULK AT MOST 1048576: true; the input reads as it did. -/
def fnExactJoinSyllablesUptoRow : OpenClaim := { program := "ytjajbkbocbodfaa", sum := "503d97e2254540f791cb4d88a31c1f4e4f3bbea6c30dc54bc7b2059208bb1d2c", func := "loop.example/g02080/laws.FnExactJoinSyllables", spec := "fnExactJoinSyllables", inPlace := ["internal/abi.NoEscape", "internal/bytealg.MakeNoZero"], apart := false, narrowed := true }
def FnExactJoinSyllablesUptoSaid : Prop := fnExactJoinSyllablesUptoRow.holds Try.pinned (OpenSpec.upto fnExactJoinSyllablesSpec)

/-- 'laws.FnExactIsOpen', WHERE WHAT IT READS IS OF BULK AT MOST 1048576: true; the input reads as it did. -/
def fnExactIsOpenUptoRow : OpenClaim := { program := "ytjajbkbocbodfaa", sum := "503d97e2254540f791cb4d88a31c1f4e4f3bbea6c30dc54bc7b2059208bb1d2c", func := "loop.example/g02080/laws.FnExactIsOpen", spec := "fnExactIsOpen", apart := false, narrowed := true }
def FnExactIsOpenUptoSaid : Prop := fnExactIsOpenUptoRow.holds Try.pinned (OpenSpec.upto fnExactIsOpenSpec)

/-- 'laws.FnExactWeightOf', WHERE WHAT IT READS IS OF BULK AT MOST 1048576: true; the input reads as it did. -/
def fnExactWeightOfUptoRow : OpenClaim := { program := "ytjajbkbocbodfaa", sum := "503d97e2254540f791cb4d88a31c1f4e4f3bbea6c30dc54bc7b2059208bb1d2c", func := "loop.example/g02080/laws.FnExactWeightOf", spec := "fnExactWeightOf", apart := false, narrowed := true }
def FnExactWeightOfUptoSaid : Prop := fnExactWeightOfUptoRow.holds Try.pinned (OpenSpec.upto fnExactWeightOfSpec)

/-- 'laws.FnExactFormatSyllables', WHERE WHAT IT READS IS OF BULK AT MOST 1048576: true; the input reads as it did. -/
def fnExactFormatSyllablesUptoRow : OpenClaim := { program := "ytjajbkbocbodfaa", sum := "503d97e2254540f791cb4d88a31c1f4e4f3bbea6c30dc54bc7b2059208bb1d2c", func := "loop.example/g02080/laws.FnExactFormatSyllables", spec := "fnExactFormatSyllables", inPlace := ["internal/abi.NoEscape", "internal/bytealg.MakeNoZero"], apart := false, narrowed := true }
def FnExactFormatSyllablesUptoSaid : Prop := fnExactFormatSyllablesUptoRow.holds Try.pinned (OpenSpec.upto fnExactFormatSyllablesSpec)

end Rows
end Go.Proofs.Ytjajbkbocbodfaa
