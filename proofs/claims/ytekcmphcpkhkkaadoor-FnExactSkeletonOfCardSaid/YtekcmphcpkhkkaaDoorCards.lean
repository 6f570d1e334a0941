/-
  DERIVED. GIVEN WITH THE SEED: THE CARDS: each row of YtekcmphcpkhkkaaDoorRows.lean that lists a variable, with what it lists TIED to the program's text (the seventh form; the later family's looks); each row that meets fmt, with fmt's text TOLD by the authors' own Lean function (tested against real Go, not proved from fmt's source: count such statements apart). THE CARD IS WHAT COUNTS. Prove the row's statement (the work); the ties are given (YtekcmphcpkhkkaaDoorTie.lean); close each card by the builder's one call (the guide's Derived/Test/ToyasCard.lean, 'card_holds'). Laid BY PROGRAM, IN A SANDBOX (cutbox-door.mjs). By AI agents, Wed Nov 11 2026. No macro, syntax, notation, axiom, sorry.
-/
import Derived.Test.YtekcmphcpkhkkaaDoorRows
import GoSem.ClaimSeven
namespace Go.Proofs.YtekcmphcpkhkkaaDoor
namespace Rows

/-- THE TIED CARD OF 'laws.FnExactIsVowelAt'. -/
def fnExactIsVowelAtCard : Claim7 := { stood := { row := fnExactIsVowelAtRow, standIns := [], harness := (true, "7276c371b78f8b017e148ee2f0a608b79967fcb4af5a0ad2b4f98e7fbf867067"), looks := false }, kinds := [], alts := [], laidByText := true, laidKinds := [.data], laidTests := true, laidLooks := .later }
def FnExactIsVowelAtCardSaid : Prop := Claim7.holds Tryd.pinned (.plain (OpenSpec.ofChange fnExactIsVowelAtSpec)) fnExactIsVowelAtCard

/-- THE TIED CARD OF 'laws.FnExactCountVowels'. -/
def fnExactCountVowelsCard : Claim7 := { stood := { row := fnExactCountVowelsRow, standIns := [], harness := (true, "7276c371b78f8b017e148ee2f0a608b79967fcb4af5a0ad2b4f98e7fbf867067"), looks := false }, kinds := [], alts := [], laidByText := true, laidKinds := [.data], laidTests := true, laidLooks := .later }
def FnExactCountVowelsCardSaid : Prop := Claim7.holds Tryd.pinned (.plain (OpenSpec.ofChange fnExactCountVowelsSpec)) fnExactCountVowelsCard

/-- THE TIED CARD OF 'laws.FnExactSkeletonOf'. -/
def fnExactSkeletonOfCard : Claim7 := { stood := { row := fnExactSkeletonOfRow, standIns := [], harness := (true, "7276c371b78f8b017e148ee2f0a608b79967fcb4af5a0ad2b4f98e7fbf867067"), looks := false }, kinds := [], alts := [], laidByText := true, laidKinds := [.data], laidTests := true, laidLooks := .later }
def FnExactSkeletonOfCardSaid : Prop := Claim7.holds Tryd.pinned (.plain (OpenSpec.ofChange fnExactSkeletonOfSpec)) fnExactSkeletonOfCard

/-- THE SECOND FORM's CARD OF 'laws.FnExactIsVowelAt'. -/
def fnExactIsVowelAtUptoCard : Claim7 := { stood := { row := fnExactIsVowelAtUptoRow, standIns := [], harness := (true, "7276c371b78f8b017e148ee2f0a608b79967fcb4af5a0ad2b4f98e7fbf867067"), looks := false }, kinds := [], alts := [], laidByText := true, laidKinds := [.data], laidTests := true, laidLooks := .later }
def FnExactIsVowelAtUptoCardSaid : Prop := Claim7.holds Tryd.pinned (.plain (OpenSpec.upto fnExactIsVowelAtSpec)) fnExactIsVowelAtUptoCard

/-- THE SECOND FORM's CARD OF 'laws.FnExactCountVowels'. -/
def fnExactCountVowelsUptoCard : Claim7 := { stood := { row := fnExactCountVowelsUptoRow, standIns := [], harness := (true, "7276c371b78f8b017e148ee2f0a608b79967fcb4af5a0ad2b4f98e7fbf867067"), looks := false }, kinds := [], alts := [], laidByText := true, laidKinds := [.data], laidTests := true, laidLooks := .later }
def FnExactCountVowelsUptoCardSaid : Prop := Claim7.holds Tryd.pinned (.plain (OpenSpec.upto fnExactCountVowelsSpec)) fnExactCountVowelsUptoCard

/-- THE SECOND FORM's CARD OF 'laws.FnExactSkeletonOf'. -/
def fnExactSkeletonOfUptoCard : Claim7 := { stood := { row := fnExactSkeletonOfUptoRow, standIns := [], harness := (true, "7276c371b78f8b017e148ee2f0a608b79967fcb4af5a0ad2b4f98e7fbf867067"), looks := false }, kinds := [], alts := [], laidByText := true, laidKinds := [.data], laidTests := true, laidLooks := .later }
def FnExactSkeletonOfUptoCardSaid : Prop := Claim7.holds Tryd.pinned (.plain (OpenSpec.upto fnExactSkeletonOfSpec)) fnExactSkeletonOfUptoCard
end Rows
end Go.Proofs.YtekcmphcpkhkkaaDoor
