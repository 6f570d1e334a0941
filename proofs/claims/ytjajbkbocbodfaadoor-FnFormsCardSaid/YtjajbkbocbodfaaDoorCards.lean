/-
  DERIVED. GIVEN WITH THE SEED: THE CARDS: each row of YtjajbkbocbodfaaDoorRows.lean that lists a variable, with what it lists TIED to the program's text (the seventh form; the later family's looks); each row that meets fmt, with fmt's text TOLD by the authors' own Lean function (tested against real Go, not proved from fmt's source: count such statements apart). THE CARD IS WHAT COUNTS. Prove the row's statement (the work); the ties are given (YtjajbkbocbodfaaDoorTie.lean); close each card by the builder's one call (the guide's Derived/Test/ToyasCard.lean, 'card_holds'). Laid BY PROGRAM, IN A SANDBOX (cutbox-door.mjs). By AI agents, Wed Nov 11 2026. No macro, syntax, notation, axiom, sorry.
-/
import Derived.Test.YtjajbkbocbodfaaDoorRows
import GoSem.ClaimSeven
namespace Go.Proofs.YtjajbkbocbodfaaDoor
namespace Rows

/-- THE TIED CARD OF 'laws.FnForms'. -/
def fnFormsCard : Claim7 := { stood := { row := fnFormsRow, standIns := [], harness := (true, "6b2011ecb1681425c979446ac19834799581c7c9772773a9b4d715e7530bb20b"), looks := false }, kinds := [], alts := [], laidByText := true, laidKinds := [.data], laidTests := true, laidLooks := .later }
def FnFormsCardSaid : Prop := Claim7.holds Tryd.pinned (.plain (OpenSpec.ofChange fnFormsSpec)) fnFormsCard

/-- THE TIED CARD OF 'laws.FnExactSyllablesOf'. -/
def fnExactSyllablesOfCard : Claim7 := { stood := { row := fnExactSyllablesOfRow, standIns := [], harness := (true, "6b2011ecb1681425c979446ac19834799581c7c9772773a9b4d715e7530bb20b"), looks := false }, kinds := [], alts := [], laidByText := true, laidKinds := [.data], laidTests := true, laidLooks := .later }
def FnExactSyllablesOfCardSaid : Prop := Claim7.holds Tryd.pinned (.plain (OpenSpec.ofChange fnExactSyllablesOfSpec)) fnExactSyllablesOfCard

/-- THE TIED CARD OF 'laws.FnExactCountSyllables'. -/
def fnExactCountSyllablesCard : Claim7 := { stood := { row := fnExactCountSyllablesRow, standIns := [], harness := (true, "6b2011ecb1681425c979446ac19834799581c7c9772773a9b4d715e7530bb20b"), looks := false }, kinds := [], alts := [], laidByText := true, laidKinds := [.data], laidTests := true, laidLooks := .later }
def FnExactCountSyllablesCardSaid : Prop := Claim7.holds Tryd.pinned (.plain (OpenSpec.ofChange fnExactCountSyllablesSpec)) fnExactCountSyllablesCard

/-- THE TIED CARD OF 'laws.FnExactIsRegular'. -/
def fnExactIsRegularCard : Claim7 := { stood := { row := fnExactIsRegularRow, standIns := [], harness := (true, "6b2011ecb1681425c979446ac19834799581c7c9772773a9b4d715e7530bb20b"), looks := false }, kinds := [], alts := [], laidByText := true, laidKinds := [.data], laidTests := true, laidLooks := .later }
def FnExactIsRegularCardSaid : Prop := Claim7.holds Tryd.pinned (.plain (OpenSpec.ofChange fnExactIsRegularSpec)) fnExactIsRegularCard

/-- THE SECOND FORM's CARD OF 'laws.FnForms'. -/
def fnFormsUptoCard : Claim7 := { stood := { row := fnFormsUptoRow, standIns := [], harness := (true, "6b2011ecb1681425c979446ac19834799581c7c9772773a9b4d715e7530bb20b"), looks := false }, kinds := [], alts := [], laidByText := true, laidKinds := [.data], laidTests := true, laidLooks := .later }
def FnFormsUptoCardSaid : Prop := Claim7.holds Tryd.pinned (.plain (OpenSpec.upto fnFormsSpec)) fnFormsUptoCard

/-- THE SECOND FORM's CARD OF 'laws.FnExactSyllablesOf'. -/
def fnExactSyllablesOfUptoCard : Claim7 := { stood := { row := fnExactSyllablesOfUptoRow, standIns := [], harness := (true, "6b2011ecb1681425c979446ac19834799581c7c9772773a9b4d715e7530bb20b"), looks := false }, kinds := [], alts := [], laidByText := true, laidKinds := [.data], laidTests := true, laidLooks := .later }
def FnExactSyllablesOfUptoCardSaid : Prop := Claim7.holds Tryd.pinned (.plain (OpenSpec.upto fnExactSyllablesOfSpec)) fnExactSyllablesOfUptoCard

/-- THE SECOND FORM's CARD OF 'laws.FnExactCountSyllables'. -/
def fnExactCountSyllablesUptoCard : Claim7 := { stood := { row := fnExactCountSyllablesUptoRow, standIns := [], harness := (true, "6b2011ecb1681425c979446ac19834799581c7c9772773a9b4d715e7530bb20b"), looks := false }, kinds := [], alts := [], laidByText := true, laidKinds := [.data], laidTests := true, laidLooks := .later }
def FnExactCountSyllablesUptoCardSaid : Prop := Claim7.holds Tryd.pinned (.plain (OpenSpec.upto fnExactCountSyllablesSpec)) fnExactCountSyllablesUptoCard

/-- THE SECOND FORM's CARD OF 'laws.FnExactIsRegular'. -/
def fnExactIsRegularUptoCard : Claim7 := { stood := { row := fnExactIsRegularUptoRow, standIns := [], harness := (true, "6b2011ecb1681425c979446ac19834799581c7c9772773a9b4d715e7530bb20b"), looks := false }, kinds := [], alts := [], laidByText := true, laidKinds := [.data], laidTests := true, laidLooks := .later }
def FnExactIsRegularUptoCardSaid : Prop := Claim7.holds Tryd.pinned (.plain (OpenSpec.upto fnExactIsRegularSpec)) fnExactIsRegularUptoCard
end Rows
end Go.Proofs.YtjajbkbocbodfaaDoor
