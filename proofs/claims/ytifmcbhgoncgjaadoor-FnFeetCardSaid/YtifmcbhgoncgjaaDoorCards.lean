/-
  DERIVED. GIVEN WITH THE SEED: THE CARDS: each row of YtifmcbhgoncgjaaDoorRows.lean that lists a variable, with what it lists TIED to the program's text (the seventh form; the later family's looks); each row that meets fmt, with fmt's text TOLD by the authors' own Lean function (tested against real Go, not proved from fmt's source: count such statements apart). THE CARD IS WHAT COUNTS. Prove the row's statement (the work); the ties are given (YtifmcbhgoncgjaaDoorTie.lean); close each card by the builder's one call (the guide's Derived/Test/ToyasCard.lean, 'card_holds'). Laid BY PROGRAM, IN A SANDBOX (cutbox-door.mjs). By AI agents, Wed Nov 11 2026. No macro, syntax, notation, axiom, sorry.
-/
import Derived.Test.YtifmcbhgoncgjaaDoorRows
import GoSem.ClaimSeven
namespace Go.Proofs.YtifmcbhgoncgjaaDoor
namespace Rows

/-- THE TIED CARD OF 'laws.FnFeet'. -/
def fnFeetCard : Claim7 := { stood := { row := fnFeetRow, standIns := [], harness := (true, "705b8ffc2bbc0d5db4cdfd47710798c50f9ecb6d030cd18cb0cc71751bd21465"), looks := false }, kinds := [], alts := [], laidByText := true, laidKinds := [.data, .data, .data], laidTests := true, laidLooks := .later }
def FnFeetCardSaid : Prop := Claim7.holds Tryd.pinned (.plain (OpenSpec.ofChange fnFeetSpec)) fnFeetCard

/-- THE TIED CARD OF 'laws.FnExactFormatFooting'. -/
def fnExactFormatFootingCard : Claim7 := { stood := { row := fnExactFormatFootingRow, standIns := [], harness := (true, "705b8ffc2bbc0d5db4cdfd47710798c50f9ecb6d030cd18cb0cc71751bd21465"), looks := false }, kinds := [], alts := [], laidByText := true, laidKinds := [.data, .data, .data], laidTests := true, laidLooks := .later }
def FnExactFormatFootingCardSaid : Prop := Claim7.holds Tryd.pinned (.plain (OpenSpec.ofChange fnExactFormatFootingSpec)) fnExactFormatFootingCard

/-- THE SECOND FORM's CARD OF 'laws.FnFeet'. -/
def fnFeetUptoCard : Claim7 := { stood := { row := fnFeetUptoRow, standIns := [], harness := (true, "705b8ffc2bbc0d5db4cdfd47710798c50f9ecb6d030cd18cb0cc71751bd21465"), looks := false }, kinds := [], alts := [], laidByText := true, laidKinds := [.data, .data, .data], laidTests := true, laidLooks := .later }
def FnFeetUptoCardSaid : Prop := Claim7.holds Tryd.pinned (.plain (OpenSpec.upto fnFeetSpec)) fnFeetUptoCard

/-- THE SECOND FORM's CARD OF 'laws.FnExactFormatFooting'. -/
def fnExactFormatFootingUptoCard : Claim7 := { stood := { row := fnExactFormatFootingUptoRow, standIns := [], harness := (true, "705b8ffc2bbc0d5db4cdfd47710798c50f9ecb6d030cd18cb0cc71751bd21465"), looks := false }, kinds := [], alts := [], laidByText := true, laidKinds := [.data, .data, .data], laidTests := true, laidLooks := .later }
def FnExactFormatFootingUptoCardSaid : Prop := Claim7.holds Tryd.pinned (.plain (OpenSpec.upto fnExactFormatFootingSpec)) fnExactFormatFootingUptoCard
end Rows
end Go.Proofs.YtifmcbhgoncgjaaDoor
