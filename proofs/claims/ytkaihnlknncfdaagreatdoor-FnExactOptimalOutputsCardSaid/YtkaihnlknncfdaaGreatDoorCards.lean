/-
  DERIVED. GIVEN WITH THE SEED: THE CARDS: each row of YtkaihnlknncfdaaGreatDoorRows.lean that lists a variable, with what it lists TIED to the program's text (the seventh form; the later family's looks); each row that meets fmt, with fmt's text TOLD by the authors' own Lean function (tested against real Go, not proved from fmt's source: count such statements apart). THE CARD IS WHAT COUNTS. Prove the row's statement (the work); the ties are given (YtkaihnlknncfdaaGreatDoorTie.lean); close each card by the builder's one call (the guide's Derived/Test/ToyasCard.lean, 'card_holds'). Laid BY PROGRAM, IN A SANDBOX (cutbox-door.mjs). By AI agents, Wed Nov 11 2026. No macro, syntax, notation, axiom, sorry.
-/
import Derived.Test.YtkaihnlknncfdaaGreatDoorRows
import GoSem.ClaimSeven
namespace Go.Proofs.YtkaihnlknncfdaaGreatDoor
namespace Rows

/-- THE TIED CARD OF 'laws.FnExactWinnersOf'. -/
def fnExactWinnersOfCard : Claim7 := { stood := { row := fnExactWinnersOfRow, standIns := [], harness := (true, "1343f1f458bff7344d44474fc56252b9b3852bb01072b91c590ee8ffb920b6dc"), looks := false }, kinds := [], alts := [], laidByText := true, laidKinds := [.data], laidTests := true, laidLooks := .later }
def FnExactWinnersOfCardSaid : Prop := Claim7.holds Tryz.pinned (.plain (OpenSpec.ofChange fnExactWinnersOfSpec)) fnExactWinnersOfCard

/-- THE TIED CARD OF 'laws.FnExactOptimalOutputs'. -/
def fnExactOptimalOutputsCard : Claim7 := { stood := { row := fnExactOptimalOutputsRow, standIns := [], harness := (true, "1343f1f458bff7344d44474fc56252b9b3852bb01072b91c590ee8ffb920b6dc"), looks := false }, kinds := [], alts := [], laidByText := true, laidKinds := [.data], laidTests := true, laidLooks := .later }
def FnExactOptimalOutputsCardSaid : Prop := Claim7.holds Tryz.pinned (.plain (OpenSpec.ofChange fnExactOptimalOutputsSpec)) fnExactOptimalOutputsCard

/-- THE TIED CARD OF 'laws.FnExactFatalMark'. -/
def fnExactFatalMarkCard : Claim7 := { stood := { row := fnExactFatalMarkRow, standIns := [], harness := (true, "1343f1f458bff7344d44474fc56252b9b3852bb01072b91c590ee8ffb920b6dc"), looks := false }, kinds := [], alts := [], laidByText := true, laidKinds := [.data], laidTests := true, laidLooks := .later }
def FnExactFatalMarkCardSaid : Prop := Claim7.holds Tryz.pinned (.plain (OpenSpec.ofChange fnExactFatalMarkSpec)) fnExactFatalMarkCard

/-- THE TIED CARD OF 'laws.FnExactOnlyRows'. -/
def fnExactOnlyRowsCard : Claim7 := { stood := { row := fnExactOnlyRowsRow, standIns := [], harness := (true, "1343f1f458bff7344d44474fc56252b9b3852bb01072b91c590ee8ffb920b6dc"), looks := false }, kinds := [], alts := [], laidByText := true, laidKinds := [.data], laidTests := true, laidLooks := .later }
def FnExactOnlyRowsCardSaid : Prop := Claim7.holds Tryz.pinned (.plain (OpenSpec.ofChange fnExactOnlyRowsSpec)) fnExactOnlyRowsCard

/-- THE TIED CARD OF 'laws.FnExactProfileOf'. -/
def fnExactProfileOfCard : Claim7 := { stood := { row := fnExactProfileOfRow, standIns := [], harness := (true, "1343f1f458bff7344d44474fc56252b9b3852bb01072b91c590ee8ffb920b6dc"), looks := false }, kinds := [], alts := [], laidByText := true, laidKinds := [.data], laidTests := true, laidLooks := .later }
def FnExactProfileOfCardSaid : Prop := Claim7.holds Tryz.pinned (.plain (OpenSpec.ofChange fnExactProfileOfSpec)) fnExactProfileOfCard

/-- THE TIED CARD OF 'laws.FnExactIsTableau'. -/
def fnExactIsTableauCard : Claim7 := { stood := { row := fnExactIsTableauRow, standIns := [], harness := (true, "1343f1f458bff7344d44474fc56252b9b3852bb01072b91c590ee8ffb920b6dc"), looks := false }, kinds := [], alts := [], laidByText := true, laidKinds := [.data], laidTests := true, laidLooks := .later }
def FnExactIsTableauCardSaid : Prop := Claim7.holds Tryz.pinned (.plain (OpenSpec.ofChange fnExactIsTableauSpec)) fnExactIsTableauCard

/-- THE TIED CARD OF 'laws.FnExactRowWith'. -/
def fnExactRowWithCard : Claim7 := { stood := { row := fnExactRowWithRow, standIns := [], harness := (true, "1343f1f458bff7344d44474fc56252b9b3852bb01072b91c590ee8ffb920b6dc"), looks := false }, kinds := [], alts := [], laidByText := true, laidKinds := [.data], laidTests := true, laidLooks := .later }
def FnExactRowWithCardSaid : Prop := Claim7.holds Tryz.pinned (.plain (OpenSpec.ofChange fnExactRowWithSpec)) fnExactRowWithCard

/-- THE TIED CARD OF 'laws.FnExactDistinctProfiles'. -/
def fnExactDistinctProfilesCard : Claim7 := { stood := { row := fnExactDistinctProfilesRow, standIns := [], harness := (true, "1343f1f458bff7344d44474fc56252b9b3852bb01072b91c590ee8ffb920b6dc"), looks := false }, kinds := [], alts := [], laidByText := true, laidKinds := [.data], laidTests := true, laidLooks := .later }
def FnExactDistinctProfilesCardSaid : Prop := Claim7.holds Tryz.pinned (.plain (OpenSpec.ofChange fnExactDistinctProfilesSpec)) fnExactDistinctProfilesCard

/-- THE TIED CARD OF 'laws.FnExactFormatRow'. -/
def fnExactFormatRowCard : Claim7 := { stood := { row := fnExactFormatRowRow, standIns := [], harness := (true, "1343f1f458bff7344d44474fc56252b9b3852bb01072b91c590ee8ffb920b6dc"), looks := false }, kinds := [], alts := [], laidByText := true, laidKinds := [.data, .data, .data, .data], laidTests := true, laidLooks := .later }
def FnExactFormatRowCardSaid : Prop := Claim7.holds Tryz.pinned (.plain (OpenSpec.ofChange fnExactFormatRowSpec)) fnExactFormatRowCard

/-- THE SECOND FORM's CARD OF 'laws.FnExactWinnersOf'. -/
def fnExactWinnersOfUptoCard : Claim7 := { stood := { row := fnExactWinnersOfUptoRow, standIns := [], harness := (true, "1343f1f458bff7344d44474fc56252b9b3852bb01072b91c590ee8ffb920b6dc"), looks := false }, kinds := [], alts := [], laidByText := true, laidKinds := [.data], laidTests := true, laidLooks := .later }
def FnExactWinnersOfUptoCardSaid : Prop := Claim7.holds Tryz.pinned (.plain (OpenSpec.upto fnExactWinnersOfSpec)) fnExactWinnersOfUptoCard

/-- THE SECOND FORM's CARD OF 'laws.FnExactOptimalOutputs'. -/
def fnExactOptimalOutputsUptoCard : Claim7 := { stood := { row := fnExactOptimalOutputsUptoRow, standIns := [], harness := (true, "1343f1f458bff7344d44474fc56252b9b3852bb01072b91c590ee8ffb920b6dc"), looks := false }, kinds := [], alts := [], laidByText := true, laidKinds := [.data], laidTests := true, laidLooks := .later }
def FnExactOptimalOutputsUptoCardSaid : Prop := Claim7.holds Tryz.pinned (.plain (OpenSpec.upto fnExactOptimalOutputsSpec)) fnExactOptimalOutputsUptoCard

/-- THE SECOND FORM's CARD OF 'laws.FnExactFatalMark'. -/
def fnExactFatalMarkUptoCard : Claim7 := { stood := { row := fnExactFatalMarkUptoRow, standIns := [], harness := (true, "1343f1f458bff7344d44474fc56252b9b3852bb01072b91c590ee8ffb920b6dc"), looks := false }, kinds := [], alts := [], laidByText := true, laidKinds := [.data], laidTests := true, laidLooks := .later }
def FnExactFatalMarkUptoCardSaid : Prop := Claim7.holds Tryz.pinned (.plain (OpenSpec.upto fnExactFatalMarkSpec)) fnExactFatalMarkUptoCard

/-- THE SECOND FORM's CARD OF 'laws.FnExactOnlyRows'. -/
def fnExactOnlyRowsUptoCard : Claim7 := { stood := { row := fnExactOnlyRowsUptoRow, standIns := [], harness := (true, "1343f1f458bff7344d44474fc56252b9b3852bb01072b91c590ee8ffb920b6dc"), looks := false }, kinds := [], alts := [], laidByText := true, laidKinds := [.data], laidTests := true, laidLooks := .later }
def FnExactOnlyRowsUptoCardSaid : Prop := Claim7.holds Tryz.pinned (.plain (OpenSpec.upto fnExactOnlyRowsSpec)) fnExactOnlyRowsUptoCard

/-- THE SECOND FORM's CARD OF 'laws.FnExactProfileOf'. -/
def fnExactProfileOfUptoCard : Claim7 := { stood := { row := fnExactProfileOfUptoRow, standIns := [], harness := (true, "1343f1f458bff7344d44474fc56252b9b3852bb01072b91c590ee8ffb920b6dc"), looks := false }, kinds := [], alts := [], laidByText := true, laidKinds := [.data], laidTests := true, laidLooks := .later }
def FnExactProfileOfUptoCardSaid : Prop := Claim7.holds Tryz.pinned (.plain (OpenSpec.upto fnExactProfileOfSpec)) fnExactProfileOfUptoCard

/-- THE SECOND FORM's CARD OF 'laws.FnExactIsTableau'. -/
def fnExactIsTableauUptoCard : Claim7 := { stood := { row := fnExactIsTableauUptoRow, standIns := [], harness := (true, "1343f1f458bff7344d44474fc56252b9b3852bb01072b91c590ee8ffb920b6dc"), looks := false }, kinds := [], alts := [], laidByText := true, laidKinds := [.data], laidTests := true, laidLooks := .later }
def FnExactIsTableauUptoCardSaid : Prop := Claim7.holds Tryz.pinned (.plain (OpenSpec.upto fnExactIsTableauSpec)) fnExactIsTableauUptoCard

/-- THE SECOND FORM's CARD OF 'laws.FnExactRowWith'. -/
def fnExactRowWithUptoCard : Claim7 := { stood := { row := fnExactRowWithUptoRow, standIns := [], harness := (true, "1343f1f458bff7344d44474fc56252b9b3852bb01072b91c590ee8ffb920b6dc"), looks := false }, kinds := [], alts := [], laidByText := true, laidKinds := [.data], laidTests := true, laidLooks := .later }
def FnExactRowWithUptoCardSaid : Prop := Claim7.holds Tryz.pinned (.plain (OpenSpec.upto fnExactRowWithSpec)) fnExactRowWithUptoCard

/-- THE SECOND FORM's CARD OF 'laws.FnExactDistinctProfiles'. -/
def fnExactDistinctProfilesUptoCard : Claim7 := { stood := { row := fnExactDistinctProfilesUptoRow, standIns := [], harness := (true, "1343f1f458bff7344d44474fc56252b9b3852bb01072b91c590ee8ffb920b6dc"), looks := false }, kinds := [], alts := [], laidByText := true, laidKinds := [.data], laidTests := true, laidLooks := .later }
def FnExactDistinctProfilesUptoCardSaid : Prop := Claim7.holds Tryz.pinned (.plain (OpenSpec.upto fnExactDistinctProfilesSpec)) fnExactDistinctProfilesUptoCard

/-- THE SECOND FORM's CARD OF 'laws.FnExactFormatRow'. -/
def fnExactFormatRowUptoCard : Claim7 := { stood := { row := fnExactFormatRowUptoRow, standIns := [], harness := (true, "1343f1f458bff7344d44474fc56252b9b3852bb01072b91c590ee8ffb920b6dc"), looks := false }, kinds := [], alts := [], laidByText := true, laidKinds := [.data, .data, .data, .data], laidTests := true, laidLooks := .later }
def FnExactFormatRowUptoCardSaid : Prop := Claim7.holds Tryz.pinned (.plain (OpenSpec.upto fnExactFormatRowSpec)) fnExactFormatRowUptoCard
end Rows
end Go.Proofs.YtkaihnlknncfdaaGreatDoor
