/-
  DERIVED. GIVEN WITH THE SEED: THE CARDS: each row of YtcgmlhlnkbjfnaaGreatDoorRows.lean that lists a variable, with what it lists TIED to the program's text (the seventh form; the later family's looks); each row that meets fmt, with fmt's text TOLD by the authors' own Lean function (tested against real Go, not proved from fmt's source: count such statements apart). THE CARD IS WHAT COUNTS. Prove the row's statement (the work); the ties are given (YtcgmlhlnkbjfnaaGreatDoorTie.lean); close each card by the builder's one call (the guide's Derived/Test/ToyasCard.lean, 'card_holds'). Laid BY PROGRAM, IN A SANDBOX (cutbox-door.mjs). By AI agents, Wed Nov 11 2026. No macro, syntax, notation, axiom, sorry.
-/
import Derived.Test.YtcgmlhlnkbjfnaaGreatDoorRows
import GoSem.ClaimSeven
namespace Go.Proofs.YtcgmlhlnkbjfnaaGreatDoor
namespace Rows

/-- THE TIED CARD OF 'laws.FnExactTableauOf'. -/
def fnExactTableauOfCard : Claim7 := { stood := { row := fnExactTableauOfRow, standIns := [], harness := (true, "91d3e27c4a921dc61e121e1be3dd60e92265e78b088752911693e707770ad7d4"), looks := false }, kinds := [], alts := [], goes := true, laidByText := true, laidKinds := [.data], laidTests := true, laidLooks := .later }
def FnExactTableauOfCardSaid : Prop := Claim7.holds Tryz.pinned (.plain (OpenSpec.ofChange fnExactTableauOfSpec)) fnExactTableauOfCard

/-- THE TIED CARD OF 'laws.FnExactIsTableau'. -/
def fnExactIsTableauCard : Claim7 := { stood := { row := fnExactIsTableauRow, standIns := [], harness := (true, "91d3e27c4a921dc61e121e1be3dd60e92265e78b088752911693e707770ad7d4"), looks := false }, kinds := [], alts := [], goes := true, laidByText := true, laidKinds := [.data], laidTests := true, laidLooks := .later }
def FnExactIsTableauCardSaid : Prop := Claim7.holds Tryz.pinned (.plain (OpenSpec.ofChange fnExactIsTableauSpec)) fnExactIsTableauCard

/-- THE TIED CARD OF 'laws.FnExactRowWith'. -/
def fnExactRowWithCard : Claim7 := { stood := { row := fnExactRowWithRow, standIns := [], harness := (true, "91d3e27c4a921dc61e121e1be3dd60e92265e78b088752911693e707770ad7d4"), looks := false }, kinds := [], alts := [], goes := true, laidByText := true, laidKinds := [.data], laidTests := true, laidLooks := .later }
def FnExactRowWithCardSaid : Prop := Claim7.holds Tryz.pinned (.plain (OpenSpec.ofChange fnExactRowWithSpec)) fnExactRowWithCard

/-- THE TIED CARD OF 'laws.FnExactDistinctProfiles'. -/
def fnExactDistinctProfilesCard : Claim7 := { stood := { row := fnExactDistinctProfilesRow, standIns := [], harness := (true, "91d3e27c4a921dc61e121e1be3dd60e92265e78b088752911693e707770ad7d4"), looks := false }, kinds := [], alts := [], goes := true, laidByText := true, laidKinds := [.data], laidTests := true, laidLooks := .later }
def FnExactDistinctProfilesCardSaid : Prop := Claim7.holds Tryz.pinned (.plain (OpenSpec.ofChange fnExactDistinctProfilesSpec)) fnExactDistinctProfilesCard

/-- THE TIED CARD OF 'laws.FnExactFormatRow'. -/
def fnExactFormatRowCard : Claim7 := { stood := { row := fnExactFormatRowRow, standIns := [], harness := (true, "91d3e27c4a921dc61e121e1be3dd60e92265e78b088752911693e707770ad7d4"), looks := false }, kinds := [], alts := [], goes := true, laidByText := true, laidKinds := [.data, .data, .data, .data], laidTests := true, laidLooks := .later }
def FnExactFormatRowCardSaid : Prop := Claim7.holds Tryz.pinned (.plain (OpenSpec.ofChange fnExactFormatRowSpec)) fnExactFormatRowCard

/-- THE TIED CARD OF 'laws.FnExactOnlyRows'. -/
def fnExactOnlyRowsCard : Claim7 := { stood := { row := fnExactOnlyRowsRow, standIns := [], harness := (true, "91d3e27c4a921dc61e121e1be3dd60e92265e78b088752911693e707770ad7d4"), looks := false }, kinds := [], alts := [], goes := true, laidByText := true, laidKinds := [.data], laidTests := true, laidLooks := .later }
def FnExactOnlyRowsCardSaid : Prop := Claim7.holds Tryz.pinned (.plain (OpenSpec.ofChange fnExactOnlyRowsSpec)) fnExactOnlyRowsCard

/-- THE SECOND FORM's CARD OF 'laws.FnExactTableauOf'. -/
def fnExactTableauOfUptoCard : Claim7 := { stood := { row := fnExactTableauOfUptoRow, standIns := [], harness := (true, "91d3e27c4a921dc61e121e1be3dd60e92265e78b088752911693e707770ad7d4"), looks := false }, kinds := [], alts := [], goes := true, laidByText := true, laidKinds := [.data], laidTests := true, laidLooks := .later }
def FnExactTableauOfUptoCardSaid : Prop := Claim7.holds Tryz.pinned (.plain (OpenSpec.upto fnExactTableauOfSpec)) fnExactTableauOfUptoCard

/-- THE SECOND FORM's CARD OF 'laws.FnExactIsTableau'. -/
def fnExactIsTableauUptoCard : Claim7 := { stood := { row := fnExactIsTableauUptoRow, standIns := [], harness := (true, "91d3e27c4a921dc61e121e1be3dd60e92265e78b088752911693e707770ad7d4"), looks := false }, kinds := [], alts := [], goes := true, laidByText := true, laidKinds := [.data], laidTests := true, laidLooks := .later }
def FnExactIsTableauUptoCardSaid : Prop := Claim7.holds Tryz.pinned (.plain (OpenSpec.upto fnExactIsTableauSpec)) fnExactIsTableauUptoCard

/-- THE SECOND FORM's CARD OF 'laws.FnExactRowWith'. -/
def fnExactRowWithUptoCard : Claim7 := { stood := { row := fnExactRowWithUptoRow, standIns := [], harness := (true, "91d3e27c4a921dc61e121e1be3dd60e92265e78b088752911693e707770ad7d4"), looks := false }, kinds := [], alts := [], goes := true, laidByText := true, laidKinds := [.data], laidTests := true, laidLooks := .later }
def FnExactRowWithUptoCardSaid : Prop := Claim7.holds Tryz.pinned (.plain (OpenSpec.upto fnExactRowWithSpec)) fnExactRowWithUptoCard

/-- THE SECOND FORM's CARD OF 'laws.FnExactDistinctProfiles'. -/
def fnExactDistinctProfilesUptoCard : Claim7 := { stood := { row := fnExactDistinctProfilesUptoRow, standIns := [], harness := (true, "91d3e27c4a921dc61e121e1be3dd60e92265e78b088752911693e707770ad7d4"), looks := false }, kinds := [], alts := [], goes := true, laidByText := true, laidKinds := [.data], laidTests := true, laidLooks := .later }
def FnExactDistinctProfilesUptoCardSaid : Prop := Claim7.holds Tryz.pinned (.plain (OpenSpec.upto fnExactDistinctProfilesSpec)) fnExactDistinctProfilesUptoCard

/-- THE SECOND FORM's CARD OF 'laws.FnExactFormatRow'. -/
def fnExactFormatRowUptoCard : Claim7 := { stood := { row := fnExactFormatRowUptoRow, standIns := [], harness := (true, "91d3e27c4a921dc61e121e1be3dd60e92265e78b088752911693e707770ad7d4"), looks := false }, kinds := [], alts := [], goes := true, laidByText := true, laidKinds := [.data, .data, .data, .data], laidTests := true, laidLooks := .later }
def FnExactFormatRowUptoCardSaid : Prop := Claim7.holds Tryz.pinned (.plain (OpenSpec.upto fnExactFormatRowSpec)) fnExactFormatRowUptoCard

/-- THE SECOND FORM's CARD OF 'laws.FnExactOnlyRows'. -/
def fnExactOnlyRowsUptoCard : Claim7 := { stood := { row := fnExactOnlyRowsUptoRow, standIns := [], harness := (true, "91d3e27c4a921dc61e121e1be3dd60e92265e78b088752911693e707770ad7d4"), looks := false }, kinds := [], alts := [], goes := true, laidByText := true, laidKinds := [.data], laidTests := true, laidLooks := .later }
def FnExactOnlyRowsUptoCardSaid : Prop := Claim7.holds Tryz.pinned (.plain (OpenSpec.upto fnExactOnlyRowsSpec)) fnExactOnlyRowsUptoCard
end Rows
end Go.Proofs.YtcgmlhlnkbjfnaaGreatDoor
