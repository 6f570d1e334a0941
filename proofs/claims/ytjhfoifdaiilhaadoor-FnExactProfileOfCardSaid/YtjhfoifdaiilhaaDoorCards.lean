/-
  DERIVED. GIVEN WITH THE SEED: THE CARDS: each row of YtjhfoifdaiilhaaDoorRows.lean that lists a variable, with what it lists TIED to the program's text (the seventh form; the later family's looks); each row that meets fmt, with fmt's text TOLD by the authors' own Lean function (tested against real Go, not proved from fmt's source: count such statements apart). THE CARD IS WHAT COUNTS. Prove the row's statement (the work); the ties are given (YtjhfoifdaiilhaaDoorTie.lean); close each card by the builder's one call (the guide's Derived/Test/ToyasCard.lean, 'card_holds'). Laid BY PROGRAM, IN A SANDBOX (cutbox-door.mjs). By AI agents, Wed Nov 11 2026. No macro, syntax, notation, axiom, sorry.
-/
import Derived.Test.YtjhfoifdaiilhaaDoorRows
import GoSem.ClaimSeven
namespace Go.Proofs.YtjhfoifdaiilhaaDoor
namespace Rows

/-- THE TIED CARD OF 'laws.FnExactViolationsOf'. -/
def fnExactViolationsOfCard : Claim7 := { stood := { row := fnExactViolationsOfRow, standIns := [], harness := (true, "b106e2bf8bdfd8ce58f3c4dfbbc381ed73ee2a4d4502acf33bc31a2dc1a9f876"), looks := false }, kinds := [], alts := [], laidByText := true, laidKinds := [.data], laidTests := true, laidLooks := .later }
def FnExactViolationsOfCardSaid : Prop := Claim7.holds Tryd.pinned (.plain (OpenSpec.ofChange fnExactViolationsOfSpec)) fnExactViolationsOfCard

/-- THE TIED CARD OF 'laws.FnExactProfileOf'. -/
def fnExactProfileOfCard : Claim7 := { stood := { row := fnExactProfileOfRow, standIns := [], harness := (true, "b106e2bf8bdfd8ce58f3c4dfbbc381ed73ee2a4d4502acf33bc31a2dc1a9f876"), looks := false }, kinds := [], alts := [], laidByText := true, laidKinds := [.data], laidTests := true, laidLooks := .later }
def FnExactProfileOfCardSaid : Prop := Claim7.holds Tryd.pinned (.plain (OpenSpec.ofChange fnExactProfileOfSpec)) fnExactProfileOfCard

/-- THE TIED CARD OF 'laws.FnExactParseNames'. -/
def fnExactParseNamesCard : Claim7 := { stood := { row := fnExactParseNamesRow, standIns := [], harness := (true, "b106e2bf8bdfd8ce58f3c4dfbbc381ed73ee2a4d4502acf33bc31a2dc1a9f876"), looks := false }, kinds := [], alts := [], laidByText := true, laidKinds := [.data, .pinned], laidTests := true, laidLooks := .later }
def FnExactParseNamesCardSaid : Prop := Claim7.holds Tryd.pinned (.plain (OpenSpec.ofChange fnExactParseNamesSpec)) fnExactParseNamesCard

/-- THE SECOND FORM's CARD OF 'laws.FnExactViolationsOf'. -/
def fnExactViolationsOfUptoCard : Claim7 := { stood := { row := fnExactViolationsOfUptoRow, standIns := [], harness := (true, "b106e2bf8bdfd8ce58f3c4dfbbc381ed73ee2a4d4502acf33bc31a2dc1a9f876"), looks := false }, kinds := [], alts := [], laidByText := true, laidKinds := [.data], laidTests := true, laidLooks := .later }
def FnExactViolationsOfUptoCardSaid : Prop := Claim7.holds Tryd.pinned (.plain (OpenSpec.upto fnExactViolationsOfSpec)) fnExactViolationsOfUptoCard

/-- THE SECOND FORM's CARD OF 'laws.FnExactProfileOf'. -/
def fnExactProfileOfUptoCard : Claim7 := { stood := { row := fnExactProfileOfUptoRow, standIns := [], harness := (true, "b106e2bf8bdfd8ce58f3c4dfbbc381ed73ee2a4d4502acf33bc31a2dc1a9f876"), looks := false }, kinds := [], alts := [], laidByText := true, laidKinds := [.data], laidTests := true, laidLooks := .later }
def FnExactProfileOfUptoCardSaid : Prop := Claim7.holds Tryd.pinned (.plain (OpenSpec.upto fnExactProfileOfSpec)) fnExactProfileOfUptoCard

/-- THE SECOND FORM's CARD OF 'laws.FnExactParseNames'. -/
def fnExactParseNamesUptoCard : Claim7 := { stood := { row := fnExactParseNamesUptoRow, standIns := [], harness := (true, "b106e2bf8bdfd8ce58f3c4dfbbc381ed73ee2a4d4502acf33bc31a2dc1a9f876"), looks := false }, kinds := [], alts := [], laidByText := true, laidKinds := [.data, .pinned], laidTests := true, laidLooks := .later }
def FnExactParseNamesUptoCardSaid : Prop := Claim7.holds Tryd.pinned (.plain (OpenSpec.upto fnExactParseNamesSpec)) fnExactParseNamesUptoCard
end Rows
end Go.Proofs.YtjhfoifdaiilhaaDoor
