/-
  DERIVED. GIVEN WITH THE SEED: THE CARDS: each row of YtlcjpbjnjnolfaaDoorRows.lean that lists a variable, with what it lists TIED to the program's text (the seventh form; the later family's looks); each row that meets fmt, with fmt's text TOLD by the authors' own Lean function (tested against real Go, not proved from fmt's source: count such statements apart). THE CARD IS WHAT COUNTS. Prove the row's statement (the work); the ties are given (YtlcjpbjnjnolfaaDoorTie.lean); close each card by the builder's one call (the guide's Derived/Test/ToyasCard.lean, 'card_holds'). Laid BY PROGRAM, IN A SANDBOX (cutbox-door.mjs). By AI agents, Wed Nov 11 2026. No macro, syntax, notation, axiom, sorry.
-/
import Derived.Test.YtlcjpbjnjnolfaaDoorRows
import GoSem.ClaimSeven
namespace Go.Proofs.YtlcjpbjnjnolfaaDoor
namespace Rows

/-- THE TIED CARD OF 'laws.FnExactCountOnsetless'. -/
def fnExactCountOnsetlessCard : Claim7 := { stood := { row := fnExactCountOnsetlessRow, standIns := [], harness := (true, "f1841af34ba343f456407f1f0f9439bfa7f7bf2faf0aeab00ef1fcd09e0f0ffd"), looks := false }, kinds := [], alts := [], laidByText := true, laidKinds := [.data], laidTests := true, laidLooks := .later }
def FnExactCountOnsetlessCardSaid : Prop := Claim7.holds Tryd.pinned (.plain (OpenSpec.ofChange fnExactCountOnsetlessSpec)) fnExactCountOnsetlessCard

/-- THE TIED CARD OF 'laws.FnExactCountCodas'. -/
def fnExactCountCodasCard : Claim7 := { stood := { row := fnExactCountCodasRow, standIns := [], harness := (true, "f1841af34ba343f456407f1f0f9439bfa7f7bf2faf0aeab00ef1fcd09e0f0ffd"), looks := false }, kinds := [], alts := [], laidByText := true, laidKinds := [.data], laidTests := true, laidLooks := .later }
def FnExactCountCodasCardSaid : Prop := Claim7.holds Tryd.pinned (.plain (OpenSpec.ofChange fnExactCountCodasSpec)) fnExactCountCodasCard

/-- THE TIED CARD OF 'laws.FnExactCountClusters'. -/
def fnExactCountClustersCard : Claim7 := { stood := { row := fnExactCountClustersRow, standIns := [], harness := (true, "f1841af34ba343f456407f1f0f9439bfa7f7bf2faf0aeab00ef1fcd09e0f0ffd"), looks := false }, kinds := [], alts := [], laidByText := true, laidKinds := [.data], laidTests := true, laidLooks := .later }
def FnExactCountClustersCardSaid : Prop := Claim7.holds Tryd.pinned (.plain (OpenSpec.ofChange fnExactCountClustersSpec)) fnExactCountClustersCard

/-- THE TIED CARD OF 'laws.FnExactCountVoiced'. -/
def fnExactCountVoicedCard : Claim7 := { stood := { row := fnExactCountVoicedRow, standIns := [], harness := (true, "f1841af34ba343f456407f1f0f9439bfa7f7bf2faf0aeab00ef1fcd09e0f0ffd"), looks := false }, kinds := [], alts := [], laidByText := true, laidKinds := [.data], laidTests := true, laidLooks := .later }
def FnExactCountVoicedCardSaid : Prop := Claim7.holds Tryd.pinned (.plain (OpenSpec.ofChange fnExactCountVoicedSpec)) fnExactCountVoicedCard

/-- THE TIED CARD OF 'laws.FnExactCountFinalVoiced'. -/
def fnExactCountFinalVoicedCard : Claim7 := { stood := { row := fnExactCountFinalVoicedRow, standIns := [], harness := (true, "f1841af34ba343f456407f1f0f9439bfa7f7bf2faf0aeab00ef1fcd09e0f0ffd"), looks := false }, kinds := [], alts := [], laidByText := true, laidKinds := [.data], laidTests := true, laidLooks := .later }
def FnExactCountFinalVoicedCardSaid : Prop := Claim7.holds Tryd.pinned (.plain (OpenSpec.ofChange fnExactCountFinalVoicedSpec)) fnExactCountFinalVoicedCard

/-- THE TIED CARD OF 'laws.FnExactCountNasalVoiceless'. -/
def fnExactCountNasalVoicelessCard : Claim7 := { stood := { row := fnExactCountNasalVoicelessRow, standIns := [], harness := (true, "f1841af34ba343f456407f1f0f9439bfa7f7bf2faf0aeab00ef1fcd09e0f0ffd"), looks := false }, kinds := [], alts := [], laidByText := true, laidKinds := [.data], laidTests := true, laidLooks := .later }
def FnExactCountNasalVoicelessCardSaid : Prop := Claim7.holds Tryd.pinned (.plain (OpenSpec.ofChange fnExactCountNasalVoicelessSpec)) fnExactCountNasalVoicelessCard

/-- THE TIED CARD OF 'laws.FnExactIsPerfect'. -/
def fnExactIsPerfectCard : Claim7 := { stood := { row := fnExactIsPerfectRow, standIns := [], harness := (true, "f1841af34ba343f456407f1f0f9439bfa7f7bf2faf0aeab00ef1fcd09e0f0ffd"), looks := false }, kinds := [], alts := [], laidByText := true, laidKinds := [.data], laidTests := true, laidLooks := .later }
def FnExactIsPerfectCardSaid : Prop := Claim7.holds Tryd.pinned (.plain (OpenSpec.ofChange fnExactIsPerfectSpec)) fnExactIsPerfectCard

/-- THE SECOND FORM's CARD OF 'laws.FnExactCountOnsetless'. -/
def fnExactCountOnsetlessUptoCard : Claim7 := { stood := { row := fnExactCountOnsetlessUptoRow, standIns := [], harness := (true, "f1841af34ba343f456407f1f0f9439bfa7f7bf2faf0aeab00ef1fcd09e0f0ffd"), looks := false }, kinds := [], alts := [], laidByText := true, laidKinds := [.data], laidTests := true, laidLooks := .later }
def FnExactCountOnsetlessUptoCardSaid : Prop := Claim7.holds Tryd.pinned (.plain (OpenSpec.upto fnExactCountOnsetlessSpec)) fnExactCountOnsetlessUptoCard

/-- THE SECOND FORM's CARD OF 'laws.FnExactCountCodas'. -/
def fnExactCountCodasUptoCard : Claim7 := { stood := { row := fnExactCountCodasUptoRow, standIns := [], harness := (true, "f1841af34ba343f456407f1f0f9439bfa7f7bf2faf0aeab00ef1fcd09e0f0ffd"), looks := false }, kinds := [], alts := [], laidByText := true, laidKinds := [.data], laidTests := true, laidLooks := .later }
def FnExactCountCodasUptoCardSaid : Prop := Claim7.holds Tryd.pinned (.plain (OpenSpec.upto fnExactCountCodasSpec)) fnExactCountCodasUptoCard

/-- THE SECOND FORM's CARD OF 'laws.FnExactCountClusters'. -/
def fnExactCountClustersUptoCard : Claim7 := { stood := { row := fnExactCountClustersUptoRow, standIns := [], harness := (true, "f1841af34ba343f456407f1f0f9439bfa7f7bf2faf0aeab00ef1fcd09e0f0ffd"), looks := false }, kinds := [], alts := [], laidByText := true, laidKinds := [.data], laidTests := true, laidLooks := .later }
def FnExactCountClustersUptoCardSaid : Prop := Claim7.holds Tryd.pinned (.plain (OpenSpec.upto fnExactCountClustersSpec)) fnExactCountClustersUptoCard

/-- THE SECOND FORM's CARD OF 'laws.FnExactCountVoiced'. -/
def fnExactCountVoicedUptoCard : Claim7 := { stood := { row := fnExactCountVoicedUptoRow, standIns := [], harness := (true, "f1841af34ba343f456407f1f0f9439bfa7f7bf2faf0aeab00ef1fcd09e0f0ffd"), looks := false }, kinds := [], alts := [], laidByText := true, laidKinds := [.data], laidTests := true, laidLooks := .later }
def FnExactCountVoicedUptoCardSaid : Prop := Claim7.holds Tryd.pinned (.plain (OpenSpec.upto fnExactCountVoicedSpec)) fnExactCountVoicedUptoCard

/-- THE SECOND FORM's CARD OF 'laws.FnExactCountFinalVoiced'. -/
def fnExactCountFinalVoicedUptoCard : Claim7 := { stood := { row := fnExactCountFinalVoicedUptoRow, standIns := [], harness := (true, "f1841af34ba343f456407f1f0f9439bfa7f7bf2faf0aeab00ef1fcd09e0f0ffd"), looks := false }, kinds := [], alts := [], laidByText := true, laidKinds := [.data], laidTests := true, laidLooks := .later }
def FnExactCountFinalVoicedUptoCardSaid : Prop := Claim7.holds Tryd.pinned (.plain (OpenSpec.upto fnExactCountFinalVoicedSpec)) fnExactCountFinalVoicedUptoCard

/-- THE SECOND FORM's CARD OF 'laws.FnExactCountNasalVoiceless'. -/
def fnExactCountNasalVoicelessUptoCard : Claim7 := { stood := { row := fnExactCountNasalVoicelessUptoRow, standIns := [], harness := (true, "f1841af34ba343f456407f1f0f9439bfa7f7bf2faf0aeab00ef1fcd09e0f0ffd"), looks := false }, kinds := [], alts := [], laidByText := true, laidKinds := [.data], laidTests := true, laidLooks := .later }
def FnExactCountNasalVoicelessUptoCardSaid : Prop := Claim7.holds Tryd.pinned (.plain (OpenSpec.upto fnExactCountNasalVoicelessSpec)) fnExactCountNasalVoicelessUptoCard

/-- THE SECOND FORM's CARD OF 'laws.FnExactIsPerfect'. -/
def fnExactIsPerfectUptoCard : Claim7 := { stood := { row := fnExactIsPerfectUptoRow, standIns := [], harness := (true, "f1841af34ba343f456407f1f0f9439bfa7f7bf2faf0aeab00ef1fcd09e0f0ffd"), looks := false }, kinds := [], alts := [], laidByText := true, laidKinds := [.data], laidTests := true, laidLooks := .later }
def FnExactIsPerfectUptoCardSaid : Prop := Claim7.holds Tryd.pinned (.plain (OpenSpec.upto fnExactIsPerfectSpec)) fnExactIsPerfectUptoCard
end Rows
end Go.Proofs.YtlcjpbjnjnolfaaDoor
