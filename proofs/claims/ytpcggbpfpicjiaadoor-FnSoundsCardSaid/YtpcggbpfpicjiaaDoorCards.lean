/-
  DERIVED. GIVEN WITH THE SEED: THE CARDS: each row of YtpcggbpfpicjiaaDoorRows.lean that lists a variable, with what it lists TIED to the program's text (the seventh form; the later family's looks); each row that meets fmt, with fmt's text TOLD by the authors' own Lean function (tested against real Go, not proved from fmt's source: count such statements apart). THE CARD IS WHAT COUNTS. Prove the row's statement (the work); the ties are given (YtpcggbpfpicjiaaDoorTie.lean); close each card by the builder's one call (the guide's Derived/Test/ToyasCard.lean, 'card_holds'). Laid BY PROGRAM, IN A SANDBOX (cutbox-door.mjs). By AI agents, Wed Nov 11 2026. No macro, syntax, notation, axiom, sorry.
-/
import Derived.Test.YtpcggbpfpicjiaaDoorRows
import GoSem.ClaimSeven
namespace Go.Proofs.YtpcggbpfpicjiaaDoor
namespace Rows

/-- THE TIED CARD OF 'laws.FnSounds'. -/
def fnSoundsCard : Claim7 := { stood := { row := fnSoundsRow, standIns := [], harness := (true, "5d7ed8ed3245212d04938406c6c5f38d0f90f9ff6a5fd8b0d66bb8fceb41597d"), looks := false }, kinds := [], alts := [], laidByText := true, laidKinds := [.data], laidTests := true, laidLooks := .later }
def FnSoundsCardSaid : Prop := Claim7.holds Tryd.pinned (.plain (OpenSpec.ofChange fnSoundsSpec)) fnSoundsCard

/-- THE TIED CARD OF 'laws.FnExactHasFeature'. -/
def fnExactHasFeatureCard : Claim7 := { stood := { row := fnExactHasFeatureRow, standIns := [], harness := (true, "5d7ed8ed3245212d04938406c6c5f38d0f90f9ff6a5fd8b0d66bb8fceb41597d"), looks := false }, kinds := [], alts := [], laidByText := true, laidKinds := [.data], laidTests := true, laidLooks := .later }
def FnExactHasFeatureCardSaid : Prop := Claim7.holds Tryd.pinned (.plain (OpenSpec.ofChange fnExactHasFeatureSpec)) fnExactHasFeatureCard

/-- THE TIED CARD OF 'laws.FnExactSoundsWith'. -/
def fnExactSoundsWithCard : Claim7 := { stood := { row := fnExactSoundsWithRow, standIns := [], harness := (true, "5d7ed8ed3245212d04938406c6c5f38d0f90f9ff6a5fd8b0d66bb8fceb41597d"), looks := false }, kinds := [], alts := [], laidByText := true, laidKinds := [.data], laidTests := true, laidLooks := .later }
def FnExactSoundsWithCardSaid : Prop := Claim7.holds Tryd.pinned (.plain (OpenSpec.ofChange fnExactSoundsWithSpec)) fnExactSoundsWithCard

/-- THE TIED CARD OF 'laws.FnExactSharedFeatures'. -/
def fnExactSharedFeaturesCard : Claim7 := { stood := { row := fnExactSharedFeaturesRow, standIns := [], harness := (true, "5d7ed8ed3245212d04938406c6c5f38d0f90f9ff6a5fd8b0d66bb8fceb41597d"), looks := false }, kinds := [], alts := [], laidByText := true, laidKinds := [.data], laidTests := true, laidLooks := .later }
def FnExactSharedFeaturesCardSaid : Prop := Claim7.holds Tryd.pinned (.plain (OpenSpec.ofChange fnExactSharedFeaturesSpec)) fnExactSharedFeaturesCard

/-- THE TIED CARD OF 'laws.FnExactNaturalClass'. -/
def fnExactNaturalClassCard : Claim7 := { stood := { row := fnExactNaturalClassRow, standIns := [], harness := (true, "5d7ed8ed3245212d04938406c6c5f38d0f90f9ff6a5fd8b0d66bb8fceb41597d"), looks := false }, kinds := [], alts := [], laidByText := true, laidKinds := [.data], laidTests := true, laidLooks := .later }
def FnExactNaturalClassCardSaid : Prop := Claim7.holds Tryd.pinned (.plain (OpenSpec.ofChange fnExactNaturalClassSpec)) fnExactNaturalClassCard

/-- THE TIED CARD OF 'laws.FnExactIsNaturalClass'. -/
def fnExactIsNaturalClassCard : Claim7 := { stood := { row := fnExactIsNaturalClassRow, standIns := [], harness := (true, "5d7ed8ed3245212d04938406c6c5f38d0f90f9ff6a5fd8b0d66bb8fceb41597d"), looks := false }, kinds := [], alts := [], laidByText := true, laidKinds := [.data], laidTests := true, laidLooks := .later }
def FnExactIsNaturalClassCardSaid : Prop := Claim7.holds Tryd.pinned (.plain (OpenSpec.ofChange fnExactIsNaturalClassSpec)) fnExactIsNaturalClassCard

/-- THE SECOND FORM's CARD OF 'laws.FnSounds'. -/
def fnSoundsUptoCard : Claim7 := { stood := { row := fnSoundsUptoRow, standIns := [], harness := (true, "5d7ed8ed3245212d04938406c6c5f38d0f90f9ff6a5fd8b0d66bb8fceb41597d"), looks := false }, kinds := [], alts := [], laidByText := true, laidKinds := [.data], laidTests := true, laidLooks := .later }
def FnSoundsUptoCardSaid : Prop := Claim7.holds Tryd.pinned (.plain (OpenSpec.upto fnSoundsSpec)) fnSoundsUptoCard

/-- THE SECOND FORM's CARD OF 'laws.FnExactHasFeature'. -/
def fnExactHasFeatureUptoCard : Claim7 := { stood := { row := fnExactHasFeatureUptoRow, standIns := [], harness := (true, "5d7ed8ed3245212d04938406c6c5f38d0f90f9ff6a5fd8b0d66bb8fceb41597d"), looks := false }, kinds := [], alts := [], laidByText := true, laidKinds := [.data], laidTests := true, laidLooks := .later }
def FnExactHasFeatureUptoCardSaid : Prop := Claim7.holds Tryd.pinned (.plain (OpenSpec.upto fnExactHasFeatureSpec)) fnExactHasFeatureUptoCard

/-- THE SECOND FORM's CARD OF 'laws.FnExactSoundsWith'. -/
def fnExactSoundsWithUptoCard : Claim7 := { stood := { row := fnExactSoundsWithUptoRow, standIns := [], harness := (true, "5d7ed8ed3245212d04938406c6c5f38d0f90f9ff6a5fd8b0d66bb8fceb41597d"), looks := false }, kinds := [], alts := [], laidByText := true, laidKinds := [.data], laidTests := true, laidLooks := .later }
def FnExactSoundsWithUptoCardSaid : Prop := Claim7.holds Tryd.pinned (.plain (OpenSpec.upto fnExactSoundsWithSpec)) fnExactSoundsWithUptoCard

/-- THE SECOND FORM's CARD OF 'laws.FnExactSharedFeatures'. -/
def fnExactSharedFeaturesUptoCard : Claim7 := { stood := { row := fnExactSharedFeaturesUptoRow, standIns := [], harness := (true, "5d7ed8ed3245212d04938406c6c5f38d0f90f9ff6a5fd8b0d66bb8fceb41597d"), looks := false }, kinds := [], alts := [], laidByText := true, laidKinds := [.data], laidTests := true, laidLooks := .later }
def FnExactSharedFeaturesUptoCardSaid : Prop := Claim7.holds Tryd.pinned (.plain (OpenSpec.upto fnExactSharedFeaturesSpec)) fnExactSharedFeaturesUptoCard

/-- THE SECOND FORM's CARD OF 'laws.FnExactNaturalClass'. -/
def fnExactNaturalClassUptoCard : Claim7 := { stood := { row := fnExactNaturalClassUptoRow, standIns := [], harness := (true, "5d7ed8ed3245212d04938406c6c5f38d0f90f9ff6a5fd8b0d66bb8fceb41597d"), looks := false }, kinds := [], alts := [], laidByText := true, laidKinds := [.data], laidTests := true, laidLooks := .later }
def FnExactNaturalClassUptoCardSaid : Prop := Claim7.holds Tryd.pinned (.plain (OpenSpec.upto fnExactNaturalClassSpec)) fnExactNaturalClassUptoCard

/-- THE SECOND FORM's CARD OF 'laws.FnExactIsNaturalClass'. -/
def fnExactIsNaturalClassUptoCard : Claim7 := { stood := { row := fnExactIsNaturalClassUptoRow, standIns := [], harness := (true, "5d7ed8ed3245212d04938406c6c5f38d0f90f9ff6a5fd8b0d66bb8fceb41597d"), looks := false }, kinds := [], alts := [], laidByText := true, laidKinds := [.data], laidTests := true, laidLooks := .later }
def FnExactIsNaturalClassUptoCardSaid : Prop := Claim7.holds Tryd.pinned (.plain (OpenSpec.upto fnExactIsNaturalClassSpec)) fnExactIsNaturalClassUptoCard
end Rows
end Go.Proofs.YtpcggbpfpicjiaaDoor
