/- The program's isValid: what it answers. -/
import Derived.Test.YtfcmhbbeohhjmaaCd
import Derived.Test.YtfcmhbbeohhjmaaSi
import Derived.Test.YtfcmhbbeohhjmaaSv
import Derived.Test.YtfcmhbbeohhjmaaRp
import Derived.BigRegion
import Derived.BigQuiet
namespace Go.Proofs.Ytfcmhbbeohhjmaa
set_option maxRecDepth 100000
open Go.RowKit
set_option linter.unusedVariables false
set_option linter.unusedSimpArgs false

theorem drewN_below {B n : Nat} {w w' : World} (h : Below B w w') : Below B w (w'.drewN n) := ⟨h.os, h.tape, h.output, h.size, h.block⟩
set_option maxHeartbeats 4000000 in
theorem implValid_any (a b : Int) (g : Nat) (w : World) (ha : 0 ≤ a ∧ a < 256) (hb : 0 ≤ b ∧ b < 256) (h : InC w g #[.int .u8 a, .int .u8 b] 40) :
    Calls Try.prog 56 #[.pointer (some ⟨g, 0, none⟩)] w fun e w' => e = .returned (.bool (okI a b)) ∧ Below w.heap.size w w' := by
  have c0 := h.cell 0 rfl
  have c1 := h.cell 1 rfl
  have HA := Lib.hid ha
  have HB := Lib.hid hb
  clear h ha hb
  go_enter Try.func56, Try.ntmps56
  by_cases h0 : a = 0
  case pos =>
    have HE : Hid (okI a b = isSnd b) := by unfold Hid okI; rw [if_pos h0]
    go_wp2_with fail
    refine (implIsSound_any b _ HB.out.1 HB.out.2).mono ?_
    rintro e w2 ⟨rfl, rfl⟩
    go_wp2
    go_ret
    exact ⟨ret_bool HE.out.symm, Below.refl _ _⟩
  by_cases h1 : b = 0
  case pos =>
    have HE : Hid (okI a b = isSnd a) := by unfold Hid okI; rw [if_neg h0, if_pos (Or.inl h1)]
    go_wp2_with fail
    refine (implIsSound_any a _ HA.out.1 HA.out.2).mono ?_
    rintro e w2 ⟨rfl, rfl⟩
    go_wp2
    go_ret
    exact ⟨ret_bool HE.out.symm, Below.refl _ _⟩
  by_cases h2 : b = a
  case pos =>
    have HE : Hid (okI a b = isSnd a) := by unfold Hid okI; rw [if_neg h0, if_pos (Or.inr h2)]
    go_wp2
    go_quiet (fail)
    go_wp2_with fail
    refine (implIsSound_any a _ HA.out.1 HA.out.2).mono ?_
    rintro e w2 ⟨rfl, rfl⟩
    go_wp2
    go_ret
    exact ⟨ret_bool HE.out.symm, drewN_below (Below.refl _ _)⟩
  have HE : Hid (okI a b = (isObs a && decide (b = swapV a))) := by unfold Hid okI; rw [if_neg h0, if_neg (by rintro (e | e); exact h1 e; exact h2 e)]
  go_wp2
  go_quiet (fail)
  go_wp2_with fail
  refine (implSwap_any a _).mono ?_
  rintro e w2 ⟨rfl, rfl⟩
  generalize hsw : swapV a = s at *
  generalize hob : isObs a = o at *
  cases o
  · have HR : Hid (okI a b = false) := by unfold Hid; rw [HE.out, Bool.false_and]
    go_wp2
    go_ret
    exact ⟨ret_bool HR.out.symm, drewN_below (Below.refl _ _)⟩
  · by_cases hs : b = s
    · have HR : Hid (okI a b = true) := by unfold Hid; rw [HE.out]; simp [hs]
      go_wp2
      go_ret
      exact ⟨ret_bool (by rw [HR.out] <;> simp [hs]), drewN_below (Below.refl _ _)⟩
    · have HR : Hid (okI a b = false) := by unfold Hid; rw [HE.out]; simp [hs]
      have hs' : ¬ s = b := fun e => hs e.symm
      go_wp2
      go_ret
      exact ⟨ret_bool (by rw [HR.out]; simp [hs']), drewN_below (Below.refl _ _)⟩
end Go.Proofs.Ytfcmhbbeohhjmaa
