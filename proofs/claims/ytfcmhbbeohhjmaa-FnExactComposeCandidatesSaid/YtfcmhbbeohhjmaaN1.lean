/- The model's IsForm: what it answers. -/
import Derived.Test.YtfcmhbbeohhjmaaFm
namespace Go.Proofs.Ytfcmhbbeohhjmaa
set_option maxRecDepth 100000
open Go.RowKit M

theorem specFm_any (s : ByteArray) (w : World) (hs : s.size ≤ maxLen) :
    Calls Try.prog 49 #[.string s] w fun e w' => e = .returned (.bool (isFm s)) ∧ w = w' := by
  have HM := Lib.hid hs
  clear hs
  go_enter Try.func49, Try.ntmps49
  go_wp2_with fail
  refine (specL2_any _ _ HM.out).mono ?_
  rintro e w2 ⟨rfl, rfl⟩
  go_wp2
  all_goals
    go_ret
    exact ⟨ret_bool (by unfold isFm; simp_all), rfl⟩
end Go.Proofs.Ytfcmhbbeohhjmaa
