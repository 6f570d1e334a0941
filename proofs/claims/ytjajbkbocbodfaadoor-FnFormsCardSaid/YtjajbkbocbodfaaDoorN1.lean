/- The model's IsForm: what it answers. -/
import Derived.Test.YtjajbkbocbodfaaDoorFm
namespace Go.Proofs.YtjajbkbocbodfaaDoor
open Go.RowKit M

theorem specFm_any (s : ByteArray) (w : World) (hs : s.size ≤ maxLen) :
    Calls Tryd.prog 17 #[.string s] w fun e w' => e = .returned (.bool (isFm s)) ∧ w = w' := by
  have HM := Lib.hid hs
  clear hs
  go_enter Tryd.func17, Tryd.ntmps17
  go_wp2_with fail
  refine (specL2_any _ _ HM.out).mono ?_
  rintro e w2 ⟨rfl, rfl⟩
  go_wp2
  all_goals
    go_ret
    exact ⟨ret_bool (by unfold isFm; simp_all), rfl⟩
end Go.Proofs.YtjajbkbocbodfaaDoor
