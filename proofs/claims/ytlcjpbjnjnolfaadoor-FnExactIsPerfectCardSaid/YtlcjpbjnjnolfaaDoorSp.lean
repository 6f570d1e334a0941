/- The program's IsObstruent: what it answers. -/
import Derived.Test.YtlcjpbjnjnolfaaDoorSi
namespace Go.Proofs.YtlcjpbjnjnolfaaDoor
set_option maxRecDepth 100000
open Go.RowKit

theorem implIsObs_any (x : Int) (w : World) (h0 : 0 ≤ x) (h1 : x < 256) :
    Calls Tryd.prog 44 #[.int .u8 x] w fun e w' => e = .returned (.bool (isObs x)) ∧ w = w' := by
  have H := Lib.hid (obs_index x h0 h1)
  clear h0 h1
  go_enter Tryd.func44, Tryd.ntmps44
  go_wp2_with fail
  refine (idxByte _ _ _).mono ?_
  rintro e w1 ⟨rfl, rfl⟩
  go_wp2
  go_ret
  exact ⟨ret_bool H.out, rfl⟩
end Go.Proofs.YtlcjpbjnjnolfaaDoor
