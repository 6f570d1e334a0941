/- SwapVoice of both: what it answers. -/
import Derived.Test.YtlekcnddejnejaaSnd
namespace Go.Proofs.Ytlekcnddejnejaa
open Go.RowKit

theorem implSwap_any (x : Int) (w : World) :
    Calls Try.prog 53 #[.int .u8 x] w fun e w' => e = .returned (.tuple #[.int .u8 (swapV x), .bool (isObs x)]) ∧ w = w' := by
  go_enter Try.func53, Try.ntmps53
  go_wp2
  all_goals
    go_ret2
    refine ⟨?_, rfl⟩
    unfold swapV isObs
    simp_all
theorem specSwap_any (x : Int) (w : World) :
    Calls Try.prog 33 #[.int .u8 x] w fun e w' => e = .returned (.tuple #[.int .u8 (swapV x), .bool (isObs x)]) ∧ w = w' := by
  go_enter Try.func33, Try.ntmps33
  go_wp2
  all_goals
    go_ret2
    refine ⟨?_, rfl⟩
    unfold swapV isObs
    simp_all
end Go.Proofs.Ytlekcnddejnejaa
