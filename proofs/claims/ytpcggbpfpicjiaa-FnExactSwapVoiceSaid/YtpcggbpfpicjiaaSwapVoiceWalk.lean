/- The walk of FnExactSwapVoice: it returns true at every byte, and writes nothing that was there. -/
import Derived.Test.YtpcggbpfpicjiaaSo
import Derived.OpenShut
namespace Go.Proofs.Ytpcggbpfpicjiaa.fnExactSwapVoice
open Go.ChangeShapes Go.RowKit
theorem walk (n : Int) (w0 : (Lit.int .u8 n).wf = true) (w : World) :
    Calls Try.prog 5 #[.int .u8 n] w fun e w' => e = .returned (.bool true) ∧ Below w.heap.size w w' := by
  have hbd : 0 ≤ n ∧ n < 256 := by have := bounds_u8 w0; omega
  have HB := Lib.hid hbd
  clear hbd w0
  go_enter Try.func5, Try.ntmps5
  go_wp2_with fail
  refine (specSwap_any _ _).mono ?_
  rintro e w1 ⟨rfl, rfl⟩
  go_wp2_with fail
  refine (implSwap_any _ _).mono ?_
  rintro e w2 ⟨rfl, rfl⟩
  go_wp2
  go_ret
  exact ⟨rfl, Below.refl _ _⟩
end Go.Proofs.Ytpcggbpfpicjiaa.fnExactSwapVoice
