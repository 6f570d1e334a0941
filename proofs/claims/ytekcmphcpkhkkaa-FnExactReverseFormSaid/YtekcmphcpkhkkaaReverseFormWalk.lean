/- The walk of FnExactReverseForm: it returns true at every argument, and writes nothing that was there. -/
import Derived.Test.YtekcmphcpkhkkaaN1r
import Derived.Test.YtekcmphcpkhkkaaIf2
import Derived.OpenShut
namespace Go.Proofs.Ytekcmphcpkhkkaa.fnExactReverseForm
open Go.ChangeShapes Go.RowKit Go.Proofs.Ytekcmphcpkhkkaa
theorem walk (s : ByteArray) (w0 : s.size ≤ maxLen) (w : World) :
    Calls Try.prog 7 #[.string s] w fun e w' => e = .returned (.bool true) ∧ Below w.heap.size w w' := by
  have HW := Lib.hid w0
  have ws : s.size ≤ 9223372036854775807 := by unfold maxLen at w0; omega
  clear w0
  go_enter Try.func7, Try.ntmps7
  go_wp2_with fail
  · go_ret
    exact ⟨rfl, Below.refl _ _⟩
  refine (specRev_any _ _ HW.out).mono ?_
  rintro e w1 ⟨rfl, rfl⟩
  go_wp2_with fail
  refine (implRev_any _ _ HW.out).mono ?_
  rintro e w2 ⟨rfl, hb⟩
  go_wp2
  go_ret
  exact ⟨rfl, hb⟩
end Go.Proofs.Ytekcmphcpkhkkaa.fnExactReverseForm
