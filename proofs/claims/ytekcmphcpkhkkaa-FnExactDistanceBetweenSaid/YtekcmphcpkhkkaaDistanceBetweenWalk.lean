/- The walk of FnExactDistanceBetween: it returns true at every argument, and writes nothing that was there. -/
import Derived.Test.YtekcmphcpkhkkaaIf4
import Derived.OpenShut
namespace Go.Proofs.Ytekcmphcpkhkkaa.fnExactDistanceBetween
open Go.ChangeShapes Go.RowKit Go.Proofs.Ytekcmphcpkhkkaa
theorem walk (s t : ByteArray) (w0 : s.size ≤ maxLen) (w1 : t.size ≤ maxLen) (w : World) :
    Calls Try.prog 6 #[.string s, .string t] w fun e w' => e = .returned (.bool true) ∧ Below w.heap.size w w' := by
  have HW := Lib.hid w0
  have HW1 := Lib.hid w1
  have ws : s.size ≤ 9223372036854775807 := by unfold maxLen at w0; omega
  have wt : t.size ≤ 9223372036854775807 := by unfold maxLen at w1; omega
  clear w0 w1
  go_enter Try.func6, Try.ntmps6
  go_wp2_with fail
  · go_ret
    exact ⟨rfl, Below.refl _ _⟩
  · go_ret
    exact ⟨rfl, Below.refl _ _⟩
  refine (specDist_any _ _ _ HW.out HW1.out).mono ?_
  rintro e w1 ⟨rfl, hb1⟩
  have H1 := Lib.hid hb1
  clear hb1
  go_wp2_with fail
  refine (implDist_any _ _ _ HW.out HW1.out).mono ?_
  rintro e w2 ⟨rfl, hb⟩
  go_wp2
  go_ret
  exact ⟨rfl, H1.out.trans (hb.mono H1.out.size)⟩
end Go.Proofs.Ytekcmphcpkhkkaa.fnExactDistanceBetween
