/- The walk of FnExactIsMarkedness: it returns true at every argument, and writes nothing that was there. -/
import Derived.Test.YtjhfoifdaiilhaaIn10
import Derived.OpenShut
namespace Go.Proofs.Ytjhfoifdaiilhaa.fnExactIsMarkedness
set_option maxRecDepth 100000
open Go.ChangeShapes Go.RowKit Go.Proofs.Ytjhfoifdaiilhaa
set_option maxHeartbeats 1000000 in
theorem walk (s : ByteArray) (w0 : s.size ≤ maxLen) (w : World) :
    Calls Try.prog 4 #[.string s] w fun e w' => e = .returned (.bool true) ∧ Below w.heap.size w w' := by
  have ws : s.size ≤ 9223372036854775807 := by unfold maxLen at w0; omega
  clear w0
  go_enter Try.func4, Try.ntmps4
  go_wp2_with fail
  · go_ret
    exact ⟨rfl, Below.refl _ _⟩
  refine (specMk_any (fun _ => ByteArray.empty) s _).mono ?_
  rintro e w1 ⟨rfl, hb1⟩
  have B1 := Lib.hid hb1
  clear hb1
  go_wp2_with fail
  refine (implMk_any (fun _ => ByteArray.empty) s _).mono ?_
  rintro e w2 ⟨rfl, hb2⟩
  have B2 := Lib.hid (B1.out.trans (hb2.mono B1.out.size))
  clear hb2
  generalize isMk s = bb at *
  go_wp2
  go_ret
  exact ⟨rfl, B2.out⟩
end Go.Proofs.Ytjhfoifdaiilhaa.fnExactIsMarkedness
