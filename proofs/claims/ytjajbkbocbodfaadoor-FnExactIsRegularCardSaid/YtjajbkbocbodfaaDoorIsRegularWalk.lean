/- The walk of FnExactIsRegular: it returns true at every argument, and writes nothing that was there. -/
import Derived.Test.YtjajbkbocbodfaaDoorY6
import Derived.Test.YtjajbkbocbodfaaDoorIs
import Derived.OpenShut
namespace Go.Proofs.YtjajbkbocbodfaaDoor.fnExactIsRegular
open Go.ChangeShapes Go.RowKit Go.Proofs.YtjajbkbocbodfaaDoor
theorem walk (s : ByteArray) (w0 : s.size ≤ maxLen) (w : World) (hL : laidMetH Tryd.prog Rows.fnExactIsRegularRow.laid w) :
    Calls Tryd.prog 6 #[.string s] w fun e w' => e = .returned (.bool true) ∧ Below w.heap.size w w' := by
  have hT : FeatTab w := feat_of hL
  have HT := Lib.hid hT
  clear hT hL
  have HW := Lib.hid w0
  have ws : s.size ≤ 9223372036854775807 := by unfold maxLen at w0; omega
  clear w0
  go_enter Tryd.func6, Tryd.ntmps6
  go_wp2_with fail
  · go_ret
    exact ⟨rfl, Below.refl _ _⟩
  refine (specReg_any _ _ HW.out).mono ?_
  rintro e w1 ⟨rfl, hb1⟩
  have B1 := Lib.hid hb1
  clear hb1
  go_wp2_with fail
  refine (implReg_any _ _ HW.out (feat_below HT.out B1.out)).mono ?_
  rintro e w2 ⟨rfl, hb2⟩
  have B2 := Lib.hid (B1.out.trans (hb2.mono B1.out.size))
  clear hb2
  go_wp2
  go_ret
  exact ⟨rfl, B2.out⟩
end Go.Proofs.YtjajbkbocbodfaaDoor.fnExactIsRegular
