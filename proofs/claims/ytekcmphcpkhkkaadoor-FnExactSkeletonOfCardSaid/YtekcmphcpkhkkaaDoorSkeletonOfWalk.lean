/- The walk of FnExactSkeletonOf: it returns true at every argument, and writes nothing that was there. -/
import Derived.Test.YtekcmphcpkhkkaaDoorIv
import Derived.OpenShut
namespace Go.Proofs.YtekcmphcpkhkkaaDoor.fnExactSkeletonOf
open Go.ChangeShapes Go.RowKit Go.Proofs.YtekcmphcpkhkkaaDoor
theorem walk (s : ByteArray) (w0 : s.size ≤ maxLen) (w : World) (hL : laidMetH Tryd.prog Rows.fnExactSkeletonOfRow.laid w) :
    Calls Tryd.prog 5 #[.string s] w fun e w' => e = .returned (.bool true) ∧ Below w.heap.size w w' := by
  have hT : FeatTab w := feat_of hL
  have HT := Lib.hid hT
  clear hT hL
  have HW := Lib.hid w0
  have ws : s.size ≤ 9223372036854775807 := by unfold maxLen at w0; omega
  clear w0
  go_enter Tryd.func5, Tryd.ntmps5
  go_wp2_with fail
  · go_ret
    exact ⟨rfl, Below.refl _ _⟩
  refine (specSk_any _ _ HW.out).mono ?_
  rintro e w1 ⟨rfl, rfl⟩
  go_wp2_with fail
  refine (implSk_any _ _ HW.out (feat_below HT.out (Below.refl _ _))).mono ?_
  rintro e w2 ⟨rfl, hb⟩
  go_wp2
  go_ret
  exact ⟨rfl, hb⟩
end Go.Proofs.YtekcmphcpkhkkaaDoor.fnExactSkeletonOf
