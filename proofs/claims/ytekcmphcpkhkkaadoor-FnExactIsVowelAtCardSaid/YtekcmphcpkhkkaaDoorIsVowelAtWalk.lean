/- The walk of FnExactIsVowelAt: it returns true at every argument, and writes nothing that was there. -/
import Derived.Test.YtekcmphcpkhkkaaDoorIv
import Derived.OpenShut
namespace Go.Proofs.YtekcmphcpkhkkaaDoor.fnExactIsVowelAt
open Go.ChangeShapes Go.RowKit Go.Proofs.YtekcmphcpkhkkaaDoor
theorem walk (s : ByteArray) (i : Int) (w0 : s.size ≤ maxLen) (w : World) (hL : laidMetH Tryd.prog Rows.fnExactIsVowelAtRow.laid w) :
    Calls Tryd.prog 3 #[.string s, .int .i64 i] w fun e w' => e = .returned (.bool true) ∧ Below w.heap.size w w' := by
  have hT : FeatTab w := feat_of hL
  have HT := Lib.hid hT
  clear hT hL
  have HW := Lib.hid w0
  have ws : s.size ≤ 9223372036854775807 := by unfold maxLen at w0; omega
  clear w0
  go_enter Tryd.func3, Tryd.ntmps3
  go_wp2_with fail
  · go_ret
    exact ⟨rfl, Below.refl _ _⟩
  refine (specVow_any _ _ _).mono ?_
  rintro e w1 ⟨rfl, rfl⟩
  go_wp2_with fail
  refine (implVow_any _ _ _ HW.out (feat_below HT.out (Below.refl _ _))).mono ?_
  rintro e w2 ⟨rfl, hb⟩
  go_wp2
  go_ret
  exact ⟨rfl, hb⟩
end Go.Proofs.YtekcmphcpkhkkaaDoor.fnExactIsVowelAt
