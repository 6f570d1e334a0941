/- The laws' szFooting. -/
import Derived.Test.YtifmcbhgoncgjaaDoorTrFooting
import Derived.Test.YtifmcbhgoncgjaaDoorTzFootS
import Derived.WalkKit
import Derived.BigQuiet
import Derived.Lib.QuietBelow
import Derived.Test.YtifmcbhgoncgjaaDoorRows
import Derived.Test.YtifmcbhgoncgjaaDoorRet
namespace Go.Proofs.YtifmcbhgoncgjaaDoor
open Go.RowKit Go.Sort
set_option linter.unusedVariables false
set_option linter.unusedSimpArgs false

theorem szFooting_any (x : DFooting) (v1 : Value) (left : Int) (F : Addr → Prop) (w : World) (h0 : 0 ≤ left) (h1 : left ≤ 1048576) (hv : RowRd rFoot false w v1 x.Feet F) :
    Calls Tryd.prog 25 #[.agg #[.int .i64 x.Syllables, v1, .int .i64 x.Main], .int .i64 left] w fun e w' => (∃ z : Int, e = .returned (.int .i64 z) ∧ (z < 0 ∨ z + (rFooting.sz x : Nat) = left ∧ 0 ≤ z)) ∧ Below w.heap.size w w' := by
  have HS : Hid (rFooting.sz x = szRow rFoot x.Feet) := by unfold Hid; rw [rFooting_sz]; omega
  have HC : Hid (∀ W, Below w.heap.size w W → Calls Tryd.prog 42 #[v1, .int .i64 left] W fun e w' => (∃ z : Int, e = .returned (.int .i64 z) ∧ (z < 0 ∨ z + (szRow rFoot x.Feet : Nat) = left ∧ 0 ≤ z)) ∧ Below W.heap.size W w') := fun W hW => szFootS_any v1 _ left F W h0 h1 (hv.kept hW)
  clear hv
  generalize rFooting.sz x = n at *
  generalize szRow rFoot x.Feet = m at *
  generalize x.Syllables = y0 at *
  generalize x.Main = y2 at *
  go_enter Tryd.func25, Tryd.ntmps25
  go_wp2_with fail
  refine (HC.out _ ((Below.refl _ _).alloc (Nat.le_refl _) _)).mono ?_
  rintro e w1 ⟨⟨z, rfl, hz⟩, hb⟩
  have HB := Lib.hid (((Below.refl w.heap.size w).alloc (Nat.le_refl _) _).trans (hb.mono (by simp)))
  clear hb
  by_cases h : z < 0
  · go_wp2
    go_ret
    exact ⟨⟨-1, rfl, Or.inl (by omega)⟩, HB.out⟩
  · have HZ := Lib.hid (hz.resolve_left h)
    clear hz
    go_wp2
    go_ret
    exact ⟨⟨z, rfl, Or.inr (by rw [HS.out]; exact HZ.out)⟩, HB.out⟩
end Go.Proofs.YtifmcbhgoncgjaaDoor
