/- The laws' eqFooting. -/
import Derived.Test.YtifmcbhgoncgjaaDoorTrFooting
import Derived.Test.YtifmcbhgoncgjaaDoorTeFootS
import Derived.WalkKit
import Derived.BigQuiet
import Derived.Lib.QuietBelow
import Derived.Test.YtifmcbhgoncgjaaDoorRows
import Derived.Test.YtifmcbhgoncgjaaDoorRet
namespace Go.Proofs.YtifmcbhgoncgjaaDoor
open Go.RowKit Go.Sort
set_option linter.unusedVariables false
set_option linter.unusedSimpArgs false

theorem eqFooting_any (x : DFooting) (F G : Addr → Prop) (w : World) (v1 u1 : Value) (hv1 : RowRd rFoot false w v1 x.Feet F) (hu1 : RowRd rFoot false w u1 x.Feet G) :
    Calls Tryd.prog 27 #[.agg #[.int .i64 x.Syllables, v1, .int .i64 x.Main], .agg #[.int .i64 x.Syllables, u1, .int .i64 x.Main]] w fun e w' => e = .returned (.bool true) ∧ Below w.heap.size w w' := by
  have HR1 : Hid (∀ W, Below w.heap.size w W → Calls Tryd.prog 44 #[v1, u1] W fun e w' => e = .returned (.bool true) ∧ Below W.heap.size W w') := fun W hW => eqFootS_any v1 u1 _ F G W (hv1.kept hW) (hu1.kept hW)
  clear hv1 hu1
  generalize x.Syllables = y0 at *
  generalize x.Main = y2 at *
  go_enter Tryd.func27, Tryd.ntmps27
  go_wp2_with fail
  refine (HR1.out _ (((Below.refl _ _).alloc (Nat.le_refl _) _).alloc (by simp) _)).mono ?_
  rintro e w1 ⟨rfl, hb1⟩
  have HB1 : Hid (Below w.heap.size w w1) := (((Below.refl _ _).alloc (Nat.le_refl _) _).alloc (by simp) _).trans (hb1.mono (by simp; try omega))
  have hA1 : w1.heap[w.heap.size]? = some (.cells #[.int .i64 y0, v1, .int .i64 y2] 31 (0, 0)) := (hb1.block _ (by simp; try omega)).trans (box1 _ _ _)
  have hB1 : w1.heap[w.heap.size + 1]? = some (.cells #[.int .i64 y0, u1, .int .i64 y2] 31 (0, 0)) := (hb1.block _ (by simp; try omega)).trans (box2 _ _ _)
  have c2 := cell_in hA1 2 rfl
  have d2 := cell_in hB1 2 rfl
  clear hb1
  go_wp2
  go_ret
  exact ⟨rfl, HB1.out⟩
end Go.Proofs.YtifmcbhgoncgjaaDoor
