/- The laws' markFooting. -/
import Derived.Test.YtifmcbhgoncgjaaTrFooting
import Derived.Test.YtifmcbhgoncgjaaTmFootS
import Derived.WalkKit
import Derived.BigQuiet
import Derived.Lib.QuietBelow
import Derived.Test.YtifmcbhgoncgjaaRows
import Derived.Test.YtifmcbhgoncgjaaRet
namespace Go.Proofs.Ytifmcbhgoncgjaa
open Go.RowKit Go.Sort
set_option linter.unusedVariables false
set_option linter.unusedSimpArgs false

theorem markFooting_any (x : DFooting) (v1 : Value) (z : Int) (k0 : Nat) (hz : z = (k0 : Int)) (base : Nat) (F0 : Addr → Prop) (w : World) (hbs : base ≤ w.heap.size) (hF0 : ∀ a, F0 a → base ≤ a.block) (hk : k0 + cntRow rFoot x.Feet ≤ 1000000000) (h1k : 1 ≤ k0) (hv : RowRd rFoot true w v1 x.Feet F0) :
    Calls Try.prog 17 #[.agg #[.int .i64 x.Syllables, v1, .int .i64 x.Main], .int .i64 z] w fun e w' => e = .returned (.int .i64 ((k0 + cntRow rFoot x.Feet : Nat) : Int)) ∧ RowRd rFoot true w' v1 (labRow rFoot k0 x.Feet) F0 ∧ Unch F0 w w' ∧ Below base w w' := by
  subst hz
  have HM : Hid (∀ W, Below w.heap.size w W → Calls Try.prog 38 #[v1, .int .i64 (k0 : Int)] W fun e w' => e = .returned (.int .i64 ((k0 + cntRow rFoot x.Feet : Nat) : Int)) ∧ RowRd rFoot true w' v1 (labRow rFoot k0 x.Feet) F0 ∧ Unch F0 W w' ∧ Below base W w') := fun W hW => markFootS_any v1 x.Feet _ k0 rfl base F0 W hF0 hk h1k (hv.kept hW)
  clear hv
  generalize k0 + cntRow rFoot x.Feet = c at *
  generalize x.Syllables = y0 at *
  generalize x.Main = y2 at *
  go_enter Try.func17, Try.ntmps17
  go_wp2_with fail
  refine (HM.out _ ((Below.refl _ _).alloc (Nat.le_refl _) _)).mono ?_
  rintro e w1 ⟨rfl, hq, hu, hb⟩
  have HQ := Lib.hid hq
  have HU := Lib.hid ((Unch.below (F := F0) ((Below.refl _ _).alloc (Nat.le_refl _) _)).trans hu)
  have HB := Lib.hid (((Below.refl base w).alloc hbs _).trans hb)
  clear hq hu hb
  go_wp2
  go_ret
  exact ⟨rfl, HQ.out, HU.out, HB.out⟩
end Go.Proofs.Ytifmcbhgoncgjaa
