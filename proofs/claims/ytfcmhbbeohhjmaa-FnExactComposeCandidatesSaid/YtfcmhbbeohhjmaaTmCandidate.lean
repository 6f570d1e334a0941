/- The laws' markCandidate. -/
import Derived.Test.YtfcmhbbeohhjmaaTrCandidate
import Derived.Test.YtfcmhbbeohhjmaaTmLinkS
import Derived.WalkKit
import Derived.BigQuiet
import Derived.Lib.QuietBelow
import Derived.Test.YtfcmhbbeohhjmaaRows
import Derived.Test.YtfcmhbbeohhjmaaRet
namespace Go.Proofs.Ytfcmhbbeohhjmaa
set_option maxRecDepth 100000
open Go.RowKit Go.Sort
set_option linter.unusedVariables false
set_option linter.unusedSimpArgs false

theorem markCandidate_any (x : DCandidate) (v0 : Value) (z : Int) (k0 : Nat) (hz : z = (k0 : Int)) (base : Nat) (F0 : Addr → Prop) (w : World) (hbs : base ≤ w.heap.size) (hF0 : ∀ a, F0 a → base ≤ a.block) (hk : k0 + cntRow rLink x.Links ≤ 1000000000) (h1k : 1 ≤ k0) (hv : RowRd rLink true w v0 x.Links F0) :
    Calls Try.prog 24 #[.agg #[v0], .int .i64 z] w fun e w' => e = .returned (.int .i64 ((k0 + cntRow rLink x.Links : Nat) : Int)) ∧ RowRd rLink true w' v0 (labRow rLink k0 x.Links) F0 ∧ Unch F0 w w' ∧ Below base w w' := by
  subst hz
  have HM : Hid (∀ W, Below w.heap.size w W → Calls Try.prog 45 #[v0, .int .i64 (k0 : Int)] W fun e w' => e = .returned (.int .i64 ((k0 + cntRow rLink x.Links : Nat) : Int)) ∧ RowRd rLink true w' v0 (labRow rLink k0 x.Links) F0 ∧ Unch F0 W w' ∧ Below base W w') := fun W hW => markLinkS_any v0 x.Links _ k0 rfl base F0 W hF0 hk h1k (hv.kept hW)
  clear hv
  generalize k0 + cntRow rLink x.Links = c at *
  go_enter Try.func24, Try.ntmps24
  go_wp2_with fail
  refine (HM.out _ ((Below.refl _ _).alloc (Nat.le_refl _) _)).mono ?_
  rintro e w1 ⟨rfl, hq, hu, hb⟩
  have HQ := Lib.hid hq
  have HU := Lib.hid ((Unch.below (F := F0) ((Below.refl _ _).alloc (Nat.le_refl _) _)).trans hu)
  have HB := Lib.hid (((Below.refl base w).alloc hbs _).trans hb)
  clear hq hu hb
  go_wp2
  go_ret
  exact ⟨rfl, HQ.out, HU.out, HB.out⟩
end Go.Proofs.Ytfcmhbbeohhjmaa
