/- The laws' heldCandidate. -/
import Derived.Test.YtfcmhbbeohhjmaaTrCandidate
import Derived.Test.YtfcmhbbeohhjmaaThLinkS
import Derived.WalkKit
import Derived.BigQuiet
import Derived.Lib.QuietBelow
import Derived.Test.YtfcmhbbeohhjmaaRows
import Derived.Test.YtfcmhbbeohhjmaaRet
namespace Go.Proofs.Ytfcmhbbeohhjmaa
set_option maxRecDepth 100000
open Go.RowKit Go.Sort
set_option linter.unusedVariables false
set_option linter.unusedSimpArgs false

theorem heldCandidate_any (x : DCandidate) (v0 : Value) (l : (List DLink)) (z : Int) (k0 : Nat) (hz : z = (k0 : Int)) (F : Addr → Prop) (w : World) (hk : k0 + cntRow rLink l ≤ 1000000000) (h1k : 1 ≤ k0) (hv : RowRd rLink false w v0 (labRow rLink k0 l) F) :
    Calls Try.prog 25 #[.agg #[v0], .int .i64 z] w fun e w' => e = .returned (.int .i64 ((k0 + cntRow rLink l : Nat) : Int)) ∧ Below w.heap.size w w' := by
  subst hz
  have HM : Hid (∀ W, Below w.heap.size w W → Calls Try.prog 46 #[v0, .int .i64 (k0 : Int)] W fun e w' => e = .returned (.int .i64 ((k0 + cntRow rLink l : Nat) : Int)) ∧ Below W.heap.size W w') := fun W hW => heldLinkS_any v0 l _ k0 rfl F W hk h1k (hv.kept hW)
  clear hv
  generalize k0 + cntRow rLink l = c at *
  have hnn : ¬ ((c : Nat) : Int) < 0 := by omega
  go_enter Try.func25, Try.ntmps25
  go_wp2_with fail
  refine (HM.out _ ((Below.refl _ _).alloc (Nat.le_refl _) _)).mono ?_
  rintro e w1 ⟨rfl, hb⟩
  have HB := Lib.hid (((Below.refl w.heap.size w).alloc (Nat.le_refl _) _).trans (hb.mono (by simp)))
  clear hb
  go_wp2
  go_ret
  exact ⟨rfl, HB.out⟩
end Go.Proofs.Ytfcmhbbeohhjmaa
