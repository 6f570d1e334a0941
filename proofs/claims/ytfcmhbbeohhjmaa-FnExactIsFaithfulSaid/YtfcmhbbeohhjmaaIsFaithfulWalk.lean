/- The walk of FnExactIsFaithful: it returns true at every argument. -/
import Derived.Test.YtfcmhbbeohhjmaaId9
import Derived.Test.YtfcmhbbeohhjmaaTzCandidate
import Derived.Test.YtfcmhbbeohhjmaaTtCandidate
import Derived.Test.YtfcmhbbeohhjmaaTeCandidate
import Derived.Deep.RegionWith
import Derived.Deep.DeepCutAuto
namespace Go.Proofs.Ytfcmhbbeohhjmaa.fnExactIsFaithful
set_option maxRecDepth 100000
open Go.RowKit Go.Proofs.Ytfcmhbbeohhjmaa
set_option linter.unusedVariables false

set_option maxHeartbeats 8000000 in
theorem walk (w : World) (x : DCandidate) (F : Addr → Prop) (v : Value) (hv : RowRd rLink false w v x.Links F) :
    Calls Try.prog 7 #[.agg #[v]] w fun e w' => e = .returned (.bool true) ∧ Below w.heap.size w w' := by
  obtain ⟨A, cap, rfl⟩ := hv.form
  have HV := Lib.hid hv.tight
  clear hv
  have HB := Lib.hid (Below.refl w.heap.size w)
  go_enter Try.func7, Try.ntmps7
  have HC : Hid (∀ W, Below w.heap.size w W → Calls Try.prog 9 #[.agg #[.slice A x.Links.length cap], .int .i64 1048576] W fun e w' => (∃ z : Int, e = .returned (.int .i64 z) ∧ (z < 0 ∨ z + (rCandidate.sz x : Nat) = 1048576 ∧ 0 ≤ z)) ∧ Below W.heap.size W w') := fun W hW => szCandidate_any x _ 1048576 _ W (by omega) (by omega) (HV.out.kept hW)
  go_wp2_with fail
  refine (HC.out _ (by first | exact Below.refl _ _ | exact (Below.refl _ _).alloc (Nat.le_refl _) _ | exact (Below.refl _ _).drew)).mono ?_
  rintro e w1 ⟨⟨z, rfl, hz⟩, hb⟩
  have hbn : Below w.heap.size w w1 := below_step (by first | exact Below.refl _ _ | exact (Below.refl _ _).alloc (Nat.le_refl _) _ | exact (Below.refl _ _).drew) hb
  have hs1 : Hid (w.heap.size ≤ w1.heap.size) := hbn.size
  replace HV := Lib.hid (HV.out.kept hbn)
  replace HB := Lib.hid (HB.out.trans (hbn.mono HB.out.size))
  have HA : Hid (InC w1 w.heap.size #[.slice A x.Links.length cap] 24) := (hb.block _ (by simp)).trans (heap_alloc_new _ _)
  have HA0 : Hid (w.heap.size < w1.heap.size) := (HA.out.lt : _ < _)
  clear hb hbn HC
  by_cases hneg : z < 0
  case pos =>
    go_wp2
    go_ret
    exact ⟨rfl, HB.out⟩
  have HSZ : Hid (rCandidate.sz x ≤ 1048576) := by unfold Hid; have := hz.resolve_left hneg; omega
  have HFL : Hid (x.Links.length ≤ 1048576) := by unfold Hid; have h1 := HSZ.out; rw [rCandidate_sz] at h1; have := szRow_len rLink x.Links; omega
  clear hz
  have HC : Hid (∀ W, Below w1.heap.size w1 W → Calls Try.prog 11 #[.agg #[.slice A x.Links.length cap]] W fun e w' => ∃ u, e = .returned (.agg #[u]) ∧ RowRd rLink true w' u x.Links (fun a => W.heap.size ≤ a.block) ∧ Below W.heap.size W w') := fun W hW => toCandidate_any x _ W _ (HV.out.kept hW) HSZ.out
  have bHA0 := HA.out.cell 0 rfl
  go_wp2_with fail
  refine (HC.out _ (by first | exact Below.refl _ _ | exact (Below.refl _ _).alloc (Nat.le_refl _) _ | exact (Below.refl _ _).drew)).mono ?_
  rintro e w2 ⟨u1, rfl, hq, hb⟩
  clear bHA0
  have hbn : Below w1.heap.size w1 w2 := below_step (by first | exact Below.refl _ _ | exact (Below.refl _ _).alloc (Nat.le_refl _) _ | exact (Below.refl _ _).drew) hb
  have hs2 : Hid (w1.heap.size ≤ w2.heap.size) := hbn.size
  replace HV := Lib.hid (HV.out.kept hbn)
  replace HA := Lib.hid (HA.out.kept hbn)
  replace HB := Lib.hid (HB.out.trans (hbn.mono HB.out.size))
  obtain ⟨Au1, qu1, rfl⟩ := hq.form
  have Hu1 := Lib.hid hq.tight
  clear hb hbn HC hq
  have HC : Hid (∀ W, Below w2.heap.size w2 W → Calls Try.prog 20 #[.agg #[.slice Au1 x.Links.length qu1]] W fun e w' => e = .returned (.bool (fthB x.Links)) ∧ Below W.heap.size W w') := fun W hW => specFaithful_any x _ _ W HFL.out (Hu1.out.kept hW).weak
  have bHA0 := HA.out.cell 0 rfl
  go_wp2_with fail
  refine (HC.out _ (by first | exact Below.refl _ _ | exact (Below.refl _ _).alloc (Nat.le_refl _) _ | exact (Below.refl _ _).drew)).mono ?_
  rintro e w3 ⟨rfl, hb⟩
  clear bHA0
  have hbn : Below w2.heap.size w2 w3 := below_step (by first | exact Below.refl _ _ | exact (Below.refl _ _).alloc (Nat.le_refl _) _ | exact (Below.refl _ _).drew) hb
  have hs3 : Hid (w2.heap.size ≤ w3.heap.size) := hbn.size
  replace HV := Lib.hid (HV.out.kept hbn)
  replace HA := Lib.hid (HA.out.kept hbn)
  replace Hu1 := Lib.hid (Hu1.out.kept hbn)
  replace HB := Lib.hid (HB.out.trans (hbn.mono HB.out.size))
  clear hb hbn HC
  have HC : Hid (∀ W, Below w3.heap.size w3 W → Calls Try.prog 11 #[.agg #[.slice A x.Links.length cap]] W fun e w' => ∃ u, e = .returned (.agg #[u]) ∧ RowRd rLink true w' u x.Links (fun a => W.heap.size ≤ a.block) ∧ Below W.heap.size W w') := fun W hW => toCandidate_any x _ W _ (HV.out.kept hW) HSZ.out
  have bHA0 := HA.out.cell 0 rfl
  go_wp2_with fail
  refine (HC.out _ (by first | exact Below.refl _ _ | exact (Below.refl _ _).alloc (Nat.le_refl _) _ | exact (Below.refl _ _).drew)).mono ?_
  rintro e w4 ⟨x0, rfl, hq, hb⟩
  clear bHA0
  have hbn : Below w3.heap.size w3 w4 := below_step (by first | exact Below.refl _ _ | exact (Below.refl _ _).alloc (Nat.le_refl _) _ | exact (Below.refl _ _).drew) hb
  have hs4 : Hid (w3.heap.size ≤ w4.heap.size) := hbn.size
  replace HV := Lib.hid (HV.out.kept hbn)
  replace HA := Lib.hid (HA.out.kept hbn)
  replace Hu1 := Lib.hid (Hu1.out.kept hbn)
  replace HB := Lib.hid (HB.out.trans (hbn.mono HB.out.size))
  obtain ⟨Ax0, qx0, rfl⟩ := hq.form
  have Hx0 := Lib.hid hq.tight
  clear hb hbn HC hq
  have HC : Hid (∀ W, Below w4.heap.size w4 W → Calls Try.prog 21 #[.agg #[.slice Ax0 x.Links.length qx0]] W fun e w' => e = .returned (.bool (fthB x.Links)) ∧ Below W.heap.size W w') := fun W hW => implFaithful_any x _ _ W HFL.out (Hx0.out.kept hW).weak
  have bHA0 := HA.out.cell 0 rfl
  go_wp2_with fail
  refine (HC.out _ (by first | exact Below.refl _ _ | exact (Below.refl _ _).alloc (Nat.le_refl _) _ | exact (Below.refl _ _).drew)).mono ?_
  rintro e w5 ⟨rfl, hb⟩
  clear bHA0
  have hbn : Below w4.heap.size w4 w5 := below_step (by first | exact Below.refl _ _ | exact (Below.refl _ _).alloc (Nat.le_refl _) _ | exact (Below.refl _ _).drew) hb
  have hs5 : Hid (w4.heap.size ≤ w5.heap.size) := hbn.size
  replace HV := Lib.hid (HV.out.kept hbn)
  replace HA := Lib.hid (HA.out.kept hbn)
  replace Hu1 := Lib.hid (Hu1.out.kept hbn)
  replace Hx0 := Lib.hid (Hx0.out.kept hbn)
  replace HB := Lib.hid (HB.out.trans (hbn.mono HB.out.size))
  have HX : Hid (InC w5 w4.heap.size #[.slice Ax0 x.Links.length qx0] 29) := (hb.block _ (by simp)).trans (heap_alloc_new _ _)
  clear hb hbn HC
  generalize fthB x.Links = bb at *
  have HT : Hid (∀ W, Below w5.heap.size w5 W → Calls Try.prog 11 #[.agg #[.slice A x.Links.length cap]] W fun e w' => ∃ u, e = .returned (.agg #[u]) ∧ RowRd rLink true w' u x.Links (fun a => W.heap.size ≤ a.block) ∧ Below W.heap.size W w') := fun W hW => toCandidate_any x _ W _ (HV.out.kept hW) HSZ.out
  have HE : Hid (∀ (W : World) (u : Value) (G : Addr → Prop), Below w5.heap.size w5 W → RowRd rLink true W u x.Links G → Calls Try.prog 13 #[.agg #[.slice Ax0 x.Links.length qx0], .agg #[u]] W fun e w' => e = .returned (.bool true) ∧ Below W.heap.size W w') := fun W u G hW hu => eqCandidate_any x _ _ W _ _ (Hx0.out.kept hW).weak hu.weak
  have HXK : Hid (∀ W : World, Below w5.heap.size w5 W → InC W _ #[.slice Ax0 x.Links.length qx0] 29) := fun W hW => HX.out.kept hW
  have bHA0 := HA.out.cell 0 rfl
  have bHX0 := HX.out.cell 0 rfl
  go_upto_region 10 with fail
  go_region_with (first | (go_simp; go_at_call 11; refine (HT.out _ ((Below.refl _ _).drew)).mono ?_; rintro e wt ⟨ut, rfl, hqt, hbt0⟩; have hbt : Below w5.heap.size w5 wt := below_step ((Below.refl _ _).drew) hbt0; obtain ⟨At, ct, rfl⟩ := hqt.form; have e0 := (HXK.out _ hbt).cell 0 rfl; have HBT := Lib.hid hbt; have HQT := Lib.hid hqt; clear hbt0 hqt hbt) | (go_simp; go_at_call 13; refine (HE.out _ _ _ HBT.out HQT.out).mono ?_; rintro e wz ⟨rfl, hbz0⟩; have HBZ := Lib.hid (below_step HBT.out hbz0); clear hbz0))
  all_goals
    go_wp2
    go_ret
    exact ⟨rfl, HB.out.trans (HBZ.out.mono HB.out.size)⟩
end Go.Proofs.Ytfcmhbbeohhjmaa.fnExactIsFaithful
