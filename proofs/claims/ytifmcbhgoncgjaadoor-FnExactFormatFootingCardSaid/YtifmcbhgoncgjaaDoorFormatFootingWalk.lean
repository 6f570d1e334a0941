/- The walk of FnExactFormatFooting: it returns true at every argument. -/
import Derived.Test.YtifmcbhgoncgjaaDoorSf8
import Derived.Test.YtifmcbhgoncgjaaDoorIf8f
import Derived.Test.YtifmcbhgoncgjaaDoorTzFooting
import Derived.Test.YtifmcbhgoncgjaaDoorTtFooting
import Derived.Test.YtifmcbhgoncgjaaDoorTeFooting
import Derived.Deep.RegionWith
import Derived.Deep.DeepCutAuto
namespace Go.Proofs.YtifmcbhgoncgjaaDoor.fnExactFormatFooting
open Go.RowKit Go.Proofs.YtifmcbhgoncgjaaDoor
set_option linter.unusedVariables false

set_option maxHeartbeats 8000000 in
theorem walk (w : World) (x : DFooting) (F : Addr → Prop) (v : Value) (i0 : I64 x.Syllables) (hv : RowRd rFoot false w v x.Feet F) (i2 : I64 x.Main) :
    Calls Tryd.prog 4 #[.agg #[.int .i64 x.Syllables, v, .int .i64 x.Main]] w fun e w' => e = .returned (.bool true) ∧ Below w.heap.size w w' := by
  obtain ⟨A, cap, rfl⟩ := hv.form
  have HV := Lib.hid hv.tight
  clear hv
  have HB := Lib.hid (Below.refl w.heap.size w)
  have HI0 := Lib.hid i0
  have HI2 := Lib.hid i2
  go_enter Tryd.func4, Tryd.ntmps4
  have HC : Hid (∀ W, Below w.heap.size w W → Calls Tryd.prog 25 #[.agg #[.int .i64 x.Syllables, .slice A x.Feet.length cap, .int .i64 x.Main], .int .i64 1048576] W fun e w' => (∃ z : Int, e = .returned (.int .i64 z) ∧ (z < 0 ∨ z + (rFooting.sz x : Nat) = 1048576 ∧ 0 ≤ z)) ∧ Below W.heap.size W w') := fun W hW => szFooting_any x _ 1048576 _ W (by omega) (by omega) (HV.out.kept hW)
  go_wp2_with fail
  refine (HC.out _ (by first | exact Below.refl _ _ | exact (Below.refl _ _).alloc (Nat.le_refl _) _ | exact (Below.refl _ _).drew)).mono ?_
  rintro e w1 ⟨⟨z, rfl, hz⟩, hb⟩
  have hbn : Below w.heap.size w w1 := below_step (by first | exact Below.refl _ _ | exact (Below.refl _ _).alloc (Nat.le_refl _) _ | exact (Below.refl _ _).drew) hb
  have hs1 : Hid (w.heap.size ≤ w1.heap.size) := hbn.size
  replace HV := Lib.hid (HV.out.kept hbn)
  replace HB := Lib.hid (HB.out.trans (hbn.mono HB.out.size))
  have HA : Hid (InC w1 w.heap.size #[.int .i64 x.Syllables, .slice A x.Feet.length cap, .int .i64 x.Main] 43) := (hb.block _ (by simp)).trans (heap_alloc_new _ _)
  have HA0 : Hid (w.heap.size < w1.heap.size) := (HA.out.lt : _ < _)
  clear hb hbn HC
  by_cases hneg : z < 0
  case pos =>
    go_wp2
    go_ret
    exact ⟨rfl, HB.out⟩
  have HSZ : Hid (rFooting.sz x ≤ 1048576) := by unfold Hid; have := hz.resolve_left hneg; omega
  have HFL : Hid (x.Feet.length ≤ 1048576) := by unfold Hid; have h1 := HSZ.out; rw [rFooting_sz] at h1; have := szRow_len rFoot x.Feet; omega
  clear hz
  have HC : Hid (∀ W, Below w1.heap.size w1 W → Calls Tryd.prog 26 #[.agg #[.int .i64 x.Syllables, .slice A x.Feet.length cap, .int .i64 x.Main]] W fun e w' => ∃ u, e = .returned (.agg #[.int .i64 x.Syllables, u, .int .i64 x.Main]) ∧ RowRd rFoot true w' u x.Feet (fun a => W.heap.size ≤ a.block) ∧ Below W.heap.size W w') := fun W hW => toFooting_any x _ W _ (HV.out.kept hW) HSZ.out
  have bHA0 := HA.out.cell 0 rfl
  have bHA1 := HA.out.cell 1 rfl
  have bHA2 := HA.out.cell 2 rfl
  go_wp2_with fail
  refine (HC.out _ (by first | exact Below.refl _ _ | exact (Below.refl _ _).alloc (Nat.le_refl _) _ | exact (Below.refl _ _).drew)).mono ?_
  rintro e w2 ⟨u1, rfl, hq, hb⟩
  clear bHA0 bHA1 bHA2
  have hbn : Below w1.heap.size w1 w2 := below_step (by first | exact Below.refl _ _ | exact (Below.refl _ _).alloc (Nat.le_refl _) _ | exact (Below.refl _ _).drew) hb
  have hs2 : Hid (w1.heap.size ≤ w2.heap.size) := hbn.size
  replace HV := Lib.hid (HV.out.kept hbn)
  replace HA := Lib.hid (HA.out.kept hbn)
  replace HB := Lib.hid (HB.out.trans (hbn.mono HB.out.size))
  obtain ⟨Au1, qu1, rfl⟩ := hq.form
  have Hu1 := Lib.hid hq.tight
  clear hb hbn HC hq
  have HC : Hid (∀ W, Below w2.heap.size w2 W → Calls Tryd.prog 21 #[.agg #[.int .i64 x.Syllables, .slice Au1 x.Feet.length qu1, .int .i64 x.Main]] W fun e w' => e = .returned (.string (bsF (ftL x))) ∧ Below W.heap.size W w') := fun W hW => specFF_any x _ _ W HFL.out HI0.out HI2.out (Hu1.out.kept hW).weak
  have bHA0 := HA.out.cell 0 rfl
  have bHA1 := HA.out.cell 1 rfl
  have bHA2 := HA.out.cell 2 rfl
  go_wp2_with fail
  refine (HC.out _ (by first | exact Below.refl _ _ | exact (Below.refl _ _).alloc (Nat.le_refl _) _ | exact (Below.refl _ _).drew)).mono ?_
  rintro e w3 ⟨rfl, hb⟩
  clear bHA0 bHA1 bHA2
  have hbn : Below w2.heap.size w2 w3 := below_step (by first | exact Below.refl _ _ | exact (Below.refl _ _).alloc (Nat.le_refl _) _ | exact (Below.refl _ _).drew) hb
  have hs3 : Hid (w2.heap.size ≤ w3.heap.size) := hbn.size
  replace HV := Lib.hid (HV.out.kept hbn)
  replace HA := Lib.hid (HA.out.kept hbn)
  replace Hu1 := Lib.hid (Hu1.out.kept hbn)
  replace HB := Lib.hid (HB.out.trans (hbn.mono HB.out.size))
  clear hb hbn HC
  have HC : Hid (∀ W, Below w3.heap.size w3 W → Calls Tryd.prog 26 #[.agg #[.int .i64 x.Syllables, .slice A x.Feet.length cap, .int .i64 x.Main]] W fun e w' => ∃ u, e = .returned (.agg #[.int .i64 x.Syllables, u, .int .i64 x.Main]) ∧ RowRd rFoot true w' u x.Feet (fun a => W.heap.size ≤ a.block) ∧ Below W.heap.size W w') := fun W hW => toFooting_any x _ W _ (HV.out.kept hW) HSZ.out
  have bHA0 := HA.out.cell 0 rfl
  have bHA1 := HA.out.cell 1 rfl
  have bHA2 := HA.out.cell 2 rfl
  go_wp2_with fail
  refine (HC.out _ (by first | exact Below.refl _ _ | exact (Below.refl _ _).alloc (Nat.le_refl _) _ | exact (Below.refl _ _).drew)).mono ?_
  rintro e w4 ⟨x0, rfl, hq, hb⟩
  clear bHA0 bHA1 bHA2
  have hbn : Below w3.heap.size w3 w4 := below_step (by first | exact Below.refl _ _ | exact (Below.refl _ _).alloc (Nat.le_refl _) _ | exact (Below.refl _ _).drew) hb
  have hs4 : Hid (w3.heap.size ≤ w4.heap.size) := hbn.size
  replace HV := Lib.hid (HV.out.kept hbn)
  replace HA := Lib.hid (HA.out.kept hbn)
  replace Hu1 := Lib.hid (Hu1.out.kept hbn)
  replace HB := Lib.hid (HB.out.trans (hbn.mono HB.out.size))
  obtain ⟨Ax0, qx0, rfl⟩ := hq.form
  have Hx0 := Lib.hid hq.tight
  clear hb hbn HC hq
  have HC : Hid (∀ W, Below w4.heap.size w4 W → Calls Tryd.prog 20 #[.agg #[.int .i64 x.Syllables, .slice Ax0 x.Feet.length qx0, .int .i64 x.Main]] W fun e w' => e = .returned (.string (bsF (ftL x))) ∧ Below W.heap.size W w') := fun W hW => implFF_any x _ _ W HFL.out HI0.out HI2.out (Hx0.out.kept hW).weak
  have bHA0 := HA.out.cell 0 rfl
  have bHA1 := HA.out.cell 1 rfl
  have bHA2 := HA.out.cell 2 rfl
  go_wp2_with fail
  refine (HC.out _ (by first | exact Below.refl _ _ | exact (Below.refl _ _).alloc (Nat.le_refl _) _ | exact (Below.refl _ _).drew)).mono ?_
  rintro e w5 ⟨rfl, hb⟩
  clear bHA0 bHA1 bHA2
  have hbn : Below w4.heap.size w4 w5 := below_step (by first | exact Below.refl _ _ | exact (Below.refl _ _).alloc (Nat.le_refl _) _ | exact (Below.refl _ _).drew) hb
  have hs5 : Hid (w4.heap.size ≤ w5.heap.size) := hbn.size
  replace HV := Lib.hid (HV.out.kept hbn)
  replace HA := Lib.hid (HA.out.kept hbn)
  replace Hu1 := Lib.hid (Hu1.out.kept hbn)
  replace Hx0 := Lib.hid (Hx0.out.kept hbn)
  replace HB := Lib.hid (HB.out.trans (hbn.mono HB.out.size))
  have HX : Hid (InC w5 w4.heap.size #[.int .i64 x.Syllables, .slice Ax0 x.Feet.length qx0, .int .i64 x.Main] 31) := (hb.block _ (by simp)).trans (heap_alloc_new _ _)
  clear hb hbn HC
  generalize bsF (ftL x) = bb at *
  have HT : Hid (∀ W, Below w5.heap.size w5 W → Calls Tryd.prog 26 #[.agg #[.int .i64 x.Syllables, .slice A x.Feet.length cap, .int .i64 x.Main]] W fun e w' => ∃ u, e = .returned (.agg #[.int .i64 x.Syllables, u, .int .i64 x.Main]) ∧ RowRd rFoot true w' u x.Feet (fun a => W.heap.size ≤ a.block) ∧ Below W.heap.size W w') := fun W hW => toFooting_any x _ W _ (HV.out.kept hW) HSZ.out
  have HE : Hid (∀ (W : World) (u : Value) (G : Addr → Prop), Below w5.heap.size w5 W → RowRd rFoot true W u x.Feet G → Calls Tryd.prog 27 #[.agg #[.int .i64 x.Syllables, .slice Ax0 x.Feet.length qx0, .int .i64 x.Main], .agg #[.int .i64 x.Syllables, u, .int .i64 x.Main]] W fun e w' => e = .returned (.bool true) ∧ Below W.heap.size W w') := fun W u G hW hu => eqFooting_any x _ _ W _ _ (Hx0.out.kept hW).weak hu.weak
  have HXK : Hid (∀ W : World, Below w5.heap.size w5 W → InC W _ #[.int .i64 x.Syllables, .slice Ax0 x.Feet.length qx0, .int .i64 x.Main] 31) := fun W hW => HX.out.kept hW
  have bHA0 := HA.out.cell 0 rfl
  have bHA1 := HA.out.cell 1 rfl
  have bHA2 := HA.out.cell 2 rfl
  have bHX0 := HX.out.cell 0 rfl
  have bHX1 := HX.out.cell 1 rfl
  have bHX2 := HX.out.cell 2 rfl
  go_upto_region 10 with fail
  go_region_with (first | (go_simp; go_at_call 26; refine (HT.out _ ((Below.refl _ _).drew)).mono ?_; rintro e wt ⟨ut, rfl, hqt, hbt0⟩; have hbt : Below w5.heap.size w5 wt := below_step ((Below.refl _ _).drew) hbt0; obtain ⟨At, ct, rfl⟩ := hqt.form; have e0 := (HXK.out _ hbt).cell 0 rfl; have e1 := (HXK.out _ hbt).cell 1 rfl; have e2 := (HXK.out _ hbt).cell 2 rfl; have HBT := Lib.hid hbt; have HQT := Lib.hid hqt; clear hbt0 hqt hbt) | (go_simp; go_at_call 27; refine (HE.out _ _ _ HBT.out HQT.out).mono ?_; rintro e wz ⟨rfl, hbz0⟩; have HBZ := Lib.hid (below_step HBT.out hbz0); clear hbz0))
  all_goals
    go_wp2
    go_ret
    exact ⟨rfl, HB.out.trans (HBZ.out.mono HB.out.size)⟩
end Go.Proofs.YtifmcbhgoncgjaaDoor.fnExactFormatFooting
