/- The walk of FnExactFootMarks: it returns true at every argument. -/
import Derived.Test.YtifmcbhgoncgjaaSf3
import Derived.Test.YtifmcbhgoncgjaaIf3f
import Derived.Test.YtifmcbhgoncgjaaTzFooting
import Derived.Test.YtifmcbhgoncgjaaTtFooting
import Derived.Test.YtifmcbhgoncgjaaTeFooting
import Derived.Test.YtifmcbhgoncgjaaTmFooting
import Derived.Test.YtifmcbhgoncgjaaTeIntS
import Derived.Test.YtifmcbhgoncgjaaTmIntS
import Derived.Test.YtifmcbhgoncgjaaThIntS
import Derived.Deep.RegionWith
import Derived.Deep.DeepCutAuto
namespace Go.Proofs.Ytifmcbhgoncgjaa.fnExactFootMarks
open Go.RowKit Go.Proofs.Ytifmcbhgoncgjaa
set_option linter.unusedVariables false

theorem HCNT (x : DFooting) : 1 + cntRow Rep.int (fmL x) ≤ 1000000000 := by
  rw [cntRow_int]
  have := fmL_len x
  omega
set_option maxHeartbeats 8000000 in
theorem walk (w : World) (x : DFooting) (F : Addr → Prop) (v : Value) (i0 : I64 x.Syllables) (hv : RowRd rFoot false w v x.Feet F) (i2 : I64 x.Main) :
    Calls Try.prog 7 #[.agg #[.int .i64 x.Syllables, v, .int .i64 x.Main]] w fun e w' => e = .returned (.bool true) ∧ Below w.heap.size w w' := by
  obtain ⟨A, cap, rfl⟩ := hv.form
  have HV := Lib.hid hv.tight
  clear hv
  have HB := Lib.hid (Below.refl w.heap.size w)
  have HI0 := Lib.hid i0
  have HI2 := Lib.hid i2
  go_enter Try.func7, Try.ntmps7
  have HC : Hid (∀ W, Below w.heap.size w W → Calls Try.prog 9 #[.agg #[.int .i64 x.Syllables, .slice A x.Feet.length cap, .int .i64 x.Main], .int .i64 1048576] W fun e w' => (∃ z : Int, e = .returned (.int .i64 z) ∧ (z < 0 ∨ z + (rFooting.sz x : Nat) = 1048576 ∧ 0 ≤ z)) ∧ Below W.heap.size W w') := fun W hW => szFooting_any x _ 1048576 _ W (by omega) (by omega) (HV.out.kept hW)
  go_wp2_with fail
  refine (HC.out _ (by first | exact Below.refl _ _ | exact (Below.refl _ _).alloc (Nat.le_refl _) _ | exact (Below.refl _ _).drew)).mono ?_
  rintro e w1 ⟨⟨z, rfl, hz⟩, hb⟩
  have hbn : Below w.heap.size w w1 := below_step (by first | exact Below.refl _ _ | exact (Below.refl _ _).alloc (Nat.le_refl _) _ | exact (Below.refl _ _).drew) hb
  have hs1 : Hid (w.heap.size ≤ w1.heap.size) := hbn.size
  replace HV := Lib.hid (HV.out.kept hbn)
  replace HB := Lib.hid (HB.out.trans (hbn.mono HB.out.size))
  have HA : Hid (InC w1 w.heap.size #[.int .i64 x.Syllables, .slice A x.Feet.length cap, .int .i64 x.Main] 24) := (hb.block _ (by simp)).trans (heap_alloc_new _ _)
  have HA0 : Hid (w.heap.size < w1.heap.size) := (HA.out.lt : _ < _)
  clear hb hbn HC
  by_cases hneg : z < 0
  case pos =>
    go_wp2
    go_ret
    exact ⟨rfl, HB.out⟩
  have HSZ : Hid (rFooting.sz x ≤ 1048576) := by unfold Hid; have := hz.resolve_left hneg; omega
  have HFL : Hid (x.Feet.length ≤ 1048576) := by unfold Hid; have h1 := HSZ.out; rw [rFooting_sz] at h1; have := szRow_len rFoot x.Feet; omega
  clear hz
  have HC : Hid (∀ W, Below w1.heap.size w1 W → Calls Try.prog 11 #[.agg #[.int .i64 x.Syllables, .slice A x.Feet.length cap, .int .i64 x.Main]] W fun e w' => ∃ u, e = .returned (.agg #[.int .i64 x.Syllables, u, .int .i64 x.Main]) ∧ RowRd rFoot true w' u x.Feet (fun a => W.heap.size ≤ a.block) ∧ Below W.heap.size W w') := fun W hW => toFooting_any x _ W _ (HV.out.kept hW) HSZ.out
  have bHA0 := HA.out.cell 0 rfl
  have bHA1 := HA.out.cell 1 rfl
  have bHA2 := HA.out.cell 2 rfl
  go_wp2_with fail
  refine (HC.out _ (by first | exact Below.refl _ _ | exact (Below.refl _ _).alloc (Nat.le_refl _) _ | exact (Below.refl _ _).drew)).mono ?_
  rintro e w2 ⟨u1, rfl, hq, hb⟩
  clear bHA0 bHA1 bHA2
  have hbn : Below w1.heap.size w1 w2 := below_step (by first | exact Below.refl _ _ | exact (Below.refl _ _).alloc (Nat.le_refl _) _ | exact (Below.refl _ _).drew) hb
  have hs2 : Hid (w1.heap.size ≤ w2.heap.size) := hbn.size
  replace HV := Lib.hid (HV.out.kept hbn)
  replace HA := Lib.hid (HA.out.kept hbn)
  replace HB := Lib.hid (HB.out.trans (hbn.mono HB.out.size))
  obtain ⟨Au1, qu1, rfl⟩ := hq.form
  have Hu1 := Lib.hid hq.tight
  clear hb hbn HC hq
  have HC : Hid (∀ W, Below w2.heap.size w2 W → Calls Try.prog 28 #[.agg #[.int .i64 x.Syllables, .slice Au1 x.Feet.length qu1, .int .i64 x.Main]] W (OwnPost Rep.int (fmL x) W)) := fun W hW => specFM_any x _ _ W HFL.out HI0.out HI2.out (Hu1.out.kept hW).weak
  have bHA0 := HA.out.cell 0 rfl
  have bHA1 := HA.out.cell 1 rfl
  have bHA2 := HA.out.cell 2 rfl
  go_wp2_with fail
  refine (HC.out _ (by first | exact Below.refl _ _ | exact (Below.refl _ _).alloc (Nat.le_refl _) _ | exact (Below.refl _ _).drew)).mono ?_
  rintro e w3 ⟨g0, rfl, hq, hb⟩
  clear bHA0 bHA1 bHA2
  have hbn : Below w2.heap.size w2 w3 := below_step (by first | exact Below.refl _ _ | exact (Below.refl _ _).alloc (Nat.le_refl _) _ | exact (Below.refl _ _).drew) hb
  have hs3 : Hid (w2.heap.size ≤ w3.heap.size) := hbn.size
  replace HV := Lib.hid (HV.out.kept hbn)
  replace HA := Lib.hid (HA.out.kept hbn)
  replace Hu1 := Lib.hid (Hu1.out.kept hbn)
  replace HB := Lib.hid (HB.out.trans (hbn.mono HB.out.size))
  have Hg0 := Lib.hid (hq.tight.mono (G := fun a => w2.heap.size ≤ a.block ∧ a.block < w3.heap.size) (fun a ha => ⟨Nat.le_trans (Below.size (B := w2.heap.size) (w := w2) (by first | exact Below.refl _ _ | exact (Below.refl _ _).alloc (Nat.le_refl _) _ | exact (Below.refl _ _).drew)) ha.1, ha.2⟩))
  clear hb hbn HC hq
  have HC : Hid (∀ W, Below w3.heap.size w3 W → Calls Try.prog 11 #[.agg #[.int .i64 x.Syllables, .slice A x.Feet.length cap, .int .i64 x.Main]] W fun e w' => ∃ u, e = .returned (.agg #[.int .i64 x.Syllables, u, .int .i64 x.Main]) ∧ RowRd rFoot true w' u x.Feet (fun a => W.heap.size ≤ a.block) ∧ Below W.heap.size W w') := fun W hW => toFooting_any x _ W _ (HV.out.kept hW) HSZ.out
  have bHA0 := HA.out.cell 0 rfl
  have bHA1 := HA.out.cell 1 rfl
  have bHA2 := HA.out.cell 2 rfl
  go_wp2_with fail
  refine (HC.out _ (by first | exact Below.refl _ _ | exact (Below.refl _ _).alloc (Nat.le_refl _) _ | exact (Below.refl _ _).drew)).mono ?_
  rintro e w4 ⟨x0, rfl, hq, hb⟩
  clear bHA0 bHA1 bHA2
  have hbn : Below w3.heap.size w3 w4 := below_step (by first | exact Below.refl _ _ | exact (Below.refl _ _).alloc (Nat.le_refl _) _ | exact (Below.refl _ _).drew) hb
  have hs4 : Hid (w3.heap.size ≤ w4.heap.size) := hbn.size
  replace HV := Lib.hid (HV.out.kept hbn)
  replace HA := Lib.hid (HA.out.kept hbn)
  replace Hu1 := Lib.hid (Hu1.out.kept hbn)
  replace Hg0 := Lib.hid (Hg0.out.kept hbn)
  replace HB := Lib.hid (HB.out.trans (hbn.mono HB.out.size))
  obtain ⟨Ax0, qx0, rfl⟩ := hq.form
  have Hx0 := Lib.hid hq.tight
  clear hb hbn HC hq
  have HC : Hid (∀ W, Below w4.heap.size w4 W → Calls Try.prog 29 #[.agg #[.int .i64 x.Syllables, .slice Ax0 x.Feet.length qx0, .int .i64 x.Main]] W (OwnPost Rep.int (fmL x) W)) := fun W hW => implFM_any x _ _ W HFL.out HI0.out HI2.out (Hx0.out.kept hW).weak
  have bHA0 := HA.out.cell 0 rfl
  have bHA1 := HA.out.cell 1 rfl
  have bHA2 := HA.out.cell 2 rfl
  go_wp2_with fail
  refine (HC.out _ (by first | exact Below.refl _ _ | exact (Below.refl _ _).alloc (Nat.le_refl _) _ | exact (Below.refl _ _).drew)).mono ?_
  rintro e w5 ⟨g1, rfl, hq, hb⟩
  clear bHA0 bHA1 bHA2
  have hbn : Below w4.heap.size w4 w5 := below_step (by first | exact Below.refl _ _ | exact (Below.refl _ _).alloc (Nat.le_refl _) _ | exact (Below.refl _ _).drew) hb
  have hs5 : Hid (w4.heap.size ≤ w5.heap.size) := hbn.size
  replace HV := Lib.hid (HV.out.kept hbn)
  replace HA := Lib.hid (HA.out.kept hbn)
  replace Hu1 := Lib.hid (Hu1.out.kept hbn)
  replace Hg0 := Lib.hid (Hg0.out.kept hbn)
  replace Hx0 := Lib.hid (Hx0.out.kept hbn)
  replace HB := Lib.hid (HB.out.trans (hbn.mono HB.out.size))
  have Hg1 := Lib.hid (hq.tight.mono (G := fun a => w4.heap.size ≤ a.block ∧ a.block < w5.heap.size) (fun a ha => ⟨Nat.le_trans (Below.size (B := w4.heap.size) (w := w4) (by first | exact Below.refl _ _ | exact (Below.refl _ _).alloc (Nat.le_refl _) _ | exact (Below.refl _ _).drew)) ha.1, ha.2⟩))
  have HX : Hid (InC w5 w4.heap.size #[.int .i64 x.Syllables, .slice Ax0 x.Feet.length qx0, .int .i64 x.Main] 29) := (hb.block _ (by simp)).trans (heap_alloc_new _ _)
  clear hb hbn HC hq
  have HC : Hid (∀ W, Below w5.heap.size w5 W → Calls Try.prog 16 #[g1, g0] W fun e w' => e = .returned (.bool true) ∧ Below W.heap.size W w') := fun W hW => eqIntS_any _ _ (fmL x) _ _ W (Hg1.out.kept hW).weak (Hg0.out.kept hW).weak
  have bHA0 := HA.out.cell 0 rfl
  have bHA1 := HA.out.cell 1 rfl
  have bHA2 := HA.out.cell 2 rfl
  have bHX0 := HX.out.cell 0 rfl
  have bHX1 := HX.out.cell 1 rfl
  have bHX2 := HX.out.cell 2 rfl
  go_wp2_with fail
  refine (HC.out _ (by first | exact Below.refl _ _ | exact (Below.refl _ _).alloc (Nat.le_refl _) _ | exact (Below.refl _ _).drew)).mono ?_
  rintro e w6 ⟨rfl, hb⟩
  clear bHA0 bHA1 bHA2 bHX0 bHX1 bHX2
  have hbn : Below w5.heap.size w5 w6 := below_step (by first | exact Below.refl _ _ | exact (Below.refl _ _).alloc (Nat.le_refl _) _ | exact (Below.refl _ _).drew) hb
  have hs6 : Hid (w5.heap.size ≤ w6.heap.size) := hbn.size
  replace HV := Lib.hid (HV.out.kept hbn)
  replace HA := Lib.hid (HA.out.kept hbn)
  replace Hu1 := Lib.hid (Hu1.out.kept hbn)
  replace Hg0 := Lib.hid (Hg0.out.kept hbn)
  replace Hx0 := Lib.hid (Hx0.out.kept hbn)
  replace Hg1 := Lib.hid (Hg1.out.kept hbn)
  replace HX := Lib.hid (HX.out.kept hbn)
  replace HB := Lib.hid (HB.out.trans (hbn.mono HB.out.size))
  clear hb hbn HC
  have HT : Hid (∀ W, Below w6.heap.size w6 W → Calls Try.prog 11 #[.agg #[.int .i64 x.Syllables, .slice A x.Feet.length cap, .int .i64 x.Main]] W fun e w' => ∃ u, e = .returned (.agg #[.int .i64 x.Syllables, u, .int .i64 x.Main]) ∧ RowRd rFoot true w' u x.Feet (fun a => W.heap.size ≤ a.block) ∧ Below W.heap.size W w') := fun W hW => toFooting_any x _ W _ (HV.out.kept hW) HSZ.out
  have HE : Hid (∀ (W : World) (u : Value) (G : Addr → Prop), Below w6.heap.size w6 W → RowRd rFoot true W u x.Feet G → Calls Try.prog 13 #[.agg #[.int .i64 x.Syllables, .slice Ax0 x.Feet.length qx0, .int .i64 x.Main], .agg #[.int .i64 x.Syllables, u, .int .i64 x.Main]] W fun e w' => e = .returned (.bool true) ∧ Below W.heap.size W w') := fun W u G hW hu => eqFooting_any x _ _ W _ _ (Hx0.out.kept hW).weak hu.weak
  have HXK : Hid (∀ W : World, Below w6.heap.size w6 W → InC W _ #[.int .i64 x.Syllables, .slice Ax0 x.Feet.length qx0, .int .i64 x.Main] 29) := fun W hW => HX.out.kept hW
  have bHA0 := HA.out.cell 0 rfl
  have bHA1 := HA.out.cell 1 rfl
  have bHA2 := HA.out.cell 2 rfl
  have bHX0 := HX.out.cell 0 rfl
  have bHX1 := HX.out.cell 1 rfl
  have bHX2 := HX.out.cell 2 rfl
  go_upto_region 10 with fail
  go_cut [31] (fun b wx => b = .bool false ∧ Below w6.heap.size w6 wx)
  case first =>
    go_region_with (first | (go_simp; go_at_call 11; refine (HT.out _ ((Below.refl _ _).drew)).mono ?_; rintro e wt ⟨ut, rfl, hqt, hbt0⟩; have hbt : Below w6.heap.size w6 wt := below_step ((Below.refl _ _).drew) hbt0; obtain ⟨At, ct, rfl⟩ := hqt.form; have e0 := (HXK.out _ hbt).cell 0 rfl; have e1 := (HXK.out _ hbt).cell 1 rfl; have e2 := (HXK.out _ hbt).cell 2 rfl; have HBT := Lib.hid hbt; have HQT := Lib.hid hqt; clear hbt0 hqt hbt) | (go_simp; go_at_call 13; refine (HE.out _ _ _ HBT.out HQT.out).mono ?_; rintro e wz ⟨rfl, hbz0⟩; have HBZ := Lib.hid (below_step HBT.out hbz0); clear hbz0))
    all_goals
      go_wp2_with fail
      go_meet
      exact ⟨rfl, HBZ.out⟩
  case rest =>
  obtain ⟨rfl, hbn⟩ := hcut
  clear HT HE HXK
  clear bHA0 bHA1 bHA2 bHX0 bHX1 bHX2
  generalize wc = w7 at *
  have hs7 : Hid (w6.heap.size ≤ w7.heap.size) := hbn.size
  replace HV := Lib.hid (HV.out.kept hbn)
  replace HA := Lib.hid (HA.out.kept hbn)
  replace Hu1 := Lib.hid (Hu1.out.kept hbn)
  replace Hg0 := Lib.hid (Hg0.out.kept hbn)
  replace Hx0 := Lib.hid (Hx0.out.kept hbn)
  replace Hg1 := Lib.hid (Hg1.out.kept hbn)
  replace HX := Lib.hid (HX.out.kept hbn)
  replace HB := Lib.hid (HB.out.trans (hbn.mono HB.out.size))
  clear hbn
  have HCX : Hid (1 + cntRow rFoot x.Feet ≤ 1000000000) := by unfold Hid; rw [cntRow_foot]; have := HFL.out; omega
  have HCG : Hid (1 + cntRow Rep.int (fmL x) ≤ 1000000000) := HCNT x
  obtain ⟨c1, hc1⟩ : ∃ q : Nat, 1 + cntRow rFoot x.Feet = q := ⟨_, rfl⟩
  have hnn1 : ¬ ((c1 : Nat) : Int) < 0 := by omega
  have HM := Lib.hid (markFooting_any x _ 1 1 rfl w3.heap.size _ w7 (by have := hs1.out; have := hs2.out; have := hs3.out; have := hs4.out; have := hs5.out; have := hs6.out; have := hs7.out; omega) (fun a ha => by have := hs1.out; have := hs2.out; have := hs3.out; have := hs4.out; have := hs5.out; have := hs6.out; have := hs7.out; omega) HCX.out (Nat.le_refl 1) Hx0.out)
  rw [hc1] at HM
  have bHA0 := HA.out.cell 0 rfl
  have bHA1 := HA.out.cell 1 rfl
  have bHA2 := HA.out.cell 2 rfl
  have bHX0 := HX.out.cell 0 rfl
  have bHX1 := HX.out.cell 1 rfl
  have bHX2 := HX.out.cell 2 rfl
  go_wp2_with fail
  refine HM.out.mono ?_
  rintro e w8 ⟨rfl, hq, hu, hb⟩
  have hs8 : Hid (w7.heap.size ≤ w8.heap.size) := hb.size
  clear bHA0 bHA1 bHA2 bHX0 bHX1 bHX2
  replace HV := Lib.hid (HV.out.apart hu (fun a ha hf => by have := hs1.out; have := hs2.out; have := hs3.out; have := hs4.out; have := hs5.out; have := hs6.out; have := hs7.out; have := hs8.out; omega))
  replace HA := Lib.hid (HA.out.keptB hb (by have := hs1.out; have := hs2.out; have := hs3.out; have := hs4.out; have := hs5.out; have := hs6.out; have := hs7.out; have := hs8.out; have := HA0.out; omega))
  replace Hu1 := Lib.hid (Hu1.out.apart hu (fun a ha hf => by have := hs1.out; have := hs2.out; have := hs3.out; have := hs4.out; have := hs5.out; have := hs6.out; have := hs7.out; have := hs8.out; omega))
  replace Hg0 := Lib.hid (Hg0.out.apart hu (fun a ha hf => by have := hs1.out; have := hs2.out; have := hs3.out; have := hs4.out; have := hs5.out; have := hs6.out; have := hs7.out; have := hs8.out; omega))
  replace Hx0 := Lib.hid hq
  replace Hg1 := Lib.hid (Hg1.out.apart hu (fun a ha hf => by have := hs1.out; have := hs2.out; have := hs3.out; have := hs4.out; have := hs5.out; have := hs6.out; have := hs7.out; have := hs8.out; omega))
  clear HX
  replace HB := Lib.hid (HB.out.trans (hb.mono (by have := hs1.out; have := hs2.out; have := hs3.out; have := hs4.out; have := hs5.out; have := hs6.out; have := hs7.out; have := hs8.out; omega)))
  clear HM hq hu hb
  have HC : Hid (∀ W, Below w8.heap.size w8 W → Calls Try.prog 16 #[g1, g0] W fun e w' => e = .returned (.bool true) ∧ Below W.heap.size W w') := fun W hW => eqIntS_any _ _ (fmL x) _ _ W (Hg1.out.kept hW).weak (Hg0.out.kept hW).weak
  have bHA0 := HA.out.cell 0 rfl
  have bHA1 := HA.out.cell 1 rfl
  have bHA2 := HA.out.cell 2 rfl
  go_wp2_with fail
  refine (HC.out _ (by first | exact Below.refl _ _ | exact (Below.refl _ _).alloc (Nat.le_refl _) _ | exact (Below.refl _ _).drew)).mono ?_
  rintro e w9 ⟨rfl, hb⟩
  clear bHA0 bHA1 bHA2
  have hbn : Below w8.heap.size w8 w9 := below_step (by first | exact Below.refl _ _ | exact (Below.refl _ _).alloc (Nat.le_refl _) _ | exact (Below.refl _ _).drew) hb
  have hs9 : Hid (w8.heap.size ≤ w9.heap.size) := hbn.size
  replace HV := Lib.hid (HV.out.kept hbn)
  replace HA := Lib.hid (HA.out.kept hbn)
  replace Hu1 := Lib.hid (Hu1.out.kept hbn)
  replace Hg0 := Lib.hid (Hg0.out.kept hbn)
  replace Hx0 := Lib.hid (Hx0.out.kept hbn)
  replace Hg1 := Lib.hid (Hg1.out.kept hbn)
  replace HB := Lib.hid (HB.out.trans (hbn.mono HB.out.size))
  clear hb hbn HC
  have bHA0 := HA.out.cell 0 rfl
  have bHA1 := HA.out.cell 1 rfl
  have bHA2 := HA.out.cell 2 rfl
  obtain ⟨c2, hc2⟩ : ∃ q : Nat, 1 + cntRow Rep.int (fmL x) = q := ⟨_, rfl⟩
  have hnn2 : ¬ ((c2 : Nat) : Int) < 0 := by omega
  have HM := Lib.hid (markIntS_any g1 (fmL x) 1 1 rfl w4.heap.size _ w9 (fun a ha => by have := hs1.out; have := hs2.out; have := hs3.out; have := hs4.out; have := hs5.out; have := hs6.out; have := hs7.out; have := hs8.out; have := hs9.out; omega) HCG.out (Nat.le_refl 1) Hg1.out)
  rw [hc2] at HM
  go_wp2_with fail
  refine HM.out.mono ?_
  rintro e w10 ⟨rfl, hq, hu, hb⟩
  have hs10 : Hid (w9.heap.size ≤ w10.heap.size) := hb.size
  replace HV := Lib.hid (HV.out.apart hu (fun a ha hf => by have := hs1.out; have := hs2.out; have := hs3.out; have := hs4.out; have := hs5.out; have := hs6.out; have := hs7.out; have := hs8.out; have := hs9.out; have := hs10.out; omega))
  replace HA := Lib.hid (HA.out.keptB hb (by have := hs1.out; have := hs2.out; have := hs3.out; have := hs4.out; have := hs5.out; have := hs6.out; have := hs7.out; have := hs8.out; have := hs9.out; have := hs10.out; have := HA0.out; omega))
  replace Hu1 := Lib.hid (Hu1.out.apart hu (fun a ha hf => by have := hs1.out; have := hs2.out; have := hs3.out; have := hs4.out; have := hs5.out; have := hs6.out; have := hs7.out; have := hs8.out; have := hs9.out; have := hs10.out; omega))
  replace Hg0 := Lib.hid (Hg0.out.apart hu (fun a ha hf => by have := hs1.out; have := hs2.out; have := hs3.out; have := hs4.out; have := hs5.out; have := hs6.out; have := hs7.out; have := hs8.out; have := hs9.out; have := hs10.out; omega))
  replace Hx0 := Lib.hid (Hx0.out.apart hu (fun a ha hf => by have := hs1.out; have := hs2.out; have := hs3.out; have := hs4.out; have := hs5.out; have := hs6.out; have := hs7.out; have := hs8.out; have := hs9.out; have := hs10.out; omega))
  replace Hg1 := Lib.hid hq
  replace HB := Lib.hid (HB.out.trans (hb.mono (by have := hs1.out; have := hs2.out; have := hs3.out; have := hs4.out; have := hs5.out; have := hs6.out; have := hs7.out; have := hs8.out; have := hs9.out; have := hs10.out; omega)))
  clear HM hq hu hb
  clear bHA0 bHA1 bHA2
  have HC : Hid (∀ W, Below w10.heap.size w10 W → Calls Try.prog 19 #[g1, .int .i64 1] W fun e w' => e = .returned (.int .i64 ((c2 : Nat) : Int)) ∧ Below W.heap.size W w') := fun W hW => by have := heldIntS_any g1 (fmL x) 1 1 rfl _ W HCG.out (Nat.le_refl 1) (Hg1.out.kept hW).weak; rw [hc2] at this; exact this
  have bHA0 := HA.out.cell 0 rfl
  have bHA1 := HA.out.cell 1 rfl
  have bHA2 := HA.out.cell 2 rfl
  go_wp2_with fail
  refine (HC.out _ (by first | exact Below.refl _ _ | exact (Below.refl _ _).alloc (Nat.le_refl _) _ | exact (Below.refl _ _).drew)).mono ?_
  rintro e w11 ⟨rfl, hb⟩
  clear bHA0 bHA1 bHA2
  have hbn : Below w10.heap.size w10 w11 := below_step (by first | exact Below.refl _ _ | exact (Below.refl _ _).alloc (Nat.le_refl _) _ | exact (Below.refl _ _).drew) hb
  have hs11 : Hid (w10.heap.size ≤ w11.heap.size) := hbn.size
  replace HV := Lib.hid (HV.out.kept hbn)
  replace HA := Lib.hid (HA.out.kept hbn)
  replace Hu1 := Lib.hid (Hu1.out.kept hbn)
  replace Hg0 := Lib.hid (Hg0.out.kept hbn)
  replace Hx0 := Lib.hid (Hx0.out.kept hbn)
  replace Hg1 := Lib.hid (Hg1.out.kept hbn)
  replace HB := Lib.hid (HB.out.trans (hbn.mono HB.out.size))
  clear hb hbn HC
  have HC : Hid (∀ W, Below w11.heap.size w11 W → Calls Try.prog 11 #[.agg #[.int .i64 x.Syllables, .slice A x.Feet.length cap, .int .i64 x.Main]] W fun e w' => ∃ u, e = .returned (.agg #[.int .i64 x.Syllables, u, .int .i64 x.Main]) ∧ RowRd rFoot true w' u x.Feet (fun a => W.heap.size ≤ a.block) ∧ Below W.heap.size W w') := fun W hW => toFooting_any x _ W _ (HV.out.kept hW) HSZ.out
  have bHA0 := HA.out.cell 0 rfl
  have bHA1 := HA.out.cell 1 rfl
  have bHA2 := HA.out.cell 2 rfl
  go_wp2_with fail
  refine (HC.out _ (by first | exact Below.refl _ _ | exact (Below.refl _ _).alloc (Nat.le_refl _) _ | exact (Below.refl _ _).drew)).mono ?_
  rintro e w12 ⟨u3, rfl, hq, hb⟩
  clear bHA0 bHA1 bHA2
  have hbn : Below w11.heap.size w11 w12 := below_step (by first | exact Below.refl _ _ | exact (Below.refl _ _).alloc (Nat.le_refl _) _ | exact (Below.refl _ _).drew) hb
  have hs12 : Hid (w11.heap.size ≤ w12.heap.size) := hbn.size
  replace HV := Lib.hid (HV.out.kept hbn)
  replace HA := Lib.hid (HA.out.kept hbn)
  replace Hu1 := Lib.hid (Hu1.out.kept hbn)
  replace Hg0 := Lib.hid (Hg0.out.kept hbn)
  replace Hx0 := Lib.hid (Hx0.out.kept hbn)
  replace Hg1 := Lib.hid (Hg1.out.kept hbn)
  replace HB := Lib.hid (HB.out.trans (hbn.mono HB.out.size))
  have Hu3 := Lib.hid hq.tight
  clear hb hbn HC hq
  have HC : Hid (∀ W, Below w12.heap.size w12 W → Calls Try.prog 29 #[.agg #[.int .i64 x.Syllables, u3, .int .i64 x.Main]] W (OwnPost Rep.int (fmL x) W)) := fun W hW => implFM_any x _ _ W HFL.out HI0.out HI2.out (Hu3.out.kept hW).weak
  have bHA0 := HA.out.cell 0 rfl
  have bHA1 := HA.out.cell 1 rfl
  have bHA2 := HA.out.cell 2 rfl
  go_wp2_with fail
  refine (HC.out _ (by first | exact Below.refl _ _ | exact (Below.refl _ _).alloc (Nat.le_refl _) _ | exact (Below.refl _ _).drew)).mono ?_
  rintro e w13 ⟨g2, rfl, hq, hb⟩
  clear bHA0 bHA1 bHA2
  have hbn : Below w12.heap.size w12 w13 := below_step (by first | exact Below.refl _ _ | exact (Below.refl _ _).alloc (Nat.le_refl _) _ | exact (Below.refl _ _).drew) hb
  have hs13 : Hid (w12.heap.size ≤ w13.heap.size) := hbn.size
  replace HV := Lib.hid (HV.out.kept hbn)
  replace HA := Lib.hid (HA.out.kept hbn)
  replace Hu1 := Lib.hid (Hu1.out.kept hbn)
  replace Hg0 := Lib.hid (Hg0.out.kept hbn)
  replace Hx0 := Lib.hid (Hx0.out.kept hbn)
  replace Hg1 := Lib.hid (Hg1.out.kept hbn)
  replace Hu3 := Lib.hid (Hu3.out.kept hbn)
  replace HB := Lib.hid (HB.out.trans (hbn.mono HB.out.size))
  have Hg2 := Lib.hid hq.tight
  clear hb hbn HC hq
  have HC : Hid (∀ W, Below w13.heap.size w13 W → Calls Try.prog 16 #[g2, g0] W fun e w' => e = .returned (.bool true) ∧ Below W.heap.size W w') := fun W hW => eqIntS_any _ _ (fmL x) _ _ W (Hg2.out.kept hW).weak (Hg0.out.kept hW).weak
  have bHA0 := HA.out.cell 0 rfl
  have bHA1 := HA.out.cell 1 rfl
  have bHA2 := HA.out.cell 2 rfl
  go_wp2_with fail
  refine (HC.out _ (by first | exact Below.refl _ _ | exact (Below.refl _ _).alloc (Nat.le_refl _) _ | exact (Below.refl _ _).drew)).mono ?_
  rintro e w14 ⟨rfl, hb⟩
  clear bHA0 bHA1 bHA2
  have hbn : Below w13.heap.size w13 w14 := below_step (by first | exact Below.refl _ _ | exact (Below.refl _ _).alloc (Nat.le_refl _) _ | exact (Below.refl _ _).drew) hb
  have hs14 : Hid (w13.heap.size ≤ w14.heap.size) := hbn.size
  replace HV := Lib.hid (HV.out.kept hbn)
  replace HA := Lib.hid (HA.out.kept hbn)
  replace Hu1 := Lib.hid (Hu1.out.kept hbn)
  replace Hg0 := Lib.hid (Hg0.out.kept hbn)
  replace Hx0 := Lib.hid (Hx0.out.kept hbn)
  replace Hg1 := Lib.hid (Hg1.out.kept hbn)
  replace Hu3 := Lib.hid (Hu3.out.kept hbn)
  replace Hg2 := Lib.hid (Hg2.out.kept hbn)
  replace HB := Lib.hid (HB.out.trans (hbn.mono HB.out.size))
  clear hb hbn HC
  have HC : Hid (∀ W, Below w14.heap.size w14 W → Calls Try.prog 19 #[g1, .int .i64 1] W fun e w' => e = .returned (.int .i64 ((c2 : Nat) : Int)) ∧ Below W.heap.size W w') := fun W hW => by have := heldIntS_any g1 (fmL x) 1 1 rfl _ W HCG.out (Nat.le_refl 1) (Hg1.out.kept hW).weak; rw [hc2] at this; exact this
  have bHA0 := HA.out.cell 0 rfl
  have bHA1 := HA.out.cell 1 rfl
  have bHA2 := HA.out.cell 2 rfl
  go_wp2_with fail
  refine (HC.out _ (by first | exact Below.refl _ _ | exact (Below.refl _ _).alloc (Nat.le_refl _) _ | exact (Below.refl _ _).drew)).mono ?_
  rintro e w15 ⟨rfl, hb⟩
  clear bHA0 bHA1 bHA2
  have hbn : Below w14.heap.size w14 w15 := below_step (by first | exact Below.refl _ _ | exact (Below.refl _ _).alloc (Nat.le_refl _) _ | exact (Below.refl _ _).drew) hb
  have hs15 : Hid (w14.heap.size ≤ w15.heap.size) := hbn.size
  replace HV := Lib.hid (HV.out.kept hbn)
  replace HA := Lib.hid (HA.out.kept hbn)
  replace Hu1 := Lib.hid (Hu1.out.kept hbn)
  replace Hg0 := Lib.hid (Hg0.out.kept hbn)
  replace Hx0 := Lib.hid (Hx0.out.kept hbn)
  replace Hg1 := Lib.hid (Hg1.out.kept hbn)
  replace Hu3 := Lib.hid (Hu3.out.kept hbn)
  replace Hg2 := Lib.hid (Hg2.out.kept hbn)
  replace HB := Lib.hid (HB.out.trans (hbn.mono HB.out.size))
  clear hb hbn HC
  go_wp2
  go_ret
  exact ⟨rfl, HB.out⟩
end Go.Proofs.Ytifmcbhgoncgjaa.fnExactFootMarks
