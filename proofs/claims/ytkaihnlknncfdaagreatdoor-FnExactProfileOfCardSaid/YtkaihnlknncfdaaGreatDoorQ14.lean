/- Merged: DistinctProfilesWalk N10 Cv Dec F1c Tf11 Mc3 Fm11 Ic3a. -/
import Derived.Test.YtkaihnlknncfdaaGreatDoorQ12
import Derived.Test.YtkaihnlknncfdaaGreatDoorQ13
import Derived.Test.YtkaihnlknncfdaaGreatDoorQ9
import Derived.Test.YtkaihnlknncfdaaGreatDoorQ10
import Derived.Test.YtkaihnlknncfdaaGreatDoorQ11
import Derived.Deep.RegionWith
import Derived.Deep.DeepCutAuto
import Derived.Test.YtkaihnlknncfdaaGreatDoorQ3
import Derived.Lib.SplitLaws
import Derived.Lib.Join
import Derived.Test.YtkaihnlknncfdaaGreatDoorQ1
import Derived.Lib.ItoaMem
import Derived.Lib.ItoaLen
import Derived.Test.YtkaihnlknncfdaaGreatDoorQ8
import Derived.Test.YtkaihnlknncfdaaGreatDoorQ4
import Derived.Test.YtkaihnlknncfdaaGreatDoorQ5
import Derived.BigRegion
import Derived.BigQuiet
import Derived.Deep.RegionLaw
/- The walk of FnExactDistinctProfiles: it returns true at every argument. -/
namespace Go.Proofs.YtkaihnlknncfdaaGreatDoor.fnExactDistinctProfiles
set_option maxRecDepth 100000
open Go.RowKit Go.Proofs.YtkaihnlknncfdaaGreatDoor M
set_option linter.unusedVariables false
set_option linter.unusedSimpArgs false

theorem distL_len (x : DTableau) : (distL x).length ≤ x.Rows.length := by
  have h := distTo_len x (rowsL x).length
  have h2 : (rowsL x).length ≤ x.Rows.length := by
    unfold rowsL
    split
    · rw [List.length_zip]; omega
    · simp
  unfold distL
  omega
set_option maxHeartbeats 16000000 in
theorem walk (w : World) (hT : FeatTab w) (x : DTableau) (F1 F2 F3 : Addr → Prop) (v1 v2 v3 : Value) (hv : TabRd false w v1 v2 v3 x F1 F2 F3) :
    Calls Tryz.prog 10 #[.agg #[.string x.Input, v1, v2, v3]] w fun e w' => e = .returned (.bool true) ∧ Below w.heap.size w w' := by
  obtain ⟨A1, c1, rfl⟩ := hv.names.form
  obtain ⟨A2, c2, rfl⟩ := hv.rows.form
  obtain ⟨A3, c3, rfl⟩ := hv.marks.form
  have HV := Lib.hid hv.tight
  have HFT := Lib.hid hT
  clear hv hT
  have HB := Lib.hid (Below.refl w.heap.size w)
  go_enter Tryz.func10, Tryz.ntmps10
  have HC : Hid (∀ W, Below w.heap.size w W → Calls Tryz.prog 12 #[.agg #[.string x.Input, .slice A1 x.Names.length c1, .slice A2 x.Rows.length c2, .slice A3 x.Marks.length c3], .int .i64 1048576] W fun e w' => (∃ z : Int, e = .returned (.int .i64 z) ∧ (z < 0 ∨ z + (rTableau.sz x : Nat) = 1048576 ∧ 0 ≤ z)) ∧ Below W.heap.size W w') := fun W hW => szTableau_any x _ _ _ 1048576 _ _ _ W (by omega) (by omega) (HV.out.kept hW)
  go_wp2_with fail
  refine (HC.out _ (by first | exact Below.refl _ _ | exact (Below.refl _ _).alloc (Nat.le_refl _) _ | exact (Below.refl _ _).drew)).mono ?_
  rintro e w1 ⟨⟨z, rfl, hz⟩, hb⟩
  have hbn : Below w.heap.size w w1 := below_step (by first | exact Below.refl _ _ | exact (Below.refl _ _).alloc (Nat.le_refl _) _ | exact (Below.refl _ _).drew) hb
  have hs1 : Hid (w.heap.size ≤ w1.heap.size) := hbn.size
  replace HV := Lib.hid (HV.out.kept hbn)
  replace HB := Lib.hid (HB.out.trans (hbn.mono HB.out.size))
  have HA : Hid (InC w1 w.heap.size #[.string x.Input, .slice A1 x.Names.length c1, .slice A2 x.Rows.length c2, .slice A3 x.Marks.length c3] 26) := (hb.block _ (by simp)).trans (heap_alloc_new _ _)
  have HA0 : Hid (w.heap.size < w1.heap.size) := (HA.out.lt : _ < _)
  clear hb hbn HC
  by_cases hneg : z < 0
  case pos =>
    go_wp2
    go_ret
    exact ⟨rfl, HB.out⟩
  have HSZ : Hid (rTableau.sz x ≤ 1048576) := by unfold Hid; have := hz.resolve_left hneg; omega
  clear hz
  have HC : Hid (∀ W, Below w1.heap.size w1 W → Calls Tryz.prog 14 #[.agg #[.string x.Input, .slice A1 x.Names.length c1, .slice A2 x.Rows.length c2, .slice A3 x.Marks.length c3]] W (TabPost x W)) := fun W hW => toTableau_any x _ _ _ _ _ _ W HSZ.out (HV.out.kept hW)
  have bHA0 := HA.out.cell 0 rfl
  have bHA1 := HA.out.cell 1 rfl
  have bHA2 := HA.out.cell 2 rfl
  have bHA3 := HA.out.cell 3 rfl
  go_wp2_with fail
  refine (HC.out _ (by first | exact Below.refl _ _ | exact (Below.refl _ _).alloc (Nat.le_refl _) _ | exact (Below.refl _ _).drew)).mono ?_
  rintro e w2 ⟨Au1, cu1, Au2, cu2, Au3, cu3, Gu1, Gu2, Gu3, rfl, hq, hg, hb⟩
  clear bHA0 bHA1 bHA2 bHA3
  have hbn : Below w1.heap.size w1 w2 := below_step (by first | exact Below.refl _ _ | exact (Below.refl _ _).alloc (Nat.le_refl _) _ | exact (Below.refl _ _).drew) hb
  have hs2 : Hid (w1.heap.size ≤ w2.heap.size) := hbn.size
  replace HV := Lib.hid (HV.out.kept hbn)
  replace HA := Lib.hid (HA.out.kept hbn)
  replace HB := Lib.hid (HB.out.trans (hbn.mono HB.out.size))
  have Hu := Lib.hid hq
  have Ru : Hid (∀ a, Gu1 a ∨ Gu2 a ∨ Gu3 a → w1.heap.size ≤ a.block ∧ a.block < w2.heap.size) := fun a ha => ⟨Nat.le_trans (Below.size (B := w1.heap.size) (w := w1) (by first | exact Below.refl _ _ | exact (Below.refl _ _).alloc (Nat.le_refl _) _ | exact (Below.refl _ _).drew)) (hg a ha).1, (hg a ha).2⟩
  clear hb hbn HC hq hg
  have HC : Hid (∀ W, Below w2.heap.size w2 W → Calls Tryz.prog 44 #[.agg #[.string x.Input, .slice Au1 x.Names.length cu1, .slice Au2 x.Rows.length cu2, .slice Au3 x.Marks.length cu3]] W (IntPost11 (distL x) W)) := fun W hW => specDist_any x Au1 cu1 Au2 cu2 Au3 cu3 _ _ _  W HSZ.out (Hu.out.kept hW).weak
  have bHA0 := HA.out.cell 0 rfl
  have bHA1 := HA.out.cell 1 rfl
  have bHA2 := HA.out.cell 2 rfl
  have bHA3 := HA.out.cell 3 rfl
  go_wp2_with fail
  refine (HC.out _ (by first | exact Below.refl _ _ | exact (Below.refl _ _).alloc (Nat.le_refl _) _ | exact (Below.refl _ _).drew)).mono ?_
  rintro e w3 ⟨g0, rfl, hq, hb⟩
  clear bHA0 bHA1 bHA2 bHA3
  have hbn : Below w2.heap.size w2 w3 := below_step (by first | exact Below.refl _ _ | exact (Below.refl _ _).alloc (Nat.le_refl _) _ | exact (Below.refl _ _).drew) hb
  have hs3 : Hid (w2.heap.size ≤ w3.heap.size) := hbn.size
  replace HV := Lib.hid (HV.out.kept hbn)
  replace HA := Lib.hid (HA.out.kept hbn)
  replace Hu := Lib.hid (Hu.out.kept hbn)
  replace HB := Lib.hid (HB.out.trans (hbn.mono HB.out.size))
  have Hg0 := Lib.hid (hq.tight.mono (G := fun a => w2.heap.size ≤ a.block ∧ a.block < w3.heap.size) (fun a ha => ⟨Nat.le_trans (Below.size (B := w2.heap.size) (w := w2) (by first | exact Below.refl _ _ | exact (Below.refl _ _).alloc (Nat.le_refl _) _ | exact (Below.refl _ _).drew)) ha.1, ha.2⟩))
  clear hb hbn HC hq
  clear Hu
  have HC : Hid (∀ W, Below w3.heap.size w3 W → Calls Tryz.prog 14 #[.agg #[.string x.Input, .slice A1 x.Names.length c1, .slice A2 x.Rows.length c2, .slice A3 x.Marks.length c3]] W (TabPost x W)) := fun W hW => toTableau_any x _ _ _ _ _ _ W HSZ.out (HV.out.kept hW)
  have bHA0 := HA.out.cell 0 rfl
  have bHA1 := HA.out.cell 1 rfl
  have bHA2 := HA.out.cell 2 rfl
  have bHA3 := HA.out.cell 3 rfl
  go_wp2_with fail
  refine (HC.out _ (by first | exact Below.refl _ _ | exact (Below.refl _ _).alloc (Nat.le_refl _) _ | exact (Below.refl _ _).drew)).mono ?_
  rintro e w4 ⟨Ax1, cx1, Ax2, cx2, Ax3, cx3, Gx1, Gx2, Gx3, rfl, hq, hg, hb⟩
  clear bHA0 bHA1 bHA2 bHA3
  have hbn : Below w3.heap.size w3 w4 := below_step (by first | exact Below.refl _ _ | exact (Below.refl _ _).alloc (Nat.le_refl _) _ | exact (Below.refl _ _).drew) hb
  have hs4 : Hid (w3.heap.size ≤ w4.heap.size) := hbn.size
  replace HV := Lib.hid (HV.out.kept hbn)
  replace HA := Lib.hid (HA.out.kept hbn)
  replace Hg0 := Lib.hid (Hg0.out.kept hbn)
  replace HB := Lib.hid (HB.out.trans (hbn.mono HB.out.size))
  have Hx := Lib.hid hq
  have Rx : Hid (∀ a, Gx1 a ∨ Gx2 a ∨ Gx3 a → w3.heap.size ≤ a.block ∧ a.block < w4.heap.size) := fun a ha => ⟨Nat.le_trans (Below.size (B := w3.heap.size) (w := w3) (by first | exact Below.refl _ _ | exact (Below.refl _ _).alloc (Nat.le_refl _) _ | exact (Below.refl _ _).drew)) (hg a ha).1, (hg a ha).2⟩
  clear hb hbn HC hq hg
  have HC : Hid (∀ W, Below w4.heap.size w4 W → Calls Tryz.prog 45 #[.agg #[.string x.Input, .slice Ax1 x.Names.length cx1, .slice Ax2 x.Rows.length cx2, .slice Ax3 x.Marks.length cx3]] W (IntPost11 (distL x) W)) := fun W hW => implDist_any x Ax1 cx1 Ax2 cx2 Ax3 cx3 _ _ _  W HSZ.out (Hx.out.kept hW).weak (feat_below HFT.out (HB.out.trans (hW.mono HB.out.size)))
  have bHA0 := HA.out.cell 0 rfl
  have bHA1 := HA.out.cell 1 rfl
  have bHA2 := HA.out.cell 2 rfl
  have bHA3 := HA.out.cell 3 rfl
  go_wp2_with fail
  refine (HC.out _ (by first | exact Below.refl _ _ | exact (Below.refl _ _).alloc (Nat.le_refl _) _ | exact (Below.refl _ _).drew)).mono ?_
  rintro e w5 ⟨g1, rfl, hq, hb⟩
  clear bHA0 bHA1 bHA2 bHA3
  have hbn : Below w4.heap.size w4 w5 := below_step (by first | exact Below.refl _ _ | exact (Below.refl _ _).alloc (Nat.le_refl _) _ | exact (Below.refl _ _).drew) hb
  have hs5 : Hid (w4.heap.size ≤ w5.heap.size) := hbn.size
  replace HV := Lib.hid (HV.out.kept hbn)
  replace HA := Lib.hid (HA.out.kept hbn)
  replace Hg0 := Lib.hid (Hg0.out.kept hbn)
  replace Hx := Lib.hid (Hx.out.kept hbn)
  replace HB := Lib.hid (HB.out.trans (hbn.mono HB.out.size))
  have Hg1 := Lib.hid (hq.tight.mono (G := fun a => w4.heap.size ≤ a.block ∧ a.block < w5.heap.size) (fun a ha => ⟨Nat.le_trans (Below.size (B := w4.heap.size) (w := w4) (by first | exact Below.refl _ _ | exact (Below.refl _ _).alloc (Nat.le_refl _) _ | exact (Below.refl _ _).drew)) ha.1, ha.2⟩))
  have HX : Hid (InC w5 w4.heap.size #[.string x.Input, .slice Ax1 x.Names.length cx1, .slice Ax2 x.Rows.length cx2, .slice Ax3 x.Marks.length cx3] 32) := (hb.block _ (by simp)).trans (heap_alloc_new _ _)
  clear hb hbn HC hq
  have HC : Hid (∀ W, Below w5.heap.size w5 W → Calls Tryz.prog 17 #[g1, g0] W fun e w' => e = .returned (.bool true) ∧ Below W.heap.size W w') := fun W hW => eqIntS_any _ _ (distL x) _ _ W (Hg1.out.kept hW).weak (Hg0.out.kept hW).weak
  have bHA0 := HA.out.cell 0 rfl
  have bHA1 := HA.out.cell 1 rfl
  have bHA2 := HA.out.cell 2 rfl
  have bHA3 := HA.out.cell 3 rfl
  have bHX0 := HX.out.cell 0 rfl
  have bHX1 := HX.out.cell 1 rfl
  have bHX2 := HX.out.cell 2 rfl
  have bHX3 := HX.out.cell 3 rfl
  go_wp2_with fail
  refine (HC.out _ (by first | exact Below.refl _ _ | exact (Below.refl _ _).alloc (Nat.le_refl _) _ | exact (Below.refl _ _).drew)).mono ?_
  rintro e w6 ⟨rfl, hb⟩
  clear bHA0 bHA1 bHA2 bHA3 bHX0 bHX1 bHX2 bHX3
  have hbn : Below w5.heap.size w5 w6 := below_step (by first | exact Below.refl _ _ | exact (Below.refl _ _).alloc (Nat.le_refl _) _ | exact (Below.refl _ _).drew) hb
  have hs6 : Hid (w5.heap.size ≤ w6.heap.size) := hbn.size
  replace HV := Lib.hid (HV.out.kept hbn)
  replace HA := Lib.hid (HA.out.kept hbn)
  replace Hg0 := Lib.hid (Hg0.out.kept hbn)
  replace Hx := Lib.hid (Hx.out.kept hbn)
  replace Hg1 := Lib.hid (Hg1.out.kept hbn)
  replace HX := Lib.hid (HX.out.kept hbn)
  replace HB := Lib.hid (HB.out.trans (hbn.mono HB.out.size))
  clear hb hbn HC
  have HTO : Hid (∀ W, Below w6.heap.size w6 W → Calls Tryz.prog 14 #[.agg #[.string x.Input, .slice A1 x.Names.length c1, .slice A2 x.Rows.length c2, .slice A3 x.Marks.length c3]] W (TabPost x W)) := fun W hW => toTableau_any x _ _ _ _ _ _ W HSZ.out (HV.out.kept hW)
  have HEQ : Hid (∀ (W : World) (u1 u2 u3 : Value) (G1 G2 G3 : Addr → Prop), Below w6.heap.size w6 W → TabRd true W u1 u2 u3 x G1 G2 G3 → Calls Tryz.prog 18 #[.agg #[.string x.Input, .slice Ax1 x.Names.length cx1, .slice Ax2 x.Rows.length cx2, .slice Ax3 x.Marks.length cx3], .agg #[.string x.Input, u1, u2, u3]] W fun e w' => e = .returned (.bool true) ∧ Below W.heap.size W w') := fun W u1 u2 u3 G1 G2 G3 hW hu => eqTableau_any x _ _ _ _ _ _ _ _ _ _ _ _ W (Hx.out.kept hW).weak hu.weak
  have HXK : Hid (∀ W : World, Below w6.heap.size w6 W → InC W _ #[.string x.Input, .slice Ax1 x.Names.length cx1, .slice Ax2 x.Rows.length cx2, .slice Ax3 x.Marks.length cx3] 32) := fun W hW => HX.out.kept hW
  have bHA0 := HA.out.cell 0 rfl
  have bHA1 := HA.out.cell 1 rfl
  have bHA2 := HA.out.cell 2 rfl
  have bHA3 := HA.out.cell 3 rfl
  have bHX0 := HX.out.cell 0 rfl
  have bHX1 := HX.out.cell 1 rfl
  have bHX2 := HX.out.cell 2 rfl
  have bHX3 := HX.out.cell 3 rfl
  go_upto_region 10 with fail
  go_cut [31] (fun b wx => b = .bool false ∧ Below w6.heap.size w6 wx)
  case first =>
    go_region_with (first | (go_simp; go_at_call 14; refine (HTO.out _ ((Below.refl _ _).drew)).mono ?_; rintro e wt ⟨At1, ct1, At2, ct2, At3, ct3, T1, T2, T3, rfl, hqt, hgt, hbt0⟩; have hbt : Below w6.heap.size w6 wt := below_step ((Below.refl _ _).drew) hbt0; have e0 := (HXK.out _ hbt).cell 0 rfl; have e1 := (HXK.out _ hbt).cell 1 rfl; have e2 := (HXK.out _ hbt).cell 2 rfl; have e3 := (HXK.out _ hbt).cell 3 rfl; have HBT := Lib.hid hbt; have HQT := Lib.hid hqt; clear hbt0 hqt hgt hbt) | (go_simp; go_at_call 18; refine (HEQ.out _ _ _ _ _ _ _ HBT.out HQT.out).mono ?_; rintro e wz ⟨rfl, hbz0⟩; have HBZ := Lib.hid (below_step HBT.out hbz0); clear hbz0))
    all_goals
      go_wp2_with fail
      go_meet
      exact ⟨rfl, HBZ.out⟩
  case rest =>
  obtain ⟨rfl, hbn⟩ := hcut
  clear HTO HEQ HXK
  clear bHA0 bHA1 bHA2 bHA3 bHX0 bHX1 bHX2 bHX3
  generalize wc = w7 at *
  have hs7 : Hid (w6.heap.size ≤ w7.heap.size) := hbn.size
  replace HV := Lib.hid (HV.out.kept hbn)
  replace HA := Lib.hid (HA.out.kept hbn)
  replace Hg0 := Lib.hid (Hg0.out.kept hbn)
  replace Hx := Lib.hid (Hx.out.kept hbn)
  replace Hg1 := Lib.hid (Hg1.out.kept hbn)
  replace HX := Lib.hid (HX.out.kept hbn)
  replace HB := Lib.hid (HB.out.trans (hbn.mono HB.out.size))
  clear hbn
  have HCG : Hid (1 + cntRow Rep.int (distL x) ≤ 1000000000) := by unfold Hid; rw [cntRow_int]; have h1 := distL_len x; have h2 := (szTab_parts HSZ.out).2.2.1; omega
  obtain ⟨cx, hcx⟩ : ∃ q : Nat, 1 + cntTab x = q := ⟨_, rfl⟩
  have hncx : ¬ ((cx : Nat) : Int) < 0 := by omega
  have HM := Lib.hid (markTableau_any x (.slice Ax1 x.Names.length cx1) (.slice Ax2 x.Rows.length cx2) (.slice Ax3 x.Marks.length cx3) 1 1 rfl w3.heap.size _ _ _ w7 (by have := hs1.out; have := hs2.out; have := hs3.out; have := hs4.out; have := hs5.out; have := hs6.out; have := hs7.out; omega) (fun a ha => (Rx.out a ha).1) (cntTab_le HSZ.out) (Nat.le_refl 1) Hx.out)
  rw [hcx] at HM
  have bHA0 := HA.out.cell 0 rfl
  have bHA1 := HA.out.cell 1 rfl
  have bHA2 := HA.out.cell 2 rfl
  have bHA3 := HA.out.cell 3 rfl
  have bHX0 := HX.out.cell 0 rfl
  have bHX1 := HX.out.cell 1 rfl
  have bHX2 := HX.out.cell 2 rfl
  have bHX3 := HX.out.cell 3 rfl
  go_wp2_with fail
  refine HM.out.mono ?_
  rintro e w8 ⟨rfl, hq, hu, hb⟩
  have hs8 : Hid (w7.heap.size ≤ w8.heap.size) := hu.size
  clear bHA0 bHA1 bHA2 bHA3 bHX0 bHX1 bHX2 bHX3
  clear HX
  replace HV := Lib.hid (HV.out.apart hu (fun a ha hf => by rcases ha with ha | ha | ha <;> (have h1 := ha.2; have h2 := (Rx.out a hf).1; have h3 := (Rx.out a hf).2; have := hs1.out; have := hs2.out; have := hs3.out; have := hs4.out; have := hs5.out; have := hs6.out; have := hs7.out; have := hs8.out; omega)))
  replace HA := Lib.hid (HA.out.keptB hb (by have := hs1.out; have := hs2.out; have := hs3.out; have := hs4.out; have := hs5.out; have := hs6.out; have := hs7.out; have := hs8.out; have := HA0.out; omega))
  replace Hg0 := Lib.hid (Hg0.out.apart hu (fun a ha hf => by have h2 := (Rx.out a hf).1; have h3 := (Rx.out a hf).2; have := hs1.out; have := hs2.out; have := hs3.out; have := hs4.out; have := hs5.out; have := hs6.out; have := hs7.out; have := hs8.out; omega))
  replace Hg1 := Lib.hid (Hg1.out.apart hu (fun a ha hf => by have h2 := (Rx.out a hf).1; have h3 := (Rx.out a hf).2; have := hs1.out; have := hs2.out; have := hs3.out; have := hs4.out; have := hs5.out; have := hs6.out; have := hs7.out; have := hs8.out; omega))
  replace HB := Lib.hid (HB.out.trans (hb.mono (by have := hs1.out; have := hs2.out; have := hs3.out; have := hs4.out; have := hs5.out; have := hs6.out; have := hs7.out; have := hs8.out; omega)))
  clear HM hq hu hb
  have HC : Hid (∀ W, Below w8.heap.size w8 W → Calls Tryz.prog 17 #[g1, g0] W fun e w' => e = .returned (.bool true) ∧ Below W.heap.size W w') := fun W hW => eqIntS_any _ _ (distL x) _ _ W (Hg1.out.kept hW).weak (Hg0.out.kept hW).weak
  have bHA0 := HA.out.cell 0 rfl
  have bHA1 := HA.out.cell 1 rfl
  have bHA2 := HA.out.cell 2 rfl
  have bHA3 := HA.out.cell 3 rfl
  go_wp2_with fail
  refine (HC.out _ (by first | exact Below.refl _ _ | exact (Below.refl _ _).alloc (Nat.le_refl _) _ | exact (Below.refl _ _).drew)).mono ?_
  rintro e w9 ⟨rfl, hb⟩
  clear bHA0 bHA1 bHA2 bHA3
  have hbn : Below w8.heap.size w8 w9 := below_step (by first | exact Below.refl _ _ | exact (Below.refl _ _).alloc (Nat.le_refl _) _ | exact (Below.refl _ _).drew) hb
  have hs9 : Hid (w8.heap.size ≤ w9.heap.size) := hbn.size
  replace HV := Lib.hid (HV.out.kept hbn)
  replace HA := Lib.hid (HA.out.kept hbn)
  replace Hg0 := Lib.hid (Hg0.out.kept hbn)
  replace Hg1 := Lib.hid (Hg1.out.kept hbn)
  replace HB := Lib.hid (HB.out.trans (hbn.mono HB.out.size))
  clear hb hbn HC
  obtain ⟨cg, hcg⟩ : ∃ q : Nat, 1 + cntRow Rep.int (distL x) = q := ⟨_, rfl⟩
  have hncg : ¬ ((cg : Nat) : Int) < 0 := by omega
  have HM := Lib.hid (markIntS_any g1 (distL x) 1 1 rfl w4.heap.size _ w9 (fun a ha => by have := hs1.out; have := hs2.out; have := hs3.out; have := hs4.out; have := hs5.out; have := hs6.out; have := hs7.out; have := hs8.out; have := hs9.out; omega) HCG.out (Nat.le_refl 1) Hg1.out)
  rw [hcg] at HM
  have bHA0 := HA.out.cell 0 rfl
  have bHA1 := HA.out.cell 1 rfl
  have bHA2 := HA.out.cell 2 rfl
  have bHA3 := HA.out.cell 3 rfl
  go_wp2_with fail
  refine HM.out.mono ?_
  rintro e w10 ⟨rfl, hq, hu, hb⟩
  have hs10 : Hid (w9.heap.size ≤ w10.heap.size) := hu.size
  clear bHA0 bHA1 bHA2 bHA3
  replace HV := Lib.hid (HV.out.apart hu (fun a ha hf => by rcases ha with ha | ha | ha <;> (have h1 := ha.2;  have := hs1.out; have := hs2.out; have := hs3.out; have := hs4.out; have := hs5.out; have := hs6.out; have := hs7.out; have := hs8.out; have := hs9.out; have := hs10.out; omega)))
  replace HA := Lib.hid (HA.out.keptB hb (by have := hs1.out; have := hs2.out; have := hs3.out; have := hs4.out; have := hs5.out; have := hs6.out; have := hs7.out; have := hs8.out; have := hs9.out; have := hs10.out; have := HA0.out; omega))
  replace Hg0 := Lib.hid (Hg0.out.apart hu (fun a ha hf => by  have := hs1.out; have := hs2.out; have := hs3.out; have := hs4.out; have := hs5.out; have := hs6.out; have := hs7.out; have := hs8.out; have := hs9.out; have := hs10.out; omega))
  replace Hg1 := Lib.hid hq
  replace HB := Lib.hid (HB.out.trans (hb.mono (by have := hs1.out; have := hs2.out; have := hs3.out; have := hs4.out; have := hs5.out; have := hs6.out; have := hs7.out; have := hs8.out; have := hs9.out; have := hs10.out; omega)))
  clear HM hq hu hb
  have HC : Hid (∀ W, Below w10.heap.size w10 W → Calls Tryz.prog 21 #[g1, .int .i64 1] W fun e w' => e = .returned (.int .i64 ((cg : Nat) : Int)) ∧ Below W.heap.size W w') := fun W hW => by have := heldIntS_any g1 (distL x) 1 1 rfl _ W HCG.out (Nat.le_refl 1) (Hg1.out.kept hW).weak; rw [hcg] at this; exact this
  have bHA0 := HA.out.cell 0 rfl
  have bHA1 := HA.out.cell 1 rfl
  have bHA2 := HA.out.cell 2 rfl
  have bHA3 := HA.out.cell 3 rfl
  go_wp2_with fail
  refine (HC.out _ (by first | exact Below.refl _ _ | exact (Below.refl _ _).alloc (Nat.le_refl _) _ | exact (Below.refl _ _).drew)).mono ?_
  rintro e w11 ⟨rfl, hb⟩
  clear bHA0 bHA1 bHA2 bHA3
  have hbn : Below w10.heap.size w10 w11 := below_step (by first | exact Below.refl _ _ | exact (Below.refl _ _).alloc (Nat.le_refl _) _ | exact (Below.refl _ _).drew) hb
  have hs11 : Hid (w10.heap.size ≤ w11.heap.size) := hbn.size
  replace HV := Lib.hid (HV.out.kept hbn)
  replace HA := Lib.hid (HA.out.kept hbn)
  replace Hg0 := Lib.hid (Hg0.out.kept hbn)
  replace Hg1 := Lib.hid (Hg1.out.kept hbn)
  replace HB := Lib.hid (HB.out.trans (hbn.mono HB.out.size))
  clear hb hbn HC
  have HC : Hid (∀ W, Below w11.heap.size w11 W → Calls Tryz.prog 14 #[.agg #[.string x.Input, .slice A1 x.Names.length c1, .slice A2 x.Rows.length c2, .slice A3 x.Marks.length c3]] W (TabPost x W)) := fun W hW => toTableau_any x _ _ _ _ _ _ W HSZ.out (HV.out.kept hW)
  have bHA0 := HA.out.cell 0 rfl
  have bHA1 := HA.out.cell 1 rfl
  have bHA2 := HA.out.cell 2 rfl
  have bHA3 := HA.out.cell 3 rfl
  go_wp2_with fail
  refine (HC.out _ (by first | exact Below.refl _ _ | exact (Below.refl _ _).alloc (Nat.le_refl _) _ | exact (Below.refl _ _).drew)).mono ?_
  rintro e w12 ⟨Ay1, cy1, Ay2, cy2, Ay3, cy3, Gy1, Gy2, Gy3, rfl, hq, hg, hb⟩
  clear bHA0 bHA1 bHA2 bHA3
  have hbn : Below w11.heap.size w11 w12 := below_step (by first | exact Below.refl _ _ | exact (Below.refl _ _).alloc (Nat.le_refl _) _ | exact (Below.refl _ _).drew) hb
  have hs12 : Hid (w11.heap.size ≤ w12.heap.size) := hbn.size
  replace HV := Lib.hid (HV.out.kept hbn)
  replace HA := Lib.hid (HA.out.kept hbn)
  replace Hg0 := Lib.hid (Hg0.out.kept hbn)
  replace Hg1 := Lib.hid (Hg1.out.kept hbn)
  replace HB := Lib.hid (HB.out.trans (hbn.mono HB.out.size))
  have Hy := Lib.hid hq
  have Ry : Hid (∀ a, Gy1 a ∨ Gy2 a ∨ Gy3 a → w11.heap.size ≤ a.block ∧ a.block < w12.heap.size) := fun a ha => ⟨Nat.le_trans (Below.size (B := w11.heap.size) (w := w11) (by first | exact Below.refl _ _ | exact (Below.refl _ _).alloc (Nat.le_refl _) _ | exact (Below.refl _ _).drew)) (hg a ha).1, (hg a ha).2⟩
  clear hb hbn HC hq hg
  have HC : Hid (∀ W, Below w12.heap.size w12 W → Calls Tryz.prog 45 #[.agg #[.string x.Input, .slice Ay1 x.Names.length cy1, .slice Ay2 x.Rows.length cy2, .slice Ay3 x.Marks.length cy3]] W (IntPost11 (distL x) W)) := fun W hW => implDist_any x Ay1 cy1 Ay2 cy2 Ay3 cy3 _ _ _  W HSZ.out (Hy.out.kept hW).weak (feat_below HFT.out (HB.out.trans (hW.mono HB.out.size)))
  have bHA0 := HA.out.cell 0 rfl
  have bHA1 := HA.out.cell 1 rfl
  have bHA2 := HA.out.cell 2 rfl
  have bHA3 := HA.out.cell 3 rfl
  go_wp2_with fail
  refine (HC.out _ (by first | exact Below.refl _ _ | exact (Below.refl _ _).alloc (Nat.le_refl _) _ | exact (Below.refl _ _).drew)).mono ?_
  rintro e w13 ⟨g2, rfl, hq, hb⟩
  clear bHA0 bHA1 bHA2 bHA3
  have hbn : Below w12.heap.size w12 w13 := below_step (by first | exact Below.refl _ _ | exact (Below.refl _ _).alloc (Nat.le_refl _) _ | exact (Below.refl _ _).drew) hb
  have hs13 : Hid (w12.heap.size ≤ w13.heap.size) := hbn.size
  replace HV := Lib.hid (HV.out.kept hbn)
  replace HA := Lib.hid (HA.out.kept hbn)
  replace Hg0 := Lib.hid (Hg0.out.kept hbn)
  replace Hg1 := Lib.hid (Hg1.out.kept hbn)
  replace Hy := Lib.hid (Hy.out.kept hbn)
  replace HB := Lib.hid (HB.out.trans (hbn.mono HB.out.size))
  have Hg2 := Lib.hid (hq.tight.mono (G := fun a => w12.heap.size ≤ a.block ∧ a.block < w13.heap.size) (fun a ha => ⟨Nat.le_trans (Below.size (B := w12.heap.size) (w := w12) (by first | exact Below.refl _ _ | exact (Below.refl _ _).alloc (Nat.le_refl _) _ | exact (Below.refl _ _).drew)) ha.1, ha.2⟩))
  clear hb hbn HC hq
  clear Hy
  have HC : Hid (∀ W, Below w13.heap.size w13 W → Calls Tryz.prog 17 #[g2, g0] W fun e w' => e = .returned (.bool true) ∧ Below W.heap.size W w') := fun W hW => eqIntS_any _ _ (distL x) _ _ W (Hg2.out.kept hW).weak (Hg0.out.kept hW).weak
  have bHA0 := HA.out.cell 0 rfl
  have bHA1 := HA.out.cell 1 rfl
  have bHA2 := HA.out.cell 2 rfl
  have bHA3 := HA.out.cell 3 rfl
  go_wp2_with fail
  refine (HC.out _ (by first | exact Below.refl _ _ | exact (Below.refl _ _).alloc (Nat.le_refl _) _ | exact (Below.refl _ _).drew)).mono ?_
  rintro e w14 ⟨rfl, hb⟩
  clear bHA0 bHA1 bHA2 bHA3
  have hbn : Below w13.heap.size w13 w14 := below_step (by first | exact Below.refl _ _ | exact (Below.refl _ _).alloc (Nat.le_refl _) _ | exact (Below.refl _ _).drew) hb
  have hs14 : Hid (w13.heap.size ≤ w14.heap.size) := hbn.size
  replace HV := Lib.hid (HV.out.kept hbn)
  replace HA := Lib.hid (HA.out.kept hbn)
  replace Hg0 := Lib.hid (Hg0.out.kept hbn)
  replace Hg1 := Lib.hid (Hg1.out.kept hbn)
  replace Hg2 := Lib.hid (Hg2.out.kept hbn)
  replace HB := Lib.hid (HB.out.trans (hbn.mono HB.out.size))
  clear hb hbn HC
  have HC : Hid (∀ W, Below w14.heap.size w14 W → Calls Tryz.prog 21 #[g1, .int .i64 1] W fun e w' => e = .returned (.int .i64 ((cg : Nat) : Int)) ∧ Below W.heap.size W w') := fun W hW => by have := heldIntS_any g1 (distL x) 1 1 rfl _ W HCG.out (Nat.le_refl 1) (Hg1.out.kept hW).weak; rw [hcg] at this; exact this
  have bHA0 := HA.out.cell 0 rfl
  have bHA1 := HA.out.cell 1 rfl
  have bHA2 := HA.out.cell 2 rfl
  have bHA3 := HA.out.cell 3 rfl
  go_wp2_with fail
  refine (HC.out _ (by first | exact Below.refl _ _ | exact (Below.refl _ _).alloc (Nat.le_refl _) _ | exact (Below.refl _ _).drew)).mono ?_
  rintro e w15 ⟨rfl, hb⟩
  clear bHA0 bHA1 bHA2 bHA3
  have hbn : Below w14.heap.size w14 w15 := below_step (by first | exact Below.refl _ _ | exact (Below.refl _ _).alloc (Nat.le_refl _) _ | exact (Below.refl _ _).drew) hb
  have hs15 : Hid (w14.heap.size ≤ w15.heap.size) := hbn.size
  replace HV := Lib.hid (HV.out.kept hbn)
  replace HA := Lib.hid (HA.out.kept hbn)
  replace Hg0 := Lib.hid (Hg0.out.kept hbn)
  replace Hg1 := Lib.hid (Hg1.out.kept hbn)
  replace Hg2 := Lib.hid (Hg2.out.kept hbn)
  replace HB := Lib.hid (HB.out.trans (hbn.mono HB.out.size))
  clear hb hbn HC
  go_wp2
  go_ret
  exact ⟨rfl, HB.out⟩
end Go.Proofs.YtkaihnlknncfdaaGreatDoor.fnExactDistinctProfiles

/- A text cut at a byte, and joined again: plain mathematics. -/
namespace Go.Proofs.YtkaihnlknncfdaaGreatDoor
set_option maxRecDepth 100000
open Go.RowKit M

def cutU (c : UInt8) : List UInt8 → List (List UInt8)
  | [] => [[]]
  | b :: r => if b = c then [] :: cutU c r else match cutU c r with
    | x :: t => (b :: x) :: t
    | [] => [[b]]
theorem cutU_ne (c : UInt8) : ∀ s, ∃ x t, cutU c s = x :: t
  | [] => ⟨[], [], rfl⟩
  | b :: r => by
    unfold cutU
    split
    · exact ⟨_, _, rfl⟩
    · obtain ⟨x, t, h⟩ := cutU_ne c r
      rw [h]; exact ⟨_, _, rfl⟩
theorem cutU_len (c : UInt8) (s : List UInt8) : 1 ≤ (cutU c s).length := by
  obtain ⟨x, t, h⟩ := cutU_ne c s
  rw [h]; simp
theorem pre_one (c b : UInt8) (l : List UInt8) : [c].isPrefixOf (b :: l) = (c == b) := by
  simp [List.isPrefixOf]
theorem splitK_cut (c : UInt8) : ∀ s : List UInt8, Lib.splitK [c] 0 (Lib.count s [c]) s = cutU c s
  | [] => rfl
  | b :: r => by
    by_cases hb : b = c
    · subst hb
      rw [Lib.count_cons_eq, Nat.add_comm]
      have hi : Lib.index (b :: r) [b] = 0 := by unfold Lib.index; rw [pre_one]; simp
      unfold Lib.splitK cutU
      rw [hi, if_neg (by decide), if_pos rfl]
      simp [splitK_cut b r]
    · rw [Lib.count_cons_ne b c r hb]
      unfold cutU
      rw [if_neg hb]
      have ih := splitK_cut c r
      have hi : Lib.index (b :: r) [c] = if Lib.index r [c] == -1 then -1 else Lib.index r [c] + 1 := by
        conv => lhs; unfold Lib.index
        rw [pre_one, if_neg (by simpa using fun h => hb h.symm)]
      cases hk : Lib.count r [c] with
      | zero =>
        rw [hk] at ih
        rw [← ih]; rfl
      | succ k =>
        rw [hk] at ih
        have hm : Lib.index r [c] ≠ -1 := fun e => by rw [Lib.count_miss e] at hk; cases hk
        have hge := Lib.index_ge r [c]
        have hm1 : ¬ (Lib.index r [c] == -1) = true := fun e => hm (by simpa using e)
        have hm2 : ¬ (Lib.index r [c] + 1 == -1) = true := fun e => by have := (beq_iff_eq.1 e); omega
        unfold Lib.splitK at ih ⊢
        rw [if_neg hm1] at ih
        rw [hi, if_neg hm1, if_neg hm2, ← ih]
        have e1 : (Lib.index r [c] + 1).toNat = (Lib.index r [c]).toNat + 1 := by omega
        simp only [e1]
        rw [show (Lib.index r [c]).toNat + 1 + 0 = ((Lib.index r [c]).toNat + 0) + 1 by omega, List.take_succ_cons, show (Lib.index r [c]).toNat + 1 + [c].length = ((Lib.index r [c]).toNat + [c].length) + 1 by omega, List.drop_succ_cons]
        rfl
/-- One byte more. -/
def cutStep (c : UInt8) (st : List (List UInt8) × List UInt8) (b : UInt8) : List (List UInt8) × List UInt8 :=
  if b = c then (st.1 ++ [st.2], []) else (st.1, st.2 ++ [b])
theorem cut_fold (c : UInt8) : ∀ (s : List UInt8) (o : List (List UInt8)) (p x : List UInt8) (t : List (List UInt8)), cutU c s = x :: t → (s.foldl (cutStep c) (o, p)).1 ++ [(s.foldl (cutStep c) (o, p)).2] = o ++ (p ++ x) :: t
  | [], o, p, x, t, h => by cases h; simp
  | b :: r, o, p, x, t, h => by
    obtain ⟨y, u, hr⟩ := cutU_ne c r
    unfold cutU at h
    rw [List.foldl_cons]
    by_cases hb : b = c
    · rw [if_pos hb, hr] at h
      cases h
      have := cut_fold c r (o ++ [p]) [] y u hr
      unfold cutStep at this ⊢
      simp only [if_pos hb]
      rw [this]; simp
    · rw [if_neg hb, hr] at h
      cases h
      have := cut_fold c r o (p ++ [b]) y _ hr
      unfold cutStep at this ⊢
      simp only [if_neg hb]
      rw [this]; simp
theorem cut_sum (c : UInt8) : ∀ s : List UInt8, ((cutU c s).map fun z => z.length + 1).sum = s.length + 1
  | [] => rfl
  | b :: r => by
    have ih := cut_sum c r
    unfold cutU
    split
    · simp [ih]; omega
    · obtain ⟨y, u, hr⟩ := cutU_ne c r
      rw [hr] at ih ⊢
      simp at ih ⊢
      omega

theorem sub_add_sum {α : Type} (f : α → Nat) (n : Nat) : ∀ l : List α, (∀ x ∈ l, f x ≤ n) → (l.map f).sum ≤ n * l.length
  | [], _ => by simp
  | x :: l, h => by
    have h1 := sub_add_sum f n l (fun y hy => h y (List.mem_cons_of_mem _ hy))
    have h2 := h x (List.mem_cons_self ..)
    simp only [List.map_cons, List.sum_cons, List.length_cons, Nat.mul_succ]
    omega
theorem data_size (x : ByteArray) : x.data.toList.length = x.size := by rw [Array.length_toList]; rfl
/-- The parts of a text between its commas. -/
def cutB (s : ByteArray) : List ByteArray := (cutU 44 s.data.toList).map fun z => ⟨z.toArray⟩
theorem cutB_data (s : ByteArray) : (cutB s).map (·.data.toList) = cutU 44 s.data.toList := by
  unfold cutB
  rw [List.map_map]
  conv => rhs; rw [← List.map_id (cutU 44 s.data.toList)]
  apply List.map_congr_left
  intro z _
  simp
theorem cutB_len (s : ByteArray) : (cutB s).length = (cutU 44 s.data.toList).length := by unfold cutB; rw [List.length_map]
theorem split_cut (s : ByteArray) : Lib.splitB ⟨#[44]⟩ 0 (Lib.countB s ⟨#[44]⟩) s = cutB s := by
  have h := Lib.splitB_data ⟨#[44]⟩ 0 (Lib.countB s ⟨#[44]⟩) s
  have h2 := splitK_cut 44 s.data.toList
  have h3 : (Lib.splitB ⟨#[44]⟩ 0 (Lib.countB s ⟨#[44]⟩) s).map (·.data.toList) = cutU 44 s.data.toList := h.trans h2
  unfold cutB
  rw [← h3, List.map_map]
  conv => lhs; rw [← List.map_id (Lib.splitB ⟨#[44]⟩ 0 (Lib.countB s ⟨#[44]⟩) s)]
  apply List.map_congr_left
  intro z _
  simp
theorem cutB_size {x : ByteArray} {s : ByteArray} (h : x ∈ cutB s) : x.size ≤ s.size := by
  unfold cutB at h
  rw [List.mem_map] at h
  obtain ⟨z, hz, rfl⟩ := h
  have h1 := cut_sum 44 s.data.toList
  have h2 : z.length + 1 ≤ ((cutU 44 s.data.toList).map fun z => z.length + 1).sum := by
    generalize cutU 44 s.data.toList = L at hz
    induction L with
    | nil => cases hz
    | cons y L ih =>
      simp only [List.map_cons, List.sum_cons]
      cases hz with
      | head => omega
      | tail _ h => have := ih h; omega
  rw [data_size] at h1
  have h3 : (⟨z.toArray⟩ : ByteArray).size = z.length := rfl
  omega
theorem cutB_le (s : ByteArray) : (cutB s).length ≤ s.size + 1 := by
  rw [cutB_len]
  have h1 := cut_sum 44 s.data.toList
  rw [data_size] at h1
  have h2 : ∀ L : List (List UInt8), L.length ≤ (L.map fun z => z.length + 1).sum := by
    intro L
    induction L with
    | nil => simp
    | cons y L ih => simp only [List.map_cons, List.sum_cons, List.length_cons]; omega
  have := h2 (cutU 44 s.data.toList)
  omega
theorem areC_cut_short {s : ByteArray} (h : areC (cutB s) = true) : s.size ≤ 100 := by
  obtain ⟨_, h5⟩ := areC_len h
  have hm : ∀ x ∈ cutB s, x.size + 1 ≤ 8 := fun x hx => by
    obtain ⟨k, hk, rfl⟩ := List.getElem_of_mem hx
    have := name_size (areC_mem h (List.getElem?_eq_getElem hk)).1
    omega
  have h1 := cut_sum 44 s.data.toList
  rw [data_size, ← cutB_data, List.map_map] at h1
  have h2 := sub_add_sum (fun x : ByteArray => x.size + 1) 8 (cutB s) hm
  have h3 : ((cutB s).map ((fun z : List UInt8 => z.length + 1) ∘ fun x => x.data.toList)) = (cutB s).map fun x => x.size + 1 := by
    apply List.map_congr_left
    intro x _
    simp only [Function.comp, data_size]
  rw [h3] at h1
  omega
/-- What is read, and whether. -/
def prsN (s : ByteArray) : List ByteArray := if areC (cutB s) then cutB s else []
/-- One byte more, over texts. -/
def outK (s : ByteArray) (k : Nat) : List ByteArray := ((s.data.toList.take k).foldl (cutStep 44) ([], [])).1.map fun z => ⟨z.toArray⟩
def partK (s : ByteArray) (k : Nat) : ByteArray := ⟨((s.data.toList.take k).foldl (cutStep 44) ([], [])).2.toArray⟩
theorem outK_zero (s : ByteArray) : outK s 0 = [] := rfl
theorem partK_zero (s : ByteArray) : partK s 0 = ⟨#[]⟩ := rfl
theorem outK_end (s : ByteArray) : outK s s.size ++ [partK s s.size] = cutB s := by
  unfold outK partK cutB
  rw [show s.data.toList.take s.size = s.data.toList by rw [← data_size, List.take_length]]
  obtain ⟨x, t, h⟩ := cutU_ne 44 s.data.toList
  have := cut_fold 44 s.data.toList [] [] x t h
  rw [h]
  simp only [List.nil_append] at this
  rw [← this]
  simp
theorem fold_succ (s : ByteArray) (k : Nat) (b : UInt8) (h : s.data.toList[k]? = some b) : (s.data.toList.take (k + 1)).foldl (cutStep 44) ([], []) = cutStep 44 ((s.data.toList.take k).foldl (cutStep 44) ([], [])) b := by
  rw [List.take_add_one, h, List.foldl_append]; rfl
theorem out_comma (s : ByteArray) (k : Nat) (h : s.data.toList[k]? = some 44) : outK s (k + 1) = outK s k ++ [partK s k] ∧ partK s (k + 1) = ⟨#[]⟩ := by
  unfold outK partK
  rw [fold_succ s k 44 h]
  unfold cutStep
  simp
theorem out_other (s : ByteArray) (k : Nat) (b : UInt8) (h : s.data.toList[k]? = some b) (hb : b ≠ 44) : outK s (k + 1) = outK s k ∧ partK s (k + 1) = partK s k ++ ⟨#[b]⟩ := by
  unfold outK partK
  rw [fold_succ s k b h]
  unfold cutStep
  rw [if_neg hb]
  refine ⟨rfl, ?_⟩
  apply ByteArray.ext
  simp
theorem part_size (s : ByteArray) : ∀ k, (partK s k).size ≤ k ∧ (outK s k).length ≤ k
  | 0 => ⟨by rw [partK_zero]; exact Nat.le_refl 0, by rw [outK_zero]; exact Nat.le_refl 0⟩
  | k + 1 => by
    have ih := part_size s k
    by_cases h : k < s.data.toList.length
    · have hk := List.getElem?_eq_getElem h
      by_cases hb : s.data.toList[k] = 44
      · rw [hb] at hk
        rw [(out_comma s k hk).1, (out_comma s k hk).2, List.length_append, List.length_singleton]
        have : (⟨#[]⟩ : ByteArray).size = 0 := rfl
        omega
      · rw [(out_other s k _ hk hb).1, (out_other s k _ hk hb).2, ByteArray.size_append]
        have : (⟨#[s.data.toList[k]]⟩ : ByteArray).size = 1 := rfl
        omega
    · have e : s.data.toList.take (k + 1) = s.data.toList.take k := by rw [List.take_of_length_le (by omega), List.take_of_length_le (by omega)]
      unfold partK outK at ih ⊢
      rw [e]
      omega
theorem join_take (l : List ByteArray) : ∀ k, k ≤ l.length → (joinN l k).data.toList = Lib.join ((l.take k).map (·.data.toList)) [44]
  | 0, _ => rfl
  | k + 1, hk => by
    have ih := join_take l k (by omega)
    have hx := List.getElem?_eq_getElem (l := l) (i := k) (by omega)
    have hg : l.getD k ByteArray.empty = l[k] := by rw [List.getD_eq_getElem?_getD, hx]; rfl
    unfold joinN
    rw [hg]
    cases k with
    | zero =>
      rw [if_neg (by omega)]
      have e : l.take 1 = [l[0]] := by
        cases l with
        | nil => simp at hk
        | cons a t => rfl
      rw [e, List.map_cons, List.map_nil, Lib.join_one]
      show (joinN l 0 ++ l[0]).data.toList = _
      simp [joinN]
    | succ k =>
      rw [if_pos (by omega)]
      obtain ⟨a, t, rfl⟩ : ∃ a t, l = a :: t := by
        cases l with
        | nil => simp at hk
        | cons a t => exact ⟨a, t, rfl⟩
      rw [List.take_succ_cons, List.map_cons, Lib.join_cons] at ih ⊢
      have h2 : (t.map (·.data.toList))[k]? = some (t[k]'(by simp at hk; omega)).data.toList := by rw [List.getElem?_map, List.getElem?_eq_getElem (by simp at hk; omega)]; rfl
      have h3 := Lib.joinTail_take_succ [44] (t.map (·.data.toList)) k _ h2
      rw [List.map_take, h3]
      rw [List.map_take] at ih
      simp only [ByteArray.data_append, Array.toList_append, ih]
      simp
theorem join_all (l : List ByteArray) : (⟨(Lib.join (l.map (·.data.toList)) [44]).toArray⟩ : ByteArray) = joinN l l.length := by
  have h := join_take l l.length (Nat.le_refl _)
  rw [List.take_length] at h
  rw [← h]
end Go.Proofs.YtkaihnlknncfdaaGreatDoor

/- The conversion of a block of one byte to a text. -/
namespace Go.Proofs.YtkaihnlknncfdaaGreatDoor
set_option maxRecDepth 100000
open Go.RowKit M

/-- 'string([]byte{b})': the conversion of a new block of one byte. -/
theorem conv_one (w : World) (u : Int) :
    (convert 112 9 (.slice (some ⟨w.heap.size, 0, none⟩) 1 1)).run Tryz.prog (w.alloc (.cells #[.int .u8 u] 5)) = .ok (.string ⟨#[UInt8.ofNat u.toNat]⟩) (w.alloc (.cells #[.int .u8 u] 5)) := by
  rw [run_convert_bytes_string _ 112 9 5 _ _ _ Tryz.underlying112 Tryz.underlying5 Tryz.underlying9]
  rw [run_bytesToString _ _ 1 1 [u]]
  · rfl
  · have := run_loadCells_list (P := Tryz.prog) (w.alloc (.cells #[.int .u8 u] 5)) ⟨w.heap.size, 0, none⟩ [.int .u8 u] (cell_one_new _ _ _)
    simpa using this

end Go.Proofs.YtkaihnlknncfdaaGreatDoor

/- Decimal numerals: plain mathematics on numbers and lists of bytes, no condition. -/
namespace Go.Proofs.YtkaihnlknncfdaaGreatDoor.M
set_option maxRecDepth 100000
open Go.Lib
/-- The digits of c, none for 0. -/
def dd (c : Nat) : List UInt8 := if c = 0 then [] else decDigits c
theorem dd_pos {c : Nat} (h : 0 < c) : dd c = decDigits c := by unfold dd; rw [if_neg (by omega)]
theorem dd_zero : dd 0 = [] := rfl
theorem dd_step {c : Nat} (h : 0 < c) : dd c = dd (c / 10) ++ [byt (48 + (c % 10 : Nat))] := by
  rw [dd_pos h, decDigits]
  have hb : ∀ d : Nat, byt (48 + (d : Int)) = UInt8.ofNat (48 + d) := fun d => by unfold byt; congr 1
  split
  · rename_i h9
    rw [show c / 10 = 0 by omega, dd_zero, hb, Nat.mod_eq_of_lt h9]
    rfl
  · rw [dd_pos (by omega), hb]
theorem lt_div (c f : Nat) (h : c < 10 ^ (f + 1)) : c / 10 < 10 ^ f := by
  rw [Nat.pow_succ] at h
  omega
theorem byt_digit (d : Nat) : byt (48 + (d : Int)) = 48 + UInt8.ofNat d := by
  unfold byt
  rw [show ((48 : Int) + (d : Int)).toNat = 48 + d by omega, UInt8.ofNat_add]
  rfl
theorem cat_one (a : UInt8) (l : List UInt8) : (⟨#[a]⟩ : ByteArray) ++ ⟨l.toArray⟩ = ⟨(a :: l).toArray⟩ := by
  apply ByteArray.ext
  simp
end Go.Proofs.YtkaihnlknncfdaaGreatDoor.M

/- spec.FormatInt: what the model answers: the decimal numeral. -/
namespace Go.Proofs.YtkaihnlknncfdaaGreatDoor
set_option maxRecDepth 100000
open Go.RowKit M Go.Lib

theorem fmt_zero (w : World) : Calls Tryz.prog 135 #[.int .i64 0] w fun e w' => e = .returned (.string ⟨(itoa 0).toArray⟩) ∧ Below w.heap.size w w' := by
  have e : itoa 0 = [48] := by rw [show (0 : Int) = ((0 : Nat) : Int) from rfl, itoa_nonneg, decDigits_one (by omega)]; rfl
  have H := Lib.hid e
  clear e
  go_enter Tryz.func135, Tryz.ntmps135
  go_wp2
  go_ret
  exact ⟨ret_str (by rw [H.out]), Below.refl _ _⟩

set_option maxHeartbeats 400000 in
theorem fmt_pos (m : Nat) (w : World) (h0 : 1 ≤ m) (h1 : m ≤ 9223372036854775807) :
    Calls Tryz.prog 135 #[.int .i64 m] w fun e w' => e = .returned (.string ⟨(itoa m).toArray⟩) ∧ Below w.heap.size w w' := by
  have kc := conv_one
  have ht : ((m : Int) == 0) = false := by simp; omega
  go_enter Tryz.func135, Tryz.ntmps135
  go_wp2
  go_loopw [0, 3] (fun x o wr => ∃ (c f j : Nat) (out : List UInt8), c ≤ 9223372036854775807 ∧ j ≤ 19 ∧ x = .int .i64 c ∧ o = .string ⟨out.toArray⟩ ∧ Hid (out.length = j) ∧
      Hid (j + f = 19) ∧ Hid (c < 10 ^ f) ∧ Hid (dd m = dd c ++ out) ∧ Below w.heap.size w wr) (fun x _ _ => (intOf x).toNat)
  case atStart => exact ⟨m, 19, 0, [], h1, by omega, rfl, rfl, rfl, rfl, by unfold Hid; omega, by simp [Hid], Below.refl _ _⟩
  case round =>
    obtain ⟨c, f, j, out, hc, hj, rfl, rfl, hlen, hf, hlt, hd, hb⟩ := hrel
    by_cases hz : c = 0
    · subst hz
      have HE : Hid (itoa (m : Int) = out) := by
        have := hd.out
        unfold Hid
        rw [itoa_nonneg, ← dd_pos h0, this, dd_zero, List.nil_append]
      go_wp2
      go_ret
      exact ⟨ret_str (by rw [HE.out]), hb⟩
    · have hcp : 1 ≤ c := by omega
      have hz' : ((c : Int) == 0) = false := by simpa using hz
      have hz2 : ((c : Int) != 0) = true := by simpa using hz
      have hl : ¬ 9223372036854775807 < 1 + out.length := by have := hlen.out; omega
      have hm0 : 0 ≤ (c : Int) % 10 := by omega
      clear hz
      go_wp2
      go_roundw
      case rel =>
        obtain ⟨f, rfl⟩ : ∃ g, f = g + 1 := by
          rcases f with _ | f
          · have := hlt.out; omega
          · exact ⟨f, rfl⟩
        refine ⟨c / 10, f, j + 1, byt (48 + (c % 10 : Nat)) :: out, by omega, ?_, by go_num, ?_, ?_, ?_, ?_, ?_, hb.alloc hb.size _⟩
        · have := hf.out; omega
        · rw [byt_digit, cat_one]
        · have := hlen.out; unfold Hid; simp [this]
        · have := hf.out; unfold Hid; omega
        · exact lt_div c f hlt.out
        · have := hd.out; unfold Hid; rw [this, dd_step hcp]; simp
      case measure => simp [intOf]; omega
set_option maxHeartbeats 400000 in
theorem fmt_neg (m : Nat) (w : World) (h0 : 1 ≤ m) (h1 : m ≤ 9223372036854775808) :
    Calls Tryz.prog 135 #[.int .i64 (-(m : Int))] w fun e w' => e = .returned (.string ⟨(itoa (-(m : Int))).toArray⟩) ∧ Below w.heap.size w w' := by
  have kc := conv_one
  have ht : ((-(m : Int)) == 0) = false := by simp; omega
  have hneg : -(m : Int) < 0 := by omega
  go_enter Tryz.func135, Tryz.ntmps135
  go_wp2
  go_loopw [0, 3] (fun x o wr => ∃ (c f j : Nat) (out : List UInt8), c ≤ 9223372036854775808 ∧ j ≤ 19 ∧ x = .int .i64 (-(c : Int)) ∧ o = .string ⟨out.toArray⟩ ∧ Hid (out.length = j) ∧
      Hid (j + f = 19) ∧ Hid (c < 10 ^ f) ∧ Hid (dd m = dd c ++ out) ∧ Below w.heap.size w wr) (fun x _ _ => (-(intOf x)).toNat)
  case atStart => exact ⟨m, 19, 0, [], h1, by omega, rfl, rfl, rfl, rfl, by unfold Hid; omega, by simp [Hid], Below.refl _ _⟩
  case round =>
    obtain ⟨c, f, j, out, hc, hj, rfl, rfl, hlen, hf, hlt, hd, hb⟩ := hrel
    have hl : ¬ 9223372036854775807 < 1 + out.length := by have := hlen.out; omega
    by_cases hz : c = 0
    · subst hz
      have HE : Hid (itoa (-(m : Int)) = 45 :: out) := by
        have := hd.out
        unfold Hid
        rw [itoa_neg m h0, ← dd_pos h0, this, dd_zero, List.nil_append]
      go_wp2
      go_ret
      exact ⟨ret_str (by rw [HE.out, cat_one]), hb⟩
    · have hcp : 1 ≤ c := by omega
      have hz2 : ((-(c : Int)) != 0) = true := by simpa using hz
      have hm2 : (-(c : Int)).tdiv 10 = -((c : Int) / 10) := by rw [Int.neg_tdiv, Int.tdiv_eq_ediv_of_nonneg (by omega)]
      have hm0 : 0 ≤ (c : Int) % 10 := by omega
      obtain ⟨f, rfl⟩ : ∃ g, f = g + 1 := by
        rcases f with _ | f
        · have := hlt.out; omega
        · exact ⟨f, rfl⟩
      have HR : Hid (j + 1 ≤ 19 ∧ (out.length + 1 = j + 1) ∧ (j + 1 + f = 19) ∧ c / 10 < 10 ^ f ∧ dd m = dd (c / 10) ++ (byt (48 + (c % 10 : Nat)) :: out)) := by
        have h1 := hf.out
        have h2 := hlen.out
        have h3 := hd.out
        refine ⟨by omega, by omega, by omega, lt_div c f hlt.out, ?_⟩
        rw [h3, dd_step hcp]; simp
      by_cases h10 : c % 10 = 0
      · have hm1 : (-(c : Int)).tmod 10 = 0 := by rw [Int.neg_tmod, Int.tmod_eq_emod_of_nonneg (by omega)]; omega
        have HB : Hid (byt (48 + (c % 10 : Nat)) = 48) := by rw [h10]; rfl
        clear hz h10
        go_wp2
        go_roundw
        case rel =>
          refine ⟨c / 10, f, j + 1, byt (48 + (c % 10 : Nat)) :: out, by omega, HR.out.1, by go_num, ?_, HR.out.2.1, HR.out.2.2.1, HR.out.2.2.2.1, HR.out.2.2.2.2, hb.alloc hb.size _⟩
          rw [HB.out, ← cat_one]; try rfl
        case measure => simp [intOf]; omega
      · have hm1 : (-(c : Int)).tmod 10 = -((c : Int) % 10) := by rw [Int.neg_tmod, Int.tmod_eq_emod_of_nonneg (by omega)]
        have hm3 : 1 ≤ (c : Int) % 10 := by omega
        clear hz h10
        go_wp2
        go_ways
        go_roundw
        case rel =>
          refine ⟨c / 10, f, j + 1, byt (48 + (c % 10 : Nat)) :: out, by omega, HR.out.1, by go_num, ?_, HR.out.2.1, HR.out.2.2.1, HR.out.2.2.2.1, HR.out.2.2.2.2, hb.alloc hb.size _⟩
          rw [byt_digit, ← cat_one]; try rfl
        case measure => simp [intOf]; omega
end Go.Proofs.YtkaihnlknncfdaaGreatDoor

/- The text of a row: plain mathematics. -/
namespace Go.Proofs.YtkaihnlknncfdaaGreatDoor
set_option maxRecDepth 100000
open Go.RowKit Go.Sort M Go.Lib
set_option linter.unusedVariables false
set_option linter.unusedSimpArgs false

def itoaB (z : Int) : ByteArray := ⟨(itoa z).toArray⟩
theorem itoaB_size (z : Int) (h0 : 0 ≤ z) (h1 : z ≤ 16) : (itoaB z).size ≤ 21 ∧ 1 ≤ (itoaB z).size := by
  have e : (itoaB z).size = (itoa z).length := by unfold itoaB; show (itoa z).toArray.size = _; rw [List.size_toArray]
  have h2 := itoa_length_le z (by omega) (by omega)
  rw [e]
  refine ⟨h2, ?_⟩
  obtain ⟨m, rfl⟩ : ∃ m : Nat, z = (m : Int) := ⟨z.toNat, by omega⟩
  rw [itoa_nonneg]
  by_cases h : m < 10
  · rw [decDigits_one h]; simp
  · rw [decDigits_two h (by omega)]; simp
/-- The texts of marks. -/
def txtL (m : List Int) : List ByteArray := m.map itoaB
theorem txtL_len (m : List Int) : (txtL m).length = m.length := List.length_map _
theorem txtL_at {m : List Int} {k : Nat} {z : Int} (h : m[k]? = some z) : (txtL m)[k]? = some (itoaB z) := by unfold txtL; rw [List.getElem?_map, h]; rfl
def numT (m : List Int) : ByteArray := joinN (txtL m) m.length
theorem joinN_one (l : List ByteArray) (x : ByteArray) (h : l[0]? = some x) : joinN l 1 = ⟨#[]⟩ ++ x := by
  unfold joinN
  rw [if_neg (Nat.lt_irrefl 0), List.getD_eq_getElem?_getD, h]; rfl
theorem joinN_more (l : List ByteArray) (k : Nat) (x : ByteArray) (hk : 0 < k) (h : l[k]? = some x) : joinN l (k + 1) = joinN l k ++ ⟨#[44]⟩ ++ x := by
  conv => lhs; unfold joinN
  rw [if_pos hk, List.getD_eq_getElem?_getD, h]; rfl
theorem joinT_size {m : List Int} (h : ∀ z ∈ m, 0 ≤ z ∧ z ≤ 16) : ∀ k, k ≤ m.length → (joinN (txtL m) k).size ≤ 22 * k ∧ (0 < k → 1 ≤ (joinN (txtL m) k).size)
  | 0, _ => by have : (joinN (txtL m) 0).size = 0 := rfl; omega
  | k + 1, hk => by
    have ih := joinT_size h k (by omega)
    obtain ⟨z, hz⟩ : ∃ z, m[k]? = some z := ⟨_, List.getElem?_eq_getElem (by omega)⟩
    have hzr := h z (List.mem_of_getElem? hz)
    have hs := itoaB_size z hzr.1 hzr.2
    rcases Nat.eq_zero_or_pos k with h0 | h0
    · subst h0
      rw [joinN_one _ _ (txtL_at hz), ByteArray.size_append]
      have : (⟨#[]⟩ : ByteArray).size = 0 := rfl
      omega
    · rw [joinN_more _ _ _ h0 (txtL_at hz), ByteArray.size_append, ByteArray.size_append]
      have : (⟨#[44]⟩ : ByteArray).size = 1 := rfl
      omega
theorem cntN_range {j : Nat} (hj : j < 10) (l : List DLink) (hl : l.length ≤ 16) : 0 ≤ cntN j l ∧ cntN j l ≤ 16 := by
  have h1 : ∀ P Q, mkC P Q (outT l) ≤ 9 := fun P Q => mkC_le P Q _
  have h2 : ∀ p : DLink → Bool, cntC p l ≤ l.length := fun p => by
    unfold cntC; split
    · exact List.countP_le_length
    · omega
  have h3 : brkC l ≤ l.length := by
    unfold brkC; split
    · unfold brkL insideL
      refine Nat.le_trans List.countP_le_length ?_
      rw [List.length_drop, List.length_take]
      omega
    · omega
  match j, hj with
  | 0, _ => have := h1 nconsB vowB; simp only [cntN]; omega
  | 1, _ => have := h1 consB nvowB; simp only [cntN]; omega
  | 2, _ => have := h1 consB consB; simp only [cntN]; omega
  | 3, _ => have := h1 anyB vobB; simp only [cntN]; omega
  | 4, _ => have := h1 vobB edgB; simp only [cntN]; omega
  | 5, _ => have := h1 nasB vlsB; simp only [cntN]; omega
  | 6, _ => have := h2 delK; simp only [cntN]; omega
  | 7, _ => have := h2 insK; simp only [cntN]; omega
  | 8, _ => have := h2 vchK; simp only [cntN]; omega
  | 9, _ => have := h3; simp only [cntN]; omega
  | k + 10, hk => omega
/-- The marks of a valid table: between 0 and 16, one to five of them. -/
theorem rows_marks {x : DTableau} {k : Nat} {p : DCandidate × List Int} (h : (rowsL x)[k]? = some p) : (∀ z ∈ p.2, 0 ≤ z ∧ z ≤ 16) ∧ 1 ≤ p.2.length ∧ p.2.length ≤ 5 ∧ isCd p.1.Links = true := by
  obtain ⟨ht, h1, h2⟩ := rowsL_of h
  have hk : k < x.Rows.length := (List.getElem?_eq_some_iff.1 h1).1
  have h3 := isTab_row ht hk
  rw [rowAt_of h1 h2] at h3
  obtain ⟨hc, _, hm⟩ := rowOk_parts h3
  have ha := (headT_parts (headT_of ht)).1
  have hal := areC_len ha
  rw [profN_ctrs ha hc] at hm
  have hl16 : p.1.Links.length ≤ 16 := by
    unfold isCd at hc
    simp only [Bool.and_eq_true, decide_eq_true_eq] at hc
    omega
  refine ⟨fun z hz => ?_, ?_, ?_, hc⟩
  · rw [hm] at hz
    unfold cntsN at hz
    obtain ⟨j, hj, rfl⟩ := List.mem_map.1 hz
    exact cntN_range (ctrs_lt ha j hj) _ hl16
  · rw [hm, cntsN_len, ctrs_len]; omega
  · rw [hm, cntsN_len, ctrs_len]; omega
/-- The text of the i-th row. -/
def fmtR (x : DTableau) (i : Int) : ByteArray := if 0 ≤ i then (match (rowsL x)[i.toNat]? with
  | some p => (⟨(fmtC p.1.Links).toArray⟩ : ByteArray) ++ ⟨#[32]⟩ ++ numT p.2
  | none => ⟨#[]⟩) else ⟨#[]⟩
theorem fmtR_neg {x : DTableau} {i : Int} (h : ¬ 0 ≤ i) : fmtR x i = ⟨#[]⟩ := by unfold fmtR; rw [if_neg h]
theorem fmtR_out {x : DTableau} {i : Int} (h : (rowsL x).length ≤ i.toNat) : fmtR x i = ⟨#[]⟩ := by
  unfold fmtR
  split
  · rw [List.getElem?_eq_none h]
  · rfl
theorem fmtR_at {x : DTableau} {k : Nat} {p : DCandidate × List Int} (h : (rowsL x)[k]? = some p) : fmtR x (k : Int) = (⟨(fmtC p.1.Links).toArray⟩ : ByteArray) ++ ⟨#[32]⟩ ++ numT p.2 := by
  unfold fmtR
  rw [if_pos (by omega), Int.toNat_natCast, h]
theorem add_anyT (t u : ByteArray) (h : t.size + u.size ≤ 1000) (w : World) : (Op.stringOp .add t u).run Tryz.prog w = .ok (.string (t ++ u)) w := run_string_add_sum _ _ _ (by omega)
theorem fmtC_size (l : List DLink) (h : isCd l = true) : (⟨(fmtC l).toArray⟩ : ByteArray).size ≤ 40 := by
  have hl16 : l.length ≤ 16 := by
    unfold isCd at h
    simp only [Bool.and_eq_true, decide_eq_true_eq] at h
    omega
  have h2 := ftC_len l
  show (fmtC l).toArray.size ≤ 40
  rw [List.size_toArray]
  unfold fmtC
  rw [if_pos h]
  by_cases hn : l = []
  · rw [if_pos hn]
    show ([110, 111, 110, 101] : List UInt8).length ≤ 40
    decide
  · rw [if_neg hn]; omega
end Go.Proofs.YtkaihnlknncfdaaGreatDoor

/- The model's FormatCandidate: what it answers. -/
namespace Go.Proofs.YtkaihnlknncfdaaGreatDoor
set_option maxRecDepth 100000
open Go.RowKit M
set_option linter.unusedVariables false
set_option linter.unusedSimpArgs false

theorem cat_str (l m : List UInt8) (h : (l ++ m).length ≤ 1000000000) : ∀ w : World, (Op.stringOp .add ⟨l.toArray⟩ ⟨m.toArray⟩).run Tryz.prog w = .ok (.string ⟨(l ++ m).toArray⟩) w := by
  intro w
  have hm : maxLen = 9223372036854775807 := rfl
  have hz : (⟨l.toArray⟩ : ByteArray).size + (⟨m.toArray⟩ : ByteArray).size ≤ 1000000000 := by simpa [ByteArray.size] using h
  rw [run_string_add_sum _ _ _ (by omega)]
  congr 2
theorem conv_box (w : World) (o : Obj) (u : Int) : (convert 112 9 (.slice (some ⟨w.heap.size + 1, 0, none⟩) 1 1)).run Tryz.prog ((w.alloc o).alloc (.cells #[.int .u8 u] 5)) = .ok (.string ⟨[byt u].toArray⟩) ((w.alloc o).alloc (.cells #[.int .u8 u] 5)) := by
  have h := conv_one (w.alloc o) u
  have hs : (w.alloc o).heap.size = w.heap.size + 1 := by simp
  rw [hs] at h
  exact h
theorem bytes_some {s : ByteArray} (h : 0 < s.size) : s.toList.isEmpty = false := by
  rw [Lib.toList_data]
  cases e : s.data.toList with
  | nil => have := congrArg List.length e; simp at this; exact absurd h (by rw [show s.size = s.data.size from rfl, this]; simp)
  | cons _ _ => rfl
set_option maxHeartbeats 4000000 in
theorem specFmt_cd (x : DCandidate) (v : Value) (F : Addr → Prop) (w : World) (hl : x.Links.length ≤ 1048576) (hv : RowRd rLink false w v x.Links F) :
    Calls Tryz.prog 97 #[.agg #[v]] w fun e w' => e = .returned (.string ⟨(fmtC x.Links).toArray⟩) ∧ Below w.heap.size w w' := by
  have HS0 : Hid (∀ W, Below w.heap.size w W → Calls Tryz.prog 76 #[.agg #[v]] W fun e w' => e = .returned (.bool (isCd x.Links)) ∧ Below W.heap.size W w') := fun W hW => specIsCd_any x _ F W hl (hv.kept hW)
  obtain ⟨A, cap, rfl⟩ := hv.form
  have HV := Lib.hid hv
  clear hv
  have HE : Hid (fmtC x.Links = if isCd x.Links then (if x.Links = [] then noneB else ftC x.Links) else []) := rfl
  have HLE : Hid (isCd x.Links = true → x.Links.length ≤ 16) := isCd_len
  generalize isCd x.Links = c at *
  generalize fmtC x.Links = r at *
  generalize x.Links = l at *
  have HA : Hid (∀ o, Below w.heap.size w (w.alloc o)) := fun o => (Below.refl _ _).alloc (Nat.le_refl _) _
  have HA1 : Hid (InC (w.alloc (.cells #[.slice A l.length cap] 55)) w.heap.size #[.slice A l.length cap] 55) := heap_alloc_new _ _
  go_enter Tryz.func97, Tryz.ntmps97
  go_wp2_with fail
  refine (HS0.out _ (HA.out _)).mono ?_
  rintro e w2 ⟨rfl, hb⟩
  have hi1 := HA1.out.kept hb
  have b1 := hi1.cell 0 rfl
  have HI1 := Lib.hid hi1
  have HB : Hid (Below w.heap.size w w2) := below_step (HA.out _) hb
  clear hb hi1 HS0
  cases c
  · go_wp2_with fail
    go_ret
    exact ⟨ret_str (by rw [HE.out] <;> rfl), HB.out⟩
  · have h16 := HLE.out rfl
    have HE2 : Hid (r = if l = [] then noneB else ftC l) := by unfold Hid; rw [HE.out, if_pos rfl]
    clear HE
    have HX : Hid (∀ k, k < l.length → ∃ y, l[k]? = some y) := fun k hk => ⟨_, List.getElem?_eq_getElem hk⟩
    go_wp2_with fail
    go_loopw [3, 4] (fun u i wr => ∃ (k : Nat), k ≤ l.length ∧ i = .int .i64 k ∧ u = .string ⟨(ftC (l.take k)).toArray⟩ ∧ Below w.heap.size w wr ∧ InC wr w.heap.size #[.slice A l.length cap] 55) (fun _ i _ => l.length - (intOf i).toNat)
    case atStart => exact ⟨0, by omega, rfl, rfl, HB.out, HI1.out⟩
    case round =>
      obtain ⟨k, hk, rfl, rfl, hbe, hi2⟩ := hrel
      have b2 := hi2.cell 0 rfl
      have HBE := Lib.hid hbe
      have HI2 := Lib.hid hi2
      clear hbe hi2
      by_cases hkl : k < l.length
      · obtain ⟨y, hy⟩ := HX.out k hkl
        obtain ⟨g, off, xs, Fk, rfl, _, hra, _, hca⟩ := (HV.out.kept HBE.out).get hy
        obtain rfl := rLink_rd hra
        rw [rLink_size] at hca
        have c0 := hca 0 _ rfl
        have c1 := hca 1 _ rfl
        simp only [Nat.add_zero] at c0
        have HST := Lib.hid (ftC_step hy)
        have hfl := ftC_len_take l k
        have HSM : Hid ((y.In.toNat : Int) = (y.Out.toNat : Int) → ftK y = [byt (y.In.toNat : Int)]) := ft_same
        have HPU : Hid (¬ (y.In.toNat : Int) = (y.Out.toNat : Int) → (y.In.toNat : Int) = 0 → ftK y = [43, byt (y.Out.toNat : Int)]) := fun h h0 => ft_put h h0
        have HAW : Hid (¬ (y.In.toNat : Int) = 0 → (y.Out.toNat : Int) = 0 → ftK y = [45, byt (y.In.toNat : Int)]) := fun h h0 => ft_away h h0
        have HVO : Hid (¬ (y.In.toNat : Int) = (y.Out.toNat : Int) → ¬ (y.In.toNat : Int) = 0 → ¬ (y.Out.toNat : Int) = 0 → ftK y = [42, byt (y.In.toNat : Int)]) := fun h h1 h2 => ft_voice h h1 h2
        clear hca hra hy
        generalize ftC (l.take k) = T at *
        generalize ftK y = r2 at *
        generalize (y.In.toNat : Int) = a at *
        generalize (y.Out.toNat : Int) = b at *
        have HB3 : Hid (∀ o q, Below w.heap.size w ((wr.alloc o).alloc q)) := fun o q => (HBE.out.alloc HBE.out.size _).alloc (by simp; have := HBE.out.size; omega) _
        have HI3 : Hid (∀ o q, InC ((wr.alloc o).alloc q) w.heap.size #[.slice (some ⟨g, off, none⟩) l.length cap] 55) := fun o q => HI2.out.kept (((Below.refl _ _).alloc (Nat.le_refl _) _).alloc (by simp) _)
        have kc : ∀ u, (convert 112 9 (.slice (some ⟨wr.heap.size + 1, 0, none⟩) 1 1)).run Tryz.prog ((wr.alloc (.cells #[.int .u8 a, .int .u8 b] 118)).alloc (.cells #[.int .u8 u] 5)) = .ok (.string ⟨[byt u].toArray⟩) ((wr.alloc (.cells #[.int .u8 a, .int .u8 b] 118)).alloc (.cells #[.int .u8 u] 5)) := fun u => conv_box wr _ u
        by_cases hab : a = b
        · have HR := Lib.hid (HSM.out hab)
          subst hab
          have s1 := cat_str T [byt a] (by simp; omega)
          go_wp2
          go_roundw
          case rel => exact ⟨k + 1, by omega, by go_num, by rw [HST.out, HR.out], HB3.out _ _, HI3.out _ _⟩
          case measure => simp [intOf]; omega
        by_cases ha : a = 0
        · have HR := Lib.hid (HPU.out hab ha)
          subst ha
          have s1 := cat_str T [43] (by simp; omega)
          have s2 := cat_str (T ++ [43]) [byt b] (by simp; omega)
          go_wp2
          go_roundw
          case rel => exact ⟨k + 1, by omega, by go_num, by rw [HST.out, HR.out] <;> simp, HB3.out _ _, HI3.out _ _⟩
          case measure => simp [intOf]; omega
        by_cases hb : b = 0
        · have HR := Lib.hid (HAW.out ha hb)
          subst hb
          have s1 := cat_str T [45] (by simp; omega)
          have s2 := cat_str (T ++ [45]) [byt a] (by simp; omega)
          go_wp2
          go_roundw
          case rel => exact ⟨k + 1, by omega, by go_num, by rw [HST.out, HR.out] <;> simp, HB3.out _ _, HI3.out _ _⟩
          case measure => simp [intOf]; omega
        have HR := Lib.hid (HVO.out hab ha hb)
        have s1 := cat_str T [42] (by simp; omega)
        have s2 := cat_str (T ++ [42]) [byt a] (by simp; omega)
        go_wp2
        go_roundw
        case rel => exact ⟨k + 1, by omega, by go_num, by rw [HST.out, HR.out] <;> simp, HB3.out _ _, HI3.out _ _⟩
        case measure => simp [intOf]; omega
      · obtain rfl : k = l.length := by omega
        rw [List.take_length]
        by_cases hnil : l = []
        · have HR : Hid (r = noneB) := by unfold Hid; rw [HE2.out, if_pos hnil]
          subst hnil
          go_wp2
          go_ret
          exact ⟨ret_str (by rw [HR.out] <;> rfl), HBE.out⟩
        · have HR : Hid (r = ftC l) := by unfold Hid; rw [HE2.out, if_neg hnil]
          have hq : (⟨(ftC l).toArray⟩ : ByteArray).toList.isEmpty = false := bytes_some (by have := List.length_pos_iff.2 (fun e => hnil (ftC_nil.1 e)); simpa [ByteArray.size] using this)
          have HRS : Hid ((⟨(ftC l).toArray⟩ : ByteArray) = ⟨r.toArray⟩) := by unfold Hid; rw [HR.out]
          generalize (⟨(ftC l).toArray⟩ : ByteArray) = S at *
          go_wp2
          go_ret
          exact ⟨ret_str HRS.out, HBE.out⟩
end Go.Proofs.YtkaihnlknncfdaaGreatDoor

/- The model's FormatRow: what it answers. -/
namespace Go.Proofs.YtkaihnlknncfdaaGreatDoor
set_option maxRecDepth 100000
open Go.RowKit Go.Sort M Go.Lib
set_option linter.unusedVariables false
set_option linter.unusedSimpArgs false

theorem fmtZ_any (z : Int) (w : World) (h0 : 0 ≤ z) (h1 : z ≤ 16) : Calls Tryz.prog 135 #[.int .i64 z] w fun e w' => e = .returned (.string (itoaB z)) ∧ Below w.heap.size w w' := by
  by_cases h : z = 0
  · subst h; exact fmt_zero w
  · obtain ⟨m, rfl⟩ : ∃ m : Nat, z = (m : Int) := ⟨z.toNat, by omega⟩
    exact fmt_pos m w (by omega) (by omega)
set_option maxHeartbeats 4000000 in
theorem specNum_any (m : List Int) (v : Value) (F : Addr → Prop) (w : World) (hm : ∀ z ∈ m, 0 ≤ z ∧ z ≤ 16) (h1 : 1 ≤ m.length) (h5 : m.length ≤ 5) (hv : RowRd Rep.int false w v m F) :
    Calls Tryz.prog 98 #[v] w fun e w' => e = .returned (.string (numT m)) ∧ Below w.heap.size w w' := by
  obtain ⟨A, cap, rfl⟩ := hv.form
  have HV := Lib.hid hv
  have HX : Hid (∀ k, k < m.length → ∃ y, m[k]? = some y ∧ 0 ≤ y ∧ y ≤ 16) := fun k hk => ⟨_, List.getElem?_eq_getElem hk, hm _ (List.getElem_mem hk)⟩
  have HSZ := Lib.hid (joinT_size hm)
  have HN : Hid (numT m = joinN (txtL m) m.length) := rfl
  have H1 : Hid (∀ z, m[0]? = some z → joinN (txtL m) 1 = ⟨#[]⟩ ++ itoaB z) := fun z h => joinN_one _ _ (txtL_at h)
  have H2 : Hid (∀ k z, 0 < k → m[k]? = some z → joinN (txtL m) (k + 1) = joinN (txtL m) k ++ ⟨#[44]⟩ ++ itoaB z) := fun k z h0 h => joinN_more _ _ _ h0 (txtL_at h)
  clear hv hm
  generalize hll : m.length = n at *
  go_enter Tryz.func98, Tryz.ntmps98
  go_wp2
  go_loopw [3, 4] (fun s i wr => ∃ (k : Nat), k ≤ n ∧ i = .int .i64 k ∧ s = .string (joinN (txtL m) k) ∧ Below w.heap.size w wr) (fun _ i _ => n - (intOf i).toNat)
  case atStart => exact ⟨0, by omega, rfl, rfl, Below.refl _ _⟩
  case round =>
    obtain ⟨k, hk, rfl, rfl, hbe0⟩ := hrel
    obtain ⟨w2, rfl⟩ : ∃ w2 : World, w2 = wr := ⟨_, rfl⟩
    have HB := Lib.hid hbe0
    clear hbe0
    by_cases hkl : k < n
    · obtain ⟨z, hz, hz0, hz1⟩ := HX.out k hkl
      have HC : Hid (∀ W, Calls Tryz.prog 135 #[.int .i64 z] W fun e w' => e = .returned (.string (itoaB z)) ∧ Below W.heap.size W w') := fun W => fmtZ_any z W hz0 hz1
      obtain ⟨g, off, xs, Fk, rfl, -, hra, -, hca⟩ := (HV.out.kept HB.out).get hz
      obtain ⟨rfl, -⟩ := id hra
      rw [show Rep.int.size = 1 from rfl] at hca
      have c0 := hca 0 _ rfl
      simp only [Nat.add_zero, Nat.mul_one] at c0
      have hs := itoaB_size z hz0 hz1
      have hj := (HSZ.out k (by omega)).1
      rcases Nat.eq_zero_or_pos k with h0 | h0
      · subst h0
        simp only [Nat.add_zero] at c0
        have HN1 := Lib.hid (H1.out z hz)
        have hadd := add_anyT (⟨#[]⟩ : ByteArray) (itoaB z) (by have : (⟨#[]⟩ : ByteArray).size = 0 := rfl; omega)
        rw [show joinN (txtL m) 0 = ⟨#[]⟩ from rfl]
        clear hca hra hz hs hj
        generalize itoaB z = T at *
        go_wp2_with fail
        refine (HC.out _).mono ?_
        rintro e w3 ⟨rfl, hb⟩
        have HB3 := Lib.hid (below_step HB.out hb)
        clear hb c0
        go_wp2
        go_roundw
        case rel => exact ⟨1, by omega, by go_num, by rw [HN1.out], HB3.out⟩
        case measure => simp [intOf]; omega
      · have HN1 := Lib.hid (H2.out k z h0 hz)
        generalize joinN (txtL m) k = J at *
        have hadd := add_anyT J (⟨#[44]⟩ : ByteArray) (by have : (⟨#[44]⟩ : ByteArray).size = 1 := rfl; omega)
        have hadd2 := add_anyT (J ++ (⟨#[44]⟩ : ByteArray)) (itoaB z) (by rw [ByteArray.size_append]; have : (⟨#[44]⟩ : ByteArray).size = 1 := rfl; omega)
        have h0i : (0 : Int) < (k : Int) := by omega
        clear hca hra hz hs hj
        generalize itoaB z = T at *
        go_wp2_with fail
        refine (HC.out _).mono ?_
        rintro e w3 ⟨rfl, hb⟩
        have HB3 := Lib.hid (below_step HB.out hb)
        clear hb c0
        go_wp2
        go_roundw
        case rel => exact ⟨k + 1, by omega, by go_num, by rw [HN1.out], HB3.out⟩
        case measure => simp [intOf]; omega
    · obtain rfl : k = n := by omega
      have hne : ((joinN (txtL m) k).toList == (⟨#[]⟩ : ByteArray).toList) = false := by
        have := (HSZ.out k (Nat.le_refl _)).2 (by omega)
        rw [txt_eq]
        refine decide_eq_false fun e => ?_
        rw [e] at this
        exact absurd this (by decide)
      have hne2 : (joinN (txtL m) k).toList.isEmpty = false := by
        have := (HSZ.out k (Nat.le_refl _)).2 (by omega)
        rw [Lib.toList_data]
        cases hh : (joinN (txtL m) k).data.toList with
        | nil =>
          have h2 : (joinN (txtL m) k).size = 0 := by
            have : (joinN (txtL m) k).data.size = (joinN (txtL m) k).data.toList.length := by simp
            show (joinN (txtL m) k).data.size = 0
            rw [this, hh]; rfl
          omega
        | cons a b => rfl
      generalize joinN (txtL m) k = J at *
      go_wp2
      go_ret
      exact ⟨ret_str HN.out.symm, HB.out⟩
set_option maxHeartbeats 16000000 in
theorem specFr_any (x : DTableau) (A1 : Option Addr) (c1 : Nat) (A2 : Option Addr) (c2 : Nat) (A3 : Option Addr) (c3 : Nat) (F1 F2 F3 : Addr → Prop) (i : Int) (w : World) (hm : rTableau.sz x ≤ 1048576) (hv : TabRd false w (.slice A1 x.Names.length c1) (.slice A2 x.Rows.length c2) (.slice A3 x.Marks.length c3) x F1 F2 F3) :
    Calls Tryz.prog 46 #[.agg #[.string x.Input, .slice A1 x.Names.length c1, .slice A2 x.Rows.length c2, .slice A3 x.Marks.length c3], .int .i64 i] w fun e w' => e = .returned (.string (fmtR x i)) ∧ Below w.heap.size w w' := by
  obtain ⟨hz0, hz1, hz2, hz3, hz4, hz5⟩ := szTab_parts hm
  have HZ4 := Lib.hid hz4
  have HV := Lib.hid hv
  have HIT : Hid (∀ W, Below w.heap.size w W → Calls Tryz.prog 40 #[.agg #[.string x.Input, .slice A1 x.Names.length c1, .slice A2 x.Rows.length c2, .slice A3 x.Marks.length c3]] W fun e w' => e = .returned (.bool (isTab x)) ∧ Below W.heap.size W w') := fun W hW => specTab_any x A1 c1 A2 c2 A3 c3 F1 F2 F3 W hm (hv.kept hW)
  have HNO : Hid (∀ b, isTab x = b → b = false → fmtR x i = ⟨#[]⟩) := fun b h1 h2 => fmtR_out (by rw [rowsL_no (h1.trans h2)]; simp)
  have HYE : Hid (∀ b, isTab x = b → b = true → (x.Marks.length = x.Rows.length ∧ (rowsL x).length = x.Rows.length ∧ ∀ k c m, x.Rows[k]? = some c → x.Marks[k]? = some m → (rowsL x)[k]? = some (c, m))) := fun b h1 h2 => by
    have h3 := headT_parts (headT_of (h1.trans h2))
    exact ⟨h3.2.2.2.2, rowsL_len (h1.trans h2), fun k c m h4 h5 => rowsL_at (h1.trans h2) h4 h5⟩
  have HN2 := Lib.hid (HNO.out _ rfl)
  have HY2 := Lib.hid (HYE.out _ rfl)
  have HNEG : Hid (i < 0 → fmtR x i = ⟨#[]⟩) := fun h => fmtR_neg (by omega)
  have HOUT : Hid ((rowsL x).length ≤ i.toNat → fmtR x i = ⟨#[]⟩) := fmtR_out
  clear hv hz4 hz5 hm HNO HYE
  generalize isTab x = t at *
  have HA : Hid (∀ o, Below w.heap.size w (w.alloc o)) := fun o => (Below.refl _ _).alloc (Nat.le_refl _) _
  have HA1 : Hid (InC (w.alloc (.cells #[.string x.Input, .slice A1 x.Names.length c1, .slice A2 x.Rows.length c2, .slice A3 x.Marks.length c3] 32)) w.heap.size #[.string x.Input, .slice A1 x.Names.length c1, .slice A2 x.Rows.length c2, .slice A3 x.Marks.length c3] 32) := heap_alloc_new _ _
  go_enter Tryz.func46, Tryz.ntmps46
  go_wp2_with fail
  refine (HIT.out _ (HA.out _)).mono ?_
  rintro e w1 ⟨rfl, hb⟩
  have HB1 : Hid (Below w.heap.size w w1) := below_step (HA.out _) hb
  have HX1 := Lib.hid (HA1.out.kept hb)
  have b2 := HX1.out.cell 2 rfl
  clear hb
  cases t with
  | false =>
    have HN := Lib.hid (HN2.out rfl)
    go_wp2
    go_ret
    exact ⟨ret_str HN.out.symm, HB1.out⟩
  | true =>
  obtain ⟨hml, hrl, hat⟩ := HY2.out rfl
  have HAT := Lib.hid hat
  by_cases hi0 : i < 0
  case pos =>
    have HN := Lib.hid (HNEG.out hi0)
    have e1 : decide (i < 0) = true := decide_eq_true hi0
    clear hml hrl hat
    go_wp2
    go_ret
    exact ⟨ret_str HN.out.symm, HB1.out⟩
  have e1 : decide (i < 0) = false := decide_eq_false hi0
  obtain ⟨k, rfl⟩ : ∃ k : Nat, i = (k : Int) := ⟨i.toNat, by omega⟩
  by_cases hkl : k < x.Rows.length
  case neg =>
    have HN : Hid (fmtR x (k : Int) = ⟨#[]⟩) := HOUT.out (by rw [hrl, Int.toNat_natCast]; omega)
    have e2 : decide ((x.Rows.length : Int) ≤ (k : Int)) = true := decide_eq_true (by omega)
    have e3 : decide (x.Rows.length ≤ k) = true := decide_eq_true (by omega)
    clear hml hrl hat hi0
    go_wp2
    go_ret
    exact ⟨ret_str HN.out.symm, HB1.out⟩
  have e2 : decide ((x.Rows.length : Int) ≤ (k : Int)) = false := decide_eq_false (by omega)
  have e3 : decide (x.Rows.length ≤ k) = false := decide_eq_false (by omega)
  obtain ⟨c, hc⟩ : ∃ c, x.Rows[k]? = some c := ⟨_, List.getElem?_eq_getElem hkl⟩
  obtain ⟨m, hmk⟩ : ∃ m, x.Marks[k]? = some m := ⟨_, List.getElem?_eq_getElem (by omega)⟩
  have hro := HAT.out k c m hc hmk
  obtain ⟨hr1, hr2, hr3, hr4⟩ := rows_marks hro
  have HFR := Lib.hid (fmtR_at hro)
  have HL := HZ4.out k c hc
  obtain ⟨g2, o2, xs2, G2, rfl, -, hr2', -, hc2⟩ := (HV.out.rows.kept HB1.out).get hc
  obtain ⟨v2, rfl, q2⟩ := rCandidate_rd hr2'
  obtain ⟨g3, o3, xs3, G3, rfl, -, hr3', -, hc3⟩ := (HV.out.marks.kept HB1.out).get hmk
  obtain ⟨v3, rfl, q3⟩ := id hr3'
  rw [rCandidate_size] at hc2
  rw [show (Rep.row Rep.int).size = 1 from rfl] at hc3
  have d2 := hc2 0 _ rfl
  have d3 := hc3 0 _ rfl
  simp only [Nat.add_zero, Nat.mul_one] at d2 d3
  have HC2 : Hid (∀ W : World, Below w1.heap.size w1 W → W.cell? ⟨g2, o2 + k, none⟩ = some v2) := fun W hW => cell_kept hW d2
  have HC3 : Hid (∀ W : World, Below w1.heap.size w1 W → W.cell? ⟨g3, o3 + k, none⟩ = some v3) := fun W hW => cell_kept hW d3
  have HB2 : Hid (∀ W : World, Below w1.heap.size w1 W → W.cell? ⟨w.heap.size, 2, none⟩ = some (.slice (some ⟨g2, o2, none⟩) x.Rows.length c2)) := fun W hW => (HX1.out.kept hW).cell 2 rfl
  have HB3 : Hid (∀ W : World, Below w1.heap.size w1 W → W.cell? ⟨w.heap.size, 3, none⟩ = some (.slice (some ⟨g3, o3, none⟩) x.Marks.length c3)) := fun W hW => (HX1.out.kept hW).cell 3 rfl
  have HFC : Hid (∀ W, Below w1.heap.size w1 W → Calls Tryz.prog 97 #[.agg #[v2]] W fun e w' => e = .returned (.string ⟨(fmtC c.Links).toArray⟩) ∧ Below W.heap.size W w') := fun W hW => specFmt_cd c v2 G2 W HL (q2.kept hW)
  have HNU : Hid (∀ W, Below w1.heap.size w1 W → Calls Tryz.prog 98 #[v3] W fun e w' => e = .returned (.string (numT m)) ∧ Below W.heap.size W w') := fun W hW => specNum_any m v3 G3 W hr1 hr2 hr3 (q3.kept hW)
  have hs1 := fmtC_size c.Links hr4
  have hs2 := (joinT_size hr1 m.length (Nat.le_refl _)).1
  have HNM : Hid (numT m = joinN (txtL m) m.length) := rfl
  rw [← HNM.out] at hs2
  have hkm : k < x.Marks.length := by omega
  have hkm2 : (k : Int) < (x.Marks.length : Int) := by omega
  have hkr : (k : Int) < (x.Rows.length : Int) := by omega
  have HMS := Lib.hid hs2
  have hr3b : m.length ≤ 5 := hr3
  have h110 : 22 * m.length ≤ 110 := by omega
  clear hc hmk hro hr1 hr2' hr3' hc2 hc3 d3 q2 q3 hrl hat HL hi0 hml
  generalize (⟨(fmtC c.Links).toArray⟩ : ByteArray) = T1 at *
  generalize numT m = T2 at *
  have hadd1 := add_anyT T1 (⟨#[32]⟩ : ByteArray) (by have : (⟨#[32]⟩ : ByteArray).size = 1 := rfl; omega)
  have hadd2 := add_anyT (T1 ++ (⟨#[32]⟩ : ByteArray)) T2 (by rw [ByteArray.size_append]; have : (⟨#[32]⟩ : ByteArray).size = 1 := rfl; omega)
  clear hs1 hs2 h110 hr2 hr3
  go_upto_region 3 with fail
  clear d2 b2
  refine wp_region_held_drew (S := fun w' => Below w1.heap.size w1 w') (by kernel_rfl) ((Below.refl _ _).drew) (fun hHeld => ?_)
  refine' wpAnyH_take (i := 0) (oi := _) (v := ?v1) rfl ?hs1 ?hf1 ?hr1 ?hQ1 (Or.inl ⟨?hw1, ?hy1⟩) hHeld ?rest1
  case hs1 => kernel_rfl
  case hf1 => kernel_rfl
  case hr1 => kernel_rfl
  case hQ1 => exact fun _ _ _ h => h
  case hw1 => kernel_rfl
  case hy1 => (intro w' hw'; go_simp; try with_reducible rfl)
  (try change wpAnyH _ _ _ _ _ _ _ (Act.put _ (some 19) _) _)
  try simp only [Act.put, List.setIfInBounds_toArray, List.set_cons_zero, List.set_cons_succ]
  refine' wpAnyH_take (i := 1) (oi := _) (v := ?v2) rfl ?hs2 ?hf2 ?hr2 ?hQ2 (Or.inl ⟨?hw2, ?hy2⟩) hHeld ?rest2
  case hs2 => kernel_rfl
  case hf2 => kernel_rfl
  case hr2 => kernel_rfl
  case hQ2 => exact fun _ _ _ h => h
  case hw2 => kernel_rfl
  case hy2 => (intro w' hw'; have c1' := HB2.out _ hw'; have c2' := HB3.out _ hw'; have c4' := HC2.out _ hw'; have c5' := HC3.out _ hw'; go_simp; try with_reducible rfl)
  (try change wpAnyH _ _ _ _ _ _ _ (Act.put _ (some 20) _) _)
  try simp only [Act.put, List.setIfInBounds_toArray, List.set_cons_zero, List.set_cons_succ]
  refine' wpAnyH_take (i := 2) (oi := _) (v := ?v3) rfl ?hs3 ?hf3 ?hr3 ?hQ3 (Or.inl ⟨?hw3, ?hy3⟩) hHeld ?rest3
  case hs3 => kernel_rfl
  case hf3 => kernel_rfl
  case hr3 => kernel_rfl
  case hQ3 => exact fun _ _ _ h => h
  case hw3 => kernel_rfl
  case hy3 => (intro w' hw'; go_simp; try with_reducible rfl)
  (try change wpAnyH _ _ _ _ _ _ _ (Act.put _ (some 21) _) _)
  try simp only [Act.put, List.setIfInBounds_toArray, List.set_cons_zero, List.set_cons_succ]
  refine' wpAnyH_take (i := 3) (oi := _) (v := ?v4) rfl ?hs4 ?hf4 ?hr4 ?hQ4 (Or.inl ⟨?hw4, ?hy4⟩) hHeld ?rest4
  case hs4 => kernel_rfl
  case hf4 => kernel_rfl
  case hr4 => kernel_rfl
  case hQ4 => exact fun _ _ _ h => h
  case hw4 => kernel_rfl
  case hy4 => (intro w' hw'; go_simp; try with_reducible rfl)
  (try change wpAnyH _ _ _ _ _ _ _ (Act.put _ (some 22) _) _)
  try simp only [Act.put, List.setIfInBounds_toArray, List.set_cons_zero, List.set_cons_succ]
  refine' wpAnyH_take (i := 4) (oi := _) (v := ?v5) rfl ?hs5 ?hf5 ?hr5 ?hQ5 (Or.inl ⟨?hw5, ?hy5⟩) hHeld ?rest5
  case hs5 => kernel_rfl
  case hf5 => kernel_rfl
  case hr5 => kernel_rfl
  case hQ5 => exact fun _ _ _ h => h
  case hw5 => kernel_rfl
  case hy5 => (intro w' hw'; have c1' := HB2.out _ hw'; have c2' := HB3.out _ hw'; have c4' := HC2.out _ hw'; have c5' := HC3.out _ hw'; go_simp; try with_reducible rfl)
  (try change wpAnyH _ _ _ _ _ _ _ (Act.put _ (some 23) _) _)
  try simp only [Act.put, List.setIfInBounds_toArray, List.set_cons_zero, List.set_cons_succ]
  refine' wpAnyH_take (i := 7) (oi := _) (v := ?v6) rfl ?hs6 ?hf6 ?hr6 ?hQ6 (Or.inl ⟨?hw6, ?hy6⟩) hHeld ?rest6
  case hs6 => kernel_rfl
  case hf6 => kernel_rfl
  case hr6 => kernel_rfl
  case hQ6 => exact fun _ _ _ h => h
  case hw6 => kernel_rfl
  case hy6 => (intro w' hw'; go_simp; try with_reducible rfl)
  (try change wpAnyH _ _ _ _ _ _ _ (Act.put _ (some 26) _) _)
  try simp only [Act.put, List.setIfInBounds_toArray, List.set_cons_zero, List.set_cons_succ]
  refine' wpAnyH_take (i := 8) (oi := _) (v := ?v7) rfl ?hs7 ?hf7 ?hr7 ?hQ7 (Or.inl ⟨?hw7, ?hy7⟩) hHeld ?rest7
  case hs7 => kernel_rfl
  case hf7 => kernel_rfl
  case hr7 => kernel_rfl
  case hQ7 => exact fun _ _ _ h => h
  case hw7 => kernel_rfl
  case hy7 => (intro w' hw'; have c1' := HB2.out _ hw'; have c2' := HB3.out _ hw'; have c4' := HC2.out _ hw'; have c5' := HC3.out _ hw'; go_simp; try with_reducible rfl)
  (try change wpAnyH _ _ _ _ _ _ _ (Act.put _ (some 27) _) _)
  try simp only [Act.put, List.setIfInBounds_toArray, List.set_cons_zero, List.set_cons_succ]
  refine' wpAnyH_take (i := 9) (oi := _) (v := ?v8) rfl ?hs8 ?hf8 ?hr8 ?hQ8 (Or.inl ⟨?hw8, ?hy8⟩) hHeld ?rest8
  case hs8 => kernel_rfl
  case hf8 => kernel_rfl
  case hr8 => kernel_rfl
  case hQ8 => exact fun _ _ _ h => h
  case hw8 => kernel_rfl
  case hy8 => (intro w' hw'; go_simp; try with_reducible rfl)
  (try change wpAnyH _ _ _ _ _ _ _ (Act.put _ (some 28) _) _)
  try simp only [Act.put, List.setIfInBounds_toArray, List.set_cons_zero, List.set_cons_succ]
  refine' wpAnyH_take (i := 10) (oi := _) (v := ?v9) rfl ?hs9 ?hf9 ?hr9 ?hQ9 (Or.inl ⟨?hw9, ?hy9⟩) hHeld ?rest9
  case hs9 => kernel_rfl
  case hf9 => kernel_rfl
  case hr9 => kernel_rfl
  case hQ9 => exact fun _ _ _ h => h
  case hw9 => kernel_rfl
  case hy9 => (intro w' hw'; go_simp; try with_reducible rfl)
  (try change wpAnyH _ _ _ _ _ _ _ (Act.put _ (some 29) _) _)
  try simp only [Act.put, List.setIfInBounds_toArray, List.set_cons_zero, List.set_cons_succ]
  refine' wpAnyH_take (i := 11) (oi := _) (v := ?v10) rfl ?hs10 ?hf10 ?hr10 ?hQ10 (Or.inl ⟨?hw10, ?hy10⟩) hHeld ?rest10
  case hs10 => kernel_rfl
  case hf10 => kernel_rfl
  case hr10 => kernel_rfl
  case hQ10 => exact fun _ _ _ h => h
  case hw10 => kernel_rfl
  case hy10 => (intro w' hw'; have c1' := HB2.out _ hw'; have c2' := HB3.out _ hw'; have c4' := HC2.out _ hw'; have c5' := HC3.out _ hw'; go_simp; try with_reducible rfl)
  (try change wpAnyH _ _ _ _ _ _ _ (Act.put _ (some 30) _) _)
  try simp only [Act.put, List.setIfInBounds_toArray, List.set_cons_zero, List.set_cons_succ]
  refine wpAnyH_ready (rs := [5]) (by kernel_rfl) (by simp) ?_
  refine AllReadyH.cons rfl (fun K hK => ?_) AllReadyH.nil
  go_simp
  go_at_call 97; refine (HFC.out _ hHeld).mono ?_; rintro e wa ⟨rfl, hba⟩; have hbe := below_step hHeld hba; clear hba
  (try go_wp2_with fail)
  refine hK.out _ _ hbe (fun hHeld => ?_)
  clear hK K
  try simp only [Act.put, List.setIfInBounds_toArray, List.set_cons_zero, List.set_cons_succ]
  refine' wpAnyH_take (i := 6) (oi := _) (v := ?v11) rfl ?hs11 ?hf11 ?hr11 ?hQ11 (Or.inl ⟨?hw11, ?hy11⟩) hHeld ?rest11
  case hs11 => kernel_rfl
  case hf11 => kernel_rfl
  case hr11 => kernel_rfl
  case hQ11 => exact fun _ _ _ h => h
  case hw11 => kernel_rfl
  case hy11 => (intro w' hw'; go_simp; try with_reducible rfl)
  (try change wpAnyH _ _ _ _ _ _ _ (Act.put _ (some 25) _) _)
  try simp only [Act.put, List.setIfInBounds_toArray, List.set_cons_zero, List.set_cons_succ]
  refine wpAnyH_ready (rs := [12]) (by kernel_rfl) (by simp) ?_
  refine AllReadyH.cons rfl (fun K hK => ?_) AllReadyH.nil
  go_simp
  go_at_call 98; refine (HNU.out _ hHeld).mono ?_; rintro e wb ⟨rfl, hba⟩; have hbe := below_step hHeld hba; clear hba
  (try go_wp2_with fail)
  refine hK.out _ _ hbe (fun hHeld => ?_)
  clear hK K
  try simp only [Act.put, List.setIfInBounds_toArray, List.set_cons_zero, List.set_cons_succ]
  refine' wpAnyH_take (i := 13) (oi := _) (v := ?v12) rfl ?hs12 ?hf12 ?hr12 ?hQ12 (Or.inl ⟨?hw12, ?hy12⟩) hHeld ?rest12
  case hs12 => kernel_rfl
  case hf12 => kernel_rfl
  case hr12 => kernel_rfl
  case hQ12 => exact fun _ _ _ h => h
  case hw12 => kernel_rfl
  case hy12 => (intro w' hw'; go_simp; try with_reducible rfl)
  (try change wpAnyH _ _ _ _ _ _ _ (Act.put _ (some 32) _) _)
  try simp only [Act.put, List.setIfInBounds_toArray, List.set_cons_zero, List.set_cons_succ]
  refine' wpAnyH_take (i := 14) (oi := _) (v := ?v13) rfl ?hs13 ?hf13 ?hr13 ?hQ13 (Or.inl ⟨?hw13, ?hy13⟩) hHeld ?rest13
  case hs13 => kernel_rfl
  case hf13 => kernel_rfl
  case hr13 => kernel_rfl
  case hQ13 => exact fun _ _ _ h => h
  case hw13 => kernel_rfl
  case hy13 => (intro w' hw'; go_simp; try with_reducible rfl)
  (try change wpAnyH _ _ _ _ _ _ _ (Act.put _ (some 4) _) _)
  try simp only [Act.put, List.setIfInBounds_toArray, List.set_cons_zero, List.set_cons_succ]
  refine wpAnyH_done ?hdone14 ?hq14 _
  case hdone14 => kernel_rfl
  go_wp2
  go_ret
  exact ⟨ret_str HFR.out.symm, below_step HB1.out hHeld⟩
end Go.Proofs.YtkaihnlknncfdaaGreatDoor

/- The program's appendTo: what it answers. -/
namespace Go.Proofs.YtkaihnlknncfdaaGreatDoor
set_option maxRecDepth 100000
open Go.RowKit M
set_option linter.unusedVariables false
set_option linter.unusedSimpArgs false

theorem implOr_any (a b : Int) (g : Nat) (w : World) (h : InC w g #[.int .u8 a, .int .u8 b] 5) :
    Calls Tryz.prog 158 #[.slice (some ⟨g, 0, none⟩) 2 2] w fun e w' => e = .returned (.int .u8 (if a = 0 then b else a)) ∧ w = w' := by
  have c0 := h.cell 0 rfl
  have c1 := h.cell 1 rfl
  clear h
  go_enter Tryz.func158, Tryz.ntmps158
  go_wp2
  go_loop [8] (fun i => ∃ j : Nat, j ≤ 2 ∧ i = .int .i64 j ∧ Hid ((1 ≤ j → a = 0) ∧ (2 ≤ j → b = 0))) (fun i => 2 - (intOf i).toNat)
  case atStart => exact ⟨0, by omega, rfl, fun h => by omega, fun h => by omega⟩
  case round =>
    obtain ⟨j, hj, rfl, hx⟩ := hrel
    rcases (show j = 0 ∨ j = 1 ∨ j = 2 by omega) with rfl | rfl | rfl
    · by_cases ha : a = 0
      · subst ha
        go_wp2
        go_round
        case rel => exact ⟨1, by omega, by go_num, by simp [Hid]⟩
        case measure => simp [intOf]
      · go_wp2
        go_ret
        exact ⟨rfl, by trivial⟩
    · have ha : a = 0 := hx.out.1 (by omega)
      subst ha
      by_cases hb : b = 0
      · subst hb
        go_wp2
        go_round
        case rel => exact ⟨2, by omega, by go_num, by simp [Hid]⟩
        case measure => simp [intOf]
      · go_wp2
        go_ret
        exact ⟨rfl, by trivial⟩
    · have ha : a = 0 := hx.out.1 (by omega)
      have hb : b = 0 := hx.out.2 (by omega)
      subst ha hb
      go_wp2
      go_ret
      exact ⟨rfl, by trivial⟩
def AppPost (base : Nat) (t : List UInt8) (w : World) (e : Ending) (w' : World) : Prop := ∃ u, e = .returned u ∧ w'.ownsRow base 5 1 u t.length (cellsB t) ∧ Below base w w' ∧ ∀ (k : Nat) (o : Obj), w.heap[k]? = some o → (∀ c fz, o ≠ .cells c 5 fz) → w'.heap[k]? = some o
theorem not5 {cs : Array Value} {t : TypeId} (ht : t ≠ 5) : ∀ c fz, Obj.cells cs t (0, 0) ≠ .cells c 5 fz := by
  intro c fz e; injection e with _ e2 _; exact ht e2
theorem keep_alloc {w w' : World} (h : ∀ (k : Nat) (o : Obj), w.heap[k]? = some o → (∀ c fz, o ≠ .cells c 5 fz) → w'.heap[k]? = some o) {cs : Array Value} : ∀ (k : Nat) (o : Obj), w.heap[k]? = some o → (∀ c fz, o ≠ .cells c 5 fz) → (w'.alloc (.cells cs 5)).heap[k]? = some o := by
  intro k o hk hne
  have h1 := h k o hk hne
  have hlt : k < w'.heap.size := lt_of_block h1
  exact (Below.heap_alloc w' _ k hlt).trans h1
theorem ownsRow_drewN6 {w : World} {base n m : Nat} {v : Value} {c : List Value} (h : w.ownsRow base 5 1 v n c) : (w.drewN m).ownsRow base 5 1 v n c := by
  induction m generalizing w with
  | zero => exact h
  | succ m ih => exact ih h.drew
theorem wpList_append_byte_n {ops : Array Oper} {rest : List Oper} {o : Oper} {a : Act} {Q : Exit → Act → World → Prop} (w : World) (hgd : o.guard = none) (s x : Operand)
    (ho : o.op = .call { callee := .builtin .append, args := #[s, x], argTypes := #[112, 112] })
    (base : Nat) (v : Value) (n : Nat) (l : List UInt8) (hs : a.eval s = v) (hown : w.ownsRow base 5 1 v n (cellsB l)) (b : Int) (hb0 : 0 ≤ b) (hb1 : b < 256)
    (nb : Nat) (hnb : nb = w.heap.size) (hx : a.eval x = .slice (some ⟨nb, 0, none⟩) 1 1) (hn : n ≤ 70368744177664) (hbase : base ≤ w.heap.size)
    (h : ∀ v' w', w'.ownsRow base 5 1 v' (n + 1) (cellsB (l ++ [byt b])) → Below base w w' → (∀ (k : Nat) (o : Obj), w.heap[k]? = some o → (∀ c fz, o ≠ .cells c 5 fz) → w'.heap[k]? = some o) → wpList Tryz.prog ops Q rest (a.put o.dst v') w') :
    wpList Tryz.prog ops Q (o :: rest) a (w.alloc (.cells #[.int .u8 b] 5)) := by
  subst hnb
  exact wpList_append_byte_k w hgd s x ho base v n l hs hown b hb0 hb1 hx hn hbase h
theorem step_append_byte_n {ops : Array Oper} {o : Oper} {a : Act} {K : Act → World → Prop} {Q : Exit → Act → World → Prop} {E : Prop} (w : World) (hgd : o.guard = none) (s x : Operand)
    (ho : o.op = .call { callee := .builtin .append, args := #[s, x], argTypes := #[112, 112] })
    (base : Nat) (v : Value) (n : Nat) (l : List UInt8) (hown : w.ownsRow base 5 1 v n (cellsB l)) (b : Int) (hb0 : 0 ≤ b) (hb1 : b < 256)
    (nb : Nat) (hnb : nb = w.heap.size) (hn : n ≤ 70368744177664) (hbase : base ≤ w.heap.size) (hs : a.eval s = v) (hx : a.eval x = .slice (some ⟨nb, 0, none⟩) 1 1)
    (h : ∀ v' w', w'.ownsRow base 5 1 v' (n + 1) (cellsB (l ++ [byt b])) → Below base w w' → (∀ (k : Nat) (o : Obj), w.heap[k]? = some o → (∀ c fz, o ≠ .cells c 5 fz) → w'.heap[k]? = some o) → K (a.put o.dst v') w') :
    if Region.wanted o (yielded ops a.tmps) = true then Oper.wp Tryz.prog o a (w.alloc (.cells #[.int .u8 b] 5)) K Q else E := by
  have hw : Region.wanted o (yielded ops a.tmps) = true := by simp [Region.wanted, hgd]
  rw [if_pos hw]
  subst hnb
  obtain ⟨i0, hi, hz0, hz1, hz2⟩ := info_parts Tryz.info5
  refine wp_append_own (w.alloc (.cells #[.int .u8 b] 5)) s x 112 ho base 5 i0 (.int .u8 0) 1 1 Tryz.underlying112 hi hz0 hz1 hz2 rfl (by decide) v n (cellsB l) hs (hown.alloc _) ⟨w.heap.size, 0, none⟩ 1 1 [.int .u8 b] hx rfl (cell_one_new _ _ _)
    (fun u hu => by simp at hu; subst hu; rfl) (by unfold maxLen; omega) (by omega) (by simp; omega) ?_
  intro v' w' h1 h2 _
  refine h v' w' (by rw [cellsB_append, cellsB_one b hb0 hb1]; exact h1) ?_ ?_
  · exact ((Below.refl base w).alloc hbase _).grown h2 (by simp; omega) (fun q hq => (hown.lt q hq).1)
  · intro k ob hk hob
    have hlt : k < w.heap.size := lt_of_block hk
    have hne : some k ≠ v.ownBlock := by
      rcases hown.2 with ⟨rfl, _⟩ | ⟨g, cap, cur, rfl, _, hg, _⟩
      · simp [Value.ownBlock]
      · intro e
        have : k = g := by simpa [Value.ownBlock] using e
        subst this
        rw [hk] at hg
        exact hob _ _ (Option.some.inj hg)
    rw [h2.block k (by simp; omega) hne, Below.heap_alloc _ _ _ hlt, hk]
theorem step_append_byte_drew {ops : Array Oper} {o : Oper} {a : Act} {K : Act → World → Prop} {Q : Exit → Act → World → Prop} {E : Prop} (w : World) (hgd : o.guard = none) (s x : Operand)
    (ho : o.op = .call { callee := .builtin .append, args := #[s, x], argTypes := #[112, 112] })
    (base : Nat) (v : Value) (n : Nat) (l : List UInt8) (hown : w.ownsRow base 5 1 v n (cellsB l)) (b : Int) (hb0 : 0 ≤ b) (hb1 : b < 256)
    (nb : Nat) (hnb : nb = w.heap.size) (hn : n ≤ 70368744177664) (hbase : base ≤ w.heap.size) (hs : a.eval s = v) (hx : a.eval x = .slice (some ⟨nb, 0, none⟩) 1 1)
    (h : ∀ v' w', w'.ownsRow base 5 1 v' (n + 1) (cellsB (l ++ [byt b])) → Below base w w' → (∀ (k : Nat) (o : Obj), w.heap[k]? = some o → (∀ c fz, o ≠ .cells c 5 fz) → w'.heap[k]? = some o) → K (a.put o.dst v') w') :
    if Region.wanted o (yielded ops a.tmps) = true then Oper.wp Tryz.prog o a ((w.alloc (.cells #[.int .u8 b] 5)).drew) K Q else E :=
  step_append_byte_n w.drew hgd s x ho base v n l hown.drew b hb0 hb1 nb hnb hn hbase hs hx fun v' w' h1 h2 h3 => h v' w' h1 ⟨h2.os, h2.tape, h2.output, h2.size, h2.block⟩ h3
theorem sign_byt : byt 43 = 43 ∧ byt 45 = 45 ∧ byt 42 = 42 := by decide
set_option maxHeartbeats 4000000 in
theorem implApp_any (y : DLink) (g base : Nat) (u : Value) (t : List UInt8) (w : World) (hok : okL y = true) (hL : InC w g #[.int .u8 (y.In.toNat : Int), .int .u8 (y.Out.toNat : Int)] 118) (ht : w.ownsRow base 5 1 u t.length (cellsB t)) (hn : t.length ≤ 1000000) (hb : base ≤ w.heap.size) :
    Calls Tryz.prog 136 #[.pointer (some ⟨g, 0, none⟩), u] w (AppPost base (t ++ ftK y) w) := by
  have HSM : Hid ((y.In.toNat : Int) = (y.Out.toNat : Int) → ftK y = [byt (y.In.toNat : Int)]) := ft_same
  have HPU : Hid ((y.In.toNat : Int) = 0 → ftK y = [43, byt (y.Out.toNat : Int)]) := fun h0 => ft_put (ok_put hok h0) h0
  have HAW : Hid (¬ (y.In.toNat : Int) = 0 → (y.Out.toNat : Int) = 0 → ftK y = [45, byt (y.In.toNat : Int)]) := fun h h0 => ft_away h h0
  have HVO : Hid (¬ (y.In.toNat : Int) = (y.Out.toNat : Int) → ¬ (y.In.toNat : Int) = 0 → ¬ (y.Out.toNat : Int) = 0 → ftK y = [42, byt (y.In.toNat : Int)]) := fun h h1 h2 => ft_voice h h1 h2
  have ha := u8_in y.In
  have hb8 := u8_in y.Out
  generalize ftK y = r at *
  generalize (y.In.toNat : Int) = a at *
  generalize (y.Out.toNat : Int) = b at *
  have c0 := hL.cell 0 rfl
  have c1 := hL.cell 1 rfl
  have HL := Lib.hid hL
  have HT := Lib.hid ht
  have HN := Lib.hid hn
  have HBS := Lib.hid hb
  have HAB := Lib.hid (And.intro ha hb8)
  clear hL ht hn hb ha hb8 hok
  go_enter Tryz.func136, Tryz.ntmps136
  by_cases ha : a = 0
  case pos =>
    have HR := Lib.hid (HPU.out ha)
    subst ha
    go_wp2_with (at_builtin; refine wpList_append_byte_n _ rfl (.tmp 11) (.tmp 12) rfl base _ _ _ rfl HT.out 43 (by omega) (by omega) _ (by simp) rfl (by have := HN.out; omega) HBS.out ?_; intro v1 w1 h1 hb1 hk1; have hl1 : InC w1 g #[.int .u8 0, .int .u8 b] 118 := hk1 _ _ HL.out (not5 (by decide)); have d0 := hl1.cell 0 rfl; have d1 := hl1.cell 1 rfl; have HT1 := Lib.hid h1; have HK1 := Lib.hid hk1; have HB1 := Lib.hid hb1; clear h1 hb1 hk1 hl1)
    have HT2 : Hid ((w1.alloc (.cells #[.int .u8 0, .int .u8 b] 5)).ownsRow base 5 1 _ _ (cellsB (t ++ [byt 43]))) := HT1.out.alloc _
    have HB2 : Hid (Below base w (w1.alloc (.cells #[.int .u8 0, .int .u8 b] 5))) := HB1.out.alloc (Nat.le_trans HBS.out HB1.out.size) _
    have HK2 := Lib.hid (keep_alloc HK1.out (cs := #[.int .u8 0, .int .u8 b]))
    have HOR : Hid (∀ W : World, W.heap = (w1.alloc (.cells #[.int .u8 0, .int .u8 b] 5)).heap → Calls Tryz.prog 158 #[.slice (some ⟨w1.heap.size, 0, none⟩) 2 2] W fun e w' => e = .returned (.int .u8 b) ∧ W = w') := fun W hW => by
      have hh := implOr_any 0 b w1.heap.size W (by unfold InC; rw [hW]; exact heap_alloc_new w1 _)
      rwa [show (if (0 : Int) = 0 then b else 0) = b from if_pos rfl] at hh
    have HQ : Hid (0 ≤ b ∧ b < 256) := by have := HAB.out; unfold Hid; omega
    have HNB : Hid (w1.heap.size + 1 = (w1.alloc (.cells #[.int .u8 0, .int .u8 b] 5)).heap.size) := by unfold Hid; simp
    have HN2 : Hid ((t.length + 1) ≤ 70368744177664) := by have := HN.out; unfold Hid; omega
    have HBS2 : Hid (base ≤ (w1.alloc (.cells #[.int .u8 0, .int .u8 b] 5)).heap.size) := Nat.le_trans HBS.out HB2.out.size
    go_region_law (first | (go_simp; go_at_call 158; refine (HOR.out _ ?_).mono ?_; rfl; rintro e w2 ⟨rfl, rfl⟩) | (refine step_append_byte_drew (w1.alloc (.cells #[.int .u8 0, .int .u8 b] 5)) rfl (.tmp 36) (.tmp 47) rfl base v1 (t.length + 1) (t ++ [byt 43]) HT2.out b HQ.out.1 HQ.out.2 (w1.heap.size + 1) HNB.out HN2.out HBS2.out (by simp [Act.eval]) (by simp [Act.eval]) ?_; intro v3 w3 h1 hb1 hk1; have HT3 := Lib.hid h1; have HB3 := Lib.hid (HB2.out.trans hb1); have HK3 := Lib.hid hk1; clear h1 hb1 hk1))
    all_goals
      go_wp2
      go_ret
      exact ⟨v3, rfl, by rw [HR.out]; simpa [Hid, List.length_append, Nat.add_assoc, sign_byt] using HT3, HB3.out, fun k o h hne => HK3.out k o (HK2.out k o h hne) hne⟩
  by_cases hb : b = 0
  case pos =>
    have HR := Lib.hid (HAW.out ha hb)
    subst hb
    go_wp2_with (at_builtin; refine wpList_append_byte_n _ rfl (.tmp 20) (.tmp 21) rfl base _ _ _ rfl HT.out 45 (by omega) (by omega) _ (by simp) rfl (by have := HN.out; omega) HBS.out ?_; intro v1 w1 h1 hb1 hk1; have hl1 : InC w1 g #[.int .u8 a, .int .u8 0] 118 := hk1 _ _ HL.out (not5 (by decide)); have d0 := hl1.cell 0 rfl; have d1 := hl1.cell 1 rfl; have HT1 := Lib.hid h1; have HK1 := Lib.hid hk1; have HB1 := Lib.hid hb1; clear h1 hb1 hk1 hl1)
    have HT2 : Hid ((w1.alloc (.cells #[.int .u8 a, .int .u8 0] 5)).ownsRow base 5 1 _ _ (cellsB (t ++ [byt 45]))) := HT1.out.alloc _
    have HB2 : Hid (Below base w (w1.alloc (.cells #[.int .u8 a, .int .u8 0] 5))) := HB1.out.alloc (Nat.le_trans HBS.out HB1.out.size) _
    have HK2 := Lib.hid (keep_alloc HK1.out (cs := #[.int .u8 a, .int .u8 0]))
    have HOR : Hid (∀ W : World, W.heap = (w1.alloc (.cells #[.int .u8 a, .int .u8 0] 5)).heap → Calls Tryz.prog 158 #[.slice (some ⟨w1.heap.size, 0, none⟩) 2 2] W fun e w' => e = .returned (.int .u8 a) ∧ W = w') := fun W hW => by
      have hh := implOr_any a 0 w1.heap.size W (by unfold InC; rw [hW]; exact heap_alloc_new w1 _)
      rwa [show (if a = 0 then 0 else a) = a from if_neg ha] at hh
    have HQ : Hid (0 ≤ a ∧ a < 256) := by have := HAB.out; unfold Hid; omega
    have HNB : Hid (w1.heap.size + 1 = (w1.alloc (.cells #[.int .u8 a, .int .u8 0] 5)).heap.size) := by unfold Hid; simp
    have HN2 : Hid ((t.length + 1) ≤ 70368744177664) := by have := HN.out; unfold Hid; omega
    have HBS2 : Hid (base ≤ (w1.alloc (.cells #[.int .u8 a, .int .u8 0] 5)).heap.size) := Nat.le_trans HBS.out HB2.out.size
    go_region_law (first | (go_simp; go_at_call 158; refine (HOR.out _ ?_).mono ?_; rfl; rintro e w2 ⟨rfl, rfl⟩) | (refine step_append_byte_drew (w1.alloc (.cells #[.int .u8 a, .int .u8 0] 5)) rfl (.tmp 36) (.tmp 47) rfl base v1 (t.length + 1) (t ++ [byt 45]) HT2.out a HQ.out.1 HQ.out.2 (w1.heap.size + 1) HNB.out HN2.out HBS2.out (by simp [Act.eval]) (by simp [Act.eval]) ?_; intro v3 w3 h1 hb1 hk1; have HT3 := Lib.hid h1; have HB3 := Lib.hid (HB2.out.trans hb1); have HK3 := Lib.hid hk1; clear h1 hb1 hk1))
    all_goals
      go_wp2
      go_ret
      exact ⟨v3, rfl, by rw [HR.out]; simpa [Hid, List.length_append, Nat.add_assoc, sign_byt] using HT3, HB3.out, fun k o h hne => HK3.out k o (HK2.out k o h hne) hne⟩
  by_cases hab : a = b
  case pos =>
    have HR := Lib.hid (HSM.out hab)
    subst hab
    go_wp2
    go_quiet (fail)
    generalize hwd : w.drewN nq = w1 at *
    have hl1 : InC w1 g #[.int .u8 a, .int .u8 a] 118 := by rw [← hwd]; exact inC_drewN HL.out
    have d0 := hl1.cell 0 rfl
    have d1 := hl1.cell 1 rfl
    have HT1 : Hid (w1.ownsRow base 5 1 u t.length (cellsB t)) := by unfold Hid; rw [← hwd]; exact ownsRow_drewN6 HT.out
    have HB1 : Hid (Below base w w1) := by unfold Hid; rw [← hwd]; exact Below6.drewN (Below.refl _ _)
    have HK1 : Hid (∀ (k : Nat) (o : Obj), w.heap[k]? = some o → (∀ c fz, o ≠ .cells c 5 fz) → w1.heap[k]? = some o) := by unfold Hid; rw [← hwd]; intro k o h _; rw [drewN_heap]; exact h
    clear hwd hl1
    go_wp2
    have HT2 : Hid ((w1.alloc (.cells #[.int .u8 a, .int .u8 a] 5)).ownsRow base 5 1 _ _ (cellsB t)) := HT1.out.alloc _
    have HB2 : Hid (Below base w (w1.alloc (.cells #[.int .u8 a, .int .u8 a] 5))) := HB1.out.alloc (Nat.le_trans HBS.out HB1.out.size) _
    have HK2 := Lib.hid (keep_alloc HK1.out (cs := #[.int .u8 a, .int .u8 a]))
    have HOR : Hid (∀ W : World, W.heap = (w1.alloc (.cells #[.int .u8 a, .int .u8 a] 5)).heap → Calls Tryz.prog 158 #[.slice (some ⟨w1.heap.size, 0, none⟩) 2 2] W fun e w' => e = .returned (.int .u8 a) ∧ W = w') := fun W hW => by
      have hh := implOr_any a a w1.heap.size W (by unfold InC; rw [hW]; exact heap_alloc_new w1 _)
      rwa [show (if a = 0 then a else a) = a from if_neg ha] at hh
    have HQ : Hid (0 ≤ a ∧ a < 256) := by have := HAB.out; unfold Hid; omega
    have HNB : Hid (w1.heap.size + 1 = (w1.alloc (.cells #[.int .u8 a, .int .u8 a] 5)).heap.size) := by unfold Hid; simp
    have HN2 : Hid (t.length ≤ 70368744177664) := by have := HN.out; unfold Hid; omega
    have HBS2 : Hid (base ≤ (w1.alloc (.cells #[.int .u8 a, .int .u8 a] 5)).heap.size) := Nat.le_trans HBS.out HB2.out.size
    go_region_law (first | (go_simp; go_at_call 158; refine (HOR.out _ ?_).mono ?_; rfl; rintro e w2 ⟨rfl, rfl⟩) | (refine step_append_byte_drew (w1.alloc (.cells #[.int .u8 a, .int .u8 a] 5)) rfl (.tmp 36) (.tmp 47) rfl base u t.length t HT2.out a HQ.out.1 HQ.out.2 (w1.heap.size + 1) HNB.out HN2.out HBS2.out (by simp [Act.eval]) (by simp [Act.eval]) ?_; intro v3 w3 h1 hb1 hk1; have HT3 := Lib.hid h1; have HB3 := Lib.hid (HB2.out.trans hb1); have HK3 := Lib.hid hk1; clear h1 hb1 hk1))
    all_goals
      go_wp2
      go_ret
      exact ⟨v3, rfl, by rw [HR.out]; simpa [Hid, List.length_append, Nat.add_assoc, sign_byt] using HT3, HB3.out, fun k o h hne => HK3.out k o (HK2.out k o h hne) hne⟩
  have HR := Lib.hid (HVO.out hab ha hb)
  go_wp2
  go_quiet (fail)
  generalize hwd : w.drewN nq = wd at *
  have HTd : Hid (wd.ownsRow base 5 1 u t.length (cellsB t)) := by unfold Hid; rw [← hwd]; exact ownsRow_drewN6 HT.out
  have HLd : Hid (InC wd g #[.int .u8 a, .int .u8 b] 118) := by unfold Hid; rw [← hwd]; exact inC_drewN HL.out
  have HBd : Hid (Below base w wd) := by unfold Hid; rw [← hwd]; exact Below6.drewN (Below.refl _ _)
  have HKd : Hid (∀ (k : Nat) (o : Obj), w.heap[k]? = some o → (∀ c fz, o ≠ .cells c 5 fz) → wd.heap[k]? = some o) := by unfold Hid; rw [← hwd]; intro k o h _; rw [drewN_heap]; exact h
  have HSd : Hid (base ≤ wd.heap.size) := by unfold Hid; rw [← hwd, drewN_heap]; exact HBS.out
  clear hwd
  go_wp2_with (at_builtin; refine wpList_append_byte_n _ rfl (.tmp 33) (.tmp 34) rfl base _ _ _ rfl HTd.out 42 (by omega) (by omega) _ (by simp) rfl (by have := HN.out; omega) HSd.out ?_; intro v1 w1 h1 hb1 hk1; have hl1 : InC w1 g #[.int .u8 a, .int .u8 b] 118 := hk1 _ _ HLd.out (not5 (by decide)); have d0 := hl1.cell 0 rfl; have d1 := hl1.cell 1 rfl; have HT1 := Lib.hid h1; have HK1 := Lib.hid hk1; have HB1 := Lib.hid hb1; clear h1 hb1 hk1 hl1)
  replace HB1 := Lib.hid (HBd.out.trans HB1.out)
  replace HK1 : Hid (∀ (k : Nat) (o : Obj), w.heap[k]? = some o → (∀ c fz, o ≠ .cells c 5 fz) → w1.heap[k]? = some o) := fun k o h hne => HK1.out k o (HKd.out k o h hne) hne
  have HT2 : Hid ((w1.alloc (.cells #[.int .u8 a, .int .u8 b] 5)).ownsRow base 5 1 _ _ (cellsB (t ++ [byt 42]))) := HT1.out.alloc _
  have HB2 : Hid (Below base w (w1.alloc (.cells #[.int .u8 a, .int .u8 b] 5))) := HB1.out.alloc (Nat.le_trans HBS.out HB1.out.size) _
  have HK2 := Lib.hid (keep_alloc HK1.out (cs := #[.int .u8 a, .int .u8 b]))
  have HOR : Hid (∀ W : World, W.heap = (w1.alloc (.cells #[.int .u8 a, .int .u8 b] 5)).heap → Calls Tryz.prog 158 #[.slice (some ⟨w1.heap.size, 0, none⟩) 2 2] W fun e w' => e = .returned (.int .u8 a) ∧ W = w') := fun W hW => by
    have hh := implOr_any a b w1.heap.size W (by unfold InC; rw [hW]; exact heap_alloc_new w1 _)
    rwa [show (if a = 0 then b else a) = a from if_neg ha] at hh
  have HQ : Hid (0 ≤ a ∧ a < 256) := by have := HAB.out; unfold Hid; omega
  have HNB : Hid (w1.heap.size + 1 = (w1.alloc (.cells #[.int .u8 a, .int .u8 b] 5)).heap.size) := by unfold Hid; simp
  have HN2 : Hid ((t.length + 1) ≤ 70368744177664) := by have := HN.out; unfold Hid; omega
  have HBS2 : Hid (base ≤ (w1.alloc (.cells #[.int .u8 a, .int .u8 b] 5)).heap.size) := Nat.le_trans HBS.out HB2.out.size
  go_region_law (first | (go_simp; go_at_call 158; refine (HOR.out _ ?_).mono ?_; rfl; rintro e w2 ⟨rfl, rfl⟩) | (refine step_append_byte_drew (w1.alloc (.cells #[.int .u8 a, .int .u8 b] 5)) rfl (.tmp 36) (.tmp 47) rfl base v1 (t.length + 1) (t ++ [byt 42]) HT2.out a HQ.out.1 HQ.out.2 (w1.heap.size + 1) HNB.out HN2.out HBS2.out (by simp [Act.eval]) (by simp [Act.eval]) ?_; intro v3 w3 h1 hb1 hk1; have HT3 := Lib.hid h1; have HB3 := Lib.hid (HB2.out.trans hb1); have HK3 := Lib.hid hk1; clear h1 hb1 hk1))
  all_goals
    go_wp2
    go_ret
    exact ⟨v3, rfl, by rw [HR.out]; simpa [Hid, List.length_append, Nat.add_assoc, sign_byt] using HT3, HB3.out, fun k o h hne => HK3.out k o (HK2.out k o h hne) hne⟩
end Go.Proofs.YtkaihnlknncfdaaGreatDoor
