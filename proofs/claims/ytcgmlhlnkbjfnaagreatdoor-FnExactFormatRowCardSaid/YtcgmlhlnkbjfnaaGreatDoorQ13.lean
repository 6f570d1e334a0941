/- Merged: FormatRowWalk. -/
import Derived.Test.YtcgmlhlnkbjfnaaGreatDoorQ9
import Derived.Test.YtcgmlhlnkbjfnaaGreatDoorQ10
import Derived.Test.YtcgmlhlnkbjfnaaGreatDoorQ11
import Derived.Test.YtcgmlhlnkbjfnaaGreatDoorQ12
import Derived.Deep.RegionWith
import Derived.Deep.DeepCutAuto
/- The walk of FnExactFormatRow: it returns true at every argument. -/
namespace Go.Proofs.YtcgmlhlnkbjfnaaGreatDoor.fnExactFormatRow
set_option maxRecDepth 100000
open Go.RowKit Go.Proofs.YtcgmlhlnkbjfnaaGreatDoor M
set_option linter.unusedVariables false
set_option linter.unusedSimpArgs false

set_option maxHeartbeats 16000000 in
theorem walk (w : World) (hT : FeatTab w) (x : DTableau) (F1 F2 F3 : Addr → Prop) (v1 v2 v3 : Value) (hv : TabRd false w v1 v2 v3 x F1 F2 F3) (i : Int) (hi : I64 i) :
    Calls Tryz.prog 7 #[.agg #[.string x.Input, v1, v2, v3], .int .i64 i] w fun e w' => e = .returned (.bool true) ∧ Below w.heap.size w w' := by
  obtain ⟨A1, c1, rfl⟩ := hv.names.form
  obtain ⟨A2, c2, rfl⟩ := hv.rows.form
  obtain ⟨A3, c3, rfl⟩ := hv.marks.form
  have HV := Lib.hid hv.tight
  have HFT := Lib.hid hT
  clear hv hT
  have HB := Lib.hid (Below.refl w.heap.size w)
  go_enter Tryz.func7, Tryz.ntmps7
  have HC : Hid (∀ W, Below w.heap.size w W → Calls Tryz.prog 18 #[.agg #[.string x.Input, .slice A1 x.Names.length c1, .slice A2 x.Rows.length c2, .slice A3 x.Marks.length c3], .int .i64 1048576] W fun e w' => (∃ z : Int, e = .returned (.int .i64 z) ∧ (z < 0 ∨ z + (rTableau.sz x : Nat) = 1048576 ∧ 0 ≤ z)) ∧ Below W.heap.size W w') := fun W hW => szTableau_any x _ _ _ 1048576 _ _ _ W (by omega) (by omega) (HV.out.kept hW)
  go_wp2_with fail
  refine (HC.out _ (by first | exact Below.refl _ _ | exact (Below.refl _ _).alloc (Nat.le_refl _) _ | exact (Below.refl _ _).drew)).mono ?_
  rintro e w1 ⟨⟨z, rfl, hz⟩, hb⟩
  have hbn : Below w.heap.size w w1 := below_step (by first | exact Below.refl _ _ | exact (Below.refl _ _).alloc (Nat.le_refl _) _ | exact (Below.refl _ _).drew) hb
  have hs1 : Hid (w.heap.size ≤ w1.heap.size) := hbn.size
  replace HV := Lib.hid (HV.out.kept hbn)
  replace HB := Lib.hid (HB.out.trans (hbn.mono HB.out.size))
  have HA : Hid (InC w1 w.heap.size #[.string x.Input, .slice A1 x.Names.length c1, .slice A2 x.Rows.length c2, .slice A3 x.Marks.length c3] 37) := (hb.block _ (by simp)).trans (heap_alloc_new _ _)
  have HA0 : Hid (w.heap.size < w1.heap.size) := (HA.out.lt : _ < _)
  clear hb hbn HC
  by_cases hneg : z < 0
  case pos =>
    go_wp2
    go_ret
    exact ⟨rfl, HB.out⟩
  have HSZ : Hid (rTableau.sz x ≤ 1048576) := by unfold Hid; have := hz.resolve_left hneg; omega
  clear hz
  have HC : Hid (∀ W, Below w1.heap.size w1 W → Calls Tryz.prog 20 #[.agg #[.string x.Input, .slice A1 x.Names.length c1, .slice A2 x.Rows.length c2, .slice A3 x.Marks.length c3]] W (TabPost x W)) := fun W hW => toTableau_any x _ _ _ _ _ _ W HSZ.out (HV.out.kept hW)
  have bHA0 := HA.out.cell 0 rfl
  have bHA1 := HA.out.cell 1 rfl
  have bHA2 := HA.out.cell 2 rfl
  have bHA3 := HA.out.cell 3 rfl
  go_wp2_with fail
  refine (HC.out _ (by first | exact Below.refl _ _ | exact (Below.refl _ _).alloc (Nat.le_refl _) _ | exact (Below.refl _ _).drew)).mono ?_
  rintro e w2 ⟨Au1, cu1, Au2, cu2, Au3, cu3, Gu1, Gu2, Gu3, rfl, hq, hg, hb⟩
  clear bHA0 bHA1 bHA2 bHA3
  have hbn : Below w1.heap.size w1 w2 := below_step (by first | exact Below.refl _ _ | exact (Below.refl _ _).alloc (Nat.le_refl _) _ | exact (Below.refl _ _).drew) hb
  have hs2 : Hid (w1.heap.size ≤ w2.heap.size) := hbn.size
  replace HV := Lib.hid (HV.out.kept hbn)
  replace HA := Lib.hid (HA.out.kept hbn)
  replace HB := Lib.hid (HB.out.trans (hbn.mono HB.out.size))
  have Hu := Lib.hid hq
  have Ru : Hid (∀ a, Gu1 a ∨ Gu2 a ∨ Gu3 a → w1.heap.size ≤ a.block ∧ a.block < w2.heap.size) := fun a ha => ⟨Nat.le_trans (Below.size (B := w1.heap.size) (w := w1) (by first | exact Below.refl _ _ | exact (Below.refl _ _).alloc (Nat.le_refl _) _ | exact (Below.refl _ _).drew)) (hg a ha).1, (hg a ha).2⟩
  clear hb hbn HC hq hg
  have HC : Hid (∀ W, Below w2.heap.size w2 W → Calls Tryz.prog 29 #[.agg #[.string x.Input, .slice Au1 x.Names.length cu1, .slice Au2 x.Rows.length cu2, .slice Au3 x.Marks.length cu3], .int .i64 i] W fun e w' => e = .returned (.string (fmtR x i)) ∧ Below W.heap.size W w') := fun W hW => specFr_any x Au1 cu1 Au2 cu2 Au3 cu3 _ _ _  i W HSZ.out (Hu.out.kept hW).weak
  have bHA0 := HA.out.cell 0 rfl
  have bHA1 := HA.out.cell 1 rfl
  have bHA2 := HA.out.cell 2 rfl
  have bHA3 := HA.out.cell 3 rfl
  go_wp2_with fail
  refine (HC.out _ (by first | exact Below.refl _ _ | exact (Below.refl _ _).alloc (Nat.le_refl _) _ | exact (Below.refl _ _).drew)).mono ?_
  rintro e w3 ⟨rfl, hb⟩
  clear bHA0 bHA1 bHA2 bHA3
  have hbn : Below w2.heap.size w2 w3 := below_step (by first | exact Below.refl _ _ | exact (Below.refl _ _).alloc (Nat.le_refl _) _ | exact (Below.refl _ _).drew) hb
  have hs3 : Hid (w2.heap.size ≤ w3.heap.size) := hbn.size
  replace HV := Lib.hid (HV.out.kept hbn)
  replace HA := Lib.hid (HA.out.kept hbn)
  replace Hu := Lib.hid (Hu.out.kept hbn)
  replace HB := Lib.hid (HB.out.trans (hbn.mono HB.out.size))
  clear hb hbn HC
  have HC : Hid (∀ W, Below w3.heap.size w3 W → Calls Tryz.prog 20 #[.agg #[.string x.Input, .slice A1 x.Names.length c1, .slice A2 x.Rows.length c2, .slice A3 x.Marks.length c3]] W (TabPost x W)) := fun W hW => toTableau_any x _ _ _ _ _ _ W HSZ.out (HV.out.kept hW)
  have bHA0 := HA.out.cell 0 rfl
  have bHA1 := HA.out.cell 1 rfl
  have bHA2 := HA.out.cell 2 rfl
  have bHA3 := HA.out.cell 3 rfl
  go_wp2_with fail
  refine (HC.out _ (by first | exact Below.refl _ _ | exact (Below.refl _ _).alloc (Nat.le_refl _) _ | exact (Below.refl _ _).drew)).mono ?_
  rintro e w4 ⟨Ax1, cx1, Ax2, cx2, Ax3, cx3, Gx1, Gx2, Gx3, rfl, hq, hg, hb⟩
  clear bHA0 bHA1 bHA2 bHA3
  have hbn : Below w3.heap.size w3 w4 := below_step (by first | exact Below.refl _ _ | exact (Below.refl _ _).alloc (Nat.le_refl _) _ | exact (Below.refl _ _).drew) hb
  have hs4 : Hid (w3.heap.size ≤ w4.heap.size) := hbn.size
  replace HV := Lib.hid (HV.out.kept hbn)
  replace HA := Lib.hid (HA.out.kept hbn)
  replace Hu := Lib.hid (Hu.out.kept hbn)
  replace HB := Lib.hid (HB.out.trans (hbn.mono HB.out.size))
  have Hx := Lib.hid hq
  have Rx : Hid (∀ a, Gx1 a ∨ Gx2 a ∨ Gx3 a → w3.heap.size ≤ a.block ∧ a.block < w4.heap.size) := fun a ha => ⟨Nat.le_trans (Below.size (B := w3.heap.size) (w := w3) (by first | exact Below.refl _ _ | exact (Below.refl _ _).alloc (Nat.le_refl _) _ | exact (Below.refl _ _).drew)) (hg a ha).1, (hg a ha).2⟩
  clear hb hbn HC hq hg
  have HC : Hid (∀ W, Below w4.heap.size w4 W → Calls Tryz.prog 30 #[.agg #[.string x.Input, .slice Ax1 x.Names.length cx1, .slice Ax2 x.Rows.length cx2, .slice Ax3 x.Marks.length cx3], .int .i64 i] W fun e w' => e = .returned (.string (fmtR x i)) ∧ Below W.heap.size W w') := fun W hW => implFr_any x Ax1 cx1 Ax2 cx2 Ax3 cx3 _ _ _  i W HSZ.out (Hx.out.kept hW).weak (feat_below HFT.out (HB.out.trans (hW.mono HB.out.size)))
  have bHA0 := HA.out.cell 0 rfl
  have bHA1 := HA.out.cell 1 rfl
  have bHA2 := HA.out.cell 2 rfl
  have bHA3 := HA.out.cell 3 rfl
  go_wp2_with fail
  refine (HC.out _ (by first | exact Below.refl _ _ | exact (Below.refl _ _).alloc (Nat.le_refl _) _ | exact (Below.refl _ _).drew)).mono ?_
  rintro e w5 ⟨rfl, hb⟩
  clear bHA0 bHA1 bHA2 bHA3
  have hbn : Below w4.heap.size w4 w5 := below_step (by first | exact Below.refl _ _ | exact (Below.refl _ _).alloc (Nat.le_refl _) _ | exact (Below.refl _ _).drew) hb
  have hs5 : Hid (w4.heap.size ≤ w5.heap.size) := hbn.size
  replace HV := Lib.hid (HV.out.kept hbn)
  replace HA := Lib.hid (HA.out.kept hbn)
  replace Hu := Lib.hid (Hu.out.kept hbn)
  replace Hx := Lib.hid (Hx.out.kept hbn)
  replace HB := Lib.hid (HB.out.trans (hbn.mono HB.out.size))
  have HX : Hid (InC w5 w4.heap.size #[.string x.Input, .slice Ax1 x.Names.length cx1, .slice Ax2 x.Rows.length cx2, .slice Ax3 x.Marks.length cx3] 27) := (hb.block _ (by simp)).trans (heap_alloc_new _ _)
  clear hb hbn HC
  generalize fmtR x i = bb at *
  have HTO : Hid (∀ W, Below w5.heap.size w5 W → Calls Tryz.prog 20 #[.agg #[.string x.Input, .slice A1 x.Names.length c1, .slice A2 x.Rows.length c2, .slice A3 x.Marks.length c3]] W (TabPost x W)) := fun W hW => toTableau_any x _ _ _ _ _ _ W HSZ.out (HV.out.kept hW)
  have HEQ : Hid (∀ (W : World) (u1 u2 u3 : Value) (G1 G2 G3 : Addr → Prop), Below w5.heap.size w5 W → TabRd true W u1 u2 u3 x G1 G2 G3 → Calls Tryz.prog 13 #[.agg #[.string x.Input, .slice Ax1 x.Names.length cx1, .slice Ax2 x.Rows.length cx2, .slice Ax3 x.Marks.length cx3], .agg #[.string x.Input, u1, u2, u3]] W fun e w' => e = .returned (.bool true) ∧ Below W.heap.size W w') := fun W u1 u2 u3 G1 G2 G3 hW hu => eqTableau_any x _ _ _ _ _ _ _ _ _ _ _ _ W (Hx.out.kept hW).weak hu.weak
  have HXK : Hid (∀ W : World, Below w5.heap.size w5 W → InC W _ #[.string x.Input, .slice Ax1 x.Names.length cx1, .slice Ax2 x.Rows.length cx2, .slice Ax3 x.Marks.length cx3] 27) := fun W hW => HX.out.kept hW
  have bHA0 := HA.out.cell 0 rfl
  have bHA1 := HA.out.cell 1 rfl
  have bHA2 := HA.out.cell 2 rfl
  have bHA3 := HA.out.cell 3 rfl
  have bHX0 := HX.out.cell 0 rfl
  have bHX1 := HX.out.cell 1 rfl
  have bHX2 := HX.out.cell 2 rfl
  have bHX3 := HX.out.cell 3 rfl
  go_upto_region 10 with fail
  go_region_with (first | (go_simp; go_at_call 20; refine (HTO.out _ ((Below.refl _ _).drew)).mono ?_; rintro e wt ⟨At1, ct1, At2, ct2, At3, ct3, T1, T2, T3, rfl, hqt, hgt, hbt0⟩; have hbt : Below w5.heap.size w5 wt := below_step ((Below.refl _ _).drew) hbt0; have e0 := (HXK.out _ hbt).cell 0 rfl; have e1 := (HXK.out _ hbt).cell 1 rfl; have e2 := (HXK.out _ hbt).cell 2 rfl; have e3 := (HXK.out _ hbt).cell 3 rfl; have HBT := Lib.hid hbt; have HQT := Lib.hid hqt; clear hbt0 hqt hgt hbt) | (go_simp; go_at_call 13; refine (HEQ.out _ _ _ _ _ _ _ HBT.out HQT.out).mono ?_; rintro e wz ⟨rfl, hbz0⟩; have HBZ := Lib.hid (below_step HBT.out hbz0); clear hbz0))
  all_goals
    go_wp2
    go_ret
    exact ⟨rfl, HB.out.trans (HBZ.out.mono HB.out.size)⟩
end Go.Proofs.YtcgmlhlnkbjfnaaGreatDoor.fnExactFormatRow
