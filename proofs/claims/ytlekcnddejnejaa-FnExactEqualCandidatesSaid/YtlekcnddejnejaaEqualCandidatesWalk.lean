/- The walk of FnExactEqualCandidates: it returns true at every argument. -/
import Derived.Test.YtlekcnddejnejaaIc7
import Derived.Test.YtlekcnddejnejaaTzCandidate
import Derived.Test.YtlekcnddejnejaaTtCandidate
import Derived.Test.YtlekcnddejnejaaTeCandidate
import Derived.Deep.RegionWith
import Derived.Deep.DeepCutAuto
namespace Go.Proofs.Ytlekcnddejnejaa.fnExactEqualCandidates
open Go.RowKit Go.Proofs.Ytlekcnddejnejaa
set_option linter.unusedVariables false

set_option maxHeartbeats 8000000 in
theorem walk (w : World) (x : DCandidate) (Fx : Addr → Prop) (vx : Value) (hvx : RowRd rLink false w vx x.Links Fx) (y : DCandidate) (Fy : Addr → Prop) (vy : Value) (hvy : RowRd rLink false w vy y.Links Fy) :
    Calls Try.prog 10 #[.agg #[vx], .agg #[vy]] w fun e w' => e = .returned (.bool true) ∧ Below w.heap.size w w' := by
  obtain ⟨Ax, capx, rfl⟩ := hvx.form
  have HVx := Lib.hid hvx.tight
  clear hvx
  obtain ⟨Ay, capy, rfl⟩ := hvy.form
  have HVy := Lib.hid hvy.tight
  clear hvy
  have HB := Lib.hid (Below.refl w.heap.size w)
  go_enter Try.func10, Try.ntmps10
  have HC : Hid (∀ W, Below w.heap.size w W → Calls Try.prog 11 #[.agg #[.slice Ax x.Links.length capx], .int .i64 1048576] W fun e w' => (∃ z : Int, e = .returned (.int .i64 z) ∧ (z < 0 ∨ z + (rCandidate.sz x : Nat) = 1048576 ∧ 0 ≤ z)) ∧ Below W.heap.size W w') := fun W hW => szCandidate_any x _ 1048576 _ W (by omega) (by omega) (HVx.out.kept hW)
  go_wp2_with fail
  refine (HC.out _ (((Below.refl _ _).alloc (Nat.le_refl _) _).alloc (by simp) _)).mono ?_
  rintro e w1 ⟨⟨zx, rfl, hzx⟩, hb⟩
  have hbn : Below w.heap.size w w1 := below_step (((Below.refl _ _).alloc (Nat.le_refl _) _).alloc (by simp) _) hb
  have hs1 : Hid (w.heap.size ≤ w1.heap.size) := hbn.size
  replace HVx := Lib.hid (HVx.out.kept hbn)
  replace HVy := Lib.hid (HVy.out.kept hbn)
  replace HB := Lib.hid (HB.out.trans (hbn.mono HB.out.size))
  have HA : Hid (InC w1 w.heap.size #[.slice Ax x.Links.length capx] 24) := (hb.block _ (by simp; try omega)).trans (box1 _ _ _)
  have HA2 : Hid (InC w1 (w.heap.size + 1) #[.slice Ay y.Links.length capy] 24) := (hb.block _ (by simp)).trans (box2 _ _ _)
  clear hb hbn HC
  by_cases hnegx : zx < 0
  case pos =>
    go_wp2
    go_ret
    exact ⟨rfl, HB.out⟩
  replace hzx := hzx.resolve_left hnegx
  have HC : Hid (∀ W, Below w1.heap.size w1 W → Calls Try.prog 11 #[.agg #[.slice Ay y.Links.length capy], .int .i64 zx] W fun e w' => (∃ z : Int, e = .returned (.int .i64 z) ∧ (z < 0 ∨ z + (rCandidate.sz y : Nat) = zx ∧ 0 ≤ z)) ∧ Below W.heap.size W w') := fun W hW => szCandidate_any y _ zx _ W (by omega) (by omega) (HVy.out.kept hW)
  have bHA0 := HA.out.cell 0 rfl
  have bHA20 := HA2.out.cell 0 rfl
  go_wp2_with fail
  refine (HC.out _ (by first | exact Below.refl _ _ | exact (Below.refl _ _).alloc (Nat.le_refl _) _ | exact (Below.refl _ _).drew)).mono ?_
  rintro e w2 ⟨⟨zy, rfl, hzy⟩, hb⟩
  clear bHA0 bHA20
  have hbn : Below w1.heap.size w1 w2 := below_step (by first | exact Below.refl _ _ | exact (Below.refl _ _).alloc (Nat.le_refl _) _ | exact (Below.refl _ _).drew) hb
  have hs2 : Hid (w1.heap.size ≤ w2.heap.size) := hbn.size
  replace HVx := Lib.hid (HVx.out.kept hbn)
  replace HVy := Lib.hid (HVy.out.kept hbn)
  replace HA := Lib.hid (HA.out.kept hbn)
  replace HA2 := Lib.hid (HA2.out.kept hbn)
  replace HB := Lib.hid (HB.out.trans (hbn.mono HB.out.size))
  clear hb hbn HC
  by_cases hnegy : zy < 0
  case pos =>
    go_wp2
    go_ret
    exact ⟨rfl, HB.out⟩
  replace hzy := hzy.resolve_left hnegy
  have HSZx : Hid (rCandidate.sz x ≤ 1048576) := by unfold Hid; omega
  have HSZy : Hid (rCandidate.sz y ≤ 1048576) := by unfold Hid; omega
  clear hzx hzy
  have HTx : Hid (∀ W, Below w2.heap.size w2 W → Calls Try.prog 13 #[.agg #[.slice Ax x.Links.length capx]] W fun e w' => ∃ u, e = .returned (.agg #[u]) ∧ RowRd rLink true w' u x.Links (fun a => W.heap.size ≤ a.block) ∧ Below W.heap.size W w') := fun W hW => toCandidate_any x _ W _ (HVx.out.kept hW) HSZx.out
  have HTy : Hid (∀ W, Below w2.heap.size w2 W → Calls Try.prog 13 #[.agg #[.slice Ay y.Links.length capy]] W fun e w' => ∃ u, e = .returned (.agg #[u]) ∧ RowRd rLink true w' u y.Links (fun a => W.heap.size ≤ a.block) ∧ Below W.heap.size W w') := fun W hW => toCandidate_any y _ W _ (HVy.out.kept hW) HSZy.out
  have HS : Hid (∀ (W : World) (u t : Value) (G K : Addr → Prop), RowRd rLink true W u x.Links G → RowRd rLink true W t y.Links K → Calls Try.prog 30 #[.agg #[u], .agg #[t]] W fun e w' => e = .returned (.bool (decide (x.Links = y.Links))) ∧ Below W.heap.size W w') := fun W u t G K hu ht => specEqC_any x y _ _ _ _ W hu.weak ht.weak
  have bHA0 := HA.out.cell 0 rfl
  have bHA20 := HA2.out.cell 0 rfl
  have HAK : Hid (∀ W : World, Below w2.heap.size w2 W → InC W w.heap.size #[.slice Ax x.Links.length capx] 24) := fun W hW => HA.out.kept hW
  have HAK2 : Hid (∀ W : World, Below w2.heap.size w2 W → InC W (w.heap.size + 1) #[.slice Ay y.Links.length capy] 24) := fun W hW => HA2.out.kept hW
  go_upto_region 8 with fail
  go_cut [6] (fun b wx => b = .bool (decide (x.Links = y.Links)) ∧ Below w2.heap.size w2 wx)
  case first =>
    go_region_with (first | (go_simp; go_at_call_of 13 (Value.agg #[Value.slice Ax x.Links.length capx]); refine (HTx.out _ (by first | exact (Below.refl _ _).drew | exact HBy.out)).mono ?_; rintro e wt ⟨ux, rfl, hqt, hbt0⟩; have hbt : Below w2.heap.size w2 wt := below_step (by first | exact (Below.refl _ _).drew | exact HBy.out) hbt0; obtain ⟨Atx, ctx, rfl⟩ := hqt.form; have ea0 := (HAK.out _ hbt).cell 0 rfl; have eb0 := (HAK2.out _ hbt).cell 0 rfl; have HBx := Lib.hid hbt; have HQx := Lib.hid hqt; (try replace HQy := Lib.hid (HQy.out.kept hbt0)); clear hbt0 hqt hbt) | (go_simp; go_at_call_of 13 (Value.agg #[Value.slice Ay y.Links.length capy]); refine (HTy.out _ (by first | exact (Below.refl _ _).drew | exact HBx.out)).mono ?_; rintro e wt ⟨uy, rfl, hqt, hbt0⟩; have hbt : Below w2.heap.size w2 wt := below_step (by first | exact (Below.refl _ _).drew | exact HBx.out) hbt0; obtain ⟨Aty, cty, rfl⟩ := hqt.form; have ea0 := (HAK.out _ hbt).cell 0 rfl; have eb0 := (HAK2.out _ hbt).cell 0 rfl; have HBy := Lib.hid hbt; have HQy := Lib.hid hqt; (try replace HQx := Lib.hid (HQx.out.kept hbt0)); clear hbt0 hqt hbt) | (go_simp; go_at_call 30; refine (HS.out _ _ _ _ _ HQx.out HQy.out).mono ?_; rintro e wz ⟨rfl, hbz0⟩; have HBZ : Hid (Below w2.heap.size w2 wz) := (by first | exact below_step HBx.out hbz0 | exact below_step HBy.out hbz0); clear hbz0))
    all_goals
      go_wp2_with fail
      go_meet
      exact ⟨rfl, HBZ.out⟩
  case rest =>
  obtain ⟨rfl, hbn⟩ := hcut
  clear HTx HTy HS HAK HAK2
  clear bHA0 bHA20
  generalize wc = w3 at *
  have hs3 : Hid (w2.heap.size ≤ w3.heap.size) := hbn.size
  replace HVx := Lib.hid (HVx.out.kept hbn)
  replace HVy := Lib.hid (HVy.out.kept hbn)
  replace HA := Lib.hid (HA.out.kept hbn)
  replace HA2 := Lib.hid (HA2.out.kept hbn)
  replace HB := Lib.hid (HB.out.trans (hbn.mono HB.out.size))
  clear hbn
  have HC : Hid (∀ W, Below w3.heap.size w3 W → Calls Try.prog 13 #[.agg #[.slice Ax x.Links.length capx]] W fun e w' => ∃ u, e = .returned (.agg #[u]) ∧ RowRd rLink true w' u x.Links (fun a => W.heap.size ≤ a.block) ∧ Below W.heap.size W w') := fun W hW => toCandidate_any x _ W _ (HVx.out.kept hW) HSZx.out
  have bHA0 := HA.out.cell 0 rfl
  have bHA20 := HA2.out.cell 0 rfl
  have bbHA0 := fun o => ((HA.out.kept ((Below.refl w3.heap.size w3).alloc (Nat.le_refl _) o)).cell 0 rfl)
  have bbHA20 := fun o => ((HA2.out.kept ((Below.refl w3.heap.size w3).alloc (Nat.le_refl _) o)).cell 0 rfl)
  go_wp2_with fail
  refine (HC.out _ (by first | exact Below.refl _ _ | exact (Below.refl _ _).alloc (Nat.le_refl _) _ | exact (Below.refl _ _).drew)).mono ?_
  rintro e w4 ⟨x0, rfl, hq, hb⟩
  clear bHA0 bHA20
  clear bbHA0 bbHA20
  have hbn : Below w3.heap.size w3 w4 := below_step (by first | exact Below.refl _ _ | exact (Below.refl _ _).alloc (Nat.le_refl _) _ | exact (Below.refl _ _).drew) hb
  have hs4 : Hid (w3.heap.size ≤ w4.heap.size) := hbn.size
  replace HVx := Lib.hid (HVx.out.kept hbn)
  replace HVy := Lib.hid (HVy.out.kept hbn)
  replace HA := Lib.hid (HA.out.kept hbn)
  replace HA2 := Lib.hid (HA2.out.kept hbn)
  replace HB := Lib.hid (HB.out.trans (hbn.mono HB.out.size))
  obtain ⟨Ax0, qx0, rfl⟩ := hq.form
  have Hx0 := Lib.hid hq
  clear hb hbn HC hq
  have HC : Hid (∀ W, Below w4.heap.size w4 W → Calls Try.prog 13 #[.agg #[.slice Ay y.Links.length capy]] W fun e w' => ∃ u, e = .returned (.agg #[u]) ∧ RowRd rLink true w' u y.Links (fun a => W.heap.size ≤ a.block) ∧ Below W.heap.size W w') := fun W hW => toCandidate_any y _ W _ (HVy.out.kept hW) HSZy.out
  have bHA0 := HA.out.cell 0 rfl
  have bHA20 := HA2.out.cell 0 rfl
  have bbHA0 := fun o => ((HA.out.kept ((Below.refl w4.heap.size w4).alloc (Nat.le_refl _) o)).cell 0 rfl)
  have bbHA20 := fun o => ((HA2.out.kept ((Below.refl w4.heap.size w4).alloc (Nat.le_refl _) o)).cell 0 rfl)
  go_wp2_with fail
  refine (HC.out _ (by first | exact Below.refl _ _ | exact (Below.refl _ _).alloc (Nat.le_refl _) _ | exact (Below.refl _ _).drew)).mono ?_
  rintro e w5 ⟨x1, rfl, hq, hb⟩
  clear bHA0 bHA20
  clear bbHA0 bbHA20
  have hbn : Below w4.heap.size w4 w5 := below_step (by first | exact Below.refl _ _ | exact (Below.refl _ _).alloc (Nat.le_refl _) _ | exact (Below.refl _ _).drew) hb
  have hs5 : Hid (w4.heap.size ≤ w5.heap.size) := hbn.size
  replace HVx := Lib.hid (HVx.out.kept hbn)
  replace HVy := Lib.hid (HVy.out.kept hbn)
  replace HA := Lib.hid (HA.out.kept hbn)
  replace HA2 := Lib.hid (HA2.out.kept hbn)
  replace Hx0 := Lib.hid (Hx0.out.kept hbn)
  replace HB := Lib.hid (HB.out.trans (hbn.mono HB.out.size))
  have HX : Hid (InC w5 w4.heap.size #[.slice Ax0 x.Links.length qx0] 29) := (hb.block _ (by simp)).trans (heap_alloc_new _ _)
  obtain ⟨Ax1, qx1, rfl⟩ := hq.form
  have Hx1 := Lib.hid hq
  clear hb hbn HC hq
  have HC : Hid (∀ W, Below w5.heap.size w5 W → Calls Try.prog 31 #[.agg #[.slice Ax0 x.Links.length qx0], .agg #[.slice Ax1 y.Links.length qx1]] W fun e w' => e = .returned (.bool (decide (x.Links = y.Links))) ∧ Below W.heap.size W w') := fun W hW => implEqC_any x y _ _ _ _ W (Hx0.out.kept hW).weak (Hx1.out.kept hW).weak
  have bHA0 := HA.out.cell 0 rfl
  have bHA20 := HA2.out.cell 0 rfl
  have bHX0 := HX.out.cell 0 rfl
  have bbHA0 := fun o => ((HA.out.kept ((Below.refl w5.heap.size w5).alloc (Nat.le_refl _) o)).cell 0 rfl)
  have bbHA20 := fun o => ((HA2.out.kept ((Below.refl w5.heap.size w5).alloc (Nat.le_refl _) o)).cell 0 rfl)
  have bbHX0 := fun o => ((HX.out.kept ((Below.refl w5.heap.size w5).alloc (Nat.le_refl _) o)).cell 0 rfl)
  go_wp2_with fail
  refine (HC.out _ (by first | exact Below.refl _ _ | exact (Below.refl _ _).alloc (Nat.le_refl _) _ | exact (Below.refl _ _).drew)).mono ?_
  rintro e w6 ⟨rfl, hb⟩
  clear bHA0 bHA20 bHX0
  clear bbHA0 bbHA20 bbHX0
  have hbn : Below w5.heap.size w5 w6 := below_step (by first | exact Below.refl _ _ | exact (Below.refl _ _).alloc (Nat.le_refl _) _ | exact (Below.refl _ _).drew) hb
  have hs6 : Hid (w5.heap.size ≤ w6.heap.size) := hbn.size
  replace HVx := Lib.hid (HVx.out.kept hbn)
  replace HVy := Lib.hid (HVy.out.kept hbn)
  replace HA := Lib.hid (HA.out.kept hbn)
  replace HA2 := Lib.hid (HA2.out.kept hbn)
  replace Hx0 := Lib.hid (Hx0.out.kept hbn)
  replace HX := Lib.hid (HX.out.kept hbn)
  replace Hx1 := Lib.hid (Hx1.out.kept hbn)
  replace HB := Lib.hid (HB.out.trans (hbn.mono HB.out.size))
  have HX1 : Hid (InC w6 w5.heap.size #[.slice Ax1 y.Links.length qx1] 29) := (hb.block _ (by simp)).trans (heap_alloc_new _ _)
  clear hb hbn HC
  generalize decide (x.Links = y.Links) = bb at *
  have HT : Hid (∀ W, Below w6.heap.size w6 W → Calls Try.prog 13 #[.agg #[.slice Ax x.Links.length capx]] W fun e w' => ∃ u, e = .returned (.agg #[u]) ∧ RowRd rLink true w' u x.Links (fun a => W.heap.size ≤ a.block) ∧ Below W.heap.size W w') := fun W hW => toCandidate_any x _ W _ (HVx.out.kept hW) HSZx.out
  have HE : Hid (∀ (W : World) (u : Value) (G : Addr → Prop), Below w6.heap.size w6 W → RowRd rLink true W u x.Links G → Calls Try.prog 15 #[.agg #[.slice Ax0 x.Links.length qx0], .agg #[u]] W fun e w' => e = .returned (.bool true) ∧ Below W.heap.size W w') := fun W u G hW hu => eqCandidate_any x _ _ W _ _ (Hx0.out.kept hW).weak hu.weak
  have HXK : Hid (∀ W : World, Below w6.heap.size w6 W → InC W _ #[.slice Ax0 x.Links.length qx0] 29) := fun W hW => HX.out.kept hW
  have bHA0 := HA.out.cell 0 rfl
  have bHA20 := HA2.out.cell 0 rfl
  have bHX0 := HX.out.cell 0 rfl
  have bHX10 := HX1.out.cell 0 rfl
  go_upto_region 14 with fail
  go_cut [39] (fun b wx => b = .bool false ∧ Below w6.heap.size w6 wx)
  case first =>
    go_region_with (first | (go_simp; go_at_call 13; refine (HT.out _ ((Below.refl _ _).drew)).mono ?_; rintro e wt ⟨ut, rfl, hqt, hbt0⟩; have hbt : Below w6.heap.size w6 wt := below_step ((Below.refl _ _).drew) hbt0; obtain ⟨At, ct, rfl⟩ := hqt.form; have e0 := (HXK.out _ hbt).cell 0 rfl; have HBT := Lib.hid hbt; have HQT := Lib.hid hqt; clear hbt0 hqt hbt) | (go_simp; go_at_call 15; refine (HE.out _ _ _ HBT.out HQT.out).mono ?_; rintro e wz ⟨rfl, hbz0⟩; have HBZ := Lib.hid (below_step HBT.out hbz0); clear hbz0))
    all_goals
      go_wp2_with fail
      go_meet
      exact ⟨rfl, HBZ.out⟩
  case rest =>
  obtain ⟨rfl, hbn⟩ := hcut
  clear HT HE HXK
  clear bHA0 bHA20 bHX0 bHX10
  generalize wc = w7 at *
  have hs7 : Hid (w6.heap.size ≤ w7.heap.size) := hbn.size
  replace HVx := Lib.hid (HVx.out.kept hbn)
  replace HVy := Lib.hid (HVy.out.kept hbn)
  replace HA := Lib.hid (HA.out.kept hbn)
  replace HA2 := Lib.hid (HA2.out.kept hbn)
  replace Hx0 := Lib.hid (Hx0.out.kept hbn)
  replace HX := Lib.hid (HX.out.kept hbn)
  replace Hx1 := Lib.hid (Hx1.out.kept hbn)
  replace HX1 := Lib.hid (HX1.out.kept hbn)
  replace HB := Lib.hid (HB.out.trans (hbn.mono HB.out.size))
  clear hbn
  have HT : Hid (∀ W, Below w7.heap.size w7 W → Calls Try.prog 13 #[.agg #[.slice Ay y.Links.length capy]] W fun e w' => ∃ u, e = .returned (.agg #[u]) ∧ RowRd rLink true w' u y.Links (fun a => W.heap.size ≤ a.block) ∧ Below W.heap.size W w') := fun W hW => toCandidate_any y _ W _ (HVy.out.kept hW) HSZy.out
  have HE : Hid (∀ (W : World) (u : Value) (G : Addr → Prop), Below w7.heap.size w7 W → RowRd rLink true W u y.Links G → Calls Try.prog 15 #[.agg #[.slice Ax1 y.Links.length qx1], .agg #[u]] W fun e w' => e = .returned (.bool true) ∧ Below W.heap.size W w') := fun W u G hW hu => eqCandidate_any y _ _ W _ _ (Hx1.out.kept hW).weak hu.weak
  have HXK : Hid (∀ W : World, Below w7.heap.size w7 W → InC W _ #[.slice Ax1 y.Links.length qx1] 29) := fun W hW => HX1.out.kept hW
  have bHA0 := HA.out.cell 0 rfl
  have bHA20 := HA2.out.cell 0 rfl
  have bHX0 := HX.out.cell 0 rfl
  have bHX10 := HX1.out.cell 0 rfl
  go_upto_region 16 with fail
  go_region_with (first | (go_simp; go_at_call 13; refine (HT.out _ ((Below.refl _ _).drew)).mono ?_; rintro e wt ⟨ut, rfl, hqt, hbt0⟩; have hbt : Below w7.heap.size w7 wt := below_step ((Below.refl _ _).drew) hbt0; obtain ⟨At, ct, rfl⟩ := hqt.form; have e0 := (HXK.out _ hbt).cell 0 rfl; have HBT := Lib.hid hbt; have HQT := Lib.hid hqt; clear hbt0 hqt hbt) | (go_simp; go_at_call 15; refine (HE.out _ _ _ HBT.out HQT.out).mono ?_; rintro e wz ⟨rfl, hbz0⟩; have HBZ := Lib.hid (below_step HBT.out hbz0); clear hbz0))
  all_goals
    go_wp2
    go_ret
    exact ⟨rfl, HB.out.trans (HBZ.out.mono HB.out.size)⟩
end Go.Proofs.Ytlekcnddejnejaa.fnExactEqualCandidates
