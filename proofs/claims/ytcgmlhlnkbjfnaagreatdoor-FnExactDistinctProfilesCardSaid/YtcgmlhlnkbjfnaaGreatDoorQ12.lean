/- Merged: TeIntS TeIntSS TeTableau RowWithWalk Td11 Dm11 Sq11 Dp11 TmStringS. -/
import Derived.Test.YtcgmlhlnkbjfnaaGreatDoorQ1
import Derived.WalkKit
import Derived.BigQuiet
import Derived.Lib.QuietBelow
import Derived.Test.YtcgmlhlnkbjfnaaGreatDoorRows
import Derived.Test.YtcgmlhlnkbjfnaaGreatDoorQ2
import Derived.Test.YtcgmlhlnkbjfnaaGreatDoorQ11
import Derived.Test.YtcgmlhlnkbjfnaaGreatDoorQ9
import Derived.Test.YtcgmlhlnkbjfnaaGreatDoorQ10
import Derived.Deep.RegionWith
import Derived.Deep.DeepCutAuto
import Derived.Test.YtcgmlhlnkbjfnaaGreatDoorQ4
import Derived.Test.YtcgmlhlnkbjfnaaGreatDoorQ8
import Derived.Test.YtcgmlhlnkbjfnaaGreatDoorQ5
/- The laws' eqIntS. -/
namespace Go.Proofs.YtcgmlhlnkbjfnaaGreatDoor
set_option maxRecDepth 100000
open Go.RowKit Go.Sort
set_option linter.unusedVariables false
set_option linter.unusedSimpArgs false

set_option maxHeartbeats 1000000 in
theorem eqIntS_any (v u : Value) (l : List Int) (F G : Addr → Prop) (w : World) (hv : RowRd Rep.int false w v l F) (hu : RowRd Rep.int false w u l G) :
    Calls Tryz.prog 26 #[v, u] w fun e w' => e = .returned (.bool true) ∧ Below w.heap.size w w' := by
  obtain ⟨A, cap, rfl⟩ := hv.form
  obtain ⟨A2, cap2, rfl⟩ := hu.form
  have hmx := hv.max
  have HV := Lib.hid hv
  have HU := Lib.hid hu
  clear hv hu
  have HX : Hid (∀ k, k < l.length → ∃ x, l[k]? = some x) := fun k hk => ⟨_, List.getElem?_eq_getElem hk⟩
  generalize hll : l.length = n at *
  clear hll
  go_enter Tryz.func26, Tryz.ntmps26
  go_wp2
  go_loopw [5] (fun i wr => ∃ (k : Nat), k ≤ n ∧ i = .int .i64 k ∧ Below w.heap.size w wr) (fun i _ => n - (intOf i).toNat)
  case atStart => exact ⟨0, by omega, rfl, Below.refl _ _⟩
  case round =>
    obtain ⟨k, hk, rfl, hbe⟩ := hrel
    have HBE := Lib.hid hbe
    clear hbe
    by_cases hkl : k < n
    · obtain ⟨x, hx⟩ := HX.out k hkl
      obtain ⟨g, off, xs, Fk, rfl, _, rc, _, hc⟩ := (HV.out.kept HBE.out).get hx
      obtain ⟨g2, off2, ys, Gk, rfl, _, rd, _, hd⟩ := (HU.out.kept HBE.out).get hx
      simp only [show Rep.int.size = 1 from rfl, Nat.mul_one] at hc hd
      obtain ⟨rfl, _⟩ := id rc
      obtain ⟨rfl, _⟩ := id rd
      have c0 := hc 0 _ rfl
      have d0 := hd 0 _ rfl
      simp only [Nat.add_zero] at c0 d0
      clear hc hd rc rd hx
      go_wp2
      go_quiet (fail)
      go_wp2
      go_roundw
      case rel => exact ⟨k + 1, by omega, by go_num, ⟨HBE.out.os, HBE.out.tape, HBE.out.output, HBE.out.size, HBE.out.block⟩⟩
      case measure => simp [intOf]; omega
    · obtain rfl : k = n := by omega
      go_wp2
      go_ret
      exact ⟨rfl, HBE.out⟩
end Go.Proofs.YtcgmlhlnkbjfnaaGreatDoor

/- The laws' eqIntSS. -/
namespace Go.Proofs.YtcgmlhlnkbjfnaaGreatDoor
set_option maxRecDepth 100000
open Go.RowKit Go.Sort
set_option linter.unusedVariables false
set_option linter.unusedSimpArgs false

set_option maxHeartbeats 1000000 in
theorem eqIntSS_any (v u : Value) (l : List (List Int)) (F G : Addr → Prop) (w : World) (hv : RowRd (Rep.row Rep.int) false w v l F) (hu : RowRd (Rep.row Rep.int) false w u l G) :
    Calls Tryz.prog 46 #[v, u] w fun e w' => e = .returned (.bool true) ∧ Below w.heap.size w w' := by
  obtain ⟨A, cap, rfl⟩ := hv.form
  obtain ⟨A2, cap2, rfl⟩ := hu.form
  have hmx := hv.max
  have HV := Lib.hid hv
  have HU := Lib.hid hu
  clear hv hu
  have HX : Hid (∀ k, k < l.length → ∃ x, l[k]? = some x) := fun k hk => ⟨_, List.getElem?_eq_getElem hk⟩
  generalize hll : l.length = n at *
  clear hll
  go_enter Tryz.func46, Tryz.ntmps46
  go_wp2
  go_loopw [5] (fun i wr => ∃ (k : Nat), k ≤ n ∧ i = .int .i64 k ∧ Below w.heap.size w wr) (fun i _ => n - (intOf i).toNat)
  case atStart => exact ⟨0, by omega, rfl, Below.refl _ _⟩
  case round =>
    obtain ⟨k, hk, rfl, hbe⟩ := hrel
    have HBE := Lib.hid hbe
    clear hbe
    by_cases hkl : k < n
    · obtain ⟨x, hx⟩ := HX.out k hkl
      obtain ⟨g, off, xs, Fk, rfl, _, rc, _, hc⟩ := (HV.out.kept HBE.out).get hx
      obtain ⟨g2, off2, ys, Gk, rfl, _, rd, _, hd⟩ := (HU.out.kept HBE.out).get hx
      simp only [show (Rep.row Rep.int).size = 1 from rfl, Nat.mul_one] at hc hd
      obtain ⟨v0, rfl, qc⟩ := id rc
      obtain ⟨u0, rfl, qd⟩ := id rd
      have c0 := hc 0 _ rfl
      have d0 := hd 0 _ rfl
      simp only [Nat.add_zero] at c0 d0
      have c0 := fun d os => cell_regrown c0 d os
      have d0 := fun d os => cell_regrown d0 d os
      have cS : ∀ d os, Calls Tryz.prog 26 #[v0, u0] (grow (redrawn wr d) os) fun e w'' => e = .returned (.bool true) ∧ ∃ p : Regrown, w'' = grow (redrawn wr p.d) p.os :=
        fun d os => Calls.regrown_of (eqIntS_any v0 u0 x Fk Gk _ (qc.kept (below_regrown wr d os)) (qd.kept (below_regrown wr d os)))
      clear hc hd rc rd hx qc qd
      go_wp2
      refine wp_region_quiet_below (by kernel_rfl) (by kernel_rfl) ?_
      repeat (quiet_step (exact cS _ _))
      refine wpQuiet_nil ?_
      intro _ hw'
      obtain ⟨⟨dq, osq⟩, hw''⟩ := hw'
      subst hw''
      go_wp2
      go_roundw
      case rel => exact ⟨k + 1, by omega, by go_num, HBE.out.trans ((below_regrown wr dq osq).mono HBE.out.size)⟩
      case measure => simp [intOf]; omega
    · obtain rfl : k = n := by omega
      go_wp2
      go_ret
      exact ⟨rfl, HBE.out⟩
end Go.Proofs.YtcgmlhlnkbjfnaaGreatDoor

/- The laws' eqTableau. -/
namespace Go.Proofs.YtcgmlhlnkbjfnaaGreatDoor
set_option maxRecDepth 100000
open Go.RowKit Go.Sort
set_option linter.unusedVariables false
set_option linter.unusedSimpArgs false

set_option maxHeartbeats 2000000 in
theorem eqTableau_any (x : DTableau) (v1 v2 v3 u1 u2 u3 : Value) (F1 F2 F3 G1 G2 G3 : Addr → Prop) (w : World) (hv : TabRd false w v1 v2 v3 x F1 F2 F3) (hu : TabRd false w u1 u2 u3 x G1 G2 G3) :
    Calls Tryz.prog 13 #[.agg #[.string x.Input, v1, v2, v3], .agg #[.string x.Input, u1, u2, u3]] w fun e w' => e = .returned (.bool true) ∧ Below w.heap.size w w' := by
  have HR1 : Hid (∀ W, Below w.heap.size w W → Calls Tryz.prog 14 #[v1, u1] W fun e w' => e = .returned (.bool true) ∧ Below W.heap.size W w') := fun W hW => eqStrs_any v1 u1 _ F1 G1 W (hv.names.kept hW) (hu.names.kept hW)
  have HR2 : Hid (∀ W, Below w.heap.size w W → Calls Tryz.prog 45 #[v2, u2] W fun e w' => e = .returned (.bool true) ∧ Below W.heap.size W w') := fun W hW => eqCandidateS_any v2 u2 _ F2 G2 W (hv.rows.kept hW) (hu.rows.kept hW)
  have HR3 : Hid (∀ W, Below w.heap.size w W → Calls Tryz.prog 46 #[v3, u3] W fun e w' => e = .returned (.bool true) ∧ Below W.heap.size W w') := fun W hW => eqIntSS_any v3 u3 _ F3 G3 W (hv.marks.kept hW) (hu.marks.kept hW)
  clear hv hu
  generalize x.Input = y0 at *
  go_enter Tryz.func13, Tryz.ntmps13
  go_wp2_with fail
  refine (HR1.out _ (((Below.refl _ _).alloc (Nat.le_refl _) _).alloc (by simp) _)).mono ?_
  rintro e w1 ⟨rfl, hb1⟩
  have HB1 : Hid (Below w.heap.size w w1) := (((Below.refl _ _).alloc (Nat.le_refl _) _).alloc (by simp) _).trans (hb1.mono (by simp; try omega))
  have hA1 : w1.heap[w.heap.size]? = some (.cells #[.string y0, v1, v2, v3] 27 (0, 0)) := (hb1.block _ (by simp; try omega)).trans (box1 _ _ _)
  have hB1 : w1.heap[w.heap.size + 1]? = some (.cells #[.string y0, u1, u2, u3] 27 (0, 0)) := (hb1.block _ (by simp; try omega)).trans (box2 _ _ _)
  have c2 := cell_in hA1 2 rfl
  have d2 := cell_in hB1 2 rfl
  clear hb1
  go_wp2_with fail
  refine (HR2.out _ (HB1.out)).mono ?_
  rintro e w2 ⟨rfl, hb2⟩
  have HB2 := Lib.hid (HB1.out.trans (hb2.mono HB1.out.size))
  have hA2 := (hb2.block _ (Array.getElem?_eq_some_iff.1 hA1).1).trans hA1
  have hB2 := (hb2.block _ (Array.getElem?_eq_some_iff.1 hB1).1).trans hB1
  clear hA1 hB1
  have c3 := cell_in hA2 3 rfl
  have d3 := cell_in hB2 3 rfl
  clear c2 d2
  clear hb2
  go_wp2_with fail
  refine (HR3.out _ (HB2.out)).mono ?_
  rintro e w3 ⟨rfl, hb3⟩
  have HB3 := Lib.hid (HB2.out.trans (hb3.mono HB2.out.size))
  have hA3 := (hb3.block _ (Array.getElem?_eq_some_iff.1 hA2).1).trans hA2
  have hB3 := (hb3.block _ (Array.getElem?_eq_some_iff.1 hB2).1).trans hB2
  clear hA2 hB2
  clear c3 d3
  clear hb3
  go_wp2
  go_ret
  exact ⟨rfl, HB3.out⟩
end Go.Proofs.YtcgmlhlnkbjfnaaGreatDoor

/- The walk of FnExactRowWith: it returns true at every argument. -/
namespace Go.Proofs.YtcgmlhlnkbjfnaaGreatDoor.fnExactRowWith
set_option maxRecDepth 100000
open Go.RowKit Go.Proofs.YtcgmlhlnkbjfnaaGreatDoor M
set_option linter.unusedVariables false
set_option linter.unusedSimpArgs false

set_option maxHeartbeats 16000000 in
theorem walk (w : World) (hT : FeatTab w) (x : DTableau) (F1 F2 F3 : Addr → Prop) (v1 v2 v3 : Value) (hv : TabRd false w v1 v2 v3 x F1 F2 F3) (out : ByteArray) (ho : out.size ≤ maxLen) :
    Calls Tryz.prog 5 #[.agg #[.string x.Input, v1, v2, v3], .string out] w fun e w' => e = .returned (.bool true) ∧ Below w.heap.size w w' := by
  obtain ⟨A1, c1, rfl⟩ := hv.names.form
  obtain ⟨A2, c2, rfl⟩ := hv.rows.form
  obtain ⟨A3, c3, rfl⟩ := hv.marks.form
  have HV := Lib.hid hv.tight
  have HFT := Lib.hid hT
  clear hv hT
  have HB := Lib.hid (Below.refl w.heap.size w)
  go_enter Tryz.func5, Tryz.ntmps5
  by_cases hlen : (1048576 : Int) < (out.size : Int)
  case pos =>
    go_wp2
    go_ret
    exact ⟨rfl, (Below.refl _ _).alloc (Nat.le_refl _) _⟩
  have HC : Hid (∀ W, Below w.heap.size w W → Calls Tryz.prog 18 #[.agg #[.string x.Input, .slice A1 x.Names.length c1, .slice A2 x.Rows.length c2, .slice A3 x.Marks.length c3], .int .i64 1048576] W fun e w' => (∃ z : Int, e = .returned (.int .i64 z) ∧ (z < 0 ∨ z + (rTableau.sz x : Nat) = 1048576 ∧ 0 ≤ z)) ∧ Below W.heap.size W w') := fun W hW => szTableau_any x _ _ _ 1048576 _ _ _ W (by omega) (by omega) (HV.out.kept hW)
  go_wp2_with fail
  refine (HC.out _ (by first | exact Below.refl _ _ | exact (Below.refl _ _).alloc (Nat.le_refl _) _ | exact (Below.refl _ _).drew)).mono ?_
  rintro e w1 ⟨⟨z, rfl, hz⟩, hb⟩
  have hbn : Below w.heap.size w w1 := below_step (by first | exact Below.refl _ _ | exact (Below.refl _ _).alloc (Nat.le_refl _) _ | exact (Below.refl _ _).drew) hb
  have hs1 : Hid (w.heap.size ≤ w1.heap.size) := hbn.size
  replace HV := Lib.hid (HV.out.kept hbn)
  replace HB := Lib.hid (HB.out.trans (hbn.mono HB.out.size))
  have HA : Hid (InC w1 w.heap.size #[.string x.Input, .slice A1 x.Names.length c1, .slice A2 x.Rows.length c2, .slice A3 x.Marks.length c3] 37) := (hb.block _ (by simp)).trans (heap_alloc_new _ _)
  have HA0 : Hid (w.heap.size < w1.heap.size) := (HA.out.lt : _ < _)
  clear hb hbn HC
  by_cases hneg : z < 0
  case pos =>
    go_wp2
    go_ret
    exact ⟨rfl, HB.out⟩
  have HSZ : Hid (rTableau.sz x ≤ 1048576) := by unfold Hid; have := hz.resolve_left hneg; omega
  clear hz
  have HC : Hid (∀ W, Below w1.heap.size w1 W → Calls Tryz.prog 20 #[.agg #[.string x.Input, .slice A1 x.Names.length c1, .slice A2 x.Rows.length c2, .slice A3 x.Marks.length c3]] W (TabPost x W)) := fun W hW => toTableau_any x _ _ _ _ _ _ W HSZ.out (HV.out.kept hW)
  have bHA0 := HA.out.cell 0 rfl
  have bHA1 := HA.out.cell 1 rfl
  have bHA2 := HA.out.cell 2 rfl
  have bHA3 := HA.out.cell 3 rfl
  go_wp2_with fail
  refine (HC.out _ (by first | exact Below.refl _ _ | exact (Below.refl _ _).alloc (Nat.le_refl _) _ | exact (Below.refl _ _).drew)).mono ?_
  rintro e w2 ⟨Au1, cu1, Au2, cu2, Au3, cu3, Gu1, Gu2, Gu3, rfl, hq, hg, hb⟩
  clear bHA0 bHA1 bHA2 bHA3
  have hbn : Below w1.heap.size w1 w2 := below_step (by first | exact Below.refl _ _ | exact (Below.refl _ _).alloc (Nat.le_refl _) _ | exact (Below.refl _ _).drew) hb
  have hs2 : Hid (w1.heap.size ≤ w2.heap.size) := hbn.size
  replace HV := Lib.hid (HV.out.kept hbn)
  replace HA := Lib.hid (HA.out.kept hbn)
  replace HB := Lib.hid (HB.out.trans (hbn.mono HB.out.size))
  have Hu := Lib.hid hq
  have Ru : Hid (∀ a, Gu1 a ∨ Gu2 a ∨ Gu3 a → w1.heap.size ≤ a.block ∧ a.block < w2.heap.size) := fun a ha => ⟨Nat.le_trans (Below.size (B := w1.heap.size) (w := w1) (by first | exact Below.refl _ _ | exact (Below.refl _ _).alloc (Nat.le_refl _) _ | exact (Below.refl _ _).drew)) (hg a ha).1, (hg a ha).2⟩
  clear hb hbn HC hq hg
  have HC : Hid (∀ W, Below w2.heap.size w2 W → Calls Tryz.prog 22 #[.agg #[.string x.Input, .slice Au1 x.Names.length cu1, .slice Au2 x.Rows.length cu2, .slice Au3 x.Marks.length cu3], .string out] W fun e w' => e = .returned (.int .i64 (rowW x out)) ∧ Below W.heap.size W w') := fun W hW => specRw_any x Au1 cu1 Au2 cu2 Au3 cu3 _ _ _  out W HSZ.out (Hu.out.kept hW).weak
  have bHA0 := HA.out.cell 0 rfl
  have bHA1 := HA.out.cell 1 rfl
  have bHA2 := HA.out.cell 2 rfl
  have bHA3 := HA.out.cell 3 rfl
  go_wp2_with fail
  refine (HC.out _ (by first | exact Below.refl _ _ | exact (Below.refl _ _).alloc (Nat.le_refl _) _ | exact (Below.refl _ _).drew)).mono ?_
  rintro e w3 ⟨rfl, hb⟩
  clear bHA0 bHA1 bHA2 bHA3
  have hbn : Below w2.heap.size w2 w3 := below_step (by first | exact Below.refl _ _ | exact (Below.refl _ _).alloc (Nat.le_refl _) _ | exact (Below.refl _ _).drew) hb
  have hs3 : Hid (w2.heap.size ≤ w3.heap.size) := hbn.size
  replace HV := Lib.hid (HV.out.kept hbn)
  replace HA := Lib.hid (HA.out.kept hbn)
  replace Hu := Lib.hid (Hu.out.kept hbn)
  replace HB := Lib.hid (HB.out.trans (hbn.mono HB.out.size))
  clear hb hbn HC
  have HC : Hid (∀ W, Below w3.heap.size w3 W → Calls Tryz.prog 20 #[.agg #[.string x.Input, .slice A1 x.Names.length c1, .slice A2 x.Rows.length c2, .slice A3 x.Marks.length c3]] W (TabPost x W)) := fun W hW => toTableau_any x _ _ _ _ _ _ W HSZ.out (HV.out.kept hW)
  have bHA0 := HA.out.cell 0 rfl
  have bHA1 := HA.out.cell 1 rfl
  have bHA2 := HA.out.cell 2 rfl
  have bHA3 := HA.out.cell 3 rfl
  go_wp2_with fail
  refine (HC.out _ (by first | exact Below.refl _ _ | exact (Below.refl _ _).alloc (Nat.le_refl _) _ | exact (Below.refl _ _).drew)).mono ?_
  rintro e w4 ⟨Ax1, cx1, Ax2, cx2, Ax3, cx3, Gx1, Gx2, Gx3, rfl, hq, hg, hb⟩
  clear bHA0 bHA1 bHA2 bHA3
  have hbn : Below w3.heap.size w3 w4 := below_step (by first | exact Below.refl _ _ | exact (Below.refl _ _).alloc (Nat.le_refl _) _ | exact (Below.refl _ _).drew) hb
  have hs4 : Hid (w3.heap.size ≤ w4.heap.size) := hbn.size
  replace HV := Lib.hid (HV.out.kept hbn)
  replace HA := Lib.hid (HA.out.kept hbn)
  replace Hu := Lib.hid (Hu.out.kept hbn)
  replace HB := Lib.hid (HB.out.trans (hbn.mono HB.out.size))
  have Hx := Lib.hid hq
  have Rx : Hid (∀ a, Gx1 a ∨ Gx2 a ∨ Gx3 a → w3.heap.size ≤ a.block ∧ a.block < w4.heap.size) := fun a ha => ⟨Nat.le_trans (Below.size (B := w3.heap.size) (w := w3) (by first | exact Below.refl _ _ | exact (Below.refl _ _).alloc (Nat.le_refl _) _ | exact (Below.refl _ _).drew)) (hg a ha).1, (hg a ha).2⟩
  clear hb hbn HC hq hg
  have HC : Hid (∀ W, Below w4.heap.size w4 W → Calls Tryz.prog 23 #[.agg #[.string x.Input, .slice Ax1 x.Names.length cx1, .slice Ax2 x.Rows.length cx2, .slice Ax3 x.Marks.length cx3], .string out] W fun e w' => e = .returned (.int .i64 (rowW x out)) ∧ Below W.heap.size W w') := fun W hW => implRw_any x Ax1 cx1 Ax2 cx2 Ax3 cx3 _ _ _  out W HSZ.out (Hx.out.kept hW).weak (feat_below HFT.out (HB.out.trans (hW.mono HB.out.size)))
  have bHA0 := HA.out.cell 0 rfl
  have bHA1 := HA.out.cell 1 rfl
  have bHA2 := HA.out.cell 2 rfl
  have bHA3 := HA.out.cell 3 rfl
  go_wp2_with fail
  refine (HC.out _ (by first | exact Below.refl _ _ | exact (Below.refl _ _).alloc (Nat.le_refl _) _ | exact (Below.refl _ _).drew)).mono ?_
  rintro e w5 ⟨rfl, hb⟩
  clear bHA0 bHA1 bHA2 bHA3
  have hbn : Below w4.heap.size w4 w5 := below_step (by first | exact Below.refl _ _ | exact (Below.refl _ _).alloc (Nat.le_refl _) _ | exact (Below.refl _ _).drew) hb
  have hs5 : Hid (w4.heap.size ≤ w5.heap.size) := hbn.size
  replace HV := Lib.hid (HV.out.kept hbn)
  replace HA := Lib.hid (HA.out.kept hbn)
  replace Hu := Lib.hid (Hu.out.kept hbn)
  replace Hx := Lib.hid (Hx.out.kept hbn)
  replace HB := Lib.hid (HB.out.trans (hbn.mono HB.out.size))
  have HX : Hid (InC w5 w4.heap.size #[.string x.Input, .slice Ax1 x.Names.length cx1, .slice Ax2 x.Rows.length cx2, .slice Ax3 x.Marks.length cx3] 27) := (hb.block _ (by simp)).trans (heap_alloc_new _ _)
  clear hb hbn HC
  generalize rowW x out = bb at *
  have HTO : Hid (∀ W, Below w5.heap.size w5 W → Calls Tryz.prog 20 #[.agg #[.string x.Input, .slice A1 x.Names.length c1, .slice A2 x.Rows.length c2, .slice A3 x.Marks.length c3]] W (TabPost x W)) := fun W hW => toTableau_any x _ _ _ _ _ _ W HSZ.out (HV.out.kept hW)
  have HEQ : Hid (∀ (W : World) (u1 u2 u3 : Value) (G1 G2 G3 : Addr → Prop), Below w5.heap.size w5 W → TabRd true W u1 u2 u3 x G1 G2 G3 → Calls Tryz.prog 13 #[.agg #[.string x.Input, .slice Ax1 x.Names.length cx1, .slice Ax2 x.Rows.length cx2, .slice Ax3 x.Marks.length cx3], .agg #[.string x.Input, u1, u2, u3]] W fun e w' => e = .returned (.bool true) ∧ Below W.heap.size W w') := fun W u1 u2 u3 G1 G2 G3 hW hu => eqTableau_any x _ _ _ _ _ _ _ _ _ _ _ _ W (Hx.out.kept hW).weak hu.weak
  have HXK : Hid (∀ W : World, Below w5.heap.size w5 W → InC W _ #[.string x.Input, .slice Ax1 x.Names.length cx1, .slice Ax2 x.Rows.length cx2, .slice Ax3 x.Marks.length cx3] 27) := fun W hW => HX.out.kept hW
  have bHA0 := HA.out.cell 0 rfl
  have bHA1 := HA.out.cell 1 rfl
  have bHA2 := HA.out.cell 2 rfl
  have bHA3 := HA.out.cell 3 rfl
  have bHX0 := HX.out.cell 0 rfl
  have bHX1 := HX.out.cell 1 rfl
  have bHX2 := HX.out.cell 2 rfl
  have bHX3 := HX.out.cell 3 rfl
  go_upto_region 12 with fail
  go_region_with (first | (go_simp; go_at_call 20; refine (HTO.out _ ((Below.refl _ _).drew)).mono ?_; rintro e wt ⟨At1, ct1, At2, ct2, At3, ct3, T1, T2, T3, rfl, hqt, hgt, hbt0⟩; have hbt : Below w5.heap.size w5 wt := below_step ((Below.refl _ _).drew) hbt0; have e0 := (HXK.out _ hbt).cell 0 rfl; have e1 := (HXK.out _ hbt).cell 1 rfl; have e2 := (HXK.out _ hbt).cell 2 rfl; have e3 := (HXK.out _ hbt).cell 3 rfl; have HBT := Lib.hid hbt; have HQT := Lib.hid hqt; clear hbt0 hqt hgt hbt) | (go_simp; go_at_call 13; refine (HEQ.out _ _ _ _ _ _ _ HBT.out HQT.out).mono ?_; rintro e wz ⟨rfl, hbz0⟩; have HBZ := Lib.hid (below_step HBT.out hbz0); clear hbz0))
  all_goals
    go_wp2
    go_ret
    exact ⟨rfl, HB.out.trans (HBZ.out.mono HB.out.size)⟩
end Go.Proofs.YtcgmlhlnkbjfnaaGreatDoor.fnExactRowWith

/- The first rows of all profiles: plain mathematics. -/
namespace Go.Proofs.YtcgmlhlnkbjfnaaGreatDoor
set_option maxRecDepth 100000
open Go.RowKit Go.Sort M
set_option linter.unusedVariables false
set_option linter.unusedSimpArgs false

/-- The k-th row's marks stand among those of the first j places of l. -/
def seenB (x : DTableau) (l : List Int) (k j : Nat) : Bool := (l.take j).any fun d => decide (x.Marks.getD d.toNat [] = x.Marks.getD k [])
theorem seenB_zero (x : DTableau) (l : List Int) (k : Nat) : seenB x l k 0 = false := rfl
theorem seenB_step {x : DTableau} {l : List Int} {k j : Nat} {d : Int} (h : l[j]? = some d) : seenB x l k (j + 1) = (seenB x l k j || decide (x.Marks.getD d.toNat [] = x.Marks.getD k [])) := by
  unfold seenB
  rw [List.take_add_one, h, List.any_append]
  simp
def distTo (x : DTableau) : Nat → List Int
  | 0 => []
  | k + 1 => if seenB x (distTo x k) k (distTo x k).length = true then distTo x k else distTo x k ++ [(k : Int)]
theorem distTo_mem (x : DTableau) : ∀ (k : Nat) (d : Int), d ∈ distTo x k → 0 ≤ d ∧ d < (k : Int)
  | 0, d, h => by simp [distTo] at h
  | k + 1, d, h => by
    unfold distTo at h
    split at h
    · have := distTo_mem x k d h; omega
    · rw [List.mem_append, List.mem_singleton] at h
      rcases h with h | h
      · have := distTo_mem x k d h; omega
      · omega
theorem distTo_len (x : DTableau) : ∀ k, (distTo x k).length ≤ k
  | 0 => by simp [distTo]
  | k + 1 => by
    have := distTo_len x k
    unfold distTo
    split
    · omega
    · rw [List.length_append, List.length_singleton]; omega
theorem distTo_yes {x : DTableau} {k : Nat} (h : seenB x (distTo x k) k (distTo x k).length = true) : distTo x (k + 1) = distTo x k := by rw [distTo, if_pos h]
theorem distTo_no {x : DTableau} {k : Nat} (h : seenB x (distTo x k) k (distTo x k).length = false) : distTo x (k + 1) = distTo x k ++ [(k : Int)] := by rw [distTo, if_neg (by rw [h]; simp)]
def distL (x : DTableau) : List Int := distTo x (rowsL x).length
theorem distL_no {x : DTableau} (h : isTab x = false) : distL x = [] := by unfold distL; rw [rowsL_no h]; rfl
theorem distL_yes {x : DTableau} (h : isTab x = true) : distL x = distTo x x.Rows.length := by unfold distL; rw [rowsL_len h]
theorem dist_i64 (x : DTableau) (k : Nat) (hk : k ≤ 1000000000) : ∀ z ∈ distTo x k, I64 z := fun z hz => by have := distTo_mem x k z hz; unfold I64; omega
theorem cellsI_N11 (l : List Int) : cellsI l = cellsN l := rfl
/-- An own row of numbers, laid open. -/
theorem own_ints {w : World} {base : Nat} {u : Value} {l : List Int} (h : w.ownsRow base 3 1 u l.length (cellsI l)) (hm : l.length ≤ 9223372036854775807) (hz : ∀ z ∈ l, I64 z) : RowRd Rep.int true w u l (fun a => base ≤ a.block) := RowRd.of_ints h hm hz
theorem own_keepI {w w' : World} {base : Nat} {u : Value} {n : Nat} {xs : List Value} (hb : Below w.heap.size w w') (h : w.ownsRow base 3 1 u n xs) : w'.ownsRow base 3 1 u n xs := by
  obtain ⟨h1, h2⟩ := h
  refine ⟨h1, ?_⟩
  rcases h2 with h2 | ⟨g, cap, cur, hv, hg, hh, r⟩
  · exact Or.inl h2
  · exact Or.inr ⟨g, cap, cur, hv, hg, (hb.block g (Array.getElem?_eq_some_iff.1 hh).1).trans hh, r⟩
theorem own_formI {w : World} {base n : Nat} {u : Value} {c : List Value} (h : w.ownsRow base 3 1 u n c) : ∃ A cap, u = .slice A n cap := by
  rcases h.2 with ⟨rfl, hn⟩ | ⟨g, cap, cur, rfl, _⟩
  · exact ⟨none, 0, by rw [hn]⟩
  · exact ⟨_, _, rfl⟩
def IntPost11 (l : List Int) (w : World) (e : Ending) (w' : World) : Prop := ∃ v, e = .returned v ∧ RowRd Rep.int true w' v l (fun a => w.heap.size ≤ a.block) ∧ Below w.heap.size w w'
end Go.Proofs.YtcgmlhlnkbjfnaaGreatDoor

/- The model's DistinctProfiles: what it answers. -/
namespace Go.Proofs.YtcgmlhlnkbjfnaaGreatDoor
set_option maxRecDepth 100000
open Go.RowKit Go.Sort M
set_option linter.unusedVariables false
set_option linter.unusedSimpArgs false

set_option maxHeartbeats 16000000 in
theorem specDist_any (x : DTableau) (A1 : Option Addr) (c1 : Nat) (A2 : Option Addr) (c2 : Nat) (A3 : Option Addr) (c3 : Nat) (F1 F2 F3 : Addr → Prop) (w : World) (hm : rTableau.sz x ≤ 1048576) (hv : TabRd false w (.slice A1 x.Names.length c1) (.slice A2 x.Rows.length c2) (.slice A3 x.Marks.length c3) x F1 F2 F3) :
    Calls Tryz.prog 24 #[.agg #[.string x.Input, .slice A1 x.Names.length c1, .slice A2 x.Rows.length c2, .slice A3 x.Marks.length c3]] w (IntPost11 (distL x) w) := by
  obtain ⟨hz0, hz1, hz2, hz3, hz4, hz5⟩ := szTab_parts hm
  have HV := Lib.hid hv
  have HIT : Hid (∀ W, Below w.heap.size w W → Calls Tryz.prog 19 #[.agg #[.string x.Input, .slice A1 x.Names.length c1, .slice A2 x.Rows.length c2, .slice A3 x.Marks.length c3]] W fun e w' => e = .returned (.bool (isTab x)) ∧ Below W.heap.size W w') := fun W hW => specTab_any x A1 c1 A2 c2 A3 c3 F1 F2 F3 W hm (hv.kept hW)
  have HP : Hid (∀ u w', RowRd Rep.int true w' u (distL x) (fun a => w.heap.size ≤ a.block) → Below w.heap.size w w' → IntPost11 (distL x) w (.returned u) w') := fun u w' h1 h2 => ⟨u, rfl, h1, h2⟩
  have HX3 : Hid (∀ k, k < x.Marks.length → ∃ y, x.Marks[k]? = some y ∧ x.Marks.getD k [] = y) := fun k hk => ⟨_, List.getElem?_eq_getElem hk, by rw [List.getD_eq_getElem?_getD, List.getElem?_eq_getElem hk]; rfl⟩
  have HNO : Hid (∀ b, isTab x = b → b = false → distL x = []) := fun b h1 h2 => distL_no (h1.trans h2)
  have HYE : Hid (∀ b, isTab x = b → b = true → distL x = distTo x x.Rows.length ∧ 1 ≤ x.Rows.length ∧ x.Marks.length = x.Rows.length) := fun b h1 h2 => by
    have h3 := headT_parts (headT_of (h1.trans h2))
    exact ⟨distL_yes (h1.trans h2), h3.2.2.1, h3.2.2.2.2⟩
  have HN2 := Lib.hid (HNO.out _ rfl)
  have HY2 := Lib.hid (HYE.out _ rfl)
  have HDM := Lib.hid (distTo_mem x)
  have HDL := Lib.hid (distTo_len x)
  have HDY : Hid (∀ k, seenB x (distTo x k) k (distTo x k).length = true → distTo x (k + 1) = distTo x k) := fun k h => distTo_yes h
  have HDN : Hid (∀ k, seenB x (distTo x k) k (distTo x k).length = false → distTo x (k + 1) = distTo x k ++ [(k : Int)]) := fun k h => distTo_no h
  have HI64 := Lib.hid (dist_i64 x)
  have HSS : Hid (∀ (l : List Int) (k j : Nat) (d : Int), l[j]? = some d → seenB x l k (j + 1) = (seenB x l k j || decide (x.Marks.getD d.toNat [] = x.Marks.getD k []))) := fun l k j d h => seenB_step h
  clear hv hz4 hz5 hm HNO HYE
  generalize isTab x = t at *
  have HA1 : Hid (InC ((w.alloc (.cells #[.string x.Input, .slice A1 x.Names.length c1, .slice A2 x.Rows.length c2, .slice A3 x.Marks.length c3] 27)).alloc (.cells #[] 3)) w.heap.size #[.string x.Input, .slice A1 x.Names.length c1, .slice A2 x.Rows.length c2, .slice A3 x.Marks.length c3] 27) := (heap_alloc_old _ _ (by simp)).trans (heap_alloc_new _ _)
  have HO0 : Hid (((w.alloc (.cells #[.string x.Input, .slice A1 x.Names.length c1, .slice A2 x.Rows.length c2, .slice A3 x.Marks.length c3] 27)).alloc (.cells #[] 3)).ownsRow (w.heap.size + 1) 3 1 (.slice (some ⟨w.heap.size + 1, 0, none⟩) 0 0) (distTo x 0).length (cellsI (distTo x 0))) := ⟨rfl, Or.inr ⟨w.heap.size + 1, 0, #[], rfl, Nat.le_refl _, by rw [show w.heap.size + 1 = (w.alloc (.cells #[.string x.Input, .slice A1 x.Names.length c1, .slice A2 x.Rows.length c2, .slice A3 x.Marks.length c3] 27)).heap.size by simp]; exact heap_alloc_new _ _, Nat.le_refl _, by unfold maxLen; omega, rfl, rfl⟩⟩
  have HB0 : Hid (Below w.heap.size w ((w.alloc (.cells #[.string x.Input, .slice A1 x.Names.length c1, .slice A2 x.Rows.length c2, .slice A3 x.Marks.length c3] 27)).alloc (.cells #[] 3))) := ((Below.refl _ _).alloc (Nat.le_refl _) _).alloc (by simp) _
  have HS1 : Hid (w.heap.size + 1 ≤ ((w.alloc (.cells #[.string x.Input, .slice A1 x.Names.length c1, .slice A2 x.Rows.length c2, .slice A3 x.Marks.length c3] 27)).alloc (.cells #[] 3)).heap.size) := by unfold Hid; simp
  go_enter Tryz.func24, Tryz.ntmps24
  go_wp2
  go_loopw [3, 4] (fun u i wr => ∃ (k : Nat), k ≤ x.Rows.length ∧ i = .int .i64 k ∧ wr.ownsRow (w.heap.size + 1) 3 1 u (distTo x k).length (cellsI (distTo x k)) ∧ (0 < k → t = true) ∧ InC wr w.heap.size #[.string x.Input, .slice A1 x.Names.length c1, .slice A2 x.Rows.length c2, .slice A3 x.Marks.length c3] 27 ∧ w.heap.size + 1 ≤ wr.heap.size ∧ Below w.heap.size w wr) (fun _ i _ => x.Rows.length - (intOf i).toNat)
  case atStart => exact ⟨0, by omega, rfl, HO0.out, fun h => by omega, HA1.out, HS1.out, HB0.out⟩
  case round =>
    obtain ⟨k, hk, rfl, hown, hpos, hbox, hsz, hbe0⟩ := hrel
    obtain ⟨w2, rfl⟩ : ∃ w2 : World, w2 = wr := ⟨_, rfl⟩
    have HB := Lib.hid hbe0
    have HBX := Lib.hid hbox
    have HOW := Lib.hid hown
    obtain ⟨Au, cu, rfl⟩ := own_formI hown
    have hdl := HDL.out k
    clear hbe0 hbox hown
    by_cases hkl : k < x.Rows.length
    · have b0 := HBX.out.cell 0 rfl
      have b1 := HBX.out.cell 1 rfl
      have b2 := HBX.out.cell 2 rfl
      have b3 := HBX.out.cell 3 rfl
      go_wp2_with fail
      refine (HIT.out _ HB.out).mono ?_
      rintro e w3 ⟨rfl, hb⟩
      have HB3 := Lib.hid (below_step HB.out hb)
      have HBX3 := Lib.hid (HBX.out.kept hb)
      have HO3 := Lib.hid (own_keepI hb HOW.out)
      have hsz3 := Nat.le_trans hsz hb.size
      clear hb b0 b1 b2 b3 HBX HOW
      cases t with
      | false =>
        have HN : Hid (distL x = distTo x k) := by
          have hk0 : k = 0 := by rcases Nat.eq_zero_or_pos k with h | h; exact h; exact absurd (hpos h) (by simp)
          unfold Hid; rw [HN2.out rfl, hk0]; rfl
        have HRR := Lib.hid ((own_ints HO3.out (by omega) (HI64.out k (by omega))).mono (G := fun a => w.heap.size ≤ a.block) (fun a ha => by omega))
        go_wp2_with fail
        go_ret
        exact HP.out _ _ (by rw [HN.out]; exact HRR.out) HB3.out
      | true =>
      obtain ⟨hdd, h1r, hml⟩ := HY2.out rfl
      have HDD := Lib.hid hdd
      have HML := Lib.hid hml
      obtain ⟨m, hmk, hmd⟩ := HX3.out k (by omega)
      obtain ⟨g3, o3, xs3, G3, rfl, -, hr3', -, hc3⟩ := (HV.out.marks.kept HB3.out).get hmk
      obtain ⟨v3, rfl, q3⟩ := id hr3'
      rw [show (Rep.row Rep.int).size = 1 from rfl] at hc3
      have d3 := hc3 0 _ rfl
      simp only [Nat.add_zero, Nat.mul_one] at d3
      have HC3 := Lib.hid d3
      have HQ3 := Lib.hid q3
      have HMD := Lib.hid hmd
      have HRU := Lib.hid ((own_ints HO3.out (by omega) (HI64.out k (by omega))).weak)
      have HSK := Lib.hid (HSS.out (distTo x k) k)
      have HDK := Lib.hid (HDM.out k)
      have HDYK := Lib.hid (HDY.out k)
      have HDNK := Lib.hid (HDN.out k)
      have hkr : (k : Int) < (x.Marks.length : Int) := by omega
      have hkm : k < x.Marks.length := by omega
      clear hmk hr3' hc3 d3 q3 hmd hml hdd h1r
      have HXI : Hid (∀ j, j < (distTo x k).length → ∃ d, (distTo x k)[j]? = some d) := fun j hj => ⟨_, List.getElem?_eq_getElem hj⟩
      generalize hln : (distTo x k).length = L at *
      go_wp2
      go_loopw [5, 6] (fun f i wr => ∃ (j : Nat), j ≤ L ∧ i = .int .i64 j ∧ f = .bool (seenB x (distTo x k) k j) ∧ Below w3.heap.size w3 wr) (fun _ i _ => L - (intOf i).toNat)
      case atStart => exact ⟨0, by omega, rfl, rfl, Below.refl _ _⟩
      case round =>
        obtain ⟨j, hj, rfl, rfl, hbi⟩ := hrel
        obtain ⟨w4, rfl⟩ : ∃ w4 : World, w4 = wr := ⟨_, rfl⟩
        have HBI := Lib.hid hbi
        clear hbi
        by_cases hjl : j < L
        · obtain ⟨d, hd⟩ := HXI.out j hjl
          have hdr := HDK.out d (List.mem_of_getElem? hd)
          have HST := Lib.hid (HSK.out j d hd)
          obtain ⟨dn, rfl⟩ : ∃ dn : Nat, d = (dn : Int) := ⟨d.toNat, by omega⟩
          rw [Int.toNat_natCast] at HST
          obtain ⟨m2, hm2, hmd2⟩ := HX3.out dn (by have := HML.out; omega)
          have HW4 := Lib.hid (below_step HB3.out HBI.out)
          obtain ⟨g4, o4, xs4, G4, hge, -, hr4', -, hc4⟩ := (HV.out.marks.kept HW4.out).get hm2
          cases hge
          obtain ⟨v4, rfl, q4⟩ := id hr4'
          rw [show (Rep.row Rep.int).size = 1 from rfl] at hc4
          have d4 := hc4 0 _ rfl
          simp only [Nat.add_zero, Nat.mul_one] at d4
          obtain ⟨gu, ou, xsu, Gu, rfl, -, hru', -, hcu⟩ := (HRU.out.kept HBI.out).get hd
          obtain ⟨rfl, -⟩ := id hru'
          rw [show Rep.int.size = 1 from rfl] at hcu
          have du := hcu 0 _ rfl
          simp only [Nat.add_zero, Nat.mul_one] at du
          have HB3' : Hid (∀ W : World, Below w4.heap.size w4 W → W.cell? ⟨w.heap.size, 3, none⟩ = some (.slice (some ⟨g3, o3, none⟩) x.Marks.length c3)) := fun W hW => ((HBX3.out.kept HBI.out).kept hW).cell 3 rfl
          have HCU : Hid (∀ W : World, Below w4.heap.size w4 W → W.cell? ⟨gu, ou + j, none⟩ = some (.int .i64 dn)) := fun W hW => cell_kept hW du
          have HC4 : Hid (∀ W : World, Below w4.heap.size w4 W → W.cell? ⟨g3, o3 + dn, none⟩ = some v4) := fun W hW => cell_kept hW d4
          have HC5 : Hid (∀ W : World, Below w4.heap.size w4 W → W.cell? ⟨g3, o3 + k, none⟩ = some v3) := fun W hW => cell_kept (below_step HBI.out hW) HC3.out
          have HSE : Hid (∀ W, Below w4.heap.size w4 W → Calls Tryz.prog 58 #[v4, v3] W fun e w' => e = .returned (.bool (decide (m2 = m))) ∧ Below W.heap.size W w') := fun W hW => specL11_any v4 v3 m2 m G4 G3 W (q4.kept hW) (HQ3.out.kept (below_step HBI.out hW))
          rw [hmd2, HMD.out] at HST
          have hjr : (j : Int) < (L : Int) := by omega
          have hdm : (dn : Int) < (x.Marks.length : Int) := by have := HML.out; omega
          have hdm2 : dn < x.Marks.length := by have := HML.out; omega
          clear hm2 hmd2 hr4' hc4 d4 q4 hru' hcu du hd
          generalize hsb : seenB x (distTo x k) k j = sb at *
          clear hsb
          go_upto_region 9 with fail
          refine wp_region_held_drew (S := fun w' => Below w4.heap.size w4 w') (by kernel_rfl) ((Below.refl _ _).drew) (fun hHeld => ?_)
          cases sb
          · refine' wpAnyH_take (i := 0) (oi := _) (v := ?v1) rfl ?hs1 ?hf1 ?hr1 ?hQ1 (Or.inl ⟨?hw1, ?hy1⟩) hHeld ?rest1
            case hs1 => kernel_rfl
            case hf1 => kernel_rfl
            case hr1 => kernel_rfl
            case hQ1 => exact fun _ _ _ h => h
            case hw1 => kernel_rfl
            case hy1 => (intro w' hw'; go_simp; try with_reducible rfl)
            (try change wpAnyH _ _ _ _ _ _ _ (Act.put _ (some 25) _) _)
            try simp only [Act.put, List.setIfInBounds_toArray, List.set_cons_zero, List.set_cons_succ]
            refine' wpAnyH_take (i := 1) (oi := _) (v := ?v2) rfl ?hs2 ?hf2 ?hr2 ?hQ2 (Or.inl ⟨?hw2, ?hy2⟩) hHeld ?rest2
            case hs2 => kernel_rfl
            case hf2 => kernel_rfl
            case hr2 => kernel_rfl
            case hQ2 => exact fun _ _ _ h => h
            case hw2 => kernel_rfl
            case hy2 => (intro w' hw'; go_simp; try with_reducible rfl)
            (try change wpAnyH _ _ _ _ _ _ _ (Act.put _ (some 26) _) _)
            try simp only [Act.put, List.setIfInBounds_toArray, List.set_cons_zero, List.set_cons_succ]
            refine' wpAnyH_take (i := 2) (oi := _) (v := ?v3) rfl ?hs3 ?hf3 ?hr3 ?hQ3 (Or.inl ⟨?hw3, ?hy3⟩) hHeld ?rest3
            case hs3 => kernel_rfl
            case hf3 => kernel_rfl
            case hr3 => kernel_rfl
            case hQ3 => exact fun _ _ _ h => h
            case hw3 => kernel_rfl
            case hy3 => (intro w' hw'; go_simp; try with_reducible rfl)
            (try change wpAnyH _ _ _ _ _ _ _ (Act.put _ (some 27) _) _)
            try simp only [Act.put, List.setIfInBounds_toArray, List.set_cons_zero, List.set_cons_succ]
            refine' wpAnyH_take (i := 3) (oi := _) (v := ?v4) rfl ?hs4 ?hf4 ?hr4 ?hQ4 (Or.inl ⟨?hw4, ?hy4⟩) hHeld ?rest4
            case hs4 => kernel_rfl
            case hf4 => kernel_rfl
            case hr4 => kernel_rfl
            case hQ4 => exact fun _ _ _ h => h
            case hw4 => kernel_rfl
            case hy4 => (intro w' hw'; have c1' := HB3'.out _ hw'; have c2' := HCU.out _ hw'; have c4' := HC4.out _ hw'; have c5' := HC5.out _ hw'; go_simp; try with_reducible rfl)
            (try change wpAnyH _ _ _ _ _ _ _ (Act.put _ (some 28) _) _)
            try simp only [Act.put, List.setIfInBounds_toArray, List.set_cons_zero, List.set_cons_succ]
            refine' wpAnyH_take (i := 4) (oi := _) (v := ?v5) rfl ?hs5 ?hf5 ?hr5 ?hQ5 (Or.inl ⟨?hw5, ?hy5⟩) hHeld ?rest5
            case hs5 => kernel_rfl
            case hf5 => kernel_rfl
            case hr5 => kernel_rfl
            case hQ5 => exact fun _ _ _ h => h
            case hw5 => kernel_rfl
            case hy5 => (intro w' hw'; go_simp; try with_reducible rfl)
            (try change wpAnyH _ _ _ _ _ _ _ (Act.put _ (some 29) _) _)
            try simp only [Act.put, List.setIfInBounds_toArray, List.set_cons_zero, List.set_cons_succ]
            refine' wpAnyH_take (i := 5) (oi := _) (v := ?v6) rfl ?hs6 ?hf6 ?hr6 ?hQ6 (Or.inl ⟨?hw6, ?hy6⟩) hHeld ?rest6
            case hs6 => kernel_rfl
            case hf6 => kernel_rfl
            case hr6 => kernel_rfl
            case hQ6 => exact fun _ _ _ h => h
            case hw6 => kernel_rfl
            case hy6 => (intro w' hw'; go_simp; try with_reducible rfl)
            (try change wpAnyH _ _ _ _ _ _ _ (Act.put _ (some 30) _) _)
            try simp only [Act.put, List.setIfInBounds_toArray, List.set_cons_zero, List.set_cons_succ]
            refine' wpAnyH_take (i := 6) (oi := _) (v := ?v7) rfl ?hs7 ?hf7 ?hr7 ?hQ7 (Or.inl ⟨?hw7, ?hy7⟩) hHeld ?rest7
            case hs7 => kernel_rfl
            case hf7 => kernel_rfl
            case hr7 => kernel_rfl
            case hQ7 => exact fun _ _ _ h => h
            case hw7 => kernel_rfl
            case hy7 => (intro w' hw'; go_simp; try with_reducible rfl)
            (try change wpAnyH _ _ _ _ _ _ _ (Act.put _ (some 31) _) _)
            try simp only [Act.put, List.setIfInBounds_toArray, List.set_cons_zero, List.set_cons_succ]
            refine' wpAnyH_take (i := 7) (oi := _) (v := ?v8) rfl ?hs8 ?hf8 ?hr8 ?hQ8 (Or.inl ⟨?hw8, ?hy8⟩) hHeld ?rest8
            case hs8 => kernel_rfl
            case hf8 => kernel_rfl
            case hr8 => kernel_rfl
            case hQ8 => exact fun _ _ _ h => h
            case hw8 => kernel_rfl
            case hy8 => (intro w' hw'; have c1' := HB3'.out _ hw'; have c2' := HCU.out _ hw'; have c4' := HC4.out _ hw'; have c5' := HC5.out _ hw'; go_simp; try with_reducible rfl)
            (try change wpAnyH _ _ _ _ _ _ _ (Act.put _ (some 32) _) _)
            try simp only [Act.put, List.setIfInBounds_toArray, List.set_cons_zero, List.set_cons_succ]
            refine' wpAnyH_take (i := 8) (oi := _) (v := ?v9) rfl ?hs9 ?hf9 ?hr9 ?hQ9 (Or.inl ⟨?hw9, ?hy9⟩) hHeld ?rest9
            case hs9 => kernel_rfl
            case hf9 => kernel_rfl
            case hr9 => kernel_rfl
            case hQ9 => exact fun _ _ _ h => h
            case hw9 => kernel_rfl
            case hy9 => (intro w' hw'; go_simp; try with_reducible rfl)
            (try change wpAnyH _ _ _ _ _ _ _ (Act.put _ (some 33) _) _)
            try simp only [Act.put, List.setIfInBounds_toArray, List.set_cons_zero, List.set_cons_succ]
            refine' wpAnyH_take (i := 9) (oi := _) (v := ?v10) rfl ?hs10 ?hf10 ?hr10 ?hQ10 (Or.inl ⟨?hw10, ?hy10⟩) hHeld ?rest10
            case hs10 => kernel_rfl
            case hf10 => kernel_rfl
            case hr10 => kernel_rfl
            case hQ10 => exact fun _ _ _ h => h
            case hw10 => kernel_rfl
            case hy10 => (intro w' hw'; have c1' := HB3'.out _ hw'; have c2' := HCU.out _ hw'; have c4' := HC4.out _ hw'; have c5' := HC5.out _ hw'; go_simp; try with_reducible rfl)
            (try change wpAnyH _ _ _ _ _ _ _ (Act.put _ (some 34) _) _)
            try simp only [Act.put, List.setIfInBounds_toArray, List.set_cons_zero, List.set_cons_succ]
            refine' wpAnyH_take (i := 10) (oi := _) (v := ?v11) rfl ?hs11 ?hf11 ?hr11 ?hQ11 (Or.inl ⟨?hw11, ?hy11⟩) hHeld ?rest11
            case hs11 => kernel_rfl
            case hf11 => kernel_rfl
            case hr11 => kernel_rfl
            case hQ11 => exact fun _ _ _ h => h
            case hw11 => kernel_rfl
            case hy11 => (intro w' hw'; go_simp; try with_reducible rfl)
            (try change wpAnyH _ _ _ _ _ _ _ (Act.put _ (some 35) _) _)
            try simp only [Act.put, List.setIfInBounds_toArray, List.set_cons_zero, List.set_cons_succ]
            refine' wpAnyH_take (i := 11) (oi := _) (v := ?v12) rfl ?hs12 ?hf12 ?hr12 ?hQ12 (Or.inl ⟨?hw12, ?hy12⟩) hHeld ?rest12
            case hs12 => kernel_rfl
            case hf12 => kernel_rfl
            case hr12 => kernel_rfl
            case hQ12 => exact fun _ _ _ h => h
            case hw12 => kernel_rfl
            case hy12 => (intro w' hw'; have c1' := HB3'.out _ hw'; have c2' := HCU.out _ hw'; have c4' := HC4.out _ hw'; have c5' := HC5.out _ hw'; go_simp; try with_reducible rfl)
            (try change wpAnyH _ _ _ _ _ _ _ (Act.put _ (some 36) _) _)
            try simp only [Act.put, List.setIfInBounds_toArray, List.set_cons_zero, List.set_cons_succ]
            refine' wpAnyH_take (i := 12) (oi := _) (v := ?v13) rfl ?hs13 ?hf13 ?hr13 ?hQ13 (Or.inl ⟨?hw13, ?hy13⟩) hHeld ?rest13
            case hs13 => kernel_rfl
            case hf13 => kernel_rfl
            case hr13 => kernel_rfl
            case hQ13 => exact fun _ _ _ h => h
            case hw13 => kernel_rfl
            case hy13 => (intro w' hw'; go_simp; try with_reducible rfl)
            (try change wpAnyH _ _ _ _ _ _ _ (Act.put _ (some 37) _) _)
            try simp only [Act.put, List.setIfInBounds_toArray, List.set_cons_zero, List.set_cons_succ]
            refine' wpAnyH_take (i := 13) (oi := _) (v := ?v14) rfl ?hs14 ?hf14 ?hr14 ?hQ14 (Or.inl ⟨?hw14, ?hy14⟩) hHeld ?rest14
            case hs14 => kernel_rfl
            case hf14 => kernel_rfl
            case hr14 => kernel_rfl
            case hQ14 => exact fun _ _ _ h => h
            case hw14 => kernel_rfl
            case hy14 => (intro w' hw'; go_simp; try with_reducible rfl)
            (try change wpAnyH _ _ _ _ _ _ _ (Act.put _ (some 38) _) _)
            try simp only [Act.put, List.setIfInBounds_toArray, List.set_cons_zero, List.set_cons_succ]
            refine' wpAnyH_take (i := 14) (oi := _) (v := ?v15) rfl ?hs15 ?hf15 ?hr15 ?hQ15 (Or.inl ⟨?hw15, ?hy15⟩) hHeld ?rest15
            case hs15 => kernel_rfl
            case hf15 => kernel_rfl
            case hr15 => kernel_rfl
            case hQ15 => exact fun _ _ _ h => h
            case hw15 => kernel_rfl
            case hy15 => (intro w' hw'; have c1' := HB3'.out _ hw'; have c2' := HCU.out _ hw'; have c4' := HC4.out _ hw'; have c5' := HC5.out _ hw'; go_simp; try with_reducible rfl)
            (try change wpAnyH _ _ _ _ _ _ _ (Act.put _ (some 39) _) _)
            try simp only [Act.put, List.setIfInBounds_toArray, List.set_cons_zero, List.set_cons_succ]
            refine wpAnyH_ready (rs := [15]) (by kernel_rfl) (by simp) ?_
            refine AllReadyH.cons rfl (fun K hK => ?_) AllReadyH.nil
            go_simp
            go_at_call 58; refine (HSE.out _ hHeld).mono ?_; rintro e wd ⟨rfl, hba⟩; have hbe := below_step hHeld hba; clear hba
            (try go_wp2_with fail)
            refine hK.out _ _ hbe (fun hHeld => ?_)
            clear hK K
            try simp only [Act.put, List.setIfInBounds_toArray, List.set_cons_zero, List.set_cons_succ]
            refine' wpAnyH_take (i := 16) (oi := _) (v := ?v16) rfl ?hs16 ?hf16 ?hr16 ?hQ16 (Or.inl ⟨?hw16, ?hy16⟩) hHeld ?rest16
            case hs16 => kernel_rfl
            case hf16 => kernel_rfl
            case hr16 => kernel_rfl
            case hQ16 => exact fun _ _ _ h => h
            case hw16 => kernel_rfl
            case hy16 => (intro w' hw'; go_simp; try with_reducible rfl)
            (try change wpAnyH _ _ _ _ _ _ _ (Act.put _ (some 41) _) _)
            try simp only [Act.put, List.setIfInBounds_toArray, List.set_cons_zero, List.set_cons_succ]
            refine' wpAnyH_take (i := 17) (oi := _) (v := ?v17) rfl ?hs17 ?hf17 ?hr17 ?hQ17 (Or.inl ⟨?hw17, ?hy17⟩) hHeld ?rest17
            case hs17 => kernel_rfl
            case hf17 => kernel_rfl
            case hr17 => kernel_rfl
            case hQ17 => exact fun _ _ _ h => h
            case hw17 => kernel_rfl
            case hy17 => (intro w' hw'; go_simp; try with_reducible rfl)
            (try change wpAnyH _ _ _ _ _ _ _ (Act.put _ (some 5) _) _)
            try simp only [Act.put, List.setIfInBounds_toArray, List.set_cons_zero, List.set_cons_succ]
            refine wpAnyH_done ?hdone18 ?hq18 _
            case hdone18 => kernel_rfl
            go_wp2
            go_roundw
            case rel => exact ⟨j + 1, by omega, by go_num, by rw [HST.out]; first | rfl | simp, below_step HBI.out hHeld⟩
            case measure => simp [intOf]; omega
          · refine' wpAnyH_take (i := 0) (oi := _) (v := ?v19) rfl ?hs19 ?hf19 ?hr19 ?hQ19 (Or.inl ⟨?hw19, ?hy19⟩) hHeld ?rest19
            case hs19 => kernel_rfl
            case hf19 => kernel_rfl
            case hr19 => kernel_rfl
            case hQ19 => exact fun _ _ _ h => h
            case hw19 => kernel_rfl
            case hy19 => (intro w' hw'; go_simp; try with_reducible rfl)
            (try change wpAnyH _ _ _ _ _ _ _ (Act.put _ (some 25) _) _)
            try simp only [Act.put, List.setIfInBounds_toArray, List.set_cons_zero, List.set_cons_succ]
            refine' wpAnyH_take (i := 1) (oi := _) (v := ?v20) rfl ?hs20 ?hf20 ?hr20 ?hQ20 (Or.inl ⟨?hw20, ?hy20⟩) hHeld ?rest20
            case hs20 => kernel_rfl
            case hf20 => kernel_rfl
            case hr20 => kernel_rfl
            case hQ20 => exact fun _ _ _ h => h
            case hw20 => kernel_rfl
            case hy20 => (intro w' hw'; go_simp; try with_reducible rfl)
            (try change wpAnyH _ _ _ _ _ _ _ (Act.put _ (some 26) _) _)
            try simp only [Act.put, List.setIfInBounds_toArray, List.set_cons_zero, List.set_cons_succ]
            refine' wpAnyH_take (i := 2) (oi := _) (v := undef) rfl ?hs21 ?hf21 ?hr21 ?hQ21 (Or.inr ⟨?hw21, rfl⟩) hHeld ?rest21
            case hs21 => kernel_rfl
            case hf21 => kernel_rfl
            case hr21 => kernel_rfl
            case hQ21 => exact fun _ _ _ h => h
            case hw21 => kernel_rfl
            (try change wpAnyH _ _ _ _ _ _ _ (Act.put _ (some 27) _) _)
            try simp only [Act.put, List.setIfInBounds_toArray, List.set_cons_zero, List.set_cons_succ]
            refine' wpAnyH_take (i := 3) (oi := _) (v := undef) rfl ?hs22 ?hf22 ?hr22 ?hQ22 (Or.inr ⟨?hw22, rfl⟩) hHeld ?rest22
            case hs22 => kernel_rfl
            case hf22 => kernel_rfl
            case hr22 => kernel_rfl
            case hQ22 => exact fun _ _ _ h => h
            case hw22 => kernel_rfl
            (try change wpAnyH _ _ _ _ _ _ _ (Act.put _ (some 28) _) _)
            try simp only [Act.put, List.setIfInBounds_toArray, List.set_cons_zero, List.set_cons_succ]
            refine' wpAnyH_take (i := 4) (oi := _) (v := undef) rfl ?hs23 ?hf23 ?hr23 ?hQ23 (Or.inr ⟨?hw23, rfl⟩) hHeld ?rest23
            case hs23 => kernel_rfl
            case hf23 => kernel_rfl
            case hr23 => kernel_rfl
            case hQ23 => exact fun _ _ _ h => h
            case hw23 => kernel_rfl
            (try change wpAnyH _ _ _ _ _ _ _ (Act.put _ (some 29) _) _)
            try simp only [Act.put, List.setIfInBounds_toArray, List.set_cons_zero, List.set_cons_succ]
            refine' wpAnyH_take (i := 5) (oi := _) (v := undef) rfl ?hs24 ?hf24 ?hr24 ?hQ24 (Or.inr ⟨?hw24, rfl⟩) hHeld ?rest24
            case hs24 => kernel_rfl
            case hf24 => kernel_rfl
            case hr24 => kernel_rfl
            case hQ24 => exact fun _ _ _ h => h
            case hw24 => kernel_rfl
            (try change wpAnyH _ _ _ _ _ _ _ (Act.put _ (some 30) _) _)
            try simp only [Act.put, List.setIfInBounds_toArray, List.set_cons_zero, List.set_cons_succ]
            refine' wpAnyH_take (i := 6) (oi := _) (v := undef) rfl ?hs25 ?hf25 ?hr25 ?hQ25 (Or.inr ⟨?hw25, rfl⟩) hHeld ?rest25
            case hs25 => kernel_rfl
            case hf25 => kernel_rfl
            case hr25 => kernel_rfl
            case hQ25 => exact fun _ _ _ h => h
            case hw25 => kernel_rfl
            (try change wpAnyH _ _ _ _ _ _ _ (Act.put _ (some 31) _) _)
            try simp only [Act.put, List.setIfInBounds_toArray, List.set_cons_zero, List.set_cons_succ]
            refine' wpAnyH_take (i := 7) (oi := _) (v := undef) rfl ?hs26 ?hf26 ?hr26 ?hQ26 (Or.inr ⟨?hw26, rfl⟩) hHeld ?rest26
            case hs26 => kernel_rfl
            case hf26 => kernel_rfl
            case hr26 => kernel_rfl
            case hQ26 => exact fun _ _ _ h => h
            case hw26 => kernel_rfl
            (try change wpAnyH _ _ _ _ _ _ _ (Act.put _ (some 32) _) _)
            try simp only [Act.put, List.setIfInBounds_toArray, List.set_cons_zero, List.set_cons_succ]
            refine' wpAnyH_take (i := 8) (oi := _) (v := undef) rfl ?hs27 ?hf27 ?hr27 ?hQ27 (Or.inr ⟨?hw27, rfl⟩) hHeld ?rest27
            case hs27 => kernel_rfl
            case hf27 => kernel_rfl
            case hr27 => kernel_rfl
            case hQ27 => exact fun _ _ _ h => h
            case hw27 => kernel_rfl
            (try change wpAnyH _ _ _ _ _ _ _ (Act.put _ (some 33) _) _)
            try simp only [Act.put, List.setIfInBounds_toArray, List.set_cons_zero, List.set_cons_succ]
            refine' wpAnyH_take (i := 9) (oi := _) (v := undef) rfl ?hs28 ?hf28 ?hr28 ?hQ28 (Or.inr ⟨?hw28, rfl⟩) hHeld ?rest28
            case hs28 => kernel_rfl
            case hf28 => kernel_rfl
            case hr28 => kernel_rfl
            case hQ28 => exact fun _ _ _ h => h
            case hw28 => kernel_rfl
            (try change wpAnyH _ _ _ _ _ _ _ (Act.put _ (some 34) _) _)
            try simp only [Act.put, List.setIfInBounds_toArray, List.set_cons_zero, List.set_cons_succ]
            refine' wpAnyH_take (i := 10) (oi := _) (v := undef) rfl ?hs29 ?hf29 ?hr29 ?hQ29 (Or.inr ⟨?hw29, rfl⟩) hHeld ?rest29
            case hs29 => kernel_rfl
            case hf29 => kernel_rfl
            case hr29 => kernel_rfl
            case hQ29 => exact fun _ _ _ h => h
            case hw29 => kernel_rfl
            (try change wpAnyH _ _ _ _ _ _ _ (Act.put _ (some 35) _) _)
            try simp only [Act.put, List.setIfInBounds_toArray, List.set_cons_zero, List.set_cons_succ]
            refine' wpAnyH_take (i := 11) (oi := _) (v := undef) rfl ?hs30 ?hf30 ?hr30 ?hQ30 (Or.inr ⟨?hw30, rfl⟩) hHeld ?rest30
            case hs30 => kernel_rfl
            case hf30 => kernel_rfl
            case hr30 => kernel_rfl
            case hQ30 => exact fun _ _ _ h => h
            case hw30 => kernel_rfl
            (try change wpAnyH _ _ _ _ _ _ _ (Act.put _ (some 36) _) _)
            try simp only [Act.put, List.setIfInBounds_toArray, List.set_cons_zero, List.set_cons_succ]
            refine' wpAnyH_take (i := 12) (oi := _) (v := undef) rfl ?hs31 ?hf31 ?hr31 ?hQ31 (Or.inr ⟨?hw31, rfl⟩) hHeld ?rest31
            case hs31 => kernel_rfl
            case hf31 => kernel_rfl
            case hr31 => kernel_rfl
            case hQ31 => exact fun _ _ _ h => h
            case hw31 => kernel_rfl
            (try change wpAnyH _ _ _ _ _ _ _ (Act.put _ (some 37) _) _)
            try simp only [Act.put, List.setIfInBounds_toArray, List.set_cons_zero, List.set_cons_succ]
            refine' wpAnyH_take (i := 13) (oi := _) (v := undef) rfl ?hs32 ?hf32 ?hr32 ?hQ32 (Or.inr ⟨?hw32, rfl⟩) hHeld ?rest32
            case hs32 => kernel_rfl
            case hf32 => kernel_rfl
            case hr32 => kernel_rfl
            case hQ32 => exact fun _ _ _ h => h
            case hw32 => kernel_rfl
            (try change wpAnyH _ _ _ _ _ _ _ (Act.put _ (some 38) _) _)
            try simp only [Act.put, List.setIfInBounds_toArray, List.set_cons_zero, List.set_cons_succ]
            refine' wpAnyH_take (i := 14) (oi := _) (v := undef) rfl ?hs33 ?hf33 ?hr33 ?hQ33 (Or.inr ⟨?hw33, rfl⟩) hHeld ?rest33
            case hs33 => kernel_rfl
            case hf33 => kernel_rfl
            case hr33 => kernel_rfl
            case hQ33 => exact fun _ _ _ h => h
            case hw33 => kernel_rfl
            (try change wpAnyH _ _ _ _ _ _ _ (Act.put _ (some 39) _) _)
            try simp only [Act.put, List.setIfInBounds_toArray, List.set_cons_zero, List.set_cons_succ]
            refine' wpAnyH_take (i := 15) (oi := _) (v := undef) rfl ?hs34 ?hf34 ?hr34 ?hQ34 (Or.inr ⟨?hw34, rfl⟩) hHeld ?rest34
            case hs34 => kernel_rfl
            case hf34 => kernel_rfl
            case hr34 => kernel_rfl
            case hQ34 => exact fun _ _ _ h => h
            case hw34 => kernel_rfl
            (try change wpAnyH _ _ _ _ _ _ _ (Act.put _ (some 40) _) _)
            try simp only [Act.put, List.setIfInBounds_toArray, List.set_cons_zero, List.set_cons_succ]
            refine' wpAnyH_take (i := 16) (oi := _) (v := ?v35) rfl ?hs35 ?hf35 ?hr35 ?hQ35 (Or.inl ⟨?hw35, ?hy35⟩) hHeld ?rest35
            case hs35 => kernel_rfl
            case hf35 => kernel_rfl
            case hr35 => kernel_rfl
            case hQ35 => exact fun _ _ _ h => h
            case hw35 => kernel_rfl
            case hy35 => (intro w' hw'; go_simp; try with_reducible rfl)
            (try change wpAnyH _ _ _ _ _ _ _ (Act.put _ (some 41) _) _)
            try simp only [Act.put, List.setIfInBounds_toArray, List.set_cons_zero, List.set_cons_succ]
            refine' wpAnyH_take (i := 17) (oi := _) (v := ?v36) rfl ?hs36 ?hf36 ?hr36 ?hQ36 (Or.inl ⟨?hw36, ?hy36⟩) hHeld ?rest36
            case hs36 => kernel_rfl
            case hf36 => kernel_rfl
            case hr36 => kernel_rfl
            case hQ36 => exact fun _ _ _ h => h
            case hw36 => kernel_rfl
            case hy36 => (intro w' hw'; go_simp; try with_reducible rfl)
            (try change wpAnyH _ _ _ _ _ _ _ (Act.put _ (some 5) _) _)
            try simp only [Act.put, List.setIfInBounds_toArray, List.set_cons_zero, List.set_cons_succ]
            refine wpAnyH_done ?hdone37 ?hq37 _
            case hdone37 => kernel_rfl
            go_wp2
            go_roundw
            case rel => exact ⟨j + 1, by omega, by go_num, by rw [HST.out]; first | rfl | simp, below_step HBI.out hHeld⟩
            case measure => simp [intOf]; omega
        · obtain rfl : j = L := by omega
          have HW4 := Lib.hid (below_step HB3.out HBI.out)
          have HO4 := Lib.hid (own_keepI HBI.out HO3.out)
          have HBX4 := Lib.hid (HBX3.out.kept HBI.out)
          have hsz4 := Nat.le_trans hsz3 HBI.out.size
          cases hsb : seenB x (distTo x k) k j with
          | true =>
            have HD1 := Lib.hid (HDYK.out hsb)
            have HO5 : Hid (w4.ownsRow (w.heap.size + 1) 3 1 (.slice Au j cu) (distTo x (k + 1)).length (cellsI (distTo x (k + 1)))) := by unfold Hid; rw [HD1.out, hln]; exact HO4.out
            go_wp2
            go_roundw
            case rel => exact ⟨k + 1, by omega, by go_num, HO5.out, (fun _ => by first | rfl | trivial), HBX4.out, hsz4, HW4.out⟩
            case measure => simp [intOf]; omega
          | false =>
            have HD1 := Lib.hid (HDNK.out hsb)
            have hj9 : j ≤ 1000000000 := by omega
            go_wp2_with (at_builtin; refine wpList_append_int w4 rfl (.tmp 44) (.tmp 46) rfl (w.heap.size + 1) (.slice Au j cu) j (distTo x k) rfl HO4.out (k : Int) rfl hj9 hsz4 ?_; intro v5 w5 hown5 hb5)
            have HO5 : Hid (w5.ownsRow (w.heap.size + 1) 3 1 v5 (distTo x (k + 1)).length (cellsI (distTo x (k + 1)))) := by unfold Hid; rw [HD1.out, List.length_append, hln]; exact hown5
            have HBX5 := Lib.hid (HBX4.out.keptB hb5 (by omega))
            have hsz5 := Nat.le_trans hsz4 hb5.size
            have HW5 := Lib.hid (HW4.out.trans (hb5.mono (by omega)))
            obtain ⟨A5, c5, rfl⟩ := own_formI hown5
            clear hown5 hb5
            go_wp2
            go_roundw
            case rel => exact ⟨k + 1, by omega, by go_num, HO5.out, (fun _ => by first | rfl | trivial), HBX5.out, hsz5, HW5.out⟩
            case measure => simp [intOf]; omega
    · obtain rfl : k = x.Rows.length := by omega
      have HN : Hid (distL x = distTo x x.Rows.length) := by
        unfold Hid
        cases t with
        | true => exact (HY2.out rfl).1
        | false =>
          have hk0 : x.Rows.length = 0 := by rcases Nat.eq_zero_or_pos x.Rows.length with h | h; exact h; exact absurd (hpos h) (by simp)
          rw [HN2.out rfl, hk0]; rfl
      have HRR := Lib.hid ((own_ints HOW.out (by omega) (HI64.out _ (by omega))).mono (G := fun a => w.heap.size ≤ a.block) (fun a ha => by omega))
      have b2 := HBX.out.cell 2 rfl
      go_wp2
      go_ret
      exact HP.out _ _ (by rw [HN.out]; exact HRR.out) HB.out
end Go.Proofs.YtcgmlhlnkbjfnaaGreatDoor

/- Rows of marks compared (the program's). -/
namespace Go.Proofs.YtcgmlhlnkbjfnaaGreatDoor
set_option maxRecDepth 100000
open Go.RowKit Go.Sort M
set_option linter.unusedVariables false
set_option linter.unusedSimpArgs false

set_option maxHeartbeats 1000000 in
theorem rowEq_any (v u : Value) (l m : List Int) (F G : Addr → Prop) (w : World) (hv : RowRd Rep.int false w v l F) (hu : RowRd Rep.int false w u m G) :
    Calls Tryz.prog 104 #[v, u] w fun e w' => e = .returned (.bool (decide (l = m))) ∧ Below w.heap.size w w' := by
  obtain ⟨A, cap, rfl⟩ := hv.form
  obtain ⟨A2, cap2, rfl⟩ := hu.form
  have hmx := hv.max
  have hmy := hu.max
  have HV := Lib.hid hv
  have HU := Lib.hid hu
  clear hv hu
  have HX : Hid (∀ k, k < l.length → ∃ x, l[k]? = some x) := fun k hk => ⟨_, List.getElem?_eq_getElem hk⟩
  have HY : Hid (∀ k, k < m.length → ∃ x, m[k]? = some x) := fun k hk => ⟨_, List.getElem?_eq_getElem hk⟩
  have HD : Hid (∀ (k : Nat) (x y : Int), l[k]? = some x → m[k]? = some y → ¬ x = y → ¬ l = m) := fun k x y h1 h2 h => ints_differ h1 h2 h
  have HL : Hid (¬ l.length = m.length → ¬ l = m) := fun h e => h (by rw [e])
  have HALL : Hid (l.length = m.length → (∀ k, k < l.length → l[k]? = m[k]?) → l = m) := list_same
  have HR : Hid ((l = m → decide (l = m) = true) ∧ (¬ l = m → decide (l = m) = false)) := ⟨fun h => decide_eq_true h, fun h => decide_eq_false h⟩
  generalize decide (l = m) = r at *
  generalize hln : l.length = n at *
  generalize hlm : m.length = n2 at *
  clear hln hlm
  go_enter Tryz.func104, Tryz.ntmps104
  by_cases hN : n = n2
  case neg =>
    have hN2 : ¬ (n : Int) = (n2 : Int) := by omega
    have HF := Lib.hid (HR.out.2 (HL.out hN))
    go_wp2
    go_ret
    exact ⟨ret_bool HF.out.symm, Below.refl _ _⟩
  subst hN
  go_wp2
  go_loopw [13] (fun i wr => ∃ (k : Nat), k ≤ n ∧ i = .int .i64 k ∧ Hid (∀ j, j < k → l[j]? = m[j]?) ∧ Below w.heap.size w wr) (fun i _ => n - (intOf i).toNat)
  case atStart => exact ⟨0, by omega, rfl, fun j hj => by omega, Below.refl _ _⟩
  case round =>
    obtain ⟨k, hk, rfl, hall, hbe⟩ := hrel
    have HBE := Lib.hid hbe
    clear hbe
    by_cases hkl : k < n
    · obtain ⟨x, hx⟩ := HX.out k hkl
      obtain ⟨y, hy⟩ := HY.out k hkl
      obtain ⟨g, off, xs, Fk, rfl, _, hrx, _, hcx⟩ := (HV.out.kept HBE.out).get hx
      obtain ⟨g2, off2, ys, Gk, rfl, _, hry, _, hcy⟩ := (HU.out.kept HBE.out).get hy
      obtain ⟨rfl, _⟩ := id hrx
      obtain ⟨rfl, _⟩ := id hry
      have c0 := hcx 0 _ rfl
      have d0 := hcy 0 _ rfl
      simp only [show Rep.int.size = 1 from rfl, Nat.mul_one, Nat.add_zero] at c0 d0
      have HDK := Lib.hid (HD.out k x y hx hy)
      have HEQ : Hid (x = y → ∀ j, j < k + 1 → l[j]? = m[j]?) := fun e j hj => by
        by_cases hjk : j = k
        · subst hjk; rw [hx, hy, e]
        · exact hall.out j (by omega)
      clear hcx hcy hrx hry hx hy
      by_cases hxy : x = y
      · have HE2 := Lib.hid (HEQ.out hxy)
        subst hxy
        go_wp2
        go_quiet (fail)
        go_wp2
        go_roundw
        case rel => exact ⟨k + 1, by omega, by go_num, HE2, ⟨HBE.out.os, HBE.out.tape, HBE.out.output, HBE.out.size, HBE.out.block⟩⟩
        case measure => simp [intOf]; omega
      · have HF := Lib.hid (HR.out.2 (HDK.out hxy))
        go_wp2
        go_quiet (fail)
        go_wp2
        go_ret
        exact ⟨ret_bool HF.out.symm, ⟨HBE.out.os, HBE.out.tape, HBE.out.output, HBE.out.size, HBE.out.block⟩⟩
    · obtain rfl : k = n := by omega
      have HF := Lib.hid (HR.out.1 (HALL.out (by trivial) (fun j hj => hall.out j hj)))
      go_wp2
      go_ret
      exact ⟨ret_bool HF.out.symm, HBE.out⟩
theorem marksEq_any (v u : Value) (l m : List Int) (F G : Addr → Prop) (w : World) (hv : RowRd Rep.int false w v l F) (hu : RowRd Rep.int false w u m G) :
    Calls Tryz.prog 71 #[v, u] w fun e w' => e = .returned (.bool (decide (l = m))) ∧ Below w.heap.size w w' := by
  have HC := Lib.hid (rowEq_any v u l m F G w hv hu)
  clear hv hu
  generalize decide (l = m) = r at *
  go_enter Tryz.func71, Tryz.ntmps71
  go_wp2_with fail
  refine HC.out.mono ?_
  rintro e w1 ⟨rfl, hb⟩
  have HB := Lib.hid hb
  clear hb
  go_wp2
  go_ret
  exact ⟨rfl, HB.out⟩
end Go.Proofs.YtcgmlhlnkbjfnaaGreatDoor

/- The program's DistinctProfiles: what it answers. -/
namespace Go.Proofs.YtcgmlhlnkbjfnaaGreatDoor
set_option maxRecDepth 100000
open Go.RowKit Go.Sort M
set_option linter.unusedVariables false
set_option linter.unusedSimpArgs false

/-- The closure: do the marks of another row equal this row's? -/
theorem clos_any (L : List (DCandidate × List Int)) (k : Nat) (v2 v3 : Value) (m : List Int) (A : Option Addr) (n cap : Nat) (b6 b4 : Nat) (G K : Addr → Prop) (w : World) (d : Nat) (md : List Int) (cd : DCandidate) (hd : L[d]? = some (cd, md))
    (h6 : InC w b6 #[v2, v3] 69) (h4 : InC w b4 #[.slice A n cap] 82) (hr : RowRd rMk false w (.slice A n cap) L G) (hm : RowRd Rep.int false w v3 m K) (hn : L.length = n) :
    Calls Tryz.prog 70 #[.int .i64 d, .pointer (some ⟨b6, 0, none⟩), .pointer (some ⟨b4, 0, none⟩)] w fun e w' => e = .returned (.bool (decide (m = md))) ∧ Below w.heap.size w w' := by
  have hdl : d < L.length := (List.getElem?_eq_some_iff.1 hd).1
  have hmx := hr.max
  obtain ⟨g, off, xs, Fk, rfl, -, hrx, -, hc⟩ := hr.get hd
  obtain ⟨u2, u3, K1, K2, rfl, q2, q3, -⟩ := rMk_rd hrx
  rw [rMk_size] at hc
  have d3 := hc 1 _ rfl
  have c6 := h6.cell 1 rfl
  have c4 := h4.cell 0 rfl
  have HQ : Hid (∀ W, Below w.heap.size w W → Calls Tryz.prog 71 #[v3, u3] W fun e w' => e = .returned (.bool (decide (m = md))) ∧ Below W.heap.size W w') := fun W hW => marksEq_any v3 u3 m md K K2 W (hm.kept hW) (q3.kept hW)
  have hdr : (d : Int) < (n : Int) := by omega
  clear hc hrx q2 q3 hr hm hd h6 h4
  generalize decide (m = md) = r at *
  go_enter Tryz.func70, Tryz.ntmps70
  go_upto_region 1 with fail
  go_region_with (go_simp; go_at_call 71; refine (HQ.out _ ((Below.refl _ _).drew)).mono ?_; rintro e wz ⟨rfl, hbz0⟩; have HBZ := Lib.hid (below_step (Below.drew (Below.refl w.heap.size w)) hbz0); clear hbz0)
  all_goals
    go_wp2
    go_ret
    exact ⟨rfl, HBZ.out⟩
set_option maxHeartbeats 2000000 in
/-- slices.IndexFunc over numbers, with the closure. -/
theorem indexF_any (l : List Int) (v p6 p4 : Value) (P : Int → Bool) (F : Addr → Prop) (w : World) (hl : l.length ≤ 1000000000) (hv : RowRd Rep.int false w v l F)
    (hC : ∀ W, Below w.heap.size w W → ∀ d ∈ l, Calls Tryz.prog 70 #[.int .i64 d, p6, p4] W fun e w' => e = .returned (.bool (P d)) ∧ Below W.heap.size W w') :
    Calls Tryz.prog 103 #[v, .func (.func 70) #[] #[p6, p4]] w fun e w' => (∃ z : Int, e = .returned (.int .i64 z) ∧ I64 z ∧ decide (0 ≤ z) = l.any P) ∧ Below w.heap.size w w' := by
  obtain ⟨A, cap, rfl⟩ := hv.form
  have HV := Lib.hid hv
  have HC := Lib.hid hC
  have HX : Hid (∀ k, k < l.length → ∃ y, l[k]? = some y) := fun k hk => ⟨_, List.getElem?_eq_getElem hk⟩
  have HYE : Hid (∀ (k : Nat) (d : Int), l[k]? = some d → P d = true → l.any P = true) := fun k d h1 h2 => List.any_eq_true.2 ⟨d, List.mem_of_getElem? h1, h2⟩
  have HNO : Hid ((∀ (k : Nat) (d : Int), k < l.length → l[k]? = some d → P d = false) → l.any P = false) := fun h => by
    rw [List.any_eq_false]
    intro d hd
    obtain ⟨k, hk⟩ := List.getElem?_of_mem hd
    rw [h k d (List.getElem?_eq_some_iff.1 hk).1 hk]
    simp
  have HMEM : Hid (∀ (k : Nat) (d : Int), l[k]? = some d → d ∈ l) := fun k d h => List.mem_of_getElem? h
  clear hv hC
  generalize hll : l.length = n at *
  clear hll
  go_enter Tryz.func103, Tryz.ntmps103
  go_wp2
  go_loopw [8] (fun i wr => ∃ (k : Nat), k ≤ n ∧ i = .int .i64 k ∧ Hid (∀ (j : Nat) (d : Int), j < k → l[j]? = some d → P d = false) ∧ Below w.heap.size w wr) (fun i _ => n - (intOf i).toNat)
  case atStart => exact ⟨0, by omega, rfl, fun j d hj => by omega, Below.refl _ _⟩
  case round =>
    obtain ⟨k, hk, rfl, hall, hbe⟩ := hrel
    obtain ⟨w2, rfl⟩ : ∃ w2 : World, w2 = wr := ⟨_, rfl⟩
    have HBE := Lib.hid hbe
    clear hbe
    by_cases hkl : k < n
    · obtain ⟨d, hd⟩ := HX.out k hkl
      obtain ⟨g, off, xs, Fk, rfl, -, hrx, -, hc⟩ := (HV.out.kept HBE.out).get hd
      obtain ⟨rfl, -⟩ := id hrx
      rw [show Rep.int.size = 1 from rfl] at hc
      have c0 := hc 0 _ rfl
      simp only [Nat.add_zero, Nat.mul_one] at c0
      have HCD := Lib.hid (HC.out _ HBE.out d (HMEM.out k d hd))
      have HYD := Lib.hid (HYE.out k d hd)
      have HAL : Hid (P d = false → ∀ (j : Nat) (d' : Int), j < k + 1 → l[j]? = some d' → P d' = false) := fun h j d' hj hjd => by
        by_cases e : j = k
        · subst e; rw [hd] at hjd; cases hjd; exact h
        · exact hall.out j d' (by omega) hjd
      have HD := Lib.hid hd
      clear hc hrx hd
      generalize hpd : P d = pd at *
      go_wp2_with fail
      refine HCD.out.mono ?_
      rintro e w3 ⟨rfl, hb⟩
      have HB3 := Lib.hid (below_step HBE.out hb)
      clear hb c0
      cases pd with
      | true =>
        have HY := Lib.hid (HYD.out rfl)
        go_wp2
        go_ret
        exact ⟨⟨(k : Int), rfl, by unfold I64; omega, by rw [HY.out]; exact decide_eq_true (by omega)⟩, HB3.out⟩
      | false =>
        have HA := Lib.hid (HAL.out rfl)
        go_wp2
        go_roundw
        case rel => exact ⟨k + 1, by omega, by go_num, HA.out, HB3.out⟩
        case measure => simp [intOf]; omega
    · obtain rfl : k = n := by omega
      have HN := Lib.hid (HNO.out hall.out)
      go_wp2
      go_ret
      exact ⟨⟨-1, rfl, by unfold I64; omega, by rw [HN.out]; rfl⟩, HBE.out⟩
theorem containsF_any (l : List Int) (v p6 p4 : Value) (P : Int → Bool) (F : Addr → Prop) (w : World) (hl : l.length ≤ 1000000000) (hv : RowRd Rep.int false w v l F)
    (hC : ∀ W, Below w.heap.size w W → ∀ d ∈ l, Calls Tryz.prog 70 #[.int .i64 d, p6, p4] W fun e w' => e = .returned (.bool (P d)) ∧ Below W.heap.size W w') :
    Calls Tryz.prog 69 #[v, .func (.func 70) #[] #[p6, p4]] w fun e w' => e = .returned (.bool (l.any P)) ∧ Below w.heap.size w w' := by
  have HC := Lib.hid (indexF_any l v p6 p4 P F w hl hv hC)
  clear hv hC
  generalize l.any P = r at *
  go_enter Tryz.func69, Tryz.ntmps69
  go_wp2_with fail
  refine HC.out.mono ?_
  rintro e w1 ⟨⟨z, rfl, hz, hd⟩, hb⟩
  have HB := Lib.hid hb
  have HD := Lib.hid hd
  clear hb hz hd
  go_wp2
  go_ret
  exact ⟨ret_bool HD.out, HB.out⟩
set_option maxHeartbeats 16000000 in
theorem implDist_any (x : DTableau) (A1 : Option Addr) (c1 : Nat) (A2 : Option Addr) (c2 : Nat) (A3 : Option Addr) (c3 : Nat) (F1 F2 F3 : Addr → Prop) (w : World) (hm : rTableau.sz x ≤ 1048576) (hv : TabRd false w (.slice A1 x.Names.length c1) (.slice A2 x.Rows.length c2) (.slice A3 x.Marks.length c3) x F1 F2 F3) (hT : FeatTab w) :
    Calls Tryz.prog 25 #[.agg #[.string x.Input, .slice A1 x.Names.length c1, .slice A2 x.Rows.length c2, .slice A3 x.Marks.length c3]] w (IntPost11 (distL x) w) := by
  have hz2 := (szTab_parts hm).2.2.1
  have HLN : Hid (∀ k c m, (rowsL x)[k]? = some (c, m) → x.Marks.getD k [] = m) := fun k c m h => by rw [List.getD_eq_getElem?_getD, (rowsL_of h).2.2]; rfl
  have HRS : Hid (∀ W, Below w.heap.size w W → Calls Tryz.prog 66 #[.agg #[.string x.Input, .slice A1 x.Names.length c1, .slice A2 x.Rows.length c2, .slice A3 x.Marks.length c3]] W (MkPost x W)) := fun W hW => implRows_any x A1 c1 A2 c2 A3 c3 F1 F2 F3 W hm (hv.kept hW) (feat_below hT hW)
  have HX2 : Hid (∀ k, k < (rowsL x).length → ∃ y, (rowsL x)[k]? = some y) := fun k hk => ⟨_, List.getElem?_eq_getElem hk⟩
  have HRL : Hid ((rowsL x).length ≤ 1048576) := by
    unfold Hid rowsL
    split
    · rw [List.length_zip]; omega
    · simp
  have HP : Hid (∀ u w', RowRd Rep.int true w' u (distL x) (fun a => w.heap.size ≤ a.block) → Below w.heap.size w w' → IntPost11 (distL x) w (.returned u) w') := fun u w' h1 h2 => ⟨u, rfl, h1, h2⟩
  have HDQ : Hid (distL x = distTo x (rowsL x).length) := rfl
  have HDM := Lib.hid (distTo_mem x)
  have HDL := Lib.hid (distTo_len x)
  have HDY : Hid (∀ k, seenB x (distTo x k) k (distTo x k).length = true → distTo x (k + 1) = distTo x k) := fun k h => distTo_yes h
  have HDN : Hid (∀ k, seenB x (distTo x k) k (distTo x k).length = false → distTo x (k + 1) = distTo x k ++ [(k : Int)]) := fun k h => distTo_no h
  have HSB : Hid (∀ k, seenB x (distTo x k) k (distTo x k).length = (distTo x k).any fun d => decide (x.Marks.getD d.toNat [] = x.Marks.getD k [])) := fun k => by unfold seenB; rw [List.take_length]
  have HI64 := Lib.hid (dist_i64 x)
  have HA : Hid (∀ o, Below w.heap.size w (w.alloc o)) := fun o => (Below.refl _ _).alloc (Nat.le_refl _) _
  clear hv hm hT
  go_enter Tryz.func25, Tryz.ntmps25
  go_wp2_with fail
  refine (HRS.out _ (HA.out _)).mono ?_
  rintro e w1 ⟨u, G, rfl, hrow, hb⟩
  obtain ⟨Ar, cr, rfl⟩ := hrow.form
  have hmx := hrow.max
  have HB1 : Hid (Below w.heap.size w w1) := below_step (HA.out _) hb
  have HROW := Lib.hid hrow
  clear hb hrow HRS
  generalize hln : (rowsL x).length = n at *
  have HWA : Hid (Below w1.heap.size w1 (w1.alloc (.cells #[.slice Ar n cr] 82))) := (Below.refl _ _).alloc (Nat.le_refl _) _
  have HI4 : Hid (InC (w1.alloc (.cells #[.slice Ar n cr] 82)) w1.heap.size #[.slice Ar n cr] 82) := heap_alloc_new _ _
  have HRW := Lib.hid (HROW.out.kept HWA.out)
  have b4 := HI4.out.cell 0 rfl
  have hnr := HRL.out
  go_wp2
  have HOZ : Hid ((w1.alloc (.cells #[.slice Ar n cr] 82)).ownsRow (w1.alloc (.cells #[.slice Ar n cr] 82)).heap.size 3 1 (.slice none 0 0) (distTo x 0).length (cellsI (distTo x 0))) := ⟨rfl, Or.inl ⟨rfl, rfl⟩⟩
  have HBZ : Hid (Below w.heap.size w (w1.alloc (.cells #[.slice Ar n cr] 82))) := below_step HB1.out HWA.out
  clear b4
  generalize (w1.alloc (.cells #[.slice Ar n cr] 82)) = W1 at *
  go_loopw [3, 12] (fun u i wr => ∃ (k : Nat), k ≤ n ∧ i = .int .i64 k ∧ wr.ownsRow W1.heap.size 3 1 u (distTo x k).length (cellsI (distTo x k)) ∧ Below W1.heap.size W1 wr) (fun _ i _ => n - (intOf i).toNat)
  case atStart => exact ⟨0, by omega, rfl, HOZ.out, Below.refl _ _⟩
  case round =>
    obtain ⟨k, hk, rfl, hown, hbe0⟩ := hrel
    obtain ⟨w2, rfl⟩ : ∃ w2 : World, w2 = wr := ⟨_, rfl⟩
    have HB := Lib.hid hbe0
    have HOW := Lib.hid hown
    obtain ⟨Au, cu, rfl⟩ := own_formI hown
    have hdl := HDL.out k
    clear hbe0 hown
    by_cases hkl : k < n
    · obtain ⟨⟨c, m⟩, hc⟩ := HX2.out k hkl
      have HMK := Lib.hid (HLN.out k c m hc)
      obtain ⟨g2, o2, xs2, G2, rfl, -, hr2', -, hc2⟩ := (HRW.out.kept HB.out).get hc
      obtain ⟨v2, v3, K1, K2, rfl, q2, q3, -⟩ := rMk_rd hr2'
      rw [rMk_size] at hc2
      have d2 := hc2 0 _ rfl
      have d3 := hc2 1 _ rfl
      simp only [Nat.add_zero] at d2
      obtain ⟨A2', cp2, rfl⟩ := q2.form
      obtain ⟨A3', cp3, rfl⟩ := q3.form
      have HWB : Hid (Below w2.heap.size w2 (w2.alloc (.cells #[.slice A2' c.Links.length cp2, .slice A3' m.length cp3] 69))) := (Below.refl _ _).alloc (Nat.le_refl _) _
      have HI6 : Hid (InC (w2.alloc (.cells #[.slice A2' c.Links.length cp2, .slice A3' m.length cp3] 69)) w2.heap.size #[.slice A2' c.Links.length cp2, .slice A3' m.length cp3] 69) := heap_alloc_new _ _
      have HQ3 := Lib.hid q3
      have HDK := Lib.hid (HDM.out k)
      have HRU := Lib.hid ((own_ints HOW.out (by omega) (HI64.out k (by omega))).weak)
      have HCF : Hid (Calls Tryz.prog 69 #[.slice Au (distTo x k).length cu, .func (.func 70) #[] #[.pointer (some ⟨w2.heap.size, 0, none⟩), .pointer (some ⟨w1.heap.size, 0, none⟩)]] (w2.alloc (.cells #[.slice A2' c.Links.length cp2, .slice A3' m.length cp3] 69)) fun e w' => e = .returned (.bool ((distTo x k).any fun d => decide (x.Marks.getD d.toNat [] = x.Marks.getD k []))) ∧ Below (w2.alloc (.cells #[.slice A2' c.Links.length cp2, .slice A3' m.length cp3] 69)).heap.size (w2.alloc (.cells #[.slice A2' c.Links.length cp2, .slice A3' m.length cp3] 69)) w') := by
        refine containsF_any (distTo x k) _ _ _ (fun d => decide (x.Marks.getD d.toNat [] = x.Marks.getD k [])) _ _ (by omega) (HRU.out.kept HWB.out) ?_
        intro W hW d hd
        have hdr := HDK.out d hd
        obtain ⟨dn, rfl⟩ : ∃ dn : Nat, d = (dn : Int) := ⟨d.toNat, by omega⟩
        obtain ⟨⟨cd, md⟩, hcd⟩ := HX2.out dn (by omega)
        have h2 := HLN.out dn cd md hcd
        have hKW := below_step HWB.out hW
        have := clos_any (rowsL x) k _ (.slice A3' m.length cp3) m _ n cr w2.heap.size w1.heap.size _ K2 W dn md cd hcd (HI6.out.kept hW) ((HI4.out.kept HB.out).kept hKW) ((HRW.out.kept HB.out).kept hKW) (HQ3.out.kept hKW) hln
        have he : decide (x.Marks.getD ((dn : Int)).toNat [] = x.Marks.getD k []) = decide (m = md) := by rw [Int.toNat_natCast, h2, HMK.out]; exact decide_eq_decide.2 eq_comm
        rw [he]
        exact this
      have HSK := Lib.hid (HSB.out k)
      have HDYK := Lib.hid (HDY.out k)
      have HDNK := Lib.hid (HDN.out k)
      have hkr : (k : Int) < (n : Int) := by omega
      have hsz2 : W1.heap.size ≤ w2.heap.size := HB.out.size
      clear hc hr2' hc2 q2 q3
      generalize hsb : ((distTo x k).any fun d => decide (x.Marks.getD d.toNat [] = x.Marks.getD k [])) = sb at *
      clear hsb
      generalize hll : (distTo x k).length = L at *
      go_wp2_with fail
      refine HCF.out.mono ?_
      rintro e w3 ⟨rfl, hb⟩
      have hb23 : Below w2.heap.size w2 w3 := below_step HWB.out hb
      have HB3 := Lib.hid (below_step HB.out hb23)
      have HO3 := Lib.hid (own_keepI hb23 HOW.out)
      have hsz3 := Nat.le_trans hsz2 hb23.size
      clear hb hb23 d2 d3
      cases sb with
      | true =>
        have HD1 := Lib.hid (HDYK.out HSK.out)
        have HO5 : Hid (w3.ownsRow W1.heap.size 3 1 (.slice Au L cu) (distTo x (k + 1)).length (cellsI (distTo x (k + 1)))) := by unfold Hid; rw [HD1.out, hll]; exact HO3.out
        go_wp2
        go_roundw
        case rel => exact ⟨k + 1, by omega, by go_num, HO5.out, HB3.out⟩
        case measure => simp [intOf]; omega
      | false =>
        have HD1 := Lib.hid (HDNK.out HSK.out)
        have hj9 : L ≤ 1000000000 := by omega
        go_wp2_with (at_builtin; go_loud (refine wpList_append_int w3 rfl (.tmp 22) (.tmp 24) rfl W1.heap.size (.slice Au L cu) L (distTo x k) rfl HO3.out (k : Int) rfl hj9 hsz3 ?_; intro v5 w5 hown5 hb5))
        have HO5 : Hid (w5.ownsRow W1.heap.size 3 1 v5 (distTo x (k + 1)).length (cellsI (distTo x (k + 1)))) := by unfold Hid; rw [HD1.out, List.length_append, hll]; exact hown5
        have HB5 := Lib.hid (HB3.out.trans hb5)
        obtain ⟨A5, c5, rfl⟩ := own_formI hown5
        clear hown5 hb5
        go_wp2
        go_roundw
        case rel => exact ⟨k + 1, by omega, by go_num, HO5.out, HB5.out⟩
        case measure => simp [intOf]; omega
    · obtain rfl : k = n := by omega
      have hs0 := HBZ.out.size
      have HRR := Lib.hid ((own_ints HOW.out (by omega) (HI64.out _ (by omega))).mono (G := fun a => w.heap.size ≤ a.block) (fun a ha => by omega))
      go_wp2
      go_ret
      exact HP.out _ _ (by rw [HDQ.out]; exact HRR.out) (below_step HBZ.out HB.out)
end Go.Proofs.YtcgmlhlnkbjfnaaGreatDoor

/- The laws' markStringS. -/
namespace Go.Proofs.YtcgmlhlnkbjfnaaGreatDoor
set_option maxRecDepth 100000
open Go.RowKit Go.Sort M
set_option linter.unusedVariables false
set_option linter.unusedSimpArgs false

theorem mkD_len : ∀ (f c : Nat) (out : List UInt8), (mkD f c out).length ≤ f + out.length
  | 0, _, out => by unfold mkD; omega
  | f + 1, c, out => by
    unfold mkD
    split
    · omega
    · have := mkD_len f (c / 10) (byt ((48 + c % 10 : Nat) : Int) :: out)
      simp only [List.length_cons] at this
      omega
theorem mkT_size (k : Nat) : (mkT k).size ≤ 9223372036854775807 := by
  have := mkD_len 20 k []
  have h2 : (mkT k).size = (mkD 20 k []).length + 1 := rfl
  simp only [List.length_nil] at this
  omega
set_option maxHeartbeats 2000000 in
theorem markStrs_any (v : Value) (l : List ByteArray) (z : Int) (k0 : Nat) (hz : z = (k0 : Int)) (base : Nat) (F0 : Addr → Prop) (w : World) (hF0 : ∀ a, F0 a → base ≤ a.block) (hk : k0 + cntRow (Rep.str mkT) l ≤ 1000000000) (h1k : 1 ≤ k0) (hbase : base ≤ w.heap.size) (hv0 : RowRd (Rep.str mkT) true w v l F0) :
    Calls Tryz.prog 15 #[v, .int .i64 z] w fun e w' => e = .returned (.int .i64 ((k0 + cntRow (Rep.str mkT) l : Nat) : Int)) ∧ RowRd (Rep.str mkT) true w' v (labRow (Rep.str mkT) k0 l) F0 ∧ Unch F0 w w' ∧ Below base w w' := by
  subst hz
  have hv := hv0.tight
  have HG : Hid (∀ a, (F0 a ∧ a.block < w.heap.size) → F0 a) := fun _ h => h.1
  have HFS : Hid (∀ a, (F0 a ∧ a.block < w.heap.size) → a.block < w.heap.size) := fun _ h => h.2
  have HFB : Hid (∀ a, (F0 a ∧ a.block < w.heap.size) → base ≤ a.block) := fun a h => hF0 a h.1
  generalize hF : (fun a => F0 a ∧ a.block < w.heap.size) = F at hv
  have HG : Hid (∀ a, F a → F0 a) := by subst hF; exact HG
  have HFS : Hid (∀ a, F a → a.block < w.heap.size) := by subst hF; exact HFS
  have HFB : Hid (∀ a, F a → base ≤ a.block) := by subst hF; exact HFB
  clear hF hF0
  have hmx := hv.max
  have HMX := Lib.hid hmx
  obtain ⟨A, cap, rfl⟩ := hv.form
  have HV := Lib.hid hv
  clear hv hv0
  have HX : Hid (∀ k, k < l.length → ∃ x, l[k]? = some x) := fun k hk => ⟨_, List.getElem?_eq_getElem hk⟩
  have HEND : Hid (labTo (Rep.str mkT) k0 l l.length = labRow (Rep.str mkT) k0 l ∧ cntTo (Rep.str mkT) l l.length = cntRow (Rep.str mkT) l) := ⟨labTo_all _ _ _, cntTo_all _ _⟩
  have HLE := Lib.hid (cntTo_le (Rep.str mkT) l)
  have H0 := Lib.hid (labTo_zero (Rep.str mkT) k0 l)
  have H00 : Hid (cntTo (Rep.str mkT) l 0 = 0) := rfl
  generalize hll : l.length = n at *
  clear hll
  generalize cntRow (Rep.str mkT) l = cr at *
  go_enter Tryz.func15, Tryz.ntmps15
  go_wp2
  go_loopw [1, 5] (fun q i wr => ∃ (k : Nat), k ≤ n ∧ i = .int .i64 k ∧ q = .int .i64 ((k0 + cntTo (Rep.str mkT) l k : Nat) : Int) ∧ RowRd (Rep.str mkT) true wr (.slice A n cap) (labTo (Rep.str mkT) k0 l k) F ∧ Unch F w wr ∧ Below base w wr) (fun _ i _ => n - (intOf i).toNat)
  case atStart => exact ⟨0, by omega, rfl, by rw [H00.out]; rfl, by rw [H0.out]; exact HV.out, Unch.refl _ _, Below.refl _ _⟩
  case round =>
    obtain ⟨k, hk, rfl, rfl, hrow, hun, hbe⟩ := hrel
    have HUN := Lib.hid hun
    have HBE := Lib.hid hbe
    clear hun hbe
    by_cases hkl : k < n
    · obtain ⟨x, hx⟩ := HX.out k hkl
      have hcs := cntTo_step (Rep.str mkT) l k hx
      have hle := HLE.out (k + 1)
      have HLS := Lib.hid (labTo_step (Rep.str mkT) k0 l k hx)
      have hx1 : (Rep.str mkT).cnt x = 1 := rfl
      rw [hx1] at hcs
      have HLT := Lib.hid (labTo_at (Rep.str mkT) k0 l k hx)
      have HROW := Lib.hid hrow
      have hcb0 : k0 + cntTo (Rep.str mkT) l k + 1 ≤ 1000000000 := by omega
      have HCS := Lib.hid hcs
      clear hrow hcs
      generalize hc : k0 + cntTo (Rep.str mkT) l k = c at *
      have HC := Lib.hid hc
      clear hc
      go_wp2_with fail
      refine (markText_any c _ (by have := HC.out; omega) (by omega)).mono ?_
      rintro e w1 ⟨rfl, hb1⟩
      have hrow1 := HROW.out.kept hb1
      have HUN1 := Lib.hid (HUN.out.trans (Unch.below hb1))
      have HBE1 := Lib.hid (HBE.out.trans (hb1.mono (Nat.le_trans hbase HBE.out.size)))
      clear hb1
      obtain ⟨g, off, xs, Fk, rfl, hrd, hel, hFk, hcl, hput⟩ := hrow1.open HLT.out
      simp only [show (Rep.str mkT).size = 1 from rfl, Nat.mul_one] at hel hcl hput
      have HCL := Lib.hid hcl
      have HFK := Lib.hid hFk
      have HPUT := Lib.hid hput
      clear hrow1 hcl hFk hput
      obtain ⟨rfl, _⟩ := id hrd
      clear hrd
      have c0 := hel.cell 0 rfl
      have f0 := hel.free 0 (by decide)
      have hs0 := hel.set 0 (by decide) (.string (mkT c))
      simp only [Nat.add_zero] at c0 f0 hs0
      simp only [List.set] at hs0
      have HUE := Lib.hid (HUN1.out.trans (Unch.set (p := ⟨g, off + k, none⟩) (HCL.out 0 (by decide)).1 (.string (mkT c))))
      have HBB := Lib.hid (HBE1.out.setCell (p := ⟨g, off + k, none⟩) (HFB.out _ (HCL.out 0 (by decide)).1) (.string (mkT c)))
      have HEE := Lib.hid hs0
      have HMT := Lib.hid (mkT_size c)
      have hcb : c + 1 ≤ 1000000001 := by omega
      clear hs0 hel
      go_wp2
      go_roundw
      case rel =>
        refine ⟨k + 1, by omega, by go_num, ?_, ?_, HUE.out, HBB.out⟩
        · have e1 := HCS.out
          have e2 := HC.out
          congr 1
          omega
        · rw [← HLS.out]
          exact (HPUT.out _ _ ((Rep.str mkT).lab c x) Fk HEE.out ⟨rfl, HMT.out⟩ (fun a h => Or.inl h)).mono (fun a h => h.elim id (HFK.out a))
      case measure => simp [intOf]; omega
    · obtain rfl : k = n := by omega
      rw [HEND.out.1] at hrow
      have HR := Lib.hid (hrow.mono HG.out)
      have HCN := Lib.hid HEND.out.2
      clear hrow
      go_wp2
      go_ret
      exact ⟨ret_i64 (by rw [HCN.out]), HR.out, HUN.out.mono HG.out, HBE.out⟩
end Go.Proofs.YtcgmlhlnkbjfnaaGreatDoor
