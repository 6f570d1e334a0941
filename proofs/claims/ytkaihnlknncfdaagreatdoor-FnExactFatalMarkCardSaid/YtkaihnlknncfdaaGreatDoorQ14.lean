/- Merged: Fs12 Fp12 FatalMarkWalk. -/
import Derived.Test.YtkaihnlknncfdaaGreatDoorQ13
import Derived.Test.YtkaihnlknncfdaaGreatDoorQ9
import Derived.Test.YtkaihnlknncfdaaGreatDoorQ10
import Derived.Test.YtkaihnlknncfdaaGreatDoorQ11
import Derived.Test.YtkaihnlknncfdaaGreatDoorQ12
import Derived.Deep.RegionWith
import Derived.Deep.DeepCutAuto
/- The fatal mark: the model's FatalMark: what it answers. -/
namespace Go.Proofs.YtkaihnlknncfdaaGreatDoor
set_option maxRecDepth 100000
open Go.RowKit Go.Sort M
set_option linter.unusedVariables false
set_option linter.unusedSimpArgs false

set_option maxHeartbeats 8000000 in
theorem specFat_any (x : DTableau) (r : List Int) (i : Int) (A1 : Option Addr) (c1 : Nat) (A2 : Option Addr) (c2 : Nat) (A3 : Option Addr) (c3 : Nat) (vr : Value) (F1 F2 F3 Fr : Addr → Prop) (w : World) (hm : rTableau.sz x ≤ 1048576) (hv : TabRd false w (.slice A1 x.Names.length c1) (.slice A2 x.Rows.length c2) (.slice A3 x.Marks.length c3) x F1 F2 F3) (hvr : RowRd Rep.int false w vr r Fr) :
    Calls Tryz.prog 27 #[.agg #[.string x.Input, .slice A1 x.Names.length c1, .slice A2 x.Rows.length c2, .slice A3 x.Marks.length c3], vr, .int .i64 i] w fun e w' => e = .returned (.int .i64 (fatX x r i)) ∧ Below w.heap.size w w' := by
  obtain ⟨hz0, hz1, hz2, hz3, hz4, hz5⟩ := szTab_parts hm
  have hmr := hvr.max
  have HV := Lib.hid hv
  have HR := Lib.hid hvr
  have HWI : Hid (∀ W, Below w.heap.size w W → Calls Tryz.prog 13 #[.agg #[.string x.Input, .slice A1 x.Names.length c1, .slice A2 x.Rows.length c2, .slice A3 x.Marks.length c3], vr] W (IntPost11 (winW x r) W)) := fun W hW => specWin_any x r A1 c1 A2 c2 A3 c3 vr F1 F2 F3 Fr W hm (hv.kept hW) (hvr.kept hW)
  have HN : Hid (¬ (0 < (winW x r).length ∧ 0 ≤ i ∧ i < (x.Rows.length : Int)) → fatX x r i = -1) := fat_no
  have HWL : Hid ((winW x r).length ≤ 1048576) := by
    unfold Hid winW
    split
    · have := winTo_len x.Marks r x.Marks.length
      unfold winL; omega
    · simp
  have HI0 : Hid (InC (w.alloc (.cells #[.string x.Input, .slice A1 x.Names.length c1, .slice A2 x.Rows.length c2, .slice A3 x.Marks.length c3] 32)) w.heap.size #[.string x.Input, .slice A1 x.Names.length c1, .slice A2 x.Rows.length c2, .slice A3 x.Marks.length c3] 32) := heap_alloc_new _ _
  have HA0 : Hid (Below w.heap.size w (w.alloc (.cells #[.string x.Input, .slice A1 x.Names.length c1, .slice A2 x.Rows.length c2, .slice A3 x.Marks.length c3] 32))) := (Below.refl _ _).alloc (Nat.le_refl _) _
  have HY : Hid (∀ k : Nat, i = (k : Int) → 0 < (winW x r).length → k < x.Rows.length → ∃ (b : Nat) (rest a m : List Int), winW x r = (b : Int) :: rest ∧ b < x.Rows.length ∧ x.Marks[k]? = some a ∧ x.Marks[b]? = some m ∧ a.length = x.Names.length ∧ m.length = x.Names.length ∧ (∀ (j : Nat) (k : Int), r[j]? = some k → 0 ≤ k ∧ k < (x.Names.length : Int)) ∧ fatX x r i = (fdiff a m r 0).1 ∧ fatX x r i = gtAt a m r 0 ∧ x.Marks.length = x.Rows.length) := fun k hk h1 h2 => by subst hk; exact fat_yes h1 h2
  obtain ⟨Ar, kr, rfl⟩ := hvr.form
  clear hv hvr hm hz4 hz5
  generalize hZ : fatX x r i = z at *
  generalize hWW : winW x r = WW at *
  have b0 := HI0.out.cell 0 rfl
  have b1 := HI0.out.cell 1 rfl
  have b2 := HI0.out.cell 2 rfl
  have b3 := HI0.out.cell 3 rfl
  go_enter Tryz.func27, Tryz.ntmps27
  go_wp2_with fail
  refine (HWI.out _ HA0.out).mono ?_
  rintro e w2 ⟨u, rfl, hrow, hb2⟩
  obtain ⟨Au, cu, rfl⟩ := hrow.form
  have HB2 := Lib.hid (below_step HA0.out hb2)
  have HBX := Lib.hid (HI0.out.kept hb2)
  have HRW := Lib.hid hrow
  clear hrow hb2 b0 b1 b2 b3 HI0 HA0 HWI
  have b2 := HBX.out.cell 2 rfl
  have b3 := HBX.out.cell 3 rfl
  have hwl := HWL.out
  by_cases hW0 : WW.length = 0
  · have HF := Lib.hid (HN.out fun h => by omega)
    have e0 : ((WW.length : Int) == 0) = true := by simp [hW0]
    clear HN HY HWL
    go_wp2
    go_ret
    exact ⟨by rw [HF.out]; rfl, HB2.out⟩
  have e0 : ((WW.length : Int) == 0) = false := beq_eq_false_iff_ne.2 (by omega)
  by_cases hi0 : i < 0
  · have HF := Lib.hid (HN.out fun h => by omega)
    have e1 : decide (i < 0) = true := decide_eq_true hi0
    clear HN HY HWL
    go_wp2
    go_ret
    exact ⟨by rw [HF.out]; rfl, HB2.out⟩
  have e1 : decide (i < 0) = false := decide_eq_false hi0
  by_cases hi1 : (x.Rows.length : Int) ≤ i
  · have HF := Lib.hid (HN.out fun h => by omega)
    have e2 : decide ((x.Rows.length : Int) ≤ i) = true := decide_eq_true hi1
    clear HN HY HWL
    go_wp2
    go_ret
    exact ⟨by rw [HF.out]; rfl, HB2.out⟩
  have e2 : decide ((x.Rows.length : Int) ≤ i) = false := decide_eq_false hi1
  obtain ⟨k, rfl⟩ : ∃ k : Nat, i = (k : Int) := ⟨i.toNat, by omega⟩
  obtain ⟨b, rest, a, m, hbt, hbN, hak, hmb, haN, hmN, hrk, hzf, hzg, hml⟩ := HY.out k rfl (by omega) (by omega)
  have HAN := Lib.hid haN
  have HMN := Lib.hid hmN
  have HRKK := Lib.hid hrk
  have HZF := Lib.hid hzf
  have HZG := Lib.hid hzg
  have hw0 : WW[0]? = some (b : Int) := by rw [hbt]; rfl
  obtain ⟨gu, ou, xsu, Gu, rfl, -, hru', -, hcu⟩ := HRW.out.get hw0
  obtain ⟨rfl, -⟩ := id hru'
  have du := hcu 0 _ rfl
  simp only [show Rep.int.size = 1 from rfl, Nat.add_zero, Nat.mul_one, Nat.zero_mul] at du
  obtain ⟨g3, o3, xs3, G3, rfl, -, hr3', -, hc3⟩ := (HV.out.marks.kept HB2.out).get hak
  obtain ⟨v3, rfl, q3⟩ := id hr3'
  obtain ⟨g4, o4, xs4, G4, hge, -, hr4', -, hc4⟩ := (HV.out.marks.kept HB2.out).get hmb
  cases hge
  obtain ⟨v4, rfl, q4⟩ := id hr4'
  rw [show (Rep.row Rep.int).size = 1 from rfl] at hc3 hc4
  have d3 := hc3 0 _ rfl
  have d4 := hc4 0 _ rfl
  simp only [Nat.add_zero, Nat.mul_one] at d3 d4
  have HQ3 := Lib.hid q3
  have HQ4 := Lib.hid q4
  have hkm : (k : Int) < (x.Marks.length : Int) := by omega
  have hbm : (b : Int) < (x.Marks.length : Int) := by omega
  have hwp : (0 : Int) < (WW.length : Int) := by omega
  have HML := Lib.hid hml
  clear hml
  have hkr : (k : Int) < (x.Rows.length : Int) := by omega
  have e2n : decide (x.Rows.length ≤ k) = false := decide_eq_false (by omega)
  have hwn : 0 < WW.length := by omega
  generalize hLW : WW.length = LW at *
  have HPL : Hid (∀ j, j < r.length → ∃ q y1 y2, r[j]? = some ((q : Nat) : Int) ∧ q < a.length ∧ q < m.length ∧ a[q]? = some y1 ∧ m[q]? = some y2) := fun j hj => by
    obtain ⟨q, y, h1, h2, h3⟩ := rank_place (a := a) (by rw [HAN.out]; exact HRKK.out) hj
    have h4 := HAN.out
    have h5 := HMN.out
    exact ⟨q, y, _, h1, h2, by omega, h3, List.getElem?_eq_getElem (by omega)⟩
  have HST : Hid (∀ (j q : Nat) (y1 y2 : Int), r[j]? = some (q : Int) → a[q]? = some y1 → m[q]? = some y2 → gtAt a m (r.drop j) j = if y2 < y1 then (j : Int) else gtAt a m (r.drop (j + 1)) (j + 1)) := fun j q y1 y2 h1 h2 h3 => gtAt_at h1 h2 h3
  have H0 : Hid (gtAt a m (r.drop 0) 0 = z) := HZG.out.symm
  have HE : Hid (gtAt a m (r.drop r.length) r.length = -1) := by unfold Hid; rw [List.drop_length]; rfl
  have HDU := Lib.hid du
  have HD3 := Lib.hid d3
  have HD4 := Lib.hid d4
  clear haN hmN hrk hzf hzg hbt hw0 hru' hcu hr3' hr4' hc3 hc4 q3 q4 hak hmb HN HY HWL hi0 hi1 hW0 hZ hWW du d3 d4 b3
  obtain ⟨Aa, ka, rfl⟩ := HQ3.out.form
  obtain ⟨Am, km, rfl⟩ := HQ4.out.form
  generalize hln : r.length = n at *
  generalize hla : a.length = na at *
  generalize hlm : m.length = nm at *
  go_wp2
  go_loopw [8] (fun j wr => ∃ (q : Nat), q ≤ n ∧ j = .int .i64 q ∧ Hid (gtAt a m (r.drop q) q = z) ∧ Below w2.heap.size w2 wr) (fun j _ => n - (intOf j).toNat)
  case atStart => exact ⟨0, by omega, rfl, H0.out, Below.refl _ _⟩
  case round =>
    obtain ⟨j, hj, rfl, hgt, hbe⟩ := hrel
    obtain ⟨w5, rfl⟩ : ∃ w5 : World, w5 = wr := ⟨_, rfl⟩
    have HBE := Lib.hid hbe
    clear hbe b2
    by_cases hjn : j < n
    · obtain ⟨q, y1, y2, hq, hqa, hqm, hy1, hy2⟩ := HPL.out j hjn
      have HS : Hid (z = if y2 < y1 then (j : Int) else gtAt a m (r.drop (j + 1)) (j + 1)) := hgt.out.symm.trans (HST.out j q y1 y2 hq hy1 hy2)
      have hjr : (j : Int) < (n : Int) := by omega
      have hq1 : (q : Int) < (na : Int) := by omega
      have hq2 : (q : Int) < (nm : Int) := by omega
      obtain ⟨g5, o5, xs5, G5, rfl, -, ha5, -, hc5⟩ := (HQ3.out.kept HBE.out).get hy1
      obtain ⟨g6, o6, xs6, G6, rfl, -, ha6, -, hc6⟩ := (HQ4.out.kept HBE.out).get hy2
      obtain ⟨g7, o7, xs7, G7, rfl, -, ha7, -, hc7⟩ := (HR.out.kept (below_step HB2.out HBE.out)).get hq
      obtain ⟨rfl, hi5⟩ := id ha5
      obtain ⟨rfl, hi6⟩ := id ha6
      obtain ⟨rfl, hi7⟩ := id ha7
      have d5 := hc5 0 _ rfl
      have d6 := hc6 0 _ rfl
      have d7 := hc7 0 _ rfl
      simp only [show Rep.int.size = 1 from rfl, Nat.mul_one, Nat.add_zero] at d5 d6 d7
      have b3 := (HBX.out.kept HBE.out).cell 3 rfl
      have du := cell_kept HBE.out HDU.out
      have d3 := cell_kept HBE.out HD3.out
      have d4 := cell_kept HBE.out HD4.out
      have hru := fun d os => cell_regrown du d os
      have hr3 := fun d os => cell_regrown d3 d os
      have hr4 := fun d os => cell_regrown d4 d os
      have hr5 := fun d os => cell_regrown d5 d os
      have hr6 := fun d os => cell_regrown d6 d os
      have hr7 := fun d os => cell_regrown d7 d os
      have hrb := fun d os => cell_regrown b3 d os
      clear hc5 hc6 hc7 ha5 ha6 ha7 hy1 hy2 hq
      by_cases hgt1 : y2 < y1
      · have e3 : decide (y2 < y1) = true := decide_eq_true hgt1
        have HF : Hid (z = (j : Int)) := by unfold Hid; rw [HS.out, if_pos hgt1]
        clear HS hgt hgt1 HPL HST
        go_wp2
        refine wp_region_quiet_below (by kernel_rfl) (by kernel_rfl) ?_
        repeat (first | go_big_quiet_skip | quiet_step (fail))
        refine wpQuiet_nil ?_
        intro _ hw'
        obtain ⟨⟨dq, osq⟩, hw''⟩ := hw'
        subst hw''
        have HB6 := Lib.hid (below_step (below_step HB2.out HBE.out) (below_regrown w5 dq osq))
        go_wp2
        go_ret
        exact ⟨by rw [HF.out]; rfl, HB6.out⟩
      · have e3 : decide (y2 < y1) = false := decide_eq_false hgt1
        have HF : Hid (gtAt a m (r.drop (j + 1)) (j + 1) = z) := by unfold Hid; rw [HS.out, if_neg hgt1]
        clear HS hgt hgt1 HPL HST
        go_wp2
        refine wp_region_quiet_below (by kernel_rfl) (by kernel_rfl) ?_
        repeat (first | go_big_quiet_skip | quiet_step (fail))
        refine wpQuiet_nil ?_
        intro _ hw'
        obtain ⟨⟨dq, osq⟩, hw''⟩ := hw'
        subst hw''
        have HB6 := Lib.hid (below_step HBE.out (below_regrown w5 dq osq))
        go_wp2
        go_roundw
        case rel => exact ⟨j + 1, by omega, by go_num, HF.out, HB6.out⟩
        case measure => simp [intOf]; omega
    · obtain rfl : j = n := by omega
      have HF : Hid (z = -1) := hgt.out.symm.trans HE.out
      clear hgt
      go_wp2
      go_ret
      exact ⟨by rw [HF.out]; rfl, below_step HB2.out HBE.out⟩
end Go.Proofs.YtkaihnlknncfdaaGreatDoor

/- The fatal mark: the program's FatalMark: what it answers. -/
namespace Go.Proofs.YtkaihnlknncfdaaGreatDoor
set_option maxRecDepth 100000
open Go.RowKit Go.Sort M
set_option linter.unusedVariables false
set_option linter.unusedSimpArgs false

set_option maxHeartbeats 8000000 in
theorem implFat_any (x : DTableau) (r : List Int) (i : Int) (A1 : Option Addr) (c1 : Nat) (A2 : Option Addr) (c2 : Nat) (A3 : Option Addr) (c3 : Nat) (vr : Value) (F1 F2 F3 Fr : Addr → Prop) (w : World) (hm : rTableau.sz x ≤ 1048576) (hv : TabRd false w (.slice A1 x.Names.length c1) (.slice A2 x.Rows.length c2) (.slice A3 x.Marks.length c3) x F1 F2 F3) (hvr : RowRd Rep.int false w vr r Fr) (hT : FeatTab w) :
    Calls Tryz.prog 28 #[.agg #[.string x.Input, .slice A1 x.Names.length c1, .slice A2 x.Rows.length c2, .slice A3 x.Marks.length c3], vr, .int .i64 i] w fun e w' => e = .returned (.int .i64 (fatX x r i)) ∧ Below w.heap.size w w' := by
  obtain ⟨hz0, hz1, hz2, hz3, hz4, hz5⟩ := szTab_parts hm
  have hmr := hvr.max
  have HV := Lib.hid hv
  have HR := Lib.hid hvr
  have HWI : Hid (∀ W, Below w.heap.size w W → Calls Tryz.prog 16 #[.agg #[.string x.Input, .slice A1 x.Names.length c1, .slice A2 x.Rows.length c2, .slice A3 x.Marks.length c3], vr] W (IntPost11 (winW x r) W)) := fun W hW => implWin_any x r A1 c1 A2 c2 A3 c3 vr F1 F2 F3 Fr W hm (hv.kept hW) (hvr.kept hW) (feat_below hT hW)
  have HN : Hid (¬ (0 < (winW x r).length ∧ 0 ≤ i ∧ i < (x.Rows.length : Int)) → fatX x r i = -1) := fat_no
  have HWL : Hid ((winW x r).length ≤ 1048576) := by
    unfold Hid winW
    split
    · have := winTo_len x.Marks r x.Marks.length
      unfold winL; omega
    · simp
  have HI0 : Hid (InC (w.alloc (.cells #[.string x.Input, .slice A1 x.Names.length c1, .slice A2 x.Rows.length c2, .slice A3 x.Marks.length c3] 32)) w.heap.size #[.string x.Input, .slice A1 x.Names.length c1, .slice A2 x.Rows.length c2, .slice A3 x.Marks.length c3] 32) := heap_alloc_new _ _
  have HA0 : Hid (Below w.heap.size w (w.alloc (.cells #[.string x.Input, .slice A1 x.Names.length c1, .slice A2 x.Rows.length c2, .slice A3 x.Marks.length c3] 32))) := (Below.refl _ _).alloc (Nat.le_refl _) _
  have HY : Hid (∀ k : Nat, i = (k : Int) → 0 < (winW x r).length → k < x.Rows.length → ∃ (b : Nat) (rest a m : List Int), winW x r = (b : Int) :: rest ∧ b < x.Rows.length ∧ x.Marks[k]? = some a ∧ x.Marks[b]? = some m ∧ a.length = x.Names.length ∧ m.length = x.Names.length ∧ (∀ (j : Nat) (k : Int), r[j]? = some k → 0 ≤ k ∧ k < (x.Names.length : Int)) ∧ fatX x r i = (fdiff a m r 0).1 ∧ fatX x r i = gtAt a m r 0 ∧ x.Marks.length = x.Rows.length) := fun k hk h1 h2 => by subst hk; exact fat_yes h1 h2
  obtain ⟨Ar, kr, rfl⟩ := hvr.form
  clear hv hvr hm hz4 hz5 hT
  generalize hZ : fatX x r i = z at *
  generalize hWW : winW x r = WW at *
  have b0 := HI0.out.cell 0 rfl
  have b1 := HI0.out.cell 1 rfl
  have b2 := HI0.out.cell 2 rfl
  have b3 := HI0.out.cell 3 rfl
  go_enter Tryz.func28, Tryz.ntmps28
  go_wp2_with fail
  refine (HWI.out _ HA0.out).mono ?_
  rintro e w2 ⟨u, rfl, hrow, hb2⟩
  obtain ⟨Au, cu, rfl⟩ := hrow.form
  have HB2 := Lib.hid (below_step HA0.out hb2)
  have HBX := Lib.hid (HI0.out.kept hb2)
  have HRW := Lib.hid hrow
  clear hrow hb2 b0 b1 b2 b3 HI0 HA0 HWI
  have b2 := HBX.out.cell 2 rfl
  have b3 := HBX.out.cell 3 rfl
  have hwl := HWL.out
  by_cases hW0 : WW.length = 0
  · have HF := Lib.hid (HN.out fun h => by omega)
    have e0 : ((WW.length : Int) == 0) = true := by simp [hW0]
    clear HN HY HWL
    go_wp2
    go_ret
    exact ⟨by rw [HF.out]; rfl, HB2.out⟩
  have e0 : ((WW.length : Int) == 0) = false := beq_eq_false_iff_ne.2 (by omega)
  by_cases hi0 : i < 0
  · have HF := Lib.hid (HN.out fun h => by omega)
    have e1 : decide (i < 0) = true := decide_eq_true hi0
    clear HN HY HWL
    go_wp2
    go_ret
    exact ⟨by rw [HF.out]; rfl, HB2.out⟩
  have e1 : decide (i < 0) = false := decide_eq_false hi0
  by_cases hi1 : (x.Rows.length : Int) ≤ i
  · have HF := Lib.hid (HN.out fun h => by omega)
    have e2 : decide ((x.Rows.length : Int) ≤ i) = true := decide_eq_true hi1
    clear HN HY HWL
    go_wp2
    go_ret
    exact ⟨by rw [HF.out]; rfl, HB2.out⟩
  have e2 : decide ((x.Rows.length : Int) ≤ i) = false := decide_eq_false hi1
  obtain ⟨k, rfl⟩ : ∃ k : Nat, i = (k : Int) := ⟨i.toNat, by omega⟩
  obtain ⟨b, rest, a, m, hbt, hbN, hak, hmb, haN, hmN, hrk, hzf, hzg, hml⟩ := HY.out k rfl (by omega) (by omega)
  have HAN := Lib.hid haN
  have HMN := Lib.hid hmN
  have HRKK := Lib.hid hrk
  have HZF := Lib.hid hzf
  have HZG := Lib.hid hzg
  have hw0 : WW[0]? = some (b : Int) := by rw [hbt]; rfl
  obtain ⟨gu, ou, xsu, Gu, rfl, -, hru', -, hcu⟩ := HRW.out.get hw0
  obtain ⟨rfl, -⟩ := id hru'
  have du := hcu 0 _ rfl
  simp only [show Rep.int.size = 1 from rfl, Nat.add_zero, Nat.mul_one, Nat.zero_mul] at du
  obtain ⟨g3, o3, xs3, G3, rfl, -, hr3', -, hc3⟩ := (HV.out.marks.kept HB2.out).get hak
  obtain ⟨v3, rfl, q3⟩ := id hr3'
  obtain ⟨g4, o4, xs4, G4, hge, -, hr4', -, hc4⟩ := (HV.out.marks.kept HB2.out).get hmb
  cases hge
  obtain ⟨v4, rfl, q4⟩ := id hr4'
  rw [show (Rep.row Rep.int).size = 1 from rfl] at hc3 hc4
  have d3 := hc3 0 _ rfl
  have d4 := hc4 0 _ rfl
  simp only [Nat.add_zero, Nat.mul_one] at d3 d4
  have HQ3 := Lib.hid q3
  have HQ4 := Lib.hid q4
  have hkm : (k : Int) < (x.Marks.length : Int) := by omega
  have hbm : (b : Int) < (x.Marks.length : Int) := by omega
  have hwp : (0 : Int) < (WW.length : Int) := by omega
  have HML := Lib.hid hml
  clear hml
  have hkr : (k : Int) < (x.Rows.length : Int) := by omega
  have e2n : decide (x.Rows.length ≤ k) = false := decide_eq_false (by omega)
  have hwn : 0 < WW.length := by omega
  generalize hLW : WW.length = LW at *
  have hru := fun d os => cell_regrown du d os
  have hr3 := fun d os => cell_regrown d3 d os
  have hr4 := fun d os => cell_regrown d4 d os
  have hrb := fun d os => cell_regrown b3 d os
  have HH : Hid (∀ d os, Calls Tryz.prog 66 #[v3, v4, .slice Ar r.length kr] (grow (redrawn w2 d) os) fun e w'' => e = .returned (.tuple #[.int .i64 (fdiff a m r 0).1, .int .i64 (fdiff a m r 0).2]) ∧ ∃ p : Regrown, w'' = grow (redrawn w2 p.d) p.os) := fun d os =>
    Calls.regrown_of (fdif_any a m r v3 v4 _ G3 G4 Fr _ (HQ3.out.kept (below_regrown w2 d os)) (HQ4.out.kept (below_regrown w2 d os)) ((HR.out.kept HB2.out).kept (below_regrown w2 d os)) (HAN.out.trans HMN.out.symm) (by rw [HAN.out]; exact HRKK.out))
  have HH2 := HH.out
  rw [← HZF.out] at HH2
  clear haN hmN hrk hzf hzg hbt hw0 hru' hcu hr3' hr4' hc3 hc4 q3 q4 hak hmb HH HN HY HWL hi0 hi1 hW0 hZ hWW
  generalize (fdiff a m r 0).2 = o at *
  go_wp2
  refine wp_region_quiet_below (by kernel_rfl) (by kernel_rfl) ?_
  repeat (first | go_big_quiet_skip | quiet_step (with_reducible exact HH2 _ _))
  refine wpQuiet_nil ?_
  intro _ hw'
  obtain ⟨⟨dq, osq⟩, hw''⟩ := hw'
  subst hw''
  have HB5 := Lib.hid (HB2.out.trans ((below_regrown w2 dq osq).mono HB2.out.size))
  go_wp2
  go_ret
  exact ⟨rfl, HB5.out⟩
end Go.Proofs.YtkaihnlknncfdaaGreatDoor

/- The walk of FnExactFatalMark: it returns true at every argument. -/
namespace Go.Proofs.YtkaihnlknncfdaaGreatDoor.fnExactFatalMark
set_option maxRecDepth 100000
open Go.RowKit Go.Proofs.YtkaihnlknncfdaaGreatDoor M
set_option linter.unusedVariables false
set_option linter.unusedSimpArgs false

set_option maxHeartbeats 16000000 in
theorem walk (w : World) (hT : FeatTab w) (x : DTableau) (F1 F2 F3 : Addr → Prop) (v1 v2 v3 : Value) (hv : TabRd false w v1 v2 v3 x F1 F2 F3) (vr : Value) (r : List Int) (Fr : Addr → Prop) (hvr : RowRd Rep.int false w vr r Fr) (i : Int) (hi : I64 i) :
    Calls Tryz.prog 5 #[.agg #[.string x.Input, v1, v2, v3], vr, .int .i64 i] w fun e w' => e = .returned (.bool true) ∧ Below w.heap.size w w' := by
  obtain ⟨A1, c1, rfl⟩ := hv.names.form
  obtain ⟨A2, c2, rfl⟩ := hv.rows.form
  obtain ⟨A3, c3, rfl⟩ := hv.marks.form
  have HV := Lib.hid hv.tight
  have HFT := Lib.hid hT
  clear hv hT
  have HB := Lib.hid (Below.refl w.heap.size w)
  obtain ⟨Ar, kr, rfl⟩ := hvr.form
  have HVr := Lib.hid (hvr.tight.mono (G := fun a => a.block < w.heap.size) (fun a ha => ha.2))
  have hmr := hvr.max
  clear hvr
  go_enter Tryz.func5, Tryz.ntmps5
  by_cases hlen : (1048576 : Int) < (r.length : Int)
  case pos =>
    go_wp2
    go_ret
    exact ⟨rfl, (Below.refl _ _).alloc (Nat.le_refl _) _⟩
  have HSZr : Hid (szRow Rep.int r ≤ 1048576) := by unfold Hid; rw [szRow_flat _ (fun _ => rfl)]; omega
  have HC : Hid (∀ W, Below w.heap.size w W → Calls Tryz.prog 12 #[.agg #[.string x.Input, .slice A1 x.Names.length c1, .slice A2 x.Rows.length c2, .slice A3 x.Marks.length c3], .int .i64 1048576] W fun e w' => (∃ z : Int, e = .returned (.int .i64 z) ∧ (z < 0 ∨ z + (rTableau.sz x : Nat) = 1048576 ∧ 0 ≤ z)) ∧ Below W.heap.size W w') := fun W hW => szTableau_any x _ _ _ 1048576 _ _ _ W (by omega) (by omega) (HV.out.kept hW)
  go_wp2_with fail
  refine (HC.out _ (by first | exact Below.refl _ _ | exact (Below.refl _ _).alloc (Nat.le_refl _) _ | exact (Below.refl _ _).drew)).mono ?_
  rintro e w1 ⟨⟨z, rfl, hz⟩, hb⟩
  have hbn : Below w.heap.size w w1 := below_step (by first | exact Below.refl _ _ | exact (Below.refl _ _).alloc (Nat.le_refl _) _ | exact (Below.refl _ _).drew) hb
  have hs1 : Hid (w.heap.size ≤ w1.heap.size) := hbn.size
  replace HV := Lib.hid (HV.out.kept hbn)
  replace HVr := Lib.hid (HVr.out.kept hbn)
  replace HB := Lib.hid (HB.out.trans (hbn.mono HB.out.size))
  have HA : Hid (InC w1 w.heap.size #[.string x.Input, .slice A1 x.Names.length c1, .slice A2 x.Rows.length c2, .slice A3 x.Marks.length c3] 26) := (hb.block _ (by simp)).trans (heap_alloc_new _ _)
  have HA0 : Hid (w.heap.size < w1.heap.size) := (HA.out.lt : _ < _)
  clear hb hbn HC
  by_cases hneg : z < 0
  case pos =>
    go_wp2
    go_ret
    exact ⟨rfl, HB.out⟩
  have HSZ : Hid (rTableau.sz x ≤ 1048576) := by unfold Hid; have := hz.resolve_left hneg; omega
  clear hz
  have HC : Hid (∀ W, Below w1.heap.size w1 W → Calls Tryz.prog 14 #[.agg #[.string x.Input, .slice A1 x.Names.length c1, .slice A2 x.Rows.length c2, .slice A3 x.Marks.length c3]] W (TabPost x W)) := fun W hW => toTableau_any x _ _ _ _ _ _ W HSZ.out (HV.out.kept hW)
  have bHA0 := HA.out.cell 0 rfl
  have bHA1 := HA.out.cell 1 rfl
  have bHA2 := HA.out.cell 2 rfl
  have bHA3 := HA.out.cell 3 rfl
  go_wp2_with fail
  refine (HC.out _ (by first | exact Below.refl _ _ | exact (Below.refl _ _).alloc (Nat.le_refl _) _ | exact (Below.refl _ _).drew)).mono ?_
  rintro e w2 ⟨Au1, cu1, Au2, cu2, Au3, cu3, Gu1, Gu2, Gu3, rfl, hq, hg, hb⟩
  clear bHA0 bHA1 bHA2 bHA3
  have hbn : Below w1.heap.size w1 w2 := below_step (by first | exact Below.refl _ _ | exact (Below.refl _ _).alloc (Nat.le_refl _) _ | exact (Below.refl _ _).drew) hb
  have hs2 : Hid (w1.heap.size ≤ w2.heap.size) := hbn.size
  replace HV := Lib.hid (HV.out.kept hbn)
  replace HVr := Lib.hid (HVr.out.kept hbn)
  replace HA := Lib.hid (HA.out.kept hbn)
  replace HB := Lib.hid (HB.out.trans (hbn.mono HB.out.size))
  have Hu := Lib.hid hq
  have Ru : Hid (∀ a, Gu1 a ∨ Gu2 a ∨ Gu3 a → w1.heap.size ≤ a.block ∧ a.block < w2.heap.size) := fun a ha => ⟨Nat.le_trans (Below.size (B := w1.heap.size) (w := w1) (by first | exact Below.refl _ _ | exact (Below.refl _ _).alloc (Nat.le_refl _) _ | exact (Below.refl _ _).drew)) (hg a ha).1, (hg a ha).2⟩
  clear hb hbn HC hq hg
  have HC : Hid (∀ W, Below w2.heap.size w2 W → Calls Tryz.prog 15 #[.slice Ar r.length kr] W (OwnPost Rep.int r W)) := fun W hW => toIntS_any _ r _ W HSZr.out (HVr.out.kept hW)
  have bHA0 := HA.out.cell 0 rfl
  have bHA1 := HA.out.cell 1 rfl
  have bHA2 := HA.out.cell 2 rfl
  have bHA3 := HA.out.cell 3 rfl
  go_wp2_with fail
  refine (HC.out _ (by first | exact Below.refl _ _ | exact (Below.refl _ _).alloc (Nat.le_refl _) _ | exact (Below.refl _ _).drew)).mono ?_
  rintro e w3 ⟨u2, rfl, hq, hb⟩
  clear bHA0 bHA1 bHA2 bHA3
  have hbn : Below w2.heap.size w2 w3 := below_step (by first | exact Below.refl _ _ | exact (Below.refl _ _).alloc (Nat.le_refl _) _ | exact (Below.refl _ _).drew) hb
  have hs3 : Hid (w2.heap.size ≤ w3.heap.size) := hbn.size
  replace HV := Lib.hid (HV.out.kept hbn)
  replace HVr := Lib.hid (HVr.out.kept hbn)
  replace HA := Lib.hid (HA.out.kept hbn)
  replace Hu := Lib.hid (Hu.out.kept hbn)
  replace HB := Lib.hid (HB.out.trans (hbn.mono HB.out.size))
  have Hu2 := Lib.hid (hq.tight.mono (G := fun a => w2.heap.size ≤ a.block ∧ a.block < w3.heap.size) (fun a ha => ⟨Nat.le_trans (Below.size (B := w2.heap.size) (w := w2) (by first | exact Below.refl _ _ | exact (Below.refl _ _).alloc (Nat.le_refl _) _ | exact (Below.refl _ _).drew)) ha.1, ha.2⟩))
  clear hb hbn HC hq
  have HC : Hid (∀ W, Below w3.heap.size w3 W → Calls Tryz.prog 27 #[.agg #[.string x.Input, .slice Au1 x.Names.length cu1, .slice Au2 x.Rows.length cu2, .slice Au3 x.Marks.length cu3], u2, .int .i64 i] W fun e w' => e = .returned (.int .i64 (fatX x r i)) ∧ Below W.heap.size W w') := fun W hW => specFat_any x r i Au1 cu1 Au2 cu2 Au3 cu3 _ _ _ _ _ W HSZ.out (Hu.out.kept hW).weak (Hu2.out.kept hW).weak
  have bHA0 := HA.out.cell 0 rfl
  have bHA1 := HA.out.cell 1 rfl
  have bHA2 := HA.out.cell 2 rfl
  have bHA3 := HA.out.cell 3 rfl
  go_wp2_with fail
  refine (HC.out _ (by first | exact Below.refl _ _ | exact (Below.refl _ _).alloc (Nat.le_refl _) _ | exact (Below.refl _ _).drew)).mono ?_
  rintro e w4 ⟨rfl, hb⟩
  clear bHA0 bHA1 bHA2 bHA3
  have hbn : Below w3.heap.size w3 w4 := below_step (by first | exact Below.refl _ _ | exact (Below.refl _ _).alloc (Nat.le_refl _) _ | exact (Below.refl _ _).drew) hb
  have hs4 : Hid (w3.heap.size ≤ w4.heap.size) := hbn.size
  replace HV := Lib.hid (HV.out.kept hbn)
  replace HVr := Lib.hid (HVr.out.kept hbn)
  replace HA := Lib.hid (HA.out.kept hbn)
  replace Hu := Lib.hid (Hu.out.kept hbn)
  replace Hu2 := Lib.hid (Hu2.out.kept hbn)
  replace HB := Lib.hid (HB.out.trans (hbn.mono HB.out.size))
  clear hb hbn HC
  clear Hu
  clear Hu2
  have HC : Hid (∀ W, Below w4.heap.size w4 W → Calls Tryz.prog 14 #[.agg #[.string x.Input, .slice A1 x.Names.length c1, .slice A2 x.Rows.length c2, .slice A3 x.Marks.length c3]] W (TabPost x W)) := fun W hW => toTableau_any x _ _ _ _ _ _ W HSZ.out (HV.out.kept hW)
  have bHA0 := HA.out.cell 0 rfl
  have bHA1 := HA.out.cell 1 rfl
  have bHA2 := HA.out.cell 2 rfl
  have bHA3 := HA.out.cell 3 rfl
  go_wp2_with fail
  refine (HC.out _ (by first | exact Below.refl _ _ | exact (Below.refl _ _).alloc (Nat.le_refl _) _ | exact (Below.refl _ _).drew)).mono ?_
  rintro e w5 ⟨Ax1, cx1, Ax2, cx2, Ax3, cx3, Gx1, Gx2, Gx3, rfl, hq, hg, hb⟩
  clear bHA0 bHA1 bHA2 bHA3
  have hbn : Below w4.heap.size w4 w5 := below_step (by first | exact Below.refl _ _ | exact (Below.refl _ _).alloc (Nat.le_refl _) _ | exact (Below.refl _ _).drew) hb
  have hs5 : Hid (w4.heap.size ≤ w5.heap.size) := hbn.size
  replace HV := Lib.hid (HV.out.kept hbn)
  replace HVr := Lib.hid (HVr.out.kept hbn)
  replace HA := Lib.hid (HA.out.kept hbn)
  replace HB := Lib.hid (HB.out.trans (hbn.mono HB.out.size))
  have Hx := Lib.hid hq
  have Rx : Hid (∀ a, Gx1 a ∨ Gx2 a ∨ Gx3 a → w4.heap.size ≤ a.block ∧ a.block < w5.heap.size) := fun a ha => ⟨Nat.le_trans (Below.size (B := w4.heap.size) (w := w4) (by first | exact Below.refl _ _ | exact (Below.refl _ _).alloc (Nat.le_refl _) _ | exact (Below.refl _ _).drew)) (hg a ha).1, (hg a ha).2⟩
  clear hb hbn HC hq hg
  have HC : Hid (∀ W, Below w5.heap.size w5 W → Calls Tryz.prog 15 #[.slice Ar r.length kr] W (OwnPost Rep.int r W)) := fun W hW => toIntS_any _ r _ W HSZr.out (HVr.out.kept hW)
  have bHA0 := HA.out.cell 0 rfl
  have bHA1 := HA.out.cell 1 rfl
  have bHA2 := HA.out.cell 2 rfl
  have bHA3 := HA.out.cell 3 rfl
  go_wp2_with fail
  refine (HC.out _ (by first | exact Below.refl _ _ | exact (Below.refl _ _).alloc (Nat.le_refl _) _ | exact (Below.refl _ _).drew)).mono ?_
  rintro e w6 ⟨x1, rfl, hq, hb⟩
  clear bHA0 bHA1 bHA2 bHA3
  have hbn : Below w5.heap.size w5 w6 := below_step (by first | exact Below.refl _ _ | exact (Below.refl _ _).alloc (Nat.le_refl _) _ | exact (Below.refl _ _).drew) hb
  have hs6 : Hid (w5.heap.size ≤ w6.heap.size) := hbn.size
  replace HV := Lib.hid (HV.out.kept hbn)
  replace HVr := Lib.hid (HVr.out.kept hbn)
  replace HA := Lib.hid (HA.out.kept hbn)
  replace Hx := Lib.hid (Hx.out.kept hbn)
  replace HB := Lib.hid (HB.out.trans (hbn.mono HB.out.size))
  have Hx1 := Lib.hid (hq.tight.mono (G := fun a => w5.heap.size ≤ a.block ∧ a.block < w6.heap.size) (fun a ha => ⟨Nat.le_trans (Below.size (B := w5.heap.size) (w := w5) (by first | exact Below.refl _ _ | exact (Below.refl _ _).alloc (Nat.le_refl _) _ | exact (Below.refl _ _).drew)) ha.1, ha.2⟩))
  have HX : Hid (InC w6 w5.heap.size #[.string x.Input, .slice Ax1 x.Names.length cx1, .slice Ax2 x.Rows.length cx2, .slice Ax3 x.Marks.length cx3] 32) := (hb.block _ (by simp)).trans (heap_alloc_new _ _)
  clear hb hbn HC hq
  have HC : Hid (∀ W, Below w6.heap.size w6 W → Calls Tryz.prog 28 #[.agg #[.string x.Input, .slice Ax1 x.Names.length cx1, .slice Ax2 x.Rows.length cx2, .slice Ax3 x.Marks.length cx3], x1, .int .i64 i] W fun e w' => e = .returned (.int .i64 (fatX x r i)) ∧ Below W.heap.size W w') := fun W hW => implFat_any x r i Ax1 cx1 Ax2 cx2 Ax3 cx3 _ _ _ _ _ W HSZ.out (Hx.out.kept hW).weak (Hx1.out.kept hW).weak (feat_below HFT.out (HB.out.trans (hW.mono HB.out.size)))
  have bHA0 := HA.out.cell 0 rfl
  have bHA1 := HA.out.cell 1 rfl
  have bHA2 := HA.out.cell 2 rfl
  have bHA3 := HA.out.cell 3 rfl
  have bHX0 := HX.out.cell 0 rfl
  have bHX1 := HX.out.cell 1 rfl
  have bHX2 := HX.out.cell 2 rfl
  have bHX3 := HX.out.cell 3 rfl
  go_wp2_with fail
  refine (HC.out _ (by first | exact Below.refl _ _ | exact (Below.refl _ _).alloc (Nat.le_refl _) _ | exact (Below.refl _ _).drew)).mono ?_
  rintro e w7 ⟨rfl, hb⟩
  clear bHA0 bHA1 bHA2 bHA3 bHX0 bHX1 bHX2 bHX3
  have hbn : Below w6.heap.size w6 w7 := below_step (by first | exact Below.refl _ _ | exact (Below.refl _ _).alloc (Nat.le_refl _) _ | exact (Below.refl _ _).drew) hb
  have hs7 : Hid (w6.heap.size ≤ w7.heap.size) := hbn.size
  replace HV := Lib.hid (HV.out.kept hbn)
  replace HVr := Lib.hid (HVr.out.kept hbn)
  replace HA := Lib.hid (HA.out.kept hbn)
  replace Hx := Lib.hid (Hx.out.kept hbn)
  replace Hx1 := Lib.hid (Hx1.out.kept hbn)
  replace HX := Lib.hid (HX.out.kept hbn)
  replace HB := Lib.hid (HB.out.trans (hbn.mono HB.out.size))
  clear hb hbn HC
  generalize fatX x r i = bb at *
  have HTO : Hid (∀ W, Below w7.heap.size w7 W → Calls Tryz.prog 14 #[.agg #[.string x.Input, .slice A1 x.Names.length c1, .slice A2 x.Rows.length c2, .slice A3 x.Marks.length c3]] W (TabPost x W)) := fun W hW => toTableau_any x _ _ _ _ _ _ W HSZ.out (HV.out.kept hW)
  have HEQ : Hid (∀ (W : World) (u1 u2 u3 : Value) (G1 G2 G3 : Addr → Prop), Below w7.heap.size w7 W → TabRd true W u1 u2 u3 x G1 G2 G3 → Calls Tryz.prog 18 #[.agg #[.string x.Input, .slice Ax1 x.Names.length cx1, .slice Ax2 x.Rows.length cx2, .slice Ax3 x.Marks.length cx3], .agg #[.string x.Input, u1, u2, u3]] W fun e w' => e = .returned (.bool true) ∧ Below W.heap.size W w') := fun W u1 u2 u3 G1 G2 G3 hW hu => eqTableau_any x _ _ _ _ _ _ _ _ _ _ _ _ W (Hx.out.kept hW).weak hu.weak
  have HXK : Hid (∀ W : World, Below w7.heap.size w7 W → InC W _ #[.string x.Input, .slice Ax1 x.Names.length cx1, .slice Ax2 x.Rows.length cx2, .slice Ax3 x.Marks.length cx3] 32) := fun W hW => HX.out.kept hW
  have bHA0 := HA.out.cell 0 rfl
  have bHA1 := HA.out.cell 1 rfl
  have bHA2 := HA.out.cell 2 rfl
  have bHA3 := HA.out.cell 3 rfl
  have bHX0 := HX.out.cell 0 rfl
  have bHX1 := HX.out.cell 1 rfl
  have bHX2 := HX.out.cell 2 rfl
  have bHX3 := HX.out.cell 3 rfl
  go_upto_region 13 with fail
  go_cut [41] (fun b wx => b = .bool false ∧ Below w7.heap.size w7 wx)
  case first =>
    go_region_with (first | (go_simp; go_at_call 14; refine (HTO.out _ ((Below.refl _ _).drew)).mono ?_; rintro e wt ⟨At1, ct1, At2, ct2, At3, ct3, T1, T2, T3, rfl, hqt, hgt, hbt0⟩; have hbt : Below w7.heap.size w7 wt := below_step ((Below.refl _ _).drew) hbt0; have e0 := (HXK.out _ hbt).cell 0 rfl; have e1 := (HXK.out _ hbt).cell 1 rfl; have e2 := (HXK.out _ hbt).cell 2 rfl; have e3 := (HXK.out _ hbt).cell 3 rfl; have HBT := Lib.hid hbt; have HQT := Lib.hid hqt; clear hbt0 hqt hgt hbt) | (go_simp; go_at_call 18; refine (HEQ.out _ _ _ _ _ _ _ HBT.out HQT.out).mono ?_; rintro e wz ⟨rfl, hbz0⟩; have HBZ := Lib.hid (below_step HBT.out hbz0); clear hbz0))
    all_goals
      go_wp2_with fail
      go_meet
      exact ⟨rfl, HBZ.out⟩
  case rest =>
  obtain ⟨rfl, hbn⟩ := hcut
  clear HTO HEQ HXK
  clear bHA0 bHA1 bHA2 bHA3 bHX0 bHX1 bHX2 bHX3
  generalize wc = w8 at *
  have hs8 : Hid (w7.heap.size ≤ w8.heap.size) := hbn.size
  replace HV := Lib.hid (HV.out.kept hbn)
  replace HVr := Lib.hid (HVr.out.kept hbn)
  replace HA := Lib.hid (HA.out.kept hbn)
  replace Hx := Lib.hid (Hx.out.kept hbn)
  replace Hx1 := Lib.hid (Hx1.out.kept hbn)
  replace HX := Lib.hid (HX.out.kept hbn)
  replace HB := Lib.hid (HB.out.trans (hbn.mono HB.out.size))
  clear hbn
  have HC : Hid (∀ W, Below w8.heap.size w8 W → Calls Tryz.prog 15 #[.slice Ar r.length kr] W (OwnPost Rep.int r W)) := fun W hW => toIntS_any _ r _ W HSZr.out (HVr.out.kept hW)
  have bHA0 := HA.out.cell 0 rfl
  have bHA1 := HA.out.cell 1 rfl
  have bHA2 := HA.out.cell 2 rfl
  have bHA3 := HA.out.cell 3 rfl
  have bHX0 := HX.out.cell 0 rfl
  have bHX1 := HX.out.cell 1 rfl
  have bHX2 := HX.out.cell 2 rfl
  have bHX3 := HX.out.cell 3 rfl
  go_wp2_with fail
  refine (HC.out _ (by first | exact Below.refl _ _ | exact (Below.refl _ _).alloc (Nat.le_refl _) _ | exact (Below.refl _ _).drew)).mono ?_
  rintro e w9 ⟨y2, rfl, hq, hb⟩
  clear bHA0 bHA1 bHA2 bHA3 bHX0 bHX1 bHX2 bHX3
  have hbn : Below w8.heap.size w8 w9 := below_step (by first | exact Below.refl _ _ | exact (Below.refl _ _).alloc (Nat.le_refl _) _ | exact (Below.refl _ _).drew) hb
  have hs9 : Hid (w8.heap.size ≤ w9.heap.size) := hbn.size
  replace HV := Lib.hid (HV.out.kept hbn)
  replace HVr := Lib.hid (HVr.out.kept hbn)
  replace HA := Lib.hid (HA.out.kept hbn)
  replace Hx := Lib.hid (Hx.out.kept hbn)
  replace Hx1 := Lib.hid (Hx1.out.kept hbn)
  replace HX := Lib.hid (HX.out.kept hbn)
  replace HB := Lib.hid (HB.out.trans (hbn.mono HB.out.size))
  have Hy2 := Lib.hid (hq.tight.mono (G := fun a => w8.heap.size ≤ a.block ∧ a.block < w9.heap.size) (fun a ha => ⟨Nat.le_trans (Below.size (B := w8.heap.size) (w := w8) (by first | exact Below.refl _ _ | exact (Below.refl _ _).alloc (Nat.le_refl _) _ | exact (Below.refl _ _).drew)) ha.1, ha.2⟩))
  clear hb hbn HC hq
  have HC : Hid (∀ W, Below w9.heap.size w9 W → Calls Tryz.prog 17 #[x1, y2] W fun e w' => e = .returned (.bool true) ∧ Below W.heap.size W w') := fun W hW => eqIntS_any _ _ (r) _ _ W (Hx1.out.kept hW).weak (Hy2.out.kept hW).weak
  have bHA0 := HA.out.cell 0 rfl
  have bHA1 := HA.out.cell 1 rfl
  have bHA2 := HA.out.cell 2 rfl
  have bHA3 := HA.out.cell 3 rfl
  have bHX0 := HX.out.cell 0 rfl
  have bHX1 := HX.out.cell 1 rfl
  have bHX2 := HX.out.cell 2 rfl
  have bHX3 := HX.out.cell 3 rfl
  go_wp2_with fail
  refine (HC.out _ (by first | exact Below.refl _ _ | exact (Below.refl _ _).alloc (Nat.le_refl _) _ | exact (Below.refl _ _).drew)).mono ?_
  rintro e w10 ⟨rfl, hb⟩
  clear bHA0 bHA1 bHA2 bHA3 bHX0 bHX1 bHX2 bHX3
  have hbn : Below w9.heap.size w9 w10 := below_step (by first | exact Below.refl _ _ | exact (Below.refl _ _).alloc (Nat.le_refl _) _ | exact (Below.refl _ _).drew) hb
  have hs10 : Hid (w9.heap.size ≤ w10.heap.size) := hbn.size
  replace HV := Lib.hid (HV.out.kept hbn)
  replace HVr := Lib.hid (HVr.out.kept hbn)
  replace HA := Lib.hid (HA.out.kept hbn)
  replace Hx := Lib.hid (Hx.out.kept hbn)
  replace Hx1 := Lib.hid (Hx1.out.kept hbn)
  replace HX := Lib.hid (HX.out.kept hbn)
  replace Hy2 := Lib.hid (Hy2.out.kept hbn)
  replace HB := Lib.hid (HB.out.trans (hbn.mono HB.out.size))
  clear hb hbn HC
  go_wp2
  go_ret
  exact ⟨rfl, HB.out⟩
end Go.Proofs.YtkaihnlknncfdaaGreatDoor.fnExactFatalMark
