/- Merged: Tp11 TzStringS Tz0 TzLinkS TzCandidate TzCandidateS TzIntS TzIntSS TzTableau. -/
import Derived.Test.YtkaihnlknncfdaaGreatDoorQ4
import Derived.Test.YtkaihnlknncfdaaGreatDoorQ8
import Derived.Test.YtkaihnlknncfdaaGreatDoorQ6
import Derived.Deep.DeepCutAuto
import Derived.Deep.RegionHeld3
import Derived.Deep.RegionWith
import Derived.Test.YtkaihnlknncfdaaGreatDoorQ1
import Derived.Test.YtkaihnlknncfdaaGreatDoorQ2
import Derived.WalkKit
import Derived.BigQuiet
import Derived.Test.YtkaihnlknncfdaaGreatDoorRows
import Derived.Lib.QuietBelow
/- The program's IsTableau: what it answers. -/
namespace Go.Proofs.YtkaihnlknncfdaaGreatDoor
set_option maxRecDepth 100000
open Go.RowKit Go.Sort M
set_option linter.unusedVariables false
set_option linter.unusedSimpArgs false

set_option maxHeartbeats 16000000 in
theorem implTab_any (x : DTableau) (A1 : Option Addr) (c1 : Nat) (A2 : Option Addr) (c2 : Nat) (A3 : Option Addr) (c3 : Nat) (F1 F2 F3 : Addr → Prop) (w : World) (hm : rTableau.sz x ≤ 1048576) (hv : TabRd false w (.slice A1 x.Names.length c1) (.slice A2 x.Rows.length c2) (.slice A3 x.Marks.length c3) x F1 F2 F3) (hT : FeatTab w) :
    Calls Tryz.prog 41 #[.agg #[.string x.Input, .slice A1 x.Names.length c1, .slice A2 x.Rows.length c2, .slice A3 x.Marks.length c3]] w fun e w' => e = .returned (.bool (isTab x)) ∧ Below w.heap.size w w' := by
  obtain ⟨hz0, hz1, hz2, hz3, hz4, hz5⟩ := szTab_parts hm
  have hcap1 := hv.names.cap_le
  have HZ4 := Lib.hid hz4
  have HV := Lib.hid hv
  have HSA : Hid (∀ W, Below w.heap.size w W → Calls Tryz.prog 79 #[.slice A1 x.Names.length c1] W fun e w' => e = .returned (.bool (areC x.Names)) ∧ Below W.heap.size W w') := fun W hW => implAre_any mkT x.Names A1 c1 F1 W (by omega) hcap1 (hv.names.kept hW)
  have HSF : Hid (∀ W, Calls Tryz.prog 89 #[.string x.Input] W fun e w' => e = .returned (.bool (isFm x.Input)) ∧ W = w') := fun W => implFmS_any x.Input W (by unfold maxLen; omega)
  have HCO : Hid (areC x.Names = true → ∀ W, Below w.heap.size w W → Calls Tryz.prog 81 #[.slice A1 x.Names.length c1] W (OwnPost Rep.fn (ctrs x.Names) W)) := fun h W hW => implCtrs_any mkT x.Names A1 c1 F1 W h (hv.names.kept hW)
  have HSI : Hid (∀ (c : DCandidate) (v : Value) (G : Addr → Prop) W, c.Links.length ≤ 1048576 → RowRd rLink false W v c.Links G → Calls Tryz.prog 90 #[.agg #[v]] W fun e w' => e = .returned (.string (inT c.Links)) ∧ Below W.heap.size W w') := fun c v G W hl hr => implInput_any c v G W hl hr
  have HSC : Hid (∀ (c : DCandidate) (v : Value) (G : Addr → Prop) W, c.Links.length ≤ 1048576 → RowRd rLink false W v c.Links G → Calls Tryz.prog 80 #[.agg #[v]] W fun e w' => e = .returned (.bool (isCd c.Links)) ∧ Below W.heap.size W w') := fun c v G W hl hr => implIsCd_any c v G W hl hr
  have HSP : Hid (areC x.Names = true → ∀ (A4 : Option Addr) (c4 : Nat) (F4 : Addr → Prop) (c : DCandidate) (B : Option Addr) (q : Nat) (G : Addr → Prop) W, c.Links.length ≤ 1048576 → Below w.heap.size w W → RowRd Rep.fn false W (.slice A4 (ctrs x.Names).length c4) (ctrs x.Names) F4 → RowRd rLink false W (.slice B c.Links.length q) c.Links G → Calls Tryz.prog 82 #[.slice A4 (ctrs x.Names).length c4, .agg #[.slice B c.Links.length q]] W (OwnPost Rep.int (cntsN (ctrs x.Names) c.Links) W)) := fun h A4 c4 F4 c B q G W hl hW hr hr2 => implProfOf_any (ctrs x.Names) (ctrs_lt h) A4 c4 F4 c B q G W (by rw [ctrs_len]; exact hz1) hl hr hr2 (feat_below hT hW)
  have HX2 : Hid (∀ k, k < x.Rows.length → ∃ y, x.Rows[k]? = some y) := fun k hk => ⟨_, List.getElem?_eq_getElem hk⟩
  have HX3 : Hid (∀ k, k < x.Marks.length → ∃ y, x.Marks[k]? = some y) := fun k hk => ⟨_, List.getElem?_eq_getElem hk⟩
  have HHD : Hid (headT x = (areC x.Names && (isFm x.Input && ((decide (1 ≤ (x.Rows.length : Int)) && decide ((x.Rows.length : Int) ≤ 250)) && decide ((x.Marks.length : Int) = (x.Rows.length : Int)))))) := rfl
  have HHF := Lib.hid (isTab_head (x := x))
  have HBD : Hid (∀ k, k < x.Rows.length → rowAt x k = false → isTab x = false) := fun k h1 h2 => isTab_bad h1 h2
  have HGD : Hid (headT x = true → (∀ k, k < x.Rows.length → rowAt x k = true) → isTab x = true) := isTab_good
  have HRA : Hid (areC x.Names = true → ∀ (k : Nat) (c : DCandidate) (m : List Int), x.Rows[k]? = some c → x.Marks[k]? = some m → rowAt x k = (isCd c.Links && (decide (inT c.Links = x.Input) && decide (m = cntsN (ctrs x.Names) c.Links)))) := fun h k c m h1 h2 => by
    rw [rowAt_of h1 h2]
    unfold rowOk
    cases hc : isCd c.Links with
    | false => rfl
    | true => rw [profN_ctrs h hc]
  clear hv hz4 hz5 hm hT
  have HA : Hid (∀ o, Below w.heap.size w (w.alloc o)) := fun o => (Below.refl _ _).alloc (Nat.le_refl _) _
  have HA1 : Hid (InC (w.alloc (.cells #[.string x.Input, .slice A1 x.Names.length c1, .slice A2 x.Rows.length c2, .slice A3 x.Marks.length c3] 32)) w.heap.size #[.string x.Input, .slice A1 x.Names.length c1, .slice A2 x.Rows.length c2, .slice A3 x.Marks.length c3] 32) := heap_alloc_new _ _
  go_enter Tryz.func41, Tryz.ntmps41
  go_wp2_with fail
  refine (HSA.out _ (HA.out _)).mono ?_
  rintro e w1 ⟨rfl, hb⟩
  have HB1 : Hid (Below w.heap.size w w1) := below_step (HA.out _) hb
  have HX1 := Lib.hid (HA1.out.kept hb)
  have b0 := HX1.out.cell 0 rfl
  have b1 := HX1.out.cell 1 rfl
  have b2 := HX1.out.cell 2 rfl
  have b3 := HX1.out.cell 3 rfl
  clear hb
  cases ha : areC x.Names with
  | false =>
    have HN : Hid (isTab x = false) := HHF.out (by rw [HHD.out, ha]; rfl)
    go_wp2_with fail
    go_ret
    exact ⟨ret_bool HN.out.symm, HB1.out⟩
  | true =>
  go_wp2_with fail
  refine (HSF.out _).mono ?_
  rintro e w1' ⟨rfl, rfl⟩
  cases hf : isFm x.Input with
  | false =>
    have HN : Hid (isTab x = false) := HHF.out (by rw [HHD.out, ha, hf]; rfl)
    go_wp2_with fail
    go_ret
    exact ⟨ret_bool HN.out.symm, HB1.out⟩
  | true =>
  by_cases hr1 : (1 ≤ (x.Rows.length : Int))
  case neg =>
    have HN : Hid (isTab x = false) := HHF.out (by rw [HHD.out, ha, hf, decide_eq_false hr1]; simp)
    have e1 : decide ((x.Rows.length : Int) < 1) = true := decide_eq_true (by omega)
    clear ha hf hr1
    go_wp2_with fail
    go_ret
    exact ⟨ret_bool HN.out.symm, HB1.out⟩
  by_cases hr2 : ((x.Rows.length : Int) ≤ 250)
  case neg =>
    have HN : Hid (isTab x = false) := HHF.out (by rw [HHD.out, ha, hf, decide_eq_false hr2]; simp)
    have e1 : decide ((x.Rows.length : Int) < 1) = false := decide_eq_false (by omega)
    have e2 : decide ((250 : Int) < (x.Rows.length : Int)) = true := decide_eq_true (by omega)
    clear ha hf hr1 hr2
    go_wp2_with fail
    go_ret
    exact ⟨ret_bool HN.out.symm, HB1.out⟩
  have e1 : decide ((x.Rows.length : Int) < 1) = false := decide_eq_false (by omega)
  have e2 : decide ((250 : Int) < (x.Rows.length : Int)) = false := decide_eq_false (by omega)
  by_cases hml : (x.Marks.length : Int) = (x.Rows.length : Int)
  case neg =>
    have HN : Hid (isTab x = false) := HHF.out (by rw [HHD.out, ha, hf, decide_eq_false hml]; simp)
    have e3 : ((x.Marks.length : Int) != (x.Rows.length : Int)) = true := by simpa using hml
    clear ha hf
    go_wp2_with fail
    go_ret
    exact ⟨ret_bool HN.out.symm, HB1.out⟩
  have e3 : ((x.Marks.length : Int) != (x.Rows.length : Int)) = false := by simpa using hml
  have HHT : Hid (headT x = true) := by unfold Hid; rw [HHD.out, ha, hf, decide_eq_true hr1, decide_eq_true hr2, decide_eq_true hml]; rfl
  have HCA := Lib.hid (HCO.out ha)
  have HPA := Lib.hid (HSP.out ha)
  have HRB := Lib.hid (HRA.out ha)
  clear ha hf HHD HHF HCO HSP HRA
  have hml2 : x.Marks.length = x.Rows.length := by omega
  go_wp2_with fail
  refine (HCA.out _ HB1.out).mono ?_
  rintro e w3 ⟨u4, rfl, hr4, hb⟩
  obtain ⟨A4, c4, rfl⟩ := hr4.form
  have HB3 : Hid (Below w.heap.size w w3) := below_step HB1.out hb
  have HX3' := Lib.hid (HX1.out.kept hb)
  have HR4 := Lib.hid hr4.weak
  clear hb hr4 b0 b1 b2 b3 HX1 HCA e1 e2 e3
  have b2 := HX3'.out.cell 2 rfl
  go_wp2
  clear b2
  go_loopw [41] (fun i wr => ∃ (k : Nat), k ≤ x.Rows.length ∧ i = .int .i64 k ∧ Hid (∀ j, j < k → rowAt x j = true) ∧ Below w3.heap.size w3 wr) (fun i _ => x.Rows.length - (intOf i).toNat)
  case atStart => exact ⟨0, by omega, rfl, fun j hj => by omega, Below.refl _ _⟩
  case round =>
    obtain ⟨k, hk, rfl, hall, hbe0⟩ := hrel
    obtain ⟨w2, rfl⟩ : ∃ w2 : World, w2 = wr := ⟨_, rfl⟩
    have HB := Lib.hid hbe0
    have HBW := Lib.hid (below_step HB3.out hbe0)
    have HBX := Lib.hid (HX3'.out.kept hbe0)
    clear hbe0
    by_cases hkl : k < x.Rows.length
    · obtain ⟨c, hc⟩ := HX2.out k hkl
      obtain ⟨m, hmk⟩ := HX3.out k (by omega)
      have HL := Lib.hid (HZ4.out k c hc)
      have HRK := Lib.hid (HRB.out k c m hc hmk)
      obtain ⟨g2, o2, xs2, G2, rfl, _, hr2', _, hc2⟩ := (HV.out.rows.kept HBW.out).get hc
      obtain ⟨v2, rfl, q2⟩ := rCandidate_rd hr2'
      obtain ⟨g3, o3, xs3, G3, rfl, _, hr3', _, hc3⟩ := (HV.out.marks.kept HBW.out).get hmk
      obtain ⟨v3, rfl, q3⟩ := id hr3'
      rw [rCandidate_size] at hc2
      rw [show (Rep.row Rep.int).size = 1 from rfl] at hc3
      have d2 := hc2 0 _ rfl
      have d3 := hc3 0 _ rfl
      simp only [Nat.add_zero, Nat.mul_one] at d2 d3
      obtain ⟨A2', cp2, rfl⟩ := q2.form
      obtain ⟨A3', cp3, rfl⟩ := q3.form
      have HWB : Hid (Below w2.heap.size w2 (w2.alloc (.cells #[.slice A2' c.Links.length cp2] 55))) := (Below.refl _ _).alloc (Nat.le_refl _) _
      have HIB : Hid (InC (w2.alloc (.cells #[.slice A2' c.Links.length cp2] 55)) w2.heap.size #[.slice A2' c.Links.length cp2] 55) := heap_alloc_new _ _
      have HW2 : Hid (∀ W : World, Below (w2.alloc (.cells #[.slice A2' c.Links.length cp2] 55)).heap.size (w2.alloc (.cells #[.slice A2' c.Links.length cp2] 55)) W → Below w2.heap.size w2 W) := fun W hW => below_step HWB.out hW
      have HC3 : Hid (∀ W : World, Below (w2.alloc (.cells #[.slice A2' c.Links.length cp2] 55)).heap.size (w2.alloc (.cells #[.slice A2' c.Links.length cp2] 55)) W → W.cell? ⟨g3, o3 + k, none⟩ = some (.slice A3' m.length cp3)) := fun W hW => cell_kept (HW2.out W hW) d3
      have HC4 : Hid (∀ W : World, Below (w2.alloc (.cells #[.slice A2' c.Links.length cp2] 55)).heap.size (w2.alloc (.cells #[.slice A2' c.Links.length cp2] 55)) W → W.cell? ⟨w2.heap.size, 0, none⟩ = some (.slice A2' c.Links.length cp2)) := fun W hW => (HIB.out.kept hW).cell 0 rfl
      have HW : Hid (∀ W : World, Below (w2.alloc (.cells #[.slice A2' c.Links.length cp2] 55)).heap.size (w2.alloc (.cells #[.slice A2' c.Links.length cp2] 55)) W → Below w.heap.size w W) := fun W hW => below_step HBW.out (HW2.out W hW)
      have HQ2 := Lib.hid q2
      have HQ3 := Lib.hid q3
      have HBD2 := Lib.hid (HBD.out k hkl)
      have hkm : (k : Int) < (x.Marks.length : Int) := by omega
      have hkr : (k : Int) < (x.Rows.length : Int) := by omega
      have HB0 : Hid (∀ W : World, Below (w2.alloc (.cells #[.slice A2' c.Links.length cp2] 55)).heap.size (w2.alloc (.cells #[.slice A2' c.Links.length cp2] 55)) W → W.cell? ⟨w.heap.size, 0, none⟩ = some (.string x.Input)) := fun W hW => (HBX.out.kept (HW2.out W hW)).cell 0 rfl
      have HB3' : Hid (∀ W : World, Below (w2.alloc (.cells #[.slice A2' c.Links.length cp2] 55)).heap.size (w2.alloc (.cells #[.slice A2' c.Links.length cp2] 55)) W → W.cell? ⟨w.heap.size, 3, none⟩ = some (.slice (some ⟨g3, o3, none⟩) x.Marks.length c3)) := fun W hW => (HBX.out.kept (HW2.out W hW)).cell 3 rfl
      have HIN : Hid (∀ W, Below (w2.alloc (.cells #[.slice A2' c.Links.length cp2] 55)).heap.size (w2.alloc (.cells #[.slice A2' c.Links.length cp2] 55)) W → Calls Tryz.prog 90 #[.agg #[.slice A2' c.Links.length cp2]] W fun e w' => e = .returned (.string (inT c.Links)) ∧ Below W.heap.size W w') := fun W hW => HSI.out c _ G2 W HL.out (HQ2.out.kept (HW2.out W hW))
      have HIC : Hid (∀ W, Below (w2.alloc (.cells #[.slice A2' c.Links.length cp2] 55)).heap.size (w2.alloc (.cells #[.slice A2' c.Links.length cp2] 55)) W → Calls Tryz.prog 80 #[.agg #[.slice A2' c.Links.length cp2]] W fun e w' => e = .returned (.bool (isCd c.Links)) ∧ Below W.heap.size W w') := fun W hW => HSC.out c _ G2 W HL.out (HQ2.out.kept (HW2.out W hW))
      have HPF : Hid (∀ W, Below (w2.alloc (.cells #[.slice A2' c.Links.length cp2] 55)).heap.size (w2.alloc (.cells #[.slice A2' c.Links.length cp2] 55)) W → Calls Tryz.prog 82 #[.slice A4 (ctrs x.Names).length c4, .agg #[.slice A2' c.Links.length cp2]] W (OwnPost Rep.int (cntsN (ctrs x.Names) c.Links) W)) := fun W hW => HPA.out A4 c4 _ c A2' cp2 G2 W HL.out (HW.out W hW) ((HR4.out.kept HB.out).kept (HW2.out W hW)) (HQ2.out.kept (HW2.out W hW))
      have HSE : Hid (∀ W (u : Value) (G : Addr → Prop), Below (w2.alloc (.cells #[.slice A2' c.Links.length cp2] 55)).heap.size (w2.alloc (.cells #[.slice A2' c.Links.length cp2] 55)) W → RowRd Rep.int false W u (cntsN (ctrs x.Names) c.Links) G → Calls Tryz.prog 91 #[.slice A3' m.length cp3, u] W fun e w' => e = .returned (.bool (decide (m = cntsN (ctrs x.Names) c.Links))) ∧ Below W.heap.size W w') := fun W u G hW hu => sliceEq_any _ u m _ G3 G W (HQ3.out.kept (HW2.out W hW)) hu
      have hne : ((inT c.Links).toList == x.Input.toList) = decide (inT c.Links = x.Input) := txt_eq _ _
      have HRO := Lib.hid HRK.out
      clear hc hmk hr2' hr3' hc2 hc3 d3 q2 q3 HRK HQ2 HQ3 HL HSI HSC HPA HZ4 HX2 HX3 HRB
      generalize hbi : decide (inT c.Links = x.Input) = bi at *
      generalize hbc : isCd c.Links = bc at *
      generalize hbm : decide (m = cntsN (ctrs x.Names) c.Links) = bm at *
      generalize ctrs x.Names = js at *
      clear hbi hbc hbm
      go_upto_region 9 with fail
      clear d2
      go_cut [67] (fun b wx => b = .bool (!rowAt x k) ∧ Below w2.heap.size w2 wx)
      case first =>
        refine wp_region_held_drew (S := fun w' => Below (w2.alloc (.cells #[.slice A2' c.Links.length cp2] 55)).heap.size (w2.alloc (.cells #[.slice A2' c.Links.length cp2] 55)) w') (by kernel_rfl) ((Below.refl _ _).drew) (fun hHeld => ?_)
        cases bc
        · refine' wpAnyH_take (i := 0) (oi := _) (v := ?v1) rfl ?hs1 ?hf1 ?hr1 ?hQ1 (Or.inl ⟨?hw1, ?hy1⟩) hHeld ?rest1
          case hs1 => kernel_rfl
          case hf1 => kernel_rfl
          case hr1 => kernel_rfl
          case hQ1 => exact fun _ _ _ h => h
          case hw1 => kernel_rfl
          case hy1 => (intro w' hw'; have c0 := HB0.out _ hw'; have c3' := HB3'.out _ hw'; have c4' := HC4.out _ hw'; have c5' := HC3.out _ hw'; go_simp; try with_reducible rfl)
          (try change wpAnyH _ _ _ _ _ _ _ (Act.put _ (some 46) _) _)
          try simp only [Act.put, List.setIfInBounds_toArray, List.set_cons_zero, List.set_cons_succ]
          refine wpAnyH_ready (rs := [1]) (by kernel_rfl) (by simp) ?_
          refine AllReadyH.cons rfl (fun K hK => ?_) AllReadyH.nil
          go_simp
          go_at_call 80; refine (HIC.out _ hHeld).mono ?_; rintro e wb ⟨rfl, hba⟩; have hbe := below_step hHeld hba; clear hba
          (try go_wp2_with fail)
          refine hK.out _ _ hbe (fun hHeld => ?_)
          clear hK K
          try simp only [Act.put, List.setIfInBounds_toArray, List.set_cons_zero, List.set_cons_succ]
          refine' wpAnyH_take (i := 2) (oi := _) (v := ?v2) rfl ?hs2 ?hf2 ?hr2 ?hQ2 (Or.inl ⟨?hw2, ?hy2⟩) hHeld ?rest2
          case hs2 => kernel_rfl
          case hf2 => kernel_rfl
          case hr2 => kernel_rfl
          case hQ2 => exact fun _ _ _ h => h
          case hw2 => kernel_rfl
          case hy2 => (intro w' hw'; go_simp; try with_reducible rfl)
          (try change wpAnyH _ _ _ _ _ _ _ (Act.put _ (some 48) _) _)
          try simp only [Act.put, List.setIfInBounds_toArray, List.set_cons_zero, List.set_cons_succ]
          refine' wpAnyH_take (i := 3) (oi := _) (v := ?v3) rfl ?hs3 ?hf3 ?hr3 ?hQ3 (Or.inl ⟨?hw3, ?hy3⟩) hHeld ?rest3
          case hs3 => kernel_rfl
          case hf3 => kernel_rfl
          case hr3 => kernel_rfl
          case hQ3 => exact fun _ _ _ h => h
          case hw3 => kernel_rfl
          case hy3 => (intro w' hw'; go_simp; try with_reducible rfl)
          (try change wpAnyH _ _ _ _ _ _ _ (Act.put _ (some 49) _) _)
          try simp only [Act.put, List.setIfInBounds_toArray, List.set_cons_zero, List.set_cons_succ]
          refine' wpAnyH_take (i := 4) (oi := _) (v := undef) rfl ?hs4 ?hf4 ?hr4 ?hQ4 (Or.inr ⟨?hw4, rfl⟩) hHeld ?rest4
          case hs4 => kernel_rfl
          case hf4 => kernel_rfl
          case hr4 => kernel_rfl
          case hQ4 => exact fun _ _ _ h => h
          case hw4 => kernel_rfl
          (try change wpAnyH _ _ _ _ _ _ _ (Act.put _ (some 50) _) _)
          try simp only [Act.put, List.setIfInBounds_toArray, List.set_cons_zero, List.set_cons_succ]
          refine' wpAnyH_take (i := 5) (oi := _) (v := undef) rfl ?hs5 ?hf5 ?hr5 ?hQ5 (Or.inr ⟨?hw5, rfl⟩) hHeld ?rest5
          case hs5 => kernel_rfl
          case hf5 => kernel_rfl
          case hr5 => kernel_rfl
          case hQ5 => exact fun _ _ _ h => h
          case hw5 => kernel_rfl
          (try change wpAnyH _ _ _ _ _ _ _ (Act.put _ (some 51) _) _)
          try simp only [Act.put, List.setIfInBounds_toArray, List.set_cons_zero, List.set_cons_succ]
          refine' wpAnyH_take (i := 6) (oi := _) (v := undef) rfl ?hs6 ?hf6 ?hr6 ?hQ6 (Or.inr ⟨?hw6, rfl⟩) hHeld ?rest6
          case hs6 => kernel_rfl
          case hf6 => kernel_rfl
          case hr6 => kernel_rfl
          case hQ6 => exact fun _ _ _ h => h
          case hw6 => kernel_rfl
          (try change wpAnyH _ _ _ _ _ _ _ (Act.put _ (some 52) _) _)
          try simp only [Act.put, List.setIfInBounds_toArray, List.set_cons_zero, List.set_cons_succ]
          refine' wpAnyH_take (i := 7) (oi := _) (v := undef) rfl ?hs7 ?hf7 ?hr7 ?hQ7 (Or.inr ⟨?hw7, rfl⟩) hHeld ?rest7
          case hs7 => kernel_rfl
          case hf7 => kernel_rfl
          case hr7 => kernel_rfl
          case hQ7 => exact fun _ _ _ h => h
          case hw7 => kernel_rfl
          (try change wpAnyH _ _ _ _ _ _ _ (Act.put _ (some 53) _) _)
          try simp only [Act.put, List.setIfInBounds_toArray, List.set_cons_zero, List.set_cons_succ]
          refine' wpAnyH_take (i := 8) (oi := _) (v := undef) rfl ?hs8 ?hf8 ?hr8 ?hQ8 (Or.inr ⟨?hw8, rfl⟩) hHeld ?rest8
          case hs8 => kernel_rfl
          case hf8 => kernel_rfl
          case hr8 => kernel_rfl
          case hQ8 => exact fun _ _ _ h => h
          case hw8 => kernel_rfl
          (try change wpAnyH _ _ _ _ _ _ _ (Act.put _ (some 54) _) _)
          try simp only [Act.put, List.setIfInBounds_toArray, List.set_cons_zero, List.set_cons_succ]
          refine' wpAnyH_take (i := 9) (oi := _) (v := ?v9) rfl ?hs9 ?hf9 ?hr9 ?hQ9 (Or.inl ⟨?hw9, ?hy9⟩) hHeld ?rest9
          case hs9 => kernel_rfl
          case hf9 => kernel_rfl
          case hr9 => kernel_rfl
          case hQ9 => exact fun _ _ _ h => h
          case hw9 => kernel_rfl
          case hy9 => (intro w' hw'; go_simp; try with_reducible rfl)
          (try change wpAnyH _ _ _ _ _ _ _ (Act.put _ (some 55) _) _)
          try simp only [Act.put, List.setIfInBounds_toArray, List.set_cons_zero, List.set_cons_succ]
          refine' wpAnyH_take (i := 10) (oi := _) (v := ?v10) rfl ?hs10 ?hf10 ?hr10 ?hQ10 (Or.inl ⟨?hw10, ?hy10⟩) hHeld ?rest10
          case hs10 => kernel_rfl
          case hf10 => kernel_rfl
          case hr10 => kernel_rfl
          case hQ10 => exact fun _ _ _ h => h
          case hw10 => kernel_rfl
          case hy10 => (intro w' hw'; go_simp; try with_reducible rfl)
          (try change wpAnyH _ _ _ _ _ _ _ (Act.put _ (some 56) _) _)
          try simp only [Act.put, List.setIfInBounds_toArray, List.set_cons_zero, List.set_cons_succ]
          refine' wpAnyH_take (i := 11) (oi := _) (v := undef) rfl ?hs11 ?hf11 ?hr11 ?hQ11 (Or.inr ⟨?hw11, rfl⟩) hHeld ?rest11
          case hs11 => kernel_rfl
          case hf11 => kernel_rfl
          case hr11 => kernel_rfl
          case hQ11 => exact fun _ _ _ h => h
          case hw11 => kernel_rfl
          (try change wpAnyH _ _ _ _ _ _ _ (Act.put _ (some 57) _) _)
          try simp only [Act.put, List.setIfInBounds_toArray, List.set_cons_zero, List.set_cons_succ]
          refine' wpAnyH_take (i := 12) (oi := _) (v := undef) rfl ?hs12 ?hf12 ?hr12 ?hQ12 (Or.inr ⟨?hw12, rfl⟩) hHeld ?rest12
          case hs12 => kernel_rfl
          case hf12 => kernel_rfl
          case hr12 => kernel_rfl
          case hQ12 => exact fun _ _ _ h => h
          case hw12 => kernel_rfl
          (try change wpAnyH _ _ _ _ _ _ _ (Act.put _ (some 58) _) _)
          try simp only [Act.put, List.setIfInBounds_toArray, List.set_cons_zero, List.set_cons_succ]
          refine' wpAnyH_take (i := 13) (oi := _) (v := undef) rfl ?hs13 ?hf13 ?hr13 ?hQ13 (Or.inr ⟨?hw13, rfl⟩) hHeld ?rest13
          case hs13 => kernel_rfl
          case hf13 => kernel_rfl
          case hr13 => kernel_rfl
          case hQ13 => exact fun _ _ _ h => h
          case hw13 => kernel_rfl
          (try change wpAnyH _ _ _ _ _ _ _ (Act.put _ (some 59) _) _)
          try simp only [Act.put, List.setIfInBounds_toArray, List.set_cons_zero, List.set_cons_succ]
          refine' wpAnyH_take (i := 14) (oi := _) (v := undef) rfl ?hs14 ?hf14 ?hr14 ?hQ14 (Or.inr ⟨?hw14, rfl⟩) hHeld ?rest14
          case hs14 => kernel_rfl
          case hf14 => kernel_rfl
          case hr14 => kernel_rfl
          case hQ14 => exact fun _ _ _ h => h
          case hw14 => kernel_rfl
          (try change wpAnyH _ _ _ _ _ _ _ (Act.put _ (some 60) _) _)
          try simp only [Act.put, List.setIfInBounds_toArray, List.set_cons_zero, List.set_cons_succ]
          refine' wpAnyH_take (i := 15) (oi := _) (v := undef) rfl ?hs15 ?hf15 ?hr15 ?hQ15 (Or.inr ⟨?hw15, rfl⟩) hHeld ?rest15
          case hs15 => kernel_rfl
          case hf15 => kernel_rfl
          case hr15 => kernel_rfl
          case hQ15 => exact fun _ _ _ h => h
          case hw15 => kernel_rfl
          (try change wpAnyH _ _ _ _ _ _ _ (Act.put _ (some 61) _) _)
          try simp only [Act.put, List.setIfInBounds_toArray, List.set_cons_zero, List.set_cons_succ]
          refine' wpAnyH_take (i := 16) (oi := _) (v := undef) rfl ?hs16 ?hf16 ?hr16 ?hQ16 (Or.inr ⟨?hw16, rfl⟩) hHeld ?rest16
          case hs16 => kernel_rfl
          case hf16 => kernel_rfl
          case hr16 => kernel_rfl
          case hQ16 => exact fun _ _ _ h => h
          case hw16 => kernel_rfl
          (try change wpAnyH _ _ _ _ _ _ _ (Act.put _ (some 62) _) _)
          try simp only [Act.put, List.setIfInBounds_toArray, List.set_cons_zero, List.set_cons_succ]
          refine' wpAnyH_take (i := 17) (oi := _) (v := undef) rfl ?hs17 ?hf17 ?hr17 ?hQ17 (Or.inr ⟨?hw17, rfl⟩) hHeld ?rest17
          case hs17 => kernel_rfl
          case hf17 => kernel_rfl
          case hr17 => kernel_rfl
          case hQ17 => exact fun _ _ _ h => h
          case hw17 => kernel_rfl
          (try change wpAnyH _ _ _ _ _ _ _ (Act.put _ (some 63) _) _)
          try simp only [Act.put, List.setIfInBounds_toArray, List.set_cons_zero, List.set_cons_succ]
          refine' wpAnyH_take (i := 18) (oi := _) (v := undef) rfl ?hs18 ?hf18 ?hr18 ?hQ18 (Or.inr ⟨?hw18, rfl⟩) hHeld ?rest18
          case hs18 => kernel_rfl
          case hf18 => kernel_rfl
          case hr18 => kernel_rfl
          case hQ18 => exact fun _ _ _ h => h
          case hw18 => kernel_rfl
          (try change wpAnyH _ _ _ _ _ _ _ (Act.put _ (some 64) _) _)
          try simp only [Act.put, List.setIfInBounds_toArray, List.set_cons_zero, List.set_cons_succ]
          refine' wpAnyH_take (i := 19) (oi := _) (v := undef) rfl ?hs19 ?hf19 ?hr19 ?hQ19 (Or.inr ⟨?hw19, rfl⟩) hHeld ?rest19
          case hs19 => kernel_rfl
          case hf19 => kernel_rfl
          case hr19 => kernel_rfl
          case hQ19 => exact fun _ _ _ h => h
          case hw19 => kernel_rfl
          (try change wpAnyH _ _ _ _ _ _ _ (Act.put _ (some 65) _) _)
          try simp only [Act.put, List.setIfInBounds_toArray, List.set_cons_zero, List.set_cons_succ]
          refine' wpAnyH_take (i := 20) (oi := _) (v := undef) rfl ?hs20 ?hf20 ?hr20 ?hQ20 (Or.inr ⟨?hw20, rfl⟩) hHeld ?rest20
          case hs20 => kernel_rfl
          case hf20 => kernel_rfl
          case hr20 => kernel_rfl
          case hQ20 => exact fun _ _ _ h => h
          case hw20 => kernel_rfl
          (try change wpAnyH _ _ _ _ _ _ _ (Act.put _ (some 66) _) _)
          try simp only [Act.put, List.setIfInBounds_toArray, List.set_cons_zero, List.set_cons_succ]
          refine' wpAnyH_take (i := 21) (oi := _) (v := ?v21) rfl ?hs21 ?hf21 ?hr21 ?hQ21 (Or.inl ⟨?hw21, ?hy21⟩) hHeld ?rest21
          case hs21 => kernel_rfl
          case hf21 => kernel_rfl
          case hr21 => kernel_rfl
          case hQ21 => exact fun _ _ _ h => h
          case hw21 => kernel_rfl
          case hy21 => (intro w' hw'; go_simp; try with_reducible rfl)
          (try change wpAnyH _ _ _ _ _ _ _ (Act.put _ (some 67) _) _)
          try simp only [Act.put, List.setIfInBounds_toArray, List.set_cons_zero, List.set_cons_succ]
          refine wpAnyH_done ?hdone22 ?hq22 _
          case hdone22 => kernel_rfl
          go_wp2_with fail
          go_meet
          exact ⟨by rw [HRO.out]; first | rfl | simp, HW2.out _ hHeld⟩
        · cases bi
          · refine' wpAnyH_take (i := 0) (oi := _) (v := ?v23) rfl ?hs23 ?hf23 ?hr23 ?hQ23 (Or.inl ⟨?hw23, ?hy23⟩) hHeld ?rest23
            case hs23 => kernel_rfl
            case hf23 => kernel_rfl
            case hr23 => kernel_rfl
            case hQ23 => exact fun _ _ _ h => h
            case hw23 => kernel_rfl
            case hy23 => (intro w' hw'; have c0 := HB0.out _ hw'; have c3' := HB3'.out _ hw'; have c4' := HC4.out _ hw'; have c5' := HC3.out _ hw'; go_simp; try with_reducible rfl)
            (try change wpAnyH _ _ _ _ _ _ _ (Act.put _ (some 46) _) _)
            try simp only [Act.put, List.setIfInBounds_toArray, List.set_cons_zero, List.set_cons_succ]
            refine wpAnyH_ready (rs := [1]) (by kernel_rfl) (by simp) ?_
            refine AllReadyH.cons rfl (fun K hK => ?_) AllReadyH.nil
            go_simp
            go_at_call 80; refine (HIC.out _ hHeld).mono ?_; rintro e wb ⟨rfl, hba⟩; have hbe := below_step hHeld hba; clear hba
            (try go_wp2_with fail)
            refine hK.out _ _ hbe (fun hHeld => ?_)
            clear hK K
            try simp only [Act.put, List.setIfInBounds_toArray, List.set_cons_zero, List.set_cons_succ]
            refine' wpAnyH_take (i := 2) (oi := _) (v := ?v24) rfl ?hs24 ?hf24 ?hr24 ?hQ24 (Or.inl ⟨?hw24, ?hy24⟩) hHeld ?rest24
            case hs24 => kernel_rfl
            case hf24 => kernel_rfl
            case hr24 => kernel_rfl
            case hQ24 => exact fun _ _ _ h => h
            case hw24 => kernel_rfl
            case hy24 => (intro w' hw'; go_simp; try with_reducible rfl)
            (try change wpAnyH _ _ _ _ _ _ _ (Act.put _ (some 48) _) _)
            try simp only [Act.put, List.setIfInBounds_toArray, List.set_cons_zero, List.set_cons_succ]
            refine' wpAnyH_take (i := 3) (oi := _) (v := ?v25) rfl ?hs25 ?hf25 ?hr25 ?hQ25 (Or.inl ⟨?hw25, ?hy25⟩) hHeld ?rest25
            case hs25 => kernel_rfl
            case hf25 => kernel_rfl
            case hr25 => kernel_rfl
            case hQ25 => exact fun _ _ _ h => h
            case hw25 => kernel_rfl
            case hy25 => (intro w' hw'; go_simp; try with_reducible rfl)
            (try change wpAnyH _ _ _ _ _ _ _ (Act.put _ (some 49) _) _)
            try simp only [Act.put, List.setIfInBounds_toArray, List.set_cons_zero, List.set_cons_succ]
            refine' wpAnyH_take (i := 4) (oi := _) (v := ?v26) rfl ?hs26 ?hf26 ?hr26 ?hQ26 (Or.inl ⟨?hw26, ?hy26⟩) hHeld ?rest26
            case hs26 => kernel_rfl
            case hf26 => kernel_rfl
            case hr26 => kernel_rfl
            case hQ26 => exact fun _ _ _ h => h
            case hw26 => kernel_rfl
            case hy26 => (intro w' hw'; have c0 := HB0.out _ hw'; have c3' := HB3'.out _ hw'; have c4' := HC4.out _ hw'; have c5' := HC3.out _ hw'; go_simp; try with_reducible rfl)
            (try change wpAnyH _ _ _ _ _ _ _ (Act.put _ (some 50) _) _)
            try simp only [Act.put, List.setIfInBounds_toArray, List.set_cons_zero, List.set_cons_succ]
            refine' wpAnyH_take (i := 6) (oi := _) (v := ?v27) rfl ?hs27 ?hf27 ?hr27 ?hQ27 (Or.inl ⟨?hw27, ?hy27⟩) hHeld ?rest27
            case hs27 => kernel_rfl
            case hf27 => kernel_rfl
            case hr27 => kernel_rfl
            case hQ27 => exact fun _ _ _ h => h
            case hw27 => kernel_rfl
            case hy27 => (intro w' hw'; go_simp; try with_reducible rfl)
            (try change wpAnyH _ _ _ _ _ _ _ (Act.put _ (some 52) _) _)
            try simp only [Act.put, List.setIfInBounds_toArray, List.set_cons_zero, List.set_cons_succ]
            refine' wpAnyH_take (i := 7) (oi := _) (v := ?v28) rfl ?hs28 ?hf28 ?hr28 ?hQ28 (Or.inl ⟨?hw28, ?hy28⟩) hHeld ?rest28
            case hs28 => kernel_rfl
            case hf28 => kernel_rfl
            case hr28 => kernel_rfl
            case hQ28 => exact fun _ _ _ h => h
            case hw28 => kernel_rfl
            case hy28 => (intro w' hw'; have c0 := HB0.out _ hw'; have c3' := HB3'.out _ hw'; have c4' := HC4.out _ hw'; have c5' := HC3.out _ hw'; go_simp; try with_reducible rfl)
            (try change wpAnyH _ _ _ _ _ _ _ (Act.put _ (some 53) _) _)
            try simp only [Act.put, List.setIfInBounds_toArray, List.set_cons_zero, List.set_cons_succ]
            refine wpAnyH_ready (rs := [5]) (by kernel_rfl) (by simp) ?_
            refine AllReadyH.cons rfl (fun K hK => ?_) AllReadyH.nil
            go_simp
            go_at_call 90; refine (HIN.out _ hHeld).mono ?_; rintro e wa ⟨rfl, hba⟩; have hbe := below_step hHeld hba; clear hba
            (try go_wp2_with fail)
            refine hK.out _ _ hbe (fun hHeld => ?_)
            clear hK K
            try simp only [Act.put, List.setIfInBounds_toArray, List.set_cons_zero, List.set_cons_succ]
            refine' wpAnyH_take (i := 8) (oi := _) (v := ?v29) rfl ?hs29 ?hf29 ?hr29 ?hQ29 (Or.inl ⟨?hw29, ?hy29⟩) hHeld ?rest29
            case hs29 => kernel_rfl
            case hf29 => kernel_rfl
            case hr29 => kernel_rfl
            case hQ29 => exact fun _ _ _ h => h
            case hw29 => kernel_rfl
            case hy29 => (intro w' hw'; go_simp; try with_reducible rfl)
            (try change wpAnyH _ _ _ _ _ _ _ (Act.put _ (some 54) _) _)
            try simp only [Act.put, List.setIfInBounds_toArray, List.set_cons_zero, List.set_cons_succ]
            refine' wpAnyH_take (i := 9) (oi := _) (v := ?v30) rfl ?hs30 ?hf30 ?hr30 ?hQ30 (Or.inl ⟨?hw30, ?hy30⟩) hHeld ?rest30
            case hs30 => kernel_rfl
            case hf30 => kernel_rfl
            case hr30 => kernel_rfl
            case hQ30 => exact fun _ _ _ h => h
            case hw30 => kernel_rfl
            case hy30 => (intro w' hw'; go_simp; try with_reducible rfl)
            (try change wpAnyH _ _ _ _ _ _ _ (Act.put _ (some 55) _) _)
            try simp only [Act.put, List.setIfInBounds_toArray, List.set_cons_zero, List.set_cons_succ]
            refine' wpAnyH_take (i := 10) (oi := _) (v := ?v31) rfl ?hs31 ?hf31 ?hr31 ?hQ31 (Or.inl ⟨?hw31, ?hy31⟩) hHeld ?rest31
            case hs31 => kernel_rfl
            case hf31 => kernel_rfl
            case hr31 => kernel_rfl
            case hQ31 => exact fun _ _ _ h => h
            case hw31 => kernel_rfl
            case hy31 => (intro w' hw'; go_simp; try with_reducible rfl)
            (try change wpAnyH _ _ _ _ _ _ _ (Act.put _ (some 56) _) _)
            try simp only [Act.put, List.setIfInBounds_toArray, List.set_cons_zero, List.set_cons_succ]
            refine' wpAnyH_take (i := 11) (oi := _) (v := undef) rfl ?hs32 ?hf32 ?hr32 ?hQ32 (Or.inr ⟨?hw32, rfl⟩) hHeld ?rest32
            case hs32 => kernel_rfl
            case hf32 => kernel_rfl
            case hr32 => kernel_rfl
            case hQ32 => exact fun _ _ _ h => h
            case hw32 => kernel_rfl
            (try change wpAnyH _ _ _ _ _ _ _ (Act.put _ (some 57) _) _)
            try simp only [Act.put, List.setIfInBounds_toArray, List.set_cons_zero, List.set_cons_succ]
            refine' wpAnyH_take (i := 12) (oi := _) (v := undef) rfl ?hs33 ?hf33 ?hr33 ?hQ33 (Or.inr ⟨?hw33, rfl⟩) hHeld ?rest33
            case hs33 => kernel_rfl
            case hf33 => kernel_rfl
            case hr33 => kernel_rfl
            case hQ33 => exact fun _ _ _ h => h
            case hw33 => kernel_rfl
            (try change wpAnyH _ _ _ _ _ _ _ (Act.put _ (some 58) _) _)
            try simp only [Act.put, List.setIfInBounds_toArray, List.set_cons_zero, List.set_cons_succ]
            refine' wpAnyH_take (i := 13) (oi := _) (v := undef) rfl ?hs34 ?hf34 ?hr34 ?hQ34 (Or.inr ⟨?hw34, rfl⟩) hHeld ?rest34
            case hs34 => kernel_rfl
            case hf34 => kernel_rfl
            case hr34 => kernel_rfl
            case hQ34 => exact fun _ _ _ h => h
            case hw34 => kernel_rfl
            (try change wpAnyH _ _ _ _ _ _ _ (Act.put _ (some 59) _) _)
            try simp only [Act.put, List.setIfInBounds_toArray, List.set_cons_zero, List.set_cons_succ]
            refine' wpAnyH_take (i := 14) (oi := _) (v := undef) rfl ?hs35 ?hf35 ?hr35 ?hQ35 (Or.inr ⟨?hw35, rfl⟩) hHeld ?rest35
            case hs35 => kernel_rfl
            case hf35 => kernel_rfl
            case hr35 => kernel_rfl
            case hQ35 => exact fun _ _ _ h => h
            case hw35 => kernel_rfl
            (try change wpAnyH _ _ _ _ _ _ _ (Act.put _ (some 60) _) _)
            try simp only [Act.put, List.setIfInBounds_toArray, List.set_cons_zero, List.set_cons_succ]
            refine' wpAnyH_take (i := 15) (oi := _) (v := undef) rfl ?hs36 ?hf36 ?hr36 ?hQ36 (Or.inr ⟨?hw36, rfl⟩) hHeld ?rest36
            case hs36 => kernel_rfl
            case hf36 => kernel_rfl
            case hr36 => kernel_rfl
            case hQ36 => exact fun _ _ _ h => h
            case hw36 => kernel_rfl
            (try change wpAnyH _ _ _ _ _ _ _ (Act.put _ (some 61) _) _)
            try simp only [Act.put, List.setIfInBounds_toArray, List.set_cons_zero, List.set_cons_succ]
            refine' wpAnyH_take (i := 16) (oi := _) (v := undef) rfl ?hs37 ?hf37 ?hr37 ?hQ37 (Or.inr ⟨?hw37, rfl⟩) hHeld ?rest37
            case hs37 => kernel_rfl
            case hf37 => kernel_rfl
            case hr37 => kernel_rfl
            case hQ37 => exact fun _ _ _ h => h
            case hw37 => kernel_rfl
            (try change wpAnyH _ _ _ _ _ _ _ (Act.put _ (some 62) _) _)
            try simp only [Act.put, List.setIfInBounds_toArray, List.set_cons_zero, List.set_cons_succ]
            refine' wpAnyH_take (i := 17) (oi := _) (v := undef) rfl ?hs38 ?hf38 ?hr38 ?hQ38 (Or.inr ⟨?hw38, rfl⟩) hHeld ?rest38
            case hs38 => kernel_rfl
            case hf38 => kernel_rfl
            case hr38 => kernel_rfl
            case hQ38 => exact fun _ _ _ h => h
            case hw38 => kernel_rfl
            (try change wpAnyH _ _ _ _ _ _ _ (Act.put _ (some 63) _) _)
            try simp only [Act.put, List.setIfInBounds_toArray, List.set_cons_zero, List.set_cons_succ]
            refine' wpAnyH_take (i := 18) (oi := _) (v := undef) rfl ?hs39 ?hf39 ?hr39 ?hQ39 (Or.inr ⟨?hw39, rfl⟩) hHeld ?rest39
            case hs39 => kernel_rfl
            case hf39 => kernel_rfl
            case hr39 => kernel_rfl
            case hQ39 => exact fun _ _ _ h => h
            case hw39 => kernel_rfl
            (try change wpAnyH _ _ _ _ _ _ _ (Act.put _ (some 64) _) _)
            try simp only [Act.put, List.setIfInBounds_toArray, List.set_cons_zero, List.set_cons_succ]
            refine' wpAnyH_take (i := 19) (oi := _) (v := undef) rfl ?hs40 ?hf40 ?hr40 ?hQ40 (Or.inr ⟨?hw40, rfl⟩) hHeld ?rest40
            case hs40 => kernel_rfl
            case hf40 => kernel_rfl
            case hr40 => kernel_rfl
            case hQ40 => exact fun _ _ _ h => h
            case hw40 => kernel_rfl
            (try change wpAnyH _ _ _ _ _ _ _ (Act.put _ (some 65) _) _)
            try simp only [Act.put, List.setIfInBounds_toArray, List.set_cons_zero, List.set_cons_succ]
            refine' wpAnyH_take (i := 20) (oi := _) (v := undef) rfl ?hs41 ?hf41 ?hr41 ?hQ41 (Or.inr ⟨?hw41, rfl⟩) hHeld ?rest41
            case hs41 => kernel_rfl
            case hf41 => kernel_rfl
            case hr41 => kernel_rfl
            case hQ41 => exact fun _ _ _ h => h
            case hw41 => kernel_rfl
            (try change wpAnyH _ _ _ _ _ _ _ (Act.put _ (some 66) _) _)
            try simp only [Act.put, List.setIfInBounds_toArray, List.set_cons_zero, List.set_cons_succ]
            refine' wpAnyH_take (i := 21) (oi := _) (v := ?v42) rfl ?hs42 ?hf42 ?hr42 ?hQ42 (Or.inl ⟨?hw42, ?hy42⟩) hHeld ?rest42
            case hs42 => kernel_rfl
            case hf42 => kernel_rfl
            case hr42 => kernel_rfl
            case hQ42 => exact fun _ _ _ h => h
            case hw42 => kernel_rfl
            case hy42 => (intro w' hw'; go_simp; try with_reducible rfl)
            (try change wpAnyH _ _ _ _ _ _ _ (Act.put _ (some 67) _) _)
            try simp only [Act.put, List.setIfInBounds_toArray, List.set_cons_zero, List.set_cons_succ]
            refine wpAnyH_done ?hdone43 ?hq43 _
            case hdone43 => kernel_rfl
            go_wp2_with fail
            go_meet
            exact ⟨by rw [HRO.out]; first | rfl | simp, HW2.out _ hHeld⟩
          · refine' wpAnyH_take (i := 0) (oi := _) (v := ?v44) rfl ?hs44 ?hf44 ?hr44 ?hQ44 (Or.inl ⟨?hw44, ?hy44⟩) hHeld ?rest44
            case hs44 => kernel_rfl
            case hf44 => kernel_rfl
            case hr44 => kernel_rfl
            case hQ44 => exact fun _ _ _ h => h
            case hw44 => kernel_rfl
            case hy44 => (intro w' hw'; have c0 := HB0.out _ hw'; have c3' := HB3'.out _ hw'; have c4' := HC4.out _ hw'; have c5' := HC3.out _ hw'; go_simp; try with_reducible rfl)
            (try change wpAnyH _ _ _ _ _ _ _ (Act.put _ (some 46) _) _)
            try simp only [Act.put, List.setIfInBounds_toArray, List.set_cons_zero, List.set_cons_succ]
            refine wpAnyH_ready (rs := [1]) (by kernel_rfl) (by simp) ?_
            refine AllReadyH.cons rfl (fun K hK => ?_) AllReadyH.nil
            go_simp
            go_at_call 80; refine (HIC.out _ hHeld).mono ?_; rintro e wb ⟨rfl, hba⟩; have hbe := below_step hHeld hba; clear hba
            (try go_wp2_with fail)
            refine hK.out _ _ hbe (fun hHeld => ?_)
            clear hK K
            try simp only [Act.put, List.setIfInBounds_toArray, List.set_cons_zero, List.set_cons_succ]
            refine' wpAnyH_take (i := 2) (oi := _) (v := ?v45) rfl ?hs45 ?hf45 ?hr45 ?hQ45 (Or.inl ⟨?hw45, ?hy45⟩) hHeld ?rest45
            case hs45 => kernel_rfl
            case hf45 => kernel_rfl
            case hr45 => kernel_rfl
            case hQ45 => exact fun _ _ _ h => h
            case hw45 => kernel_rfl
            case hy45 => (intro w' hw'; go_simp; try with_reducible rfl)
            (try change wpAnyH _ _ _ _ _ _ _ (Act.put _ (some 48) _) _)
            try simp only [Act.put, List.setIfInBounds_toArray, List.set_cons_zero, List.set_cons_succ]
            refine' wpAnyH_take (i := 3) (oi := _) (v := ?v46) rfl ?hs46 ?hf46 ?hr46 ?hQ46 (Or.inl ⟨?hw46, ?hy46⟩) hHeld ?rest46
            case hs46 => kernel_rfl
            case hf46 => kernel_rfl
            case hr46 => kernel_rfl
            case hQ46 => exact fun _ _ _ h => h
            case hw46 => kernel_rfl
            case hy46 => (intro w' hw'; go_simp; try with_reducible rfl)
            (try change wpAnyH _ _ _ _ _ _ _ (Act.put _ (some 49) _) _)
            try simp only [Act.put, List.setIfInBounds_toArray, List.set_cons_zero, List.set_cons_succ]
            refine' wpAnyH_take (i := 4) (oi := _) (v := ?v47) rfl ?hs47 ?hf47 ?hr47 ?hQ47 (Or.inl ⟨?hw47, ?hy47⟩) hHeld ?rest47
            case hs47 => kernel_rfl
            case hf47 => kernel_rfl
            case hr47 => kernel_rfl
            case hQ47 => exact fun _ _ _ h => h
            case hw47 => kernel_rfl
            case hy47 => (intro w' hw'; have c0 := HB0.out _ hw'; have c3' := HB3'.out _ hw'; have c4' := HC4.out _ hw'; have c5' := HC3.out _ hw'; go_simp; try with_reducible rfl)
            (try change wpAnyH _ _ _ _ _ _ _ (Act.put _ (some 50) _) _)
            try simp only [Act.put, List.setIfInBounds_toArray, List.set_cons_zero, List.set_cons_succ]
            refine' wpAnyH_take (i := 6) (oi := _) (v := ?v48) rfl ?hs48 ?hf48 ?hr48 ?hQ48 (Or.inl ⟨?hw48, ?hy48⟩) hHeld ?rest48
            case hs48 => kernel_rfl
            case hf48 => kernel_rfl
            case hr48 => kernel_rfl
            case hQ48 => exact fun _ _ _ h => h
            case hw48 => kernel_rfl
            case hy48 => (intro w' hw'; go_simp; try with_reducible rfl)
            (try change wpAnyH _ _ _ _ _ _ _ (Act.put _ (some 52) _) _)
            try simp only [Act.put, List.setIfInBounds_toArray, List.set_cons_zero, List.set_cons_succ]
            refine' wpAnyH_take (i := 7) (oi := _) (v := ?v49) rfl ?hs49 ?hf49 ?hr49 ?hQ49 (Or.inl ⟨?hw49, ?hy49⟩) hHeld ?rest49
            case hs49 => kernel_rfl
            case hf49 => kernel_rfl
            case hr49 => kernel_rfl
            case hQ49 => exact fun _ _ _ h => h
            case hw49 => kernel_rfl
            case hy49 => (intro w' hw'; have c0 := HB0.out _ hw'; have c3' := HB3'.out _ hw'; have c4' := HC4.out _ hw'; have c5' := HC3.out _ hw'; go_simp; try with_reducible rfl)
            (try change wpAnyH _ _ _ _ _ _ _ (Act.put _ (some 53) _) _)
            try simp only [Act.put, List.setIfInBounds_toArray, List.set_cons_zero, List.set_cons_succ]
            refine wpAnyH_ready (rs := [5]) (by kernel_rfl) (by simp) ?_
            refine AllReadyH.cons rfl (fun K hK => ?_) AllReadyH.nil
            go_simp
            go_at_call 90; refine (HIN.out _ hHeld).mono ?_; rintro e wa ⟨rfl, hba⟩; have hbe := below_step hHeld hba; clear hba
            (try go_wp2_with fail)
            refine hK.out _ _ hbe (fun hHeld => ?_)
            clear hK K
            try simp only [Act.put, List.setIfInBounds_toArray, List.set_cons_zero, List.set_cons_succ]
            refine' wpAnyH_take (i := 8) (oi := _) (v := ?v50) rfl ?hs50 ?hf50 ?hr50 ?hQ50 (Or.inl ⟨?hw50, ?hy50⟩) hHeld ?rest50
            case hs50 => kernel_rfl
            case hf50 => kernel_rfl
            case hr50 => kernel_rfl
            case hQ50 => exact fun _ _ _ h => h
            case hw50 => kernel_rfl
            case hy50 => (intro w' hw'; go_simp; try with_reducible rfl)
            (try change wpAnyH _ _ _ _ _ _ _ (Act.put _ (some 54) _) _)
            try simp only [Act.put, List.setIfInBounds_toArray, List.set_cons_zero, List.set_cons_succ]
            refine' wpAnyH_take (i := 9) (oi := _) (v := ?v51) rfl ?hs51 ?hf51 ?hr51 ?hQ51 (Or.inl ⟨?hw51, ?hy51⟩) hHeld ?rest51
            case hs51 => kernel_rfl
            case hf51 => kernel_rfl
            case hr51 => kernel_rfl
            case hQ51 => exact fun _ _ _ h => h
            case hw51 => kernel_rfl
            case hy51 => (intro w' hw'; go_simp; try with_reducible rfl)
            (try change wpAnyH _ _ _ _ _ _ _ (Act.put _ (some 55) _) _)
            try simp only [Act.put, List.setIfInBounds_toArray, List.set_cons_zero, List.set_cons_succ]
            refine' wpAnyH_take (i := 10) (oi := _) (v := ?v52) rfl ?hs52 ?hf52 ?hr52 ?hQ52 (Or.inl ⟨?hw52, ?hy52⟩) hHeld ?rest52
            case hs52 => kernel_rfl
            case hf52 => kernel_rfl
            case hr52 => kernel_rfl
            case hQ52 => exact fun _ _ _ h => h
            case hw52 => kernel_rfl
            case hy52 => (intro w' hw'; go_simp; try with_reducible rfl)
            (try change wpAnyH _ _ _ _ _ _ _ (Act.put _ (some 56) _) _)
            try simp only [Act.put, List.setIfInBounds_toArray, List.set_cons_zero, List.set_cons_succ]
            refine' wpAnyH_take (i := 11) (oi := _) (v := ?v53) rfl ?hs53 ?hf53 ?hr53 ?hQ53 (Or.inl ⟨?hw53, ?hy53⟩) hHeld ?rest53
            case hs53 => kernel_rfl
            case hf53 => kernel_rfl
            case hr53 => kernel_rfl
            case hQ53 => exact fun _ _ _ h => h
            case hw53 => kernel_rfl
            case hy53 => (intro w' hw'; go_simp; try with_reducible rfl)
            (try change wpAnyH _ _ _ _ _ _ _ (Act.put _ (some 57) _) _)
            try simp only [Act.put, List.setIfInBounds_toArray, List.set_cons_zero, List.set_cons_succ]
            refine' wpAnyH_take (i := 12) (oi := _) (v := ?v54) rfl ?hs54 ?hf54 ?hr54 ?hQ54 (Or.inl ⟨?hw54, ?hy54⟩) hHeld ?rest54
            case hs54 => kernel_rfl
            case hf54 => kernel_rfl
            case hr54 => kernel_rfl
            case hQ54 => exact fun _ _ _ h => h
            case hw54 => kernel_rfl
            case hy54 => (intro w' hw'; have c0 := HB0.out _ hw'; have c3' := HB3'.out _ hw'; have c4' := HC4.out _ hw'; have c5' := HC3.out _ hw'; go_simp; try with_reducible rfl)
            (try change wpAnyH _ _ _ _ _ _ _ (Act.put _ (some 58) _) _)
            try simp only [Act.put, List.setIfInBounds_toArray, List.set_cons_zero, List.set_cons_succ]
            refine' wpAnyH_take (i := 13) (oi := _) (v := ?v55) rfl ?hs55 ?hf55 ?hr55 ?hQ55 (Or.inl ⟨?hw55, ?hy55⟩) hHeld ?rest55
            case hs55 => kernel_rfl
            case hf55 => kernel_rfl
            case hr55 => kernel_rfl
            case hQ55 => exact fun _ _ _ h => h
            case hw55 => kernel_rfl
            case hy55 => (intro w' hw'; go_simp; try with_reducible rfl)
            (try change wpAnyH _ _ _ _ _ _ _ (Act.put _ (some 59) _) _)
            try simp only [Act.put, List.setIfInBounds_toArray, List.set_cons_zero, List.set_cons_succ]
            refine' wpAnyH_take (i := 14) (oi := _) (v := ?v56) rfl ?hs56 ?hf56 ?hr56 ?hQ56 (Or.inl ⟨?hw56, ?hy56⟩) hHeld ?rest56
            case hs56 => kernel_rfl
            case hf56 => kernel_rfl
            case hr56 => kernel_rfl
            case hQ56 => exact fun _ _ _ h => h
            case hw56 => kernel_rfl
            case hy56 => (intro w' hw'; go_simp; try with_reducible rfl)
            (try change wpAnyH _ _ _ _ _ _ _ (Act.put _ (some 60) _) _)
            try simp only [Act.put, List.setIfInBounds_toArray, List.set_cons_zero, List.set_cons_succ]
            refine' wpAnyH_take (i := 15) (oi := _) (v := ?v57) rfl ?hs57 ?hf57 ?hr57 ?hQ57 (Or.inl ⟨?hw57, ?hy57⟩) hHeld ?rest57
            case hs57 => kernel_rfl
            case hf57 => kernel_rfl
            case hr57 => kernel_rfl
            case hQ57 => exact fun _ _ _ h => h
            case hw57 => kernel_rfl
            case hy57 => (intro w' hw'; have c0 := HB0.out _ hw'; have c3' := HB3'.out _ hw'; have c4' := HC4.out _ hw'; have c5' := HC3.out _ hw'; go_simp; try with_reducible rfl)
            (try change wpAnyH _ _ _ _ _ _ _ (Act.put _ (some 61) _) _)
            try simp only [Act.put, List.setIfInBounds_toArray, List.set_cons_zero, List.set_cons_succ]
            refine' wpAnyH_take (i := 16) (oi := _) (v := ?v58) rfl ?hs58 ?hf58 ?hr58 ?hQ58 (Or.inl ⟨?hw58, ?hy58⟩) hHeld ?rest58
            case hs58 => kernel_rfl
            case hf58 => kernel_rfl
            case hr58 => kernel_rfl
            case hQ58 => exact fun _ _ _ h => h
            case hw58 => kernel_rfl
            case hy58 => (intro w' hw'; go_simp; try with_reducible rfl)
            (try change wpAnyH _ _ _ _ _ _ _ (Act.put _ (some 62) _) _)
            try simp only [Act.put, List.setIfInBounds_toArray, List.set_cons_zero, List.set_cons_succ]
            refine' wpAnyH_take (i := 17) (oi := _) (v := ?v59) rfl ?hs59 ?hf59 ?hr59 ?hQ59 (Or.inl ⟨?hw59, ?hy59⟩) hHeld ?rest59
            case hs59 => kernel_rfl
            case hf59 => kernel_rfl
            case hr59 => kernel_rfl
            case hQ59 => exact fun _ _ _ h => h
            case hw59 => kernel_rfl
            case hy59 => (intro w' hw'; have c0 := HB0.out _ hw'; have c3' := HB3'.out _ hw'; have c4' := HC4.out _ hw'; have c5' := HC3.out _ hw'; go_simp; try with_reducible rfl)
            (try change wpAnyH _ _ _ _ _ _ _ (Act.put _ (some 63) _) _)
            try simp only [Act.put, List.setIfInBounds_toArray, List.set_cons_zero, List.set_cons_succ]
            refine wpAnyH_ready (rs := [18]) (by kernel_rfl) (by simp) ?_
            refine AllReadyH.cons rfl (fun K hK => ?_) AllReadyH.nil
            go_simp
            go_at_call 82; refine (HPF.out _ hHeld).mono ?_; rintro e wc ⟨uc, rfl, hrc, hba⟩; obtain ⟨Ac, cc, rfl⟩ := hrc.form; have HRC := Lib.hid hrc.weak; have hbe := below_step hHeld hba; clear hba hrc
            (try go_wp2_with fail)
            refine hK.out _ _ hbe (fun hHeld => ?_)
            clear hK K
            try simp only [Act.put, List.setIfInBounds_toArray, List.set_cons_zero, List.set_cons_succ]
            refine wpAnyH_ready (rs := [19]) (by kernel_rfl) (by simp) ?_
            refine AllReadyH.cons rfl (fun K hK => ?_) AllReadyH.nil
            go_simp
            go_at_call 91; refine (HSE.out _ _ _ hHeld HRC.out).mono ?_; rintro e wd ⟨rfl, hba⟩; have hbe := below_step hHeld hba; clear hba
            (try go_wp2_with fail)
            refine hK.out _ _ hbe (fun hHeld => ?_)
            clear hK K
            try simp only [Act.put, List.setIfInBounds_toArray, List.set_cons_zero, List.set_cons_succ]
            refine' wpAnyH_take (i := 20) (oi := _) (v := ?v60) rfl ?hs60 ?hf60 ?hr60 ?hQ60 (Or.inl ⟨?hw60, ?hy60⟩) hHeld ?rest60
            case hs60 => kernel_rfl
            case hf60 => kernel_rfl
            case hr60 => kernel_rfl
            case hQ60 => exact fun _ _ _ h => h
            case hw60 => kernel_rfl
            case hy60 => (intro w' hw'; go_simp; try with_reducible rfl)
            (try change wpAnyH _ _ _ _ _ _ _ (Act.put _ (some 66) _) _)
            try simp only [Act.put, List.setIfInBounds_toArray, List.set_cons_zero, List.set_cons_succ]
            refine' wpAnyH_take (i := 21) (oi := _) (v := ?v61) rfl ?hs61 ?hf61 ?hr61 ?hQ61 (Or.inl ⟨?hw61, ?hy61⟩) hHeld ?rest61
            case hs61 => kernel_rfl
            case hf61 => kernel_rfl
            case hr61 => kernel_rfl
            case hQ61 => exact fun _ _ _ h => h
            case hw61 => kernel_rfl
            case hy61 => (intro w' hw'; go_simp; try with_reducible rfl)
            (try change wpAnyH _ _ _ _ _ _ _ (Act.put _ (some 67) _) _)
            try simp only [Act.put, List.setIfInBounds_toArray, List.set_cons_zero, List.set_cons_succ]
            refine wpAnyH_done ?hdone62 ?hq62 _
            case hdone62 => kernel_rfl
            go_wp2_with fail
            go_meet
            exact ⟨by rw [HRO.out]; first | rfl | simp, HW2.out _ hHeld⟩
      case rest =>
        obtain ⟨rfl, hbw⟩ := hcut
        have HBR := Lib.hid hbw
        clear hbw
        cases hrk : rowAt x k with
        | false =>
          have HN := Lib.hid (HBD2.out hrk)
          go_wp2_with fail
          go_ret
          exact ⟨ret_bool HN.out.symm, below_step HBW.out HBR.out⟩
        | true =>
          have HAL : Hid (∀ j, j < k + 1 → rowAt x j = true) := fun j hj => by
            by_cases e : j = k
            · subst e; exact hrk
            · exact hall.out j (by omega)
          go_wp2
          go_roundw
          case rel => exact ⟨k + 1, by omega, by go_num, HAL.out, below_step HB.out HBR.out⟩
          case measure => simp [intOf]; omega
    · obtain rfl : k = x.Rows.length := by omega
      have HN := Lib.hid (HGD.out HHT.out hall.out)
      go_wp2
      go_ret
      exact ⟨ret_bool HN.out.symm, HBW.out⟩
end Go.Proofs.YtkaihnlknncfdaaGreatDoor

/- The laws' szStringS. -/
namespace Go.Proofs.YtkaihnlknncfdaaGreatDoor
set_option maxRecDepth 100000
open Go.RowKit Go.Sort M
set_option linter.unusedVariables false
set_option linter.unusedSimpArgs false

def szTo (l : List ByteArray) (k : Nat) : Nat := l.length + ((l.take k).map (·.size)).sum
theorem szTo_zero (l : List ByteArray) : szTo l 0 = l.length := by simp [szTo]
theorem szTo_step {l : List ByteArray} {k : Nat} {x : ByteArray} (h : l[k]? = some x) : szTo l (k + 1) = szTo l k + x.size := by
  unfold szTo
  rw [List.take_add_one, h]
  simp
  omega
theorem szTo_all (l : List ByteArray) : szTo l l.length = szRow (Rep.str mkT) l := by
  unfold szTo szRow
  rw [List.take_length]
  rfl
set_option maxHeartbeats 1000000 in
theorem szStringS_any (v : Value) (l : List ByteArray) (left : Int) (F : Addr → Prop) (w : World) (h0 : 0 ≤ left) (h1 : left ≤ 1048576) (hv : RowRd (Rep.str mkT) false w v l F) :
    Calls Tryz.prog 32 #[v, .int .i64 left] w fun e w' => (∃ z : Int, e = .returned (.int .i64 z) ∧ (z < 0 ∨ z + (szRow (Rep.str mkT) l : Nat) = left ∧ 0 ≤ z)) ∧ Below w.heap.size w w' := by
  have hmx := hv.max
  obtain ⟨A, cap, rfl⟩ := hv.form
  have HV := Lib.hid hv
  clear hv
  have HX : Hid (∀ k, k < l.length → ∃ y, l[k]? = some y) := fun k hk => ⟨_, List.getElem?_eq_getElem hk⟩
  have HS : Hid (szTo l l.length = szRow (Rep.str mkT) l) := szTo_all l
  have H0 : Hid (szTo l 0 = l.length) := szTo_zero l
  have HST : Hid (∀ k x, l[k]? = some x → szTo l (k + 1) = szTo l k + x.size) := fun k x h => szTo_step h
  go_enter Tryz.func32, Tryz.ntmps32
  by_cases h : left - (l.length : Int) < 0
  · go_wp2
    go_ret
    exact ⟨⟨-1, rfl, Or.inl (by omega)⟩, Below.refl _ _⟩
  · go_wp2
    go_loop [1, 5] (fun q i => ∃ (k : Nat) (z : Int), k ≤ l.length ∧ i = .int .i64 k ∧ q = .int .i64 z ∧ 0 ≤ z ∧ z ≤ 1048576 ∧ Hid (z + (szTo l k : Nat) = left)) (fun _ i => l.length - (intOf i).toNat)
    case atStart => exact ⟨0, _, by omega, rfl, rfl, by omega, by omega, by unfold Hid; rw [H0.out]; omega⟩
    case round =>
      obtain ⟨k, z, hk, rfl, rfl, hz0, hz1, hs⟩ := hrel
      by_cases hkl : k < l.length
      · obtain ⟨y, hy⟩ := HX.out k hkl
        have HSY := Lib.hid (HST.out k y hy)
        obtain ⟨g, off, xs, Fk, rfl, _, hra, _, hca⟩ := HV.out.get hy
        obtain ⟨rfl, hys⟩ := hra
        rw [show (Rep.str mkT).size = 1 from rfl] at hca
        have c0 := hca 0 _ rfl
        simp only [Nat.add_zero, Nat.mul_one] at c0
        clear hca hy
        by_cases hneg : z - (y.size : Int) < 0
        · go_wp2
          go_ret
          exact ⟨⟨-1, rfl, Or.inl (by omega)⟩, Below.refl _ _⟩
        · go_wp2
          go_round
          case rel => exact ⟨k + 1, z - (y.size : Int), by omega, by first | rfl | go_num, by first | rfl | go_num, by omega, by omega, by unfold Hid; rw [HSY.out]; have := hs.out; omega⟩
          case measure => simp [intOf]; omega
      · obtain rfl : k = l.length := by omega
        go_wp2
        go_ret
        exact ⟨⟨z, rfl, Or.inr ⟨by rw [← HS.out]; exact hs.out, hz0⟩⟩, Below.refl _ _⟩
end Go.Proofs.YtkaihnlknncfdaaGreatDoor

/- Sizes of rows, element by element. -/
namespace Go.Proofs.YtkaihnlknncfdaaGreatDoor
set_option maxRecDepth 100000
open Go.RowKit
set_option linter.unusedVariables false
set_option linter.unusedSimpArgs false

def szToE {α : Type} (E : Rep α) (l : List α) (k : Nat) : Nat := l.length + ((l.take k).map E.sz).sum
theorem szToE_zero {α : Type} (E : Rep α) (l : List α) : szToE E l 0 = l.length := by simp [szToE]
theorem szToE_step {α : Type} (E : Rep α) {l : List α} {k : Nat} {x : α} (h : l[k]? = some x) : szToE E l (k + 1) = szToE E l k + E.sz x := by
  unfold szToE
  rw [List.take_add_one, h]
  simp
  omega
theorem szToE_all {α : Type} (E : Rep α) (l : List α) : szToE E l l.length = szRow E l := by
  unfold szToE szRow
  rw [List.take_length]
end Go.Proofs.YtkaihnlknncfdaaGreatDoor

/- The laws' szLinkS. -/
namespace Go.Proofs.YtkaihnlknncfdaaGreatDoor
set_option maxRecDepth 100000
open Go.RowKit Go.Sort
set_option linter.unusedVariables false
set_option linter.unusedSimpArgs false

theorem szLinkS_any (v : Value) (l : List DLink) (left : Int) (F : Addr → Prop) (w : World) (h0 : 0 ≤ left) (h1 : left ≤ 1048576) (hv : RowRd rLink false w v l F) :
    Calls Tryz.prog 74 #[v, .int .i64 left] w fun e w' => (∃ z : Int, e = .returned (.int .i64 z) ∧ (z < 0 ∨ z + (szRow rLink l : Nat) = left ∧ 0 ≤ z)) ∧ Below w.heap.size w w' := by
  have HS : Hid (szRow rLink l = l.length) := szRow_flat _ (fun _ => rfl) l
  have hmx := hv.max
  obtain ⟨A, cap, rfl⟩ := hv.form
  clear hv
  generalize l.length = n at *
  go_enter Tryz.func74, Tryz.ntmps74
  by_cases h : left - (n : Int) < 0
  · go_wp2
    go_ret
    exact ⟨⟨-1, rfl, Or.inl (by omega)⟩, Below.refl _ _⟩
  · go_wp2
    go_ret
    exact ⟨⟨_, rfl, Or.inr ⟨by rw [HS.out]; omega, by omega⟩⟩, Below.refl _ _⟩
end Go.Proofs.YtkaihnlknncfdaaGreatDoor

/- The laws' szCandidate. -/
namespace Go.Proofs.YtkaihnlknncfdaaGreatDoor
set_option maxRecDepth 100000
open Go.RowKit Go.Sort
set_option linter.unusedVariables false
set_option linter.unusedSimpArgs false

theorem szCandidate_any (x : DCandidate) (v0 : Value) (left : Int) (F : Addr → Prop) (w : World) (h0 : 0 ≤ left) (h1 : left ≤ 1048576) (hv : RowRd rLink false w v0 x.Links F) :
    Calls Tryz.prog 33 #[.agg #[v0], .int .i64 left] w fun e w' => (∃ z : Int, e = .returned (.int .i64 z) ∧ (z < 0 ∨ z + (rCandidate.sz x : Nat) = left ∧ 0 ≤ z)) ∧ Below w.heap.size w w' := by
  have HS : Hid (rCandidate.sz x = szRow rLink x.Links) := by unfold Hid; rw [rCandidate_sz]; try omega
  have HC : Hid (∀ W, Below w.heap.size w W → Calls Tryz.prog 74 #[v0, .int .i64 left] W fun e w' => (∃ z : Int, e = .returned (.int .i64 z) ∧ (z < 0 ∨ z + (szRow rLink x.Links : Nat) = left ∧ 0 ≤ z)) ∧ Below W.heap.size W w') := fun W hW => szLinkS_any v0 _ left F W h0 h1 (hv.kept hW)
  clear hv
  generalize rCandidate.sz x = n at *
  generalize szRow rLink x.Links = m at *
  go_enter Tryz.func33, Tryz.ntmps33
  go_wp2_with fail
  refine (HC.out _ ((Below.refl _ _).alloc (Nat.le_refl _) _)).mono ?_
  rintro e w1 ⟨⟨z, rfl, hz⟩, hb⟩
  have HB := Lib.hid (((Below.refl w.heap.size w).alloc (Nat.le_refl _) _).trans (hb.mono (by simp)))
  clear hb
  by_cases h : z < 0
  · go_wp2
    go_ret
    exact ⟨⟨-1, rfl, Or.inl (by omega)⟩, HB.out⟩
  · have HZ := Lib.hid (hz.resolve_left h)
    clear hz
    go_wp2
    go_ret
    exact ⟨⟨z, rfl, Or.inr (by rw [HS.out]; exact HZ.out)⟩, HB.out⟩
end Go.Proofs.YtkaihnlknncfdaaGreatDoor

/- The laws' szCandidateS. -/
namespace Go.Proofs.YtkaihnlknncfdaaGreatDoor
set_option maxRecDepth 100000
open Go.RowKit Go.Sort
set_option linter.unusedVariables false
set_option linter.unusedSimpArgs false

set_option maxHeartbeats 1000000 in
theorem szCandidateS_any (v : Value) (l : List DCandidate) (left : Int) (F : Addr → Prop) (w : World) (h0 : 0 ≤ left) (h1 : left ≤ 1048576) (hv : RowRd rCandidate false w v l F) :
    Calls Tryz.prog 48 #[v, .int .i64 left] w fun e w' => (∃ z : Int, e = .returned (.int .i64 z) ∧ (z < 0 ∨ z + (szRow rCandidate l : Nat) = left ∧ 0 ≤ z)) ∧ Below w.heap.size w w' := by
  have hmx := hv.max
  obtain ⟨A, cap, rfl⟩ := hv.form
  have HV := Lib.hid hv
  clear hv
  have HX : Hid (∀ k, k < l.length → ∃ y, l[k]? = some y) := fun k hk => ⟨_, List.getElem?_eq_getElem hk⟩
  have HS : Hid (szToE rCandidate l l.length = szRow rCandidate l) := szToE_all _ l
  have H0 : Hid (szToE rCandidate l 0 = l.length) := szToE_zero _ l
  have HST : Hid (∀ k x, l[k]? = some x → szToE rCandidate l (k + 1) = szToE rCandidate l k + rCandidate.sz x) := fun k x h => szToE_step _ h
  generalize hll : l.length = n at *
  clear hll
  go_enter Tryz.func48, Tryz.ntmps48
  by_cases h : left - (n : Int) < 0
  · go_wp2
    go_ret
    exact ⟨⟨-1, rfl, Or.inl (by omega)⟩, Below.refl _ _⟩
  · go_wp2
    go_loopw [1, 5] (fun q i wr => ∃ (k : Nat) (z : Int), k ≤ n ∧ i = .int .i64 k ∧ q = .int .i64 z ∧ 0 ≤ z ∧ z ≤ 1048576 ∧ Hid (z + (szToE rCandidate l k : Nat) = left) ∧ Below w.heap.size w wr) (fun _ i _ => n - (intOf i).toNat)
    case atStart => exact ⟨0, _, by omega, rfl, rfl, by omega, by omega, by unfold Hid; rw [H0.out]; omega, Below.refl _ _⟩
    case round =>
      obtain ⟨k, z, hk, rfl, rfl, hz0, hz1, hs, hbe⟩ := hrel
      have HBE := Lib.hid hbe
      clear hbe
      by_cases hkl : k < n
      · obtain ⟨x, hx⟩ := HX.out k hkl
        have HSY := Lib.hid (HST.out k x hx)
        obtain ⟨g, off, xs, Fk, rfl, _, hra, _, hca⟩ := (HV.out.kept HBE.out).get hx
        simp only [show rCandidate.size = 1 from rfl, Nat.mul_one] at hca
        obtain ⟨v0, rfl, q0⟩ := rCandidate_rd hra
        have HC := Lib.hid (szCandidate_any x v0 z Fk wr hz0 hz1 q0)
        have c0 := hca 0 _ rfl
        simp only [Nat.add_zero] at c0
        clear hca hx hra q0
        generalize rCandidate.sz x = sx at *
        go_wp2_with fail
        refine HC.out.mono ?_
        rintro e w2 ⟨⟨z2, rfl, hz⟩, hb⟩
        have HB2 := Lib.hid (HBE.out.trans (hb.mono HBE.out.size))
        clear hb c0
        by_cases hneg : z2 < 0
        · go_wp2
          go_ret
          exact ⟨⟨-1, rfl, Or.inl (by omega)⟩, HB2.out⟩
        · have HZ := Lib.hid (hz.resolve_left hneg)
          have hz2 : z2 ≤ 1048576 := by have := HZ.out; omega
          clear hz
          go_wp2
          go_roundw
          case rel => exact ⟨k + 1, z2, by omega, by first | rfl | go_num, by first | rfl | go_num, by omega, by omega, by unfold Hid; rw [HSY.out]; have := hs.out; have := HZ.out; omega, HB2.out⟩
          case measure => simp [intOf]; omega
      · obtain rfl : k = n := by omega
        go_wp2
        go_ret
        exact ⟨⟨z, rfl, Or.inr ⟨by rw [← HS.out]; exact hs.out, hz0⟩⟩, HBE.out⟩
end Go.Proofs.YtkaihnlknncfdaaGreatDoor

/- The laws' szIntS. -/
namespace Go.Proofs.YtkaihnlknncfdaaGreatDoor
set_option maxRecDepth 100000
open Go.RowKit Go.Sort
set_option linter.unusedVariables false
set_option linter.unusedSimpArgs false

theorem szIntS_any (v : Value) (l : List Int) (left : Int) (F : Addr → Prop) (w : World) (h0 : 0 ≤ left) (h1 : left ≤ 1048576) (hv : RowRd Rep.int false w v l F) :
    Calls Tryz.prog 101 #[v, .int .i64 left] w fun e w' => (∃ z : Int, e = .returned (.int .i64 z) ∧ (z < 0 ∨ z + (szRow Rep.int l : Nat) = left ∧ 0 ≤ z)) ∧ Below w.heap.size w w' := by
  have HS : Hid (szRow Rep.int l = l.length) := szRow_flat _ (fun _ => rfl) l
  have hmx := hv.max
  obtain ⟨A, cap, rfl⟩ := hv.form
  clear hv
  generalize l.length = n at *
  go_enter Tryz.func101, Tryz.ntmps101
  by_cases h : left - (n : Int) < 0
  · go_wp2
    go_ret
    exact ⟨⟨-1, rfl, Or.inl (by omega)⟩, Below.refl _ _⟩
  · go_wp2
    go_ret
    exact ⟨⟨_, rfl, Or.inr ⟨by rw [HS.out]; omega, by omega⟩⟩, Below.refl _ _⟩
end Go.Proofs.YtkaihnlknncfdaaGreatDoor

/- The laws' szIntSS. -/
namespace Go.Proofs.YtkaihnlknncfdaaGreatDoor
set_option maxRecDepth 100000
open Go.RowKit Go.Sort
set_option linter.unusedVariables false
set_option linter.unusedSimpArgs false

set_option maxHeartbeats 1000000 in
theorem szIntSS_any (v : Value) (l : List (List Int)) (left : Int) (F : Addr → Prop) (w : World) (h0 : 0 ≤ left) (h1 : left ≤ 1048576) (hv : RowRd (Rep.row Rep.int) false w v l F) :
    Calls Tryz.prog 49 #[v, .int .i64 left] w fun e w' => (∃ z : Int, e = .returned (.int .i64 z) ∧ (z < 0 ∨ z + (szRow (Rep.row Rep.int) l : Nat) = left ∧ 0 ≤ z)) ∧ Below w.heap.size w w' := by
  have hmx := hv.max
  obtain ⟨A, cap, rfl⟩ := hv.form
  have HV := Lib.hid hv
  clear hv
  have HX : Hid (∀ k, k < l.length → ∃ y, l[k]? = some y) := fun k hk => ⟨_, List.getElem?_eq_getElem hk⟩
  have HS : Hid (szToE (Rep.row Rep.int) l l.length = szRow (Rep.row Rep.int) l) := szToE_all _ l
  have H0 : Hid (szToE (Rep.row Rep.int) l 0 = l.length) := szToE_zero _ l
  have HST : Hid (∀ k x, l[k]? = some x → szToE (Rep.row Rep.int) l (k + 1) = szToE (Rep.row Rep.int) l k + (Rep.row Rep.int).sz x) := fun k x h => szToE_step _ h
  generalize hll : l.length = n at *
  clear hll
  go_enter Tryz.func49, Tryz.ntmps49
  by_cases h : left - (n : Int) < 0
  · go_wp2
    go_ret
    exact ⟨⟨-1, rfl, Or.inl (by omega)⟩, Below.refl _ _⟩
  · go_wp2
    go_loopw [1, 5] (fun q i wr => ∃ (k : Nat) (z : Int), k ≤ n ∧ i = .int .i64 k ∧ q = .int .i64 z ∧ 0 ≤ z ∧ z ≤ 1048576 ∧ Hid (z + (szToE (Rep.row Rep.int) l k : Nat) = left) ∧ Below w.heap.size w wr) (fun _ i _ => n - (intOf i).toNat)
    case atStart => exact ⟨0, _, by omega, rfl, rfl, by omega, by omega, by unfold Hid; rw [H0.out]; omega, Below.refl _ _⟩
    case round =>
      obtain ⟨k, z, hk, rfl, rfl, hz0, hz1, hs, hbe⟩ := hrel
      have HBE := Lib.hid hbe
      clear hbe
      by_cases hkl : k < n
      · obtain ⟨x, hx⟩ := HX.out k hkl
        have HSY := Lib.hid (HST.out k x hx)
        obtain ⟨g, off, xs, Fk, rfl, _, hra, _, hca⟩ := (HV.out.kept HBE.out).get hx
        simp only [show (Rep.row Rep.int).size = 1 from rfl, Nat.mul_one] at hca
        obtain ⟨v0, rfl, q0⟩ := id hra
        have HC := Lib.hid (szIntS_any v0 x z Fk wr hz0 hz1 q0)
        rw [show szRow Rep.int x = (Rep.row Rep.int).sz x from rfl] at HC
        have c0 := hca 0 _ rfl
        simp only [Nat.add_zero] at c0
        clear hca hx hra q0
        generalize (Rep.row Rep.int).sz x = sx at *
        go_wp2_with fail
        refine HC.out.mono ?_
        rintro e w2 ⟨⟨z2, rfl, hz⟩, hb⟩
        have HB2 := Lib.hid (HBE.out.trans (hb.mono HBE.out.size))
        clear hb c0
        by_cases hneg : z2 < 0
        · go_wp2
          go_ret
          exact ⟨⟨-1, rfl, Or.inl (by omega)⟩, HB2.out⟩
        · have HZ := Lib.hid (hz.resolve_left hneg)
          have hz2 : z2 ≤ 1048576 := by have := HZ.out; omega
          clear hz
          go_wp2
          go_roundw
          case rel => exact ⟨k + 1, z2, by omega, by first | rfl | go_num, by first | rfl | go_num, by omega, by omega, by unfold Hid; rw [HSY.out]; have := hs.out; have := HZ.out; omega, HB2.out⟩
          case measure => simp [intOf]; omega
      · obtain rfl : k = n := by omega
        go_wp2
        go_ret
        exact ⟨⟨z, rfl, Or.inr ⟨by rw [← HS.out]; exact hs.out, hz0⟩⟩, HBE.out⟩
end Go.Proofs.YtkaihnlknncfdaaGreatDoor

/- The laws' szTableau. -/
namespace Go.Proofs.YtkaihnlknncfdaaGreatDoor
set_option maxRecDepth 100000
open Go.RowKit Go.Sort M
set_option linter.unusedVariables false
set_option linter.unusedSimpArgs false

set_option maxHeartbeats 2000000 in
theorem szTableau_any (x : DTableau) (v1 v2 v3 : Value) (left : Int) (F1 F2 F3 : Addr → Prop) (w : World) (h0 : 0 ≤ left) (h1 : left ≤ 1048576) (hv : TabRd false w v1 v2 v3 x F1 F2 F3) :
    Calls Tryz.prog 12 #[.agg #[.string x.Input, v1, v2, v3], .int .i64 left] w fun e w' => (∃ z : Int, e = .returned (.int .i64 z) ∧ (z < 0 ∨ z + (rTableau.sz x : Nat) = left ∧ 0 ≤ z)) ∧ Below w.heap.size w w' := by
  have HA0 : Hid (InC (w.alloc (.cells #[.string x.Input, v1, v2, v3] 26)) w.heap.size #[.string x.Input, v1, v2, v3] 26) := heap_alloc_new _ _
  have HBX : Hid (Below w.heap.size w (w.alloc (.cells #[.string x.Input, v1, v2, v3] 26))) := (Below.refl _ _).alloc (Nat.le_refl _) _
  have HS := Lib.hid (rTableau_sz x)
  have hinp := hv.inp
  have HC1 : Hid (∀ z W, 0 ≤ z → z ≤ 1048576 → Below w.heap.size w W → Calls Tryz.prog 32 #[v1, .int .i64 z] W fun e w' => (∃ z' : Int, e = .returned (.int .i64 z') ∧ (z' < 0 ∨ z' + (szRow (Rep.str mkT) x.Names : Nat) = z ∧ 0 ≤ z')) ∧ Below W.heap.size W w') := fun z W h0 h1 hW => szStringS_any v1 _ z F1 W h0 h1 (hv.names.kept hW)
  have HC2 : Hid (∀ z W, 0 ≤ z → z ≤ 1048576 → Below w.heap.size w W → Calls Tryz.prog 48 #[v2, .int .i64 z] W fun e w' => (∃ z' : Int, e = .returned (.int .i64 z') ∧ (z' < 0 ∨ z' + (szRow rCandidate x.Rows : Nat) = z ∧ 0 ≤ z')) ∧ Below W.heap.size W w') := fun z W h0 h1 hW => szCandidateS_any v2 _ z F2 W h0 h1 (hv.rows.kept hW)
  have HC3 : Hid (∀ z W, 0 ≤ z → z ≤ 1048576 → Below w.heap.size w W → Calls Tryz.prog 49 #[v3, .int .i64 z] W fun e w' => (∃ z' : Int, e = .returned (.int .i64 z') ∧ (z' < 0 ∨ z' + (szRow (Rep.row Rep.int) x.Marks : Nat) = z ∧ 0 ≤ z')) ∧ Below W.heap.size W w') := fun z W h0 h1 hW => szIntSS_any v3 _ z F3 W h0 h1 (hv.marks.kept hW)
  clear hv
  generalize rTableau.sz x = N at *
  generalize szRow (Rep.str mkT) x.Names = n1 at *
  generalize szRow rCandidate x.Rows = n2 at *
  generalize szRow (Rep.row Rep.int) x.Marks = n3 at *
  go_enter Tryz.func12, Tryz.ntmps12
  by_cases h : left - (x.Input.size : Int) < 0
  · go_wp2
    go_ret
    exact ⟨⟨-1, rfl, Or.inl (by omega)⟩, HBX.out⟩
  obtain ⟨z0, hz0⟩ : ∃ z : Int, left - (x.Input.size : Int) = z := ⟨_, rfl⟩
  have hw0 : IntKind.i64.wrap (left - (x.Input.size : Int)) = z0 := by rw [hz0]; exact IntWalk.i64_in _ (by omega)
  have HZ0 := Lib.hid hz0
  have h0z : 0 ≤ z0 := by omega
  have h1z : z0 ≤ 1048576 := by omega
  have hzn : ¬ z0 < 0 := by omega
  clear hz0 h
  go_wp2_with fail
  refine (HC1.out z0 _ (by omega) (by omega) HBX.out).mono ?_
  rintro e w1 ⟨⟨z1, rfl, hz1⟩, hb1⟩
  have HB1 := Lib.hid (below_step HBX.out hb1)
  have HA1 := Lib.hid (HA0.out.kept hb1)
  have c1' := HA1.out.cell 2 rfl
  clear hb1
  by_cases hn1 : z1 < 0
  · go_wp2
    go_ret
    exact ⟨⟨-1, rfl, Or.inl (by omega)⟩, HB1.out⟩
  have HZ1 := Lib.hid (hz1.resolve_left hn1)
  have h1z1 : z1 ≤ 1048576 := by have := HZ1.out; omega
  clear hz1
  go_wp2_with fail
  refine (HC2.out z1 _ (by omega) (by omega) HB1.out).mono ?_
  rintro e w2 ⟨⟨z2, rfl, hz2⟩, hb2⟩
  have HB2 := Lib.hid (below_step HB1.out hb2)
  have HA2 := Lib.hid (HA1.out.kept hb2)
  have c2' := HA2.out.cell 3 rfl
  clear c1'
  clear hb2
  by_cases hn2 : z2 < 0
  · go_wp2
    go_ret
    exact ⟨⟨-1, rfl, Or.inl (by omega)⟩, HB2.out⟩
  have HZ2 := Lib.hid (hz2.resolve_left hn2)
  have h1z2 : z2 ≤ 1048576 := by have := HZ2.out; omega
  clear hz2
  go_wp2_with fail
  refine (HC3.out z2 _ (by omega) (by omega) HB2.out).mono ?_
  rintro e w3 ⟨⟨z3, rfl, hz3⟩, hb3⟩
  have HB3 := Lib.hid (below_step HB2.out hb3)
  clear c2'
  clear hb3
  by_cases hn3 : z3 < 0
  · go_wp2
    go_ret
    exact ⟨⟨-1, rfl, Or.inl (by omega)⟩, HB3.out⟩
  have HZ3 := Lib.hid (hz3.resolve_left hn3)
  have h1z3 : z3 ≤ 1048576 := by have := HZ3.out; omega
  clear hz3
  go_wp2
  go_ret
  exact ⟨⟨z3, rfl, Or.inr ⟨by rw [HS.out]; have := HZ0.out; have := HZ1.out; have := HZ2.out; have := HZ3.out; omega, by omega⟩⟩, HB3.out⟩
end Go.Proofs.YtkaihnlknncfdaaGreatDoor
