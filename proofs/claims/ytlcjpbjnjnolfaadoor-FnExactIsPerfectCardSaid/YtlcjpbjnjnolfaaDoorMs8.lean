/- The model's marks of forms: what they answer. -/
import Derived.Test.YtlcjpbjnjnolfaaDoorM8
import Derived.Test.YtlcjpbjnjnolfaaDoorN1
import Derived.Test.YtlcjpbjnjnolfaaDoorN2v
import Derived.Test.YtlcjpbjnjnolfaaDoorSo
import Derived.LoopN
import Derived.BigQuiet
namespace Go.Proofs.YtlcjpbjnjnolfaaDoor
set_option maxRecDepth 100000
open Go.RowKit M

theorem specVob_any (x : Int) (w : World) :
    Calls Tryd.prog 30 #[.int .u8 x] w fun e w' => e = .returned (.bool (vobB x)) ∧ w = w' := by
  go_enter Tryd.func30, Tryd.ntmps30
  go_wp2_with (first | (go_at_call 35; refine (specIsObs_any _ _).mono ?_; rintro e w1 ⟨rfl, rfl⟩) | (go_at_call 34; refine (specHas_any _ _ _).mono ?_; rintro e w1 ⟨rfl, rfl⟩))
  all_goals
    go_ret
    refine ⟨ret_bool ?_, rfl⟩
    unfold vobB
    simp_all

set_option maxHeartbeats 1600000 in
theorem specOns_any (s : ByteArray) (w : World) (hs : s.size ≤ maxLen) :
    Calls Tryd.prog 10 #[.string s] w fun e w' => e = .returned (.int .i64 (mkC nconsB vowB s)) ∧ w = w' := by
  have HM := Lib.hid hs
  unfold maxLen at hs
  by_cases hf : isFm s = true
  · have HE := Lib.hid (ons_mk s hf)
    have h8 := isFm_size hf
    go_enter Tryd.func10, Tryd.ntmps10
    go_wp2
    go_loop [3, 4] (fun n i => ∃ (j : Nat), (j ≤ s.size) ∧ i = .int .i64 j ∧ n = .int .i64 (cntP (onsP s) j)) (fun _ i => s.size - (intOf i).toNat)
    case atStart => exact ⟨0, by omega, rfl, by simp [cntP]⟩
    case round =>
      obtain ⟨j, hj, rfl, rfl⟩ := hrel
      have hcl := cntP_le (onsP s) j
      by_cases hz : j = 0
      · subst hz
        by_cases hlt : 0 < s.size
        · go_wp2_with (first | (go_at_call 24; refine (specFm_any s _ HM.out).mono ?_; rintro e w1 ⟨rfl, rfl⟩; rw [hf]) | (go_at_call 25; refine (specVow_any s _ _).mono ?_; rintro e w1 ⟨rfl, rfl⟩))
          · have hp : onsP s 0 = true := by unfold onsP; simp_all
            go_round
            case rel => exact ⟨1, by omega, by go_num, by rw [cntP_yes _ 0 hp]; go_num⟩
            case measure => simp [intOf]; omega
          · have hp : onsP s 0 = false := by unfold onsP; simp_all
            go_round
            case rel => exact ⟨1, by omega, by go_num, by rw [cntP_no _ 0 hp]⟩
            case measure => simp [intOf]; omega
        · have h0 : s.size = 0 := by omega
          rw [h0] at HE
          go_wp2
          go_ret
          exact ⟨by rw [← HE.out]; rfl, rfl⟩
      by_cases hlt : j < s.size
      · go_wp2_with (first | (go_at_call 24; refine (specFm_any s _ HM.out).mono ?_; rintro e w1 ⟨rfl, rfl⟩; rw [hf]) | (go_at_call 25; refine (specVow_any s _ _).mono ?_; rintro e w1 ⟨rfl, rfl⟩))
        all_goals
          first
          | (have hp : onsP s j = true := by (unfold onsP; simp_all)
             go_round
             case rel => exact ⟨j + 1, by omega, by go_num, by rw [cntP_yes _ j hp]; go_num⟩
             case measure => simp [intOf]; omega)
          | (have hp : onsP s j = false := by (unfold onsP; simp_all)
             go_round
             case rel => exact ⟨j + 1, by omega, by go_num, by rw [cntP_no _ j hp]⟩
             case measure => simp [intOf]; omega)
      · obtain rfl : j = s.size := by omega
        go_wp2
        go_ret
        exact ⟨by rw [HE.out]; rfl, rfl⟩
  · have hf : isFm s = false := by simpa using hf
    have HE := Lib.hid (mkC_no nconsB vowB s hf)
    go_enter Tryd.func10, Tryd.ntmps10
    go_wp2
    refine wp_loop_rounds 1 ?_
    rw [rounds_succ]
    go_wp2_with (go_at_call 24; refine (specFm_any s _ HM.out).mono ?_; rintro e w1 ⟨rfl, rfl⟩; rw [hf])
    all_goals
      go_ret
      exact ⟨by rw [HE.out]; rfl, rfl⟩

set_option maxHeartbeats 1600000 in
theorem specCod_any (s : ByteArray) (w : World) (hs : s.size ≤ maxLen) :
    Calls Tryd.prog 12 #[.string s] w fun e w' => e = .returned (.int .i64 (mkC consB nvowB s)) ∧ w = w' := by
  have HM := Lib.hid hs
  unfold maxLen at hs
  by_cases hf : isFm s = true
  · have HE := Lib.hid (cod_mk s hf)
    have h8 := isFm_size hf
    go_enter Tryd.func12, Tryd.ntmps12
    go_wp2
    go_loop [3, 4] (fun n i => ∃ (j : Nat), (j ≤ s.size) ∧ i = .int .i64 j ∧ n = .int .i64 (cntP (codP s) j)) (fun _ i => s.size - (intOf i).toNat)
    case atStart => exact ⟨0, by omega, rfl, by simp [cntP]⟩
    case round =>
      obtain ⟨j, hj, rfl, rfl⟩ := hrel
      have hcl := cntP_le (codP s) j
      by_cases hlt : j < s.size
      · go_wp2_with (first | (go_at_call 24; refine (specFm_any s _ HM.out).mono ?_; rintro e w1 ⟨rfl, rfl⟩; rw [hf]) | (go_at_call 25; refine (specVow_any s _ _).mono ?_; rintro e w1 ⟨rfl, rfl⟩))
        all_goals
          first
          | (have hp : codP s j = true := by (unfold codP; simp_all)
             go_round
             case rel => exact ⟨j + 1, by omega, by go_num, by rw [cntP_yes _ j hp]; go_num⟩
             case measure => simp [intOf]; omega)
          | (have hp : codP s j = false := by (unfold codP; simp_all)
             go_round
             case rel => exact ⟨j + 1, by omega, by go_num, by rw [cntP_no _ j hp]⟩
             case measure => simp [intOf]; omega)
      · obtain rfl : j = s.size := by omega
        go_wp2
        go_ret
        exact ⟨by rw [HE.out]; rfl, rfl⟩
  · have hf : isFm s = false := by simpa using hf
    have HE := Lib.hid (mkC_no consB nvowB s hf)
    go_enter Tryd.func12, Tryd.ntmps12
    go_wp2
    refine wp_loop_rounds 1 ?_
    rw [rounds_succ]
    go_wp2_with (go_at_call 24; refine (specFm_any s _ HM.out).mono ?_; rintro e w1 ⟨rfl, rfl⟩; rw [hf])
    all_goals
      go_ret
      exact ⟨by rw [HE.out]; rfl, rfl⟩

set_option maxHeartbeats 1600000 in
theorem specClu_any (s : ByteArray) (w : World) (hs : s.size ≤ maxLen) :
    Calls Tryd.prog 14 #[.string s] w fun e w' => e = .returned (.int .i64 (mkC consB consB s)) ∧ w = w' := by
  have HM := Lib.hid hs
  unfold maxLen at hs
  by_cases hf : isFm s = true
  · have HE := Lib.hid (clu_mk s hf)
    have h8 := isFm_size hf
    go_enter Tryd.func14, Tryd.ntmps14
    go_wp2
    go_loop [3, 4] (fun n i => ∃ (j : Nat), 1 ≤ j ∧ (j ≤ s.size ∨ j = 1) ∧ i = .int .i64 j ∧ n = .int .i64 (cntP (cluP s) j)) (fun _ i => s.size - (intOf i).toNat)
    case atStart => exact ⟨1, by omega, by omega, rfl, by rw [cntP_no (cluP s) 0 (by simp [cluP]), cntP_zero]; rfl⟩
    case round =>
      obtain ⟨j, h1j, hj, rfl, rfl⟩ := hrel
      have hcl := cntP_le (cluP s) j
      by_cases hlt : j < s.size
      · go_wp2_with (first | (go_at_call 24; refine (specFm_any s _ HM.out).mono ?_; rintro e w1 ⟨rfl, rfl⟩; rw [hf]) | (go_at_call 25; refine (specVow_any s _ _).mono ?_; rintro e w1 ⟨rfl, rfl⟩))
        all_goals
          first
          | (have hp : cluP s j = true := by (unfold cluP; simp_all)
             go_round
             case rel => exact ⟨j + 1, by omega, by omega, by go_num, by rw [cntP_yes _ j hp]; go_num⟩
             case measure => simp [intOf]; omega)
          | (have hp : cluP s j = false := by (unfold cluP; simp_all)
             go_round
             case rel => exact ⟨j + 1, by omega, by omega, by go_num, by rw [cntP_no _ j hp]⟩
             case measure => simp [intOf]; omega)
      · have HE2 : Hid (cntP (cluP s) j = mkC consB consB s) := by
          unfold Hid
          rw [← HE.out]
          by_cases hz : j = s.size
          · rw [hz]
          · have h0 : s.size = 0 := by omega
            obtain rfl : j = 1 := by omega
            rw [h0, cntP_no (cluP s) 0 (by simp [cluP])]
        have hge : ¬ (j : Int) < (s.size : Int) := by omega
        go_wp2
        go_ret
        exact ⟨by rw [HE2.out]; rfl, rfl⟩
  · have hf : isFm s = false := by simpa using hf
    have HE := Lib.hid (mkC_no consB consB s hf)
    go_enter Tryd.func14, Tryd.ntmps14
    go_wp2
    refine wp_loop_rounds 1 ?_
    rw [rounds_succ]
    go_wp2_with (go_at_call 24; refine (specFm_any s _ HM.out).mono ?_; rintro e w1 ⟨rfl, rfl⟩; rw [hf])
    all_goals
      go_ret
      exact ⟨by rw [HE.out]; rfl, rfl⟩

set_option maxHeartbeats 1600000 in
theorem specVoi_any (s : ByteArray) (w : World) (hs : s.size ≤ maxLen) :
    Calls Tryd.prog 16 #[.string s] w fun e w' => e = .returned (.int .i64 (mkC anyB vobB s)) ∧ w = w' := by
  have HM := Lib.hid hs
  unfold maxLen at hs
  by_cases hf : isFm s = true
  · have HE := Lib.hid (voi_mk s hf)
    have h8 := isFm_size hf
    go_enter Tryd.func16, Tryd.ntmps16
    go_wp2
    go_loop [3, 4] (fun n i => ∃ (j : Nat), (j ≤ s.size) ∧ i = .int .i64 j ∧ n = .int .i64 (cntP (voiP s) j)) (fun _ i => s.size - (intOf i).toNat)
    case atStart => exact ⟨0, by omega, rfl, by simp [cntP]⟩
    case round =>
      obtain ⟨j, hj, rfl, rfl⟩ := hrel
      have hcl := cntP_le (voiP s) j
      by_cases hlt : j < s.size
      · have hB := bAt_in s j hlt
        go_wp2_with (first | (go_at_call 24; refine (specFm_any s _ HM.out).mono ?_; rintro e w1 ⟨rfl, rfl⟩; rw [hf]) | (go_at_call 30; refine (specVob_any _ _).mono ?_; rintro e w1 ⟨rfl, rfl⟩))
        all_goals
          first
          | (have hp : voiP s j = true := by (unfold voiP; simp_all)
             go_round
             case rel => exact ⟨j + 1, by omega, by go_num, by rw [cntP_yes _ j hp]; go_num⟩
             case measure => simp [intOf]; omega)
          | (have hp : voiP s j = false := by (unfold voiP; simp_all)
             go_round
             case rel => exact ⟨j + 1, by omega, by go_num, by rw [cntP_no _ j hp]⟩
             case measure => simp [intOf]; omega)
      · obtain rfl : j = s.size := by omega
        go_wp2
        go_ret
        exact ⟨by rw [HE.out]; rfl, rfl⟩
  · have hf : isFm s = false := by simpa using hf
    have HE := Lib.hid (mkC_no anyB vobB s hf)
    go_enter Tryd.func16, Tryd.ntmps16
    go_wp2
    refine wp_loop_rounds 1 ?_
    rw [rounds_succ]
    go_wp2_with (go_at_call 24; refine (specFm_any s _ HM.out).mono ?_; rintro e w1 ⟨rfl, rfl⟩; rw [hf])
    all_goals
      go_ret
      exact ⟨by rw [HE.out]; rfl, rfl⟩

set_option maxHeartbeats 1600000 in
theorem specNas_any (s : ByteArray) (w : World) (hs : s.size ≤ maxLen) :
    Calls Tryd.prog 20 #[.string s] w fun e w' => e = .returned (.int .i64 (mkC nasB vlsB s)) ∧ w = w' := by
  have HM := Lib.hid hs
  unfold maxLen at hs
  by_cases hf : isFm s = true
  · have HE := Lib.hid (nas_mk s hf)
    have h8 := isFm_size hf
    go_enter Tryd.func20, Tryd.ntmps20
    go_wp2
    go_loop [3, 4] (fun n i => ∃ (j : Nat), 1 ≤ j ∧ (j ≤ s.size ∨ j = 1) ∧ i = .int .i64 j ∧ n = .int .i64 (cntP (nasP s) j)) (fun _ i => s.size - (intOf i).toNat)
    case atStart => exact ⟨1, by omega, by omega, rfl, by rw [cntP_no (nasP s) 0 (by simp [nasP]), cntP_zero]; rfl⟩
    case round =>
      obtain ⟨j, h1j, hj, rfl, rfl⟩ := hrel
      have hcl := cntP_le (nasP s) j
      by_cases hlt : j < s.size
      · have hB := bAt_in s j hlt
        have hB1 := bAt_in s (j - 1) (by omega)
        go_wp2_with (first | (go_at_call 24; refine (specFm_any s _ HM.out).mono ?_; rintro e w1 ⟨rfl, rfl⟩; rw [hf]) | (go_at_call 34; refine (specHas_any _ _ _).mono ?_; rintro e w1 ⟨rfl, rfl⟩) | (go_at_call 35; refine (specIsObs_any _ _).mono ?_; rintro e w1 ⟨rfl, rfl⟩))
        all_goals
          first
          | (have hp : nasP s j = true := by (unfold nasP; simp_all)
             go_round
             case rel => exact ⟨j + 1, by omega, by omega, by go_num, by rw [cntP_yes _ j hp]; go_num⟩
             case measure => simp [intOf]; omega)
          | (have hp : nasP s j = false := by (unfold nasP; simp_all)
             go_round
             case rel => exact ⟨j + 1, by omega, by omega, by go_num, by rw [cntP_no _ j hp]⟩
             case measure => simp [intOf]; omega)
      · have HE2 : Hid (cntP (nasP s) j = mkC nasB vlsB s) := by
          unfold Hid
          rw [← HE.out]
          by_cases hz : j = s.size
          · rw [hz]
          · have h0 : s.size = 0 := by omega
            obtain rfl : j = 1 := by omega
            rw [h0, cntP_no (nasP s) 0 (by simp [nasP])]
        have hge : ¬ (j : Int) < (s.size : Int) := by omega
        go_wp2
        go_ret
        exact ⟨by rw [HE2.out]; rfl, rfl⟩
  · have hf : isFm s = false := by simpa using hf
    have HE := Lib.hid (mkC_no nasB vlsB s hf)
    go_enter Tryd.func20, Tryd.ntmps20
    go_wp2
    refine wp_loop_rounds 1 ?_
    rw [rounds_succ]
    go_wp2_with (go_at_call 24; refine (specFm_any s _ HM.out).mono ?_; rintro e w1 ⟨rfl, rfl⟩; rw [hf])
    all_goals
      go_ret
      exact ⟨by rw [HE.out]; rfl, rfl⟩

theorem specFin_any (s : ByteArray) (w : World) (hs : s.size ≤ maxLen) :
    Calls Tryd.prog 18 #[.string s] w fun e w' => e = .returned (.int .i64 (mkC vobB edgB s)) ∧ w = w' := by
  have HM := Lib.hid hs
  unfold maxLen at hs
  by_cases hf : isFm s = true
  · have HE := Lib.hid (fin_mk s hf)
    have h8 := isFm_size hf
    by_cases hz : s.size = 0
    · have HF := Lib.hid (fin_empty s hz)
      have hne : s.toList.isEmpty = true := by
        rw [Lib.toList_data]
        rw [List.eq_nil_of_length_eq_zero (show s.data.toList.length = 0 from (Array.length_toList).trans hz)]
        rfl
      go_enter Tryd.func18, Tryd.ntmps18
      go_wp2_with (go_at_call 24; refine (specFm_any s _ HM.out).mono ?_; rintro e w1 ⟨rfl, rfl⟩; rw [hf])
      go_ret
      exact ⟨by rw [HE.out, HF.out]; rfl, rfl⟩
    · have hz2 : 0 < s.size := by omega
      have hB := bAt_in s (s.size - 1) (by omega)
      have hne : s.toList.isEmpty = false := by
        rw [Lib.toList_data]
        cases hd : s.data.toList with
        | nil => exact absurd (by have : s.data.toList.length = s.size := by simp
                                  rw [← this, hd]; rfl : s.size = 0) hz
        | cons a l => rfl
      have HV : Hid (eB s s.size = bAt s (s.size - 1)) := by
        unfold Hid
        rw [← eB_succ, show s.size - 1 + 1 = s.size by omega]
      have hw : IntKind.i64.wrap ((s.size : Int) - 1) = ((s.size - 1 : Nat) : Int) := by rw [show (s.size : Int) - 1 = ((s.size - 1 : Nat) : Int) by omega]; exact IntWalk.i64_in _ (by omega)
      go_enter Tryd.func18, Tryd.ntmps18
      go_wp2_with (first | (go_at_call 24; refine (specFm_any s _ HM.out).mono ?_; rintro e w1 ⟨rfl, rfl⟩; rw [hf]) | (go_at_call 30; refine (specVob_any _ _).mono ?_; rintro e w1 ⟨rfl, rfl⟩))
      · go_ret
        exact ⟨by rw [HE.out, HV.out, if_pos (by assumption)]; rfl, rfl⟩
      · have hn : vobB (bAt s (s.size - 1)) = false := by assumption
        go_ret
        exact ⟨by rw [HE.out, HV.out, hn]; rfl, rfl⟩
  · have hf : isFm s = false := by simpa using hf
    have HE := Lib.hid (mkC_no vobB edgB s hf)
    go_enter Tryd.func18, Tryd.ntmps18
    go_wp2_with (go_at_call 24; refine (specFm_any s _ HM.out).mono ?_; rintro e w1 ⟨rfl, rfl⟩; rw [hf])
    go_ret
    exact ⟨by rw [HE.out]; rfl, rfl⟩
theorem specPerf_any (s : ByteArray) (w : World) (hs : s.size ≤ maxLen) :
    Calls Tryd.prog 22 #[.string s] w fun e w' => e = .returned (.bool (perf s)) ∧ w = w' := by
  have HM := Lib.hid hs
  have h1 := mkC_le nconsB vowB s
  have h2 := mkC_le consB nvowB s
  have h3 := mkC_le consB consB s
  have h4 := mkC_le anyB vobB s
  have h5 := mkC_le nasB vlsB s
  have HP : Hid (perf s = (isFm s && ((mkC nconsB vowB s : Int) + (mkC consB nvowB s : Int) + (mkC consB consB s : Int) + (mkC anyB vobB s : Int) + (mkC nasB vlsB s : Int) == 0))) := rfl
  go_enter Tryd.func22, Tryd.ntmps22
  go_wp2_with (first | (go_at_call 24; refine (specFm_any s _ HM.out).mono ?_; rintro e w1 ⟨rfl, rfl⟩) | (go_at_call 10; refine (specOns_any s _ HM.out).mono ?_; rintro e w1 ⟨rfl, rfl⟩) | (go_at_call 12; refine (specCod_any s _ HM.out).mono ?_; rintro e w1 ⟨rfl, rfl⟩) | (go_at_call 14; refine (specClu_any s _ HM.out).mono ?_; rintro e w1 ⟨rfl, rfl⟩) | (go_at_call 16; refine (specVoi_any s _ HM.out).mono ?_; rintro e w1 ⟨rfl, rfl⟩) | (go_at_call 20; refine (specNas_any s _ HM.out).mono ?_; rintro e w1 ⟨rfl, rfl⟩))
  · have hy : isFm s = true := by assumption
    go_ret
    refine ⟨ret_bool ?_, rfl⟩
    rw [HP.out, hy, Bool.true_and]
  · have hy : isFm s = false := by
      cases h : isFm s with
      | true => exact absurd h (by assumption)
      | false => rfl
    go_ret
    refine ⟨ret_bool ?_, rfl⟩
    rw [HP.out, hy, Bool.false_and]
end Go.Proofs.YtlcjpbjnjnolfaaDoor
