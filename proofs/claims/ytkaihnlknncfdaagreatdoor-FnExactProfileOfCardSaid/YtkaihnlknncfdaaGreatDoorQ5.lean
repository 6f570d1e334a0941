/- Merged: N2v So Ms8 Ms9 Si Ic1 Ra Tl0 Ap9. -/
import Derived.Test.YtkaihnlknncfdaaGreatDoorQ4
import Derived.Test.YtkaihnlknncfdaaGreatDoorQ2
import Derived.Test.YtkaihnlknncfdaaGreatDoorQ3
import Derived.LoopN
import Derived.BigQuiet
import Derived.BigRegion
import Derived.Laws.Externs
import Derived.Test.YtkaihnlknncfdaaGreatDoorQ1
import Derived.Test.YtkaihnlknncfdaaGreatDoorRows
import Derived.Laws.AppendOwnNone
import Derived.WalkKit
import Derived.Laws.Rows
import Derived.Laws.CopyRow
import Derived.Laws.CopyOwn
import Derived.Laws.ResultCell
import Derived.Deep.RegionLaw
import Derived.Deep.RegionWith
/- The model's IsVowelAt: what they answer. -/
namespace Go.Proofs.YtkaihnlknncfdaaGreatDoor
set_option maxRecDepth 100000
open Go.RowKit M

theorem specVow_any (s : ByteArray) (i : Int) (w : World) :
    Calls Tryz.prog 140 #[.string s, .int .i64 i] w fun e w' => e = .returned (.bool (vowAt s i)) ∧ w = w' := by
  by_cases h : 0 ≤ i ∧ i < (s.size : Int)
  · obtain ⟨k, rfl⟩ := Int.eq_ofNat_of_zero_le h.1
    have hk : k < s.size := by omega
    have HE := Lib.hid (vowAt_in s k hk)
    have HB := Lib.hid (bAt_in s k hk)
    have hk2 : (k : Int) < (s.size : Int) := h.2
    have hk0 : (0 : Int) ≤ (k : Int) := h.1
    clear h
    go_enter Tryz.func140, Tryz.ntmps140
    go_wp2_with fail
    refine (specHas_any _ _ _).mono ?_
    rintro e w2 ⟨rfl, rfl⟩
    go_wp2
    go_ret
    exact ⟨ret_bool (by rw [HE.out, ← HB.out]), rfl⟩
  · have HE : Hid (vowAt s i = false) := by
      unfold Hid vowAt
      by_cases h0 : 0 ≤ i
      · have h2 : ¬ i < (s.size : Int) := fun h1 => h ⟨h0, h1⟩
        simp [h2]
      · simp [h0]
    by_cases h0 : 0 ≤ i
    · have h2 : ¬ i < (s.size : Int) := fun h1 => h ⟨h0, h1⟩
      clear h
      go_enter Tryz.func140, Tryz.ntmps140
      go_wp2
      go_ret
      exact ⟨ret_bool HE.out.symm, rfl⟩
    · clear h
      go_enter Tryz.func140, Tryz.ntmps140
      go_wp2
      go_ret
      exact ⟨ret_bool HE.out.symm, rfl⟩
end Go.Proofs.YtkaihnlknncfdaaGreatDoor

/- The model's IsObstruent: what it answers. -/
namespace Go.Proofs.YtkaihnlknncfdaaGreatDoor
set_option maxRecDepth 100000
open Go.RowKit

theorem specIsObs_any (x : Int) (w : World) :
    Calls Tryz.prog 143 #[.int .u8 x] w fun e w' => e = .returned (.bool (isObs x)) ∧ w = w' := by
  go_enter Tryz.func143, Tryz.ntmps143
  go_wp2
  all_goals
    go_ret
    refine ⟨ret_bool ?_, rfl⟩
    unfold isObs
    simp_all
end Go.Proofs.YtkaihnlknncfdaaGreatDoor

/- The model's marks of forms: what they answer. -/
namespace Go.Proofs.YtkaihnlknncfdaaGreatDoor
set_option maxRecDepth 100000
open Go.RowKit M

theorem specVob_any (x : Int) (w : World) :
    Calls Tryz.prog 141 #[.int .u8 x] w fun e w' => e = .returned (.bool (vobB x)) ∧ w = w' := by
  go_enter Tryz.func141, Tryz.ntmps141
  go_wp2_with (first | (go_at_call 143; refine (specIsObs_any _ _).mono ?_; rintro e w1 ⟨rfl, rfl⟩) | (go_at_call 142; refine (specHas_any _ _ _).mono ?_; rintro e w1 ⟨rfl, rfl⟩))
  all_goals
    go_ret
    refine ⟨ret_bool ?_, rfl⟩
    unfold vobB
    simp_all

set_option maxHeartbeats 1600000 in
theorem specOns_any (s : ByteArray) (w : World) (hs : s.size ≤ maxLen) :
    Calls Tryz.prog 115 #[.string s] w fun e w' => e = .returned (.int .i64 (mkC nconsB vowB s)) ∧ w = w' := by
  have HM := Lib.hid hs
  unfold maxLen at hs
  by_cases hf : isFm s = true
  · have HE := Lib.hid (ons_mk s hf)
    have h8 := isFm_size hf
    go_enter Tryz.func115, Tryz.ntmps115
    go_wp2
    go_loop [3, 4] (fun n i => ∃ (j : Nat), (j ≤ s.size) ∧ i = .int .i64 j ∧ n = .int .i64 (cntP (onsP s) j)) (fun _ i => s.size - (intOf i).toNat)
    case atStart => exact ⟨0, by omega, rfl, by simp [cntP]⟩
    case round =>
      obtain ⟨j, hj, rfl, rfl⟩ := hrel
      have hcl := cntP_le (onsP s) j
      by_cases hz : j = 0
      · subst hz
        by_cases hlt : 0 < s.size
        · go_wp2_with (first | (go_at_call 85; refine (specFm_any s _ HM.out).mono ?_; rintro e w1 ⟨rfl, rfl⟩; rw [hf]) | (go_at_call 140; refine (specVow_any s _ _).mono ?_; rintro e w1 ⟨rfl, rfl⟩))
          · have hp : onsP s 0 = true := by unfold onsP; simp_all
            go_round
            case rel => exact ⟨1, by omega, by go_num, by rw [cntP_yes _ 0 hp]; go_num⟩
            case measure => simp [intOf]; omega
          · have hp : onsP s 0 = false := by unfold onsP; simp_all
            go_round
            case rel => exact ⟨1, by omega, by go_num, by rw [cntP_no _ 0 hp]⟩
            case measure => simp [intOf]; omega
        · have h0 : s.size = 0 := by omega
          rw [h0] at HE
          go_wp2
          go_ret
          exact ⟨by rw [← HE.out]; rfl, rfl⟩
      by_cases hlt : j < s.size
      · go_wp2_with (first | (go_at_call 85; refine (specFm_any s _ HM.out).mono ?_; rintro e w1 ⟨rfl, rfl⟩; rw [hf]) | (go_at_call 140; refine (specVow_any s _ _).mono ?_; rintro e w1 ⟨rfl, rfl⟩))
        all_goals
          first
          | (have hp : onsP s j = true := by (unfold onsP; simp_all)
             go_round
             case rel => exact ⟨j + 1, by omega, by go_num, by rw [cntP_yes _ j hp]; go_num⟩
             case measure => simp [intOf]; omega)
          | (have hp : onsP s j = false := by (unfold onsP; simp_all)
             go_round
             case rel => exact ⟨j + 1, by omega, by go_num, by rw [cntP_no _ j hp]⟩
             case measure => simp [intOf]; omega)
      · obtain rfl : j = s.size := by omega
        go_wp2
        go_ret
        exact ⟨by rw [HE.out]; rfl, rfl⟩
  · have hf : isFm s = false := by simpa using hf
    have HE := Lib.hid (mkC_no nconsB vowB s hf)
    go_enter Tryz.func115, Tryz.ntmps115
    go_wp2
    refine wp_loop_rounds 1 ?_
    rw [rounds_succ]
    go_wp2_with (go_at_call 85; refine (specFm_any s _ HM.out).mono ?_; rintro e w1 ⟨rfl, rfl⟩; rw [hf])
    all_goals
      go_ret
      exact ⟨by rw [HE.out]; rfl, rfl⟩

set_option maxHeartbeats 1600000 in
theorem specCod_any (s : ByteArray) (w : World) (hs : s.size ≤ maxLen) :
    Calls Tryz.prog 116 #[.string s] w fun e w' => e = .returned (.int .i64 (mkC consB nvowB s)) ∧ w = w' := by
  have HM := Lib.hid hs
  unfold maxLen at hs
  by_cases hf : isFm s = true
  · have HE := Lib.hid (cod_mk s hf)
    have h8 := isFm_size hf
    go_enter Tryz.func116, Tryz.ntmps116
    go_wp2
    go_loop [3, 4] (fun n i => ∃ (j : Nat), (j ≤ s.size) ∧ i = .int .i64 j ∧ n = .int .i64 (cntP (codP s) j)) (fun _ i => s.size - (intOf i).toNat)
    case atStart => exact ⟨0, by omega, rfl, by simp [cntP]⟩
    case round =>
      obtain ⟨j, hj, rfl, rfl⟩ := hrel
      have hcl := cntP_le (codP s) j
      by_cases hlt : j < s.size
      · go_wp2_with (first | (go_at_call 85; refine (specFm_any s _ HM.out).mono ?_; rintro e w1 ⟨rfl, rfl⟩; rw [hf]) | (go_at_call 140; refine (specVow_any s _ _).mono ?_; rintro e w1 ⟨rfl, rfl⟩))
        all_goals
          first
          | (have hp : codP s j = true := by (unfold codP; simp_all)
             go_round
             case rel => exact ⟨j + 1, by omega, by go_num, by rw [cntP_yes _ j hp]; go_num⟩
             case measure => simp [intOf]; omega)
          | (have hp : codP s j = false := by (unfold codP; simp_all)
             go_round
             case rel => exact ⟨j + 1, by omega, by go_num, by rw [cntP_no _ j hp]⟩
             case measure => simp [intOf]; omega)
      · obtain rfl : j = s.size := by omega
        go_wp2
        go_ret
        exact ⟨by rw [HE.out]; rfl, rfl⟩
  · have hf : isFm s = false := by simpa using hf
    have HE := Lib.hid (mkC_no consB nvowB s hf)
    go_enter Tryz.func116, Tryz.ntmps116
    go_wp2
    refine wp_loop_rounds 1 ?_
    rw [rounds_succ]
    go_wp2_with (go_at_call 85; refine (specFm_any s _ HM.out).mono ?_; rintro e w1 ⟨rfl, rfl⟩; rw [hf])
    all_goals
      go_ret
      exact ⟨by rw [HE.out]; rfl, rfl⟩

set_option maxHeartbeats 1600000 in
theorem specClu_any (s : ByteArray) (w : World) (hs : s.size ≤ maxLen) :
    Calls Tryz.prog 117 #[.string s] w fun e w' => e = .returned (.int .i64 (mkC consB consB s)) ∧ w = w' := by
  have HM := Lib.hid hs
  unfold maxLen at hs
  by_cases hf : isFm s = true
  · have HE := Lib.hid (clu_mk s hf)
    have h8 := isFm_size hf
    go_enter Tryz.func117, Tryz.ntmps117
    go_wp2
    go_loop [3, 4] (fun n i => ∃ (j : Nat), 1 ≤ j ∧ (j ≤ s.size ∨ j = 1) ∧ i = .int .i64 j ∧ n = .int .i64 (cntP (cluP s) j)) (fun _ i => s.size - (intOf i).toNat)
    case atStart => exact ⟨1, by omega, by omega, rfl, by rw [cntP_no (cluP s) 0 (by simp [cluP]), cntP_zero]; rfl⟩
    case round =>
      obtain ⟨j, h1j, hj, rfl, rfl⟩ := hrel
      have hcl := cntP_le (cluP s) j
      by_cases hlt : j < s.size
      · go_wp2_with (first | (go_at_call 85; refine (specFm_any s _ HM.out).mono ?_; rintro e w1 ⟨rfl, rfl⟩; rw [hf]) | (go_at_call 140; refine (specVow_any s _ _).mono ?_; rintro e w1 ⟨rfl, rfl⟩))
        all_goals
          first
          | (have hp : cluP s j = true := by (unfold cluP; simp_all)
             go_round
             case rel => exact ⟨j + 1, by omega, by omega, by go_num, by rw [cntP_yes _ j hp]; go_num⟩
             case measure => simp [intOf]; omega)
          | (have hp : cluP s j = false := by (unfold cluP; simp_all)
             go_round
             case rel => exact ⟨j + 1, by omega, by omega, by go_num, by rw [cntP_no _ j hp]⟩
             case measure => simp [intOf]; omega)
      · have HE2 : Hid (cntP (cluP s) j = mkC consB consB s) := by
          unfold Hid
          rw [← HE.out]
          by_cases hz : j = s.size
          · rw [hz]
          · have h0 : s.size = 0 := by omega
            obtain rfl : j = 1 := by omega
            rw [h0, cntP_no (cluP s) 0 (by simp [cluP])]
        have hge : ¬ (j : Int) < (s.size : Int) := by omega
        go_wp2
        go_ret
        exact ⟨by rw [HE2.out]; rfl, rfl⟩
  · have hf : isFm s = false := by simpa using hf
    have HE := Lib.hid (mkC_no consB consB s hf)
    go_enter Tryz.func117, Tryz.ntmps117
    go_wp2
    refine wp_loop_rounds 1 ?_
    rw [rounds_succ]
    go_wp2_with (go_at_call 85; refine (specFm_any s _ HM.out).mono ?_; rintro e w1 ⟨rfl, rfl⟩; rw [hf])
    all_goals
      go_ret
      exact ⟨by rw [HE.out]; rfl, rfl⟩

set_option maxHeartbeats 1600000 in
theorem specVoi_any (s : ByteArray) (w : World) (hs : s.size ≤ maxLen) :
    Calls Tryz.prog 118 #[.string s] w fun e w' => e = .returned (.int .i64 (mkC anyB vobB s)) ∧ w = w' := by
  have HM := Lib.hid hs
  unfold maxLen at hs
  by_cases hf : isFm s = true
  · have HE := Lib.hid (voi_mk s hf)
    have h8 := isFm_size hf
    go_enter Tryz.func118, Tryz.ntmps118
    go_wp2
    go_loop [3, 4] (fun n i => ∃ (j : Nat), (j ≤ s.size) ∧ i = .int .i64 j ∧ n = .int .i64 (cntP (voiP s) j)) (fun _ i => s.size - (intOf i).toNat)
    case atStart => exact ⟨0, by omega, rfl, by simp [cntP]⟩
    case round =>
      obtain ⟨j, hj, rfl, rfl⟩ := hrel
      have hcl := cntP_le (voiP s) j
      by_cases hlt : j < s.size
      · have hB := bAt_in s j hlt
        go_wp2_with (first | (go_at_call 85; refine (specFm_any s _ HM.out).mono ?_; rintro e w1 ⟨rfl, rfl⟩; rw [hf]) | (go_at_call 141; refine (specVob_any _ _).mono ?_; rintro e w1 ⟨rfl, rfl⟩))
        all_goals
          first
          | (have hp : voiP s j = true := by (unfold voiP; simp_all)
             go_round
             case rel => exact ⟨j + 1, by omega, by go_num, by rw [cntP_yes _ j hp]; go_num⟩
             case measure => simp [intOf]; omega)
          | (have hp : voiP s j = false := by (unfold voiP; simp_all)
             go_round
             case rel => exact ⟨j + 1, by omega, by go_num, by rw [cntP_no _ j hp]⟩
             case measure => simp [intOf]; omega)
      · obtain rfl : j = s.size := by omega
        go_wp2
        go_ret
        exact ⟨by rw [HE.out]; rfl, rfl⟩
  · have hf : isFm s = false := by simpa using hf
    have HE := Lib.hid (mkC_no anyB vobB s hf)
    go_enter Tryz.func118, Tryz.ntmps118
    go_wp2
    refine wp_loop_rounds 1 ?_
    rw [rounds_succ]
    go_wp2_with (go_at_call 85; refine (specFm_any s _ HM.out).mono ?_; rintro e w1 ⟨rfl, rfl⟩; rw [hf])
    all_goals
      go_ret
      exact ⟨by rw [HE.out]; rfl, rfl⟩

set_option maxHeartbeats 1600000 in
theorem specNas_any (s : ByteArray) (w : World) (hs : s.size ≤ maxLen) :
    Calls Tryz.prog 120 #[.string s] w fun e w' => e = .returned (.int .i64 (mkC nasB vlsB s)) ∧ w = w' := by
  have HM := Lib.hid hs
  unfold maxLen at hs
  by_cases hf : isFm s = true
  · have HE := Lib.hid (nas_mk s hf)
    have h8 := isFm_size hf
    go_enter Tryz.func120, Tryz.ntmps120
    go_wp2
    go_loop [3, 4] (fun n i => ∃ (j : Nat), 1 ≤ j ∧ (j ≤ s.size ∨ j = 1) ∧ i = .int .i64 j ∧ n = .int .i64 (cntP (nasP s) j)) (fun _ i => s.size - (intOf i).toNat)
    case atStart => exact ⟨1, by omega, by omega, rfl, by rw [cntP_no (nasP s) 0 (by simp [nasP]), cntP_zero]; rfl⟩
    case round =>
      obtain ⟨j, h1j, hj, rfl, rfl⟩ := hrel
      have hcl := cntP_le (nasP s) j
      by_cases hlt : j < s.size
      · have hB := bAt_in s j hlt
        have hB1 := bAt_in s (j - 1) (by omega)
        go_wp2_with (first | (go_at_call 85; refine (specFm_any s _ HM.out).mono ?_; rintro e w1 ⟨rfl, rfl⟩; rw [hf]) | (go_at_call 142; refine (specHas_any _ _ _).mono ?_; rintro e w1 ⟨rfl, rfl⟩) | (go_at_call 143; refine (specIsObs_any _ _).mono ?_; rintro e w1 ⟨rfl, rfl⟩))
        all_goals
          first
          | (have hp : nasP s j = true := by (unfold nasP; simp_all)
             go_round
             case rel => exact ⟨j + 1, by omega, by omega, by go_num, by rw [cntP_yes _ j hp]; go_num⟩
             case measure => simp [intOf]; omega)
          | (have hp : nasP s j = false := by (unfold nasP; simp_all)
             go_round
             case rel => exact ⟨j + 1, by omega, by omega, by go_num, by rw [cntP_no _ j hp]⟩
             case measure => simp [intOf]; omega)
      · have HE2 : Hid (cntP (nasP s) j = mkC nasB vlsB s) := by
          unfold Hid
          rw [← HE.out]
          by_cases hz : j = s.size
          · rw [hz]
          · have h0 : s.size = 0 := by omega
            obtain rfl : j = 1 := by omega
            rw [h0, cntP_no (nasP s) 0 (by simp [nasP])]
        have hge : ¬ (j : Int) < (s.size : Int) := by omega
        go_wp2
        go_ret
        exact ⟨by rw [HE2.out]; rfl, rfl⟩
  · have hf : isFm s = false := by simpa using hf
    have HE := Lib.hid (mkC_no nasB vlsB s hf)
    go_enter Tryz.func120, Tryz.ntmps120
    go_wp2
    refine wp_loop_rounds 1 ?_
    rw [rounds_succ]
    go_wp2_with (go_at_call 85; refine (specFm_any s _ HM.out).mono ?_; rintro e w1 ⟨rfl, rfl⟩; rw [hf])
    all_goals
      go_ret
      exact ⟨by rw [HE.out]; rfl, rfl⟩

theorem specFin_any (s : ByteArray) (w : World) (hs : s.size ≤ maxLen) :
    Calls Tryz.prog 119 #[.string s] w fun e w' => e = .returned (.int .i64 (mkC vobB edgB s)) ∧ w = w' := by
  have HM := Lib.hid hs
  unfold maxLen at hs
  by_cases hf : isFm s = true
  · have HE := Lib.hid (fin_mk s hf)
    have h8 := isFm_size hf
    by_cases hz : s.size = 0
    · have HF := Lib.hid (fin_empty s hz)
      have hne : s.toList.isEmpty = true := by
        rw [Lib.toList_data]
        rw [List.eq_nil_of_length_eq_zero (show s.data.toList.length = 0 from (Array.length_toList).trans hz)]
        rfl
      go_enter Tryz.func119, Tryz.ntmps119
      go_wp2_with (go_at_call 85; refine (specFm_any s _ HM.out).mono ?_; rintro e w1 ⟨rfl, rfl⟩; rw [hf])
      go_ret
      exact ⟨by rw [HE.out, HF.out]; rfl, rfl⟩
    · have hz2 : 0 < s.size := by omega
      have hB := bAt_in s (s.size - 1) (by omega)
      have hne : s.toList.isEmpty = false := by
        rw [Lib.toList_data]
        cases hd : s.data.toList with
        | nil => exact absurd (by have : s.data.toList.length = s.size := by simp
                                  rw [← this, hd]; rfl : s.size = 0) hz
        | cons a l => rfl
      have HV : Hid (eB s s.size = bAt s (s.size - 1)) := by
        unfold Hid
        rw [← eB_succ, show s.size - 1 + 1 = s.size by omega]
      have hw : IntKind.i64.wrap ((s.size : Int) - 1) = ((s.size - 1 : Nat) : Int) := by rw [show (s.size : Int) - 1 = ((s.size - 1 : Nat) : Int) by omega]; exact IntWalk.i64_in _ (by omega)
      go_enter Tryz.func119, Tryz.ntmps119
      go_wp2_with (first | (go_at_call 85; refine (specFm_any s _ HM.out).mono ?_; rintro e w1 ⟨rfl, rfl⟩; rw [hf]) | (go_at_call 141; refine (specVob_any _ _).mono ?_; rintro e w1 ⟨rfl, rfl⟩))
      · go_ret
        exact ⟨by rw [HE.out, HV.out, if_pos (by assumption)]; rfl, rfl⟩
      · have hn : vobB (bAt s (s.size - 1)) = false := by assumption
        go_ret
        exact ⟨by rw [HE.out, HV.out, hn]; rfl, rfl⟩
  · have hf : isFm s = false := by simpa using hf
    have HE := Lib.hid (mkC_no vobB edgB s hf)
    go_enter Tryz.func119, Tryz.ntmps119
    go_wp2_with (go_at_call 85; refine (specFm_any s _ HM.out).mono ?_; rintro e w1 ⟨rfl, rfl⟩; rw [hf])
    go_ret
    exact ⟨by rw [HE.out]; rfl, rfl⟩
end Go.Proofs.YtkaihnlknncfdaaGreatDoor

/- The model's counts of links: what they answer. -/
namespace Go.Proofs.YtkaihnlknncfdaaGreatDoor
set_option maxRecDepth 100000
open Go.RowKit M
set_option linter.unusedVariables false
set_option linter.unusedSimpArgs false
set_option maxRecDepth 100000

set_option maxHeartbeats 4000000 in
theorem specDeleted_any (x : DCandidate) (v : Value) (F : Addr → Prop) (w : World) (hl : x.Links.length ≤ 1048576) (hv : RowRd rLink false w v x.Links F) :
    Calls Tryz.prog 121 #[.agg #[v]] w fun e w' => e = .returned (.int .i64 (cntC delK x.Links : Nat)) ∧ Below w.heap.size w w' := by
  obtain ⟨A, cap, rfl⟩ := hv.form
  have HIS : Hid (∀ W, Below w.heap.size w W → Calls Tryz.prog 76 #[.agg #[.slice A x.Links.length cap]] W fun e w' => e = .returned (.bool (isCd x.Links)) ∧ Below W.heap.size W w') := fun W hW => specIsCd_any x _ F W hl (hv.kept hW)
  have HV := Lib.hid hv
  clear hv
  have HX : Hid (∀ k, k < x.Links.length → ∃ y, x.Links[k]? = some y) := fun k hk => ⟨_, List.getElem?_eq_getElem hk⟩
  have HC : Hid (cntC delK x.Links = if isCd x.Links then cntL delK x.Links else 0) := rfl
  generalize x.Links = l at *
  generalize isCd l = cd at *
  generalize cntC delK l = r at *
  go_enter Tryz.func121, Tryz.ntmps121
  go_wp2
  go_loopw [3, 4] (fun c i wr => ∃ (k : Nat), k ≤ l.length ∧ i = .int .i64 k ∧ c = .int .i64 (cntL delK (l.take k) : Nat) ∧ Hid (cd = false → k = 0) ∧ Below w.heap.size w wr ∧ InC wr w.heap.size #[.slice A l.length cap] 55) (fun _ i _ => l.length - (intOf i).toNat)
  case atStart => exact ⟨0, by omega, rfl, rfl, fun _ => rfl, (Below.refl _ _).alloc (Nat.le_refl _) _, heap_alloc_new _ _⟩
  case round =>
    obtain ⟨k, hk, rfl, rfl, hcd, hbe, hi1⟩ := hrel
    have b1 := hi1.cell 0 rfl
    have HBE := Lib.hid hbe
    have HI1 := Lib.hid hi1
    clear hbe hi1
    have hel := cntL_le delK l k
    by_cases hkl : k < l.length
    · obtain ⟨y, hy⟩ := HX.out k hkl
      go_wp2_with fail
      refine (HIS.out _ HBE.out).mono ?_
      rintro e w2 ⟨rfl, hb2⟩
      have HBE2 : Hid (Below w.heap.size w w2) := below_step HBE.out hb2
      have HI2 := Lib.hid (HI1.out.kept hb2)
      have b2 := HI2.out.cell 0 rfl
      clear hb2 b1
      obtain ⟨g, off, xs, Fk, rfl, _, hra, _, hca⟩ := (HV.out.kept HBE2.out).get hy
      obtain rfl := rLink_rd hra
      rw [rLink_size] at hca
      have c0 := hca 0 _ rfl
      have c1 := hca 1 _ rfl
      simp only [Nat.add_zero] at c0
      have HEY : Hid (decide ((y.Out.toNat : Int) = 0) = true → cntL delK (l.take (k + 1)) = cntL delK (l.take k) + 1) := fun h => cntL_yes hy h
      have HEN : Hid (decide ((y.Out.toNat : Int) = 0) = false → cntL delK (l.take (k + 1)) = cntL delK (l.take k)) := fun h => cntL_no hy h
      clear hca hra hy
      generalize cntL delK (l.take k) = E0 at *
      generalize (y.In.toNat : Int) = a at *
      generalize (y.Out.toNat : Int) = b at *
      cases cd
      · obtain rfl : k = 0 := hcd.out rfl
        have h0 : r = 0 := by rw [HC.out]; rfl
        have hE0 : E0 = 0 := by omega
        subst hE0
        subst h0
        go_wp2
        go_ret
        exact ⟨rfl, HBE2.out⟩
      · by_cases hb : b = 0
        · have HE := Lib.hid (HEY.out (by simp [hb]))
          have qb : (b == 0) = true := by simp [hb]
          have nb : (b != 0) = false := by simp [hb]
          go_wp2
          (try go_quiet (fail))
          (try go_wp2)
          go_roundw
          case rel => exact ⟨k + 1, by omega, by go_num, by rw [HE.out]; go_num, fun h => (by cases h), by first | exact HBE2.out | exact drewN_below HBE2.out | exact drewN_below (HBE2.out.alloc HBE2.out.size _) | exact HBE2.out.alloc HBE2.out.size _, by first | exact HI2.out | exact inC_drewN HI2.out | exact inC_drewN (HI2.out.kept ((Below.refl _ _).alloc (Nat.le_refl _) _)) | exact HI2.out.kept ((Below.refl _ _).alloc (Nat.le_refl _) _)⟩
          case measure => simp [intOf]; omega
        · have HE := Lib.hid (HEN.out (by simp [hb]))
          have qb : (b == 0) = false := by simp [hb]
          have nb : (b != 0) = true := by simp [hb]
          go_wp2
          (try go_quiet (fail))
          (try go_wp2)
          go_roundw
          case rel => exact ⟨k + 1, by omega, by go_num, by rw [HE.out], fun h => (by cases h), by first | exact HBE2.out | exact drewN_below HBE2.out | exact drewN_below (HBE2.out.alloc HBE2.out.size _) | exact HBE2.out.alloc HBE2.out.size _, by first | exact HI2.out | exact inC_drewN HI2.out | exact inC_drewN (HI2.out.kept ((Below.refl _ _).alloc (Nat.le_refl _) _)) | exact HI2.out.kept ((Below.refl _ _).alloc (Nat.le_refl _) _)⟩
          case measure => simp [intOf]; omega
    · obtain rfl : k = l.length := by omega
      rw [List.take_length] at *
      have HR : Hid (cntL delK l = r) := by
        unfold Hid
        rw [HC.out]
        cases cd
        · have h0 : l.length = 0 := hcd.out rfl
          have h1 : l = [] := List.eq_nil_of_length_eq_zero h0
          subst h1
          rfl
        · rfl
      go_wp2
      go_ret
      exact ⟨by rw [HR.out] <;> rfl, HBE.out⟩
set_option maxHeartbeats 4000000 in
theorem specInserted_any (x : DCandidate) (v : Value) (F : Addr → Prop) (w : World) (hl : x.Links.length ≤ 1048576) (hv : RowRd rLink false w v x.Links F) :
    Calls Tryz.prog 122 #[.agg #[v]] w fun e w' => e = .returned (.int .i64 (cntC insK x.Links : Nat)) ∧ Below w.heap.size w w' := by
  obtain ⟨A, cap, rfl⟩ := hv.form
  have HIS : Hid (∀ W, Below w.heap.size w W → Calls Tryz.prog 76 #[.agg #[.slice A x.Links.length cap]] W fun e w' => e = .returned (.bool (isCd x.Links)) ∧ Below W.heap.size W w') := fun W hW => specIsCd_any x _ F W hl (hv.kept hW)
  have HV := Lib.hid hv
  clear hv
  have HX : Hid (∀ k, k < x.Links.length → ∃ y, x.Links[k]? = some y) := fun k hk => ⟨_, List.getElem?_eq_getElem hk⟩
  have HC : Hid (cntC insK x.Links = if isCd x.Links then cntL insK x.Links else 0) := rfl
  generalize x.Links = l at *
  generalize isCd l = cd at *
  generalize cntC insK l = r at *
  go_enter Tryz.func122, Tryz.ntmps122
  go_wp2
  go_loopw [3, 4] (fun c i wr => ∃ (k : Nat), k ≤ l.length ∧ i = .int .i64 k ∧ c = .int .i64 (cntL insK (l.take k) : Nat) ∧ Hid (cd = false → k = 0) ∧ Below w.heap.size w wr ∧ InC wr w.heap.size #[.slice A l.length cap] 55) (fun _ i _ => l.length - (intOf i).toNat)
  case atStart => exact ⟨0, by omega, rfl, rfl, fun _ => rfl, (Below.refl _ _).alloc (Nat.le_refl _) _, heap_alloc_new _ _⟩
  case round =>
    obtain ⟨k, hk, rfl, rfl, hcd, hbe, hi1⟩ := hrel
    have b1 := hi1.cell 0 rfl
    have HBE := Lib.hid hbe
    have HI1 := Lib.hid hi1
    clear hbe hi1
    have hel := cntL_le insK l k
    by_cases hkl : k < l.length
    · obtain ⟨y, hy⟩ := HX.out k hkl
      go_wp2_with fail
      refine (HIS.out _ HBE.out).mono ?_
      rintro e w2 ⟨rfl, hb2⟩
      have HBE2 : Hid (Below w.heap.size w w2) := below_step HBE.out hb2
      have HI2 := Lib.hid (HI1.out.kept hb2)
      have b2 := HI2.out.cell 0 rfl
      clear hb2 b1
      obtain ⟨g, off, xs, Fk, rfl, _, hra, _, hca⟩ := (HV.out.kept HBE2.out).get hy
      obtain rfl := rLink_rd hra
      rw [rLink_size] at hca
      have c0 := hca 0 _ rfl
      have c1 := hca 1 _ rfl
      simp only [Nat.add_zero] at c0
      have HEY : Hid (decide ((y.In.toNat : Int) = 0) = true → cntL insK (l.take (k + 1)) = cntL insK (l.take k) + 1) := fun h => cntL_yes hy h
      have HEN : Hid (decide ((y.In.toNat : Int) = 0) = false → cntL insK (l.take (k + 1)) = cntL insK (l.take k)) := fun h => cntL_no hy h
      clear hca hra hy
      generalize cntL insK (l.take k) = E0 at *
      generalize (y.In.toNat : Int) = a at *
      generalize (y.Out.toNat : Int) = b at *
      cases cd
      · obtain rfl : k = 0 := hcd.out rfl
        have h0 : r = 0 := by rw [HC.out]; rfl
        have hE0 : E0 = 0 := by omega
        subst hE0
        subst h0
        go_wp2
        go_ret
        exact ⟨rfl, HBE2.out⟩
      · by_cases ha : a = 0
        · have HE := Lib.hid (HEY.out (by simp [ha]))
          have qa : (a == 0) = true := by simp [ha]
          have na : (a != 0) = false := by simp [ha]
          go_wp2
          (try go_quiet (fail))
          (try go_wp2)
          go_roundw
          case rel => exact ⟨k + 1, by omega, by go_num, by rw [HE.out]; go_num, fun h => (by cases h), by first | exact HBE2.out | exact drewN_below HBE2.out | exact drewN_below (HBE2.out.alloc HBE2.out.size _) | exact HBE2.out.alloc HBE2.out.size _, by first | exact HI2.out | exact inC_drewN HI2.out | exact inC_drewN (HI2.out.kept ((Below.refl _ _).alloc (Nat.le_refl _) _)) | exact HI2.out.kept ((Below.refl _ _).alloc (Nat.le_refl _) _)⟩
          case measure => simp [intOf]; omega
        · have HE := Lib.hid (HEN.out (by simp [ha]))
          have qa : (a == 0) = false := by simp [ha]
          have na : (a != 0) = true := by simp [ha]
          go_wp2
          (try go_quiet (fail))
          (try go_wp2)
          go_roundw
          case rel => exact ⟨k + 1, by omega, by go_num, by rw [HE.out], fun h => (by cases h), by first | exact HBE2.out | exact drewN_below HBE2.out | exact drewN_below (HBE2.out.alloc HBE2.out.size _) | exact HBE2.out.alloc HBE2.out.size _, by first | exact HI2.out | exact inC_drewN HI2.out | exact inC_drewN (HI2.out.kept ((Below.refl _ _).alloc (Nat.le_refl _) _)) | exact HI2.out.kept ((Below.refl _ _).alloc (Nat.le_refl _) _)⟩
          case measure => simp [intOf]; omega
    · obtain rfl : k = l.length := by omega
      rw [List.take_length] at *
      have HR : Hid (cntL insK l = r) := by
        unfold Hid
        rw [HC.out]
        cases cd
        · have h0 : l.length = 0 := hcd.out rfl
          have h1 : l = [] := List.eq_nil_of_length_eq_zero h0
          subst h1
          rfl
        · rfl
      go_wp2
      go_ret
      exact ⟨by rw [HR.out] <;> rfl, HBE.out⟩
set_option maxHeartbeats 4000000 in
theorem specVoiceChanged_any (x : DCandidate) (v : Value) (F : Addr → Prop) (w : World) (hl : x.Links.length ≤ 1048576) (hv : RowRd rLink false w v x.Links F) :
    Calls Tryz.prog 123 #[.agg #[v]] w fun e w' => e = .returned (.int .i64 (cntC vchK x.Links : Nat)) ∧ Below w.heap.size w w' := by
  obtain ⟨A, cap, rfl⟩ := hv.form
  have HIS : Hid (∀ W, Below w.heap.size w W → Calls Tryz.prog 76 #[.agg #[.slice A x.Links.length cap]] W fun e w' => e = .returned (.bool (isCd x.Links)) ∧ Below W.heap.size W w') := fun W hW => specIsCd_any x _ F W hl (hv.kept hW)
  have HV := Lib.hid hv
  clear hv
  have HX : Hid (∀ k, k < x.Links.length → ∃ y, x.Links[k]? = some y) := fun k hk => ⟨_, List.getElem?_eq_getElem hk⟩
  have HC : Hid (cntC vchK x.Links = if isCd x.Links then cntL vchK x.Links else 0) := rfl
  generalize x.Links = l at *
  generalize isCd l = cd at *
  generalize cntC vchK l = r at *
  go_enter Tryz.func123, Tryz.ntmps123
  go_wp2
  go_loopw [3, 4] (fun c i wr => ∃ (k : Nat), k ≤ l.length ∧ i = .int .i64 k ∧ c = .int .i64 (cntL vchK (l.take k) : Nat) ∧ Hid (cd = false → k = 0) ∧ Below w.heap.size w wr ∧ InC wr w.heap.size #[.slice A l.length cap] 55) (fun _ i _ => l.length - (intOf i).toNat)
  case atStart => exact ⟨0, by omega, rfl, rfl, fun _ => rfl, (Below.refl _ _).alloc (Nat.le_refl _) _, heap_alloc_new _ _⟩
  case round =>
    obtain ⟨k, hk, rfl, rfl, hcd, hbe, hi1⟩ := hrel
    have b1 := hi1.cell 0 rfl
    have HBE := Lib.hid hbe
    have HI1 := Lib.hid hi1
    clear hbe hi1
    have hel := cntL_le vchK l k
    by_cases hkl : k < l.length
    · obtain ⟨y, hy⟩ := HX.out k hkl
      go_wp2_with fail
      refine (HIS.out _ HBE.out).mono ?_
      rintro e w2 ⟨rfl, hb2⟩
      have HBE2 : Hid (Below w.heap.size w w2) := below_step HBE.out hb2
      have HI2 := Lib.hid (HI1.out.kept hb2)
      have b2 := HI2.out.cell 0 rfl
      clear hb2 b1
      obtain ⟨g, off, xs, Fk, rfl, _, hra, _, hca⟩ := (HV.out.kept HBE2.out).get hy
      obtain rfl := rLink_rd hra
      rw [rLink_size] at hca
      have c0 := hca 0 _ rfl
      have c1 := hca 1 _ rfl
      simp only [Nat.add_zero] at c0
      have HEY : Hid (((!decide ((y.Out.toNat : Int) = 0) && !decide ((y.In.toNat : Int) = 0)) && !decide ((y.In.toNat : Int) = (y.Out.toNat : Int))) = true → cntL vchK (l.take (k + 1)) = cntL vchK (l.take k) + 1) := fun h => cntL_yes hy h
      have HEN : Hid (((!decide ((y.Out.toNat : Int) = 0) && !decide ((y.In.toNat : Int) = 0)) && !decide ((y.In.toNat : Int) = (y.Out.toNat : Int))) = false → cntL vchK (l.take (k + 1)) = cntL vchK (l.take k)) := fun h => cntL_no hy h
      clear hca hra hy
      generalize cntL vchK (l.take k) = E0 at *
      generalize (y.In.toNat : Int) = a at *
      generalize (y.Out.toNat : Int) = b at *
      cases cd
      · obtain rfl : k = 0 := hcd.out rfl
        have h0 : r = 0 := by rw [HC.out]; rfl
        have hE0 : E0 = 0 := by omega
        subst hE0
        subst h0
        go_wp2
        go_ret
        exact ⟨rfl, HBE2.out⟩
      · by_cases ha : a = 0
        · have HE := Lib.hid (HEN.out (by simp [ha]))
          have qa : (a == 0) = true := by simp [ha]
          have na : (a != 0) = false := by simp [ha]
          go_wp2
          (try go_quiet (fail))
          (try go_wp2)
          go_roundw
          case rel => exact ⟨k + 1, by omega, by go_num, by rw [HE.out], fun h => (by cases h), by first | exact HBE2.out | exact drewN_below HBE2.out | exact drewN_below (HBE2.out.alloc HBE2.out.size _) | exact HBE2.out.alloc HBE2.out.size _, by first | exact HI2.out | exact inC_drewN HI2.out | exact inC_drewN (HI2.out.kept ((Below.refl _ _).alloc (Nat.le_refl _) _)) | exact HI2.out.kept ((Below.refl _ _).alloc (Nat.le_refl _) _)⟩
          case measure => simp [intOf]; omega
        · by_cases hb : b = 0
          · have HE := Lib.hid (HEN.out (by simp [ha, hb]))
            have qa : (a == 0) = false := by simp [ha]
            have qb : (b == 0) = true := by simp [hb]
            have na : (a != 0) = true := by simp [ha]
            have nb : (b != 0) = false := by simp [hb]
            go_wp2
            (try go_quiet (fail))
            (try go_wp2)
            go_roundw
            case rel => exact ⟨k + 1, by omega, by go_num, by rw [HE.out], fun h => (by cases h), by first | exact HBE2.out | exact drewN_below HBE2.out | exact drewN_below (HBE2.out.alloc HBE2.out.size _) | exact HBE2.out.alloc HBE2.out.size _, by first | exact HI2.out | exact inC_drewN HI2.out | exact inC_drewN (HI2.out.kept ((Below.refl _ _).alloc (Nat.le_refl _) _)) | exact HI2.out.kept ((Below.refl _ _).alloc (Nat.le_refl _) _)⟩
            case measure => simp [intOf]; omega
          · by_cases hab : a = b
            · have HE := Lib.hid (HEN.out (by simp [ha, hb, hab]))
              have qa : (a == 0) = false := by simp [ha]
              have qb : (b == 0) = false := by simp [hb]
              have qab : (a == b) = true := by simp [hab]
              have na : (a != 0) = true := by simp [ha]
              have nb : (b != 0) = true := by simp [hb]
              have nab : (a != b) = false := by simp [hab]
              go_wp2
              (try go_quiet (fail))
              (try go_wp2)
              go_roundw
              case rel => exact ⟨k + 1, by omega, by go_num, by rw [HE.out], fun h => (by cases h), by first | exact HBE2.out | exact drewN_below HBE2.out | exact drewN_below (HBE2.out.alloc HBE2.out.size _) | exact HBE2.out.alloc HBE2.out.size _, by first | exact HI2.out | exact inC_drewN HI2.out | exact inC_drewN (HI2.out.kept ((Below.refl _ _).alloc (Nat.le_refl _) _)) | exact HI2.out.kept ((Below.refl _ _).alloc (Nat.le_refl _) _)⟩
              case measure => simp [intOf]; omega
            · have HE := Lib.hid (HEY.out (by simp [ha, hb, hab]))
              have qa : (a == 0) = false := by simp [ha]
              have qb : (b == 0) = false := by simp [hb]
              have qab : (a == b) = false := by simp [hab]
              have na : (a != 0) = true := by simp [ha]
              have nb : (b != 0) = true := by simp [hb]
              have nab : (a != b) = true := by simp [hab]
              go_wp2
              (try go_quiet (fail))
              (try go_wp2)
              go_roundw
              case rel => exact ⟨k + 1, by omega, by go_num, by rw [HE.out]; go_num, fun h => (by cases h), by first | exact HBE2.out | exact drewN_below HBE2.out | exact drewN_below (HBE2.out.alloc HBE2.out.size _) | exact HBE2.out.alloc HBE2.out.size _, by first | exact HI2.out | exact inC_drewN HI2.out | exact inC_drewN (HI2.out.kept ((Below.refl _ _).alloc (Nat.le_refl _) _)) | exact HI2.out.kept ((Below.refl _ _).alloc (Nat.le_refl _) _)⟩
              case measure => simp [intOf]; omega
    · obtain rfl : k = l.length := by omega
      rw [List.take_length] at *
      have HR : Hid (cntL vchK l = r) := by
        unfold Hid
        rw [HC.out]
        cases cd
        · have h0 : l.length = 0 := hcd.out rfl
          have h1 : l = [] := List.eq_nil_of_length_eq_zero h0
          subst h1
          rfl
        · rfl
      go_wp2
      go_ret
      exact ⟨by rw [HR.out] <;> rfl, HBE.out⟩
end Go.Proofs.YtkaihnlknncfdaaGreatDoor

/- strings.IndexByte and the program's IsSound: what they answer. -/
namespace Go.Proofs.YtkaihnlknncfdaaGreatDoor
set_option maxRecDepth 100000
open Go.RowKit

set_option maxRecDepth 100000 in
/-- strings.IndexByte. -/
theorem idxByte (s : ByteArray) (c : Int) (w : World) :
    Calls Tryz.prog 157 #[.string s, .int .u8 c] w fun e w' => e = .returned (.int .i64 (Lib.indexByte s.data.toList c.toNat.toUInt8)) ∧ w = w' := by
  go_enter Tryz.func157, Tryz.ntmps157
  go_wp2
  rw [run_callFunc_extern Tryz.func187 (by kernel_rfl) (by kernel_rfl) (by kernel_rfl) (e := Extern.BytealgIndexByte.indexByte) (by kernel_rfl), Lib.run_indexByteString]
  simp only [Result.andThen]
  rw [Oper.upon_value]
  go_wp2
  go_ret
  exact ⟨rfl, rfl⟩
theorem implIsSound_any (x : Int) (w : World) (h0 : 0 ≤ x) (h1 : x < 256) :
    Calls Tryz.prog 132 #[.int .u8 x] w fun e w' => e = .returned (.bool (isSnd x)) ∧ w = w' := by
  have H := Lib.hid (snd_index x h0 h1)
  clear h0 h1
  go_enter Tryz.func132, Tryz.ntmps132
  go_wp2_with fail
  refine (idxByte _ _ _).mono ?_
  rintro e w1 ⟨rfl, rfl⟩
  go_wp2
  go_ret
  exact ⟨ret_bool H.out, rfl⟩
end Go.Proofs.YtkaihnlknncfdaaGreatDoor

/- The program's isValid: what it answers. -/
namespace Go.Proofs.YtkaihnlknncfdaaGreatDoor
set_option maxRecDepth 100000
open Go.RowKit
set_option linter.unusedVariables false
set_option linter.unusedSimpArgs false

theorem drewN_below {B n : Nat} {w w' : World} (h : Below B w w') : Below B w (w'.drewN n) := ⟨h.os, h.tape, h.output, h.size, h.block⟩
set_option maxHeartbeats 4000000 in
theorem implValid_any (a b : Int) (g : Nat) (w : World) (ha : 0 ≤ a ∧ a < 256) (hb : 0 ≤ b ∧ b < 256) (h : InC w g #[.int .u8 a, .int .u8 b] 118) :
    Calls Tryz.prog 127 #[.pointer (some ⟨g, 0, none⟩)] w fun e w' => e = .returned (.bool (okI a b)) ∧ Below w.heap.size w w' := by
  have c0 := h.cell 0 rfl
  have c1 := h.cell 1 rfl
  have HA := Lib.hid ha
  have HB := Lib.hid hb
  clear h ha hb
  go_enter Tryz.func127, Tryz.ntmps127
  by_cases h0 : a = 0
  case pos =>
    have HE : Hid (okI a b = isSnd b) := by unfold Hid okI; rw [if_pos h0]
    go_wp2_with fail
    refine (implIsSound_any b _ HB.out.1 HB.out.2).mono ?_
    rintro e w2 ⟨rfl, rfl⟩
    go_wp2
    go_ret
    exact ⟨ret_bool HE.out.symm, Below.refl _ _⟩
  by_cases h1 : b = 0
  case pos =>
    have HE : Hid (okI a b = isSnd a) := by unfold Hid okI; rw [if_neg h0, if_pos (Or.inl h1)]
    go_wp2_with fail
    refine (implIsSound_any a _ HA.out.1 HA.out.2).mono ?_
    rintro e w2 ⟨rfl, rfl⟩
    go_wp2
    go_ret
    exact ⟨ret_bool HE.out.symm, Below.refl _ _⟩
  by_cases h2 : b = a
  case pos =>
    have HE : Hid (okI a b = isSnd a) := by unfold Hid okI; rw [if_neg h0, if_pos (Or.inr h2)]
    go_wp2
    go_quiet (fail)
    go_wp2_with fail
    refine (implIsSound_any a _ HA.out.1 HA.out.2).mono ?_
    rintro e w2 ⟨rfl, rfl⟩
    go_wp2
    go_ret
    exact ⟨ret_bool HE.out.symm, drewN_below (Below.refl _ _)⟩
  have HE : Hid (okI a b = (isObs a && decide (b = swapV a))) := by unfold Hid okI; rw [if_neg h0, if_neg (by rintro (e | e); exact h1 e; exact h2 e)]
  go_wp2
  go_quiet (fail)
  go_wp2_with fail
  refine (implSwap_any a _).mono ?_
  rintro e w2 ⟨rfl, rfl⟩
  generalize hsw : swapV a = s at *
  generalize hob : isObs a = o at *
  cases o
  · have HR : Hid (okI a b = false) := by unfold Hid; rw [HE.out, Bool.false_and]
    go_wp2
    go_ret
    exact ⟨ret_bool HR.out.symm, drewN_below (Below.refl _ _)⟩
  · by_cases hs : b = s
    · have HR : Hid (okI a b = true) := by unfold Hid; rw [HE.out]; simp [hs]
      go_wp2
      go_ret
      exact ⟨ret_bool (by rw [HR.out] <;> simp [hs]), drewN_below (Below.refl _ _)⟩
    · have HR : Hid (okI a b = false) := by unfold Hid; rw [HE.out]; simp [hs]
      have hs' : ¬ s = b := fun e => hs e.symm
      go_wp2
      go_ret
      exact ⟨ret_bool (by rw [HR.out]; simp [hs']), drewN_below (Below.refl _ _)⟩
end Go.Proofs.YtkaihnlknncfdaaGreatDoor

/- Rows of data that a call lays by appending. -/
namespace Go.Proofs.YtkaihnlknncfdaaGreatDoor
set_option maxRecDepth 100000
open Go.RowKit
set_option linter.unusedVariables false

/-- A row of the call's own that holds these data; what they lead to lies within G, not in the row's block. -/
def OwnRd {α : Type} (E : Rep α) (e : TypeId) (s : Bool) (base : Nat) (w : World) (v : Value) (l : List α) (G : Addr → Prop) : Prop :=
  ∃ (cells : List Value) (Fk : Nat → Addr → Prop), w.ownsRow base e E.size v l.length cells ∧ ∀ k x, l[k]? = some x → ∃ ys : List Value, (∀ j u, ys[j]? = some u → cells[k * E.size + j]? = some u) ∧ E.rd s w ys x (Fk k) ∧
    (∀ a, Fk k a → G a ∧ a.block < w.heap.size ∧ v.ownBlock ≠ some a.block) ∧ (s = true → ∀ k', k' < l.length → k' ≠ k → ∀ a, Fk k a → ¬ Fk k' a)
section
variable {α : Type} {E : Rep α} {e : TypeId} {s : Bool} {base : Nat} {w w' : World} {v : Value} {l : List α} {G : Addr → Prop}
theorem OwnRd.row (h : OwnRd E e s base w v l G) (hm : l.length ≤ 9223372036854775807) : RowRd E s w v l (fun a => base ≤ a.block ∨ G a) := by
  obtain ⟨cells, Fk, hown, he⟩ := h
  have hh := hown
  rcases hown.2 with ⟨rfl, h0⟩ | ⟨g, cap, cur, rfl, hb, hg, hcap, _⟩
  · have : l = [] := List.eq_nil_of_length_eq_zero h0
    subst this
    exact RowRd.nil _ _ _
  · refine ⟨some ⟨g, 0, none⟩, cap, Fk, rfl, ⟨hm, (fun h => by cases h), hcap⟩, fun k x hk => ?_⟩
    obtain ⟨ys, h1, h2, h3, h4⟩ := he k x hk
    have hkl : k < l.length := (List.getElem?_eq_some_iff.1 hk).1
    refine ⟨g, 0, ys, rfl, h2, fun a ha => Or.inr (h3 a ha).1, fun j u hj => ?_, fun hs => ⟨fun i _ hf => (h3 _ hf).2.2 (by simp [Value.ownBlock]), h4 hs⟩⟩
    have hjs : j < E.size := by rw [← E.len h2]; exact (List.getElem?_eq_some_iff.1 hj).1
    have hin : k * E.size + j < l.length * E.size := by
      have : (k + 1) * E.size ≤ l.length * E.size := Nat.mul_le_mul_right _ hkl
      rw [Nat.succ_mul] at this
      omega
    rw [Nat.zero_add]
    exact ⟨(hh.cellAt _ hin).trans (h1 j u hj), Or.inl hb, fun _ => hh.frozenAt _⟩
theorem OwnRd.kept (h : OwnRd E e s base w v l G) (hb : Below w.heap.size w w') : OwnRd E e s base w' v l G := by
  obtain ⟨cells, Fk, hown, he⟩ := h
  refine ⟨cells, Fk, ⟨hown.1, ?_⟩, fun k x hk => ?_⟩
  · rcases hown.2 with h2 | ⟨g, cap, cur, hv, hg, hh, r⟩
    · exact Or.inl h2
    · exact Or.inr ⟨g, cap, cur, hv, hg, (hb.block g (Array.getElem?_eq_some_iff.1 hh).1).trans hh, r⟩
  · obtain ⟨ys, h1, h2, h3, h4⟩ := he k x hk
    exact ⟨ys, h1, E.kept h2 hb, fun a ha => ⟨(h3 a ha).1, Nat.lt_of_lt_of_le (h3 a ha).2.1 hb.size, (h3 a ha).2.2⟩, h4⟩
theorem OwnRd.lt (h : OwnRd E e s base w v l G) : ∀ k, v.ownBlock = some k → base ≤ k ∧ k < w.heap.size := by
  obtain ⟨cells, Fk, hown, _⟩ := h
  exact hown.lt
theorem OwnRd.mono {G' : Addr → Prop} (h : OwnRd E e s base w v l G) (hg : ∀ a, G a → G' a) : OwnRd E e s base w v l G' := by
  obtain ⟨cells, Fk, hown, he⟩ := h
  refine ⟨cells, Fk, hown, fun k x hk => ?_⟩
  obtain ⟨ys, h1, h2, h3, h4⟩ := he k x hk
  exact ⟨ys, h1, h2, fun a ha => ⟨hg a (h3 a ha).1, (h3 a ha).2⟩, h4⟩
/-- A new empty row. -/
theorem OwnRd.empty (w : World) (hb : base ≤ w.heap.size) (G : Addr → Prop) : OwnRd E e s base (w.alloc (.cells #[] e)) (.slice (some ⟨w.heap.size, 0, none⟩) 0 0) ([] : List α) G :=
  ⟨[], fun _ _ => False, ⟨by simp, Or.inr ⟨w.heap.size, 0, #[], rfl, hb, heap_alloc_new _ _, Nat.le_refl _, Nat.zero_le _, by simp, by simp⟩⟩, fun k x hk => by simp at hk⟩
theorem OwnRd.nil (w : World) (G : Addr → Prop) : OwnRd E e s base w (.slice none 0 0) ([] : List α) G :=
  ⟨[], fun _ _ => False, ⟨by simp, Or.inl ⟨rfl, rfl⟩⟩, fun k x hk => by simp at hk⟩
/-- One element more. -/
theorem OwnRd.grow (h : OwnRd E e s base w v l G) {v' : Value} {xs : List Value} {x : α} {Fx : Addr → Prop} {cells0 : List Value} (hx : E.rd s w xs x Fx)
    (hFx : ∀ a, Fx a → a.block < w.heap.size ∧ v.ownBlock ≠ some a.block) (hd : s = true → ∀ a, Fx a → ¬ G a)
    (hcells : ∀ cells, w.ownsRow base e E.size v l.length cells → w'.ownsRow base e E.size v' (l.length + 1) (cells ++ xs)) (hsz : w.heap.size ≤ w'.heap.size)
    (hkeep : ∀ k, k < w.heap.size → v.ownBlock ≠ some k → w'.heap[k]? = w.heap[k]? ∧ v'.ownBlock ≠ some k) : OwnRd E e s base w' v' (l ++ [x]) (fun a => G a ∨ Fx a) := by
  obtain ⟨cells, Fk, hown, he⟩ := h
  have hcl : cells.length = l.length * E.size := hown.1
  have hfr : ∀ (F : Addr → Prop), (∀ a, F a → a.block < w.heap.size ∧ v.ownBlock ≠ some a.block) → ∀ a, F a → w'.cell? a = w.cell? a ∧ w'.frozen? a = w.frozen? a := fun F hF a ha =>
    ⟨World.cell?_of_block (w := w) (hkeep _ (hF a ha).1 (hF a ha).2).1, World.frozen?_of_block (w := w) (hkeep _ (hF a ha).1 (hF a ha).2).1⟩
  refine ⟨cells ++ xs, fun k => if k < l.length then Fk k else Fx, by rw [List.length_append, List.length_singleton]; exact hcells cells hown, fun k y hk => ?_⟩
  by_cases hkl : k < l.length
  · rw [List.getElem?_append_left hkl] at hk
    obtain ⟨ys, h1, h2, h3, h4⟩ := he k y hk
    refine ⟨ys, fun j u hj => ?_, ?_, ?_, ?_⟩
    · have := h1 j u hj
      rw [List.getElem?_append_left (List.getElem?_eq_some_iff.1 this).1]; exact this
    · simp only [if_pos hkl]
      exact E.frame h2 (hfr _ fun a ha => (h3 a ha).2)
    · simp only [if_pos hkl]
      exact fun a ha => ⟨Or.inl (h3 a ha).1, Nat.lt_of_lt_of_le (h3 a ha).2.1 hsz, (hkeep _ (h3 a ha).2.1 (h3 a ha).2.2).2⟩
    · intro hs k' hk' hne a ha
      simp only [if_pos hkl] at ha
      by_cases hk2 : k' < l.length
      · simp only [if_pos hk2]; exact h4 hs k' hk2 hne a ha
      · simp only [if_neg hk2]; exact fun hf => hd hs a hf (h3 a ha).1
  · have hk1 : k < (l ++ [x]).length := (List.getElem?_eq_some_iff.1 hk).1
    rw [List.length_append, List.length_singleton] at hk1
    obtain rfl : k = l.length := by omega
    rw [List.getElem?_append_right (Nat.le_refl _), Nat.sub_self] at hk
    simp at hk
    subst hk
    refine ⟨xs, fun j u hj => ?_, ?_, ?_, ?_⟩
    · rw [List.getElem?_append_right (by omega), hcl, show l.length * E.size + j - l.length * E.size = j by omega]; exact hj
    · simp only [if_neg hkl]
      exact E.frame hx (hfr _ hFx)
    · simp only [if_neg hkl]
      exact fun a ha => ⟨Or.inr ha, Nat.lt_of_lt_of_le (hFx a ha).1 hsz, (hkeep _ (hFx a ha).1 (hFx a ha).2).2⟩
    · intro hs k' hk' hne a ha
      simp only [if_neg hkl] at ha
      rw [List.length_append, List.length_singleton] at hk'
      have hk2 : k' < l.length := by omega
      simp only [if_pos hk2]
      obtain ⟨ys, _, _, q3, _⟩ := he k' _ (List.getElem?_eq_getElem hk2)
      exact fun hf => hd hs a ha (q3 a hf).1
end
theorem cells_new (w : World) (xs : List Value) (t : TypeId) : ∀ j u, xs[j]? = some u → (w.alloc (.cells xs.toArray t)).cell? ((⟨w.heap.size, 0, none⟩ : Addr).add j) = some u := by
  intro j u hj
  have h := cell_in (heap_alloc_new w (.cells xs.toArray t)) j (u := u) (by simpa using hj)
  unfold Addr.add
  split
  · rename_i h0; rw [h0] at h; exact h
  · simpa using h
/-- 'append(s, x)' of one element. -/
theorem wpList_append_el {α : Type} (E : Rep α) {ops : Array Oper} {rest : List Oper} {o : Oper} {a : Act} {Q : Exit → Act → World → Prop} (w : World) (hgd : o.guard = none) (sl y : Operand) (t e : TypeId) (i : TypeInfo) (z : Value) (bytes : Nat)
    (ho : o.op = .call { callee := .builtin .append, args := #[sl, y], argTypes := #[t, t] }) (ht : Tryz.prog.underlying t = some (.slice e)) (hi : Tryz.prog.info? e = some i) (hz : i.zero = some z) (hsize : i.size = E.size) (hby : i.bytes = bytes) (hzs : z.cells.size = E.size) (hpos : 0 < E.size)
    (s : Bool) (base : Nat) (v : Value) (l : List α) (G : Addr → Prop) (hown : OwnRd E e s base w v l G) (hs : a.eval sl = v) (xs : List Value) (x : α) (Fx : Addr → Prop) (hx : E.rd s w xs x Fx)
    (hFx : ∀ a, Fx a → a.block < w.heap.size ∧ v.ownBlock ≠ some a.block) (hd : s = true → ∀ a, Fx a → ¬ G a)
    (hy : a.eval y = .slice (some ⟨w.heap.size, 0, none⟩) 1 1) (h1 : ∀ u ∈ xs, u.oneCell' = true) (hn : l.length ≤ 1000000) (hbb : bytes ≤ 100) (hbase : base ≤ w.heap.size)
    (h : ∀ v' w', OwnRd E e s base w' v' (l ++ [x]) (fun a => G a ∨ Fx a) → Below base w w' → (∀ k, k < w.heap.size → v.ownBlock ≠ some k → w'.heap[k]? = w.heap[k]? ∧ v'.ownBlock ≠ some k) → (v'.ownBlock = v.ownBlock ∨ ∀ k, v'.ownBlock = some k → w.heap.size ≤ k) → wpList Tryz.prog ops Q rest (a.put o.dst v') w') :
    wpList Tryz.prog ops Q (o :: rest) a (w.alloc (.cells xs.toArray e)) := by
  obtain ⟨cells, Fk, ho1, he⟩ := hown
  have hbyt : (l.length + 1) * bytes ≤ 140737488355328 := Nat.le_trans (Nat.mul_le_mul (Nat.succ_le_succ hn) hbb) (by omega)
  refine wpList_append_own_at _ hgd sl y t ho base e i z E.size bytes ht hi hz hsize hby hzs hpos v l.length cells hs (ho1.alloc _) ⟨w.heap.size, 0, none⟩ 1 1 xs hy (by rw [E.len hx]; omega) (cells_new _ _ _) h1 (by unfold maxLen; omega) hbyt (by simp; omega) ?_
  intro v' w' q1 q2 _ q4
  have hkeep : ∀ k, k < w.heap.size → v.ownBlock ≠ some k → w'.heap[k]? = w.heap[k]? ∧ v'.ownBlock ≠ some k := fun k hk hv => by
    refine ⟨(q2.block k (by simp; omega) (fun e => hv e.symm)).trans (Below.heap_alloc w _ k hk), ?_⟩
    rcases q4 with q4 | q4
    · rw [q4]; exact hv
    · rw [q4]; simp; omega
  have hsz : w.heap.size ≤ w'.heap.size := Nat.le_trans (by simp) q2.size
  refine h v' w' (OwnRd.grow (cells0 := cells) ⟨cells, Fk, ho1, he⟩ hx hFx hd (fun cs hcs => ?_) hsz hkeep) ?_ hkeep ?_
  · have : cs = cells := by
      rcases ho1.2 with ⟨rfl, h0⟩ | ⟨g, cap, cur, rfl, _, hg, _, _, _, htk⟩
      · have e1 := ho1.1; have e2 := hcs.1; rw [h0, Nat.zero_mul] at e1 e2
        rw [List.eq_nil_of_length_eq_zero e1, List.eq_nil_of_length_eq_zero e2]
      · rcases hcs.2 with ⟨h0, _⟩ | ⟨g', cap', cur', hv', _, hg', _, _, _, htk'⟩
        · cases h0
        · cases hv'
          rw [hg] at hg'
          cases hg'
          rw [← htk, ← htk']
    subst this
    exact q1
  · exact ((Below.refl base w).alloc hbase _).grown q2 (by simp; omega) (fun q hq => (ho1.lt q hq).1)
  · rcases q4 with q4 | q4
    · exact Or.inl q4
    · exact Or.inr fun k hk => by rw [q4] at hk; cases hk; simp
/-- Elements that lead nowhere: the same cells stand for them in every world. -/
structure Flat {α : Type} (E : Rep α) : Prop where
  free : ∀ {s : Bool} {w : World} {ys : List Value} {x : α} {F : Addr → Prop}, E.rd s w ys x F → ∀ w', E.rd true w' ys x (fun _ => False)
  one : ∀ {s : Bool} {w : World} {ys : List Value} {x : α} {F : Addr → Prop}, E.rd s w ys x F → ∀ u ∈ ys, u.oneCell' = true
/-- The cells of a row, one behind the other. -/
def rowCells (w : World) (g off n : Nat) : List Value := (List.range n).map fun i => (w.cell? ⟨g, off + i, none⟩).getD .nilIface
theorem rowCells_len (w : World) (g off n : Nat) : (rowCells w g off n).length = n := by simp [rowCells]
theorem rowCells_at {w : World} {g off n i : Nat} {u : Value} (hi : i < n) (h : w.cell? ⟨g, off + i, none⟩ = some u) : (rowCells w g off n)[i]? = some u := by
  unfold rowCells; rw [List.getElem?_map, List.getElem?_range hi]; simp [h]
theorem RowRd.all_cells {α : Type} {E : Rep α} {s : Bool} {w : World} {g off n cap : Nat} {m : List α} {F : Addr → Prop} (h : RowRd E s w (.slice (some ⟨g, off, none⟩) n cap) m F) (hp : 0 < E.size) {i : Nat} (hi : i < m.length * E.size) :
    ∃ x ys Fk u, m[i / E.size]? = some x ∧ E.rd s w ys x Fk ∧ ys[i % E.size]? = some u ∧ w.cell? ⟨g, off + i, none⟩ = some u := by
  have hq : i / E.size < m.length := Nat.div_lt_of_lt_mul (by rw [Nat.mul_comm]; exact hi)
  obtain ⟨g', off', ys, Fk, ha, hl, hr, _, hc⟩ := h.get (List.getElem?_eq_getElem hq)
  cases ha
  have hm : i % E.size < ys.length := by rw [hl]; exact Nat.mod_lt _ hp
  refine ⟨_, ys, Fk, _, List.getElem?_eq_getElem hq, hr, List.getElem?_eq_getElem hm, ?_⟩
  have := hc _ _ (List.getElem?_eq_getElem hm)
  rwa [Nat.add_assoc, Nat.mul_comm, Nat.div_add_mod] at this
/-- 'append(s, y...)' of elements that lead nowhere. -/
theorem wpList_append_row {α : Type} (E : Rep α) (hfl : Flat E) {ops : Array Oper} {rest : List Oper} {o : Oper} {a : Act} {Q : Exit → Act → World → Prop} (w : World) (hgd : o.guard = none) (sl y : Operand) (t e : TypeId) (i : TypeInfo) (z : Value) (bytes : Nat)
    (ho : o.op = .call { callee := .builtin .append, args := #[sl, y], argTypes := #[t, t] }) (ht : Tryz.prog.underlying t = some (.slice e)) (hi : Tryz.prog.info? e = some i) (hz : i.zero = some z) (hsize : i.size = E.size) (hby : i.bytes = bytes) (hzs : z.cells.size = E.size) (hpos : 0 < E.size)
    (s s2 : Bool) (base : Nat) (v : Value) (l : List α) (G : Addr → Prop) (hown : OwnRd E e s base w v l G) (hs : a.eval sl = v) (A : Option Addr) (n cap : Nat) (m : List α) (F : Addr → Prop) (hrow : RowRd E s2 w (.slice A n cap) m F)
    (hy : a.eval y = .slice A n cap) (hn : l.length ≤ 1000000) (hm : m.length ≤ 1000000) (hbb : bytes ≤ 100) (hbase : base ≤ w.heap.size)
    (h : ∀ v' w', OwnRd E e true base w' v' (l ++ m) (fun _ => False) → Below base w w' → (∀ k, k < w.heap.size → v.ownBlock ≠ some k → w'.heap[k]? = w.heap[k]? ∧ v'.ownBlock ≠ some k) → wpList Tryz.prog ops Q rest (a.put o.dst v') w') :
    wpList Tryz.prog ops Q (o :: rest) a w := by
  obtain ⟨cells, Fk, ho1, he⟩ := hown
  have hcl : cells.length = l.length * E.size := ho1.1
  obtain ⟨A', cap', hf⟩ := hrow.form
  cases hf
  cases A with
  | none =>
    obtain ⟨_, h2, hmn⟩ := hrow.nil_cap
    subst h2 hmn
    refine wpList_append_own_none hgd sl y t ho base e i E.size ht hi v l.length cells hs ho1 hy ?_
    refine h v w ⟨cells, fun _ _ => False, by simpa using ho1, fun k x hk => ?_⟩ (Below.refl _ _) (fun k _ hv => ⟨rfl, hv⟩)
    rw [List.append_nil] at hk
    obtain ⟨ys, q1, q2, _⟩ := he k x hk
    exact ⟨ys, q1, hfl.free q2 _, fun a h => h.elim, fun _ k' _ _ a h => h.elim⟩
  | some p =>
    by_cases hme : m = []
    · subst hme
      have hbyt : (l.length + 0) * bytes ≤ 140737488355328 := Nat.le_trans (Nat.mul_le_mul hn hbb) (by omega)
      refine wpList_append_own_at _ hgd sl y t ho base e i z E.size bytes ht hi hz hsize hby hzs hpos v l.length cells hs ho1 p 0 cap [] hy (by simp) (fun j u hj => by simp at hj) (fun u hu => by simp at hu) (by unfold maxLen; omega) hbyt hbase ?_
      intro v' w' q1 q2 _ q4
      have hkeep : ∀ k, k < w.heap.size → v.ownBlock ≠ some k → w'.heap[k]? = w.heap[k]? ∧ v'.ownBlock ≠ some k := fun k hk hv => by
        refine ⟨q2.block k hk (fun e => hv e.symm), ?_⟩
        rcases q4 with q4 | q4
        · rw [q4]; exact hv
        · rw [q4]; simp; omega
      refine h v' w' ⟨cells, fun _ _ => False, by simpa using q1, fun k x hk => ?_⟩ ((Below.refl base w).grown q2 hbase (fun q hq => (ho1.lt q hq).1)) hkeep
      rw [List.append_nil] at hk
      obtain ⟨ys, r1, r2, _⟩ := he k x hk
      exact ⟨ys, r1, hfl.free r2 _, fun a h => h.elim, fun _ k' _ _ a h => h.elim⟩
    have hm0 : 0 < m.length := List.length_pos_iff.2 hme
    obtain ⟨g, off, _, _, hp, _⟩ := hrow.get (List.getElem?_eq_getElem hm0)
    cases hp
    have hbyt : (l.length + m.length) * bytes ≤ 140737488355328 := Nat.le_trans (Nat.mul_le_mul (Nat.add_le_add hn hm) hbb) (by omega)
    have hadd : ∀ j, (⟨g, off, none⟩ : Addr).add j = ⟨g, off + j, none⟩ := fun j => by unfold Addr.add; split <;> simp_all
    refine wpList_append_own_at _ hgd sl y t ho base e i z E.size bytes ht hi hz hsize hby hzs hpos v l.length cells hs ho1 ⟨g, off, none⟩ m.length cap (rowCells w g off (m.length * E.size)) hy (rowCells_len _ _ _ _) (fun j u hj => ?_) (fun u hu => ?_) (by unfold maxLen; omega) hbyt hbase ?_
    · have hjl : j < m.length * E.size := by have := (List.getElem?_eq_some_iff.1 hj).1; rwa [rowCells_len] at this
      obtain ⟨_, _, _, u', _, _, _, hc⟩ := hrow.all_cells hpos hjl
      rw [rowCells_at hjl hc] at hj
      cases hj
      rw [hadd]; exact hc
    · obtain ⟨j, hj⟩ := List.mem_iff_getElem?.1 hu
      have hjl : j < m.length * E.size := by have := (List.getElem?_eq_some_iff.1 hj).1; rwa [rowCells_len] at this
      obtain ⟨_, ys, _, u', _, hr, hyu, hc⟩ := hrow.all_cells hpos hjl
      rw [rowCells_at hjl hc] at hj
      cases hj
      exact hfl.one hr _ (List.mem_of_getElem? hyu)
    · intro v' w' q1 q2 _ q4
      have hkeep : ∀ k, k < w.heap.size → v.ownBlock ≠ some k → w'.heap[k]? = w.heap[k]? ∧ v'.ownBlock ≠ some k := fun k hk hv => by
        refine ⟨q2.block k hk (fun e => hv e.symm), ?_⟩
        rcases q4 with q4 | q4
        · rw [q4]; exact hv
        · rw [q4]; simp; omega
      refine h v' w' ⟨cells ++ rowCells w g off (m.length * E.size), fun _ _ => False, by rw [List.length_append]; exact q1, fun k x hk => ?_⟩ ((Below.refl base w).grown q2 hbase (fun q hq => (ho1.lt q hq).1)) hkeep
      by_cases hkl : k < l.length
      · rw [List.getElem?_append_left hkl] at hk
        obtain ⟨ys, r1, r2, _⟩ := he k x hk
        refine ⟨ys, fun j u hj => ?_, hfl.free r2 _, fun a h => h.elim, fun _ k' _ _ a h => h.elim⟩
        have := r1 j u hj
        rw [List.getElem?_append_left (List.getElem?_eq_some_iff.1 this).1]; exact this
      · rw [List.getElem?_append_right (by omega)] at hk
        obtain ⟨g', off', ys, F', ha, hl', hr, _, hc⟩ := hrow.get hk
        cases ha
        refine ⟨ys, fun j u hj => ?_, hfl.free hr _, fun a h => h.elim, fun _ k' _ _ a h => h.elim⟩
        have hkm : k - l.length < m.length := (List.getElem?_eq_some_iff.1 hk).1
        have hjs : j < E.size := by rw [← hl']; exact (List.getElem?_eq_some_iff.1 hj).1
        have hin : (k - l.length) * E.size + j < m.length * E.size := by
          have : (k - l.length + 1) * E.size ≤ m.length * E.size := Nat.mul_le_mul_right _ hkm
          rw [Nat.succ_mul] at this
          omega
        have hsub : k * E.size + j - l.length * E.size = (k - l.length) * E.size + j := by
          have h1 : k * E.size = (k - l.length) * E.size + l.length * E.size := by rw [← Nat.add_mul, Nat.sub_add_cancel (by omega)]
          omega
        have hge : l.length * E.size ≤ k * E.size + j := by
          have : l.length * E.size ≤ k * E.size := Nat.mul_le_mul_right _ (by omega)
          omega
        rw [List.getElem?_append_right (by omega), hcl, hsub]
        refine rowCells_at hin ?_
        rw [← Nat.add_assoc]
        exact hc j u hj
/-- What a call has laid between s1 and s2 stands as it did; a row that grows lies apart from it. -/
structure KeepB (s1 s2 : Nat) (w w' : World) : Prop where
  size : s2 ≤ w'.heap.size
  same : ∀ k, s1 ≤ k → k < s2 → w'.heap[k]? = w.heap[k]?
def Apart (v : Value) (s1 s2 : Nat) : Prop := ∀ k, v.ownBlock = some k → k < s1 ∨ s2 ≤ k
theorem KeepB.refl {s1 s2 : Nat} {w : World} (h : s2 ≤ w.heap.size) : KeepB s1 s2 w w := ⟨h, fun _ _ _ => rfl⟩
theorem KeepB.below {s1 s2 : Nat} {a b c : World} (h : KeepB s1 s2 a b) (k : Below b.heap.size b c) : KeepB s1 s2 a c :=
  ⟨Nat.le_trans h.size k.size, fun i hi hj => (k.block i (Nat.lt_of_lt_of_le hj h.size)).trans (h.same i hi hj)⟩
theorem KeepB.grow {s1 s2 : Nat} {a b c : World} {v : Value} (h : KeepB s1 s2 a b) (hap : Apart v s1 s2) (hsz : b.heap.size ≤ c.heap.size) (hk : ∀ k, k < b.heap.size → v.ownBlock ≠ some k → c.heap[k]? = b.heap[k]?) : KeepB s1 s2 a c :=
  ⟨Nat.le_trans h.size hsz, fun i hi hj => (hk i (Nat.lt_of_lt_of_le hj h.size) (fun e => by rcases hap i e with h1 | h1 <;> omega)).trans (h.same i hi hj)⟩
theorem Apart.grow {s1 s2 : Nat} {v v' : Value} {n : Nat} (h : Apart v s1 s2) (hn : s2 ≤ n) (hm : v'.ownBlock = v.ownBlock ∨ ∀ k, v'.ownBlock = some k → n ≤ k) : Apart v' s1 s2 := fun k hk => by
  rcases hm with h1 | h1
  · rw [h1] at hk; exact h k hk
  · exact Or.inr (Nat.le_trans hn (h1 k hk))
theorem RowRd.keepB {α : Type} {E : Rep α} {s : Bool} {s1 s2 : Nat} {w w' : World} {v : Value} {l : List α} {F : Addr → Prop} (h : RowRd E s w v l F) (hF : ∀ a, F a → s1 ≤ a.block ∧ a.block < s2) (hk : KeepB s1 s2 w w') : RowRd E s w' v l F :=
  h.frame fun a ha => ⟨World.cell?_of_block (w := w) (hk.same _ (hF a ha).1 (hF a ha).2), World.frozen?_of_block (w := w) (hk.same _ (hF a ha).1 (hF a ha).2)⟩
theorem apart_move {s1 s2 : Nat} {w : World} {v : Value} (hap : Apart v s1 s2) {Fk : Addr → Prop} (hFk : ∀ p, Fk p → s1 ≤ p.block ∧ p.block < s2) (hs : s2 ≤ w.heap.size) :
    ∀ p, Fk p → p.block < w.heap.size ∧ v.ownBlock ≠ some p.block := fun p hp => by
  have h := hFk p hp
  refine ⟨by omega, fun e => ?_⟩
  rcases hap _ e with h1 | h1 <;> omega
/-- A new row of one element that leads nowhere. -/
theorem OwnRd.single {α : Type} {E : Rep α} {e : TypeId} (hfl : Flat E) (w : World) {s : Bool} {ys : List Value} {x : α} {F : Addr → Prop} (hx : E.rd s w ys x F) : OwnRd E e true w.heap.size (w.alloc (.cells ys.toArray e)) (.slice (some ⟨w.heap.size, 0, none⟩) 1 1) [x] (fun _ => False) :=
  ⟨ys, fun _ _ => False, ⟨by rw [List.length_singleton, E.len hx, Nat.one_mul], Or.inr ⟨w.heap.size, 1, ys.toArray, rfl, Nat.le_refl _, heap_alloc_new _ _, Nat.le_refl _, by unfold maxLen; omega, by simp [E.len hx], by simp [E.len hx, List.take_of_length_le]⟩⟩, fun k y hk => by
    match k, hk with
    | 0, hk =>
      simp at hk
      subst hk
      exact ⟨ys, fun j u hj => by rw [Nat.zero_mul, Nat.zero_add]; exact hj, hfl.free hx _, fun a h => h.elim, fun _ k' _ _ a h => h.elim⟩⟩
end Go.Proofs.YtkaihnlknncfdaaGreatDoor

/- The type of links: its row in the program's table. -/
namespace Go.Proofs.YtkaihnlknncfdaaGreatDoor
set_option maxRecDepth 100000
open Go.RowKit
theorem Tryz.infoTLink : (Tryz.prog.info? 118).map (fun i => (i.zero, i.size, i.bytes)) = some (some (.agg #[.int .u8 0, .int .u8 0]), 2, 2) := by kernel_rfl
end Go.Proofs.YtkaihnlknncfdaaGreatDoor

/- Appending links to a row of the call's own; answers that lie in a cell; boxes. -/
namespace Go.Proofs.YtkaihnlknncfdaaGreatDoor
set_option maxRecDepth 100000
open Go.RowKit M
set_option linter.unusedVariables false
set_option linter.unusedSimpArgs false

theorem drewN_heap (w : World) (n : Nat) : (w.drewN n).heap = w.heap := by
  induction n generalizing w with
  | zero => rfl
  | succ n ih => exact (ih w.drew)
theorem inC_drewN {w : World} {g n : Nat} {cs : Array Value} {t : TypeId} (h : InC w g cs t) : InC (w.drewN n) g cs t := by
  unfold InC; rw [drewN_heap]; exact h
theorem Below6.drew {B : Nat} {w w' : World} (h : Below B w w') : Below B w w'.drew := h.drew
theorem Below6.drewN {B n : Nat} {w w' : World} (h : Below B w w') : Below B w (w'.drewN n) := drewN_below h
theorem InC.put {w : World} {B : Nat} {cs : Array Value} {t : TypeId} (h : InC w B cs t) (j : Nat) (u : Value) : InC (w.setCell ⟨B, j, none⟩ u) B (cs.setIfInBounds j u) t := heap_setCell_same w B j cs t u h
def lkC (x : DLink) : List Value := [.int .u8 (x.In.toNat : Int), .int .u8 (x.Out.toNat : Int)]
theorem lkC_len (ls : List DLink) : (ls.flatMap lkC).length = 2 * ls.length := by
  induction ls with
  | nil => rfl
  | cons x l ih => rw [List.flatMap_cons, List.length_append, ih, List.length_cons]; simp [lkC]; omega
theorem results_cell_rt {P : Program} {fn : Func} {p u : Tmp} {ty : TypeId} (h : fn.results = #[.cell p ty, .tmp u]) (tmps : Array Value) (w : World) (g : Nat) (t : TypeId) (cs : Array Value) (fr : Nat × Nat) (d : TypeDesc)
    (hp : tmps.getD p undef = .pointer (some ⟨g, 0, none⟩)) (hg : w.heap[g]? = some (.cells cs t fr))
    (hu : P.underlying ty = some d) (hd : (match d with | .struct _ | .array _ _ => true | _ => false) = true) (hi : (P.info? ty).map (·.size) = some cs.size) :
    (results fn tmps).run P w = .ok (.tuple #[.agg cs, tmps.getD u undef]) w := by
  have hp' : tmps[p]?.getD undef = .pointer (some ⟨g, 0, none⟩) := by simpa using hp
  rw [results_cell_tmp h]
  simp [hp', asAddr, run_loadVar_row w g t ty cs fr d hg hu hd hi, Result.andThen]
theorem infoCd1 : (Tryz.prog.info? 55).map (·.size) = some 1 := by kernel_rfl
theorem lkC_one (ls : List DLink) : ∀ v ∈ ls.flatMap lkC, v.oneCell' = true := by
  intro v hv
  rw [List.mem_flatMap] at hv
  obtain ⟨x, _, hx⟩ := hv
  simp [lkC] at hx
  rcases hx with rfl | rfl <;> rfl
theorem lkC_at : ∀ (ls : List DLink) (k : Nat) {x : DLink}, ls[k]? = some x → ∀ j u, (lkC x)[j]? = some u → (ls.flatMap lkC)[k * 2 + j]? = some u
  | [], k, x, h, j, u, hu => by simp at h
  | y :: ls, 0, x, h, j, u, hu => by
    simp at h; subst h
    rw [List.flatMap_cons, List.getElem?_append_left (by have := (List.getElem?_eq_some_iff.1 hu).1; simpa using this)]
    simpa using hu
  | y :: ls, k + 1, x, h, j, u, hu => by
    rw [List.flatMap_cons, List.getElem?_append_right (by simp [lkC]; omega)]
    have := lkC_at ls k (by simpa using h) j u hu
    rw [show (k + 1) * 2 + j - (lkC y).length = k * 2 + j by simp [lkC]; omega]
    exact this
def CdPost (ls : List DLink) (b : Bool) (w : World) (e : Ending) (w' : World) : Prop := ∃ u, e = .returned (.tuple #[.agg #[u], .bool b]) ∧ RowRd rLink true w' u ls (fun a => w.heap.size ≤ a.block) ∧ Below w.heap.size w w'
theorem own_not {w : World} {base n z : Nat} {e : TypeId} {u : Value} {c : List Value} (h : w.ownsRow base e z u n c) {g : Nat} {cs : Array Value} {t : TypeId} (hg : InC w g cs t) (ht : t ≠ e) : u.ownBlock ≠ some g := by
  rcases h.2 with ⟨rfl, _⟩ | ⟨g', cap, cur, rfl, _, hg', _⟩
  · simp [Value.ownBlock]
  · intro e
    have : g' = g := by simpa [Value.ownBlock] using e
    subst this
    unfold InC at hg
    rw [hg'] at hg
    injection (Option.some.inj hg) with _ e2 _
    exact ht e2.symm
theorem own_form {w : World} {base n z : Nat} {e : TypeId} {u : Value} {c : List Value} (h : w.ownsRow base e z u n c) : ∃ A cap, u = .slice A n cap := by
  rcases h.2 with ⟨rfl, rfl⟩ | ⟨g', cap, cur, rfl, _⟩
  · exact ⟨_, _, rfl⟩
  · exact ⟨_, _, rfl⟩
theorem own_keep {w w' : World} {base n z : Nat} {e : TypeId} {u : Value} {c : List Value} (h : w.ownsRow base e z u n c) (hb : Below w.heap.size w w') : w'.ownsRow base e z u n c := by
  refine ⟨h.1, ?_⟩
  rcases h.2 with hn | ⟨g, cap, cur, e, hg0, hg, rest⟩
  · exact Or.inl hn
  · exact Or.inr ⟨g, cap, cur, e, hg0, (hb.block g (lt_of_block hg)).trans hg, rest⟩
theorem own_set {w : World} {base n z : Nat} {e : TypeId} {u : Value} {c : List Value} (h : w.ownsRow base e z u n c) {p : Addr} (hp : p.block < base) (x : Value) : (w.setCell p x).ownsRow base e z u n c := by
  refine ⟨h.1, ?_⟩
  rcases h.2 with hn | ⟨g, cap, cur, e, hg0, hg, rest⟩
  · exact Or.inl hn
  · exact Or.inr ⟨g, cap, cur, e, hg0, (heap_setCell_other w p g x (by omega)).trans hg, rest⟩
theorem cell_pair_new (w : World) (x y : Value) (t : TypeId) : ∀ j u, [x, y][j]? = some u → (w.alloc (.cells #[x, y] t)).cell? ((⟨w.heap.size, 0, none⟩ : Addr).add j) = some u := cells_new w [x, y] t
theorem run_append_link (w : World) (ty : TypeId) (base : Nat) (v : Value) (n : Nat) (l : List Value) (hown : w.ownsRow base 118 2 v n l) (a b : Int) (hn : n ≤ 2000000) (hbase : base ≤ w.heap.size) :
    ∃ v' w', (Builtin.append_ #[53, 53] ty #[v, .slice (some ⟨w.heap.size, 0, none⟩) 1 1]).run Tryz.prog (w.alloc (.cells #[.int .u8 a, .int .u8 b] 118)) = .ok v' w' ∧
      w'.ownsRow base 118 2 v' (n + 1) (l ++ [.int .u8 a, .int .u8 b]) ∧ Below base w w' ∧ (∀ g cs t, t ≠ 118 → InC w g cs t → InC w' g cs t) := by
  obtain ⟨i0, hi, hz0, hz1, hz2⟩ := info_parts Tryz.infoTLink
  obtain ⟨v', w', hr, h1, h2, _, h4⟩ := run_append_own_at (P := Tryz.prog) (w.alloc (.cells #[.int .u8 a, .int .u8 b] 118)) base 53 ty 118 i0 (.agg #[.int .u8 0, .int .u8 0]) 2 2 Tryz.underlying53 hi hz0 hz1 hz2 rfl (by decide) v n l (hown.alloc _) ⟨w.heap.size, 0, none⟩ 1 1 [.int .u8 a, .int .u8 b] rfl (cell_pair_new _ _ _ _)
    (fun u hu => by simp at hu; rcases hu with rfl | rfl <;> rfl) (by unfold maxLen; omega) (by omega) (by simp; omega)
  refine ⟨v', w', hr, h1, ((Below.refl base w).alloc hbase _).grown h2 (by simp; omega) (fun q hq => (hown.lt q hq).1), fun g cs t ht hg => ?_⟩
  exact ((h2.block g (by simp; have := hg.lt; omega) (fun e => own_not hown hg ht e.symm)).trans (Below.heap_alloc w _ g hg.lt)).trans hg
theorem step_append_link {ops : Array Oper} {o : Oper} {act : Act} {K : Act → World → Prop} {Q : Exit → Act → World → Prop} {E : Prop} (w : World) (hgd : o.guard = none) (s x : Operand)
    (ho : o.op = .call { callee := .builtin .append, args := #[s, x], argTypes := #[53, 53] })
    (base : Nat) (v : Value) (n : Nat) (l : List Value) (hown : w.ownsRow base 118 2 v n l) (a b : Int)
    (nb : Nat) (hnb : nb = w.heap.size) (hn : n ≤ 2000000) (hbase : base ≤ w.heap.size) (hs : act.eval s = v) (hx : act.eval x = .slice (some ⟨nb, 0, none⟩) 1 1)
    (h : ∀ v' w', w'.ownsRow base 118 2 v' (n + 1) (l ++ [.int .u8 a, .int .u8 b]) → Below base w w' → (∀ g cs t, t ≠ 118 → InC w g cs t → InC w' g cs t) → K (act.put o.dst v') w') :
    if Region.wanted o (yielded ops act.tmps) = true then Oper.wp Tryz.prog o act (w.alloc (.cells #[.int .u8 a, .int .u8 b] 118)) K Q else E := by
  have hw : Region.wanted o (yielded ops act.tmps) = true := by simp [Region.wanted, hgd]
  rw [if_pos hw]
  subst hnb
  obtain ⟨v', w', hr, h1, h2, h3⟩ := run_append_link w o.type base v n l hown a b hn hbase
  unfold Oper.wp execOp
  simp only [ho, resolve, invoke, builtin, Sem.run_bind, Sem.run_pure, Result.andThen_ok, List.map_toArray, List.map_cons, List.map_nil, hs, hx, hr]
  exact h v' w' h1 h2 h3
theorem step_append_link_drew {ops : Array Oper} {o : Oper} {act : Act} {K : Act → World → Prop} {Q : Exit → Act → World → Prop} {E : Prop} (w : World) (hgd : o.guard = none) (s x : Operand)
    (ho : o.op = .call { callee := .builtin .append, args := #[s, x], argTypes := #[53, 53] })
    (base : Nat) (v : Value) (n : Nat) (l : List Value) (hown : w.ownsRow base 118 2 v n l) (a b : Int)
    (nb : Nat) (hnb : nb = w.heap.size) (hn : n ≤ 2000000) (hbase : base ≤ w.heap.size) (hs : act.eval s = v) (hx : act.eval x = .slice (some ⟨nb, 0, none⟩) 1 1)
    (h : ∀ v' w', w'.ownsRow base 118 2 v' (n + 1) (l ++ [.int .u8 a, .int .u8 b]) → Below base w w' → (∀ g cs t, t ≠ 118 → InC w g cs t → InC w' g cs t) → K (act.put o.dst v') w') :
    if Region.wanted o (yielded ops act.tmps) = true then Oper.wp Tryz.prog o act ((w.alloc (.cells #[.int .u8 a, .int .u8 b] 118)).drew) K Q else E :=
  step_append_link w.drew hgd s x ho base v n l (own_keep hown ⟨rfl, rfl, rfl, Nat.le_refl _, fun _ _ => rfl⟩) a b nb hnb hn hbase hs hx fun v' w' h1 h2 h3 => h v' w' h1 ⟨h2.os, h2.tape, h2.output, h2.size, h2.block⟩ h3
theorem wpList_append_link {ops : Array Oper} {rest : List Oper} {o : Oper} {act : Act} {Q : Exit → Act → World → Prop} (w : World) (hgd : o.guard = none) (s x : Operand)
    (ho : o.op = .call { callee := .builtin .append, args := #[s, x], argTypes := #[53, 53] })
    (base : Nat) (v : Value) (n : Nat) (l : List Value) (hown : w.ownsRow base 118 2 v n l) (a b : Int)
    (nb : Nat) (hnb : nb = w.heap.size) (hn : n ≤ 2000000) (hbase : base ≤ w.heap.size) (hs : act.eval s = v) (hx : act.eval x = .slice (some ⟨nb, 0, none⟩) 1 1)
    (h : ∀ v' w', w'.ownsRow base 118 2 v' (n + 1) (l ++ [.int .u8 a, .int .u8 b]) → Below base w w' → (∀ g cs t, t ≠ 118 → InC w g cs t → InC w' g cs t) → wpList Tryz.prog ops Q rest (act.put o.dst v') w') :
    wpList Tryz.prog ops Q (o :: rest) act (w.alloc (.cells #[.int .u8 a, .int .u8 b] 118)) := by
  refine wpList_plain hgd fun K hK => ?_
  subst hnb
  obtain ⟨v', w', hr, h1, h2, h3⟩ := run_append_link w o.type base v n l hown a b hn hbase
  unfold Oper.wp execOp
  simp only [ho, resolve, invoke, builtin, Sem.run_bind, Sem.run_pure, Result.andThen_ok, List.map_toArray, List.map_cons, List.map_nil, hs, hx, hr]
  exact hK _ _ (h v' w' h1 h2 h3)
theorem own_links {w : World} {base : Nat} {v : Value} {ls : List DLink} (h : w.ownsRow base 118 2 v ls.length (ls.flatMap lkC)) (hm : ls.length ≤ 2000000) : RowRd rLink true w v ls (fun a => base ≤ a.block) :=
  (RowRd.of_flat (E := rLink) h (by omega) (fun k x hk => ⟨lkC x, fun j u hj => by rw [rLink_size]; exact lkC_at ls k hk j u hj, rLink_mk⟩)).mono (fun a ha => ha.1)
theorem lk_more (ls : List DLink) (x : DLink) : (ls ++ [x]).flatMap lkC = ls.flatMap lkC ++ [.int .u8 (x.In.toNat : Int), .int .u8 (x.Out.toNat : Int)] := by
  rw [List.flatMap_append]; rfl
theorem own_more {w : World} {base : Nat} {v : Value} {ls : List DLink} (x : DLink) (h : w.ownsRow base 118 2 v (ls.length + 1) (ls.flatMap lkC ++ [.int .u8 (x.In.toNat : Int), .int .u8 (x.Out.toNat : Int)])) : w.ownsRow base 118 2 v (ls ++ [x]).length ((ls ++ [x]).flatMap lkC) := by
  rw [List.length_append, lk_more]; exact h
def BoxC (w : World) (g : Nat) (v : Value) : Prop := w.cell? ⟨g, 0, none⟩ = some v ∧ g < w.heap.size
theorem BoxC.kept {w w' : World} {g : Nat} {v : Value} (h : BoxC w g v) (hb : Below w.heap.size w w') : BoxC w' g v := ⟨(hb.cell (show (⟨g, 0, none⟩ : Addr).block < _ from h.2)).trans h.1, Nat.lt_of_lt_of_le h.2 hb.size⟩
theorem BoxC.apart {w w' : World} {g : Nat} {v : Value} {F : Addr → Prop} (h : BoxC w g v) (hu : Unch F w w') (hd : ¬ F ⟨g, 0, none⟩) : BoxC w' g v := ⟨(hu.same ⟨g, 0, none⟩ h.2 hd).1.trans h.1, Nat.lt_of_lt_of_le h.2 hu.size⟩
theorem BoxC.new (w : World) (v : Value) (t : TypeId) : BoxC (w.alloc (.cells #[v] t)) w.heap.size v := ⟨InC.cell (heap_alloc_new w _) 0 rfl, by simp⟩
theorem cnt_links (l : List DLink) : cntRow rLink l = 2 * l.length := by
  unfold cntRow
  induction l with
  | nil => rfl
  | cons x l ih => rw [List.map_cons, List.sum_cons, ih, rLink_cnt, List.length_cons]; omega
end Go.Proofs.YtkaihnlknncfdaaGreatDoor
