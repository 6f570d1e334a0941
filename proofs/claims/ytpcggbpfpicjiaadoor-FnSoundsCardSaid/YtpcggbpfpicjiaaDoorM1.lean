/- The model's SoundsWith, l2Sounds: what they answer. -/
import Derived.Test.YtpcggbpfpicjiaaDoorS6
import Derived.LoopN
namespace Go.Proofs.YtpcggbpfpicjiaaDoor
open Go.RowKit Go.Sort M

theorem specIn_any (x a b : Int) (w : World) :
    Calls Tryd.prog 48 #[.int .i64 x, .int .i64 a, .int .i64 b] w fun e w' => e = .returned (.bool (decide (a ≤ x) && decide (x ≤ b))) ∧ w = w' := by
  go_enter Tryd.func48, Tryd.ntmps48
  go_wp2
  all_goals
    go_ret
    refine ⟨ret_bool ?_, rfl⟩
    simp_all <;> omega
/-- A slice of one sound. -/
theorem snd_slice (j : Nat) (h : j < 7) (w : World) : (Instr.slice 9 (.string ⟨#[112, 116, 98, 100, 110, 97, 105]⟩) (some (.int .i64 j)) (some (.int .i64 ((j : Int) + 1))) none).run Tryd.prog w = .ok (.string ⟨#[byt (sndAt j)]⟩) w := by
  rcases (show j = 0 ∨ j = 1 ∨ j = 2 ∨ j = 3 ∨ j = 4 ∨ j = 5 ∨ j = 6 by omega) with rfl | rfl | rfl | rfl | rfl | rfl | rfl <;> kernel_rfl
theorem cat_last (l : List UInt8) (a : UInt8) : (⟨l.toArray⟩ : ByteArray) ++ ⟨#[a]⟩ = ⟨(l ++ [a]).toArray⟩ := by
  apply ByteArray.ext
  simp
theorem cls_add (p : Int → Bool) (j : Nat) (h : j < 7) (w : World) : (Op.stringOp .add ⟨(clsL p j).toArray⟩ ⟨#[byt (sndAt j)]⟩).run Tryd.prog w = .ok (.string ⟨(clsL p j ++ [byt (sndAt j)]).toArray⟩) w := by
  have := clsL_len p j
  rw [run_string_add_sum _ _ _ (by simp [ByteArray.size]; omega), cat_last]
set_option maxHeartbeats 800000 in
theorem specSw_any (f : Int) (y : Bool) (w : World) :
    Calls Tryd.prog 29 #[.int .i64 f, .bool y] w fun e w' => e = .returned (.string ⟨(swL f y).toArray⟩) ∧ w = w' := by
  by_cases h : 0 ≤ f ∧ f < 5
  · have HE := Lib.hid (swL_in y h)
    have hb : (decide (0 ≤ f) && decide (f ≤ 4)) = true := by simp; omega
    clear h
    go_enter Tryd.func29, Tryd.ntmps29
    go_wp2
    go_loop [5, 6] (fun v i => ∃ (j : Nat), j ≤ 7 ∧ i = .int .i64 j ∧ v = .string ⟨(clsL (fun x => hasF x f == y) j).toArray⟩) (fun _ i => 7 - (intOf i).toNat)
    case atStart => exact ⟨0, by omega, rfl, rfl⟩
    case round =>
      obtain ⟨j, hj, rfl, rfl⟩ := hrel
      by_cases hlt : j < 7
      · have hr := snd_read j hlt
        have hsl := snd_slice j hlt
        have hadd := cls_add (fun x => hasF x f == y) j hlt
        clear hr
        have hr2 := snd_read j hlt
        go_wp2_with (first | (go_at_call 48; refine (specIn_any _ _ _ _).mono ?_; rintro e w1 ⟨rfl, rfl⟩) | (go_at_call 27; refine (specHas_any _ _ _).mono ?_; rintro e w1 ⟨rfl, rfl⟩))
        · have hp : (hasF (sndAt j) f == y) = true := by assumption
          go_round
          case rel =>
            refine ⟨j + 1, by omega, by go_num, ?_⟩
            rw [clsL_yes _ j hp]
          case measure => simp [intOf]; omega
        · have hp : (hasF (sndAt j) f == y) = false := by assumption
          go_round
          case rel =>
            refine ⟨j + 1, by omega, by go_num, ?_⟩
            rw [clsL_no _ j hp]
          case measure => simp [intOf]; omega
      · obtain rfl : j = 7 := by omega
        go_wp2
        go_ret
        exact ⟨ret_str (by rw [HE.out]), rfl⟩
  · have HE := Lib.hid (swL_out y h)
    have hb : (decide (0 ≤ f) && decide (f ≤ 4)) = false := by simp; omega
    clear h
    go_enter Tryd.func29, Tryd.ntmps29
    go_wp2
    refine wp_loop_rounds 1 ?_
    rw [rounds_succ]
    go_wp2_with (go_at_call 48; refine (specIn_any _ _ _ _).mono ?_; rintro e w1 ⟨rfl, rfl⟩)
    go_ret
    exact ⟨ret_str (by rw [HE.out]), rfl⟩
def l2S (l : List UInt8) : Bool := l.all (fun b => isSnd (nb b)) && decide (l.length ≤ 20)
theorem okCls_l2 (l : List UInt8) (h : l ≠ []) : okCls l = l2S l := by
  unfold okCls l2S
  cases l with
  | nil => exact absurd rfl h
  | cons a l => simp only [List.isEmpty_cons, Bool.not_false, Bool.true_and]; rw [Bool.and_comm]
theorem ne_nil_of {s : ByteArray} (h : 0 < s.size) : s.data.toList ≠ [] := by
  intro e
  have h3 : s.data.toList.length = s.size := by simp
  rw [e, List.length_nil] at h3
  omega
theorem l2S_not {s : ByteArray} (i : Nat) (h : i < s.size) (hn : isSnd (s[i].toNat : Int) = false) : l2S s.data.toList = false := by
  have hne := ne_nil_of (Nat.lt_of_le_of_lt (Nat.zero_le i) h)
  rw [← okCls_l2 _ hne]; exact ok_not i h hn
theorem l2S_all {s : ByteArray} (h : ∀ i, (hi : i < s.size) → isSnd (s[i].toNat : Int) = true) : l2S s.data.toList = decide ((s.size : Int) ≤ 20) := by
  unfold l2S
  have ha : s.data.toList.all (fun b => isSnd (nb b)) = true := by
    rw [List.all_eq_true]
    intro b hb
    obtain ⟨i, hi, rfl⟩ := List.mem_iff_getElem.1 hb
    exact h i (by simpa using hi)
  have hl : s.data.toList.length = s.size := by simp
  rw [ha, hl, Bool.true_and]
  simp
  omega
theorem specL2_any (s : ByteArray) (w : World) (hs : s.size ≤ maxLen) :
    Calls Tryd.prog 43 #[.string s] w fun e w' => e = .returned (.bool (l2S s.data.toList)) ∧ w = w' := by
  unfold maxLen at hs
  go_enter Tryd.func43, Tryd.ntmps43
  go_wp2
  go_loop [3] (fun i => ∃ (j : Nat), j ≤ s.size ∧ i = .int .i64 j ∧ Hid (∀ k, (hk : k < s.size) → k < j → isSnd (s[k].toNat : Int) = true)) (fun i => s.size - (intOf i).toNat)
  case atStart => exact ⟨0, by omega, rfl, fun k _ hk => by omega⟩
  case round =>
    obtain ⟨j, hj, rfl, hall⟩ := hrel
    by_cases hlt : j < s.size
    · go_wp2_with fail
      refine (specIsSound_any _ _).mono ?_
      rintro e w2 ⟨rfl, rfl⟩
      go_wp2
      · have hn : isSnd (s[j].toNat : Int) = false := of_not_true (by assumption)
        go_ret
        exact ⟨ret_bool (l2S_not j hlt hn).symm, rfl⟩
      · have hn : isSnd (s[j].toNat : Int) = true := of_not_false (by assumption)
        go_round
        case rel =>
          refine ⟨j + 1, by omega, by go_num, fun k hk hkj => ?_⟩
          by_cases hkj2 : k = j
          · subst hkj2; exact hn
          · exact hall.out k hk (by omega)
        case measure => simp [intOf]; omega
    · obtain rfl : j = s.size := by omega
      have HO := Lib.hid (l2S_all fun i hi => hall.out i hi hi)
      go_wp2
      go_ret
      exact ⟨ret_bool HO.out.symm, rfl⟩
end Go.Proofs.YtpcggbpfpicjiaaDoor
