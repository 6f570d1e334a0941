/- EncodeVarint, the model's and the program's: one answer. -/
import Derived.Test.YtfidmjpgceljkaaApp
import Derived.Test.YtfidmjpgceljkaaVar
namespace Go.Proofs.Ytfidmjpgceljkaa
open Go.RowKit M

theorem specVar_bad (n : Int) (w : World) (h : n < 0 ∨ 562949953421311 < n) :
    Calls Try.prog 13 #[.int .i64 n] w fun e w' => e = .returned (.string ⟨#[]⟩) ∧ w = w' := by
  rcases h with h | h
  · go_enter Try.func13, Try.ntmps13
    go_wp2
    go_ret
    exact ⟨rfl, rfl⟩
  · have h0 : 0 ≤ n := by omega
    have h2 : ¬ n ≤ 562949953421311 := by omega
    have hd : decide (n ≤ 562949953421311) = false := by simpa using h
    clear h
    go_enter Try.func13, Try.ntmps13
    go_wp2
    go_ret
    exact ⟨rfl, rfl⟩
theorem implVar_bad (n : Int) (w : World) (h : n < 0 ∨ 562949953421311 < n) :
    Calls Try.prog 14 #[.int .i64 n] w fun e w' => e = .returned (.string ⟨#[]⟩) ∧ w = w' := by
  rcases h with h | h
  · go_enter Try.func14, Try.ntmps14
    go_wp2
    go_ret
    exact ⟨rfl, rfl⟩
  · have h0 : 0 ≤ n := by omega
    go_enter Try.func14, Try.ntmps14
    go_wp2
    go_ret
    exact ⟨rfl, rfl⟩

theorem l1In_t (x lo hi : Int) (w : World) (h1 : lo ≤ x) (h2 : x ≤ hi) : Calls Try.prog 21 #[.int .i64 x, .int .i64 lo, .int .i64 hi] w fun e w' => e = .returned (.bool true) ∧ w = w' := by
  go_enter Try.func21, Try.ntmps21
  go_wp2
  go_ret
  exact ⟨rfl, rfl⟩

set_option maxHeartbeats 400000 in
theorem specVar_any (n : Int) (w : World) (h0 : 0 ≤ n) (h1 : n ≤ 562949953421311) :
    Calls Try.prog 13 #[.int .i64 n] w fun e w' => e = .returned (.string ⟨(vl 6 n).toArray⟩) ∧ Below w.heap.size w w' := by
  go_enter Try.func13, Try.ntmps13
  go_wp2_with (go_at_call 21; refine (l1In_t _ _ _ _ h0 h1).mono ?_; rintro e w' ⟨rfl, rfl⟩)
  go_loopw [0, 3] (fun x v wr => ∃ (c : Int) (f j : Nat) (out : List UInt8), 0 ≤ c ∧ c ≤ 562949953421311 ∧ j ≤ 6 ∧ x = .int .i64 c ∧ Hid (j + f = 6) ∧ Hid (c < 128 ^ (f + 1)) ∧ Hid (vl 6 n = out ++ vl f c) ∧
      wr.ownsRow w.heap.size 5 1 v j (cellsB out) ∧ Below w.heap.size w wr) (fun x _ _ => (intOf x).toNat)
  case atStart => exact ⟨n, 6, 0, [], h0, h1, by omega, rfl, rfl, by unfold Hid; omega, rfl, World.ownsRow_lit w #[] 0 (Nat.le_refl _) (by unfold maxLen; omega) rfl, (Below.refl _ _).alloc (Nat.le_refl _) _⟩
  case round =>
    obtain ⟨c, f, j, out, hc0, hc1, hj, rfl, hf, hlt, hv, hown, hb⟩ := hrel
    by_cases hge : 128 ≤ c
    · obtain ⟨f, rfl⟩ : ∃ g, f = g + 1 := by
        rcases f with _ | f
        · have := hlt.out; omega
        · exact ⟨f, rfl⟩
      have hf1 : j ≤ 5 := by have := hf.out; omega
      go_wp2_with (at_builtin; refine wpList_append_byte _ rfl (.tmp 10) (.tmp 15) rfl w.heap.size _ j out rfl hown (128 + c % 128) (by omega) (by omega) rfl (by omega) hb.size ?_; intro v' w' hown' hb')
      go_roundw
      case rel =>
        refine ⟨c / 128, f, j + 1, out ++ [byt (128 + c % 128)], by omega, by omega, by omega, by go_num, ?_, ?_, ?_, hown', hb.trans hb'⟩
        · have := hf.out; unfold Hid; omega
        · exact div_lt f c hlt.out
        · have := hv.out; unfold Hid; rw [this, vl_big f c hge, Int.add_comm 128]; simp
      case measure => simp [intOf]; omega
    · go_wp2_with (at_builtin; refine wpList_append_byte _ rfl (.tmp 19) (.tmp 22) rfl w.heap.size _ j out rfl hown c (by omega) (by omega) rfl (by omega) hb.size ?_; intro v' w' hown' hb'; have hcv := conv_own hown')
      go_ret
      exact ⟨ret_str (by rw [hv.out, vl_small f c (by omega)]), hb.trans hb'⟩

set_option maxHeartbeats 400000 in
theorem implVar_any (n : Int) (w : World) (h0 : 0 ≤ n) (h1 : n ≤ 562949953421311) :
    Calls Try.prog 14 #[.int .i64 n] w fun e w' => e = .returned (.string ⟨(vl 6 n).toArray⟩) ∧ Below w.heap.size w w' := by
  go_enter Try.func14, Try.ntmps14
  go_wp2
  go_loopw [0, 3] (fun x v wr => ∃ (c : Int) (f j : Nat) (out : List UInt8), 0 ≤ c ∧ c ≤ 562949953421311 ∧ j ≤ 6 ∧ x = .int .i64 c ∧ Hid (j + f = 6) ∧ Hid (c < 128 ^ (f + 1)) ∧ Hid (vl 6 n = out ++ vl f c) ∧
      wr.ownsRow w.heap.size 5 1 v j (cellsB out) ∧ Below w.heap.size w wr) (fun x _ _ => (intOf x).toNat)
  case atStart => exact ⟨n, 6, 0, [], h0, h1, by omega, rfl, rfl, by unfold Hid; omega, rfl, World.ownsRow_nil _ _ _ _, Below.refl _ _⟩
  case round =>
    obtain ⟨c, f, j, out, hc0, hc1, hj, rfl, hf, hlt, hv, hown, hb⟩ := hrel
    by_cases hge : 128 ≤ c
    · obtain ⟨f, rfl⟩ : ∃ g, f = g + 1 := by
        rcases f with _ | f
        · have := hlt.out; omega
        · exact ⟨f, rfl⟩
      have hf1 : j ≤ 5 := by have := hf.out; omega
      go_wp2_with (at_builtin; refine wpList_append_byte _ rfl (.tmp 12) (.tmp 17) rfl w.heap.size _ j out rfl hown (c % 128 + 128) (by omega) (by omega) rfl (by omega) hb.size ?_; intro v' w' hown' hb')
      go_roundw
      case rel =>
        refine ⟨c / 128, f, j + 1, out ++ [byt (c % 128 + 128)], by omega, by omega, by omega, by go_num, ?_, ?_, ?_, hown', hb.trans hb'⟩
        · have := hf.out; unfold Hid; omega
        · exact div_lt f c hlt.out
        · have := hv.out; unfold Hid; rw [this, vl_big f c hge]; simp
      case measure => simp [intOf]; omega
    · go_wp2_with (at_builtin; refine wpList_append_byte _ rfl (.tmp 21) (.tmp 24) rfl w.heap.size _ j out rfl hown c (by omega) (by omega) rfl (by omega) hb.size ?_; intro v' w' hown' hb'; have hcv := conv_own hown')
      go_ret
      exact ⟨ret_str (by rw [hv.out, vl_small f c (by omega)]), hb.trans hb'⟩
end Go.Proofs.Ytfidmjpgceljkaa
