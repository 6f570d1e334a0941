/- spec.DecodeHex: what the model answers. -/
import Derived.Test.YtfidmjpgceljkaaX7
import Derived.Test.YtfidmjpgceljkaaDhx
namespace Go.Proofs.Ytfidmjpgceljkaa
open Go.RowKit M

theorem ret_int {a b : Int} (h : a = b) : Ending.returned (.int .i64 a) = .returned (.int .i64 b) := by rw [h]
set_option maxHeartbeats 400000 in
theorem fromHex_any (x : Int) (w : World) : Calls Try.prog 24 #[.int .u8 x] w fun e w' => e = .returned (.int .i64 (hv x)) ∧ w = w' := by
  go_enter Try.func24, Try.ntmps24
  go_wp2
  go_loop [3] (fun kv => ∃ k : Nat, k ≤ 16 ∧ kv = .int .i64 k ∧ Hid (∀ i : Nat, i < k → hexd i ≠ x)) (fun kv => 16 - (intOf kv).toNat)
  case atStart => exact ⟨0, by omega, rfl, fun i hi => by omega⟩
  case round =>
    obtain ⟨k, hk, rfl, hno⟩ := hrel
    by_cases hlt : k < 16
    · by_cases he : hexd k = x
      · have ht : (hexd (k : Int) == x) = true := by simpa using he
        have HE : Hid (hexd (k : Int) = x) := he
        clear he
        go_wp2_with (go_at_call 23; refine (digit_any _ _ (by omega) (by omega)).mono ?_; rintro e w' ⟨rfl, rfl⟩)
        go_ret
        exact ⟨ret_int (by rw [← HE.out, hv_hexd _ (by omega) (by omega)]), rfl⟩
      · have ht : (hexd (k : Int) == x) = false := by simpa using he
        have HE : Hid (hexd (k : Int) ≠ x) := he
        clear he
        go_wp2_with (go_at_call 23; refine (digit_any _ _ (by omega) (by omega)).mono ?_; rintro e w' ⟨rfl, rfl⟩)
        go_round
        case rel =>
          refine ⟨k + 1, by omega, by go_num, fun i hi => ?_⟩
          by_cases h : i < k
          · exact hno.out i h
          · obtain rfl : i = k := by omega
            exact HE.out
        case measure => simp [intOf]; omega
    · obtain rfl : k = 16 := by omega
      go_wp2
      go_ret
      exact ⟨ret_int (hv_none x hno.out).symm, rfl⟩

/-- The answer: the bytes and true, or the empty text and false. -/
def dhR (l : List UInt8) : Ending := match dh l with
  | some out => .returned (.tuple #[.string ⟨out.toArray⟩, .bool true])
  | none => .returned (.tuple #[.string ⟨#[]⟩, .bool false])
theorem dhR_some {l out : List UInt8} (h : dh l = some out) : Ending.returned (.tuple #[.string ⟨out.toArray⟩, .bool true]) = dhR l := by unfold dhR; rw [h]
theorem dhR_none {l : List UInt8} (h : dh l = none) : Ending.returned (.tuple #[.string ⟨#[]⟩, .bool false]) = dhR l := by unfold dhR; rw [h]

set_option maxHeartbeats 1000000 in
theorem specDecHex_any (s : ByteArray) (w : World) (hs : s.size ≤ 1048576) :
    Calls Try.prog 19 #[.string s] w fun e w' => e = dhR s.data.toList ∧ Below w.heap.size w w' := by
  have hb0 : Below w.heap.size w (w.alloc (.cells #[] 5)) := (Below.refl _ _).alloc (Nat.le_refl _) _
  by_cases hodd : s.size % 2 = 1
  · have ht : (((s.size : Int)) % 2 == 1) = true := by simp; omega
    have HD : Hid (dh s.data.toList = none) := dh_odd _ (by simpa using hodd)
    clear hodd
    go_enter Try.func19, Try.ntmps19
    go_wp2
    go_ret2
    exact ⟨dhR_none HD.out, hb0⟩
  · have ht : (((s.size : Int)) % 2 == 1) = false := by simp; omega
    have hev : s.size % 2 ≠ 1 := hodd
    clear hodd
    go_enter Try.func19, Try.ntmps19
    go_wp2
    go_loopw [4, 5] (fun v iv wr => ∃ (j k : Nat) (out : List UInt8), k ≤ s.size ∧ iv = .int .i64 k ∧ wr.ownsRow w.heap.size 5 1 v j (cellsB out) ∧ Hid (k = 2 * j) ∧ Hid (dh s.data.toList = (dh (s.data.toList.drop k)).map (out ++ ·)) ∧ Below w.heap.size w wr) (fun _ iv _ => s.size - (intOf iv).toNat)
    case atStart => exact ⟨0, 0, [], by omega, rfl, World.ownsRow_lit w #[] 0 (Nat.le_refl _) (by unfold maxLen; omega) rfl, rfl, by simp [Hid], hb0⟩
    case round =>
      obtain ⟨j, k, out, hk, rfl, hown, hkj, hd, hb⟩ := hrel
      by_cases hlt : k < s.size
      · have hlt1 : k + 1 < s.size := by have := hkj.out; omega
        have hki : (k : Int) + 1 < (s.size : Int) := by omega
        have ba := hv_bd (s[k].toNat : Int)
        have bb := hv_bd (s[k + 1].toNat : Int)
        have hj : j ≤ 70368744177664 := by have := hkj.out; omega
        by_cases ha : 0 ≤ hv (s[k].toNat : Int)
        · by_cases hbb : 0 ≤ hv (s[k + 1].toNat : Int)
          · go_wp2_with (first | (go_at_call 24; refine (fromHex_any _ _).mono ?_; rintro e w' ⟨rfl, rfl⟩) | (at_builtin; refine wpList_append_byte _ rfl (.tmp 34) (.tmp 40) rfl w.heap.size _ j out rfl hown (16 * hv (s[k].toNat : Int) + hv (s[k + 1].toNat : Int)) (by omega) (by omega) rfl hj hb.size ?_; intro v' w' hown' hb'))
            go_roundw
            case rel =>
              refine ⟨j + 1, k + 2, _, by omega, by go_num, hown', ?_, dh_step s k hlt1 out hd.out ha hbb, hb.trans hb'⟩
              have := hkj.out
              unfold Hid; omega
            case measure => simp [intOf]; omega
          · have hn : hv (s[k + 1].toNat : Int) < 0 := by omega
            have HF : Hid (dh s.data.toList = none) := dh_fail s k hlt1 out hd.out (.inr hn)
            go_wp2_with (go_at_call 24; refine (fromHex_any _ _).mono ?_; rintro e w' ⟨rfl, rfl⟩)
            go_ret2
            exact ⟨dhR_none HF.out, hb⟩
        · have hn : hv (s[k].toNat : Int) < 0 := by omega
          have HF : Hid (dh s.data.toList = none) := dh_fail s k hlt1 out hd.out (.inl hn)
          go_wp2_with (go_at_call 24; refine (fromHex_any _ _).mono ?_; rintro e w' ⟨rfl, rfl⟩)
          go_ret2
          exact ⟨dhR_none HF.out, hb⟩
      · have hcv := conv_own hown
        have HE : Hid (dh s.data.toList = some out) := dh_end s k (by omega) out hd.out
        go_wp2
        go_ret2
        exact ⟨dhR_some HE.out, hb⟩
end Go.Proofs.Ytfidmjpgceljkaa
