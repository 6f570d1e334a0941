/- impl.DecodeVarint: what the program answers. -/
import Derived.Test.YtfidmjpgceljkaaX5
namespace Go.Proofs.Ytfidmjpgceljkaa
open Go.RowKit M Go.Sort

theorem bits_or_comm (a b : Int) : bits .or .i64 a b = bits .or .i64 b a := by
  show IntKind.i64.wrap _ = IntKind.i64.wrap _
  rw [BitVec.or_comm]
theorem N7_or (s : ByteArray) (k : Nat) (h7 : k < 7) : bits .or .i64 (N7 s k) (byteAt s k % 128 * 2 ^ (7 * k)) = N7 s (k + 1) ∧ 0 ≤ byteAt s k % 128 * 2 ^ (7 * k) ∧ byteAt s k % 128 * 2 ^ (7 * k) ≤ 562949953421311 := by
  have hb := N7_bd s k
  have hb' := N7_bd s (k + 1)
  have hp := pow_le7 (k + 1) (by omega)
  have e : N7 s (k + 1) = N7 s k + byteAt s k % 128 * 128 ^ k := rfl
  have hd : 0 ≤ byteAt s k % 128 * 128 ^ k := Int.mul_nonneg (by omega) (Int.pow_nonneg (by decide))
  rw [← pow_128]
  refine ⟨?_, hd, by omega⟩
  rw [bits_or_comm, pow_128, bits_or_sum (7 * k) (byteAt s k % 128) (N7 s k) (by omega) hb.1 (by rw [← pow_128]; exact hb.2) (by rw [← pow_128]; omega), e, ← pow_128, Int.add_comm]

theorem ret_ints {a b c d : Int} (h : a = b) (h' : c = d) : Ending.returned (.tuple #[.int .i64 a, .int .i64 c]) = .returned (.tuple #[.int .i64 b, .int .i64 d]) := by rw [h, h']

set_option maxRecDepth 20000 in
set_option maxHeartbeats 1000000 in
theorem implDecVar_any (s : ByteArray) (w : World) (hs : s.size ≤ maxLen) :
    Calls Try.prog 16 #[.string s] w (DvPost s w) := by
  unfold maxLen at hs
  go_enter Try.func16, Try.ntmps16
  go_wp2
  all_goals
    go_loopw [4, 10] (fun nv iv wr => ∃ (x : Int) (k : Nat), k ≤ 7 ∧ k ≤ s.size ∧ nv = .int .i64 x ∧ iv = .int .i64 k ∧ 0 ≤ x ∧ x ≤ 562949953421311 ∧ Hid (x = N7 s k) ∧ Hid (∀ i, i < k → 128 ≤ byteAt s i) ∧ Below w.heap.size w wr) (fun _ iv _ => 8 - (intOf iv).toNat)
    case atStart => exact ⟨0, 0, by omega, by omega, rfl, rfl, by omega, by omega, rfl, fun i hi => by omega, Below.refl _ _⟩
    case round =>
      obtain ⟨x, k, hk7, hks, rfl, rfl, hx0, hx1, hx, hbig, hb⟩ := hrel
      by_cases hlt : k < 7 ∧ k < s.size
      · obtain ⟨h7, hk⟩ := hlt
        have hb8 : (s[k].toNat : Int) < 256 := by have := UInt8.toNat_lt s[k]; omega
        have hb0 : 0 ≤ (s[k].toNat : Int) := by omega
        have HS : Hid (byteAt s k = (s[k].toNat : Int)) := byteAt_in s k hk
        obtain ⟨ho, ho1, ho2⟩ := N7_or s k h7
        rw [HS.out] at ho ho1 ho2
        have HO := Lib.hid ho
        clear ho
        have hbd := N7_bd s (k + 1)
        have hp7 := pow_le7 (k + 1) (by omega)
        have hbd1 := hbd.1
        have hbd2 : N7 s (k + 1) ≤ 562949953421311 := by omega
        clear hbd hp7
        have HV : Hid (bits .or .i64 x ((s[k].toNat : Int) % 128 * 2 ^ (7 * k)) = N7 s (k + 1)) := by unfold Hid; rw [hx.out]; exact HO.out
        clear HO
        by_cases hge : 128 ≤ (s[k].toNat : Int)
        · go_wp2
          go_roundw
          case rel =>
            refine ⟨N7 s (k + 1), k + 1, by omega, by omega, by rw [HV.out], by go_num, hbd1, hbd2, rfl, fun i hi => ?_, hb⟩
            by_cases h' : i < k
            · exact hbig.out i h'
            · obtain rfl : i = k := by omega
              rw [HS.out]; exact hge
          case measure => simp [intOf]; omega
        · go_wp2
          rw [HV.out]
          have cV : ∀ d os, Calls Try.prog 14 #[.int .i64 (N7 s (k + 1))] (grow (redrawn wr d) os) fun e w'' => e = .returned (.string ⟨(vl 6 (N7 s (k + 1))).toArray⟩) ∧ ∃ p : Regrown, w'' = grow (redrawn wr p.d) p.os :=
            fun d os => Calls.regrown_of (implVar_any _ _ hbd1 hbd2)
          have g1 : (0 : Int) ≤ (k : Int) + 1 := by omega
          have g2 : (k : Int) + 1 ≤ (s.size : Int) := by omega
          have hwk : IntKind.i64.wrap ((k : Int) + 1) = (k : Int) + 1 := IntWalk.i64_in _ (by omega)
          have hnk : ((k : Int) + 1).toNat = k + 1 := by omega
          refine wp_region_quiet_below (by kernel_rfl) (by kernel_rfl) ?_
          repeat (quiet_step (exact cV _ _))
          refine wpQuiet_nil ?_
          intro _ hw'
          obtain ⟨⟨dq, osq⟩, hw''⟩ := hw'
          subst hw''
          go_wp2
          · have ht : (!vl 6 (N7 s (k + 1)) == (s.extract 0 (k + 1)).toList) = true := by assumption
            go_ret2
            exact ⟨0, 0, dv_bad hbig.out (by rw [HS.out]; omega) (good_ne s (k + 1) (by simpa using ht)), rfl, below_quiet hb hb.size dq osq⟩
          · have ht : (!vl 6 (N7 s (k + 1)) == (s.extract 0 (k + 1)).toList) = false := by assumption
            go_ret2
            exact ⟨N7 s (k + 1), k + 1, dv_found hk h7 hbig.out ((good_eq s (k + 1)).1 (by simpa using ht)), ret_ints rfl (by omega), below_quiet hb hb.size dq osq⟩
      · go_wp2
        go_ret2
        exact ⟨0, 0, dv_none fun i hi h7 => hbig.out i (by omega), rfl, hb⟩
end Go.Proofs.Ytfidmjpgceljkaa
