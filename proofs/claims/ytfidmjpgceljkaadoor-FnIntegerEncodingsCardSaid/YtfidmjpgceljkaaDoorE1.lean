/- The program's encoders and decoders: what they answer. -/
import Derived.Test.YtfidmjpgceljkaaDoorX2
import Derived.Test.YtfidmjpgceljkaaDoorNum
import Derived.Test.YtfidmjpgceljkaaDoorDv
import Derived.Test.YtfidmjpgceljkaaDoorDhx
import Derived.Lib.QuietBelow
import Derived.Lib.OthersKept
import Derived.Lib.Strings
import Derived.BigQuiet
import Derived.Deep.RegionLaw
import Derived.WalkSmall
import Derived.Laws.RangeAny
import Derived.Test.YtfidmjpgceljkaaDoorApp
namespace Go.Proofs.YtfidmjpgceljkaaDoor
open Go.RowKit M Go.Sort

theorem bits_or_i64 (a b : Nat) (ha : a < 9223372036854775808) (hb : b < 9223372036854775808) : bits .or .i64 (a : Int) (b : Int) = ((a ||| b : Nat) : Int) := by
  have hlt : a ||| b < 2 ^ 63 := Nat.or_lt_two_pow ha hb
  have h1 : (BitVec.ofInt 64 (a : Int) ||| BitVec.ofInt 64 (b : Int)).toNat = a ||| b := by
    rw [BitVec.toNat_or, BitVec.ofInt_natCast, BitVec.ofInt_natCast, BitVec.toNat_ofNat, BitVec.toNat_ofNat, Nat.mod_eq_of_lt (by omega), Nat.mod_eq_of_lt (by omega)]
  show IntKind.i64.wrap (((BitVec.ofInt 64 (a : Int) ||| BitVec.ofInt 64 (b : Int)).toNat : Nat) : Int) = _
  rw [h1]
  exact IntWalk.i64_in _ (by omega)
/-- 'a << k | b' where b has no bit from k on: the sum. -/
theorem bits_or_sum (k : Nat) (a b : Int) (ha : 0 ≤ a) (hb : 0 ≤ b) (hb2 : b < 2 ^ k) (h : a * 2 ^ k + b < 9223372036854775808) : bits .or .i64 (a * 2 ^ k) b = a * 2 ^ k + b := by
  obtain ⟨x, rfl⟩ : ∃ x : Nat, a = x := ⟨a.toNat, by omega⟩
  obtain ⟨y, rfl⟩ : ∃ y : Nat, b = y := ⟨b.toNat, by omega⟩
  have hp : ((2 : Int) ^ k) = ((2 ^ k : Nat) : Int) := by simp
  rw [hp] at h hb2 ⊢
  have e : (x : Int) * ((2 ^ k : Nat) : Int) = ((x * 2 ^ k : Nat) : Int) := by simp
  rw [e] at h ⊢
  have hy : y < 2 ^ k := by omega
  rw [bits_or_i64 _ _ (by omega) (by omega), Nat.mul_comm x, ← Nat.two_pow_add_eq_or_of_lt hy]
  simp
theorem ret_intb {a b : Int} (h : a = b) (c : Bool) : Ending.returned (.tuple #[.int .i64 a, .bool c]) = .returned (.tuple #[.int .i64 b, .bool c]) := by rw [h]
set_option maxHeartbeats 400000 in
theorem implDec_any (s : ByteArray) (k : Nat) (w : World) (hs : s.size ≤ maxLen) (h1 : 1 ≤ k) (h2 : k ≤ 7) (h3 : k ≤ s.size) :
    Calls Tryd.prog 13 #[.string s, .int .i64 k] w fun e w' => e = .returned (.tuple #[.int .i64 (numK s k), .bool true]) ∧ w = w' := by
  unfold maxLen at hs
  have h3' : ¬ s.size < k := by omega
  go_enter Tryd.func13, Tryd.ntmps13
  go_wp2
  go_loop [6, 18] (fun n i => ∃ j : Nat, j ≤ k ∧ i = .int .i64 j ∧ n = .int .i64 (numK s j)) (fun _ i => k - (intOf i).toNat)
  case atStart => exact ⟨0, Nat.zero_le _, rfl, rfl⟩
  case round =>
    obtain ⟨j, hj, rfl, rfl⟩ := hrel
    by_cases hlt : j < k
    · have hjs : j < s.size := by omega
      have hbd := numK_lt s j (by omega)
      have hb8 : (s[j].toNat : Int) < 256 := by have := UInt8.toNat_lt s[j]; omega
      have hb0 : 0 ≤ (s[j].toNat : Int) := by omega
      have hor := bits_or_sum 8 (numK s j) (s[j].toNat : Int) (by omega) (by omega) (by omega) (by omega)
      have HO := Lib.hid hor
      clear hor
      have HS : Hid (numK s (j + 1) = numK s j * 256 + (s[j].toNat : Int)) := by unfold Hid; rw [numK, byteAt_in s j hjs]
      go_wp2
      go_round
      case rel => exact ⟨j + 1, by omega, by go_num, by rw [HS.out]; exact congrArg (Value.int .i64) HO.out⟩
      case measure => simp [intOf]; omega
    · obtain rfl : j = k := by omega
      go_wp2
      go_ret2
      exact ⟨rfl, rfl⟩
theorem implVar_bad (n : Int) (w : World) (h : n < 0 ∨ 562949953421311 < n) :
    Calls Tryd.prog 9 #[.int .i64 n] w fun e w' => e = .returned (.string ⟨#[]⟩) ∧ w = w' := by
  rcases h with h | h
  · go_enter Tryd.func9, Tryd.ntmps9
    go_wp2
    go_ret
    exact ⟨rfl, rfl⟩
  · have h0 : 0 ≤ n := by omega
    go_enter Tryd.func9, Tryd.ntmps9
    go_wp2
    go_ret
    exact ⟨rfl, rfl⟩
set_option maxHeartbeats 400000 in
theorem implVar_any (n : Int) (w : World) (h0 : 0 ≤ n) (h1 : n ≤ 562949953421311) :
    Calls Tryd.prog 9 #[.int .i64 n] w fun e w' => e = .returned (.string ⟨(vl 6 n).toArray⟩) ∧ Below w.heap.size w w' := by
  go_enter Tryd.func9, Tryd.ntmps9
  go_wp2
  go_loopw [0, 3] (fun x v wr => ∃ (c : Int) (f j : Nat) (out : List UInt8), 0 ≤ c ∧ c ≤ 562949953421311 ∧ j ≤ 6 ∧ x = .int .i64 c ∧ Hid (j + f = 6) ∧ Hid (c < 128 ^ (f + 1)) ∧ Hid (vl 6 n = out ++ vl f c) ∧
      wr.ownsRow w.heap.size 5 1 v j (cellsB out) ∧ Below w.heap.size w wr) (fun x _ _ => (intOf x).toNat)
  case atStart => exact ⟨n, 6, 0, [], h0, h1, by omega, rfl, rfl, by unfold Hid; omega, rfl, World.ownsRow_nil _ _ _ _, Below.refl _ _⟩
  case round =>
    obtain ⟨c, f, j, out, hc0, hc1, hj, rfl, hf, hlt, hv, hown, hb⟩ := hrel
    by_cases hge : 128 ≤ c
    · obtain ⟨f, rfl⟩ : ∃ g, f = g + 1 := by
        rcases f with _ | f
        · have := hlt.out; omega
        · exact ⟨f, rfl⟩
      have hf1 : j ≤ 5 := by have := hf.out; omega
      go_wp2_with (at_builtin; refine wpList_append_byte _ rfl (.tmp 12) (.tmp 17) rfl w.heap.size _ j out rfl hown (c % 128 + 128) (by omega) (by omega) rfl (by omega) hb.size ?_; intro v' w' hown' hb')
      go_roundw
      case rel =>
        refine ⟨c / 128, f, j + 1, out ++ [byt (c % 128 + 128)], by omega, by omega, by omega, by go_num, ?_, ?_, ?_, hown', hb.trans hb'⟩
        · have := hf.out; unfold Hid; omega
        · exact div_lt f c hlt.out
        · have := hv.out; unfold Hid; rw [this, vl_big f c hge]; simp
      case measure => simp [intOf]; omega
    · go_wp2_with (at_builtin; refine wpList_append_byte _ rfl (.tmp 21) (.tmp 24) rfl w.heap.size _ j out rfl hown c (by omega) (by omega) rfl (by omega) hb.size ?_; intro v' w' hown' hb'; have hcv := conv_own hown')
      go_ret
      exact ⟨ret_str (by rw [hv.out, vl_small f c (by omega)]), hb.trans hb'⟩
theorem good_eq (s : ByteArray) (k : Nat) : ((vl 6 (N7 s k) == (s.extract 0 k).toList) = true) ↔ good s k := by
  rw [Lib.extract_toList]; simp [good]
theorem good_ne (s : ByteArray) (k : Nat) (h : (vl 6 (N7 s k) == (s.extract 0 k).toList) = false) : ¬ good s k := fun g => by
  rw [(good_eq s k).2 g] at h; cases h
theorem below_quiet {B : Nat} {w wo : World} (h : Below B w wo) (hB : B ≤ wo.heap.size) (d : Nat) (os : Array Obj) : Below B w (grow (redrawn wo d) os) := h.trans ((below_regrown wo d os).mono hB)
/-- It answers as 'IsDv' says; of what there was before the call nothing turns. -/
def DvPost (s : ByteArray) (w : World) (e : Ending) (w' : World) : Prop := ∃ (x : Int) (k : Nat), IsDv s x k ∧ e = .returned (.tuple #[.int .i64 x, .int .i64 k]) ∧ Below w.heap.size w w'
theorem bits_or_comm (a b : Int) : bits .or .i64 a b = bits .or .i64 b a := by
  show IntKind.i64.wrap _ = IntKind.i64.wrap _
  rw [BitVec.or_comm]
theorem N7_or (s : ByteArray) (k : Nat) (h7 : k < 7) : bits .or .i64 (N7 s k) (byteAt s k % 128 * 2 ^ (7 * k)) = N7 s (k + 1) ∧ 0 ≤ byteAt s k % 128 * 2 ^ (7 * k) ∧ byteAt s k % 128 * 2 ^ (7 * k) ≤ 562949953421311 := by
  have hb := N7_bd s k
  have hb' := N7_bd s (k + 1)
  have hp := pow_le7 (k + 1) (by omega)
  have e : N7 s (k + 1) = N7 s k + byteAt s k % 128 * 128 ^ k := rfl
  have hd : 0 ≤ byteAt s k % 128 * 128 ^ k := Int.mul_nonneg (by omega) (Int.pow_nonneg (by decide))
  rw [← pow_128]
  refine ⟨?_, hd, by omega⟩
  rw [bits_or_comm, pow_128, bits_or_sum (7 * k) (byteAt s k % 128) (N7 s k) (by omega) hb.1 (by rw [← pow_128]; exact hb.2) (by rw [← pow_128]; omega), e, ← pow_128, Int.add_comm]
theorem ret_ints {a b c d : Int} (h : a = b) (h' : c = d) : Ending.returned (.tuple #[.int .i64 a, .int .i64 c]) = .returned (.tuple #[.int .i64 b, .int .i64 d]) := by rw [h, h']
set_option maxRecDepth 20000 in
set_option maxHeartbeats 1000000 in
theorem implDecVar_any (s : ByteArray) (w : World) (hs : s.size ≤ maxLen) :
    Calls Tryd.prog 10 #[.string s] w (DvPost s w) := by
  unfold maxLen at hs
  go_enter Tryd.func10, Tryd.ntmps10
  go_wp2
  all_goals
    go_loopw [4, 10] (fun nv iv wr => ∃ (x : Int) (k : Nat), k ≤ 7 ∧ k ≤ s.size ∧ nv = .int .i64 x ∧ iv = .int .i64 k ∧ 0 ≤ x ∧ x ≤ 562949953421311 ∧ Hid (x = N7 s k) ∧ Hid (∀ i, i < k → 128 ≤ byteAt s i) ∧ Below w.heap.size w wr) (fun _ iv _ => 8 - (intOf iv).toNat)
    case atStart => exact ⟨0, 0, by omega, by omega, rfl, rfl, by omega, by omega, rfl, fun i hi => by omega, Below.refl _ _⟩
    case round =>
      obtain ⟨x, k, hk7, hks, rfl, rfl, hx0, hx1, hx, hbig, hb⟩ := hrel
      by_cases hlt : k < 7 ∧ k < s.size
      · obtain ⟨h7, hk⟩ := hlt
        have hb8 : (s[k].toNat : Int) < 256 := by have := UInt8.toNat_lt s[k]; omega
        have hb0 : 0 ≤ (s[k].toNat : Int) := by omega
        have HS : Hid (byteAt s k = (s[k].toNat : Int)) := byteAt_in s k hk
        obtain ⟨ho, ho1, ho2⟩ := N7_or s k h7
        rw [HS.out] at ho ho1 ho2
        have HO := Lib.hid ho
        clear ho
        have hbd := N7_bd s (k + 1)
        have hp7 := pow_le7 (k + 1) (by omega)
        have hbd1 := hbd.1
        have hbd2 : N7 s (k + 1) ≤ 562949953421311 := by omega
        clear hbd hp7
        have HV : Hid (bits .or .i64 x ((s[k].toNat : Int) % 128 * 2 ^ (7 * k)) = N7 s (k + 1)) := by unfold Hid; rw [hx.out]; exact HO.out
        clear HO
        by_cases hge : 128 ≤ (s[k].toNat : Int)
        · go_wp2
          go_roundw
          case rel =>
            refine ⟨N7 s (k + 1), k + 1, by omega, by omega, by rw [HV.out], by go_num, hbd1, hbd2, rfl, fun i hi => ?_, hb⟩
            by_cases h' : i < k
            · exact hbig.out i h'
            · obtain rfl : i = k := by omega
              rw [HS.out]; exact hge
          case measure => simp [intOf]; omega
        · go_wp2
          rw [HV.out]
          have cV : ∀ d os, Calls Tryd.prog 9 #[.int .i64 (N7 s (k + 1))] (grow (redrawn wr d) os) fun e w'' => e = .returned (.string ⟨(vl 6 (N7 s (k + 1))).toArray⟩) ∧ ∃ p : Regrown, w'' = grow (redrawn wr p.d) p.os :=
            fun d os => Calls.regrown_of (implVar_any _ _ hbd1 hbd2)
          have g1 : (0 : Int) ≤ (k : Int) + 1 := by omega
          have g2 : (k : Int) + 1 ≤ (s.size : Int) := by omega
          have hwk : IntKind.i64.wrap ((k : Int) + 1) = (k : Int) + 1 := IntWalk.i64_in _ (by omega)
          have hnk : ((k : Int) + 1).toNat = k + 1 := by omega
          refine wp_region_quiet_below (by kernel_rfl) (by kernel_rfl) ?_
          repeat (quiet_step (exact cV _ _))
          refine wpQuiet_nil ?_
          intro _ hw'
          obtain ⟨⟨dq, osq⟩, hw''⟩ := hw'
          subst hw''
          go_wp2
          · have ht : (!vl 6 (N7 s (k + 1)) == (s.extract 0 (k + 1)).toList) = true := by assumption
            go_ret2
            exact ⟨0, 0, dv_bad hbig.out (by rw [HS.out]; omega) (good_ne s (k + 1) (by simpa using ht)), rfl, below_quiet hb hb.size dq osq⟩
          · have ht : (!vl 6 (N7 s (k + 1)) == (s.extract 0 (k + 1)).toList) = false := by assumption
            go_ret2
            exact ⟨N7 s (k + 1), k + 1, dv_found hk h7 hbig.out ((good_eq s (k + 1)).1 (by simpa using ht)), ret_ints rfl (by omega), below_quiet hb hb.size dq osq⟩
      · go_wp2
        go_ret2
        exact ⟨0, 0, dv_none fun i hi h7 => hbig.out i (by omega), rfl, hb⟩
end Go.Proofs.YtfidmjpgceljkaaDoor
