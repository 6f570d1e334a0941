/- spec.DecodeVarint: what the model answers. -/
import Derived.Test.YtfidmjpgceljkaaX4
import Derived.Test.YtfidmjpgceljkaaX3
import Derived.Test.YtfidmjpgceljkaaDv
import Derived.Lib.QuietBelow
import Derived.BigQuiet
import Derived.Lib.Strings
namespace Go.Proofs.Ytfidmjpgceljkaa
open Go.RowKit M Go.Sort

theorem good_eq (s : ByteArray) (k : Nat) : ((vl 6 (N7 s k) == (s.extract 0 k).toList) = true) ↔ good s k := by
  rw [Lib.extract_toList]; simp [good]
theorem good_ne (s : ByteArray) (k : Nat) (h : (vl 6 (N7 s k) == (s.extract 0 k).toList) = false) : ¬ good s k := fun g => by
  rw [(good_eq s k).2 g] at h; cases h
theorem below_quiet {B : Nat} {w wo : World} (h : Below B w wo) (hB : B ≤ wo.heap.size) (d : Nat) (os : Array Obj) : Below B w (grow (redrawn wo d) os) := h.trans ((below_regrown wo d os).mono hB)
theorem not_until {s : ByteArray} {k : Nat} (hno : ∀ i, i + 1 < k → ¬ good s (i + 1)) (h : ¬ good s k) : ∀ i, i + 1 < k + 1 → ¬ good s (i + 1) := fun i hi g => by
  by_cases h' : i + 1 < k
  · exact hno i h' g
  · obtain rfl : i + 1 = k := by omega
    exact h g
theorem dv_at {s : ByteArray} {k : Nat} (h1 : 1 ≤ k) (h7 : k ≤ 7) (hk : k ≤ s.size) (hno : ∀ i, i + 1 < k → ¬ good s (i + 1)) (h : good s k) : IsDv s (N7 s k) k :=
  .inl ⟨k - 1, by omega, by omega, by omega, h, rfl, fun i hi => hno i (by omega)⟩
/-- It answers as 'IsDv' says; of what there was before the call nothing turns. -/
def DvPost (s : ByteArray) (w : World) (e : Ending) (w' : World) : Prop := ∃ (x : Int) (k : Nat), IsDv s x k ∧ e = .returned (.tuple #[.int .i64 x, .int .i64 k]) ∧ Below w.heap.size w w'

set_option maxHeartbeats 1000000 in
theorem specDecVar_any (s : ByteArray) (w : World) (hs : s.size ≤ maxLen) :
    Calls Try.prog 15 #[.string s] w (DvPost s w) := by
  unfold maxLen at hs
  go_enter Try.func15, Try.ntmps15
  go_wp2
  go_loopw [4] (fun kv wr => ∃ (k : Nat), 1 ≤ k ∧ k ≤ 8 ∧ kv = .int .i64 k ∧ k ≤ s.size + 1 ∧ Hid (∀ i, i + 1 < k → ¬ good s (i + 1)) ∧ Below w.heap.size w wr) (fun kv _ => 9 - (intOf kv).toNat)
  case atStart => exact ⟨1, by omega, by omega, rfl, by omega, fun i hi => by omega, Below.refl _ _⟩
  case round =>
    obtain ⟨k, hk1, hk8, rfl, hks, hno, hb⟩ := hrel
    obtain ⟨wo, rfl⟩ : ∃ wo : World, wo = wr := ⟨_, rfl⟩
    by_cases hk7 : k ≤ 7
    · by_cases hkn : k ≤ s.size
      · go_wp2
        go_loop [5, 6] (fun nv iv => ∃ (x z : Int) (m : Nat), 0 ≤ x ∧ x < 562949953421312 ∧ -1 ≤ z ∧ z < k ∧ nv = .int .i64 x ∧ iv = .int .i64 z ∧ Hid (z = (m : Int) - 1) ∧ Hid (x < 128 ^ (k - m)) ∧ Hid (N7 s k = x * 128 ^ m + N7 s m)) (fun _ iv => (intOf iv + 1).toNat)
        case atStart => exact ⟨0, _, k, by omega, by omega, by omega, by omega, rfl, rfl, rfl, by simp [Hid], by simp [Hid]⟩
        case round =>
          obtain ⟨x, z, m, hx0, hx1, hz0, hz1, rfl, rfl, hm, hlt, hN⟩ := hrel
          by_cases hz : 0 ≤ z
          · obtain ⟨j, rfl⟩ : ∃ j : Nat, z = j := ⟨z.toNat, by omega⟩
            obtain rfl : m = j + 1 := by have := hm.out; omega
            have hjs : j < s.size := by omega
            have hb8 : (s[j].toNat : Int) < 256 := by have := UInt8.toNat_lt s[j]; omega
            have hb0 : 0 ≤ (s[j].toNat : Int) := by omega
            have HS : Hid (byteAt s j = (s[j].toNat : Int)) := byteAt_in s j hjs
            go_wp2
            go_round
            case rel =>
              have hx2 := horner_bd x (byteAt s j % 128) (k - (j + 1)) hlt.out (by omega)
              have hp7 := pow_le7 (k - (j + 1) + 1) (by omega)
              have hS := HS.out
              rw [hS] at hx2
              refine ⟨x * 128 + (s[j].toNat : Int) % 128, (j : Int) - 1, j, by omega, by omega, by omega, by omega, rfl, by go_num, rfl, ?_, ?_⟩
              · unfold Hid; rw [show k - j = k - (j + 1) + 1 by omega]; exact hx2
              · unfold Hid; rw [← hS]; exact horner s k j x hN.out
            case measure => simp [intOf]
          · obtain rfl : m = 0 := by have := hm.out; omega
            have hN' := hN.out
            simp only [N7, Int.pow_zero, Int.mul_one, Int.add_zero] at hN'
            subst hN'
            have hbd := N7_bd s k
            have hp7 := pow_le7 k hk7
            have cV : ∀ d os, Calls Try.prog 13 #[.int .i64 (N7 s k)] (grow (redrawn wo d) os) fun e w'' => e = .returned (.string ⟨(vl 6 (N7 s k)).toArray⟩) ∧ ∃ p : Regrown, w'' = grow (redrawn wo p.d) p.os :=
              fun d os => Calls.regrown_of (specVar_any _ _ hbd.1 (by omega))
            clear hbd hp7 hm hlt hN
            go_wp2
            refine wp_region_quiet_below (by kernel_rfl) (by kernel_rfl) ?_
            repeat (quiet_step (exact cV _ _))
            refine wpQuiet_nil ?_
            intro _ hw'
            obtain ⟨⟨dq, osq⟩, hw''⟩ := hw'
            subst hw''
            go_wp2
            · go_ret2
              exact ⟨N7 s k, k, dv_at hk1 hk7 hkn hno.out ((good_eq s k).1 (by assumption)), rfl, below_quiet hb hb.size dq osq⟩
            · go_roundw
              case rel =>
                have hbad := good_ne s k (by assumption)
                exact ⟨k + 1, by omega, by omega, by go_num, by omega, not_until hno.out hbad, below_quiet hb hb.size dq osq⟩
              case measure => simp [intOf]; omega
      · go_wp2
        go_ret2
        exact ⟨0, 0, .inr ⟨rfl, rfl, fun i hi _ => hno.out i (by omega)⟩, rfl, hb⟩
    · go_wp2
      go_ret2
      exact ⟨0, 0, .inr ⟨rfl, rfl, fun i hi h7 => hno.out i (by omega)⟩, rfl, hb⟩
end Go.Proofs.Ytfidmjpgceljkaa
