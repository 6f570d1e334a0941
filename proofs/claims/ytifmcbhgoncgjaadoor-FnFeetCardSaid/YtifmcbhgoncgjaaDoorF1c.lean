/- spec.FormatInt: what the model answers: the decimal numeral. -/
import Derived.Test.YtifmcbhgoncgjaaDoorCv
import Derived.Test.YtifmcbhgoncgjaaDoorDec
namespace Go.Proofs.YtifmcbhgoncgjaaDoor
open Go.RowKit M Go.Lib

theorem fmt_zero (w : World) : Calls Tryd.prog 40 #[.int .i64 0] w fun e w' => e = .returned (.string ⟨(itoa 0).toArray⟩) ∧ Below w.heap.size w w' := by
  have e : itoa 0 = [48] := by rw [show (0 : Int) = ((0 : Nat) : Int) from rfl, itoa_nonneg, decDigits_one (by omega)]; rfl
  have H := Lib.hid e
  clear e
  go_enter Tryd.func40, Tryd.ntmps40
  go_wp2
  go_ret
  exact ⟨ret_str (by rw [H.out]), Below.refl _ _⟩

set_option maxHeartbeats 400000 in
theorem fmt_pos (m : Nat) (w : World) (h0 : 1 ≤ m) (h1 : m ≤ 9223372036854775807) :
    Calls Tryd.prog 40 #[.int .i64 m] w fun e w' => e = .returned (.string ⟨(itoa m).toArray⟩) ∧ Below w.heap.size w w' := by
  have kc := conv_one
  have ht : ((m : Int) == 0) = false := by simp; omega
  go_enter Tryd.func40, Tryd.ntmps40
  go_wp2
  go_loopw [0, 3] (fun x o wr => ∃ (c f j : Nat) (out : List UInt8), c ≤ 9223372036854775807 ∧ j ≤ 19 ∧ x = .int .i64 c ∧ o = .string ⟨out.toArray⟩ ∧ Hid (out.length = j) ∧
      Hid (j + f = 19) ∧ Hid (c < 10 ^ f) ∧ Hid (dd m = dd c ++ out) ∧ Below w.heap.size w wr) (fun x _ _ => (intOf x).toNat)
  case atStart => exact ⟨m, 19, 0, [], h1, by omega, rfl, rfl, rfl, rfl, by unfold Hid; omega, by simp [Hid], Below.refl _ _⟩
  case round =>
    obtain ⟨c, f, j, out, hc, hj, rfl, rfl, hlen, hf, hlt, hd, hb⟩ := hrel
    by_cases hz : c = 0
    · subst hz
      have HE : Hid (itoa (m : Int) = out) := by
        have := hd.out
        unfold Hid
        rw [itoa_nonneg, ← dd_pos h0, this, dd_zero, List.nil_append]
      go_wp2
      go_ret
      exact ⟨ret_str (by rw [HE.out]), hb⟩
    · have hcp : 1 ≤ c := by omega
      have hz' : ((c : Int) == 0) = false := by simpa using hz
      have hz2 : ((c : Int) != 0) = true := by simpa using hz
      have hl : ¬ 9223372036854775807 < 1 + out.length := by have := hlen.out; omega
      have hm0 : 0 ≤ (c : Int) % 10 := by omega
      clear hz
      go_wp2
      go_roundw
      case rel =>
        obtain ⟨f, rfl⟩ : ∃ g, f = g + 1 := by
          rcases f with _ | f
          · have := hlt.out; omega
          · exact ⟨f, rfl⟩
        refine ⟨c / 10, f, j + 1, byt (48 + (c % 10 : Nat)) :: out, by omega, ?_, by go_num, ?_, ?_, ?_, ?_, ?_, hb.alloc hb.size _⟩
        · have := hf.out; omega
        · rw [byt_digit, cat_one]
        · have := hlen.out; unfold Hid; simp [this]
        · have := hf.out; unfold Hid; omega
        · exact lt_div c f hlt.out
        · have := hd.out; unfold Hid; rw [this, dd_step hcp]; simp
      case measure => simp [intOf]; omega
set_option maxHeartbeats 400000 in
theorem fmt_neg (m : Nat) (w : World) (h0 : 1 ≤ m) (h1 : m ≤ 9223372036854775808) :
    Calls Tryd.prog 40 #[.int .i64 (-(m : Int))] w fun e w' => e = .returned (.string ⟨(itoa (-(m : Int))).toArray⟩) ∧ Below w.heap.size w w' := by
  have kc := conv_one
  have ht : ((-(m : Int)) == 0) = false := by simp; omega
  have hneg : -(m : Int) < 0 := by omega
  go_enter Tryd.func40, Tryd.ntmps40
  go_wp2
  go_loopw [0, 3] (fun x o wr => ∃ (c f j : Nat) (out : List UInt8), c ≤ 9223372036854775808 ∧ j ≤ 19 ∧ x = .int .i64 (-(c : Int)) ∧ o = .string ⟨out.toArray⟩ ∧ Hid (out.length = j) ∧
      Hid (j + f = 19) ∧ Hid (c < 10 ^ f) ∧ Hid (dd m = dd c ++ out) ∧ Below w.heap.size w wr) (fun x _ _ => (-(intOf x)).toNat)
  case atStart => exact ⟨m, 19, 0, [], h1, by omega, rfl, rfl, rfl, rfl, by unfold Hid; omega, by simp [Hid], Below.refl _ _⟩
  case round =>
    obtain ⟨c, f, j, out, hc, hj, rfl, rfl, hlen, hf, hlt, hd, hb⟩ := hrel
    have hl : ¬ 9223372036854775807 < 1 + out.length := by have := hlen.out; omega
    by_cases hz : c = 0
    · subst hz
      have HE : Hid (itoa (-(m : Int)) = 45 :: out) := by
        have := hd.out
        unfold Hid
        rw [itoa_neg m h0, ← dd_pos h0, this, dd_zero, List.nil_append]
      go_wp2
      go_ret
      exact ⟨ret_str (by rw [HE.out, cat_one]), hb⟩
    · have hcp : 1 ≤ c := by omega
      have hz2 : ((-(c : Int)) != 0) = true := by simpa using hz
      have hm2 : (-(c : Int)).tdiv 10 = -((c : Int) / 10) := by rw [Int.neg_tdiv, Int.tdiv_eq_ediv_of_nonneg (by omega)]
      have hm0 : 0 ≤ (c : Int) % 10 := by omega
      obtain ⟨f, rfl⟩ : ∃ g, f = g + 1 := by
        rcases f with _ | f
        · have := hlt.out; omega
        · exact ⟨f, rfl⟩
      have HR : Hid (j + 1 ≤ 19 ∧ (out.length + 1 = j + 1) ∧ (j + 1 + f = 19) ∧ c / 10 < 10 ^ f ∧ dd m = dd (c / 10) ++ (byt (48 + (c % 10 : Nat)) :: out)) := by
        have h1 := hf.out
        have h2 := hlen.out
        have h3 := hd.out
        refine ⟨by omega, by omega, by omega, lt_div c f hlt.out, ?_⟩
        rw [h3, dd_step hcp]; simp
      by_cases h10 : c % 10 = 0
      · have hm1 : (-(c : Int)).tmod 10 = 0 := by rw [Int.neg_tmod, Int.tmod_eq_emod_of_nonneg (by omega)]; omega
        have HB : Hid (byt (48 + (c % 10 : Nat)) = 48) := by rw [h10]; rfl
        clear hz h10
        go_wp2
        go_roundw
        case rel =>
          refine ⟨c / 10, f, j + 1, byt (48 + (c % 10 : Nat)) :: out, by omega, HR.out.1, by go_num, ?_, HR.out.2.1, HR.out.2.2.1, HR.out.2.2.2.1, HR.out.2.2.2.2, hb.alloc hb.size _⟩
          rw [HB.out, ← cat_one]; try rfl
        case measure => simp [intOf]; omega
      · have hm1 : (-(c : Int)).tmod 10 = -((c : Int) % 10) := by rw [Int.neg_tmod, Int.tmod_eq_emod_of_nonneg (by omega)]
        have hm3 : 1 ≤ (c : Int) % 10 := by omega
        clear hz h10
        go_wp2
        go_ways
        go_roundw
        case rel =>
          refine ⟨c / 10, f, j + 1, byt (48 + (c % 10 : Nat)) :: out, by omega, HR.out.1, by go_num, ?_, HR.out.2.1, HR.out.2.2.1, HR.out.2.2.2.1, HR.out.2.2.2.2, hb.alloc hb.size _⟩
          rw [byt_digit, ← cat_one]; try rfl
        case measure => simp [intOf]; omega
end Go.Proofs.YtifmcbhgoncgjaaDoor
