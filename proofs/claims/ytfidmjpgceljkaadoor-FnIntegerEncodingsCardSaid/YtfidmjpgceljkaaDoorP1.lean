/- spec.ParseInt: what the model answers. -/
import Derived.Test.YtfidmjpgceljkaaDoorF2
import Derived.Test.YtfidmjpgceljkaaDoorPi
import Derived.Test.YtfidmjpgceljkaaDoorHex
namespace Go.Proofs.YtfidmjpgceljkaaDoor
open Go.RowKit M Go.Lib

/-- It answers as 'IsPi' says; of what there was before the call nothing turns. -/
def PiPost (s : ByteArray) (w : World) (e : Ending) (w' : World) : Prop := ∃ (x : Int) (b : Bool), IsPi s.data.toList x b ∧ e = .returned (.tuple #[.int .i64 x, .bool b]) ∧ Below w.heap.size w w'

theorem isD_of (b : UInt8) (h0 : 48 ≤ (b.toNat : Int)) (h1 : (b.toNat : Int) ≤ 57) : isD b = true := by unfold isD; simp; omega
theorem isD_not (b : UInt8) (h : ¬ (48 ≤ (b.toNat : Int) ∧ (b.toNat : Int) ≤ 57)) : isD b = false := by unfold isD; simp; omega
theorem stepN_of (n : Int) (b : UInt8) (h : isD b = true) : stepN n b = n * 10 + ((b.toNat : Int) - 48) := by unfold stepN; rw [if_pos h]
theorem stepN_not (n : Int) (b : UInt8) (h : isD b = false) : stepN n b = n := by unfold stepN; rw [if_neg (by simp [h])]
theorem stepK_of (k : Nat) (b : UInt8) (h : isD b = true) : stepK k b = k + 1 := by unfold stepK; rw [if_pos h]
theorem stepK_not (k : Nat) (b : UInt8) (h : isD b = false) : stepK k b = k := by unfold stepK; rw [if_neg (by simp [h])]

theorem head_45 (s : ByteArray) (h : 0 < s.size) : (s.data.toList.head? = some 45) ↔ (s[0].toNat : Int) = 45 := by
  have hl : 0 < s.data.toList.length := by simpa using h
  have e : s.data.toList.head? = some s[0] := by
    rw [List.head?_eq_getElem?, List.getElem?_eq_getElem hl]; rfl
  rw [e]
  constructor
  · intro h1
    have h2 : s[0] = 45 := by simpa using h1
    rw [h2]; rfl
  · intro h1
    congr 1
    apply UInt8.toNat_inj.1
    have : (45 : UInt8).toNat = 45 := rfl
    omega
theorem sgn_neg (s : ByteArray) (h : 0 < s.size) (hm : ((s[0].toNat : Int) == 45) = true) : sgn s.data.toList = -sF s.data.toList := by
  unfold sgn; rw [if_pos ((head_45 s h).2 (by simpa using hm))]
theorem sgn_pos (s : ByteArray) (h : 0 < s.size) (hm : ((s[0].toNat : Int) == 45) = false) : sgn s.data.toList = sF s.data.toList := by
  unfold sgn; rw [if_neg (fun h1 => by have := (head_45 s h).1 h1; simp [this] at hm)]
theorem sgn_nil (s : ByteArray) (h : s.size = 0) : sgn s.data.toList = sF s.data.toList := by
  have : s.data.toList = [] := List.eq_nil_of_length_eq_zero (by simpa using h)
  rw [this]; rfl

theorem pl_no {s : ByteArray} {x : Int} {k : Nat} (h9 : ¬ 9 < k) (hb : ¬ 10 < s.size) (h : (9 < (k : Int) ∨ 10 < (s.size : Int)) ∨ (!itoa x == s.toList) = true) (hx : x = sgn s.data.toList) : IsPi s.data.toList 0 false := by
  refine pi_no hx fun he => ?_
  rcases h with h | h
  · omega
  · rw [Lib.toList_data, he] at h
    simp at h
theorem pl_yes {s : ByteArray} {x : Int} (h : (!itoa x == s.toList) = false) (hx : x = sgn s.data.toList) (hk : sK s.data.toList ≤ 9) : IsPi s.data.toList x true :=
  pi_yes hx hk (by rw [Lib.toList_data] at h; simpa using h)

set_option maxRecDepth 20000 in
set_option maxHeartbeats 2000000 in
theorem specParse_any (s : ByteArray) (w : World) (hs : s.size ≤ maxLen) :
    Calls Tryd.prog 20 #[.string s] w (PiPost s w) := by
  unfold maxLen at hs
  go_enter Tryd.func20, Tryd.ntmps20
  go_wp2
  go_loop [4, 5, 6] (fun nv kv iv => ∃ (x : Int) (k i : Nat), nv = .int .i64 x ∧ kv = .int .i64 k ∧ iv = .int .i64 i ∧ i ≤ s.size ∧ i ≤ 11 ∧ k ≤ i ∧ 0 ≤ x ∧ x ≤ 99999999999 ∧ Hid (x = sF (s.data.toList.take i)) ∧ Hid (k = sK (s.data.toList.take i))) (fun _ _ iv => 12 - (RowKit.intOf iv).toNat)
  case atStart => exact ⟨0, 0, 0, rfl, rfl, rfl, by omega, by omega, by omega, by omega, by omega, rfl, rfl⟩
  case round =>
    obtain ⟨x, k, i, rfl, rfl, rfl, his, hi11, hki, hx0, hx1, hx, hk⟩ := hrel
    by_cases hlt : i < s.size ∧ i < 11
    · obtain ⟨h1, h2⟩ := hlt
      have hb8 : (s[i].toNat : Int) < 256 := by have := UInt8.toNat_lt s[i]; omega
      have hb0 : 0 ≤ (s[i].toNat : Int) := by omega
      have hbd := sF_lt (s.data.toList.take (i + 1)) (by simp; omega)
      have hbd0 := sF_lt (s.data.toList.take i) (by simp; omega)
      have hkl := sK_le (s.data.toList.take i)
      have hti : (s.data.toList.take i).length = i := by simp; omega
      have hp := sF_bd (s.data.toList.take i)
      have hp2 := pow10_le (sK (s.data.toList.take i)) 10 (by omega)
      have hx2 : x ≤ 9999999999 := by have := hx.out; have h3 : (10 : Int) ^ 10 = 10000000000 := by decide
                                      omega
      have HX : Hid (sF (s.data.toList.take (i + 1)) = stepN x s[i]) := by unfold Hid; rw [take_snoc s i h1, sF_snoc, hx.out]
      have HK : Hid (sK (s.data.toList.take (i + 1)) = stepK k s[i]) := by unfold Hid; rw [take_snoc s i h1, sK_snoc, hk.out]
      clear hbd hbd0 hkl hti hp hp2
      by_cases h48 : 48 ≤ (s[i].toNat : Int)
      · by_cases h57 : (s[i].toNat : Int) ≤ 57
        · go_wp2
          go_round
          case rel =>
            have hd := isD_of s[i] h48 h57
            refine ⟨x * 10 + ((s[i].toNat : Int) - 48), k + 1, i + 1, by go_num, by go_num, by go_num, by omega, by omega, by omega, by omega, by omega, ?_, ?_⟩
            · unfold Hid; rw [HX.out, stepN_of _ _ hd]
            · unfold Hid; rw [HK.out, stepK_of _ _ hd]
          case measure => simp [RowKit.intOf]; omega
        · go_wp2
          go_round
          case rel =>
            have hd := isD_not s[i] (by omega)
            refine ⟨x, k, i + 1, rfl, rfl, by go_num, by omega, by omega, by omega, by omega, by omega, ?_, ?_⟩
            · unfold Hid; rw [HX.out, stepN_not _ _ hd]
            · unfold Hid; rw [HK.out, stepK_not _ _ hd]
          case measure => simp [RowKit.intOf]; omega
      · go_wp2
        go_round
        case rel =>
          have hd := isD_not s[i] (by omega)
          refine ⟨x, k, i + 1, rfl, rfl, by go_num, by omega, by omega, by omega, by omega, by omega, ?_, ?_⟩
          · unfold Hid; rw [HX.out, stepN_not _ _ hd]
          · unfold Hid; rw [HK.out, stepK_not _ _ hd]
        case measure => simp [RowKit.intOf]; omega
    · have hl : s.data.toList.length = s.size := by simp
      have hbd := sF_bd s.data.toList
      by_cases hbig : 10 < s.size
      · have HN : Hid (IsPi s.data.toList 0 false) := pi_no_count (.inr (by omega))
        have hpos : 0 < s.size := by omega
        have hb8 : (s[0].toNat : Int) < 256 := by have := UInt8.toNat_lt s[0]; omega
        have hb0 : 0 ≤ (s[0].toNat : Int) := by omega
        clear hl hbd hx hk
        obtain rfl : i = 11 := by omega
        clear hlt his hi11
        by_cases h11 : 11 < s.size <;> by_cases h9 : 9 < k <;> cases hm : ((s[0].toNat : Int) == 45)
        all_goals
          go_wp2
          go_ret2
          exact ⟨0, false, HN.out, rfl, Below.refl _ _⟩
      · obtain rfl : i = s.size := by omega
        have ht : s.data.toList.take s.size = s.data.toList := List.take_of_length_le (by simp)
        have hx' := hx.out
        have hk' := hk.out
        rw [ht] at hx' hk'
        have HX := Lib.hid hx'
        have HK := Lib.hid hk'
        clear ht hx' hk' hx hk hl hbd his hi11 hlt
        by_cases h9 : 9 < k
        · have HN : Hid (IsPi s.data.toList 0 false) := pi_no_count (.inl (by have := HK.out; omega))
          have hpos : 0 < s.size := by omega
          cases hm : ((s[0].toNat : Int) == 45)
          all_goals
            go_wp2
            go_ret2
            exact ⟨0, false, HN.out, rfl, Below.refl _ _⟩
        · have HK9 : Hid (sK s.data.toList ≤ 9) := by have := HK.out; unfold Hid; omega
          by_cases hpos : 0 < s.size
          · cases hm : ((s[0].toNat : Int) == 45)
            · have HS : Hid (x = sgn s.data.toList) := by rw [sgn_pos s hpos hm]; exact HX.out
              go_wp2_with (go_at_call 19; refine (specFmt_any _ _ (by omega) (by omega)).mono ?_; rintro e w1 ⟨rfl, hb1⟩)
              · have ht : (9 < (k : Int) ∨ 10 < (s.size : Int)) ∨ (!itoa (x) == s.toList) = true := by assumption
                go_ret2
                exact ⟨0, false, pl_no h9 hbig ht HS.out, rfl, hb1⟩
              · have ht : (((k : Int) ≤ 9 ∧ (s.size : Int) ≤ 10) ∧ (!itoa (x) == s.toList) = false) := by assumption
                go_ret2
                exact ⟨x, true, pl_yes ht.2 HS.out HK9.out, rfl, hb1⟩
            · have HS : Hid (-x = sgn s.data.toList) := by rw [sgn_neg s hpos hm, ← HX.out]; rfl
              go_wp2_with (go_at_call 19; refine (specFmt_any _ _ (by omega) (by omega)).mono ?_; rintro e w1 ⟨rfl, hb1⟩)
              · have ht : (9 < (k : Int) ∨ 10 < (s.size : Int)) ∨ (!itoa (-x) == s.toList) = true := by assumption
                go_ret2
                exact ⟨0, false, pl_no h9 hbig ht HS.out, rfl, hb1⟩
              · have ht : (((k : Int) ≤ 9 ∧ (s.size : Int) ≤ 10) ∧ (!itoa (-x) == s.toList) = false) := by assumption
                go_ret2
                exact ⟨-x, true, pl_yes ht.2 HS.out HK9.out, rfl, hb1⟩
          · have HS : Hid (x = sgn s.data.toList) := by rw [sgn_nil s (by omega)]; exact HX.out
            go_wp2_with (go_at_call 19; refine (specFmt_any _ _ (by omega) (by omega)).mono ?_; rintro e w1 ⟨rfl, hb1⟩)
            · have ht : (9 < (k : Int) ∨ 10 < (s.size : Int)) ∨ (!itoa x == s.toList) = true := by assumption
              go_ret2
              exact ⟨0, false, pl_no h9 hbig ht HS.out, rfl, hb1⟩
            · have ht : (((k : Int) ≤ 9 ∧ (s.size : Int) ≤ 10) ∧ (!itoa x == s.toList) = false) := by assumption
              go_ret2
              exact ⟨x, true, pl_yes ht.2 HS.out HK9.out, rfl, hb1⟩
end Go.Proofs.YtfidmjpgceljkaaDoor
