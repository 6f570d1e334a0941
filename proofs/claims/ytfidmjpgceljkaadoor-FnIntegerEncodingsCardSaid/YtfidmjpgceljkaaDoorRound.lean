/- What is encoded is decoded again: plain mathematics on numbers and lists of bytes, no condition. -/
import Derived.Test.YtfidmjpgceljkaaDoorDv
import Derived.Test.YtfidmjpgceljkaaDoorDhx
import Derived.Test.YtfidmjpgceljkaaDoorPi
namespace Go.Proofs.YtfidmjpgceljkaaDoor.M
open Go.Lib
/-! Varints. -/
def nl : List UInt8 → Int
  | [] => 0
  | b :: t => (b.toNat : Int) % 128 + 128 * nl t
theorem nl_snoc : ∀ (l : List UInt8) (b : UInt8), nl (l ++ [b]) = nl l + (b.toNat : Int) % 128 * 128 ^ l.length
  | [], b => by simp [nl]
  | c :: t, b => by
    rw [List.cons_append, nl, nl_snoc t b, nl, List.length_cons, Int.pow_succ]
    rw [Int.mul_add, Int.mul_comm (128 ^ t.length) 128, ← Int.mul_assoc, ← Int.mul_assoc, Int.mul_comm 128 ((b.toNat : Int) % 128)]
    omega
theorem N7_nl (s : ByteArray) (k : Nat) (hk : k ≤ s.size) : N7 s k = nl (s.data.toList.take k) := by
  induction k with
  | zero => rfl
  | succ k ih =>
    rw [N7, ih (by omega), take_snoc s k (by omega), nl_snoc, byteAt_in s k (by omega)]
    have : (s.data.toList.take k).length = k := by simp; omega
    rw [this]
theorem nl_vl (f : Nat) : ∀ n : Int, 0 ≤ n → n < 128 ^ (f + 1) → nl (vl f n) = n := by
  induction f with
  | zero =>
    intro n h0 h1
    show ((byt n).toNat : Int) % 128 + 128 * 0 = n
    rw [byt_toNat n h0 (by omega)]
    omega
  | succ f ih =>
    intro n h0 h1
    by_cases h : 128 ≤ n
    · rw [vl_big f n h, nl, ih (n / 128) (by omega) (div_lt f n h1), byt_toNat _ (by omega) (by omega)]
      omega
    · rw [vl_small (f + 1) n (by omega)]
      show ((byt n).toNat : Int) % 128 + 128 * 0 = n
      rw [byt_toNat n h0 (by omega)]
      omega
theorem vl_len (f : Nat) : ∀ n : Int, 1 ≤ (vl f n).length ∧ (vl f n).length ≤ f + 1 := by
  induction f with
  | zero => intro n; simp [vl]
  | succ f ih =>
    intro n
    by_cases h : 128 ≤ n
    · have := ih (n / 128)
      rw [vl_big f n h, List.length_cons]
      omega
    · rw [vl_small (f + 1) n (by omega)]; simp
/-- DecodeVarint of a varint, whatever follows. -/
theorem dv_round (s : ByteArray) (n : Int) (tail : List UInt8) (h0 : 0 ≤ n) (h1 : n ≤ 562949953421311) (hs : s.data.toList = vl 6 n ++ tail) : IsDv s n (vl 6 n).length := by
  have hl := vl_len 6 n
  have hlt : n < 128 ^ (6 + 1) := by have : (128 : Int) ^ (6 + 1) = 562949953421312 := by decide
                                     omega
  have hsz : (vl 6 n).length ≤ s.size := by
    have : s.size = s.data.toList.length := by simp
    rw [this, hs, List.length_append]
    omega
  have ht : s.data.toList.take (vl 6 n).length = vl 6 n := by rw [hs, List.take_left']; rfl
  have hN : N7 s (vl 6 n).length = n := by rw [N7_nl s _ hsz, ht, nl_vl 6 n h0 hlt]
  have hg : good s (vl 6 n).length := by unfold good; rw [hN, ht]
  obtain ⟨k, hk⟩ : ∃ k, (vl 6 n).length = k + 1 := ⟨(vl 6 n).length - 1, by omega⟩
  rw [hk] at hN hg hsz ⊢
  have hb := good_bytes s k (by omega) (by omega) hg
  have := dv_found (by omega) (by omega) hb.1 hg
  rw [hN] at this
  exact this
/-! Fixed widths. -/
def nb (l : List UInt8) : Int := l.foldl (fun a b => a * 256 + (b.toNat : Int)) 0
theorem nb_snoc (l : List UInt8) (b : UInt8) : nb (l ++ [b]) = nb l * 256 + b.toNat := by simp [nb]
theorem numK_nb (s : ByteArray) (k : Nat) (hk : k ≤ s.size) : numK s k = nb (s.data.toList.take k) := by
  induction k with
  | zero => rfl
  | succ k ih => rw [numK, ih (by omega), take_snoc s k (by omega), nb_snoc, byteAt_in s k (by omega)]
theorem nb_low (k : Nat) : ∀ n : Int, 0 ≤ n → hiB n k = 0 → nb (lowB n k) = n := by
  induction k with
  | zero =>
    intro n _ h
    have : n = 0 := h
    subst this; rfl
  | succ k ih =>
    intro n h0 h
    rw [lowB, nb_snoc, ih (n / 256) (by omega) h, byt_toNat _ (by omega) (by omega)]
    omega
theorem fixed_round (s : ByteArray) (n : Int) (k : Nat) (tail : List UInt8) (h0 : 0 ≤ n) (hh : hiB n k = 0) (hs : s.data.toList = lowB n k ++ tail) : k ≤ s.size ∧ numK s k = n := by
  have hl := lowB_len n k
  have hsz : k ≤ s.size := by
    have : s.size = s.data.toList.length := by simp
    rw [this, hs, List.length_append]
    omega
  refine ⟨hsz, ?_⟩
  rw [numK_nb s k hsz, hs, List.take_left' hl, nb_low k n h0 hh]
/-! Hexadecimal digits. -/
theorem hex_pair (b : UInt8) : hv ((byt (hexd ((b.toNat : Int) / 16))).toNat : Int) = (b.toNat : Int) / 16 ∧ hv ((byt (hexd ((b.toNat : Int) % 16))).toNat : Int) = (b.toNat : Int) % 16 := by
  have hb := UInt8.toNat_lt b
  have d1 := hexd_bd ((b.toNat : Int) / 16) (by omega) (by omega)
  have d2 := hexd_bd ((b.toNat : Int) % 16) (by omega) (by omega)
  rw [byt_toNat _ d1.1 d1.2, byt_toNat _ d2.1 d2.2]
  exact ⟨hv_hexd _ (by omega) (by omega), hv_hexd _ (by omega) (by omega)⟩
theorem dh_hexL : ∀ l : List UInt8, dh (hexL l) = some l
  | [] => rfl
  | b :: t => by
    obtain ⟨h1, h2⟩ := hex_pair b
    have hb := UInt8.toNat_lt b
    rw [show hexL (b :: t) = byt (hexd ((b.toNat : Int) / 16)) :: byt (hexd ((b.toNat : Int) % 16)) :: hexL t from rfl, dh, h1, h2, if_neg (by omega), dh_hexL t]
    have : byt (16 * ((b.toNat : Int) / 16) + (b.toNat : Int) % 16) = b := by
      apply UInt8.toNat_inj.1
      have := byt_toNat (16 * ((b.toNat : Int) / 16) + (b.toNat : Int) % 16) (by omega) (by omega)
      omega
    rw [this]; rfl
/-! Decimal numerals. -/
theorem sgn_itoa (n : Int) : sgn (itoa n) = n := by
  by_cases h : n < 0
  · obtain ⟨u, rfl⟩ : ∃ u : Nat, n = -(u : Int) := ⟨n.natAbs, by omega⟩
    rw [itoa_neg u (by omega)]
    unfold sgn
    rw [sF_neg, sF_dec, if_pos (by simp)]
  · obtain ⟨u, rfl⟩ : ∃ u : Nat, n = u := ⟨n.toNat, by omega⟩
    rw [itoa_nonneg]
    obtain ⟨b, t, hh, hb⟩ := dec_head u
    unfold sgn
    rw [sF_dec, if_neg]
    rw [hh]; simpa using hb
theorem pi_round_in (w : Int) (h0 : -999999999 ≤ w) (h1 : w ≤ 999999999) : IsPi (itoa w) w true := .inl ⟨rfl, h0, h1, rfl⟩
theorem pi_round_out (w : Int) (h : w < -999999999 ∨ 999999999 < w) : IsPi (itoa w) 0 false :=
  .inr ⟨rfl, rfl, fun n h0 h1 he => by
    have h2 := sgn_itoa n
    rw [he, sgn_itoa w] at h2
    omega⟩
end Go.Proofs.YtfidmjpgceljkaaDoor.M
