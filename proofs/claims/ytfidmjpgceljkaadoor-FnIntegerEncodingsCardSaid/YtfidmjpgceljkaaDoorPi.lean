/- What ParseInt answers: plain mathematics on texts and numbers, no condition. -/
import Derived.Test.YtfidmjpgceljkaaDoorDec
import Derived.Test.YtfidmjpgceljkaaDoorNum
import Derived.Lib.Strings
namespace Go.Proofs.YtfidmjpgceljkaaDoor.M
open Go.Lib
def isD (b : UInt8) : Bool := 48 ≤ b.toNat && b.toNat ≤ 57
/-- One byte more: a digit counts, any other byte is passed over. -/
def stepN (n : Int) (b : UInt8) : Int := if isD b then n * 10 + ((b.toNat : Int) - 48) else n
def stepK (k : Nat) (b : UInt8) : Nat := if isD b then k + 1 else k
def sF (l : List UInt8) : Int := l.foldl stepN 0
def sK (l : List UInt8) : Nat := l.foldl stepK 0
theorem sF_snoc (l : List UInt8) (b : UInt8) : sF (l ++ [b]) = stepN (sF l) b := by simp [sF]
theorem sK_snoc (l : List UInt8) (b : UInt8) : sK (l ++ [b]) = stepK (sK l) b := by simp [sK]
theorem stepN_bd (n : Int) (b : UInt8) (P : Int) (h0 : 0 ≤ n) (h1 : n < P) : 0 ≤ stepN n b ∧ stepN n b < P * 10 := by
  unfold stepN
  split
  · rename_i h
    simp [isD] at h
    omega
  · omega
theorem digit_bd (d : Nat) (h : d < 10) : (UInt8.ofNat (48 + d)).toNat = 48 + d := by
  rw [UInt8.toNat_ofNat']; omega
theorem isD_digit (d : Nat) (h : d < 10) : isD (UInt8.ofNat (48 + d)) = true := by
  unfold isD; rw [digit_bd d h]; simp; omega
theorem stepN_digit (n : Int) (d : Nat) (h : d < 10) : stepN n (UInt8.ofNat (48 + d)) = n * 10 + d := by
  unfold stepN; rw [if_pos (isD_digit d h), digit_bd d h]; omega
theorem stepK_digit (k d : Nat) (h : d < 10) : stepK k (UInt8.ofNat (48 + d)) = k + 1 := by
  unfold stepK; rw [if_pos (isD_digit d h)]
theorem sF_dec (u : Nat) : sF (decDigits u) = u := by
  induction u using Nat.strongRecOn with
  | _ u ih =>
    rw [decDigits]
    split
    · rename_i h
      show stepN 0 _ = _
      rw [stepN_digit 0 u h]; omega
    · rw [sF_snoc, ih (u / 10) (by omega), stepN_digit _ _ (by omega)]; omega
theorem sK_dec (u : Nat) : sK (decDigits u) = nDigits u := by
  induction u using Nat.strongRecOn with
  | _ u ih =>
    rw [decDigits]
    split
    · rename_i h
      show stepK 0 _ = _
      rw [stepK_digit 0 u h, nDigits_small h]
    · rename_i h
      rw [sK_snoc, ih (u / 10) (by omega), stepK_digit _ _ (by omega), nDigits_big h]
theorem all_dec (u : Nat) : ∀ b ∈ decDigits u, isD b = true := by
  induction u using Nat.strongRecOn with
  | _ u ih =>
    rw [decDigits]
    split
    · rename_i h
      intro b hb
      simp only [List.mem_singleton] at hb
      rw [hb]; exact isD_digit u h
    · intro b hb
      rcases List.mem_append.1 hb with h | h
      · exact ih (u / 10) (by omega) b h
      · simp only [List.mem_singleton] at h
        rw [h]; exact isD_digit _ (by omega)
theorem sF_neg (l : List UInt8) : sF (45 :: l) = sF l := rfl
theorem sK_neg (l : List UInt8) : sK (45 :: l) = sK l := rfl
theorem nD_lt (u : Nat) (h : u ≤ 999999999) : nDigits u ≤ 9 := by
  rcases Nat.lt_or_ge (nDigits u) 10 with h1 | h1
  · omega
  · exfalso
    have aux : ∀ (k v : Nat), v < 10 ^ (k + 1) → nDigits v ≤ k + 1 := by
      intro k
      induction k with
      | zero => intro v hv; rw [nDigits_small (by omega)]; omega
      | succ k ih =>
        intro v hv
        by_cases h9 : v < 10
        · rw [nDigits_small h9]; omega
        · rw [nDigits_big h9]
          have := ih (v / 10) (by rw [Nat.pow_succ] at hv; omega)
          omega
    have := aux 8 u (by omega)
    omega
/-- The sign and the digits of a number between -999999999 and 999999999. -/
theorem itoa_form (n : Int) (h0 : -999999999 ≤ n) (h1 : n ≤ 999999999) :
    ∃ u : Nat, u ≤ 999999999 ∧ nDigits u ≤ 9 ∧ ((n = u ∧ itoa n = decDigits u) ∨ (n = -(u : Int) ∧ 1 ≤ u ∧ itoa n = 45 :: decDigits u)) := by
  by_cases h : n < 0
  · obtain ⟨u, rfl⟩ : ∃ u : Nat, n = -(u : Int) := ⟨n.natAbs, by omega⟩
    exact ⟨u, by omega, nD_lt u (by omega), .inr ⟨rfl, by omega, itoa_neg u (by omega)⟩⟩
  · obtain ⟨u, rfl⟩ : ∃ u : Nat, n = u := ⟨n.toNat, by omega⟩
    exact ⟨u, by omega, nD_lt u (by omega), .inl ⟨rfl, itoa_nonneg u⟩⟩
theorem dec_head (u : Nat) : ∃ b t, decDigits u = b :: t ∧ b ≠ 45 := by
  have hl := decDigits_length u
  have hp := nDigits_pos u
  cases hd : decDigits u with
  | nil => rw [hd] at hl; simp at hl; omega
  | cons b t =>
    refine ⟨b, t, rfl, ?_⟩
    rintro rfl
    have := all_dec u 45 (by rw [hd]; simp)
    revert this; decide
theorem trim_dec (u : Nat) : trimPrefix (decDigits u) [45] = decDigits u := by
  obtain ⟨b, t, h, hb⟩ := dec_head u
  rw [h]
  unfold trimPrefix hasPrefix
  rw [if_neg]
  simp [List.isPrefixOf, Ne.symm hb]
theorem trim_neg (l : List UInt8) : trimPrefix (45 :: l) [45] = l := by simp [trimPrefix, hasPrefix, List.isPrefixOf]
/-- The signed number that a text's digits make. -/
def sgn (l : List UInt8) : Int := if l.head? = some 45 then -sF l else sF l
/-- A text that is a numeral: its number, its count of digits, its length. -/
theorem form_facts (l : List UInt8) (n : Int) (h0 : -999999999 ≤ n) (h1 : n ≤ 999999999) (h : itoa n = l) : sgn l = n ∧ sK l ≤ 9 ∧ l.length ≤ 10 := by
  obtain ⟨u, _, hd, hc⟩ := itoa_form n h0 h1
  have hl := decDigits_length u
  rcases hc with ⟨rfl, he⟩ | ⟨rfl, hu1, he⟩
  · rw [he] at h
    subst h
    obtain ⟨b, t, hh, hb⟩ := dec_head u
    refine ⟨?_, by rw [sK_dec]; exact hd, by omega⟩
    unfold sgn
    rw [sF_dec, if_neg]
    rw [hh]; simpa using hb
  · rw [he] at h
    subst h
    refine ⟨?_, by rw [sK_neg, sK_dec]; exact hd, by simp; omega⟩
    unfold sgn
    rw [sF_neg, sF_dec, if_pos (by simp)]
theorem trim_facts (l : List UInt8) (n : Int) (h0 : -999999999 ≤ n) (h1 : n ≤ 999999999) (h : itoa n = l) :
    (trimPrefix l [45]).length ≤ 9 ∧ (∀ b ∈ trimPrefix l [45], isD b = true) ∧ (if (trimPrefix l [45]).length < l.length then -sF (trimPrefix l [45]) else sF (trimPrefix l [45])) = n := by
  obtain ⟨u, _, hd, hc⟩ := itoa_form n h0 h1
  have hl := decDigits_length u
  rcases hc with ⟨rfl, he⟩ | ⟨rfl, hu1, he⟩
  · rw [he] at h
    subst h
    rw [trim_dec]
    exact ⟨by omega, all_dec u, by rw [if_neg (by omega), sF_dec]⟩
  · rw [he] at h
    subst h
    rw [trim_neg]
    exact ⟨by omega, all_dec u, by rw [if_pos (by simp), sF_dec]⟩
/-- What ParseInt answers. -/
def IsPi (l : List UInt8) (x : Int) (b : Bool) : Prop :=
  (b = true ∧ -999999999 ≤ x ∧ x ≤ 999999999 ∧ itoa x = l) ∨ (b = false ∧ x = 0 ∧ ∀ n : Int, -999999999 ≤ n → n ≤ 999999999 → itoa n ≠ l)
theorem IsPi_one {l : List UInt8} {x y : Int} {b c : Bool} (h : IsPi l x b) (h' : IsPi l y c) : x = y ∧ b = c := by
  rcases h with ⟨rfl, h1, h2, h3⟩ | ⟨rfl, rfl, h3⟩
  · rcases h' with ⟨rfl, g1, g2, g3⟩ | ⟨rfl, rfl, g3⟩
    · exact ⟨((form_facts l x h1 h2 h3).1).symm.trans (form_facts l y g1 g2 g3).1, rfl⟩
    · exact absurd h3 (g3 x h1 h2)
  · rcases h' with ⟨rfl, g1, g2, g3⟩ | ⟨rfl, rfl, g3⟩
    · exact absurd g3 (h3 y g1 g2)
    · exact ⟨rfl, rfl⟩
theorem sF_bd' : ∀ (l : List UInt8) (n : Int) (k : Nat), 0 ≤ n → n < 10 ^ k → 0 ≤ l.foldl stepN n ∧ l.foldl stepN n < 10 ^ (l.foldl stepK k)
  | [], n, k, h0, h1 => ⟨h0, h1⟩
  | b :: t, n, k, h0, h1 => by
    simp only [List.foldl_cons]
    apply sF_bd' t
    · exact (stepN_bd n b _ h0 h1).1
    · unfold stepN stepK
      split
      · rename_i h
        simp [isD] at h
        rw [Int.pow_succ]
        omega
      · exact h1
theorem sF_bd (l : List UInt8) : 0 ≤ sF l ∧ sF l < 10 ^ sK l := sF_bd' l 0 0 (by omega) (by decide)
theorem sK_le' : ∀ (l : List UInt8) (k : Nat), l.foldl stepK k ≤ k + l.length
  | [], k => by simp
  | b :: t, k => by
    simp only [List.foldl_cons, List.length_cons]
    have h := sK_le' t (stepK k b)
    have : stepK k b ≤ k + 1 := by unfold stepK; split <;> omega
    omega
theorem sK_le (l : List UInt8) : sK l ≤ l.length := by have := sK_le' l 0; unfold sK; omega
theorem pow10_le (a b : Nat) (h : a ≤ b) : (10 : Int) ^ a ≤ 10 ^ b := by
  have := Nat.pow_le_pow_right (n := 10) (by decide) h
  exact_mod_cast this
theorem sF_lt (l : List UInt8) (h : l.length ≤ 11) : 0 ≤ sF l ∧ sF l ≤ 99999999999 := by
  have h1 := sF_bd l
  have h2 := pow10_le (sK l) 11 (by have := sK_le l; omega)
  have h3 : (10 : Int) ^ 11 = 100000000000 := by decide
  omega
theorem sF_nine (l : List UInt8) (h : sK l ≤ 9) : 0 ≤ sF l ∧ sF l ≤ 999999999 := by
  have h1 := sF_bd l
  have h2 := pow10_le (sK l) 9 h
  have h3 : (10 : Int) ^ 9 = 1000000000 := by decide
  omega
/-- The model's way: what it reckons is the text's own number, where there is one. -/
theorem pi_yes {l : List UInt8} {x : Int} (hx : x = sgn l) (hk : sK l ≤ 9) (hi : itoa x = l) : IsPi l x true := by
  have h := sF_nine l hk
  refine .inl ⟨rfl, ?_, ?_, hi⟩ <;> · subst hx; unfold sgn; split <;> omega
theorem pi_no_count {l : List UInt8} (hk : 9 < sK l ∨ 10 < l.length) : IsPi l 0 false :=
  .inr ⟨rfl, rfl, fun n h0 h1 h => by have := form_facts l n h0 h1 h; omega⟩
theorem pi_no {l : List UInt8} {x : Int} (hx : x = sgn l) (hi : itoa x ≠ l) : IsPi l 0 false :=
  .inr ⟨rfl, rfl, fun n h0 h1 h => by have := (form_facts l n h0 h1 h).1; rw [hx, this] at hi; exact hi h⟩
/-- The program's way. -/
theorem pi_no_long {l : List UInt8} (hl : 9 < (trimPrefix l [45]).length) : IsPi l 0 false :=
  .inr ⟨rfl, rfl, fun n h0 h1 h => by have := (trim_facts l n h0 h1 h).1; omega⟩
theorem pi_no_byte {l : List UInt8} {b : UInt8} (hb : b ∈ trimPrefix l [45]) (hd : isD b = false) : IsPi l 0 false :=
  .inr ⟨rfl, rfl, fun n h0 h1 h => by rw [(trim_facts l n h0 h1 h).2.1 b hb] at hd; cases hd⟩
def tsgn (l : List UInt8) : Int := if (trimPrefix l [45]).length < l.length then -sF (trimPrefix l [45]) else sF (trimPrefix l [45])
theorem pi_no_text {l : List UInt8} (hi : itoa (tsgn l) ≠ l) : IsPi l 0 false :=
  .inr ⟨rfl, rfl, fun n h0 h1 h => by
    have := (trim_facts l n h0 h1 h).2.2
    unfold tsgn at hi
    rw [this] at hi
    exact hi h⟩
theorem pi_yes_text {l : List UInt8} (hl : (trimPrefix l [45]).length ≤ 9) (hi : itoa (tsgn l) = l) : IsPi l (tsgn l) true := by
  have h := sF_nine (trimPrefix l [45]) (by have := sK_le (trimPrefix l [45]); omega)
  refine .inl ⟨rfl, ?_, ?_, hi⟩ <;> · unfold tsgn; split <;> omega
end Go.Proofs.YtfidmjpgceljkaaDoor.M
