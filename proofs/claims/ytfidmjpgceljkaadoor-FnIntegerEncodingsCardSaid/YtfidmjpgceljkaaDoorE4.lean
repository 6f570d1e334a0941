/- What the encoders and decoders answer, each in one contract, as the law on round trips uses them. -/
import Derived.Test.YtfidmjpgceljkaaDoorE2
import Derived.Test.YtfidmjpgceljkaaDoorE3
import Derived.Test.YtfidmjpgceljkaaDoorD5
import Derived.Test.YtfidmjpgceljkaaDoorP2
import Derived.Test.YtfidmjpgceljkaaDoorRound
import Derived.Deep.DeepCutAuto
namespace Go.Proofs.YtfidmjpgceljkaaDoor
open Go.RowKit M

theorem size_mk (l : List UInt8) : (⟨l.toArray⟩ : ByteArray).size = l.length := by show l.toArray.size = _; simp
theorem not_nil {s : ByteArray} (h : 0 < s.size) : ¬ s.toList = [] := by
  rw [Lib.toList_data]
  intro e
  have h1 : s.data.toList.length = 0 := by rw [e]; rfl
  have h2 : s.data.toList.length = s.size := Array.length_toList
  omega
theorem not_empty {s : ByteArray} (h : 0 < s.size) : s.toList.isEmpty = false := by
  have := not_nil h
  simpa using this
/-- A varint, or nothing where the number is out of range. -/
def VarOk (n : Int) (s : ByteArray) : Prop := (0 ≤ n ∧ n ≤ 562949953421311 ∧ s.data.toList = vl 6 n) ∨ ((n < 0 ∨ 562949953421311 < n) ∧ s = ⟨#[]⟩)
def VarPost (n : Int) (w : World) (e : Ending) (w' : World) : Prop := ∃ s : ByteArray, VarOk n s ∧ s.size ≤ 7 ∧ e = .returned (.string s) ∧ Below w.heap.size w w'
theorem encVar_all (n : Int) (w : World) : Calls Tryd.prog 9 #[.int .i64 n] w (VarPost n w) := by
  by_cases h : n < 0 ∨ 562949953421311 < n
  · refine (implVar_bad n w h).mono fun e w' hp => ?_
    obtain ⟨rfl, rfl⟩ := hp
    exact ⟨⟨#[]⟩, .inr ⟨h, rfl⟩, by simp [ByteArray.size], rfl, Below.refl _ _⟩
  · refine (implVar_any n w (by omega) (by omega)).mono fun e w' hp => ?_
    obtain ⟨rfl, hb⟩ := hp
    refine ⟨⟨(vl 6 n).toArray⟩, .inl ⟨by omega, by omega, rfl⟩, ?_, rfl, hb⟩
    have := (vl_len 6 n).2
    simp [ByteArray.size]; omega
theorem var_round {n x : Int} {s t : ByteArray} {k : Nat} (h : VarOk n s) (h0 : 0 ≤ n) (h1 : n ≤ 562949953421311) (hd : IsDv (s ++ t) x k) : x = n ∧ k = s.size ∧ 0 < s.size := by
  rcases h with ⟨_, _, hs⟩ | ⟨h, _⟩
  · have e : s.size = (vl 6 n).length := by rw [← hs]; simp
    have hr := dv_round (s ++ t) n t.data.toList h0 h1 (by rw [ByteArray.data_append, Array.toList_append, hs])
    have := IsDv_one hd hr
    have hl := vl_len 6 n
    exact ⟨this.1, by omega, by omega⟩
  · omega
/-- A number in a fixed width, or nothing. -/
def fixT (n k : Int) : ByteArray := if k < 1 ∨ 7 < k ∨ n < 0 then ⟨#[]⟩ else encF n k.toNat
theorem fixT_size (n k : Int) : (fixT n k).size ≤ 7 := by
  unfold fixT
  split
  · simp [ByteArray.size]
  · unfold encF
    split
    · simp [ByteArray.size, lowB_len]; omega
    · simp [ByteArray.size]
theorem encFix_all (n k : Int) (w : World) (hn : n ≤ 9223372036854775807) : Calls Tryd.prog 12 #[.int .i64 n, .int .i64 k] w fun e w' => e = .returned (.string (fixT n k)) ∧ Below w.heap.size w w' := by
  by_cases h : k < 1 ∨ 7 < k ∨ n < 0
  · refine (implEnc_bad n k w h).mono fun e w' hp => ?_
    obtain ⟨rfl, rfl⟩ := hp
    exact ⟨ret_str (by unfold fixT; rw [if_pos h]), Below.refl _ _⟩
  · obtain ⟨m, rfl⟩ : ∃ m : Nat, k = m := ⟨k.toNat, by omega⟩
    refine (implEnc_any n m w (by omega) hn (by omega) (by omega)).mono fun e w' hp => ⟨?_, hp.2⟩
    rw [hp.1]
    exact ret_str (by unfold fixT; rw [if_neg h]; rfl)
theorem specFix_all (n k : Int) (w : World) (hn : n ≤ 9223372036854775807) : Calls Tryd.prog 14 #[.int .i64 n, .int .i64 k] w fun e w' => e = .returned (.string (fixT n k)) ∧ Below w.heap.size w w' := by
  by_cases h : k < 1 ∨ 7 < k ∨ n < 0
  · refine (specEnc_bad n k w h).mono fun e w' hp => ?_
    obtain ⟨rfl, rfl⟩ := hp
    exact ⟨ret_str (by unfold fixT; rw [if_pos h]), Below.refl _ _⟩
  · obtain ⟨m, rfl⟩ : ∃ m : Nat, k = m := ⟨k.toNat, by omega⟩
    refine (specEnc_any n m w (by omega) hn (by omega) (by omega)).mono fun e w' hp => ⟨?_, hp.2⟩
    rw [hp.1]
    exact ret_str (by unfold fixT; rw [if_neg h]; rfl)
/-- What DecodeFixed gives: where the text begins with a number of that width, the number. -/
def FixPost (n k : Int) (w : World) (e : Ending) (w' : World) : Prop :=
  ∃ (y : Int) (b : Bool), (0 < (fixT n k).size → y = n ∧ b = true ∧ ((fixT n k).size : Int) = k) ∧ e = .returned (.tuple #[.int .i64 y, .bool b]) ∧ Below w.heap.size w w'
theorem decFix_all (n k : Int) (t : ByteArray) (w : World) (ht : (fixT n k ++ t).size ≤ maxLen) : Calls Tryd.prog 13 #[.string (fixT n k ++ t), .int .i64 k] w (FixPost n k w) := by
  by_cases h : k < 1 ∨ 7 < k ∨ ((fixT n k ++ t).size : Int) < k
  · refine (implDec_bad (fixT n k ++ t) k w h).mono fun e w' hp => ?_
    obtain ⟨rfl, rfl⟩ := hp
    refine ⟨0, false, fun hf => ?_, rfl, Below.refl _ _⟩
    exfalso
    by_cases hk : k < 1 ∨ 7 < k ∨ n < 0
    · unfold fixT at hf; rw [if_pos hk] at hf; simp [ByteArray.size] at hf
    · unfold fixT encF at hf h
      rw [if_neg hk] at hf h
      split at hf
      · rename_i hh
        rw [if_pos hh] at h
        rw [ByteArray.size_append, size_mk, lowB_len] at h
        omega
      · simp [ByteArray.size] at hf
  · obtain ⟨m, rfl⟩ : ∃ m : Nat, k = m := ⟨k.toNat, by omega⟩
    refine (implDec_any (fixT n m ++ t) m w ht (by omega) (by omega) (by omega)).mono fun e w' hp => ?_
    obtain ⟨rfl, rfl⟩ := hp
    refine ⟨_, true, fun hf => ?_, rfl, Below.refl _ _⟩
    by_cases hk : (m : Int) < 1 ∨ 7 < (m : Int) ∨ n < 0
    · unfold fixT at hf; rw [if_pos hk] at hf; simp [ByteArray.size] at hf
    · have hF : fixT n m = encF n m := by unfold fixT; rw [if_neg hk]; rfl
      rw [hF] at hf ⊢
      by_cases hh : hiB n m = 0
      · have hE : encF n m = ⟨(lowB n m).toArray⟩ := by unfold encF; rw [if_pos hh]
        have hr := fixed_round (encF n m ++ t) n m t.data.toList (by omega) hh (by rw [ByteArray.data_append, Array.toList_append, hE])
        exact ⟨hr.2, rfl, by rw [hE]; simp [ByteArray.size, lowB_len]⟩
      · unfold encF at hf; rw [if_neg hh] at hf; simp [ByteArray.size] at hf
theorem dhR_hex (t : ByteArray) : dhR (⟨(hexL t.data.toList).toArray⟩ : ByteArray).data.toList = .returned (.tuple #[.string t, .bool true]) := by
  have h := dhR_some (l := (⟨(hexL t.data.toList).toArray⟩ : ByteArray).data.toList) (out := t.data.toList) (by simpa using dh_hexL t.data.toList)
  rw [← h]
theorem hexT_size (t : ByteArray) : (⟨(hexL t.data.toList).toArray⟩ : ByteArray).size = 2 * t.size := by
  rw [size_mk, hexL_len]; simp
end Go.Proofs.YtfidmjpgceljkaaDoor
