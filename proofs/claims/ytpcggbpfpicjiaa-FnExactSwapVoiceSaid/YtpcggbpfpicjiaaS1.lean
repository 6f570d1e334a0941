/- The model's and the program's IsSound, IsObstruent, SwapVoice: what they answer. -/
import Derived.Test.YtpcggbpfpicjiaaSnd
import Derived.Laws.Externs
namespace Go.Proofs.Ytpcggbpfpicjiaa
open Go.RowKit

set_option maxRecDepth 100000 in
/-- strings.IndexByte. -/
theorem idxByte (s : ByteArray) (c : Int) (w : World) :
    Calls Try.prog 12 #[.string s, .int .u8 c] w fun e w' => e = .returned (.int .i64 (Lib.indexByte s.data.toList c.toNat.toUInt8)) ∧ w = w' := by
  go_enter Try.func12, Try.ntmps12
  go_wp2
  rw [run_callFunc_extern Try.func14 (by kernel_rfl) (by kernel_rfl) (by kernel_rfl) (e := Extern.BytealgIndexByte.indexByte) (by kernel_rfl), Lib.run_indexByteString]
  simp only [Result.andThen]
  rw [Oper.upon_value]
  go_wp2
  go_ret
  exact ⟨rfl, rfl⟩
theorem implIsSound_any (x : Int) (w : World) (h0 : 0 ≤ x) (h1 : x < 256) :
    Calls Try.prog 7 #[.int .u8 x] w fun e w' => e = .returned (.bool (isSnd x)) ∧ w = w' := by
  have H := Lib.hid (snd_index x h0 h1)
  clear h0 h1
  go_enter Try.func7, Try.ntmps7
  go_wp2_with fail
  refine (idxByte _ _ _).mono ?_
  rintro e w1 ⟨rfl, rfl⟩
  go_wp2
  go_ret
  exact ⟨ret_bool H.out, rfl⟩
theorem implIsObs_any (x : Int) (w : World) (h0 : 0 ≤ x) (h1 : x < 256) :
    Calls Try.prog 9 #[.int .u8 x] w fun e w' => e = .returned (.bool (isObs x)) ∧ w = w' := by
  have H := Lib.hid (obs_index x h0 h1)
  clear h0 h1
  go_enter Try.func9, Try.ntmps9
  go_wp2_with fail
  refine (idxByte _ _ _).mono ?_
  rintro e w1 ⟨rfl, rfl⟩
  go_wp2
  go_ret
  exact ⟨ret_bool H.out, rfl⟩
theorem implSwap_any (x : Int) (w : World) :
    Calls Try.prog 11 #[.int .u8 x] w fun e w' => e = .returned (.tuple #[.int .u8 (swapV x), .bool (isObs x)]) ∧ w = w' := by
  go_enter Try.func11, Try.ntmps11
  go_wp2
  all_goals
    go_ret2
    refine ⟨?_, rfl⟩
    unfold swapV isObs
    simp_all
theorem specSwap_any (x : Int) (w : World) :
    Calls Try.prog 10 #[.int .u8 x] w fun e w' => e = .returned (.tuple #[.int .u8 (swapV x), .bool (isObs x)]) ∧ w = w' := by
  go_enter Try.func10, Try.ntmps10
  go_wp2
  all_goals
    go_ret2
    refine ⟨?_, rfl⟩
    unfold swapV isObs
    simp_all
/-- The k-th byte of Sounds, as it is read. -/
theorem snd_read (k : Nat) (hk : k < 7) : (((⟨#[112, 116, 98, 100, 110, 97, 105]⟩ : ByteArray)[k]'hk).toNat : Int) = sndAt k := by
  have key : ∀ k : Fin 7, (((⟨#[112, 116, 98, 100, 110, 97, 105]⟩ : ByteArray)[k.val]'k.isLt).toNat : Int) = sndAt k.val := by decide
  exact key ⟨k, hk⟩
theorem specIsSound_any (x : Int) (w : World) :
    Calls Try.prog 6 #[.int .u8 x] w fun e w' => e = .returned (.bool (isSnd x)) ∧ w = w' := by
  go_enter Try.func6, Try.ntmps6
  go_wp2
  go_loop [3] (fun i => ∃ j : Nat, j ≤ 7 ∧ i = .int .i64 j ∧ Hid (∀ k, k < j → sndAt k ≠ x)) (fun i => 7 - (intOf i).toNat)
  case atStart => exact ⟨0, by omega, rfl, fun k hk => by omega⟩
  case round =>
    obtain ⟨j, hj, rfl, hx⟩ := hrel
    by_cases hlt : j < 7
    · go_wp2
      · rename_i hq _
        have he : sndAt j = x := by rw [← snd_read j hlt]; simpa using hq
        go_ret
        exact ⟨ret_bool (isSnd_at x j hlt he).symm, rfl⟩
      · rename_i hq
        have he : sndAt j ≠ x := by rw [← snd_read j hlt]; simpa using hq
        go_round
        case rel => exact ⟨j + 1, by omega, by go_num, fun k hk => if hk2 : k = j then hk2 ▸ he else hx.out k (by omega)⟩
        case measure => simp [intOf]; omega
    · obtain rfl : j = 7 := by omega
      go_wp2
      go_ret
      exact ⟨ret_bool (isSnd_none x hx.out).symm, rfl⟩
end Go.Proofs.Ytpcggbpfpicjiaa
