/- The model's and the program's IsSound, IsObstruent, SwapVoice: what they answer. -/
import Derived.Test.YtpcggbpfpicjiaaDoorSnd
import Derived.Laws.Externs
namespace Go.Proofs.YtpcggbpfpicjiaaDoor
open Go.RowKit

set_option maxRecDepth 100000 in
/-- strings.IndexByte. -/
theorem idxByte (s : ByteArray) (c : Int) (w : World) :
    Calls Tryd.prog 36 #[.string s, .int .u8 c] w fun e w' => e = .returned (.int .i64 (Lib.indexByte s.data.toList c.toNat.toUInt8)) ∧ w = w' := by
  go_enter Tryd.func36, Tryd.ntmps36
  go_wp2
  rw [run_callFunc_extern Tryd.func52 (by kernel_rfl) (by kernel_rfl) (by kernel_rfl) (e := Extern.BytealgIndexByte.indexByte) (by kernel_rfl), Lib.run_indexByteString]
  simp only [Result.andThen]
  rw [Oper.upon_value]
  go_wp2
  go_ret
  exact ⟨rfl, rfl⟩
theorem implIsSound_any (x : Int) (w : World) (h0 : 0 ≤ x) (h1 : x < 256) :
    Calls Tryd.prog 14 #[.int .u8 x] w fun e w' => e = .returned (.bool (isSnd x)) ∧ w = w' := by
  have H := Lib.hid (snd_index x h0 h1)
  clear h0 h1
  go_enter Tryd.func14, Tryd.ntmps14
  go_wp2_with fail
  refine (idxByte _ _ _).mono ?_
  rintro e w1 ⟨rfl, rfl⟩
  go_wp2
  go_ret
  exact ⟨ret_bool H.out, rfl⟩
theorem implIsObs_any (x : Int) (w : World) (h0 : 0 ≤ x) (h1 : x < 256) :
    Calls Tryd.prog 13 #[.int .u8 x] w fun e w' => e = .returned (.bool (isObs x)) ∧ w = w' := by
  have H := Lib.hid (obs_index x h0 h1)
  clear h0 h1
  go_enter Tryd.func13, Tryd.ntmps13
  go_wp2_with fail
  refine (idxByte _ _ _).mono ?_
  rintro e w1 ⟨rfl, rfl⟩
  go_wp2
  go_ret
  exact ⟨ret_bool H.out, rfl⟩
theorem implSwap_any (x : Int) (w : World) :
    Calls Tryd.prog 11 #[.int .u8 x] w fun e w' => e = .returned (.tuple #[.int .u8 (swapV x), .bool (isObs x)]) ∧ w = w' := by
  go_enter Tryd.func11, Tryd.ntmps11
  go_wp2
  all_goals
    go_ret2
    refine ⟨?_, rfl⟩
    unfold swapV isObs
    simp_all
theorem specSwap_any (x : Int) (w : World) :
    Calls Tryd.prog 12 #[.int .u8 x] w fun e w' => e = .returned (.tuple #[.int .u8 (swapV x), .bool (isObs x)]) ∧ w = w' := by
  go_enter Tryd.func12, Tryd.ntmps12
  go_wp2
  all_goals
    go_ret2
    refine ⟨?_, rfl⟩
    unfold swapV isObs
    simp_all
/-- The k-th byte of Sounds, as it is read. -/
theorem snd_read (k : Nat) (hk : k < 7) : (((⟨#[112, 116, 98, 100, 110, 97, 105]⟩ : ByteArray)[k]'hk).toNat : Int) = sndAt k := by
  have key : ∀ k : Fin 7, (((⟨#[112, 116, 98, 100, 110, 97, 105]⟩ : ByteArray)[k.val]'k.isLt).toNat : Int) = sndAt k.val := by decide
  exact key ⟨k, hk⟩
theorem specIsSound_any (x : Int) (w : World) :
    Calls Tryd.prog 15 #[.int .u8 x] w fun e w' => e = .returned (.bool (isSnd x)) ∧ w = w' := by
  go_enter Tryd.func15, Tryd.ntmps15
  go_wp2
  go_loop [3] (fun i => ∃ j : Nat, j ≤ 7 ∧ i = .int .i64 j ∧ Hid (∀ k, k < j → sndAt k ≠ x)) (fun i => 7 - (intOf i).toNat)
  case atStart => exact ⟨0, by omega, rfl, fun k hk => by omega⟩
  case round =>
    obtain ⟨j, hj, rfl, hx⟩ := hrel
    by_cases hlt : j < 7
    · go_wp2
      · rename_i hq _
        have he : sndAt j = x := by rw [← snd_read j hlt]; simpa using hq
        go_ret
        exact ⟨ret_bool (isSnd_at x j hlt he).symm, rfl⟩
      · rename_i hq
        have he : sndAt j ≠ x := by rw [← snd_read j hlt]; simpa using hq
        go_round
        case rel => exact ⟨j + 1, by omega, by go_num, fun k hk => if hk2 : k = j then hk2 ▸ he else hx.out k (by omega)⟩
        case measure => simp [intOf]; omega
    · obtain rfl : j = 7 := by omega
      go_wp2
      go_ret
      exact ⟨ret_bool (isSnd_none x hx.out).symm, rfl⟩
end Go.Proofs.YtpcggbpfpicjiaaDoor
