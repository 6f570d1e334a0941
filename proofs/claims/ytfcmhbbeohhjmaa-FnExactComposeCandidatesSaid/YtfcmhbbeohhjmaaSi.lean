/- strings.IndexByte and the program's IsSound: what they answer. -/
import Derived.Test.YtfcmhbbeohhjmaaSnd
import Derived.Laws.Externs
namespace Go.Proofs.Ytfcmhbbeohhjmaa
set_option maxRecDepth 100000
open Go.RowKit

set_option maxRecDepth 100000 in
/-- strings.IndexByte. -/
theorem idxByte (s : ByteArray) (c : Int) (w : World) :
    Calls Try.prog 62 #[.string s, .int .u8 c] w fun e w' => e = .returned (.int .i64 (Lib.indexByte s.data.toList c.toNat.toUInt8)) ∧ w = w' := by
  go_enter Try.func62, Try.ntmps62
  go_wp2
  rw [run_callFunc_extern Try.func64 (by kernel_rfl) (by kernel_rfl) (by kernel_rfl) (e := Extern.BytealgIndexByte.indexByte) (by kernel_rfl), Lib.run_indexByteString]
  simp only [Result.andThen]
  rw [Oper.upon_value]
  go_wp2
  go_ret
  exact ⟨rfl, rfl⟩
theorem implIsSound_any (x : Int) (w : World) (h0 : 0 ≤ x) (h1 : x < 256) :
    Calls Try.prog 60 #[.int .u8 x] w fun e w' => e = .returned (.bool (isSnd x)) ∧ w = w' := by
  have H := Lib.hid (snd_index x h0 h1)
  clear h0 h1
  go_enter Try.func60, Try.ntmps60
  go_wp2_with fail
  refine (idxByte _ _ _).mono ?_
  rintro e w1 ⟨rfl, rfl⟩
  go_wp2
  go_ret
  exact ⟨ret_bool H.out, rfl⟩
end Go.Proofs.Ytfcmhbbeohhjmaa
