/- The walk of FnExactEncodeHex: it returns true at every text, and writes nothing that was there. -/
import Derived.Test.YtfidmjpgceljkaaX8
namespace Go.Proofs.Ytfidmjpgceljkaa.fnExactEncodeHex
open Go.RowKit M
theorem walk (s : ByteArray) (w : World) :
    Calls Try.prog 7 #[.string s] w fun e w' => e = .returned (.bool true) ∧ Below w.heap.size w w' := by
  by_cases hbig : 1048576 < s.size
  · go_enter Try.func7, Try.ntmps7
    go_wp2
    go_ret
    exact ⟨rfl, Below.refl _ _⟩
  · have hs : s.size ≤ 1048576 := by omega
    go_enter Try.func7, Try.ntmps7
    go_wp2_with (first | (go_at_call 17; refine (specHex_any s _ hs).mono ?_; rintro e w1 ⟨rfl, hb1⟩) | (go_at_call 18; refine (implHex_any s _ hs).mono ?_; rintro e w2 ⟨rfl, hb2⟩))
    go_ret
    exact ⟨rfl, hb1.trans (hb2.mono hb1.size)⟩
end Go.Proofs.Ytfidmjpgceljkaa.fnExactEncodeHex
