/- The walk of FnExactDecodeVarint: it returns true at every text, and writes nothing that was there. -/
import Derived.Test.YtfidmjpgceljkaaX5
import Derived.Test.YtfidmjpgceljkaaX6
namespace Go.Proofs.Ytfidmjpgceljkaa.fnExactDecodeVarint
open Go.RowKit M
theorem walk (s : ByteArray) (w0 : s.size ≤ maxLen) (w : World) :
    Calls Try.prog 6 #[.string s] w fun e w' => e = .returned (.bool true) ∧ Below w.heap.size w w' := by
  by_cases hbig : 1048576 < s.size
  · go_enter Try.func6, Try.ntmps6
    go_wp2
    go_ret
    exact ⟨rfl, Below.refl _ _⟩
  · go_enter Try.func6, Try.ntmps6
    go_wp2_with fail
    refine (specDecVar_any s _ w0).mono ?_
    rintro e w1 ⟨x, k, hd, rfl, hb1⟩
    go_wp2_with fail
    refine (implDecVar_any s _ w0).mono ?_
    rintro e w2 ⟨x', k', hd', rfl, hb2⟩
    obtain ⟨rfl, rfl⟩ := IsDv_one hd hd'
    go_wp2
    go_ret
    exact ⟨rfl, hb1.trans (hb2.mono hb1.size)⟩
end Go.Proofs.Ytfidmjpgceljkaa.fnExactDecodeVarint
