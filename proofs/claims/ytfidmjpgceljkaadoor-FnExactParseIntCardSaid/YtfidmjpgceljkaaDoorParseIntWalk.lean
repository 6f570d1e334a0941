/- The walk of FnExactParseInt: it returns true at every text, and writes nothing that was there. -/
import Derived.Test.YtfidmjpgceljkaaDoorP2
namespace Go.Proofs.YtfidmjpgceljkaaDoor.fnExactParseInt
open Go.RowKit M
theorem walk (s : ByteArray) (w0 : s.size ≤ maxLen) (w : World) (hL : laidMetH Tryd.prog Rows.fnExactParseIntRow.laid w) :
    Calls Tryd.prog 5 #[.string s] w fun e w' => e = .returned (.bool true) ∧ Below w.heap.size w w' := by
  have HT := Lib.hid (show Tab w from tab_of hL)
  clear hL
  by_cases hbig : 1048576 < s.size
  · go_enter Tryd.func5, Tryd.ntmps5
    go_wp2
    go_ret
    exact ⟨rfl, Below.refl _ _⟩
  · go_enter Tryd.func5, Tryd.ntmps5
    go_wp2_with fail
    refine (specParse_any s _ w0).mono ?_
    rintro e w1 ⟨x, b, hd, rfl, hb1⟩
    have HT1 := Lib.hid (tab_below HT.out hb1)
    go_wp2_with fail
    refine (implParse_any s _ HT1.out).mono ?_
    rintro e w2 ⟨x', b', hd', rfl, hb2⟩
    obtain ⟨rfl, rfl⟩ := IsPi_one hd hd'
    clear hd hd'
    cases b
    all_goals
      go_wp2
      go_ret
      exact ⟨rfl, hb1.trans (hb2.mono hb1.size)⟩
end Go.Proofs.YtfidmjpgceljkaaDoor.fnExactParseInt
