/- The walk of FnExactDecodeHex: it returns true at every text, and writes nothing that was there. -/
import Derived.Test.YtfidmjpgceljkaaX9
import Derived.Test.YtfidmjpgceljkaaX10
namespace Go.Proofs.Ytfidmjpgceljkaa.fnExactDecodeHex
open Go.RowKit M
theorem walk (s : ByteArray) (w : World) :
    Calls Try.prog 8 #[.string s] w fun e w' => e = .returned (.bool true) ∧ Below w.heap.size w w' := by
  by_cases hbig : 1048576 < s.size
  · go_enter Try.func8, Try.ntmps8
    go_wp2
    go_ret
    exact ⟨rfl, Below.refl _ _⟩
  · have hs : s.size ≤ 1048576 := by omega
    cases hd : dh s.data.toList with
    | none =>
      have e := (dhR_none hd).symm
      have H := Lib.hid e
      clear hd e
      go_enter Try.func8, Try.ntmps8
      go_wp2_with (first | (go_at_call 19; refine (specDecHex_any s _ hs).mono ?_; rintro e w1 ⟨he, hb1⟩; rw [H.out] at he; subst he) | (go_at_call 20; refine (implDecHex_any s _ hs).mono ?_; rintro e w2 ⟨he, hb2⟩; rw [H.out] at he; subst he))
      go_ret
      exact ⟨rfl, hb1.trans (hb2.mono hb1.size)⟩
    | some out =>
      have e := (dhR_some hd).symm
      have H := Lib.hid e
      clear hd e
      go_enter Try.func8, Try.ntmps8
      go_wp2_with (first | (go_at_call 19; refine (specDecHex_any s _ hs).mono ?_; rintro e w1 ⟨he, hb1⟩; rw [H.out] at he; subst he) | (go_at_call 20; refine (implDecHex_any s _ hs).mono ?_; rintro e w2 ⟨he, hb2⟩; rw [H.out] at he; subst he))
      go_ret
      exact ⟨rfl, hb1.trans (hb2.mono hb1.size)⟩
end Go.Proofs.Ytfidmjpgceljkaa.fnExactDecodeHex
