/- The walk of FnExactFormatSyllables: it returns true at every argument, and writes nothing that was there. -/
import Derived.Test.YtjajbkbocbodfaaYw
import Derived.Test.YtjajbkbocbodfaaIj
import Derived.OpenShut
namespace Go.Proofs.Ytjajbkbocbodfaa.fnExactFormatSyllables
open Go.ChangeShapes Go.RowKit Go.Proofs.Ytjajbkbocbodfaa
set_option maxHeartbeats 1000000 in
theorem walk (v : Value) (l : List Syl) (w : World) (hf : ∀ k, k < l.length → Fits (l.getD k syZ)) (hm : l.length ≤ maxLen) (hv : YRow w v l) :
    Calls Try.prog 6 #[v] w fun e w' => e = .returned (.bool true) ∧ Below w.heap.size w w' := by
  have HV := Lib.hid hv
  have HS := Lib.hid (szs_any v l w hf hm hv)
  clear hf hm hv
  go_enter Try.func6, Try.ntmps6
  go_wp2_with fail
  refine HS.out.mono ?_
  rintro e w1 ⟨⟨z, rfl, hz⟩, hb1⟩
  have B1 := Lib.hid hb1
  clear hb1
  by_cases hneg : z < 0
  · go_wp2
    go_ret
    exact ⟨rfl, B1.out⟩
  · have hle : l.length + (joinL l).length ≤ 1048576 := hz.resolve_left hneg
    have V1 := Lib.hid (yrow_kept B1.out HV.out)
    clear hz
    go_wp2_with fail
    refine (toSyls_any _ l _ (by omega) V1.out).mono ?_
    rintro e w2 ⟨v2, rfl, o2, hb2⟩
    have O2 := Lib.hid (yrow_own o2)
    have B2 := Lib.hid (B1.out.trans (hb2.mono B1.out.size))
    have V2 := Lib.hid (yrow_kept hb2 V1.out)
    clear o2 hb2
    go_wp2_with fail
    refine (specFmt_any _ l _ (by omega) (by omega) O2.out).mono ?_
    rintro e w3 ⟨rfl, hb3⟩
    have B3 := Lib.hid (B2.out.trans (hb3.mono B2.out.size))
    have V3 := Lib.hid (yrow_kept hb3 V2.out)
    clear hb3
    go_wp2_with fail
    refine (toSyls_any _ l _ (by omega) V3.out).mono ?_
    rintro e w4 ⟨v4, rfl, o4, hb4⟩
    have O4 := Lib.hid (yrow_own o4)
    have B4 := Lib.hid (B3.out.trans (hb4.mono B3.out.size))
    have V4 := Lib.hid (yrow_kept hb4 V3.out)
    clear o4 hb4
    go_wp2_with fail
    refine (implFmt_any _ l _ (by omega) (by omega) O4.out).mono ?_
    rintro e w5 ⟨rfl, hb5⟩
    have B5 := Lib.hid (B4.out.trans (hb5.mono B4.out.size))
    have V5 := Lib.hid (yrow_kept hb5 V4.out)
    have O5 := Lib.hid (yrow_kept hb5 O4.out)
    clear hb5
    go_wp2_with fail
    refine (toSyls_any _ l _ (by omega) V5.out).mono ?_
    rintro e w6 ⟨v6, rfl, o6, hb6⟩
    have O6 := Lib.hid (yrow_own o6)
    have B6 := Lib.hid (B5.out.trans (hb6.mono B5.out.size))
    have P6 := Lib.hid (yrow_kept hb6 O5.out)
    clear o6 hb6
    go_wp2_with fail
    refine (eqSyls_any _ _ l _ (by unfold maxLen; omega) P6.out O6.out).mono ?_
    rintro e w7 ⟨rfl, hb7⟩
    have B7 := Lib.hid (B6.out.trans (hb7.mono B6.out.size))
    clear hb7
    go_wp2
    go_ret
    exact ⟨rfl, B7.out⟩
end Go.Proofs.Ytjajbkbocbodfaa.fnExactFormatSyllables
