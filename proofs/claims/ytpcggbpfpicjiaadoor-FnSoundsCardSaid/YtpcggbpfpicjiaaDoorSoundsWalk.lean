/- The walk of FnSounds: it returns true at every code, and writes nothing that was there. -/
import Derived.Test.YtpcggbpfpicjiaaDoorDt
import Derived.Test.YtpcggbpfpicjiaaDoorL2
import Derived.Test.YtpcggbpfpicjiaaDoorNcc
namespace Go.Proofs.YtpcggbpfpicjiaaDoor.fnSounds
open Go.RowKit M Go.Proofs.YtpcggbpfpicjiaaDoor

set_option maxRecDepth 100000 in
set_option maxHeartbeats 4000000 in
theorem walk (A : Option Addr) (len cap : Nat) (w : World) (hcode : CodeArg w A len) (hmax : len ≤ maxLen) (hT : FeatTab w) :
    Calls Tryd.prog 3 #[.slice A len cap] w fun e w' => e = .returned (.bool true) ∧ Below w.heap.size w w' := by
  have HC := Lib.hid hcode
  have HT := Lib.hid hT
  clear hcode hT
  unfold maxLen at hmax
  by_cases hbig : 1048576 < len
  · go_enter Tryd.func3, Tryd.ntmps3
    go_wp2
    go_ret
    exact ⟨rfl, Below.refl _ _⟩
  · have hl : len ≤ 1048576 := by omega
    go_enter Tryd.func3, Tryd.ntmps3
    go_wp2_with (go_at_call 9; go_in)
    refine (drawSwap_ok _ A len cap hl HC.out).mono ?_
    rintro e w1 ⟨x, hx, rfl, hb1⟩
    have HX := Lib.hid hx
    have HR := Lib.hid (swapV_range hx.1 hx.2)
    have hsw : (swapV (swapV x) != x) = false := by rw [swapV_swapV]; simp
    have HB1 := Lib.hid hb1
    clear hb1 hx
    go_wp2_with fail
    refine (implSwap_any _ _).mono ?_
    rintro e w2 ⟨rfl, rfl⟩
    go_wp2_with fail
    refine (specSwap_any _ _).mono ?_
    rintro e w2 ⟨rfl, rfl⟩
    go_wp2_with fail
    refine (implIsObs_any _ _ HX.out.1 HX.out.2).mono ?_
    rintro e w2 ⟨rfl, rfl⟩
    go_wp2_with fail
    refine (implIsSound_any _ _ HX.out.1 HX.out.2).mono ?_
    rintro e w2 ⟨rfl, rfl⟩
    go_wp2_with fail
    refine (specIsSound_any _ _).mono ?_
    rintro e w2 ⟨rfl, rfl⟩
    go_wp2_with fail
    refine (implSwap_any _ _).mono ?_
    rintro e w2 ⟨rfl, rfl⟩
    go_wp2_with fail
    refine (drawNc_ok _ A len cap hl (HC.out.below HB1.out)).mono ?_
    rintro e w2 ⟨t, ht, rfl, hb2⟩
    have HB2 := Lib.hid (HB1.out.trans (hb2.mono HB1.out.size))
    have HN : Hid ((sfL t.data.toList).length ≤ 1000000000) := by
      unfold Hid sfL
      split
      · have := sfTo_len (shv t.data.toList) 5; omega
      · exact Nat.zero_le _
    have HM := Lib.hid (show t.size ≤ maxLen by unfold maxLen; omega)
    clear hb2
    go_wp2_with fail
    refine (implNc_any t _ (feat_below HT.out HB2.out)).mono ?_
    rintro e w3 ⟨rfl, hb3⟩
    have HB3 := Lib.hid (HB2.out.trans (hb3.mono HB2.out.size))
    clear hb3
    go_wp2_with fail
    refine (specNc_any t _ HM.out).mono ?_
    rintro e w4 ⟨rfl, hb4⟩
    have HB4 := Lib.hid (HB3.out.trans (hb4.mono HB3.out.size))
    clear hb4
    go_wp2_with fail
    · refine (implSf_any t _ (feat_below HT.out HB4.out)).mono ?_
      rintro e w5 ⟨v1, rfl, o1, hb'⟩
      have HB5 := Lib.hid (HB4.out.trans (hb'.mono HB4.out.size))
      have O1 := Lib.hid o1
      clear o1
      clear hb'
      go_wp2_with fail
      refine (specSf_any t _ HM.out).mono ?_
      rintro e w6 ⟨v2, rfl, o2, hb'⟩
      have HB6 := Lib.hid (HB5.out.trans (hb'.mono HB5.out.size))
      have O2 := Lib.hid o2
      have O11 := Lib.hid (own_kept hb' O1.out)
      clear o2
      clear hb'
      go_wp2_with fail
      refine (sameInts_any _ _ _ _ _ _ HN.out O11.out O2.out).mono ?_
      rintro e w7 ⟨rfl, hb'⟩
      have HB7 := Lib.hid (HB6.out.trans (hb'.mono HB6.out.size))
      clear hb'
      go_wp2_with fail
      refine (drawHas_ok _ A len cap hl (HC.out.below HB7.out)).mono ?_
      rintro e w8 ⟨c, f, hc, rfl, hb'⟩
      have HB8 := Lib.hid (HB7.out.trans (hb'.mono HB7.out.size))
      have HCC := Lib.hid hc
      clear hc
      clear hb'
      go_wp2_with fail
      refine (drawSw_ok _ A len cap hl (HC.out.below HB8.out)).mono ?_
      rintro e w9 ⟨g, y, rfl, hb'⟩
      have HB9 := Lib.hid (HB8.out.trans (hb'.mono HB8.out.size))
      clear hb'
      go_wp2_with fail
      refine (drawInc_ok _ A len cap hl (HC.out.below HB9.out)).mono ?_
      rintro e w10 ⟨u, hu, rfl, hb'⟩
      have HB10 := Lib.hid (HB9.out.trans (hb'.mono HB9.out.size))
      have HU := Lib.hid (show u.size ≤ maxLen by unfold maxLen; omega)
      clear hb'
      go_wp2_with fail
      refine (implHas_any _ _ _ HCC.out.1 HCC.out.2 (feat_below HT.out HB10.out)).mono ?_
      rintro e w11 ⟨rfl, rfl⟩
      go_wp2_with fail
      refine (specHas_any _ _ _).mono ?_
      rintro e w11 ⟨rfl, rfl⟩
      go_wp2_with fail
      refine (implSw_any _ _ _ (feat_below HT.out HB10.out)).mono ?_
      rintro e w11 ⟨rfl, hb'⟩
      have HB11 := Lib.hid (HB10.out.trans (hb'.mono HB10.out.size))
      clear hb'
      go_wp2_with fail
      refine (specSw_any _ _ _).mono ?_
      rintro e w12 ⟨rfl, rfl⟩
      go_wp2_with fail
      refine (implInc_any _ _ (feat_below HT.out HB11.out)).mono ?_
      rintro e w12 ⟨rfl, hb'⟩
      have HB12 := Lib.hid (HB11.out.trans (hb'.mono HB11.out.size))
      clear hb'
      go_wp2_with fail
      refine (specInc_any _ _ HU.out).mono ?_
      rintro e w13 ⟨rfl, hb'⟩
      have HB13 := Lib.hid (HB12.out.trans (hb'.mono HB12.out.size))
      clear hb'
      go_wp2
      go_ret
      exact ⟨rfl, HB13.out⟩
    · refine (implNc_any _ _ (feat_below HT.out HB4.out)).mono ?_
      rintro e w5 ⟨rfl, hb'⟩
      have HB5 := Lib.hid (HB4.out.trans (hb'.mono HB4.out.size))
      clear hb'
      rw [show ncL ((⟨(ncL t.data.toList).toArray⟩ : ByteArray).data.toList) = ncL t.data.toList from ncL_closed _]
      go_wp2_with fail
      refine (implInc_any _ _ (feat_below HT.out HB5.out)).mono ?_
      rintro e w6 ⟨rfl, hb'⟩
      have HB6 := Lib.hid (HB5.out.trans (hb'.mono HB5.out.size))
      clear hb'
      have hcl : ncL ((⟨(ncL t.data.toList).toArray⟩ : ByteArray).data.toList) = ncL t.data.toList := ncL_closed _
      rw [hcl]
      clear hcl
      go_wp2_with fail
      refine (implSf_any t _ (feat_below HT.out HB6.out)).mono ?_
      rintro e w7 ⟨v1, rfl, o1, hb'⟩
      have HB7 := Lib.hid (HB6.out.trans (hb'.mono HB6.out.size))
      have O1 := Lib.hid o1
      clear o1
      clear hb'
      go_wp2_with fail
      refine (specSf_any t _ HM.out).mono ?_
      rintro e w8 ⟨v2, rfl, o2, hb'⟩
      have HB8 := Lib.hid (HB7.out.trans (hb'.mono HB7.out.size))
      have O2 := Lib.hid o2
      have O11 := Lib.hid (own_kept hb' O1.out)
      clear o2
      clear hb'
      go_wp2_with fail
      refine (sameInts_any _ _ _ _ _ _ HN.out O11.out O2.out).mono ?_
      rintro e w9 ⟨rfl, hb'⟩
      have HB9 := Lib.hid (HB8.out.trans (hb'.mono HB8.out.size))
      clear hb'
      go_wp2_with fail
      refine (drawHas_ok _ A len cap hl (HC.out.below HB9.out)).mono ?_
      rintro e w10 ⟨c, f, hc, rfl, hb'⟩
      have HB10 := Lib.hid (HB9.out.trans (hb'.mono HB9.out.size))
      have HCC := Lib.hid hc
      clear hc
      clear hb'
      go_wp2_with fail
      refine (drawSw_ok _ A len cap hl (HC.out.below HB10.out)).mono ?_
      rintro e w11 ⟨g, y, rfl, hb'⟩
      have HB11 := Lib.hid (HB10.out.trans (hb'.mono HB10.out.size))
      clear hb'
      go_wp2_with fail
      refine (drawInc_ok _ A len cap hl (HC.out.below HB11.out)).mono ?_
      rintro e w12 ⟨u, hu, rfl, hb'⟩
      have HB12 := Lib.hid (HB11.out.trans (hb'.mono HB11.out.size))
      have HU := Lib.hid (show u.size ≤ maxLen by unfold maxLen; omega)
      clear hb'
      go_wp2_with fail
      refine (implHas_any _ _ _ HCC.out.1 HCC.out.2 (feat_below HT.out HB12.out)).mono ?_
      rintro e w13 ⟨rfl, rfl⟩
      go_wp2_with fail
      refine (specHas_any _ _ _).mono ?_
      rintro e w13 ⟨rfl, rfl⟩
      go_wp2_with fail
      refine (implSw_any _ _ _ (feat_below HT.out HB12.out)).mono ?_
      rintro e w13 ⟨rfl, hb'⟩
      have HB13 := Lib.hid (HB12.out.trans (hb'.mono HB12.out.size))
      clear hb'
      go_wp2_with fail
      refine (specSw_any _ _ _).mono ?_
      rintro e w14 ⟨rfl, rfl⟩
      go_wp2_with fail
      refine (implInc_any _ _ (feat_below HT.out HB13.out)).mono ?_
      rintro e w14 ⟨rfl, hb'⟩
      have HB14 := Lib.hid (HB13.out.trans (hb'.mono HB13.out.size))
      clear hb'
      go_wp2_with fail
      refine (specInc_any _ _ HU.out).mono ?_
      rintro e w15 ⟨rfl, hb'⟩
      have HB15 := Lib.hid (HB14.out.trans (hb'.mono HB14.out.size))
      clear hb'
      go_wp2
      go_ret
      exact ⟨rfl, HB15.out⟩
end Go.Proofs.YtpcggbpfpicjiaaDoor.fnSounds
