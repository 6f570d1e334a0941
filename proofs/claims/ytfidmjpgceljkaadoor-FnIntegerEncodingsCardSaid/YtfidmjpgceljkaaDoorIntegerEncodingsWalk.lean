/- The walk of FnIntegerEncodings: it returns true at every code, and writes nothing that was there. -/
import Derived.Test.YtfidmjpgceljkaaDoorE4
namespace Go.Proofs.YtfidmjpgceljkaaDoor.fnIntegerEncodings
open Go.RowKit M

set_option maxRecDepth 100000 in
set_option maxHeartbeats 4000000 in
theorem walk (A : Option Addr) (len cap : Nat) (w : World) (hcode : CodeArg w A len) (hmax : len ≤ maxLen) (hT : Tab w) :
    Calls Tryd.prog 3 #[.slice A len cap] w fun e w' => e = .returned (.bool true) ∧ Below w.heap.size w w' := by
  have HC := Lib.hid hcode
  have HT := Lib.hid hT
  clear hcode hT
  unfold maxLen at hmax
  by_cases hbig : 1048576 < len
  · go_enter Tryd.func3, Tryd.ntmps3
    go_wp2
    go_ret
    exact ⟨rfl, Below.refl _ _⟩
  · have hl : len ≤ 1048576 := by omega
    go_enter Tryd.func3, Tryd.ntmps3
    go_wp2_with (go_at_call 6; go_in)
    refine (drawVar_ok _ A len cap hl HC.out).mono ?_
    rintro e w1 ⟨n, n0, n1, rfl, hb1⟩
    have HB1 := Lib.hid hb1
    clear hb1
    go_wp2_with fail
    refine (drawHex_ok _ A len cap hl (HC.out.below HB1.out)).mono ?_
    rintro e w2 ⟨t, ht, rfl, hb2⟩
    have HB2 := Lib.hid (HB1.out.trans (hb2.mono HB1.out.size))
    clear hb2
    go_wp2_with fail
    refine (encVar_all n _).mono ?_
    rintro e w3 ⟨s, hs, hs7, rfl, hb3⟩
    have HS := Lib.hid hs
    have HB3 := Lib.hid (HB2.out.trans (hb3.mono HB2.out.size))
    have hcat : ¬ 9223372036854775807 < s.size + t.size := by omega
    clear hb3 hs
    go_wp2_with fail
    refine (implDecVar_any (s ++ t) _ (by rw [ByteArray.size_append]; unfold maxLen; omega)).mono ?_
    rintro e w4 ⟨x, k, hd, rfl, hb4⟩
    have HD := Lib.hid hd
    have HB4 := Lib.hid (HB3.out.trans (hb4.mono HB3.out.size))
    clear hb4 hd
    go_upto_region 7 with fail
    go_cut [57] (fun b wx => b = .bool false ∧ wx = w4)
    case first =>
      by_cases hn : 0 ≤ n ∧ n ≤ 562949953421311
      · obtain ⟨hn0, hn1⟩ := hn
        obtain ⟨rfl, rfl, hpos⟩ := var_round HS.out hn0 hn1 HD.out
        have he := not_nil hpos
        have he2 := not_empty hpos
        go_wp2_with fail
        go_meet
        exact ⟨rfl, rfl⟩
      · have hs' : s = ⟨#[]⟩ := by
          rcases HS.out with h | h
          · exact absurd ⟨h.1, h.2.1⟩ hn
          · exact h.2
        subst hs'
        by_cases h0 : 0 ≤ n
        · have h1 : ¬ n ≤ 562949953421311 := by omega
          clear hn
          go_wp2_with fail
          go_meet
          exact ⟨rfl, rfl⟩
        · clear hn
          go_wp2_with fail
          go_meet
          exact ⟨rfl, rfl⟩
    case rest =>
      obtain ⟨rfl, rfl⟩ := hcut
      clear HS HD hs7 hcat
      go_wp2_with fail
      refine (drawFixed_ok _ A len cap hl (HC.out.below HB4.out)).mono ?_
      rintro e w5 ⟨v, width, v0, v1, k0, k1, rfl, hb5⟩
      have HB5 := Lib.hid (HB4.out.trans (hb5.mono HB4.out.size))
      clear hb5
      go_wp2_with fail
      refine (encFix_all v width _ v1).mono ?_
      rintro e w6 ⟨rfl, hb6⟩
      have HB6 := Lib.hid (HB5.out.trans (hb6.mono HB5.out.size))
      have hf7 := fixT_size v width
      have hcat : ¬ 9223372036854775807 < (fixT v width).size + t.size := by omega
      clear hb6
      go_wp2_with fail
      refine (decFix_all v width t _ (by rw [ByteArray.size_append]; unfold maxLen; omega)).mono ?_
      rintro e w7 ⟨y, b, hyb, rfl, hb7⟩
      have HY := Lib.hid hyb
      have HB7 := Lib.hid (HB6.out.trans (hb7.mono HB6.out.size))
      clear hb7 hyb
      go_upto_region 12 with fail
      go_cut [99] (fun b wx => b = .bool false ∧ Below w7.heap.size w7 wx)
      case first =>
        by_cases hpos : 0 < (fixT v width).size
        · obtain ⟨rfl, rfl, hwid⟩ := HY.out hpos
          have he := not_nil hpos
          have he2 := not_empty hpos
          go_wp2_with (go_at_call 14; refine (specFix_all _ _ _ v1).mono ?_; rintro e w8 ⟨rfl, hb8⟩)
          go_meet
          exact ⟨rfl, hb8⟩
        · have hn1 : (fixT v width).toList = [] := by
            rw [Lib.toList_data]
            apply List.eq_nil_of_length_eq_zero
            have : (fixT v width).data.toList.length = (fixT v width).size := Array.length_toList
            omega
          have hn2 : (fixT v width).toList.isEmpty = true := by simpa using hn1
          clear hpos
          go_wp2_with (go_at_call 14; refine (specFix_all _ _ _ v1).mono ?_; rintro e w8 ⟨rfl, hb8⟩)
          go_meet
          exact ⟨rfl, hb8⟩
      case rest =>
        obtain ⟨rfl, hbx⟩ := hcut
        have HB8 := Lib.hid (HB7.out.trans (hbx.mono HB7.out.size))
        clear hbx HY hf7 hcat
        go_wp2_with fail
        refine (implHex_any t _ (by omega)).mono ?_
        rintro e w9 ⟨rfl, hb9⟩
        have HB9 := Lib.hid (HB8.out.trans (hb9.mono HB8.out.size))
        have hhs := hexT_size t
        obtain ⟨h, hh⟩ : ∃ h : ByteArray, h = ⟨(hexL t.data.toList).toArray⟩ := ⟨_, rfl⟩
        have hdr := dhR_hex t
        rw [← hh] at hhs hdr ⊢
        have HHS := Lib.hid hhs
        have HDR := Lib.hid hdr
        have hsz : h.size ≤ 1048576 := by omega
        clear hb9 hh hhs hdr
        go_wp2_with fail
        refine (implDecHex_any h _ hsz).mono ?_
        rintro e w10 ⟨he, hb10⟩
        rw [HDR.out] at he
        subst he
        have HB10 := Lib.hid (HB9.out.trans (hb10.mono HB9.out.size))
        clear hb10
        go_wp2_with fail
        refine (implFmt_any v _ v0 v1 (tab_below HT.out HB10.out)).mono ?_
        rintro e w11 ⟨rfl, hb11⟩
        have HB11 := Lib.hid (HB10.out.trans (hb11.mono HB10.out.size))
        clear hb11
        go_wp2_with fail
        refine (implParse_any ⟨(Lib.itoa v).toArray⟩ _ (tab_below HT.out HB11.out)).mono ?_
        rintro e w12 ⟨z, g, hpi, rfl, hb12⟩
        have HB12 := Lib.hid (HB11.out.trans (hb12.mono HB11.out.size))
        have HPI := Lib.hid (show IsPi (Lib.itoa v) z g from hpi)
        clear hb12 hpi
        have hlen2 : ((h.size : Int) == 2 * (t.size : Int)) = true := by have := HHS.out; simp; omega
        by_cases hr : -999999999 ≤ v ∧ v ≤ 999999999
        · obtain ⟨rfl, rfl⟩ := IsPi_one HPI.out (pi_round_in v hr.1 hr.2)
          have r1 : -1000000000 < z := by omega
          have r2 : z < 1000000000 := by omega
          go_wp2_with (go_at_call 19; refine (specFmt_any _ _ v0 v1).mono ?_; rintro e w13 ⟨rfl, hb13⟩)
          go_ret
          exact ⟨rfl, HB12.out.trans (hb13.mono HB12.out.size)⟩
        · obtain ⟨rfl, rfl⟩ := IsPi_one HPI.out (pi_round_out v (by omega))
          by_cases hlo : -1000000000 < v
          · have hhi : decide (v < 1000000000) = false := by simp; omega
            clear hr
            go_wp2_with (go_at_call 19; refine (specFmt_any _ _ v0 v1).mono ?_; rintro e w13 ⟨rfl, hb13⟩)
            go_ret
            exact ⟨rfl, HB12.out.trans (hb13.mono HB12.out.size)⟩
          · clear hr
            go_wp2_with (go_at_call 19; refine (specFmt_any _ _ v0 v1).mono ?_; rintro e w13 ⟨rfl, hb13⟩)
            go_ret
            exact ⟨rfl, HB12.out.trans (hb13.mono HB12.out.size)⟩
end Go.Proofs.YtfidmjpgceljkaaDoor.fnIntegerEncodings
