/- The walk of FnForms: it returns true at every code, and writes nothing that was there. -/
import Derived.Test.YtjajbkbocbodfaaDoorDg
import Derived.Test.YtjajbkbocbodfaaDoorSt
import Derived.Test.YtjajbkbocbodfaaDoorN1r
import Derived.Test.YtjajbkbocbodfaaDoorN3
import Derived.Test.YtjajbkbocbodfaaDoorN4
import Derived.Test.YtjajbkbocbodfaaDoorIf2
import Derived.Test.YtjajbkbocbodfaaDoorIf3
import Derived.Test.YtjajbkbocbodfaaDoorIf4
import Derived.Test.YtjajbkbocbodfaaDoorIf7
import Derived.Test.YtjajbkbocbodfaaDoorIv
import Derived.Test.YtjajbkbocbodfaaDoorY1
import Derived.Test.YtjajbkbocbodfaaDoorY6
import Derived.Test.YtjajbkbocbodfaaDoorYe
import Derived.Test.YtjajbkbocbodfaaDoorEqY
import Derived.Test.YtjajbkbocbodfaaDoorIj
import Derived.Test.YtjajbkbocbodfaaDoorIs
import Derived.Deep.DeepCutAuto
namespace Go.Proofs.YtjajbkbocbodfaaDoor.fnForms
open Go.RowKit Go.Sort M Go.Proofs.YtjajbkbocbodfaaDoor

theorem rev_twice (s : ByteArray) : (⟨((⟨s.data.toList.reverse.toArray⟩ : ByteArray).data.toList.reverse).toArray⟩ : ByteArray) = s := by
  apply ByteArray.ext; simp
theorem rev_size (s : ByteArray) : (⟨s.data.toList.reverse.toArray⟩ : ByteArray).size = s.size := by
  show s.data.toList.reverse.toArray.size = s.data.size
  rw [List.size_toArray, List.length_reverse, Array.length_toList]
theorem join_back {s : ByteArray} (h : sylL s ≠ []) : bs (joinL (sylL s)) = s := by rw [sylL_join h, bs_self]
theorem join_short (s : ByteArray) (hs : s.size ≤ 12) : (joinL (sylL s)).length ≤ 2000000 := by
  by_cases h : sylL s = []
  · rw [h]; simp [joinL]
  · rw [sylL_join h, Array.length_toList]
    show s.size ≤ _
    omega
set_option maxRecDepth 100000 in
set_option maxHeartbeats 8000000 in
theorem walk (A : Option Addr) (len cap : Nat) (w : World) (hcode : CodeArg w A len) (hmax : len ≤ maxLen) (hT : FeatTab w) :
    Calls Tryd.prog 3 #[.slice A len cap] w fun e w' => e = .returned (.bool true) ∧ Below w.heap.size w w' := by
  have HC := Lib.hid hcode
  have HT := Lib.hid hT
  clear hcode hT
  unfold maxLen at hmax
  by_cases hbig : 1048576 < len
  · go_enter Tryd.func3, Tryd.ntmps3
    go_wp2
    go_ret
    exact ⟨rfl, Below.refl _ _⟩
  · have hl : len ≤ 1048576 := by omega
    go_enter Tryd.func3, Tryd.ntmps3
    go_wp2_with (go_at_call 7; go_in)
    refine (drawNb_ok _ A len cap hl HC.out).mono ?_
    rintro e w1 ⟨s, hs, rfl, hb1⟩
    have B1 := Lib.hid hb1
    clear hb1
    have HM : Hid (s.size ≤ maxLen) := by unfold Hid maxLen; omega
    have HNL := Lib.hid (nbL_len s)
    have HN9 : Hid ((nbL s).length ≤ 1000000000) := Nat.le_trans HNL.out (by omega)
    go_wp2_with fail
    refine (implNb_any s _ HM.out).mono ?_
    rintro e w2 ⟨v1, rfl, o1, hb2⟩
    have O1 := Lib.hid o1
    have B2 := Lib.hid (B1.out.trans (hb2.mono B1.out.size))
    clear o1 hb2
    go_wp2_with fail
    refine (specNb_any s _ HM.out).mono ?_
    rintro e w3 ⟨v2, rfl, o2, hb3⟩
    have O2 := Lib.hid o2
    have O13 := Lib.hid (own_kept hb3 O1.out)
    have B3 := Lib.hid (B2.out.trans (hb3.mono B2.out.size))
    clear o2 hb3
    go_wp2_with fail
    refine (sameTexts_any _ _ _ _ _ _ HN9.out O13.out O2.out).mono ?_
    rintro e w4 ⟨rfl, hb4⟩
    have O14 := Lib.hid (own_kept hb4 O13.out)
    have B4 := Lib.hid (B3.out.trans (hb4.mono B3.out.size))
    clear hb4
    go_wp2_with fail
    refine (implSk_any s _ HM.out (feat_below HT.out B4.out)).mono ?_
    rintro e w5 ⟨rfl, hb5⟩
    have O15 := Lib.hid (own_kept hb5 O14.out)
    have B5 := Lib.hid (B4.out.trans (hb5.mono B4.out.size))
    clear hb5
    go_wp2_with fail
    refine (specSk_any s _ HM.out).mono ?_
    rintro e w6 ⟨rfl, rfl⟩
    go_wp2_with fail
    refine (implCntS_any s _ HM.out (feat_below HT.out B5.out)).mono ?_
    rintro e w6 ⟨rfl, rfl⟩
    go_wp2_with fail
    refine (specCnt_any s _ HM.out).mono ?_
    rintro e w6 ⟨rfl, rfl⟩
    go_wp2_with fail
    refine (implFmS_any s _ HM.out).mono ?_
    rintro e w6 ⟨rfl, rfl⟩
    go_wp2_with fail
    refine (specFm_any s _ HM.out).mono ?_
    rintro e w6 ⟨rfl, rfl⟩
    have HRV : Hid (∀ W, Calls Tryd.prog 18 #[.string ⟨(s.data.toList.reverse).toArray⟩] W fun e w' => e = .returned (.string s) ∧ Below W.heap.size W w') := fun W => by
      have := implRev_any ⟨(s.data.toList.reverse).toArray⟩ W (by rw [rev_size]; exact HM.out)
      rw [rev_twice] at this
      exact this
    have HR1 : Hid (∀ W, _) := fun W => implRev_any s W HM.out
    have HR2 : Hid (∀ W, _) := fun W => specRev_any s W HM.out
    generalize (⟨(s.data.toList.reverse).toArray⟩ : ByteArray) = R at HRV HR1 HR2
    go_wp2_with fail
    refine (HR1.out _).mono ?_
    rintro e w6 ⟨rfl, hb6⟩
    have O16 := Lib.hid (own_kept hb6 O15.out)
    have B6 := Lib.hid (B5.out.trans (hb6.mono B5.out.size))
    clear hb6
    go_wp2_with fail
    refine (HRV.out _).mono ?_
    rintro e w7 ⟨rfl, hb7⟩
    have O17 := Lib.hid (own_kept hb7 O16.out)
    have B7 := Lib.hid (B6.out.trans (hb7.mono B6.out.size))
    clear hb7
    go_wp2_with fail
    refine (HR1.out _).mono ?_
    rintro e w8 ⟨rfl, hb8⟩
    have O18 := Lib.hid (own_kept hb8 O17.out)
    have B8 := Lib.hid (B7.out.trans (hb8.mono B7.out.size))
    clear hb8
    go_wp2_with fail
    refine (HR2.out _).mono ?_
    rintro e w9 ⟨rfl, rfl⟩
    obtain ⟨A1, c1, rfl, hrd⟩ := str_read O18.out
    have HRD := Lib.hid hrd
    clear hrd
    have HD1 : Hid (∀ k, k < (nbL s).length → distV s ((nbL s).getD k ByteArray.empty) = 1 ∧ ((nbL s).getD k ByteArray.empty).size ≤ maxLen) := fun k hk => by
      rw [List.getD_eq_getElem?_getD, List.getElem?_eq_getElem hk]
      refine ⟨nbL_one s _ (List.getElem_mem hk), ?_⟩
      have := nbL_size s _ (List.getElem_mem hk)
      unfold maxLen
      show (nbL s)[k].size ≤ _
      omega
    generalize nbL s = nl at *
    generalize nl.length = n at *
    have hnl := HNL.out
    go_wp2
    go_loopw [5] (fun i wr => ∃ (k : Nat), k ≤ n ∧ i = .int .i64 k ∧ Below w8.heap.size w8 wr) (fun i _ => n - (intOf i).toNat)
    case atStart => exact ⟨0, by omega, rfl, Below.refl _ _⟩
    case round =>
      obtain ⟨k, hk, rfl, hbe⟩ := hrel
      by_cases hkl : k < n
      · obtain ⟨g, rfl, hg⟩ := HRD.out k hkl
        have hc := cell_kept hbe hg
        have HBE := Lib.hid hbe
        obtain ⟨hd1, hd2⟩ := HD1.out k hkl
        clear hg hbe
        generalize nl.getD k ByteArray.empty = u at hc hd1 hd2
        have HDI : Hid (Calls Tryd.prog 20 #[.string s, .string u] wr fun e w' => e = .returned (.int .i64 1) ∧ Below wr.heap.size wr w') := by
          have := implDist_any s u wr HM.out hd2
          rw [hd1] at this
          exact this
        clear hd1 hd2
        go_wp2_with fail
        refine HDI.out.mono ?_
        rintro e wx ⟨rfl, hbx⟩
        have HBX := Lib.hid (HBE.out.trans (hbx.mono HBE.out.size))
        clear hbx
        go_wp2
        go_roundw
        case rel => exact ⟨k + 1, by omega, by go_num, HBX.out⟩
        case measure => simp [intOf]; omega
      · obtain rfl : k = n := by omega
        have B9 := Lib.hid (B8.out.trans (hbe.mono B8.out.size))
        clear hbe
        go_wp2_with fail
        refine (drawDist_ok _ A len cap hl (HC.out.below B9.out)).mono ?_
        rintro e wa ⟨a, b, ha, hb, rfl, hba⟩
        have Ba := Lib.hid (B9.out.trans (hba.mono B9.out.size))
        have MA : Hid (a.size ≤ maxLen) := by unfold Hid maxLen; omega
        have MB : Hid (b.size ≤ maxLen) := by unfold Hid maxLen; omega
        have HDA : Hid (∀ W, Calls Tryd.prog 20 #[.string a, .string b] W fun e w' => e = .returned (.int .i64 (distV a b)) ∧ Below W.heap.size W w') := fun W => implDist_any a b W MA.out MB.out
        have HDS : Hid (∀ W, Calls Tryd.prog 22 #[.string a, .string b] W fun e w' => e = .returned (.int .i64 (distV a b)) ∧ Below W.heap.size W w') := fun W => specDist_any a b W MA.out MB.out
        have HDB : Hid (∀ W, Calls Tryd.prog 20 #[.string b, .string a] W fun e w' => e = .returned (.int .i64 (distV a b)) ∧ Below W.heap.size W w') := fun W => by
          rw [distV_sym a b]; exact implDist_any b a W MB.out MA.out
        have hz : 0 ≤ distV a b → decide (distV a b = 0) = (a.toList == b.toList) := distV_zero
        generalize distV a b = d at *
        clear hba ha hb
        have hcase : d < 0 ∨ (d = 0 ∧ (a.toList == b.toList) = true) ∨ (0 < d ∧ (a.toList == b.toList) = false) := by
          by_cases h0 : d < 0
          · exact .inl h0
          · have h1 := hz (by omega)
            by_cases h2 : d = 0
            · exact .inr (.inl ⟨h2, by rw [← h1]; simp [h2]⟩)
            · exact .inr (.inr ⟨by omega, by rw [← h1]; simp [h2]⟩)
        clear hz
        go_wp2_with fail
        refine (HDA.out _).mono ?_
        rintro e wb ⟨rfl, hbb⟩
        have Bb := Lib.hid (Ba.out.trans (hbb.mono Ba.out.size))
        clear hbb
        go_upto_region 14 with fail
        go_cut [105] (fun b wx => b = .bool false ∧ Below wb.heap.size wb wx)
        case first =>
          go_wp2_with fail
          refine (HDS.out _).mono ?_
          rintro e wc ⟨rfl, hbc⟩
          have Bc := Lib.hid hbc
          clear hbc
          go_wp2_with fail
          refine (HDB.out _).mono ?_
          rintro e wd ⟨rfl, hbd⟩
          have Bd := Lib.hid (Bc.out.trans (hbd.mono Bc.out.size))
          clear hbd HDA HDS HDB
          rcases hcase with hd | ⟨rfl, hab⟩ | ⟨hd, hab⟩
          · go_wp2_with fail
            go_meet
            exact ⟨rfl, Bd.out⟩
          · go_wp2_with fail
            go_meet
            exact ⟨rfl, Bd.out⟩
          · have hd0 : (d == 0) = false := by simp; omega
            go_wp2_with fail
            go_meet
            exact ⟨rfl, Bd.out⟩
        case rest =>
          obtain ⟨rfl, hbx⟩ := hcut
          have Bd := Lib.hid (Bb.out.trans (hbx.mono Bb.out.size))
          clear hbx HDA HDS HDB hcase
          have HJ := Lib.hid (join_back (s := s))
          have HCN := Lib.hid (sylL_count (s := s))
          have HJL := Lib.hid (join_short s hs)
          have HLL := Lib.hid (sylL_len s)
          go_wp2_with fail
          refine (implSyl_any s _ HM.out (feat_below HT.out Bd.out)).mono ?_
          rintro e we ⟨vx, rfl, ox, hbe⟩
          have OX := Lib.hid ox
          have Be := Lib.hid (Bd.out.trans (hbe.mono Bd.out.size))
          clear ox hbe
          go_wp2_with fail
          refine (specSyl_any s _ HM.out).mono ?_
          rintro e wf ⟨vy, rfl, oy, hbf⟩
          have YX := Lib.hid (yrow_own (own_kept hbf OX.out))
          have YY := Lib.hid (yrow_own oy)
          have Bf := Lib.hid (Be.out.trans (hbf.mono Be.out.size))
          clear oy hbf OX
          obtain ⟨Ax, cx, rfl, hxr⟩ := YX.out
          obtain ⟨Ay, cy, rfl, hyr⟩ := YY.out
          have HXR := Lib.hid hxr
          have HYR := Lib.hid hyr
          clear hxr hyr
          have hll := HLL.out
          have hjl := HJL.out
          have HJI : Hid (∀ W, YRow W (.slice Ay (sylL s).length cy) (sylL s) → sylL s ≠ [] → Calls Tryd.prog 26 #[.slice Ay (sylL s).length cy] W fun e w' => e = .returned (.string s) ∧ Below W.heap.size W w') := fun W hy hne => by
            have := implJoin_any _ (sylL s) W hjl (by omega) hy
            rw [HJ.out hne] at this
            exact this
          have HCI : Hid (∀ W, FeatTab W → sylL s ≠ [] → Calls Tryd.prog 14 #[.string s] W fun e w' => e = .returned (.int .i64 ((sylL s).length : Int)) ∧ W = w') := fun W hw hne => by
            have := implCntS_any s W HM.out hw
            rw [← HCN.out hne] at this
            exact this
          have HFI : Hid (∀ W, YRow W (.slice Ay (sylL s).length cy) (sylL s) → Calls Tryd.prog 27 #[.slice Ay (sylL s).length cy] W fun e w' => e = .returned (.string (bs (fmtL (sylL s)))) ∧ Below W.heap.size W w') := fun W hy => implFmt_any _ (sylL s) W hjl (by omega) hy
          have HFS : Hid (∀ W, YRow W (.slice Ay (sylL s).length cy) (sylL s) → Calls Tryd.prog 28 #[.slice Ay (sylL s).length cy] W fun e w' => e = .returned (.string (bs (fmtL (sylL s)))) ∧ Below W.heap.size W w') := fun W hy => specFmt_any _ (sylL s) W hjl (by omega) hy
          have HCT : Hid (∀ W, FeatTab W → Calls Tryd.prog 25 #[.string s] W fun e w' => e = .returned (.int .i64 ((sylL s).length : Int)) ∧ Below W.heap.size W w') := fun W h => implCountS_any s W HM.out h
          have HRI : Hid (∀ W, FeatTab W → Calls Tryd.prog 29 #[.string s] W fun e w' => e = .returned (.bool (regL (sylL s))) ∧ Below W.heap.size W w') := fun W h => implReg_any s W HM.out h
          have HRS : Hid (∀ W, Calls Tryd.prog 30 #[.string s] W fun e w' => e = .returned (.bool (regL (sylL s))) ∧ Below W.heap.size W w') := fun W => specReg_any s W HM.out
          clear HJ HCN HJL HLL hjl
          generalize fmtL (sylL s) = F at *
          generalize regL (sylL s) = rg at *
          generalize sylL s = ly at *
          go_upto_region 18 with fail
          go_cut [153] (fun b wx => b = .bool false ∧ Below wf.heap.size wf wx)
          case first =>
            go_wp2_with fail
            refine (HCT.out _ (feat_below HT.out Bf.out)).mono ?_
            rintro e wg ⟨rfl, hbg⟩
            have G1 := Lib.hid hbg
            have Y1 := Lib.hid (yrow_kept hbg YY.out)
            clear hbg
            by_cases hne : ly = []
            · subst hne
              go_wp2_with fail
              refine (HFI.out _ Y1.out).mono ?_
              rintro e wh ⟨rfl, hbh⟩
              have G2 := Lib.hid (G1.out.trans (hbh.mono G1.out.size))
              have Y2 := Lib.hid (yrow_kept hbh Y1.out)
              clear hbh
              go_wp2_with fail
              refine (HFS.out _ Y2.out).mono ?_
              rintro e wi ⟨rfl, hbi⟩
              have G3 := Lib.hid (G2.out.trans (hbi.mono G2.out.size))
              clear hbi
              go_wp2_with fail
              refine (HRI.out _ (feat_below HT.out (Bf.out.trans (G3.out.mono Bf.out.size)))).mono ?_
              rintro e wj ⟨rfl, hbj⟩
              have G4 := Lib.hid (G3.out.trans (hbj.mono G3.out.size))
              clear hbj
              go_wp2_with fail
              refine (HRS.out _).mono ?_
              rintro e wk ⟨rfl, hbk⟩
              have G5 := Lib.hid (G4.out.trans (hbk.mono G4.out.size))
              clear hbk
              go_wp2_with fail
              go_meet
              exact ⟨rfl, G5.out⟩
            · have hpos : (0 : Int) < (ly.length : Int) := by
                have := List.length_pos_iff.2 hne
                omega
              go_wp2_with fail
              refine (HJI.out _ Y1.out hne).mono ?_
              rintro e wh ⟨rfl, hbh⟩
              have G2 := Lib.hid (G1.out.trans (hbh.mono G1.out.size))
              have Y2 := Lib.hid (yrow_kept hbh Y1.out)
              clear hbh
              go_wp2_with fail
              refine (HCI.out _ (feat_below HT.out (Bf.out.trans (G2.out.mono Bf.out.size))) hne).mono ?_
              rintro e wi ⟨rfl, rfl⟩
              go_wp2_with fail
              refine (HFI.out _ Y2.out).mono ?_
              rintro e wi ⟨rfl, hbi⟩
              have G3 := Lib.hid (G2.out.trans (hbi.mono G2.out.size))
              have Y3 := Lib.hid (yrow_kept hbi Y2.out)
              clear hbi
              go_wp2_with fail
              refine (HFS.out _ Y3.out).mono ?_
              rintro e wj ⟨rfl, hbj⟩
              have G4 := Lib.hid (G3.out.trans (hbj.mono G3.out.size))
              clear hbj
              go_wp2_with fail
              refine (HRI.out _ (feat_below HT.out (Bf.out.trans (G4.out.mono Bf.out.size)))).mono ?_
              rintro e wk ⟨rfl, hbk⟩
              have G5 := Lib.hid (G4.out.trans (hbk.mono G4.out.size))
              clear hbk
              go_wp2_with fail
              refine (HRS.out _).mono ?_
              rintro e wl ⟨rfl, hbl⟩
              have G6 := Lib.hid (G5.out.trans (hbl.mono G5.out.size))
              clear hbl
              go_wp2_with fail
              go_meet
              exact ⟨rfl, G6.out⟩
          case rest =>
            obtain ⟨rfl, hbx⟩ := hcut
            have Bg := Lib.hid (Bf.out.trans (hbx.mono Bf.out.size))
            have HX2 : Hid (∀ k, k < ly.length → ∃ g off, Ax = some ⟨g, off, none⟩ ∧ wc.cell? ⟨g, off + k * 3, none⟩ = some (.string (bs (ly.getD k syZ).o)) ∧ wc.cell? ⟨g, off + k * 3 + 1, none⟩ = some (.string (bs (ly.getD k syZ).n)) ∧ wc.cell? ⟨g, off + k * 3 + 2, none⟩ = some (.string (bs (ly.getD k syZ).c))) := fun k hk => by
              obtain ⟨g, off, e, h0, h1, h2⟩ := HXR.out k hk
              exact ⟨g, off, e, cell_kp hbx h0, cell_kp hbx h1, cell_kp hbx h2⟩
            have HY2 : Hid (∀ k, k < ly.length → ∃ g off, Ay = some ⟨g, off, none⟩ ∧ wc.cell? ⟨g, off + k * 3, none⟩ = some (.string (bs (ly.getD k syZ).o)) ∧ wc.cell? ⟨g, off + k * 3 + 1, none⟩ = some (.string (bs (ly.getD k syZ).n)) ∧ wc.cell? ⟨g, off + k * 3 + 2, none⟩ = some (.string (bs (ly.getD k syZ).c))) := fun k hk => by
              obtain ⟨g, off, e, h0, h1, h2⟩ := HYR.out k hk
              exact ⟨g, off, e, cell_kp hbx h0, cell_kp hbx h1, cell_kp hbx h2⟩
            clear hbx HXR HYR HFI HFS HCT HRI HRS HJI HCI YX YY
            have hg38 := eqGuardY
            generalize hln : ly.length = m at *
            go_wp2
            go_loopw [11] (fun i wr => ∃ (k : Nat), k ≤ m ∧ i = .int .i64 k ∧ Below wc.heap.size wc wr) (fun i _ => m - (intOf i).toNat)
            case atStart => exact ⟨0, by omega, rfl, Below.refl _ _⟩
            case round =>
              obtain ⟨k, hk, rfl, hbr⟩ := hrel
              have HBR := Lib.hid hbr
              clear hbr
              by_cases hkl : k < m
              · obtain ⟨g, off, rfl, h0, h1, h2⟩ := HX2.out k hkl
                obtain ⟨g', off', rfl, h0', h1', h2'⟩ := HY2.out k hkl
                have c0 := fun d os => cell_regrown (cell_kp HBR.out h0) d os
                have c1 := fun d os => cell_regrown (cell_kp HBR.out h1) d os
                have c2 := fun d os => cell_regrown (cell_kp HBR.out h2) d os
                have d0 := fun d os => cell_regrown (cell_kp HBR.out h0') d os
                have d1 := fun d os => cell_regrown (cell_kp HBR.out h1') d os
                have d2 := fun d os => cell_regrown (cell_kp HBR.out h2') d os
                clear h0 h1 h2 h0' h1' h2'
                have q1 : ∀ d os, Calls Tryd.prog 31 #[sylV (ly.getD k syZ)] (grow (redrawn wr d) os) fun e w'' => e = .returned (.bool (openS (ly.getD k syZ))) ∧ ∃ p : Regrown, w'' = grow (redrawn wr p.d) p.os := fun d os => Calls.regrown_of (implOpen_any _ _)
                have q2 : ∀ d os, Calls Tryd.prog 32 #[sylV (ly.getD k syZ)] (grow (redrawn wr d) os) fun e w'' => e = .returned (.bool (openS (ly.getD k syZ))) ∧ ∃ p : Regrown, w'' = grow (redrawn wr p.d) p.os := fun d os => Calls.regrown_of (specOpen_any _ _)
                have q3 : ∀ d os, Calls Tryd.prog 33 #[sylV (ly.getD k syZ)] (grow (redrawn wr d) os) fun e w'' => e = .returned (.int .i64 (weightS (ly.getD k syZ))) ∧ ∃ p : Regrown, w'' = grow (redrawn wr p.d) p.os := fun d os => Calls.regrown_of (implWeight_any _ _)
                have q4 : ∀ d os, Calls Tryd.prog 34 #[sylV (ly.getD k syZ)] (grow (redrawn wr d) os) fun e w'' => e = .returned (.int .i64 (weightS (ly.getD k syZ))) ∧ ∃ p : Regrown, w'' = grow (redrawn wr p.d) p.os := fun d os => Calls.regrown_of (specWeight_any _ _)
                unfold sylV at q1 q2 q3 q4
                generalize openS (ly.getD k syZ) = ob at *
                generalize weightS (ly.getD k syZ) = wv at *
                generalize bs (ly.getD k syZ).o = O at *
                generalize bs (ly.getD k syZ).n = N at *
                generalize bs (ly.getD k syZ).c = C at *
                have hqe := equalY O N C
                go_wp2
                refine wp_region_quiet_below (by kernel_rfl) (by kernel_rfl) ?_
                repeat (quiet_step (first | exact q1 _ _ | exact q2 _ _ | exact q3 _ _ | exact q4 _ _))
                refine wpQuiet_nil ?_
                intro _ hw'
                obtain ⟨⟨dq, osq⟩, hw''⟩ := hw'
                subst hw''
                go_wp2
                go_roundw
                case rel => exact ⟨k + 1, by omega, by go_num, HBR.out.trans ((below_regrown wr dq osq).mono HBR.out.size)⟩
                case measure => simp [intOf]; omega
              · obtain rfl : k = m := by omega
                have Bh := Lib.hid (Bg.out.trans (HBR.out.mono Bg.out.size))
                clear HBR
                go_wp2_with fail
                refine (drawVow_ok _ A len cap hl (HC.out.below Bh.out)).mono ?_
                rintro e wi ⟨t, z, ht, rfl, hbi⟩
                have Bi := Lib.hid (Bh.out.trans (hbi.mono Bh.out.size))
                have MT : Hid (t.size ≤ maxLen) := by unfold Hid maxLen; omega
                clear hbi
                go_wp2_with fail
                refine (drawN_ok _ A len cap hl (HC.out.below Bi.out)).mono ?_
                rintro e wj ⟨zn, rfl, hbj⟩
                have Bj := Lib.hid (Bi.out.trans (hbj.mono Bi.out.size))
                clear hbj
                go_wp2_with fail
                refine (implVowS_any t z _ MT.out (feat_below HT.out Bj.out)).mono ?_
                rintro e wk ⟨rfl, rfl⟩
                go_wp2_with fail
                refine (specVow_any t z _).mono ?_
                rintro e wk ⟨rfl, rfl⟩
                go_wp2_with fail
                refine (implForms_any zn _).mono ?_
                rintro e wk ⟨vf, rfl, of, hbk⟩
                have OF := Lib.hid of
                have Bk := Lib.hid (Bj.out.trans (hbk.mono Bj.out.size))
                clear of hbk
                go_wp2_with fail
                refine (specForms_any zn _).mono ?_
                rintro e wl ⟨vg, rfl, og, hbl⟩
                have OG := Lib.hid og
                have OF2 := Lib.hid (own_kept hbl OF.out)
                have Bl := Lib.hid (Bk.out.trans (hbl.mono Bk.out.size))
                clear og hbl
                go_wp2_with fail
                refine (sameTexts_any _ _ _ _ _ _ (Nat.le_trans (formsL_len zn) (by omega)) OF2.out OG.out).mono ?_
                rintro e wm ⟨rfl, hbm⟩
                have Bm := Lib.hid (Bl.out.trans (hbm.mono Bl.out.size))
                clear hbm
                go_wp2
                go_ret
                exact ⟨rfl, Bm.out⟩
end Go.Proofs.YtjajbkbocbodfaaDoor.fnForms
