/- The program's FormatFooting: what it answers. -/
import Derived.Test.YtifmcbhgoncgjaaDoorFx
import Derived.Test.YtifmcbhgoncgjaaDoorIf2f
import Derived.BigQuiet
import Derived.Lib.QuietBelow
namespace Go.Proofs.YtifmcbhgoncgjaaDoor
open Go.RowKit M Go.Lib Go.Sort
set_option linter.unusedVariables false
set_option linter.unusedSimpArgs false

theorem implItoa_any (z : Int) (w : World) (h : z = 0 ∨ z = 1 ∨ z = 2) : Calls Tryd.prog 39 #[.int .i64 z] w fun e w' => e = .returned (.string (bsF (itoa z))) ∧ Below w.heap.size w w' := by
  have e0 : itoa 0 = [48] := by rw [show (0 : Int) = ((0 : Nat) : Int) from rfl, itoa_nonneg, decDigits_one (by omega)]; rfl
  have e1 : itoa 1 = [49] := by rw [show (1 : Int) = ((1 : Nat) : Int) from rfl, itoa_nonneg, decDigits_one (by omega)]; rfl
  have e2 : itoa 2 = [50] := by rw [show (2 : Int) = ((2 : Nat) : Int) from rfl, itoa_nonneg, decDigits_one (by omega)]; rfl
  rcases h with rfl | rfl | rfl
  · go_enter Tryd.func39, Tryd.ntmps39
    go_wp2
    go_ret
    exact ⟨ret_str (by rw [e0]; rfl), Below.refl _ _⟩
  · go_enter Tryd.func39, Tryd.ntmps39
    go_wp2
    go_ret
    exact ⟨ret_str (by rw [e1]; rfl), Below.refl _ _⟩
  · go_enter Tryd.func39, Tryd.ntmps39
    go_wp2
    go_ret
    exact ⟨ret_str (by rw [e2]; rfl), Below.refl _ _⟩
set_option maxHeartbeats 8000000 in
theorem implFF_any (f : DFooting) (v1 : Value) (F : Addr → Prop) (w : World) (hm : f.Feet.length ≤ 1048576) (hs : I64 f.Syllables) (hmn : I64 f.Main) (hv : RowRd rFoot false w v1 f.Feet F) :
    Calls Tryd.prog 20 #[.agg #[.int .i64 f.Syllables, v1, .int .i64 f.Main]] w fun e w' => e = .returned (.string (bsF (ftL f))) ∧ Below w.heap.size w w' := by
  have HIS : Hid (∀ W, Below w.heap.size w W → Calls Tryd.prog 10 #[.agg #[.int .i64 f.Syllables, v1, .int .i64 f.Main]] W fun e w' => e = .returned (.bool (isFt f)) ∧ Below W.heap.size W w') := fun W hW => implIsF_any f v1 F W hm hs hmn (hv.kept hW)
  have HSTR : Hid (∀ W, Below w.heap.size w W → Calls Tryd.prog 12 #[.agg #[.int .i64 f.Syllables, v1, .int .i64 f.Main]] W (OwnPost Rep.int (strL f) W)) := fun W hW => implStr_any f v1 F W hm hs hmn (hv.kept hW)
  obtain ⟨A, cap, rfl⟩ := hv.form
  have HV := Lib.hid hv
  clear hv
  by_cases hft : isFt f = true
  case neg =>
    have hft : isFt f = false := by simpa using hft
    have HE : Hid (ftL f = []) := by unfold Hid ftL; rw [if_neg (by simp [hft])]
    rw [hft] at HIS
    go_enter Tryd.func20, Tryd.ntmps20
    go_wp2_with fail
    refine (HIS.out _ ((Below.refl _ _).alloc (Nat.le_refl _) _)).mono ?_
    rintro e w1 ⟨rfl, hb1⟩
    have HB1 := Lib.hid (((Below.refl w.heap.size w).alloc (Nat.le_refl _) _).trans (hb1.mono (by simp)))
    clear hb1
    go_wp2
    go_ret
    exact ⟨ret_str (by rw [HE.out]; rfl), HB1.out⟩
  obtain ⟨g1, g2, g3, g4, g5⟩ := isFt_iff.1 hft
  obtain ⟨S, hS⟩ := Int.eq_ofNat_of_zero_le (show 0 ≤ f.Syllables by omega)
  have hSn : f.Syllables.toNat = S := by omega
  have hsl : (strL f).length = S := by unfold strL; rw [if_pos hft, strTo_len, hSn]
  have hdg : ∀ z ∈ strL f, z = 0 ∨ z = 1 ∨ z = 2 := fun z hz => by
    have e : strL f = strTo f f.Feet.length := if_pos hft
    rw [e] at hz
    exact strTo_dig f _ z hz
  have HSL : Hid ((strL f).length = S) := hsl
  have HDG : Hid (∀ (i : Nat) (z : Int), (strL f)[i]? = some z → z = 0 ∨ z = 1 ∨ z = 2) := fun i z h => hdg z (List.mem_of_getElem? h)
  have HDL : Hid (∀ k, (digF ((strL f).take k)).length ≤ S) := fun k => by
    rw [digF_len fun y hy => hdg y (List.mem_of_mem_take hy), List.length_take]; omega
  have HDS : Hid (∀ (k : Nat) (z : Int), (strL f)[k]? = some z → digF ((strL f).take (k + 1)) = digF ((strL f).take k) ++ itoa z) := fun k z h => digF_step _ k h
  have HD0 : Hid (digF ((strL f).take 0) = []) := rfl
  have HDA : Hid (digF ((strL f).take S) = digF (strL f)) := by unfold Hid; rw [← hsl, List.take_length]
  have HDN : Hid ((digF (strL f)).length = S) := by unfold Hid; rw [digF_len hdg, hsl]
  have HXS : Hid (∀ k, k < S → ∃ z, (strL f)[k]? = some z) := fun k hk => ⟨_, List.getElem?_eq_getElem (by omega)⟩
  have HE : Hid (ftL f = ftTo f S) := by unfold Hid ftL; rw [if_pos hft, hSn]
  have HT0 : Hid (ftTo f 0 = []) := rfl
  have HLN : Hid (∀ k, k ≤ S → (ftTo f k).length ≤ 15000000) := fun k hk => by
    have h := ftTo_len (f := f) (fun i hi => by
      have hil : i < (strL f).length := by rw [hsl]; omega
      rw [List.getD_eq_getElem?_getD, List.getElem?_eq_getElem hil]
      exact itoa_dig (HDG.out i _ (List.getElem?_eq_getElem hil))) k (by omega)
    have h2 : k * (2 * f.Feet.length + 20) ≤ 6 * (2 * 1048576 + 20) := Nat.mul_le_mul (by omega) (by omega)
    omega
  have HX : Hid (∀ k, k < f.Feet.length → ∃ x, f.Feet[k]? = some x) := fun k hk => ⟨_, List.getElem?_eq_getElem hk⟩
  have HAT : Hid (∀ (k : Nat) (x : DFoot), f.Feet[k]? = some x → 0 ≤ x.From ∧ 1 ≤ x.Size ∧ x.Size ≤ 2 ∧ x.From + x.Size ≤ S ∧ 0 ≤ x.Head ∧ x.Head ≤ x.Size - 1) := fun k x h => by rw [← hS]; exact okFeet_at g3 (by omega) h
  have HEND : Hid (∀ (k : Nat) (x : DFoot), f.Feet[k]? = some x → endFeet 0 (f.Feet.take (k + 1)) = x.From + x.Size) := fun k x h => by rw [take_succ_of h, endFeet_add]
  have HFOOT : Hid (∀ (k a b e : Nat) (x : DFoot), f.Feet[k]? = some x → endFeet 0 (f.Feet.take k) = (e : Int) → x.From = (a : Int) → x.From + x.Size = (b : Int) → e ≤ a ∧ a < b ∧ b ≤ S ∧ ftTo f b = ftTo f e ++ (cut (digF (strL f)) e a ++ ([40] ++ (cut (digF (strL f)) a b ++ [41])))) := fun k a b e x hx he ha hb => by
    have := ft_foot (f := f) rfl hdg hx g3 (by rw [hsl, hSn]) he ha hb
    rwa [hsl] at this
  have HLAST : Hid (∀ e : Nat, endFeet 0 (f.Feet.take f.Feet.length) = (e : Int) → e ≤ S → ftTo f S = ftTo f e ++ cut (digF (strL f)) e S) := fun e he hle => by
    rw [List.take_length] at he
    have := ft_end (f := f) rfl hdg g3 he (by omega)
    rwa [hsl] at this
  have HE0 : Hid (endFeet 0 (f.Feet.take 0) = ((0 : Nat) : Int)) := rfl
  rw [hft] at HIS
  rw [hS] at HIS HSTR g1 g2 ⊢
  clear hft g3 g4 g5 hs hmn hS hSn hdg
  generalize ftL f = L at *
  generalize ftTo f = T at *
  generalize hsl2 : strL f = sl at *
  generalize f.Main = M at *
  generalize f.Feet = l at *
  generalize hl : l.length = n at *
  have HNL := Lib.hid hl
  clear hl hsl hsl2
  go_enter Tryd.func20, Tryd.ntmps20
  go_wp2_with fail
  refine (HIS.out _ ((Below.refl _ _).alloc (Nat.le_refl _) _)).mono ?_
  rintro e w1 ⟨rfl, hb1⟩
  have HIN : Hid (InC w1 w.heap.size #[.int .i64 (S : Int), .slice A n cap, .int .i64 M] 31) := (hb1.block _ (by simp)).trans (heap_alloc_new _ _)
  have HB1 := Lib.hid (((Below.refl w.heap.size w).alloc (Nat.le_refl _) _).trans (hb1.mono (by simp)))
  have c0 := HIN.out.cell 0 rfl
  have c1 := HIN.out.cell 1 rfl
  have c2 := HIN.out.cell 2 rfl
  clear hb1
  go_wp2_with fail
  refine (HSTR.out _ HB1.out).mono ?_
  rintro e w2 ⟨us, rfl, hrs, hb2⟩
  obtain ⟨As, cs, rfl⟩ := hrs.form
  have HRS := Lib.hid hrs.weak
  have HIN2 := Lib.hid (HIN.out.kept hb2)
  have HB2 := Lib.hid (HB1.out.trans (hb2.mono HB1.out.size))
  clear hrs hb2 c0 c1 c2 HIS HSTR HIN
  have hsl := HSL.out
  rw [hsl] at HRS
  simp only [hsl]
  clear hsl
  go_wp2
  go_loopw [3, 16] (fun s i wr => ∃ (k : Nat), k ≤ S ∧ i = .int .i64 k ∧ s = .string (bsF (digF (sl.take k))) ∧ Below w2.heap.size w2 wr) (fun _ i _ => S - (intOf i).toNat)
  case atStart => exact ⟨0, by omega, rfl, by rw [HD0.out]; rfl, Below.refl _ _⟩
  case round =>
    obtain ⟨k, hk, rfl, rfl, hbe⟩ := hrel
    have HBE := Lib.hid hbe
    by_cases hkS : k < S
    · obtain ⟨z, hz⟩ := HXS.out k hkS
      have hzd := HDG.out k z hz
      have hst := HDS.out k z hz
      have hlk := HDL.out k
      obtain ⟨g, off, xs, Fk, rfl, _, hrd, _, hc⟩ := (HRS.out.kept hbe).get hz
      obtain ⟨rfl, _⟩ := id hrd
      have d0 := hc 0 _ rfl
      simp only [show Rep.int.size = 1 from rfl, Nat.mul_one, Nat.add_zero] at d0
      have HIT : Hid (∀ W, Calls Tryd.prog 39 #[.int .i64 z] W fun e w' => e = .returned (.string (bsF (itoa z))) ∧ Below W.heap.size W w') := fun W => implItoa_any z W hzd
      have hil := itoa_dig hzd
      have ad : ∀ w : World, (Op.stringOp .add (bsF (digF (sl.take k))) (bsF (itoa z))).run Tryd.prog w = .ok (.string (bsF (digF (sl.take (k + 1))))) w := fun w => by
        rw [run_string_add_sum _ _ _ (by rw [bsF_size, bsF_size]; omega), bsF_add, hst]
      clear hbe hc hrd hz hzd hst hlk hil
      generalize itoa z = Z at *
      generalize digF (sl.take k) = Dk at *
      generalize hD1 : digF (sl.take (k + 1)) = Dk1 at *
      have HD1 := Lib.hid hD1
      clear hD1
      go_wp2_with fail
      refine (HIT.out _).mono ?_
      rintro e w4 ⟨rfl, hb4⟩
      have HBE4 := Lib.hid (HBE.out.trans (hb4.mono HBE.out.size))
      clear hb4 d0
      go_wp2
      go_roundw
      case rel => exact ⟨k + 1, by omega, by go_num, by rw [HD1.out], HBE4.out⟩
      case measure => simp [intOf]; omega
    · obtain rfl : k = S := by omega
      have b1 := (HIN2.out.kept hbe).cell 1 rfl
      have HBW := Lib.hid (HB2.out.trans (hbe.mono HB2.out.size))
      rw [HDA.out]
      clear hbe HRS HXS HDG HDS HDA HD0 HDL HSL
      generalize digF sl = D at *
      go_wp2
      clear b1
      go_loopw [6, 7, 28] (fun s d i w5 => ∃ (k2 e : Nat), k2 ≤ n ∧ e ≤ k ∧ i = .int .i64 k2 ∧ d = .int .i64 e ∧ s = .string (bsF (T e)) ∧ Hid (endFeet 0 (l.take k2) = (e : Int)) ∧ Below wr.heap.size wr w5) (fun _ _ i _ => n - (intOf i).toNat)
      case atStart => exact ⟨0, 0, by omega, by omega, rfl, rfl, by rw [HT0.out]; rfl, HE0.out, Below.refl _ _⟩
      case round =>
        obtain ⟨k2, e, hk2, hek, rfl, rfl, rfl, hend, hbe5⟩ := hrel
        have HBE5 := Lib.hid hbe5
        have HBW5 := Lib.hid (HBW.out.trans (hbe5.mono HBW.out.size))
        have hDl := HDN.out
        have hTe := HLN.out e hek
        by_cases hkn : k2 < n
        · obtain ⟨x, hx⟩ := HX.out k2 hkn
          obtain ⟨a1, a2, a3, a4, a5, a6⟩ := HAT.out k2 x hx
          obtain ⟨a, ha⟩ := Int.eq_ofNat_of_zero_le a1
          obtain ⟨z, hz⟩ := Int.eq_ofNat_of_zero_le (show 0 ≤ x.Size by omega)
          obtain ⟨h, hh⟩ := Int.eq_ofNat_of_zero_le a5
          obtain ⟨q1, q2, q3, q4⟩ := HFOOT.out k2 a (a + z) e x hx hend.out ha (by rw [ha, hz]; rfl)
          have HND := Lib.hid (HEND.out k2 x hx)
          rw [ha, hz] at HND
          obtain ⟨g, off, xs, Fk, rfl, _, hrd, _, hc⟩ := (HV.out.kept HBW5.out).get hx
          obtain ⟨rfl, _, _, _⟩ := rFoot_rd hrd
          rw [rFoot_size, ha, hz, hh] at hc
          have d0 := hc 0 _ rfl
          have d1 := hc 1 _ rfl
          have d2 := hc 2 _ rfl
          simp only [Nat.add_zero] at d0
          have hTb := HLN.out (a + z) q3
          have ex1 : (bsF D).extract e a = bsF (cut D e a) := by
            apply ByteArray.ext; apply Array.toList_inj.1
            simp [bsF, cut, ByteArray.data_extract]
          have ex2 : (bsF D).extract a ((a : Int) + (z : Int)).toNat = bsF (cut D a (a + z)) := by
            rw [show ((a : Int) + (z : Int)).toNat = a + z by omega]
            apply ByteArray.ext; apply Array.toList_inj.1
            simp [bsF, cut, ByteArray.data_extract]
          have hc1 : (cut D e a).length ≤ 6 := by unfold cut; rw [List.length_take, List.length_drop]; omega
          have hc2 : (cut D a (a + z)).length ≤ 6 := by unfold cut; rw [List.length_take, List.length_drop]; omega
          have hsz : (bsF D).size = k := by rw [bsF_size, hDl]
          have ad1 : ∀ w : World, (Op.stringOp .add (bsF (cut D e a)) ⟨#[40]⟩).run Tryd.prog w = .ok (.string (bsF (cut D e a ++ [40]))) w := fun w => by
            rw [run_string_add_sum _ _ _ (by rw [bsF_size]; show _ + 1 ≤ _; omega), ← bsF_add]; rfl
          have ad2 : ∀ w : World, (Op.stringOp .add (bsF (cut D e a ++ [40])) (bsF (cut D a (a + z)))).run Tryd.prog w = .ok (.string (bsF (cut D e a ++ [40] ++ cut D a (a + z)))) w := fun w => by
            rw [run_string_add_sum _ _ _ (by rw [bsF_size, bsF_size, List.length_append, List.length_singleton]; omega), bsF_add]
          have ad3 : ∀ w : World, (Op.stringOp .add (bsF (cut D e a ++ [40] ++ cut D a (a + z))) ⟨#[41]⟩).run Tryd.prog w = .ok (.string (bsF (cut D e a ++ [40] ++ cut D a (a + z) ++ [41]))) w := fun w => by
            rw [run_string_add_sum _ _ _ (by rw [bsF_size, List.length_append, List.length_append, List.length_singleton]; show _ + 1 ≤ _; omega), ← bsF_add]; rfl
          have ad4 : ∀ w : World, (Op.stringOp .add (bsF (T e)) (bsF (cut D e a ++ [40] ++ cut D a (a + z) ++ [41]))).run Tryd.prog w = .ok (.string (bsF (T (a + z)))) w := fun w => by
            rw [run_string_add_sum _ _ _ (by rw [bsF_size, bsF_size, List.length_append, List.length_append, List.length_append, List.length_singleton, List.length_singleton]; omega), bsF_add, q4]
            simp only [List.append_assoc]
          have hq1 : (e : Int) ≤ (a : Int) := by omega
          have hq2 : (a : Int) ≤ (a : Int) + (z : Int) := by omega
          have hq3 : (a : Int) + (z : Int) ≤ (k : Int) := by omega
          have hq4 : (a : Int) ≤ (k : Int) := by omega
          have HZ2 : Hid (1 ≤ z ∧ z ≤ 2 ∧ a + z ≤ k ∧ h ≤ 2) := by unfold Hid; omega
          clear hc hrd hx a1 a2 a3 a4 a5 a6 ha hz hh q4 hbe5 hTe hTb hDl hc1 hc2 q1 q2
          generalize cut D e a = C1 at *
          generalize cut D a (a + z) = C2 at *
          generalize C1 ++ [40] ++ C2 ++ [41] = C5 at *
          generalize C1 ++ [40] ++ C2 = C4 at *
          generalize C1 ++ [40] = C3 at *
          have hbox : InC (wr.alloc (.cells #[.int .i64 (a : Int), .int .i64 (z : Int), .int .i64 (h : Int)] 53)) wr.heap.size #[.int .i64 (a : Int), .int .i64 (z : Int), .int .i64 (h : Int)] 53 := heap_alloc_new _ _
          have cb0 := fun d os => cell_regrown (hbox.cell 0 rfl) d os
          have cb1 := fun d os => cell_regrown (hbox.cell 1 rfl) d os
          have cb2 := fun d os => cell_regrown (hbox.cell 2 rfl) d os
          have HCE : Hid (∀ W, Calls Tryd.prog 34 #[.agg #[.int .i64 (a : Int), .int .i64 (z : Int), .int .i64 (h : Int)]] W fun e w' => e = .returned (.int .i64 ((a : Int) + (z : Int))) ∧ Below W.heap.size W w') := fun W => implEnd_any _ _ _ W (by omega) (by have := HZ2.out; omega) (by omega) (by have := HZ2.out; omega)
          have cE : ∀ d os, Calls Tryd.prog 34 #[.agg #[.int .i64 (a : Int), .int .i64 (z : Int), .int .i64 (h : Int)]] (grow (redrawn (wr.alloc (.cells #[.int .i64 (a : Int), .int .i64 (z : Int), .int .i64 (h : Int)] 53)) d) os) fun e w'' => e = .returned (.int .i64 ((a : Int) + (z : Int))) ∧ ∃ p : Regrown, w'' = grow (redrawn (wr.alloc (.cells #[.int .i64 (a : Int), .int .i64 (z : Int), .int .i64 (h : Int)] 53)) p.d) p.os :=
            fun d os => Calls.regrown_of (HCE.out _)
          clear hbox
          go_wp2
          refine wp_region_quiet_below (by kernel_rfl) (by kernel_rfl) ?_
          repeat (quiet_step (first | exact cE _ _))
          refine wpQuiet_nil ?_
          intro _ hw'
          obtain ⟨⟨dq, osq⟩, hw''⟩ := hw'
          subst hw''
          have hbq := Lib.hid (HBE5.out.trans ((((Below.refl wr.heap.size wr).alloc (Nat.le_refl _) (.cells #[.int .i64 (a : Int), .int .i64 (z : Int), .int .i64 (h : Int)] 53)).trans ((below_regrown _ dq osq).mono (by simp))).mono HBE5.out.size))
          go_wp2_with fail
          refine (HCE.out _).mono ?_
          rintro e w9 ⟨rfl, hb9⟩
          have HB9 := Lib.hid (hbq.out.trans (hb9.mono hbq.out.size))
          clear hb9
          go_wp2
          go_roundw
          case rel => exact ⟨k2 + 1, a + z, by omega, q3, by go_num, rfl, rfl, HND.out, HB9.out⟩
          case measure => simp [intOf]; omega
        · obtain rfl : k2 = n := by omega
          have hlast := HLAST.out e hend.out hek
          have ex : (bsF D).extract e k = bsF (cut D e k) := by
            apply ByteArray.ext; apply Array.toList_inj.1
            simp [bsF, cut, ByteArray.data_extract]
          have hc1 : (cut D e k).length ≤ 6 := by unfold cut; rw [List.length_take, List.length_drop]; omega
          have hsz : (bsF D).size = k := by rw [bsF_size, hDl]
          have ad4 : ∀ w : World, (Op.stringOp .add (bsF (T e)) (bsF (cut D e k))).run Tryd.prog w = .ok (.string (bsF (T k))) w := fun w => by
            rw [run_string_add_sum _ _ _ (by rw [bsF_size, bsF_size]; omega), bsF_add, hlast]
          have hq : (e : Int) ≤ (k : Int) := by omega
          clear hbe5 hTe hDl hc1 hlast hend
          generalize cut D e k = C1 at *
          go_wp2
          go_ret
          exact ⟨ret_str (by rw [HE.out]), HBW5.out⟩
end Go.Proofs.YtifmcbhgoncgjaaDoor
