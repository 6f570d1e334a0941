/- The model's NeighboursOf: what it answers. -/
import Derived.Test.YtjajbkbocbodfaaDoorNb
import Derived.Test.YtjajbkbocbodfaaDoorN1
import Derived.Test.YtjajbkbocbodfaaDoorLk
import Derived.Test.YtjajbkbocbodfaaDoorAppS
import Derived.Deep.RegionLaw
namespace Go.Proofs.YtjajbkbocbodfaaDoor
open Go.RowKit Go.Sort M

theorem hasB_step (l : List ByteArray) (x : ByteArray) (k : Nat) (h : k < l.length) : hasB (l.take (k + 1)) x = (hasB (l.take k) x || ((l.getD k ByteArray.empty).toList == x.toList)) := by
  unfold hasB
  rw [List.take_add_one, List.getElem?_eq_getElem h, List.any_append]
  simp [h]
theorem hasB_yes {l : List ByteArray} {x : ByteArray} (k : Nat) (h : k < l.length) (he : ((l.getD k ByteArray.empty).toList == x.toList) = true) : hasB l x = true := by
  unfold hasB
  rw [List.any_eq_true]
  exact ⟨l[k], List.getElem_mem h, by rw [List.getD_eq_getElem?_getD, List.getElem?_eq_getElem h] at he; exact he⟩
theorem has_any (v : Value) (base : Nat) (l : List ByteArray) (x : ByteArray) (w : World) (hn : l.length ≤ 1000000000) (hv : w.ownsRow base 9 1 v l.length (cellsS l)) :
    Calls Tryd.prog 49 #[v, .string x] w fun e w' => e = .returned (.bool (hasB l x)) ∧ w = w' := by
  obtain ⟨A, c1, rfl, hA⟩ := str_read hv
  have HA := Lib.hid hA
  clear hA hv
  generalize hl : l.length = n at *
  have HL := Lib.hid hl
  clear hl
  go_enter Tryd.func49, Tryd.ntmps49
  go_wp2
  go_loop [5] (fun i => ∃ (k : Nat), k ≤ n ∧ i = .int .i64 k ∧ Hid (hasB (l.take k) x = false)) (fun i => n - (intOf i).toNat)
  case atStart => exact ⟨0, by omega, rfl, rfl⟩
  case round =>
    obtain ⟨k, hk, rfl, hno⟩ := hrel
    by_cases hkl : k < n
    · obtain ⟨g, rfl, hg⟩ := HA.out k hkl
      have HST := Lib.hid (hasB_step l x k (by rw [HL.out]; exact hkl))
      generalize ht : l.getD k ByteArray.empty = t at hg HST
      have HT := Lib.hid ht
      clear ht
      go_wp2
      · have he : (t.toList == x.toList) = true := by assumption
        go_ret
        exact ⟨ret_bool (hasB_yes k (by rw [HL.out]; exact hkl) (by rw [HT.out]; exact he)).symm, rfl⟩
      · have he : (t.toList == x.toList) = false := by assumption
        go_round
        case rel => exact ⟨k + 1, by omega, by go_num, by unfold Hid; rw [HST.out, hno.out, he]; rfl⟩
        case measure => simp [intOf]; omega
    · obtain rfl : k = n := by omega
      have HE : Hid (hasB l x = false) := by
        have := hno.out
        rw [List.take_of_length_le (by rw [HL.out]; exact Nat.le_refl _)] at this
        exact this
      go_wp2
      go_ret
      exact ⟨ret_bool HE.out.symm, rfl⟩
theorem ex_size (s : ByteArray) (i j : Nat) (h : j ≤ s.size) : (s.extract i j).size = j - i := by
  rw [ByteArray.size_extract]; omega
set_option maxRecDepth 20000 in
set_option maxHeartbeats 4000000 in
theorem specNb_in (s : ByteArray) (w : World) (hf : isFm s = true) (hs : s.size < 8) :
    Calls Tryd.prog 11 #[.string s] w (StrsPost (nbTo s (s.size + 1)) w) := by
  have HM := Lib.hid (show s.size ≤ maxLen by unfold maxLen; omega)
  go_enter Tryd.func11, Tryd.ntmps11
  go_wp2_with fail
  refine (specFm_any s _ HM.out).mono ?_
  rintro e w2 ⟨rfl, rfl⟩
  rw [hf]
  clear hf
  go_wp2
  go_loopw [3, 4] (fun v i wr => ∃ (k : Nat), k ≤ s.size + 1 ∧ i = .int .i64 k ∧ wr.ownsRow w.heap.size 9 1 v (nbTo s k).length (cellsS (nbTo s k)) ∧ Below w.heap.size w wr) (fun _ i _ => s.size + 1 - (intOf i).toNat)
  case atStart => exact ⟨0, by omega, rfl, str_empty w, (Below.refl _ _).alloc (Nat.le_refl _) _⟩
  case round =>
    obtain ⟨k, hk, rfl, hown, hbe⟩ := hrel
    by_cases hkl : k ≤ s.size
    · obtain ⟨wo, rfl⟩ : ∃ wo : World, wo = wr := ⟨_, rfl⟩
      have HL := Lib.hid (nbTo_len s k)
      have HO := Lib.hid hown
      have HBE := Lib.hid hbe
      clear hown hbe
      generalize hl : nbTo s k = l at *
      have HLL := Lib.hid hl
      clear hl
      go_wp2
      go_loopw [3, 5] (fun v i wr => ∃ (q : Nat), q ≤ 7 ∧ i = .int .i64 q ∧ wr.ownsRow w.heap.size 9 1 v (nbJ s k l q).length (cellsS (nbJ s k l q)) ∧ Below w.heap.size w wr) (fun _ i _ => 7 - (intOf i).toNat)
      case atStart => exact ⟨0, by omega, rfl, HO.out, HBE.out⟩
      case round =>
        obtain ⟨q, hq, rfl, hown, hbe⟩ := hrel
        by_cases hql : q < 7
        · have HOW := Lib.hid hown
          have HBW := Lib.hid hbe
          have hsl := snd_extract q hql
          have g1 : (0 : Int) ≤ (q : Int) := by omega
          have g2 : (q : Int) + 1 ≤ 7 := by omega
          have g3 : (q : Int) ≤ (q : Int) + 1 := by omega
          have hwk : IntKind.i64.wrap ((q : Int) + 1) = (q : Int) + 1 := IntWalk.i64_in _ (by omega)
          have hnk : ((q : Int) + 1).toNat = q + 1 := by omega
          have f1 : (0 : Int) ≤ (k : Int) := by omega
          have f2 : (k : Int) ≤ (s.size : Int) := by omega
          have hadd1 := str_add (s.extract 0 k) (sndB q) (by rw [sndB_sz, ex_size s 0 k hkl]; omega)
          have hadd2 := str_add (s.extract 0 k ++ sndB q) (s.extract k s.size) (by rw [ByteArray.size_append, sndB_sz, ex_size s 0 k hkl, ex_size s k s.size (Nat.le_refl _)]; omega)
          unfold sndB at hadd1 hadd2
          clear hown hbe
          have hn1 : (nbJ s k l q).length ≤ 1000000000 := by have h1 := nbJ_len s k l q; have h2 := HL.out; omega
          have HJ : Hid (nbJ s k l (q + 1) = nbSub s k (addN (nbJ s k l q) (insB s k q)) q) := rfl
          by_cases hi : k < s.size
          · have f3 : (k : Int) < (s.size : Int) := by omega
            have f4 : (k : Int) + 1 ≤ (s.size : Int) := by omega
            have f5 : (0 : Int) ≤ (k : Int) + 1 := by omega
            have fwk : IntKind.i64.wrap ((k : Int) + 1) = (k : Int) + 1 := IntWalk.i64_in _ (by omega)
            have fnk : ((k : Int) + 1).toNat = k + 1 := by omega
            have hadd3 := str_add (s.extract 0 k ++ sndB q) (s.extract (k + 1) s.size) (by rw [ByteArray.size_append, sndB_sz, ex_size s 0 k hkl, ex_size s (k + 1) s.size (Nat.le_refl _)]; omega)
            unfold sndB at hadd3
            go_wp2
            go_quiet (fail)
            go_wp2_with fail
            refine (has_any _ _ (nbJ s k l q) (insB s k q) _ hn1 (own_kept (below_drewN (Below.refl _ _) _) HOW.out)).mono ?_
            rintro e w1 ⟨rfl, rfl⟩
            go_wp2_with (at_builtin; refine wpList_append_str _ rfl (.tmp 44) (.tmp 46) rfl w.heap.size _ _ _ rfl (own_kept (below_drewN (Below.refl _ _) _) HOW.out) _ rfl hn1 HBW.out.size ?_; intro v' w' hown' hb')
            · have HX := Lib.hid (addN_no (of_not_true ‹(!hasB (nbJ s k l q) (insB s k q)) = true›))
              have OL : Hid (w'.ownsRow w.heap.size 9 1 v' (nbJ s k l q ++ [insB s k q]).length (cellsS (nbJ s k l q ++ [insB s k q]))) := by unfold Hid; rw [List.length_append, List.length_singleton]; exact hown'
              have BL : Hid (Below w.heap.size w w') := HBW.out.trans ⟨hb'.os, hb'.tape, hb'.output, hb'.size, hb'.block⟩
              have hn2 : (nbJ s k l q ++ [insB s k q]).length ≤ 1000000000 := by rw [List.length_append, List.length_singleton]; have h1 := nbJ_len s k l q; have h2 := HL.out; omega
              generalize hL : nbJ s k l q ++ [insB s k q] = L at *
              clear hown' hb' hL
              generalize v' = vv at *
              go_quiet (fail)
              go_wp2_with fail
              · have he : ((subB s k q).toList == s.toList) = true := beq_iff_eq.2 (show (subB s k q).toList = s.toList from ‹(s.extract 0 k ++ (⟨#[byt (sndAt q)]⟩ : ByteArray) ++ s.extract (k + 1) s.size).toList = s.toList›)
                go_roundw
                case rel =>
                  refine ⟨q + 1, by omega, by go_num, ?_, below_drewN BL.out _⟩
                  rw [HJ.out, HX.out, nbSub_same hi he]
                  exact own_kept (below_drewN (Below.refl _ _) _) OL.out
                case measure => simp [intOf]; omega
              · have he : ((subB s k q).toList == s.toList) = false := beq_eq_false_iff_ne.2 (show ¬ (subB s k q).toList = s.toList from ‹¬(s.extract 0 k ++ (⟨#[byt (sndAt q)]⟩ : ByteArray) ++ s.extract (k + 1) s.size).toList = s.toList›)
                refine (has_any _ _ L (subB s k q) _ hn2 (own_kept (below_drewN (Below.refl _ _) _) OL.out)).mono ?_
                rintro e w1 ⟨rfl, rfl⟩
                go_wp2_with (at_builtin; refine wpList_append_str _ rfl (.tmp 74) (.tmp 76) rfl w.heap.size _ _ _ rfl (own_kept (below_drewN (Below.refl _ _) _) OL.out) _ rfl hn2 BL.out.size ?_; intro v2 w2 hown2 hb2)
                · rename_i hz
                  have hh : hasB L (subB s k q) = false := of_not_true hz.2
                  go_roundw
                  case rel =>
                    refine ⟨q + 1, by omega, by go_num, ?_, BL.out.trans ⟨hb2.os, hb2.tape, hb2.output, hb2.size, hb2.block⟩⟩
                    rw [HJ.out, HX.out, nbSub_new hi he hh, List.length_append, List.length_singleton]
                    exact hown2
                  case measure => simp [intOf]; omega
                · rename_i hz
                  have hh : hasB L (subB s k q) = true := by
                    rcases hz with hz | hz
                    · exact absurd (show ((subB s k q).toList == s.toList) = true from of_not_false hz) (by rw [he]; simp)
                    · exact of_not_false hz
                  go_roundw
                  case rel =>
                    refine ⟨q + 1, by omega, by go_num, ?_, below_drewN BL.out _⟩
                    rw [HJ.out, HX.out, nbSub_has hi he hh]
                    exact own_kept (below_drewN (Below.refl _ _) _) OL.out
                  case measure => simp [intOf]; omega
            · have HX := Lib.hid (addN_yes (of_not_false ‹(!hasB (nbJ s k l q) (insB s k q)) = false›))
              have OL := HOW
              have BL := HBW
              have hn2 := hn1
              go_quiet (fail)
              go_wp2_with fail
              · have he : ((subB s k q).toList == s.toList) = true := beq_iff_eq.2 (show (subB s k q).toList = s.toList from ‹(s.extract 0 k ++ (⟨#[byt (sndAt q)]⟩ : ByteArray) ++ s.extract (k + 1) s.size).toList = s.toList›)
                go_roundw
                case rel =>
                  refine ⟨q + 1, by omega, by go_num, ?_, below_drewN BL.out _⟩
                  rw [HJ.out, HX.out, nbSub_same hi he]
                  exact own_kept (below_drewN (Below.refl _ _) _) OL.out
                case measure => simp [intOf]; omega
              · have he : ((subB s k q).toList == s.toList) = false := beq_eq_false_iff_ne.2 (show ¬ (subB s k q).toList = s.toList from ‹¬(s.extract 0 k ++ (⟨#[byt (sndAt q)]⟩ : ByteArray) ++ s.extract (k + 1) s.size).toList = s.toList›)
                refine (has_any _ _ (nbJ s k l q) (subB s k q) _ hn2 (own_kept (below_drewN (Below.refl _ _) _) OL.out)).mono ?_
                rintro e w1 ⟨rfl, rfl⟩
                go_wp2_with (at_builtin; refine wpList_append_str _ rfl (.tmp 74) (.tmp 76) rfl w.heap.size _ _ _ rfl (own_kept (below_drewN (Below.refl _ _) _) OL.out) _ rfl hn2 BL.out.size ?_; intro v2 w2 hown2 hb2)
                · rename_i hz
                  have hh : hasB (nbJ s k l q) (subB s k q) = false := of_not_true hz.2
                  go_roundw
                  case rel =>
                    refine ⟨q + 1, by omega, by go_num, ?_, BL.out.trans ⟨hb2.os, hb2.tape, hb2.output, hb2.size, hb2.block⟩⟩
                    rw [HJ.out, HX.out, nbSub_new hi he hh, List.length_append, List.length_singleton]
                    exact hown2
                  case measure => simp [intOf]; omega
                · rename_i hz
                  have hh : hasB (nbJ s k l q) (subB s k q) = true := by
                    rcases hz with hz | hz
                    · exact absurd (show ((subB s k q).toList == s.toList) = true from of_not_false hz) (by rw [he]; simp)
                    · exact of_not_false hz
                  go_roundw
                  case rel =>
                    refine ⟨q + 1, by omega, by go_num, ?_, below_drewN BL.out _⟩
                    rw [HJ.out, HX.out, nbSub_has hi he hh]
                    exact own_kept (below_drewN (Below.refl _ _) _) OL.out
                  case measure => simp [intOf]; omega
          · have f3 : ¬ (k : Int) < (s.size : Int) := by omega
            go_wp2
            go_quiet (fail)
            go_wp2_with fail
            refine (has_any _ _ (nbJ s k l q) (insB s k q) _ hn1 (own_kept (below_drewN (Below.refl _ _) _) HOW.out)).mono ?_
            rintro e w1 ⟨rfl, rfl⟩
            go_wp2_with (at_builtin; refine wpList_append_str _ rfl (.tmp 44) (.tmp 46) rfl w.heap.size _ _ _ rfl (own_kept (below_drewN (Below.refl _ _) _) HOW.out) _ rfl hn1 HBW.out.size ?_; intro v' w' hown' hb')
            · have HX := Lib.hid (addN_no (of_not_true ‹(!hasB (nbJ s k l q) (insB s k q)) = true›))
              go_roundw
              case rel =>
                refine ⟨q + 1, by omega, by go_num, ?_, HBW.out.trans ⟨hb'.os, hb'.tape, hb'.output, hb'.size, hb'.block⟩⟩
                rw [HJ.out, HX.out, nbSub_end _ _ hi, List.length_append, List.length_singleton]
                exact hown'
              case measure => simp [intOf]; omega
            · have HX := Lib.hid (addN_yes (of_not_false ‹(!hasB (nbJ s k l q) (insB s k q)) = false›))
              go_roundw
              case rel =>
                refine ⟨q + 1, by omega, by go_num, ?_, below_drewN HBW.out _⟩
                rw [HJ.out, HX.out, nbSub_end _ _ hi]
                exact own_kept (below_drewN (Below.refl _ _) _) HOW.out
              case measure => simp [intOf]; omega
        · obtain rfl : q = 7 := by omega
          have HOW := Lib.hid hown
          have HBW := Lib.hid hbe
          clear hown hbe
          have hn1 : (nbJ s k l 7).length ≤ 1000000000 := by have h1 := nbJ_len s k l 7; have h2 := HL.out; omega
          have HT : Hid (nbTo s (k + 1) = nbI s k l) := by unfold Hid; rw [nbTo, HLL.out]
          by_cases hi : k < s.size
          · have f1 : (0 : Int) ≤ (k : Int) := by omega
            have f2 : (k : Int) ≤ (s.size : Int) := by omega
            have f3 : (k : Int) < (s.size : Int) := by omega
            have f4 : (k : Int) + 1 ≤ (s.size : Int) := by omega
            have f5 : (0 : Int) ≤ (k : Int) + 1 := by omega
            have fwk : IntKind.i64.wrap ((k : Int) + 1) = (k : Int) + 1 := IntWalk.i64_in _ (by omega)
            have fnk : ((k : Int) + 1).toNat = k + 1 := by omega
            have hadd3 := str_add (s.extract 0 k) (s.extract (k + 1) s.size) (by rw [ex_size s 0 k hkl, ex_size s (k + 1) s.size (Nat.le_refl _)]; omega)
            have cH : ∀ n, Calls Tryd.prog 49 #[u3, .string (s.extract 0 k ++ s.extract (k + 1) s.size)] (wr.drewN n) fun e w'' => e = .returned (.bool (hasB (nbJ s k l 7) (delB s k))) ∧ ∃ m, w'' = wr.drewN m :=
              fun n => (has_any _ _ (nbJ s k l 7) (delB s k) _ hn1 (own_kept (below_drewN (Below.refl _ _) n) HOW.out)).mono fun e w' h => ⟨h.1, n, h.2.symm⟩
            go_wp2
            go_quiet (exact cH _)
            clear cH
            go_wp2_with fail
            · have hh : hasB (nbJ s k l 7) (delB s k) = false := of_not_true (by assumption)
              have HE : Hid (nbI s k l = nbJ s k l 7 ++ [delB s k]) := by unfold Hid nbI; rw [if_pos hi, addN_no hh]
              clear hh
              go_region_law (refine step_append_str_drew (wr.drewN nq) rfl (.tmp 95) (.tmp 104) rfl w.heap.size _ _ _ (own_kept (below_drewN (Below.refl _ _) nq) HOW.out) (delB s k) hn1 HBW.out.size (by simp [Act.eval]) (by simp [Act.eval]) ?_; intro v' w' hown' hb')
              all_goals
                go_wp2
                go_roundw
                case rel =>
                  refine ⟨k + 1, by omega, by go_num, ?_, HBW.out.trans ⟨hb'.os, hb'.tape, hb'.output, hb'.size, hb'.block⟩⟩
                  rw [HT.out, HE.out, List.length_append, List.length_singleton]
                  exact hown'
                case measure => simp [intOf]; omega
            · have hh : hasB (nbJ s k l 7) (delB s k) = true := of_not_false (by assumption)
              have HE : Hid (nbI s k l = nbJ s k l 7) := by unfold Hid nbI; rw [if_pos hi, addN_yes hh]
              go_roundw
              case rel =>
                refine ⟨k + 1, by omega, by go_num, ?_, below_drewN HBW.out _⟩
                rw [HT.out, HE.out]
                exact own_kept (below_drewN (Below.refl _ _) _) HOW.out
              case measure => simp [intOf]; omega
          · have f3 : ¬ (k : Int) < (s.size : Int) := by omega
            have HE : Hid (nbI s k l = nbJ s k l 7) := if_neg hi
            go_wp2
            go_quiet (fail)
            go_wp2
            go_roundw
            case rel =>
              refine ⟨k + 1, by omega, by go_num, ?_, below_drewN HBW.out _⟩
              rw [HT.out, HE.out]
              exact own_kept (below_drewN (Below.refl _ _) _) HOW.out
            case measure => simp [intOf]; omega
    · obtain rfl : k = s.size + 1 := by omega
      go_wp2
      go_ret
      exact ⟨_, rfl, hown, hbe⟩
theorem specNb_any (s : ByteArray) (w : World) (hs : s.size ≤ maxLen) :
    Calls Tryd.prog 11 #[.string s] w (StrsPost (nbL s) w) := by
  by_cases hf : isFm s = true
  · by_cases h8 : s.size < 8
    · have HE : nbL s = nbTo s (s.size + 1) := if_pos ⟨hf, h8⟩
      rw [HE]; exact specNb_in s w hf h8
    · have HE : Hid (nbL s = []) := if_neg fun h => h8 h.2
      have HM := Lib.hid hs
      have h8' : ¬ (s.size : Int) < 8 := by omega
      have h9 : (8 : Int) ≤ (s.size : Int) := by omega
      clear hs
      go_enter Tryd.func11, Tryd.ntmps11
      go_wp2_with fail
      refine (specFm_any s _ HM.out).mono ?_
      rintro e w2 ⟨rfl, rfl⟩
      rw [hf]
      go_wp2
      go_ret
      exact ⟨_, rfl, by rw [HE.out]; exact str_empty w, (Below.refl _ _).alloc (Nat.le_refl _) _⟩
  · have HE : Hid (nbL s = []) := if_neg fun h => hf h.1
    have hf : isFm s = false := by simpa using hf
    have HM := Lib.hid hs
    clear hs
    go_enter Tryd.func11, Tryd.ntmps11
    go_wp2_with fail
    refine (specFm_any s _ HM.out).mono ?_
    rintro e w2 ⟨rfl, rfl⟩
    rw [hf]
    go_wp2
    go_ret
    exact ⟨_, rfl, by rw [HE.out]; exact str_empty w, (Below.refl _ _).alloc (Nat.le_refl _) _⟩
end Go.Proofs.YtjajbkbocbodfaaDoor
