/- The model's l5Feet: what it answers. -/
import Derived.Test.YtifmcbhgoncgjaaDoorFe
import Derived.Test.YtifmcbhgoncgjaaDoorRa
import Derived.Test.YtifmcbhgoncgjaaDoorRet
import Derived.BigQuiet
namespace Go.Proofs.YtifmcbhgoncgjaaDoor
open Go.RowKit
set_option linter.unusedVariables false
set_option linter.unusedSimpArgs false

theorem flatFoot : Flat rFoot where
  free := fun h w' => by
    obtain ⟨rfl, h1, h2, h3⟩ := rFoot_rd h
    exact rFoot_mk h1 h2 h3
  one := fun h u hu => by
    obtain ⟨rfl, h1, h2, h3⟩ := rFoot_rd h
    simp at hu
    rcases hu with rfl | rfl | rfl <;> rfl
theorem Tryd.infoFF : (Tryd.prog.info? 29).map (fun i => (i.zero, i.size, i.bytes)) = some (some (.slice none 0 0), 1, 24) := by kernel_rfl
theorem Tryd.infoFo : (Tryd.prog.info? 53).map (fun i => (i.zero, i.size, i.bytes)) = some (some (.agg #[.int .i64 0, .int .i64 0, .int .i64 0]), 3, 24) := by kernel_rfl
def FeetPost (l : List (List DFoot)) (w : World) (e : Ending) (w' : World) : Prop := ∃ u, e = .returned u ∧ RowRd (Rep.row rFoot) false w' u l (fun p => w.heap.size ≤ p.block) ∧ Below w.heap.size w w'
def OwnFF (B : Nat) (w : World) (v : Value) (l : List (List DFoot)) : Prop := OwnRd (Rep.row rFoot) 29 false B w v l (fun p => B ≤ p.block)
set_option maxHeartbeats 4000000 in
theorem spec5_zero (n a : Int) (w : World) (h : n ≤ a) : Calls Tryd.prog 38 #[.int .i64 n, .int .i64 a] w (FeetPost [[]] w) := by
  go_enter Tryd.func38, Tryd.ntmps38
  go_wp2
  go_ret
  refine ⟨_, rfl, ⟨some ⟨w.heap.size + 1, 0, none⟩, 1, fun _ _ => False, rfl, ⟨by simp, fun h => by cases h⟩, fun k x hk => ?_⟩, ((Below.refl _ _).alloc (Nat.le_refl _) _).alloc (by simp) _⟩
  match k, hk with
  | 0, hk =>
    simp at hk
    subst hk
    refine ⟨w.heap.size + 1, 0, [.slice (some ⟨w.heap.size, 0, none⟩) 0 0], rfl, ⟨_, rfl, RowRd.zero _ _ _ _ _⟩, fun _ h => h.elim, fun j u hj => ?_, fun hs => by cases hs⟩
    match j, hj with
    | 0, hj =>
      simp at hj
      subst hj
      exact ⟨cell_in (box2 _ _ _) 0 rfl, by simp, fun hs => by cases hs⟩
set_option maxHeartbeats 4000000 in
theorem spec5_step (d a : Nat) (hd : a + d ≤ 3) (ih1 : ∀ w, Calls Tryd.prog 38 #[.int .i64 ((a + d + 1 : Nat) : Int), .int .i64 ((a + 1 : Nat) : Int)] w (FeetPost (restZ d a 1) w))
    (ih2 : 1 ≤ d → ∀ w, Calls Tryd.prog 38 #[.int .i64 ((a + d + 1 : Nat) : Int), .int .i64 ((a + 2 : Nat) : Int)] w (FeetPost (restZ d a 2) w)) (w : World) :
    Calls Tryd.prog 38 #[.int .i64 ((a + d + 1 : Nat) : Int), .int .i64 (a : Int)] w (FeetPost (stZ d a (min d 1 + 2)) w) := by
  obtain ⟨i1, hi, hz0, hz1, hz2⟩ := info_parts Tryd.infoFF
  obtain ⟨i3, hi3, qz3, qz4, qz5⟩ := info_parts Tryd.infoFo
  have HR1 := Lib.hid (restZ_len (d := d) (a := a) (by omega) (Nat.le_refl 1))
  have H1 := Lib.hid ih1
  have H2 := Lib.hid ih2
  have hlt : ¬ ((a + d + 1 : Nat) : Int) ≤ (a : Int) := by omega
  have hw1 : IntKind.i64.wrap ((a : Int) + 1) = ((a + 1 : Nat) : Int) := by rw [IntWalk.i64_in _ (by omega)]; rfl
  clear ih1 ih2
  go_enter Tryd.func38, Tryd.ntmps38
  go_wp2_with fail
  refine (H1.out _).mono ?_
  rintro e w2 ⟨u, rfl, hrow, hb2⟩
  obtain ⟨A, cap, rfl⟩ := hrow.form
  have HOUT : Hid (OwnFF w.heap.size w2 (.slice (some ⟨w.heap.size, 0, none⟩) 0 0) []) := (OwnRd.empty w (Nat.le_refl _) _).kept hb2
  have HRW := Lib.hid hrow.tight
  have HB2 : Hid (Below w.heap.size w w2) := ((Below.refl _ _).alloc (Nat.le_refl _) _).trans (hb2.mono (by simp))
  have hsz : w.heap.size + 1 ≤ w2.heap.size := by have := hb2.size; simpa using this
  have hs1 : (w.alloc (.cells #[] 29)).heap.size = w.heap.size + 1 := by simp
  rw [hs1] at HRW
  clear hrow hb2 hs1
  generalize hR : restZ d a 1 = R at *
  have HRR := Lib.hid hR
  clear hR
  have HX : Hid (∀ k, k < R.length → ∃ r, R[k]? = some r) := fun k hk => ⟨_, List.getElem?_eq_getElem hk⟩
  have HRL := Lib.hid HR1.out
  have hRL : R.length ≤ 44 := HR1.out
  go_wp2
  go_loopw [5, 7] (fun v i wr => ∃ (k : Nat), k ≤ R.length ∧ i = .int .i64 k ∧ OwnFF w.heap.size wr v (R.take k) ∧ Apart v (w.heap.size + 1) w2.heap.size ∧ KeepB (w.heap.size + 1) w2.heap.size w2 wr ∧ Below w.heap.size w wr) (fun _ i _ => R.length - (intOf i).toNat)
  case atStart => exact ⟨0, by omega, rfl, by rw [List.take_zero]; exact HOUT.out, fun k hk => by simp [Value.ownBlock] at hk; omega, KeepB.refl (Nat.le_refl _), HB2.out⟩
  case round =>
    obtain ⟨k, hk, rfl, hown, hap, hkp, hbe⟩ := hrel
    have HKP := Lib.hid hkp
    have hbs := hkp.size
    have HOW := Lib.hid hown
    have HAP := Lib.hid hap
    have HBE := Lib.hid hbe
    clear hown hap hbe hkp
    by_cases hkl : k < R.length
    · obtain ⟨r, hr⟩ := HX.out k hkl
      obtain ⟨g, off, xs, Fk, rfl, _, hrd, hFk, hc⟩ := (HRW.out.keepB (fun a ha => ha) HKP.out).get hr
      obtain ⟨vr, rfl, hrr⟩ := id hrd
      simp only [show (Rep.row rFoot).size = 1 from rfl, Nat.mul_one] at hc
      have c0 := hc 0 _ rfl
      simp only [Nat.add_zero] at c0
      obtain ⟨Ar, cr, rfl⟩ := hrr.form
      have HRD := Lib.hid hrd
      have HFK := Lib.hid (apart_move HAP.out hFk hbs)
      have HFB := Lib.hid hFk
      have htk := take_succ_of hr
      have hlk : (R.take k).length ≤ 1000000 := by rw [List.length_take]; have := HRL.out; omega
      have HWB : Hid (w.heap.size ≤ wr.heap.size) := by unfold Hid; omega
      clear hrd hFk hc hrr hr
      go_wp2_with (at_builtin; refine wpList_append_el (Rep.row rFoot) wr rfl (.tmp 27) (.tmp 32) 59 29 i1 (.slice none 0 0) 24 rfl Tryd.underlying59 hi hz0 hz1 hz2 rfl (by decide) false w.heap.size _ _ _ HOW.out rfl [.slice Ar r.length cr] r Fk HRD.out HFK.out (fun h => by cases h) rfl (fun u hu => by simp at hu; subst hu; rfl) hlk (by omega) HWB.out ?_; intro v' w' hown' hb' hkeep hmv)
      go_roundw
      case rel =>
        refine ⟨k + 1, by omega, by go_num, ?_, HAP.out.grow hbs hmv, HKP.out.grow HAP.out hb'.size (fun q h1 h2 => (hkeep q h1 h2).1), HBE.out.trans hb'⟩
        rw [htk]; exact hown'.mono (fun p hp => hp.elim id (fun h => by have := HFB.out p h; omega))
      case measure => simp [intOf]; omega
    · obtain rfl : k = R.length := by omega
      rw [List.take_length] at HOW
      have HO1 : Hid (OwnFF w.heap.size wr u5 (stZ d a 1)) := by
        have : stZ d a 1 = R := HRR.out
        unfold Hid; rw [this]; exact HOW.out
      have HW1 : Hid (w.heap.size < wr.heap.size) := by unfold Hid; omega
      have HSL : Hid (∀ z, z ≤ 3 → (stZ d a z).length ≤ 1000) := fun z hz => stZ_len (by omega) z hz
      have HRZ : Hid (∀ z, 1 ≤ z → (restZ d a z).length ≤ 44) := fun z hz => restZ_len (by omega) hz
      have H12 : Hid (∀ z : Nat, 1 ≤ z → z ≤ 2 → z ≤ d + 1 → ∀ w, Calls Tryd.prog 38 #[.int .i64 ((a + d + 1 : Nat) : Int), .int .i64 ((a + z : Nat) : Int)] w (FeetPost (restZ d a z) w)) := fun z h1 h2 h3 w => by
        obtain rfl | rfl : z = 1 ∨ z = 2 := by omega
        · rw [HRR.out]; exact H1.out w
        · exact H2.out (by omega) w
      clear HOW HAP HKP
      go_wp2
      go_loopw [5, 8] (fun v s wr => ∃ (z : Nat), 1 ≤ z ∧ z ≤ min d 1 + 2 ∧ s = .int .i64 z ∧ OwnFF w.heap.size wr v (stZ d a z) ∧ Below w.heap.size w wr ∧ w.heap.size < wr.heap.size) (fun _ s _ => 3 - (intOf s).toNat)
      case atStart => exact ⟨1, by omega, by omega, rfl, HO1.out, HBE.out, HW1.out⟩
      case round =>
        obtain ⟨z, hz1', hz2', rfl, hown, hbe2, hsz2⟩ := hrel
        have HOW := Lib.hid hown
        have HBE2 := Lib.hid hbe2
        have hwz : IntKind.i64.wrap ((a : Int) + (z : Int)) = ((a + z : Nat) : Int) := by rw [IntWalk.i64_in _ (by omega)]; rfl
        have hwz1 : IntKind.i64.wrap ((z : Int) + 1) = ((z + 1 : Nat) : Int) := by rw [IntWalk.i64_in _ (by omega)]; rfl
        clear hown hbe2
        by_cases hz3 : z ≤ 2
        case neg =>
          have hz4 : ¬ (z : Int) ≤ 2 := by omega
          have hze : z = min d 1 + 2 := by omega
          go_wp2
          go_ret
          have := HOW.out.row (by have := HSL.out z (by omega); omega)
          rw [hze] at this
          exact ⟨_, rfl, this.mono (fun p hp => hp.elim id id), HBE2.out⟩
        by_cases hz5 : z ≤ d + 1
        case neg =>
          have hz6 : ¬ ((a + z : Nat) : Int) ≤ ((a + d + 1 : Nat) : Int) := by omega
          have hz4 : (z : Int) ≤ 2 := by omega
          have hze : z = min d 1 + 2 := by omega
          go_wp2
          go_ret
          have := HOW.out.row (by have := HSL.out z (by omega); omega)
          rw [hze] at this
          exact ⟨_, rfl, this.mono (fun p hp => hp.elim id id), HBE2.out⟩
        have hz6 : ((a + z : Nat) : Int) ≤ ((a + d + 1 : Nat) : Int) := by omega
        have hz4 : (z : Int) ≤ 2 := by omega
        have HCZ := Lib.hid (H12.out z hz1' hz3 hz5)
        go_wp2_with fail
        refine (HCZ.out _).mono ?_
        rintro e w3 ⟨u3, rfl, hrow3, hb3⟩
        obtain ⟨A3, cap3, rfl⟩ := hrow3.form
        have HO3 : Hid (OwnFF w.heap.size w3 u5 (stZ d a z)) := HOW.out.kept hb3
        have HRW3 := Lib.hid hrow3.tight
        have HB3 := Lib.hid (HBE2.out.trans (hb3.mono HBE2.out.size))
        have HAP3 : Hid (Apart u5 wr.heap.size w3.heap.size) := fun k hk => Or.inl (HOW.out.lt k hk).2
        have hsz3 := hb3.size
        have HLR : Hid ((restZ d a z).length ≤ 44) := HRZ.out z hz1'
        have hSLz := HSL.out z (by omega)
        have hSLs : (hdS (stZ d a z) a z (restZ d a z) z).length ≤ 1000 := by rw [← stZ_step d a z hz1']; exact HSL.out (z + 1) (by omega)
        have HSTEP : Hid (stZ d a (z + 1) = hdS (stZ d a z) a z (restZ d a z) z) := stZ_step d a z hz1'
        have HHD : Hid (∀ h, h ≤ z → (hdS (stZ d a z) a z (restZ d a z) h).length ≤ 1100) := fun h hh => by
          rw [hdS_len]
          have h1 : h * (restZ d a z).length ≤ 2 * 44 := Nat.mul_le_mul (by omega) HLR.out
          omega
        have HRLL : Hid (∀ r ∈ restZ d a z, r.length ≤ 1000000) := fun r hr => by
          have := feetD_row _ _ r hr
          omega
        generalize restZ d a z = R3 at *
        have HX3 : Hid (∀ k, k < R3.length → ∃ r, R3[k]? = some r) := fun k hk => ⟨_, List.getElem?_eq_getElem hk⟩
        have hRL3 : R3.length ≤ 44 := HLR.out
        clear hrow3 hb3 hSLs
        generalize hs1 : wr.heap.size = s1 at *
        clear hs1
        go_wp2
        go_loopw [5, 9] (fun v s w4 => ∃ (h : Nat), h ≤ z ∧ s = .int .i64 h ∧ OwnFF w.heap.size w4 v (hdS (stZ d a z) a z R3 h) ∧ Apart v s1 w3.heap.size ∧ KeepB s1 w3.heap.size w3 w4 ∧ Below w.heap.size w w4) (fun _ s _ => z - (intOf s).toNat)
        case atStart => exact ⟨0, by omega, rfl, HO3.out, HAP3.out, KeepB.refl (Nat.le_refl _), HB3.out⟩
        case round =>
          obtain ⟨h, hh, rfl, hown4, hap4, hkp4, hbe4⟩ := hrel
          have HO4 := Lib.hid hown4
          have HAP4 := Lib.hid hap4
          have HKP4 := Lib.hid hkp4
          have HBE4 := Lib.hid hbe4
          clear hown4 hap4 hkp4 hbe4
          by_cases hhz : h < z
          · have HHS : Hid (hdS (stZ d a z) a z R3 (h + 1) = hdS (stZ d a z) a z R3 h ++ consF a z h R3) := rfl
            have hHL := HHD.out h hh
            generalize hdS (stZ d a z) a z R3 h = D at *
            have HT0 : Hid (D ++ consF a z h (R3.take 0) = D) := by unfold Hid consF; simp
            go_wp2
            go_loopw [5, 10] (fun v s w5 => ∃ (i : Nat), i ≤ R3.length ∧ s = .int .i64 i ∧ OwnFF w.heap.size w5 v (D ++ consF a z h (R3.take i)) ∧ Apart v s1 w3.heap.size ∧ KeepB s1 w3.heap.size w3 w5 ∧ Below w.heap.size w w5) (fun _ s _ => R3.length - (intOf s).toNat)
            case atStart => exact ⟨0, by omega, rfl, by rw [HT0.out]; exact HO4.out, HAP4.out, HKP4.out, HBE4.out⟩
            case round =>
              obtain ⟨i, hi', rfl, hown5, hap5, hkp5, hbe5⟩ := hrel
              have HO5 := Lib.hid hown5
              have HAP5 := Lib.hid hap5
              have HKP5 := Lib.hid hkp5
              have HBE5 := Lib.hid hbe5
              have hbs5 := hkp5.size
              clear hown5 hap5 hkp5 hbe5
              by_cases hil : i < R3.length
              · obtain ⟨r, hr⟩ := HX3.out i hil
                obtain ⟨g, off, xs, Fk, rfl, _, hrd, hFk, hc⟩ := (HRW3.out.keepB (fun a ha => ha) HKP5.out).get hr
                obtain ⟨vr, rfl, hrr⟩ := id hrd
                simp only [show (Rep.row rFoot).size = 1 from rfl, Nat.mul_one] at hc
                have c0 := hc 0 _ rfl
                simp only [Nat.add_zero] at c0
                obtain ⟨Ar, cr, rfl⟩ := hrr.form
                have c0' := fun o => (((Below.refl wr.heap.size wr).alloc (Nat.le_refl _) o).cell (block_lt_of_cell c0)).trans c0
                have hrl : r.length ≤ 1000000 := HRLL.out r (List.mem_of_getElem? hr)
                have HTK := Lib.hid (consF_take a z h R3 i hr)
                have hDl : (D ++ consF a z h (R3.take i)).length ≤ 1000000 := by rw [List.length_append, consF_len, List.length_take]; omega
                have HFT : Hid (rFoot.rd false wr [.int .i64 (a : Int), .int .i64 (z : Int), .int .i64 (h : Int)] ⟨a, z, h⟩ (fun _ => False)) := rFoot_mk (x := ⟨a, z, h⟩) (by unfold I64; simp only; omega) (by unfold I64; simp only; omega) (by unfold I64; simp only; omega)
                have HWB5 : Hid (w.heap.size ≤ wr.heap.size) := HBE5.out.size
                have HRR := Lib.hid (hrr.kept (w' := wr.alloc (.cells #[.int .i64 (a : Int), .int .i64 (z : Int), .int .i64 (h : Int)] 53)) ((Below.refl _ _).alloc (Nat.le_refl _) _))
                have HSG := Lib.hid (OwnRd.single (e := 53) flatFoot wr HFT.out)
                clear hrd hFk hc hrr hr
                go_wp2_with (at_builtin; refine Hid.out ?_)
                unfold Hid
                refine wpList_append_row rFoot flatFoot (wr.alloc (.cells #[.int .i64 (a : Int), .int .i64 (z : Int), .int .i64 (h : Int)] 53)) rfl (.tmp 66) (.tmp 70) 29 53 i3 (.agg #[.int .i64 0, .int .i64 0, .int .i64 0]) 24 rfl Tryd.underlying29 hi3 qz3 qz4 qz5 rfl (by decide) true false wr.heap.size _ _ _ HSG.out rfl Ar r.length cr r Fk HRR.out rfl (by simp) hrl (by omega) (by simp) ?_
                intro v6 w6 hown6 hb6 hkeep6
                have hrow6 := (hown6.row (by rw [List.length_append, List.length_singleton]; omega)).tight
                obtain ⟨A6, c6, rfl⟩ := hrow6.form
                have hb56 : Below wr.heap.size wr w6 := ((Below.refl _ _).alloc (Nat.le_refl _) _).trans hb6
                have HO6 := Lib.hid (HO5.out.kept hb56)
                have HKP6 : Hid (KeepB s1 w3.heap.size w3 w6) := HKP5.out.below hb56
                have HBE6 := Lib.hid (HBE5.out.trans (hb56.mono HBE5.out.size))
                have HRD6 : Hid ((Rep.row rFoot).rd false w6 [.slice A6 ([(⟨a, z, h⟩ : DFoot)] ++ r).length c6] ([(⟨a, z, h⟩ : DFoot)] ++ r) (fun p => (wr.heap.size ≤ p.block ∨ False) ∧ p.block < w6.heap.size)) := ⟨_, rfl, hrow6.weak⟩
                have HLTT : Hid (∀ p : Addr, ((wr.heap.size ≤ p.block ∨ False) ∧ p.block < w6.heap.size) → p.block < w6.heap.size ∧ u5.ownBlock ≠ some p.block) := fun p hp => by
                  refine ⟨hp.2, fun e => ?_⟩
                  have := (HO5.out.lt _ e).2
                  have := hp.1.resolve_right (fun h => h)
                  omega
                have hsz6 := hb56.size
                clear hown6 hb6 hkeep6 hrow6 hb56
                go_wp2_with (at_builtin; refine Hid.out ?_)
                unfold Hid
                refine wpList_append_el (Rep.row rFoot) w6 rfl (.tmp 61) (.tmp 72) 59 29 i1 (.slice none 0 0) 24 rfl Tryd.underlying59 hi hz0 hz1 hz2 rfl (by decide) false w.heap.size _ _ _ HO6.out rfl [.slice A6 ([(⟨a, z, h⟩ : DFoot)] ++ r).length c6] _ _ HRD6.out HLTT.out (fun h => by cases h) rfl (fun u hu => by simp at hu; subst hu; rfl) hDl (by omega) HBE6.out.size ?_
                intro v7 w7 hown7 hb7 hkeep7 hmv7
                have HO7 : Hid (OwnFF w.heap.size w7 v7 (D ++ consF a z h (R3.take (i + 1)))) := by
                  unfold Hid
                  rw [HTK.out, ← List.append_assoc]
                  exact hown7.mono (fun p hp => hp.elim id (fun hq => by have := HWB5.out; have := hq.1.resolve_right (fun h => h); omega))
                have HAP7 := Lib.hid (HAP5.out.grow HKP6.out.size hmv7)
                have HKP7 := Lib.hid (HKP6.out.grow HAP5.out hb7.size (fun q h1 h2 => (hkeep7 q h1 h2).1))
                have HBE7 := Lib.hid (HBE6.out.trans hb7)
                clear hown7 hb7 hkeep7 hmv7
                go_wp2
                go_roundw
                case rel => exact ⟨i + 1, by omega, by go_num, HO7.out, HAP7.out, HKP7.out, HBE7.out⟩
                case measure => simp [intOf]; omega
              · obtain rfl : i = R3.length := by omega
                rw [List.take_length, ← HHS.out] at HO5
                go_wp2
                go_roundw
                case rel => exact ⟨h + 1, by omega, by go_num, HO5.out, HAP5.out, HKP5.out, HBE5.out⟩
                case measure => simp [intOf]; omega
          · obtain rfl : h = z := by omega
            rw [← HSTEP.out] at HO4
            go_wp2
            go_roundw
            case rel => exact ⟨h + 1, by omega, by omega, by go_num, HO4.out, HBE4.out, by have := HKP4.out.size; omega⟩
            case measure => simp [intOf]; omega
theorem spec5_any : ∀ d a : Nat, a + d ≤ 4 → ∀ w, Calls Tryd.prog 38 #[.int .i64 ((a + d : Nat) : Int), .int .i64 (a : Int)] w (FeetPost (feetD d a) w)
  | 0, a, _, w => spec5_zero _ _ w (by omega)
  | 1, a, h, w => by
    rw [feetD_end0]
    refine spec5_step 0 a (by omega) (fun w => ?_) (fun h => by omega) w
    exact spec5_zero _ _ w (by omega)
  | d + 2, a, h, w => by
    rw [feetD_end]
    have hm : min (d + 1) 1 + 2 = 3 := by omega
    have := spec5_step (d + 1) a (by omega) (fun w => ?_) (fun _ w => ?_) w
    · rw [hm] at this; exact this
    · have := spec5_any (d + 1) (a + 1) (by omega) w
      rw [show a + 1 + (d + 1) = a + (d + 1) + 1 by omega] at this
      exact this
    · have := spec5_any d (a + 2) (by omega) w
      rw [show a + 2 + d = a + (d + 1) + 1 by omega] at this
      exact this
end Go.Proofs.YtifmcbhgoncgjaaDoor
