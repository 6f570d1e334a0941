/- The model's FootingsOf: what it answers. -/
import Derived.Test.YtifmcbhgoncgjaaDoorSf5
import Derived.Test.YtifmcbhgoncgjaaDoorSf1
namespace Go.Proofs.YtifmcbhgoncgjaaDoor
open Go.RowKit
set_option linter.unusedVariables false
set_option linter.unusedSimpArgs false

/-- The footings of n syllables. -/
def footR (n : Nat) (r : List DFoot) (k : Nat) : List DFooting := (List.range k).map fun (m : Nat) => (⟨(n : Int), r, (m : Int)⟩ : DFooting)
def footL (n : Nat) : List DFooting := (feetD n 0).flatMap fun r => footR n r r.length
def footTo (n : Nat) (k : Nat) : List DFooting := ((feetD n 0).take k).flatMap fun r => footR n r r.length
def footAll (n : Int) : List DFooting := if 1 ≤ n ∧ n ≤ 4 then footL n.toNat else []
theorem footR_step (n : Nat) (r : List DFoot) (k : Nat) : footR n r (k + 1) = footR n r k ++ [⟨(n : Int), r, (k : Int)⟩] := by unfold footR; rw [List.range_succ, List.map_append]; rfl
theorem footTo_step (n k : Nat) {r : List DFoot} (h : (feetD n 0)[k]? = some r) : footTo n (k + 1) = footTo n k ++ footR n r r.length := by
  unfold footTo; rw [take_succ_of h, List.flatMap_append]; simp
theorem footTo_all (n : Nat) : footTo n (feetD n 0).length = footL n := by unfold footTo footL; rw [List.take_length]
theorem footTo_len {n : Nat} (hn : n ≤ 4) : ∀ k, k ≤ (feetD n 0).length → (footTo n k).length ≤ k * 4
  | 0, _ => by simp [footTo]
  | k + 1, h => by
    have hk : k < (feetD n 0).length := by omega
    have hr := List.getElem?_eq_getElem hk
    rw [footTo_step n k hr, List.length_append]
    have h1 := footTo_len hn k (by omega)
    have h2 : (footR n (feetD n 0)[k] (feetD n 0)[k].length).length ≤ 4 := by
      unfold footR
      rw [List.length_map, List.length_range]
      have := feetD_row n 0 _ (List.getElem_mem hk)
      omega
    omega
theorem Tryd.infoFt : (Tryd.prog.info? 31).map (fun i => (i.zero, i.size, i.bytes)) = some (some (.agg #[.int .i64 0, .slice none 0 0, .int .i64 0]), 3, 40) := by kernel_rfl
def OwnFt (B : Nat) (w : World) (v : Value) (l : List DFooting) : Prop := OwnRd rFooting 31 true B w v l (fun p => B ≤ p.block ∧ p.block < w.heap.size)
set_option maxHeartbeats 4000000 in
theorem specFOf_any (n : Int) (w : World) : Calls Tryd.prog 15 #[.int .i64 n] w (OwnPost rFooting (footAll n) w) := by
  by_cases hn : 1 ≤ n ∧ n ≤ 4
  case neg =>
    have HE : Hid (footAll n = []) := if_neg hn
    go_enter Tryd.func15, Tryd.ntmps15
    go_wp2_with fail
    refine (specIn3_any n 1 4 _).mono ?_
    rintro e w1 ⟨rfl, rfl⟩
    have hb : (decide (1 ≤ n) && decide (n ≤ 4)) = false := by
      by_cases h1 : 1 ≤ n
      · rw [decide_eq_false (p := n ≤ 4) (fun h2 => hn ⟨h1, h2⟩), Bool.and_false]
      · rw [decide_eq_false h1, Bool.false_and]
    rw [hb]
    go_wp2
    go_ret
    exact ⟨_, rfl, by rw [HE.out]; exact RowRd.zero _ _ _ _ _, (Below.refl _ _).alloc (Nat.le_refl _) _⟩
  obtain ⟨N, rfl⟩ := Int.eq_ofNat_of_zero_le (show 0 ≤ n by omega)
  have hN : 1 ≤ N ∧ N ≤ 4 := by omega
  have HE : Hid (footAll (N : Int) = footTo N (feetD N 0).length) := by unfold Hid; rw [footTo_all]; exact if_pos hn
  have HC : Hid (∀ w, Calls Tryd.prog 38 #[.int .i64 (N : Int), .int .i64 0] w (FeetPost (feetD N 0) w)) := fun w => by
    have := spec5_any N 0 (by omega) w
    rw [Nat.zero_add] at this
    exact this
  have HLEN : Hid (∀ k, k ≤ (feetD N 0).length → (footTo N k).length ≤ k * 4) := footTo_len hN.2
  have HST : Hid (∀ (k : Nat) (r : List DFoot), (feetD N 0)[k]? = some r → footTo N (k + 1) = footTo N k ++ footR N r r.length) := fun k r h => footTo_step N k h
  have HT0 : Hid (footTo N 0 = []) := by unfold Hid footTo; simp
  have HRW : Hid (∀ r ∈ feetD N 0, r.length ≤ 4) := fun r hr => by have := feetD_row N 0 r hr; omega
  have HFL : Hid ((feetD N 0).length ≤ 44) := by unfold Hid; rw [feetD_len]; exact feetN_le hN.2
  have hfl := HFL.out
  obtain ⟨i1, hi, hz0, hz1, hz2⟩ := info_parts Tryd.infoFt
  obtain ⟨i3, hi3, qz3, qz4, qz5⟩ := info_parts Tryd.infoFo
  generalize footAll (N : Int) = L at *
  generalize feetD N 0 = R at *
  have HX : Hid (∀ k, k < R.length → ∃ r, R[k]? = some r) := fun k hk => ⟨_, List.getElem?_eq_getElem hk⟩
  go_enter Tryd.func15, Tryd.ntmps15
  go_wp2_with fail
  refine (specIn3_any (N : Int) 1 4 _).mono ?_
  rintro e w1 ⟨rfl, rfl⟩
  have hb : (decide (1 ≤ (N : Int)) && decide ((N : Int) ≤ 4)) = true := by rw [decide_eq_true (by omega), decide_eq_true (by omega)]; rfl
  rw [hb]
  go_wp2_with fail
  refine (HC.out _).mono ?_
  rintro e w3 ⟨u3, rfl, hrow3, hb3⟩
  obtain ⟨A3, cap3, rfl⟩ := hrow3.form
  have HO3 : Hid (OwnFt w.heap.size w3 (.slice (some ⟨w.heap.size, 0, none⟩) 0 0) []) := (OwnRd.empty w (Nat.le_refl _) _).kept hb3
  have hs1 : (w.alloc (.cells #[] 31)).heap.size = w.heap.size + 1 := by simp
  have HRW3 := Lib.hid hrow3.tight
  have HB3 : Hid (Below w.heap.size w w3) := ((Below.refl _ _).alloc (Nat.le_refl _) _).trans (hb3.mono (by simp))
  have hsz3 := hb3.size
  rw [hs1] at HRW3 hsz3
  clear hrow3 hb3 hs1 hb hn
  generalize hs1 : w.heap.size + 1 = s1 at *
  have HAP3 : Hid (Apart (.slice (some ⟨w.heap.size, 0, none⟩) 0 0) s1 w3.heap.size) := fun k hk => by simp [Value.ownBlock] at hk; omega
  have hws : w.heap.size < s1 := by omega
  clear hs1
  go_wp2
  go_loopw [3, 5] (fun v s w4 => ∃ (k : Nat), k ≤ R.length ∧ s = .int .i64 k ∧ OwnFt w.heap.size w4 v (footTo N k) ∧ Apart v s1 w3.heap.size ∧ KeepB s1 w3.heap.size w3 w4 ∧ Below w.heap.size w w4) (fun _ s _ => R.length - (intOf s).toNat)
  case atStart => exact ⟨0, by omega, rfl, by rw [HT0.out]; exact HO3.out, HAP3.out, KeepB.refl (Nat.le_refl _), HB3.out⟩
  case round =>
    obtain ⟨k, hk, rfl, hown4, hap4, hkp4, hbe4⟩ := hrel
    have HO4 := Lib.hid hown4
    have HAP4 := Lib.hid hap4
    have HKP4 := Lib.hid hkp4
    have HBE4 := Lib.hid hbe4
    clear hown4 hap4 hkp4 hbe4
    by_cases hkl : k < R.length
    · obtain ⟨r, hr⟩ := HX.out k hkl
      have hrl : r.length ≤ 4 := HRW.out r (List.mem_of_getElem? hr)
      have hTL : (footTo N k).length ≤ 1000 := by have := HLEN.out k hk; omega
      have HSK := Lib.hid (HST.out k r hr)
      have HGET : Hid (∀ W, KeepB s1 w3.heap.size w3 W → ∃ g off Ar cr Fk, A3 = some ⟨g, off, none⟩ ∧ RowRd rFoot false W (.slice Ar r.length cr) r Fk ∧ W.cell? ⟨g, off + k, none⟩ = some (.slice Ar r.length cr)) := fun W hW => by
        obtain ⟨g, off, xs, Fk, hA, _, hrd, _, hc⟩ := (HRW3.out.keepB (fun a ha => ha) hW).get hr
        obtain ⟨vr, rfl, hrr⟩ := id hrd
        obtain ⟨Ar, cr, rfl⟩ := hrr.form
        have c0 := hc 0 _ rfl
        rw [show (Rep.row rFoot).size = 1 from rfl, Nat.mul_one, Nat.add_zero] at c0
        exact ⟨g, off, Ar, cr, Fk, hA, hrr, c0⟩
      generalize footTo N k = D at *
      clear hr
      go_wp2
      go_loopw [3, 6] (fun v s w5 => ∃ (i : Nat), i ≤ r.length ∧ s = .int .i64 i ∧ OwnFt w.heap.size w5 v (D ++ footR N r i) ∧ Apart v s1 w3.heap.size ∧ KeepB s1 w3.heap.size w3 w5 ∧ Below w.heap.size w w5) (fun _ s _ => r.length - (intOf s).toNat)
      case atStart => exact ⟨0, by omega, rfl, by simpa [footR] using HO4.out, HAP4.out, HKP4.out, HBE4.out⟩
      case round =>
        obtain ⟨i, hi', rfl, hown5, hap5, hkp5, hbe5⟩ := hrel
        have HO5 := Lib.hid hown5
        have HAP5 := Lib.hid hap5
        have HKP5 := Lib.hid hkp5
        have HBE5 := Lib.hid hbe5
        have hbs5 := hkp5.size
        obtain ⟨g, off, Ar, cr, Fk, rfl, hrr, c0⟩ := HGET.out _ hkp5
        clear hown5 hap5 hkp5 hbe5
        by_cases hil : i < r.length
        · have c0' := fun o => (((Below.refl wr.heap.size wr).alloc (Nat.le_refl _) o).cell (block_lt_of_cell c0)).trans c0
          have hDl : (D ++ footR N r i).length ≤ 1000000 := by rw [List.length_append]; unfold footR; rw [List.length_map, List.length_range]; omega
          have HRR := Lib.hid (hrr.kept (w' := wr.alloc (.cells #[] 53)) ((Below.refl _ _).alloc (Nat.le_refl _) _))
          have HEM : Hid (OwnRd rFoot 53 true wr.heap.size (wr.alloc (.cells #[] 53)) (.slice (some ⟨wr.heap.size, 0, none⟩) 0 0) ([] : List DFoot) (fun _ => False)) := OwnRd.empty wr (Nat.le_refl _) _
          have HWB5 : Hid (w.heap.size ≤ wr.heap.size) := HBE5.out.size
          clear hrr
          go_wp2_with (at_builtin; refine Hid.out ?_)
          unfold Hid
          refine wpList_append_row rFoot flatFoot (wr.alloc (.cells #[] 53)) rfl (.tmp 31) (.tmp 35) 29 53 i3 (.agg #[.int .i64 0, .int .i64 0, .int .i64 0]) 24 rfl Tryd.underlying29 hi3 qz3 qz4 qz5 rfl (by decide) true false wr.heap.size _ _ _ HEM.out rfl Ar r.length cr r Fk HRR.out rfl (by simp) (by omega) (by omega) (by simp) ?_
          intro v6 w6 hown6 hb6 hkeep6
          rw [List.nil_append] at hown6
          have hrow6 := (hown6.row (by omega)).tight
          obtain ⟨A6, c6, rfl⟩ := hrow6.form
          have hb56 : Below wr.heap.size wr w6 := ((Below.refl _ _).alloc (Nat.le_refl _) _).trans hb6
          have HO6 := Lib.hid (OwnRd.kept HO5.out hb56)
          have HKP6 : Hid (KeepB s1 w3.heap.size w3 w6) := HKP5.out.below hb56
          have HBE6 := Lib.hid (HBE5.out.trans (hb56.mono HBE5.out.size))
          have HRD6 : Hid (rFooting.rd true w6 [.int .i64 (N : Int), .slice A6 r.length c6, .int .i64 (i : Int)] ⟨(N : Int), r, (i : Int)⟩ (fun p => (wr.heap.size ≤ p.block ∨ False) ∧ p.block < w6.heap.size)) := rFooting_mk (x := ⟨(N : Int), r, (i : Int)⟩) (by unfold I64; simp only; omega) hrow6 (by unfold I64; simp only; omega)
          have HLTT : Hid (∀ p : Addr, ((wr.heap.size ≤ p.block ∨ False) ∧ p.block < w6.heap.size) → p.block < w6.heap.size ∧ u3.ownBlock ≠ some p.block) := fun p hp => by
            refine ⟨hp.2, fun e => ?_⟩
            have := (OwnRd.lt HO5.out _ e).2
            have := hp.1.resolve_right (fun h => h)
            omega
          have HDS : Hid (∀ p : Addr, ((wr.heap.size ≤ p.block ∨ False) ∧ p.block < w6.heap.size) → ¬ (w.heap.size ≤ p.block ∧ p.block < wr.heap.size)) := fun p hp h => by
            have := hp.1.resolve_right (fun h => h)
            omega
          have hsz6 := hb56.size
          clear hown6 hb6 hkeep6 hrow6 hb56
          go_wp2_with (at_builtin; refine Hid.out ?_)
          unfold Hid
          refine wpList_append_el rFooting w6 rfl (.tmp 29) (.tmp 39) 26 31 i1 (.agg #[.int .i64 0, .slice none 0 0, .int .i64 0]) 40 rfl Tryd.underlying26 hi hz0 hz1 hz2 rfl (by decide) true w.heap.size _ _ _ HO6.out rfl [.int .i64 (N : Int), .slice A6 r.length c6, .int .i64 (i : Int)] _ _ HRD6.out HLTT.out (fun _ => HDS.out) rfl (fun u hu => by simp at hu; rcases hu with rfl | rfl | rfl <;> rfl) hDl (by omega) HBE6.out.size ?_
          intro v7 w7 hown7 hb7 hkeep7 hmv7
          have HO7 : Hid (OwnFt w.heap.size w7 v7 (D ++ footR N r (i + 1))) := by
            unfold Hid
            rw [footR_step, ← List.append_assoc]
            have h7 := hb7.size
            exact hown7.mono (fun p hp => by
              rcases hp with hp | hp
              · exact ⟨hp.1, by omega⟩
              · have := HWB5.out; have := hp.1.resolve_right (fun h => h); exact ⟨by omega, by omega⟩)
          have HAP7 := Lib.hid (HAP5.out.grow HKP6.out.size hmv7)
          have HKP7 := Lib.hid (HKP6.out.grow HAP5.out hb7.size (fun q h1 h2 => (hkeep7 q h1 h2).1))
          have HBE7 := Lib.hid (HBE6.out.trans hb7)
          clear hown7 hb7 hkeep7 hmv7
          go_wp2
          go_roundw
          case rel => exact ⟨i + 1, by omega, by go_num, HO7.out, HAP7.out, HKP7.out, HBE7.out⟩
          case measure => simp [intOf]; omega
        · obtain rfl : i = r.length := by omega
          rw [← HSK.out] at HO5
          go_wp2
          go_roundw
          case rel => exact ⟨k + 1, by omega, by go_num, HO5.out, HAP5.out, HKP5.out, HBE5.out⟩
          case measure => simp [intOf]; omega
    · obtain rfl : k = R.length := by omega
      have hTL : (footTo N R.length).length ≤ 1000 := by have := HLEN.out R.length (Nat.le_refl _); omega
      rw [← HE.out] at HO4 hTL
      go_wp2
      go_ret
      exact ⟨_, rfl, (OwnRd.row HO4.out (by omega)).mono (fun p hp => hp.elim id (fun h => h.1)), HBE4.out⟩
end Go.Proofs.YtifmcbhgoncgjaaDoor
