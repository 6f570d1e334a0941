/- The model's FootingsFor: what it answers. -/
import Derived.Test.YtifmcbhgoncgjaaDoorSf6
import Derived.Test.YtifmcbhgoncgjaaDoorSf2
import Derived.BigQuiet
namespace Go.Proofs.YtifmcbhgoncgjaaDoor
open Go.RowKit
set_option linter.unusedVariables false
set_option linter.unusedSimpArgs false

theorem ints_differ {l m : List Int} {k : Nat} {x y : Int} (h1 : l[k]? = some x) (h2 : m[k]? = some y) (h : ¬ x = y) : ¬ l = m := fun e => by
  subst e
  rw [h1] at h2
  exact h (Option.some.inj h2)
theorem list_same {α : Type} {l m : List α} (hl : l.length = m.length) (h : ∀ k, k < l.length → l[k]? = m[k]?) : l = m := by
  apply List.ext_getElem?
  intro k
  by_cases hk : k < l.length
  · exact h k hk
  · rw [List.getElem?_eq_none (by omega), List.getElem?_eq_none (by omega)]
set_option maxHeartbeats 1000000 in
theorem specSame_any (v u : Value) (l m : List Int) (F G : Addr → Prop) (w : World) (hv : RowRd Rep.int false w v l F) (hu : RowRd Rep.int false w u m G) :
    Calls Tryd.prog 32 #[v, u] w fun e w' => e = .returned (.bool (decide (l = m))) ∧ Below w.heap.size w w' := by
  obtain ⟨A, cap, rfl⟩ := hv.form
  obtain ⟨A2, cap2, rfl⟩ := hu.form
  have hmx := hv.max
  have hmy := hu.max
  have HV := Lib.hid hv
  have HU := Lib.hid hu
  clear hv hu
  have HX : Hid (∀ k, k < l.length → ∃ x, l[k]? = some x) := fun k hk => ⟨_, List.getElem?_eq_getElem hk⟩
  have HY : Hid (∀ k, k < m.length → ∃ x, m[k]? = some x) := fun k hk => ⟨_, List.getElem?_eq_getElem hk⟩
  have HD : Hid (∀ (k : Nat) (x y : Int), l[k]? = some x → m[k]? = some y → ¬ x = y → ¬ l = m) := fun k x y h1 h2 h => ints_differ h1 h2 h
  have HL : Hid (¬ l.length = m.length → ¬ l = m) := fun h e => h (by rw [e])
  have HALL : Hid (l.length = m.length → (∀ k, k < l.length → l[k]? = m[k]?) → l = m) := list_same
  have HR : Hid ((l = m → decide (l = m) = true) ∧ (¬ l = m → decide (l = m) = false)) := ⟨fun h => decide_eq_true h, fun h => decide_eq_false h⟩
  generalize decide (l = m) = r at *
  generalize hln : l.length = n at *
  generalize hlm : m.length = n2 at *
  clear hln hlm
  go_enter Tryd.func32, Tryd.ntmps32
  by_cases hN : n = n2
  case neg =>
    have hN2 : ¬ (n : Int) = (n2 : Int) := by omega
    have HF := Lib.hid (HR.out.2 (HL.out hN))
    go_wp2
    go_ret
    exact ⟨ret_bool HF.out.symm, Below.refl _ _⟩
  subst hN
  go_wp2
  go_loopw [5] (fun i wr => ∃ (k : Nat), k ≤ n ∧ i = .int .i64 k ∧ Hid (∀ j, j < k → l[j]? = m[j]?) ∧ Below w.heap.size w wr) (fun i _ => n - (intOf i).toNat)
  case atStart => exact ⟨0, by omega, rfl, fun j hj => by omega, Below.refl _ _⟩
  case round =>
    obtain ⟨k, hk, rfl, hall, hbe⟩ := hrel
    have HBE := Lib.hid hbe
    clear hbe
    by_cases hkl : k < n
    · obtain ⟨x, hx⟩ := HX.out k hkl
      obtain ⟨y, hy⟩ := HY.out k hkl
      obtain ⟨g, off, xs, Fk, rfl, _, hrx, _, hcx⟩ := (HV.out.kept HBE.out).get hx
      obtain ⟨g2, off2, ys, Gk, rfl, _, hry, _, hcy⟩ := (HU.out.kept HBE.out).get hy
      obtain ⟨rfl, _⟩ := id hrx
      obtain ⟨rfl, _⟩ := id hry
      have c0 := hcx 0 _ rfl
      have d0 := hcy 0 _ rfl
      simp only [show Rep.int.size = 1 from rfl, Nat.mul_one, Nat.add_zero] at c0 d0
      have HDK := Lib.hid (HD.out k x y hx hy)
      have HEQ : Hid (x = y → ∀ j, j < k + 1 → l[j]? = m[j]?) := fun e j hj => by
        by_cases hjk : j = k
        · subst hjk; rw [hx, hy, e]
        · exact hall.out j (by omega)
      clear hcx hcy hrx hry hx hy
      by_cases hxy : x = y
      · have HE2 := Lib.hid (HEQ.out hxy)
        subst hxy
        go_wp2
        go_quiet (fail)
        go_wp2
        go_roundw
        case rel => exact ⟨k + 1, by omega, by go_num, HE2, ⟨HBE.out.os, HBE.out.tape, HBE.out.output, HBE.out.size, HBE.out.block⟩⟩
        case measure => simp [intOf]; omega
      · have HF := Lib.hid (HR.out.2 (HDK.out hxy))
        go_wp2
        go_quiet (fail)
        go_wp2
        go_ret
        exact ⟨ret_bool HF.out.symm, ⟨HBE.out.os, HBE.out.tape, HBE.out.output, HBE.out.size, HBE.out.block⟩⟩
    · obtain rfl : k = n := by omega
      have HF := Lib.hid (HR.out.1 (HALL.out (by trivial) (fun j hj => hall.out j hj)))
      go_wp2
      go_ret
      exact ⟨ret_bool HF.out.symm, HBE.out⟩
def footFor (s : List Int) : List DFooting := (footAll s.length).filter fun f => decide (strL f = s)
def forTo (s : List Int) (k : Nat) : List DFooting := ((footAll s.length).take k).filter fun f => decide (strL f = s)
theorem forTo_yes {s : List Int} {k : Nat} {f : DFooting} (h : (footAll s.length)[k]? = some f) (hs : decide (strL f = s) = true) : forTo s (k + 1) = forTo s k ++ [f] := by
  unfold forTo; rw [take_succ_of h, List.filter_append]; simp at hs; simp [hs]
theorem forTo_no {s : List Int} {k : Nat} {f : DFooting} (h : (footAll s.length)[k]? = some f) (hs : decide (strL f = s) = false) : forTo s (k + 1) = forTo s k := by
  unfold forTo; rw [take_succ_of h, List.filter_append]; simp at hs; simp [hs]
theorem forTo_len (s : List Int) (k : Nat) : (forTo s k).length ≤ (footAll s.length).length := by
  unfold forTo
  exact Nat.le_trans (List.length_filter_le _ _) (by rw [List.length_take]; omega)
theorem footAll_len (n : Int) : (footAll n).length ≤ 176 := by
  unfold footAll
  split
  · rename_i h
    have h1 : n.toNat ≤ 4 := by omega
    rw [← footTo_all]
    have := footTo_len h1 (feetD n.toNat 0).length (Nat.le_refl _)
    rw [feetD_len] at this ⊢
    have := feetN_le h1
    omega
  · simp
theorem footAll_row {n : Int} {f : DFooting} (h : f ∈ footAll n) : f.Feet.length ≤ 4 := by
  unfold footAll at h
  split at h
  · unfold footL at h
    obtain ⟨r, hr, hf⟩ := List.mem_flatMap.1 h
    have := feetD_row _ _ r hr
    unfold footR at hf
    obtain ⟨m, _, rfl⟩ := List.mem_map.1 hf
    simp only
    omega
  · simp at h
set_option maxHeartbeats 4000000 in
theorem specFFor_any (v : Value) (s : List Int) (F : Addr → Prop) (w : World) (hv : RowRd Rep.int false w v s F) :
    Calls Tryd.prog 8 #[v] w (OwnPost rFooting (footFor s) w) := by
  obtain ⟨A, cap, rfl⟩ := hv.form
  have hmx := hv.max
  have HV := Lib.hid hv
  clear hv
  have HF : Hid (forTo s (footAll s.length).length = footFor s) := by unfold Hid forTo footFor; rw [List.take_length]
  have H0 : Hid (forTo s 0 = []) := by unfold Hid forTo; simp
  have HYES : Hid (∀ (k : Nat) (f : DFooting), (footAll s.length)[k]? = some f → decide (strL f = s) = true → forTo s (k + 1) = forTo s k ++ [f]) := fun k f h1 h2 => forTo_yes h1 h2
  have HNO : Hid (∀ (k : Nat) (f : DFooting), (footAll s.length)[k]? = some f → decide (strL f = s) = false → forTo s (k + 1) = forTo s k) := fun k f h1 h2 => forTo_no h1 h2
  have HLN : Hid (∀ k, (forTo s k).length ≤ 176) := fun k => Nat.le_trans (forTo_len s k) (footAll_len _)
  have HRW : Hid (∀ f ∈ footAll s.length, f.Feet.length ≤ 4) := fun f hf => footAll_row hf
  have HAL : Hid ((footAll s.length).length ≤ 176) := footAll_len _
  have hal := HAL.out
  have HC := Lib.hid (specFOf_any (s.length : Int))
  obtain ⟨i1, hi, hz0, hz1, hz2⟩ := info_parts Tryd.infoFt
  generalize footFor s = L at *
  generalize footAll (s.length : Int) = R at *
  have HX : Hid (∀ k, k < R.length → ∃ r, R[k]? = some r) := fun k hk => ⟨_, List.getElem?_eq_getElem hk⟩
  go_enter Tryd.func8, Tryd.ntmps8
  go_wp2_with fail
  refine (HC.out _).mono ?_
  rintro e w3 ⟨u3, rfl, hrow3, hb3⟩
  obtain ⟨A3, cap3, rfl⟩ := hrow3.form
  have HO3 : Hid (OwnRd rFooting 31 true w.heap.size w3 (.slice (some ⟨w.heap.size, 0, none⟩) 0 0) [] (fun _ => False)) := (OwnRd.empty w (Nat.le_refl _) _).kept hb3
  have hs1 : (w.alloc (.cells #[] 31)).heap.size = w.heap.size + 1 := by simp
  have hsz3 := hb3.size
  have HB3 : Hid (Below w.heap.size w w3) := ((Below.refl _ _).alloc (Nat.le_refl _) _).trans (hb3.mono (by simp))
  have htt := hrow3.tight
  rw [hs1] at htt hsz3
  obtain ⟨A', cap', Fk, hf3, _, hel⟩ := htt
  cases hf3
  have HEL := Lib.hid hel
  clear hrow3 hb3 hs1 hel
  generalize hs1 : w.heap.size + 1 = s1 at *
  have HAP3 : Hid (Apart (.slice (some ⟨w.heap.size, 0, none⟩) 0 0) s1 w3.heap.size) := fun k hk => by simp [Value.ownBlock] at hk; omega
  have hws : w.heap.size < s1 := by omega
  clear hs1
  go_wp2
  go_loopw [3, 5] (fun v i w4 => ∃ (k : Nat), k ≤ R.length ∧ i = .int .i64 k ∧ OwnRd rFooting 31 true w.heap.size w4 v (forTo s k) (fun p => ∃ j, j < k ∧ j < R.length ∧ Fk j p) ∧ Apart v s1 w3.heap.size ∧ KeepB s1 w3.heap.size w3 w4 ∧ Below w.heap.size w w4) (fun _ i _ => R.length - (intOf i).toNat)
  case atStart => exact ⟨0, by omega, rfl, by rw [H0.out]; exact HO3.out.mono (fun p h => h.elim), HAP3.out, KeepB.refl (Nat.le_refl _), HB3.out⟩
  case round =>
    obtain ⟨k, hk, rfl, hown4, hap4, hkp4, hbe4⟩ := hrel
    have HO4 := Lib.hid hown4
    have HAP4 := Lib.hid hap4
    have HKP4 := Lib.hid hkp4
    have HBE4 := Lib.hid hbe4
    have hbs4 := hkp4.size
    clear hown4 hap4 hkp4 hbe4
    by_cases hkl : k < R.length
    · obtain ⟨f, hf⟩ := HX.out k hkl
      have hfl : f.Feet.length ≤ 4 := HRW.out f (List.mem_of_getElem? hf)
      have HY := Lib.hid (HYES.out k f hf)
      have HN := Lib.hid (HNO.out k f hf)
      obtain ⟨g, off, xs, hA, hrd, hFk, hc, hdj⟩ := HEL.out k f hf
      subst hA
      obtain ⟨v1, rfl, i0, hq, i2⟩ := rFooting_rd hrd
      obtain ⟨A1, cap1, rfl⟩ := hq.form
      have HDJ := Lib.hid ((hdj (by trivial)).2)
      have HFK := Lib.hid hFk
      have HCELL : Hid (∀ W, KeepB s1 w3.heap.size w3 W → W.cell? ⟨g, off + k * 3, none⟩ = some (.int .i64 f.Syllables) ∧ W.cell? ⟨g, off + k * 3 + 1, none⟩ = some (.slice A1 f.Feet.length cap1) ∧ W.cell? ⟨g, off + k * 3 + 2, none⟩ = some (.int .i64 f.Main)) := fun W hW => by
        have st : ∀ (j : Nat) (u : Value), [Value.int .i64 f.Syllables, .slice A1 f.Feet.length cap1, .int .i64 f.Main][j]? = some u → W.cell? ⟨g, off + k * 3 + j, none⟩ = some u := fun j u hj => by
          obtain ⟨q1, q2, _⟩ := hc j u hj
          exact (World.cell?_of_block (w := w3) (hW.same _ q2.1 q2.2)).trans q1
        exact ⟨st 0 _ rfl, st 1 _ rfl, st 2 _ rfl⟩
      have HRDW : Hid (∀ W, KeepB s1 w3.heap.size w3 W → rFooting.rd true W [.int .i64 f.Syllables, .slice A1 f.Feet.length cap1, .int .i64 f.Main] f (Fk k)) := fun W hW =>
        rFooting.frame hrd fun a ha => ⟨World.cell?_of_block (w := w3) (hW.same _ (hFk a ha).1 (hFk a ha).2), World.frozen?_of_block (w := w3) (hW.same _ (hFk a ha).1 (hFk a ha).2)⟩
      obtain ⟨c0, c1, c2⟩ := HCELL.out _ HKP4.out
      have HSTR : Hid (Calls Tryd.prog 23 #[.agg #[.int .i64 f.Syllables, .slice A1 f.Feet.length cap1, .int .i64 f.Main]] wr (OwnPost Rep.int (strL f) wr)) := by
        obtain ⟨v1', hv1', _, hq', _⟩ := rFooting_rd (rFooting.weak (HRDW.out _ HKP4.out))
        cases hv1'
        exact specStr_any f _ (Fk k) wr (by omega) i0 i2 hq'
      have HTL := HLN.out k
      clear hrd hq hc hdj hFk hf
      generalize f.Syllables = fS at *
      generalize f.Main = fM at *
      go_wp2_with fail
      refine HSTR.out.mono ?_
      rintro e w5 ⟨u5', rfl, hrow5, hb5⟩
      have HKP5 : Hid (KeepB s1 w3.heap.size w3 w5) := HKP4.out.below hb5
      have HO5 := Lib.hid (HO4.out.kept hb5)
      have HBE5 := Lib.hid (HBE4.out.trans (hb5.mono HBE4.out.size))
      have HSM := Lib.hid (specSame_any u5' (.slice A s.length cap) (strL f) s _ _ w5 hrow5.weak (HV.out.kept HBE5.out))
      clear hrow5 hb5
      go_wp2_with fail
      refine HSM.out.mono ?_
      rintro e w6 ⟨rfl, hb6⟩
      have HKP6 : Hid (KeepB s1 w3.heap.size w3 w6) := HKP5.out.below hb6
      have HO6 := Lib.hid (HO5.out.kept hb6)
      have HBE6 := Lib.hid (HBE5.out.trans (hb6.mono HBE5.out.size))
      clear hb6
      generalize hdec : decide (strL f = s) = b at *
      clear hdec c0 c1 c2
      cases b with
      | false =>
        have HE := Lib.hid (HN.out rfl)
        go_wp2
        go_roundw
        case rel => exact ⟨k + 1, by omega, by go_num, by rw [HE.out]; exact HO6.out.mono (fun p ⟨j, h1, h2⟩ => ⟨j, by omega, h2⟩), HAP4.out, HKP6.out, HBE6.out⟩
        case measure => simp [intOf]; omega
      | true =>
        have HE := Lib.hid (HY.out rfl)
        obtain ⟨c0, c1, c2⟩ := HCELL.out _ HKP6.out
        have HRD6 := Lib.hid (HRDW.out _ HKP6.out)
        have HMV := Lib.hid (apart_move HAP4.out HFK.out HKP6.out.size)
        have HDS : Hid (∀ p : Addr, Fk k p → ¬ (∃ j, j < k ∧ j < R.length ∧ Fk j p)) := fun p hp ⟨j, h1, h2, h3⟩ => HDJ.out j h2 (by omega) p hp h3
        have hTL2 : (forTo s k).length ≤ 1000000 := by omega
        go_wp2_with (at_builtin; refine Hid.out ?_)
        unfold Hid
        refine wpList_append_el rFooting w6 rfl (.tmp 23) (.tmp 28) 26 31 i1 (.agg #[.int .i64 0, .slice none 0 0, .int .i64 0]) 40 rfl Tryd.underlying26 hi hz0 hz1 hz2 rfl (by decide) true w.heap.size _ _ _ HO6.out rfl [.int .i64 fS, .slice A1 f.Feet.length cap1, .int .i64 fM] f _ HRD6.out HMV.out (fun _ => HDS.out) rfl (fun u hu => by simp at hu; rcases hu with rfl | rfl | rfl <;> rfl) hTL2 (by omega) HBE6.out.size ?_
        intro v7 w7 hown7 hb7 hkeep7 hmv7
        have HO7 : Hid (OwnRd rFooting 31 true w.heap.size w7 v7 (forTo s (k + 1)) (fun p => ∃ j, j < k + 1 ∧ j < R.length ∧ Fk j p)) := by
          unfold Hid
          rw [HE.out]
          exact hown7.mono (fun p hp => hp.elim (fun ⟨j, h1, h2⟩ => ⟨j, by omega, h2⟩) (fun h => ⟨k, by omega, hkl, h⟩))
        have HAP7 := Lib.hid (HAP4.out.grow HKP6.out.size hmv7)
        have HKP7 := Lib.hid (HKP6.out.grow HAP4.out hb7.size (fun q h1 h2 => (hkeep7 q h1 h2).1))
        have HBE7 := Lib.hid (HBE6.out.trans hb7)
        clear hown7 hb7 hkeep7 hmv7 c0 c1 c2
        go_wp2
        go_roundw
        case rel => exact ⟨k + 1, by omega, by go_num, HO7.out, HAP7.out, HKP7.out, HBE7.out⟩
        case measure => simp [intOf]; omega
    · obtain rfl : k = R.length := by omega
      have hTL := HLN.out R.length
      rw [HF.out] at HO4 hTL
      have HFIN : Hid (RowRd rFooting true wr u3 L (fun p => w.heap.size ≤ p.block)) := (HO4.out.row (by omega)).mono (fun p hp => hp.elim id (fun ⟨j, _, h2, h3⟩ => by
        obtain ⟨x, hx⟩ := HX.out j h2
        obtain ⟨_, _, _, _, _, hFk, _⟩ := HEL.out j x hx
        have := (hFk p h3).1
        omega))
      go_wp2
      go_ret
      exact ⟨_, rfl, HFIN.out, HBE4.out⟩
end Go.Proofs.YtifmcbhgoncgjaaDoor
