/- The program's FootingsFor: what it answers. -/
import Derived.Test.YtifmcbhgoncgjaaDoorFk
import Derived.Test.YtifmcbhgoncgjaaDoorIf2f
import Derived.Test.YtifmcbhgoncgjaaDoorIf6f
import Derived.BigQuiet
import Derived.WalkMore
namespace Go.Proofs.YtifmcbhgoncgjaaDoor
open Go.RowKit
set_option linter.unusedVariables false
set_option linter.unusedSimpArgs false

theorem footAll_syl {n : Int} {f : DFooting} (h : f ∈ footAll n) : f.Syllables = n := by
  unfold footAll at h
  split at h
  · unfold footL at h
    obtain ⟨r, hr, hf⟩ := List.mem_flatMap.1 h
    unfold footR at hf
    obtain ⟨m, _, rfl⟩ := List.mem_map.1 hf
    simp only
    omega
  · simp at h
theorem footAll_str {s : List Int} {f : DFooting} (h : f ∈ footAll s.length) : (strL f).length = s.length := by
  unfold strL
  rw [if_pos (footAll_ok h), strTo_len, footAll_syl h, Int.toNat_natCast]
set_option maxHeartbeats 8000000 in
theorem implFFor_any (v : Value) (s : List Int) (F : Addr → Prop) (w : World) (hv : RowRd Rep.int false w v s F) :
    Calls Tryd.prog 7 #[v] w (OwnPost rFooting (footFor s) w) := by
  obtain ⟨A, cap, rfl⟩ := hv.form
  have hmx := hv.max
  have HV := Lib.hid hv
  clear hv
  have HF : Hid (forTo s (footAll s.length).length = footFor s) := by unfold Hid forTo footFor; rw [List.take_length]
  have H0 : Hid (forTo s 0 = []) := by unfold Hid forTo; simp
  have HYES : Hid (∀ (k : Nat) (f : DFooting), (footAll s.length)[k]? = some f → strL f = s → forTo s (k + 1) = forTo s k ++ [f]) := fun k f h1 h2 => forTo_yes h1 (decide_eq_true h2)
  have HNO : Hid (∀ (k : Nat) (f : DFooting), (footAll s.length)[k]? = some f → ¬ strL f = s → forTo s (k + 1) = forTo s k) := fun k f h1 h2 => forTo_no h1 (decide_eq_false h2)
  have HLN : Hid (∀ k, (forTo s k).length ≤ 176) := fun k => Nat.le_trans (forTo_len s k) (footAll_len _)
  have HRW : Hid (∀ f ∈ footAll s.length, f.Feet.length ≤ 4) := fun f hf => footAll_row hf
  have HSL : Hid (∀ f ∈ footAll s.length, (strL f).length = s.length) := fun f hf => footAll_str hf
  have HAL : Hid ((footAll s.length).length ≤ 176) := footAll_len _
  have HXS : Hid (∀ i, i < s.length → ∃ z, s[i]? = some z) := fun i hi => ⟨_, List.getElem?_eq_getElem hi⟩
  have hal := HAL.out
  have HC := Lib.hid (implFOf_any (s.length : Int))
  obtain ⟨i1, hi, hz0, hz1, hz2⟩ := info_parts Tryd.infoFt
  generalize footFor s = L at *
  generalize footAll (s.length : Int) = R at *
  have HX : Hid (∀ k, k < R.length → ∃ r, R[k]? = some r) := fun k hk => ⟨_, List.getElem?_eq_getElem hk⟩
  go_enter Tryd.func7, Tryd.ntmps7
  go_wp2
  go_step3
  go_wp2
  go_step3
  go_wp2_with fail
  refine (HC.out _).mono ?_
  rintro e w3 ⟨u3, rfl, hrow3, hb3⟩
  obtain ⟨A3, cap3, rfl⟩ := hrow3.form
  have HO3 : Hid (OwnRd rFooting 31 true w.heap.size w3 (.slice none 0 0) [] (fun _ => False)) := OwnRd.nil _ _
  have hsz3 := hb3.size
  have HB3 := Lib.hid hb3
  have htt := hrow3.tight
  obtain ⟨A', cap', Fk, hf3, _, hel⟩ := htt
  cases hf3
  have HEL := Lib.hid hel
  clear hrow3 hb3 hel
  have HAP3 : Hid (Apart (.slice none 0 0) w.heap.size w3.heap.size) := fun k hk => by simp [Value.ownBlock] at hk
  generalize hs1 : w.heap.size = s1 at *
  go_wp2
  go_loopw [3, 12] (fun v i w4 => ∃ (k : Nat), k ≤ R.length ∧ i = .int .i64 k ∧ OwnRd rFooting 31 true s1 w4 v (forTo s k) (fun p => ∃ j, j < k ∧ j < R.length ∧ Fk j p) ∧ Apart v s1 w3.heap.size ∧ KeepB s1 w3.heap.size w3 w4 ∧ Below s1 w w4) (fun _ i _ => R.length - (intOf i).toNat)
  case atStart => exact ⟨0, by omega, rfl, by rw [H0.out]; exact HO3.out.mono (fun p h => h.elim), HAP3.out, KeepB.refl (Nat.le_refl _), HB3.out⟩
  case round =>
    obtain ⟨k, hk, rfl, hown4, hap4, hkp4, hbe4⟩ := hrel
    have HO4 := Lib.hid hown4
    have HAP4 := Lib.hid hap4
    have HKP4 := Lib.hid hkp4
    have HBE4 := Lib.hid hbe4
    have hbs4 := hkp4.size
    clear hown4 hap4 hkp4 hbe4
    by_cases hkl : k < R.length
    · obtain ⟨f, hf⟩ := HX.out k hkl
      have hfl : f.Feet.length ≤ 4 := HRW.out f (List.mem_of_getElem? hf)
      have hsl := HSL.out f (List.mem_of_getElem? hf)
      have HY := Lib.hid (HYES.out k f hf)
      have HN := Lib.hid (HNO.out k f hf)
      obtain ⟨g, off, xs, hA, hrd, hFk, hc, hdj⟩ := HEL.out k f hf
      subst hA
      obtain ⟨v1, rfl, i0, hq, i2⟩ := rFooting_rd hrd
      obtain ⟨A1, cap1, rfl⟩ := hq.form
      have HDJ := Lib.hid ((hdj (by trivial)).2)
      have HFK := Lib.hid hFk
      have HCELL : Hid (∀ W, KeepB s1 w3.heap.size w3 W → W.cell? ⟨g, off + k * 3, none⟩ = some (.int .i64 f.Syllables) ∧ W.cell? ⟨g, off + k * 3 + 1, none⟩ = some (.slice A1 f.Feet.length cap1) ∧ W.cell? ⟨g, off + k * 3 + 2, none⟩ = some (.int .i64 f.Main)) := fun W hW => by
        have st : ∀ (j : Nat) (u : Value), [Value.int .i64 f.Syllables, .slice A1 f.Feet.length cap1, .int .i64 f.Main][j]? = some u → W.cell? ⟨g, off + k * 3 + j, none⟩ = some u := fun j u hj => by
          obtain ⟨q1, q2, _⟩ := hc j u hj
          exact (World.cell?_of_block (w := w3) (hW.same _ q2.1 q2.2)).trans q1
        exact ⟨st 0 _ rfl, st 1 _ rfl, st 2 _ rfl⟩
      have HRDW : Hid (∀ W, KeepB s1 w3.heap.size w3 W → rFooting.rd true W [.int .i64 f.Syllables, .slice A1 f.Feet.length cap1, .int .i64 f.Main] f (Fk k)) := fun W hW =>
        rFooting.frame hrd fun a ha => ⟨World.cell?_of_block (w := w3) (hW.same _ (hFk a ha).1 (hFk a ha).2), World.frozen?_of_block (w := w3) (hW.same _ (hFk a ha).1 (hFk a ha).2)⟩
      obtain ⟨c0, c1, c2⟩ := HCELL.out _ HKP4.out
      have HSTR : Hid (∀ W, Below wr.heap.size wr W → Calls Tryd.prog 12 #[.agg #[.int .i64 f.Syllables, .slice A1 f.Feet.length cap1, .int .i64 f.Main]] W (OwnPost Rep.int (strL f) W)) := fun W hW => by
        obtain ⟨v1', hv1', _, hq', _⟩ := rFooting_rd (rFooting.weak (HRDW.out _ (HKP4.out.below hW)))
        cases hv1'
        exact implStr_any f _ (Fk k) W (by omega) i0 i2 hq'
      have HTL := HLN.out k
      have HSM : Hid (strL f = s ∨ ¬ strL f = s) := Classical.em _
      have HALL : Hid ((∀ j, j < s.length → (strL f)[j]? = s[j]?) → strL f = s) := fun h => list_same hsl (fun j hj => h j (by omega))
      have HDF : Hid (∀ (j : Nat) (x y : Int), (strL f)[j]? = some x → s[j]? = some y → ¬ x = y → ¬ strL f = s) := fun j x y h1 h2 h => ints_differ h1 h2 h
      have HXF : Hid (∀ i, i < s.length → ∃ z, (strL f)[i]? = some z) := fun i hi => ⟨_, List.getElem?_eq_getElem (by omega)⟩
      clear hrd hq hc hdj hFk hf
      generalize f.Syllables = fS at *
      generalize f.Main = fM at *
      generalize hst : strL f = st at *
      clear hst
      generalize hln : s.length = n at *
      have HLN2 := Lib.hid hln
      clear hln
      go_wp2_with fail
      refine (HSTR.out _ ((Below.refl _ _).alloc (Nat.le_refl _) _)).mono ?_
      rintro e w5 ⟨u5', rfl, hrow5, hb5⟩
      obtain ⟨A5, cap5, rfl⟩ := hrow5.form
      have hb45 : Below wr.heap.size wr w5 := ((Below.refl _ _).alloc (Nat.le_refl _) _).trans (hb5.mono (by simp))
      have HIN : Hid (InC w5 wr.heap.size #[.int .i64 fS, .slice A1 f.Feet.length cap1, .int .i64 fM] 31) := (hb5.block _ (by simp)).trans (heap_alloc_new _ _)
      have HKP5 : Hid (KeepB s1 w3.heap.size w3 w5) := HKP4.out.below hb45
      have HO5 := Lib.hid (HO4.out.kept hb45)
      have HBE5 : Hid (Below s1 w w5) := HBE4.out.trans (hb45.mono (Nat.le_trans (by omega) HKP4.out.size))
      have HR5 := Lib.hid hrow5.weak
      clear hrow5 hb5 hb45 c0 c1 c2 HO4 HKP4 HBE4 HSTR
      rw [hsl]
      go_wp2
      go_loopw [19] (fun i w6 => ∃ (m : Nat), m ≤ n ∧ i = .int .i64 m ∧ Hid (∀ j, j < m → st[j]? = s[j]?) ∧ Below w5.heap.size w5 w6) (fun i _ => n - (intOf i).toNat)
      case atStart => exact ⟨0, by omega, rfl, fun j hj => by omega, Below.refl _ _⟩
      case round =>
        obtain ⟨m, hm, rfl, hall, hbe6⟩ := hrel
        have HKP6 := Lib.hid (HKP5.out.below hbe6)
        have HO6 := Lib.hid (HO5.out.kept hbe6)
        have HBE6 : Hid (Below s1 w wr) := HBE5.out.trans (hbe6.mono (Nat.le_trans (by omega) HKP5.out.size))
        have HIN6 := Lib.hid (HIN.out.kept hbe6)
        have HW56 := Lib.hid hbe6
        by_cases hmn : m < n
        · obtain ⟨x, hx⟩ := HXF.out m hmn
          obtain ⟨y, hy⟩ := HXS.out m hmn
          obtain ⟨g5, off5, xs5, Fx5, hA5, _, hrx, _, hcx⟩ := (HR5.out.kept hbe6).get hx
          obtain ⟨g2, off2, ys, Gk, hA2, _, hry, _, hcy⟩ := (HV.out.kept (by rw [hs1]; exact HBE6.out)).get hy
          subst hA5 hA2
          obtain ⟨rfl, _⟩ := id hrx
          obtain ⟨rfl, _⟩ := id hry
          have e0 := hcx 0 _ rfl
          have d0 := hcy 0 _ rfl
          simp only [show Rep.int.size = 1 from rfl, Nat.mul_one, Nat.add_zero] at e0 d0
          have HNE : Hid (¬ x = y → ¬ st = s) := HDF.out m x y hx hy
          have HEQ : Hid (x = y → ∀ j, j < m + 1 → st[j]? = s[j]?) := fun e j hj => by
            by_cases hjk : j = m
            · subst hjk; rw [hx, hy, e]
            · exact hall.out j (by omega)
          clear hcx hcy hrx hry hx hy hbe6
          by_cases hxy : x = y
          · have HE2 := Lib.hid (HEQ.out hxy)
            subst hxy
            go_wp2
            go_roundw
            case rel => exact ⟨m + 1, by omega, by go_num, HE2, HW56.out⟩
            case measure => simp [intOf]; omega
          · have HE := Lib.hid (HN.out (HNE.out hxy))
            go_wp2
            go_roundw
            case rel => exact ⟨k + 1, by omega, by go_num, by rw [HE.out]; exact HO6.out.mono (fun p ⟨j, h1, h2⟩ => ⟨j, by omega, h2⟩), HAP4.out, HKP6.out, HBE6.out⟩
            case measure => simp [intOf]; omega
        · obtain rfl : m = n := by omega
          have HE := Lib.hid (HY.out (HALL.out (fun j hj => hall.out j hj)))
          have hin := HIN6.out
          have b0 := hin.cell 0 rfl
          have b1 := hin.cell 1 rfl
          have b2 := hin.cell 2 rfl
          have HRD6 := Lib.hid (HRDW.out _ HKP6.out)
          have HMV := Lib.hid (apart_move HAP4.out HFK.out HKP6.out.size)
          have HDS : Hid (∀ p : Addr, Fk k p → ¬ (∃ j, j < k ∧ j < R.length ∧ Fk j p)) := fun p hp ⟨j, h1, h2, h3⟩ => HDJ.out j h2 (by omega) p hp h3
          have hTL2 : (forTo s k).length ≤ 1000000 := by omega
          have HSW : Hid (s1 ≤ wr.heap.size) := by unfold Hid; rw [← hs1]; exact HBE6.out.size
          clear hin hbe6
          go_wp2_with (at_builtin; refine Hid.out ?_)
          unfold Hid
          refine wpList_append_el rFooting wr rfl (.tmp 31) (.tmp 33) 26 31 i1 (.agg #[.int .i64 0, .slice none 0 0, .int .i64 0]) 40 rfl Tryd.underlying26 hi hz0 hz1 hz2 rfl (by decide) true s1 _ _ _ HO6.out rfl [.int .i64 fS, .slice A1 f.Feet.length cap1, .int .i64 fM] f _ HRD6.out HMV.out (fun _ => HDS.out) rfl (fun u hu => by simp at hu; rcases hu with rfl | rfl | rfl <;> rfl) hTL2 (by omega) HSW.out ?_
          intro v7 w7 hown7 hb7 hkeep7 hmv7
          have HO7 : Hid (OwnRd rFooting 31 true s1 w7 v7 (forTo s (k + 1)) (fun p => ∃ j, j < k + 1 ∧ j < R.length ∧ Fk j p)) := by
            unfold Hid
            rw [HE.out]
            exact hown7.mono (fun p hp => hp.elim (fun ⟨j, h1, h2⟩ => ⟨j, by omega, h2⟩) (fun h => ⟨k, by omega, hkl, h⟩))
          have HAP7 := Lib.hid (HAP4.out.grow HKP6.out.size hmv7)
          have HKP7 := Lib.hid (HKP6.out.grow HAP4.out hb7.size (fun q h1 h2 => (hkeep7 q h1 h2).1))
          have HBE7 := Lib.hid (HBE6.out.trans hb7)
          clear hown7 hb7 hkeep7 hmv7 b0 b1 b2
          go_wp2
          go_roundw
          case rel => exact ⟨k + 1, by omega, by go_num, HO7.out, HAP7.out, HKP7.out, HBE7.out⟩
          case measure => simp [intOf]; omega
    · obtain rfl : k = R.length := by omega
      have hTL := HLN.out R.length
      rw [HF.out] at HO4 hTL
      have HFIN : Hid (∀ u, OwnRd rFooting 31 true s1 wr u L (fun p => ∃ j, j < R.length ∧ j < R.length ∧ Fk j p) → RowRd rFooting true wr u L (fun p => s1 ≤ p.block)) := fun u h => (h.row (by omega)).mono (fun p hp => hp.elim id (fun ⟨j, _, h2, h3⟩ => by
        obtain ⟨x, hx⟩ := HX.out j h2
        obtain ⟨_, _, _, _, _, hFk, _⟩ := HEL.out j x hx
        have := (hFk p h3).1
        omega))
      go_wp2
      go_ret
      exact ⟨_, rfl, by rw [hs1]; exact HFIN.out _ HO4.out, by rw [hs1]; exact HBE4.out⟩
end Go.Proofs.YtifmcbhgoncgjaaDoor
