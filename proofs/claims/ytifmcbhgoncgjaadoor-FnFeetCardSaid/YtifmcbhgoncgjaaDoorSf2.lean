/- The model's StressesOf: what it answers. -/
import Derived.Test.YtifmcbhgoncgjaaDoorSf1
import Derived.BigRegion
namespace Go.Proofs.YtifmcbhgoncgjaaDoor
open Go.RowKit Go.Sort
set_option linter.unusedVariables false
set_option linter.unusedSimpArgs false

theorem Tryd.infoN3 : (Tryd.prog.info? 3).map (fun i => (i.zero, i.size, i.bytes)) = some (some (.int .i64 0), 1, 8) := by kernel_rfl
theorem strTo_i64 (f : DFooting) : ∀ k, ∀ z ∈ strTo f k, I64 z
  | 0 => fun z hz => by simp [strTo] at hz; unfold I64; omega
  | k + 1 => fun z hz => by
    rw [strTo] at hz
    split at hz
    · rcases List.mem_or_eq_of_mem_set hz with h | h
      · exact strTo_i64 f k z h
      · subst h; unfold I64; split <;> omega
    · exact strTo_i64 f k z hz
theorem strL_len (f : DFooting) : (strL f).length ≤ 6 := by
  unfold strL
  split
  · rename_i h
    rw [strTo_len]
    have := isFt_iff.1 h
    omega
  · simp
set_option maxHeartbeats 4000000 in
theorem specStr_any (f : DFooting) (v1 : Value) (F : Addr → Prop) (w : World) (hm : f.Feet.length ≤ 1048576) (hs : I64 f.Syllables) (hmn : I64 f.Main) (hv : RowRd rFoot false w v1 f.Feet F) :
    Calls Tryd.prog 23 #[.agg #[.int .i64 f.Syllables, v1, .int .i64 f.Main]] w (OwnPost Rep.int (strL f) w) := by
  have HIS : Hid (∀ W, Below w.heap.size w W → Calls Tryd.prog 22 #[.agg #[.int .i64 f.Syllables, v1, .int .i64 f.Main]] W fun e w' => e = .returned (.bool (isFt f)) ∧ Below W.heap.size W w') := fun W hW => specIsF_any f v1 F W hm hs hmn (hv.kept hW)
  obtain ⟨A, cap, rfl⟩ := hv.form
  have HV := Lib.hid hv
  have HX : Hid (∀ k, k < f.Feet.length → ∃ x, f.Feet[k]? = some x) := fun k hk => ⟨_, List.getElem?_eq_getElem hk⟩
  clear hv
  by_cases hft : isFt f = true
  · obtain ⟨g1, g2, g3, g4, g5⟩ := isFt_iff.1 hft
    have HE : Hid (strL f = strTo f f.Feet.length) := if_pos hft
    have HLN : Hid (∀ k, (strTo f k).length = f.Syllables.toNat) := strTo_len f
    have HAT : Hid (∀ (k : Nat) (x : DFoot), f.Feet[k]? = some x → 0 ≤ x.From ∧ 1 ≤ x.Size ∧ x.Size ≤ 2 ∧ x.From + x.Size ≤ f.Syllables ∧ 0 ≤ x.Head ∧ x.Head ≤ x.Size - 1) := fun k x h => okFeet_at g3 (by omega) h
    have HST : Hid (∀ (k : Nat) (x : DFoot), f.Feet[k]? = some x → strTo f (k + 1) = (strTo f k).set (headOf x) (if (k : Int) = f.Main then 2 else 1)) := fun k x h => strTo_step h
    have HZ : Hid (cellsN (strTo f 0) = List.replicate f.Syllables.toNat (.int .i64 0)) := cellsN_rep _ _
    have HFIN : Hid (∀ (u : Value) (w' : World) (base : Nat), w.heap.size ≤ base → w'.ownsRow base 3 1 u f.Syllables.toNat (cellsN (strTo f f.Feet.length)) → Below w.heap.size w w' → OwnPost Rep.int (strL f) w (.returned u) w') := fun u w' base hb h1 h2 => by
      rw [HE.out]
      exact ⟨u, rfl, (RowRd.of_ints (by rw [strTo_len]; exact h1) (by rw [strTo_len]; omega) (strTo_i64 f _)).mono (fun a h => Nat.le_trans hb h), h2⟩
    rw [hft] at HIS
    clear hft g3
    generalize hl : f.Feet.length = n at *
    have HL := Lib.hid hl
    clear hl hs
    obtain ⟨S, hS⟩ := Int.eq_ofNat_of_zero_le (show 0 ≤ f.Syllables by omega)
    have hSn : f.Syllables.toNat = S := by omega
    rw [hSn] at HLN HZ HFIN
    rw [hS] at HIS HAT g1 g2 ⊢
    generalize f.Main = M at *
    generalize strTo f = T at *
    generalize strL f = L at *
    generalize f.Feet = l at *
    obtain ⟨i0, hi, hz0, hz1, hz2⟩ := info_parts Tryd.infoN3
    go_enter Tryd.func23, Tryd.ntmps23
    go_wp2_with fail
    refine (HIS.out _ ((Below.refl _ _).alloc (Nat.le_refl _) _)).mono ?_
    rintro e w1 ⟨rfl, hb1⟩
    have HIN : InC w1 w.heap.size #[.int .i64 (S : Int), .slice A n cap, .int .i64 M] 31 := (hb1.block _ (by simp)).trans (heap_alloc_new _ _)
    have HB1 := Lib.hid (((Below.refl w.heap.size w).alloc (Nat.le_refl _) _).trans (hb1.mono (by simp)))
    have c0 := HIN.cell 0 rfl
    have HINN := Lib.hid HIN
    clear hb1 HIN
    go_wp2_with (at_make; refine wpList_make_full _ rfl _ _ 24 rfl w1.heap.size 3 i0 (.int .i64 0) 1 Tryd.underlying24 hi hz0 hz1 .i64 .i64 _ _ S rfl rfl rfl rfl (by rw [hz2]; omega) (by unfold maxLen; omega) (Nat.le_refl _) ?_; intro w2 hown2 hgrow2)
    have hb2 : Below w1.heap.size w1 w2 := (Below.refl _ _).grown hgrow2 (Nat.le_refl _) (fun _ h => by cases h)
    have HO2 : Hid (w2.ownsRow w1.heap.size 3 1 (.slice (some ⟨w1.heap.size, 0, none⟩) S S) S (cellsN (T 0))) := by
      have := hown2
      rw [show (Value.int .i64 0).cells = #[.int .i64 0] from rfl, toList_madeCells_one, Nat.mul_one] at this
      rw [Hid, HZ.out]
      exact this
    have HB2 := Lib.hid hb2
    have HI2 := Lib.hid (HINN.out.kept hb2)
    clear hown2 hgrow2 hb2 c0
    go_wp2
    go_loopw [4] (fun i wr => ∃ (k : Nat), k ≤ n ∧ i = .int .i64 k ∧ wr.ownsRow w1.heap.size 3 1 (.slice (some ⟨w1.heap.size, 0, none⟩) S S) S (cellsN (T k)) ∧ Below w1.heap.size w1 wr) (fun i _ => n - (intOf i).toNat)
    case atStart => exact ⟨0, by omega, rfl, HO2.out, HB2.out⟩
    case round =>
      obtain ⟨k, hk, rfl, hown, hbe⟩ := hrel
      have hin := HINN.out.kept hbe
      have b1 := hin.cell 1 rfl
      have b2 := hin.cell 2 rfl
      have HBE := Lib.hid hbe
      have HOW := Lib.hid hown
      by_cases hkl : k < n
      · obtain ⟨x, hx⟩ := HX.out k hkl
        obtain ⟨g, off, xs0, Fk0, rfl, hlx, hrd0, _, hc0⟩ := HV.out.get hx
        have hgl : g < w.heap.size := by
          obtain ⟨rfl, _, _, _⟩ := rFoot_rd hrd0
          exact block_lt_of_cell (hc0 0 _ rfl)
        clear hlx hrd0 hc0
        have HC : Hid (∀ W, Below w1.heap.size w1 W → W.cell? ⟨g, off + k * 3, none⟩ = some (.int .i64 x.From) ∧ W.cell? ⟨g, off + k * 3 + 2, none⟩ = some (.int .i64 x.Head)) := fun W hW => by
          obtain ⟨g2, off2, xs, Fk, hge, _, hrd, _, hc⟩ := (HV.out.kept (HB1.out.trans (hW.mono HB1.out.size))).get hx
          cases hge
          obtain ⟨rfl, _, _, _⟩ := rFoot_rd hrd
          exact ⟨hc 0 _ rfl, hc 2 _ rfl⟩
        obtain ⟨e1, e2, e3, e4, e5, e6⟩ := HAT.out k x hx
        have hst := HST.out k x hx
        obtain ⟨a, ha⟩ := Int.eq_ofNat_of_zero_le e1
        obtain ⟨c, hcc⟩ := Int.eq_ofNat_of_zero_le e5
        have hhd : headOf x = a + c := by unfold headOf; omega
        have hac : a + c < S := by omega
        rw [hhd] at hst
        rw [ha, hcc] at HC
        obtain ⟨c0, c2⟩ := HC.out _ hbe
        have hwr : IntKind.i64.wrap ((a : Int) + (c : Int)) = (a : Int) + (c : Int) := IntWalk.i64_in _ (by omega)
        have hj0 : (0 : Int) ≤ (a : Int) + (c : Int) := by omega
        have hj1 : (a : Int) + (c : Int) < (S : Int) := by omega
        have htn : ((a : Int) + (c : Int)).toNat = a + c := by omega
        clear hin hbe
        have hf := hown.frozenAt (a + c)
        have hlk : (cellsN (T k)).length = S := by rw [cellsN_len, HLN.out]
        obtain ⟨u0, hu0⟩ : ∃ u, (cellsN (T k))[a + c]? = some u := ⟨_, List.getElem?_eq_getElem (by omega)⟩
        have hd := hown.cellAt (a + c) (by omega)
        rw [hu0] at hd
        have h1 := (hown.stored (a + c) (.int .i64 1)).1
        have h2 := (h1.stored (a + c) (.int .i64 2)).1
        rw [cellsN_set] at h1 h2
        rw [cellsN_set, List.set_set] at h2
        have hdf : (⟨w1.heap.size, a + c, none⟩ : Addr) ≠ ⟨g, off + k * 3, none⟩ := by
          intro e
          injection e with e1 _ _
          have := HB1.out.size
          omega
        have H1 := Lib.hid h1
        have H2 := Lib.hid h2
        have B1 := Lib.hid (HBE.out.setCell (p := ⟨w1.heap.size, a + c, none⟩) (Nat.le_refl _) (.int .i64 1))
        have B2 := Lib.hid (B1.out.setCell (p := ⟨w1.heap.size, a + c, none⟩) (Nat.le_refl _) (.int .i64 2))
        clear h1 h2 hown hu0
        by_cases hM : (k : Int) = M
        · rw [if_pos hM] at hst
          have HS := Lib.hid hst
          clear hst
          subst hM
          go_wp2
          go_region
          have hd3 := H1.out.drew
          have hb3 := B1.out.drew
          obtain ⟨k0, k2⟩ := HC.out _ hb3
          have hin3 := HINN.out.kept hb3
          have p1 := hin3.cell 1 rfl
          have p2 := hin3.cell 2 rfl
          have hf3 := hd3.frozenAt (a + c)
          have hlk3 : (cellsN ((T k).set (a + c) 1)).length = S := by rw [cellsN_len, List.length_set, HLN.out]
          obtain ⟨u3, hu3⟩ : ∃ u, (cellsN ((T k).set (a + c) 1))[a + c]? = some u := ⟨_, List.getElem?_eq_getElem (by omega)⟩
          have hd4 := hd3.cellAt (a + c) (by omega)
          rw [hu3] at hd4
          have H4 := (hd3.stored (a + c) (.int .i64 2)).1
          rw [cellsN_set, List.set_set] at H4
          have H4' := Lib.hid H4
          have B4 := Lib.hid (hb3.setCell (p := ⟨w1.heap.size, a + c, none⟩) (Nat.le_refl _) (.int .i64 2))
          clear H4 hd3 hb3 hin3 hu3 hd hf c0 c2 b1 b2
          generalize (wr.setCell { block := w1.heap.size, off := a + c } (Value.int IntKind.i64 1)).drew = w3 at *
          go_wp2
          go_region
          go_wp2
          go_roundw
          case rel => exact ⟨k + 1, by omega, by go_num, by rw [HS.out]; exact H4'.out.drew, B4.out.drew⟩
          case measure => simp [intOf]; omega
        · rw [if_neg hM] at hst
          have HS := Lib.hid hst
          clear hst
          go_wp2
          go_region
          have p2 := (HINN.out.kept B1.out.drew).cell 2 rfl
          have H3 := Lib.hid H1.out.drew
          have B3 := Lib.hid B1.out.drew
          generalize (wr.setCell { block := w1.heap.size, off := a + c } (Value.int IntKind.i64 1)).drew = w3 at *
          go_wp2
          go_roundw
          case rel => exact ⟨k + 1, by omega, by go_num, by rw [HS.out]; exact H3.out, B3.out⟩
          case measure => simp [intOf]; omega
      · obtain rfl : k = n := by omega
        go_wp2
        go_ret
        exact HFIN.out _ _ _ HB1.out.size HOW.out (HB1.out.trans (HBE.out.mono HB1.out.size))
  · have hft : isFt f = false := by simpa using hft
    have HE : Hid (strL f = []) := by unfold Hid strL; rw [if_neg (by simp [hft])]
    rw [hft] at HIS
    go_enter Tryd.func23, Tryd.ntmps23
    go_wp2_with fail
    refine (HIS.out _ ((Below.refl _ _).alloc (Nat.le_refl _) _)).mono ?_
    rintro e w1 ⟨rfl, hb1⟩
    have HB1 := Lib.hid (((Below.refl w.heap.size w).alloc (Nat.le_refl _) _).trans (hb1.mono (by simp)))
    clear hb1
    go_wp2
    go_ret
    exact ⟨_, rfl, by rw [HE.out]; exact RowRd.zero _ _ _ _ _, HB1.out.alloc HB1.out.size _⟩
end Go.Proofs.YtifmcbhgoncgjaaDoor
