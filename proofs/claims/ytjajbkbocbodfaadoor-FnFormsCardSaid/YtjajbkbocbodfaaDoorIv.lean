/- The program's IsVowelAt, CountVowels, SkeletonOf: what they answer. -/
import Derived.Test.YtjajbkbocbodfaaDoorN2
import Derived.Test.YtjajbkbocbodfaaDoorS2
import Derived.Test.YtjajbkbocbodfaaDoorIf1
import Derived.Test.YtjajbkbocbodfaaDoorRow
import Derived.Deep.RegionLaw
namespace Go.Proofs.YtjajbkbocbodfaaDoor
open Go.RowKit M

theorem implVowS_any (s : ByteArray) (i : Int) (w : World) (_hs : s.size ≤ maxLen) (hT : FeatTab w) :
    Calls Tryd.prog 37 #[.string s, .int .i64 i] w fun e w' => e = .returned (.bool (vowAt s i)) ∧ w = w' := by
  have HT := Lib.hid hT
  clear hT
  by_cases h : 0 ≤ i ∧ i < (s.size : Int)
  · obtain ⟨k, rfl⟩ := Int.eq_ofNat_of_zero_le h.1
    have hk : k < s.size := by omega
    have HE := Lib.hid (vowAt_in s k hk)
    have HB := Lib.hid (bAt_in s k hk)
    have hk2 : (k : Int) < (s.size : Int) := h.2
    have hk0 : (0 : Int) ≤ (k : Int) := h.1
    clear h
    go_enter Tryd.func37, Tryd.ntmps37
    go_wp2_with fail
    refine (implHas_any _ _ _ (byte_in _).1 (byte_in _).2 HT.out).mono ?_
    rintro e w2 ⟨rfl, rfl⟩
    go_wp2
    go_ret
    exact ⟨ret_bool (by rw [HE.out, ← HB.out]), rfl⟩
  · have HE : Hid (vowAt s i = false) := by
      unfold Hid vowAt
      by_cases h0 : 0 ≤ i
      · have h2 : ¬ i < (s.size : Int) := fun h1 => h ⟨h0, h1⟩
        simp [h2]
      · simp [h0]
    by_cases h0 : 0 ≤ i
    · have h2 : ¬ i < (s.size : Int) := fun h1 => h ⟨h0, h1⟩
      clear h
      go_enter Tryd.func37, Tryd.ntmps37
      go_wp2
      go_ret
      exact ⟨ret_bool HE.out.symm, rfl⟩
    · clear h
      go_enter Tryd.func37, Tryd.ntmps37
      go_wp2
      go_ret
      exact ⟨ret_bool HE.out.symm, rfl⟩
theorem implVow_any (s : ByteArray) (i : Int) (w : World) (hs : s.size ≤ maxLen) (hT : FeatTab w) :
    Calls Tryd.prog 37 #[.string s, .int .i64 i] w fun e w' => e = .returned (.bool (vowAt s i)) ∧ Below w.heap.size w w' :=
  (implVowS_any s i w hs hT).mono fun _ _ h => ⟨h.1, h.2 ▸ Below.refl _ _⟩
theorem implCntS_any (s : ByteArray) (w : World) (hs : s.size ≤ maxLen) (hT : FeatTab w) :
    Calls Tryd.prog 14 #[.string s] w fun e w' => e = .returned (.int .i64 (cntV s s.size)) ∧ w = w' := by
  have HT := Lib.hid hT
  have HM := Lib.hid hs
  clear hT
  unfold maxLen at hs
  go_enter Tryd.func14, Tryd.ntmps14
  go_wp2
  go_loop [3, 7] (fun n i => ∃ (j : Nat), j ≤ s.size ∧ i = .int .i64 j ∧ n = .int .i64 (cntV s j)) (fun _ i => s.size - (intOf i).toNat)
  case atStart => exact ⟨0, by omega, rfl, by simp [cntV]⟩
  case round =>
    obtain ⟨j, hj, rfl, rfl⟩ := hrel
    have hcl := cntV_le s j
    by_cases hlt : j < s.size
    · have HV := Lib.hid (vowAt_in s j hlt)
      go_wp2_with fail
      refine (implVowS_any s _ _ HM.out HT.out).mono ?_
      rintro e w2 ⟨rfl, rfl⟩
      go_wp2
      · have hx : hasF (bAt s j) 0 = true := by rw [← HV.out]; assumption
        go_round
        case rel => exact ⟨j + 1, by omega, by go_num, by rw [cntV_yes s j hx]; go_num⟩
        case measure => simp [intOf]; omega
      · have hx : hasF (bAt s j) 0 = false := by rw [← HV.out]; assumption
        go_round
        case rel => exact ⟨j + 1, by omega, by go_num, by rw [cntV_no s j hx]⟩
        case measure => simp [intOf]; omega
    · obtain rfl : j = s.size := by omega
      go_wp2
      go_ret
      exact ⟨rfl, rfl⟩
theorem implCnt_any (s : ByteArray) (w : World) (hs : s.size ≤ maxLen) (hT : FeatTab w) :
    Calls Tryd.prog 14 #[.string s] w fun e w' => e = .returned (.int .i64 (cntV s s.size)) ∧ Below w.heap.size w w' :=
  (implCntS_any s w hs hT).mono fun _ _ h => ⟨h.1, h.2 ▸ Below.refl _ _⟩
theorem sk_set (l : List UInt8) (n j : Nat) (hl : l.length = j) (h : j < n) (x : Int) (h0 : 0 ≤ x) (h1 : x < 256) : (cellsB l ++ List.replicate (n - j) (Value.int .u8 0)).set j (Value.int .u8 x) = cellsB (l ++ [byt x]) ++ List.replicate (n - (j + 1)) (Value.int .u8 0) := by
  have hc : (cellsB l).length = j := by rw [cellsB_len, hl]
  rw [List.set_append_right _ _ (by omega), hc, Nat.sub_self, show n - j = (n - (j + 1)) + 1 by omega, List.replicate_succ, List.set_cons_zero]
  unfold cellsB
  rw [List.map_append, List.append_assoc]
  simp [byt_toNat x h0 h1]
theorem sk_set2 (l : List UInt8) (n j : Nat) (hl : l.length = j) (y x : UInt8) : (cellsB (l ++ [y]) ++ List.replicate (n - (j + 1)) (Value.int .u8 0)).set j (.int .u8 (x.toNat : Int)) = cellsB (l ++ [x]) ++ List.replicate (n - (j + 1)) (Value.int .u8 0) := by
  have hc : (cellsB l).length = j := by rw [cellsB_len, hl]
  have e : ∀ z : UInt8, cellsB (l ++ [z]) = cellsB l ++ [Value.int .u8 (z.toNat : Int)] := fun z => by unfold cellsB; rw [List.map_append]; rfl
  rw [e, e, List.append_assoc, List.append_assoc, List.set_append_right _ _ (by omega), hc, Nat.sub_self]
  rfl
set_option maxHeartbeats 1000000 in
theorem implSk_any (s : ByteArray) (w : World) (hs : s.size ≤ maxLen) (hT : FeatTab w) :
    Calls Tryd.prog 12 #[.string s] w fun e w' => e = .returned (.string ⟨(skV s).toArray⟩) ∧ Below w.heap.size w w' := by
  have HT := Lib.hid hT
  have HM := Lib.hid hs
  clear hs hT
  by_cases hf : isFm s = true
  · have HE : Hid (skV s = skelL s s.size) := if_pos hf
    have h8 := isFm_size hf
    go_enter Tryd.func12, Tryd.ntmps12
    go_wp2_with fail
    refine (implFmS_any s _ HM.out).mono ?_
    rintro e w2 ⟨rfl, rfl⟩
    rw [hf]
    obtain ⟨i0, hi, hz0, hz1, hz2⟩ := info_parts Tryd.info5
    go_wp2_with (at_make; refine wpList_make_full _ rfl _ _ 22 rfl w.heap.size 5 i0 (.int .u8 0) 1 Tryd.underlying22 hi hz0 hz1 .i64 .i64 _ _ s.size rfl rfl rfl rfl (by rw [hz2]; omega) (by unfold maxLen; omega) (Nat.le_refl _) ?_; intro w1 hown1 hgrow1)
    have hb1 : Below w.heap.size w w1 := (Below.refl _ _).grown hgrow1 (Nat.le_refl _) (fun _ h => by cases h)
    have hown : w1.ownsRow w.heap.size 5 1 (.slice (some ⟨w.heap.size, 0, none⟩) s.size s.size) s.size (cellsB (skelL s 0) ++ List.replicate (s.size - 0) (Value.int .u8 0)) := by
      have := hown1
      rw [show (Value.int .u8 0).cells = #[.int .u8 0] from rfl, toList_madeCells_one] at this
      simpa [cellsB, skelL] using this
    have HO1 := Lib.hid hown
    have HB1 := Lib.hid hb1
    clear hown1 hgrow1 hown hb1
    go_loopw [13] (fun i wr => ∃ (j : Nat), j ≤ s.size ∧ i = .int .i64 j ∧ wr.ownsRow w.heap.size 5 1 (.slice (some ⟨w.heap.size, 0, none⟩) s.size s.size) s.size (cellsB (skelL s j) ++ List.replicate (s.size - j) (Value.int .u8 0)) ∧ Below w.heap.size w wr) (fun i _ => s.size - (intOf i).toNat)
    case atStart => exact ⟨0, by omega, rfl, HO1.out, HB1.out⟩
    case round =>
      obtain ⟨j, hj, rfl, hown, hbe⟩ := hrel
      by_cases hlt : j < s.size
      · have HV := Lib.hid (vowAt_in s j hlt)
        have hl := skelL_len s j
        have hf0 := hown.frozenAt j
        have hc0 := hown.cellAt j (by omega)
        obtain ⟨x, hx⟩ : ∃ x, (cellsB (skelL s j) ++ List.replicate (s.size - j) (Value.int .u8 0))[j]? = some x := ⟨_, List.getElem?_eq_getElem (by rw [List.length_append, cellsB_len, hl, List.length_replicate]; omega)⟩
        rw [hx] at hc0
        have h1 := (hown.stored j (.int .u8 67)).1
        rw [sk_set _ s.size j hl hlt 67 (by omega) (by omega)] at h1
        have hb1 := hbe.setCell (p := ⟨w.heap.size, j, none⟩) (Nat.le_refl _) (.int .u8 67)
        have hf1 := h1.frozenAt j
        have hc1 := h1.cellAt j (by omega)
        obtain ⟨y, hy⟩ : ∃ y, (cellsB (skelL s j ++ [byt 67]) ++ List.replicate (s.size - (j + 1)) (Value.int .u8 0))[j]? = some y := ⟨_, List.getElem?_eq_getElem (by rw [List.length_append, cellsB_len, List.length_append, hl, List.length_replicate]; simp; omega)⟩
        rw [hy] at hc1
        have h2 := (h1.stored j (.int .u8 ((86 : UInt8).toNat : Int))).1
        rw [sk_set2 _ s.size j hl (byt 67) 86] at h2
        have hb2 := hb1.setCell (p := ⟨w.heap.size, j, none⟩) (Nat.le_refl _) (.int .u8 86)
        have HT1 := Lib.hid (feat_below HT.out hb1)
        have H1 := Lib.hid h1
        have H2 := Lib.hid h2
        have B1 := Lib.hid hb1
        have B2 := Lib.hid hb2
        clear hown hbe hx hy h1 h2 hb1 hb2 hl
        go_wp2_with fail
        refine (implVowS_any s _ _ HM.out HT1.out).mono ?_
        rintro e w2 ⟨rfl, rfl⟩
        go_wp2
        · have hx : hasF (bAt s j) 0 = true := by rw [← HV.out]; assumption
          go_roundw
          case rel => exact ⟨j + 1, by omega, by go_num, by rw [skelL_yes s j hx]; exact H2.out, B2.out⟩
          case measure => simp [intOf]; omega
        · have hx : hasF (bAt s j) 0 = false := by rw [← HV.out]; assumption
          go_roundw
          case rel => exact ⟨j + 1, by omega, by go_num, by rw [skelL_no s j hx]; exact H1.out, B1.out⟩
          case measure => simp [intOf]; omega
      · obtain rfl : j = s.size := by omega
        rw [Nat.sub_self, List.replicate_zero, List.append_nil] at hown
        have hcv := conv_own hown
        have HB := Lib.hid hbe
        clear hown hbe
        go_wp2
        go_ret
        exact ⟨ret_str (by rw [HE.out]), HB.out⟩
  · have hf : isFm s = false := by simpa using hf
    have HE : Hid (skV s = []) := by unfold Hid skV; rw [if_neg (by simp [hf])]
    go_enter Tryd.func12, Tryd.ntmps12
    go_wp2_with fail
    refine (implFmS_any s _ HM.out).mono ?_
    rintro e w2 ⟨rfl, rfl⟩
    rw [hf]
    go_wp2
    go_ret
    exact ⟨ret_str (by rw [HE.out]), Below.refl _ _⟩
end Go.Proofs.YtjajbkbocbodfaaDoor
