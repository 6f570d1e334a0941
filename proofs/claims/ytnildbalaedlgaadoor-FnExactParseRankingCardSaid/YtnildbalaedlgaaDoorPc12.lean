/- A text cut at the greater-than sign: l10Cut, strings.Split: what they answer. -/
import Derived.Test.YtnildbalaedlgaaDoorPa10
import Derived.Test.YtnildbalaedlgaaDoorCg12
namespace Go.Proofs.YtnildbalaedlgaaDoor
set_option maxRecDepth 100000
open Go.RowKit Go.Sort M
set_option linter.unusedVariables false
set_option linter.unusedSimpArgs false

set_option maxHeartbeats 2000000 in
theorem specCutG_any (s : ByteArray) (w : World) (hs : s.size ≤ 100) :
    Calls Tryd.prog 18 #[.string s, .int .u8 62] w (CutPost (cutG s) w) := by
  have HE := Lib.hid (outG_end s)
  have HZ := Lib.hid (partG_size s)
  have HC : Hid (∀ k, s.data.toList[k]? = some 62 → outG s (k + 1) = outG s k ++ [partG s k] ∧ partG s (k + 1) = ⟨#[]⟩) := outG_comma s
  have HO : Hid (∀ k b, s.data.toList[k]? = some b → b ≠ 62 → outG s (k + 1) = outG s k ∧ partG s (k + 1) = partG s k ++ ⟨#[b]⟩) := outG_other s
  have HP : Hid (∀ v w', w'.ownsRow w.heap.size 9 1 v (cutG s).length (cellsS (cutG s)) → Below w.heap.size w w' → CutPost (cutG s) w (.returned v) w') := fun v w' h1 h2 => ⟨v, rfl, h1, h2⟩
  go_enter Tryd.func18, Tryd.ntmps18
  go_wp2
  go_loopw [5, 6, 7] (fun v p i wr => ∃ (k : Nat), k ≤ s.size ∧ i = .int .i64 k ∧ p = .string (partG s k) ∧ wr.ownsRow w.heap.size 9 1 v (outG s k).length (cellsS (outG s k)) ∧ Below w.heap.size w wr) (fun _ _ i _ => s.size - (intOf i).toNat)
  case atStart => exact ⟨0, by omega, rfl, rfl, own_emptyP w, (Below.refl _ _).alloc (Nat.le_refl _) _⟩
  case round =>
    obtain ⟨k, hk, rfl, rfl, hown, hbe⟩ := hrel
    have HW := Lib.hid hown
    have HB := Lib.hid hbe
    clear hown hbe
    obtain ⟨hz1, hz2⟩ := HZ.out k
    by_cases hkl : k < s.size
    · have HD : Hid (s.data.toList[k]? = some s[k]) := data_at s k hkl
      have hex := extract_one s k hkl
      by_cases hb : s[k] = 62
      · have hq : (((s[k].toNat : Nat) : Int) == 62) = true := by rw [hb]; rfl
        obtain ⟨h1, h2⟩ := HC.out k (by rw [HD.out, hb])
        have H1 := Lib.hid h1
        have H2 := Lib.hid h2
        clear h1 h2 HD
        generalize outG s k = O at *
        generalize partG s k = P at *
        go_wp2_with (at_builtin; refine wpList_append_str _ rfl (.tmp 20) (.tmp 22) rfl w.heap.size _ _ O rfl HW.out P rfl (by omega) HB.out.size ?_; intro v' w' hown' hb')
        have HW' := Lib.hid hown'
        have HB' := Lib.hid (HB.out.trans hb')
        clear hown' hb'
        go_wp2
        go_roundw
        case rel => exact ⟨k + 1, by omega, by go_num, by rw [H2.out], by rw [H1.out, List.length_append, List.length_singleton]; exact HW'.out, HB'.out⟩
        case measure => simp [intOf]; omega
      · have hq : (((s[k].toNat : Nat) : Int) == 62) = false := beq_eq_false_iff_ne.2 fun h => hb (UInt8.toNat_inj.1 (by have : (62 : UInt8).toNat = 62 := rfl; omega))
        obtain ⟨h1, h2⟩ := HO.out k _ HD.out hb
        have H1 := Lib.hid h1
        have H2 := Lib.hid h2
        clear h1 h2 HD hb
        have g1 : (0 : Int) ≤ (k : Int) := by omega
        have g2 : (k : Int) + 1 ≤ (s.size : Int) := by omega
        have g3 : (k : Int) ≤ (k : Int) + 1 := by omega
        have hwk : IntKind.i64.wrap ((k : Int) + 1) = (k : Int) + 1 := IntWalk.i64_in _ (by omega)
        have hnk : ((k : Int) + 1).toNat = k + 1 := by omega
        have hadd0 := add_anyP (partG s k) ⟨#[s[k]]⟩ (by have : (⟨#[s[k]]⟩ : ByteArray).size = 1 := rfl; omega)
        have hadd : ∀ w : World, (Op.stringOp .add (partG s k) (s.extract k (k + 1))).run Tryd.prog w = .ok (.string (partG s k ++ ⟨#[s[k]]⟩)) w := fun w => by rw [hex]; exact hadd0 w
        clear hadd0
        generalize outG s k = O at *
        generalize partG s k = P at *
        go_wp2
        go_roundw
        case rel => exact ⟨k + 1, by omega, by go_num, by rw [H2.out], by rw [H1.out]; exact HW.out, HB.out⟩
        case measure => simp [intOf]; omega
    · obtain rfl : k = s.size := by omega
      generalize hO : outG s s.size = O at *
      generalize hP : partG s s.size = P at *
      clear hO hP HC HO HZ
      go_wp2_with (at_builtin; refine wpList_append_str _ rfl (.tmp 31) (.tmp 33) rfl w.heap.size _ _ O rfl HW.out P rfl (by omega) HB.out.size ?_; intro v' w' hown' hb')
      have HW' : Hid (w'.ownsRow w.heap.size 9 1 v' (cutG s).length (cellsS (cutG s))) := by unfold Hid; rw [← HE.out, List.length_append, List.length_singleton]; exact hown'
      have HB' := Lib.hid (HB.out.trans hb')
      clear hown' hb'
      go_wp2
      go_ret
      exact HP.out _ _ HW'.out HB'.out
theorem cutG_short (s : ByteArray) (h : s.size ≤ 4000000) : ∀ z ∈ cutG s, z.size ≤ 9223372036854775807 := fun z hz => by have := cutG_size hz; omega
theorem index_gt (x : ByteArray) (w : World) : Calls Tryd.prog 37 #[.string x, .string ⟨#[62]⟩] w fun e w' => e = .returned (.int .i64 (Lib.indexB x ⟨#[62]⟩)) ∧ w' = w :=
  (Any.strings_Index_one { Tryd.lays221 with } x 62 w).mono fun e w' ⟨he, hw⟩ => ⟨by rw [he]; show _ = Ending.returned (Value.int .i64 (Lib.index x.data.toList [62])); rw [Lib.index_one], hw⟩
theorem count_gt (x : ByteArray) (w : World) : Calls Tryd.prog 36 #[.string x, .string ⟨#[62]⟩] w fun e w' => e = .returned (.int .i64 (Lib.countB x ⟨#[62]⟩)) ∧ w' = w :=
  (Any.strings_Count_one { Tryd.lays221 with } x 62 w).mono fun e w' ⟨he, hw⟩ => ⟨by rw [he]; show _ = Ending.returned (Value.int .i64 ((Lib.count x.data.toList [62] : Nat) : Int)); rw [Lib.count_one]; rfl, hw⟩
theorem genSplit_gt (s : ByteArray) (w : World) (hs : s.size < 4294967281) :
    Calls Tryd.prog 32 #[.string s, .string ⟨#[62]⟩, .int .i64 0, .int .i64 (-1)] w fun e w' => e = .returned (.slice (some ⟨w.heap.size, 0, none⟩) (cutG s).length (cutG s).length) ∧ w' = w.alloc (.cells ((cutG s).map Value.string).toArray 9) := by
  have hle := Lib.countB_le ⟨#[62]⟩ (by decide) s.size s (Nat.le_refl _)
  have hlen := Lib.splitB_all ⟨#[62]⟩ (by decide) 0 _ s rfl
  have c := Any.strings_genSplit_core Tryd.lays221 (by kernel_rfl) s ⟨#[62]⟩ 0 (-1) (Lib.countB s ⟨#[62]⟩ + 1) w hs (by decide) (Nat.zero_le _) (fun x c _ => index_gt x _) (count_gt s w) (by decide) (by decide) (by rw [if_pos (by decide)]; omega)
  rw [Nat.add_sub_cancel, hlen] at c
  have e2 : Lib.cellsOf (Lib.splitB ⟨#[62]⟩ 0 (Lib.countB s ⟨#[62]⟩) s) (Lib.countB s ⟨#[62]⟩ + 1) = ((Lib.splitB ⟨#[62]⟩ 0 (Lib.countB s ⟨#[62]⟩) s).map Value.string).toArray := by rw [← hlen]; exact Lib.cellsOf_full _
  rw [e2, ← hlen, splitG_cut] at c
  exact c
theorem split_gt (s : ByteArray) (w : World) (hs : s.size < 4294967281) :
    Calls Tryd.prog 21 #[.string s, .string ⟨#[62]⟩] w fun e w' => e = .returned (.slice (some ⟨w.heap.size, 0, none⟩) (cutG s).length (cutG s).length) ∧ w' = w.alloc (.cells ((cutG s).map Value.string).toArray 9) := by
  have HC := Lib.hid (genSplit_gt s w hs)
  generalize (cutG s).length = n at *
  go_enter Tryd.func21, Tryd.ntmps21
  go_wp2_with fail
  refine HC.out.mono ?_
  rintro e w1 ⟨rfl, hw⟩
  have HW := Lib.hid hw
  clear hw
  go_wp2
  go_ret
  exact ⟨rfl, HW.out⟩
/-- The new row of the parts. -/
theorem own_cutG (s : ByteArray) (w : World) (hs : s.size ≤ 4000000) : (w.alloc (.cells ((cutG s).map Value.string).toArray 9)).ownsRow w.heap.size 9 1 (.slice (some ⟨w.heap.size, 0, none⟩) (cutG s).length (cutG s).length) (cutG s).length (cellsS (cutG s)) := by
  have hn := cutG_le s
  refine ⟨by rw [cellsS_len, Nat.mul_one], Or.inr ⟨w.heap.size, (cutG s).length, ((cutG s).map Value.string).toArray, rfl, Nat.le_refl _, heap_alloc_new _ _, Nat.le_refl _, by unfold maxLen; omega, by simp, ?_⟩⟩
  show (cellsS (cutG s)).take ((cutG s).length * 1) = cellsS (cutG s)
  rw [Nat.mul_one, ← cellsS_len (cutG s), List.take_length]
end Go.Proofs.YtnildbalaedlgaaDoor
