/- A text of names, read: of both: what they answer. -/
import Derived.Test.YtnildbalaedlgaaDoorMt10
import Derived.Test.YtnildbalaedlgaaDoorIn10
import Derived.Test.YtnildbalaedlgaaDoorN10
import Derived.Test.YtnildbalaedlgaaDoorLsp
import Derived.Test.YtnildbalaedlgaaDoorSl
import Derived.Lib.IndexBytes
namespace Go.Proofs.YtnildbalaedlgaaDoor
set_option maxRecDepth 100000
open Go.RowKit Go.Sort M
set_option linter.unusedVariables false
set_option linter.unusedSimpArgs false

theorem extract_one (s : ByteArray) (i : Nat) (h : i < s.size) : s.extract i (i + 1) = ⟨#[s[i]]⟩ := by
  apply ByteArray.ext
  rw [ByteArray.data_extract]
  apply Array.ext
  · simp; have : i < s.data.size := h; omega
  · intro k hk _
    simp at hk
    have : k = 0 := by omega
    subst this
    simp
    rfl

theorem add_anyP (t u : ByteArray) (h : t.size + u.size ≤ 1000) (w : World) : (Op.stringOp .add t u).run Tryd.prog w = .ok (.string (t ++ u)) w := run_string_add_sum _ _ _ (by omega)
/-- A row of texts of the call's own, and whether. -/
def PrPost (l : List ByteArray) (b : Bool) (w : World) (e : Ending) (w' : World) : Prop := ∃ v, e = .returned (.tuple #[v, .bool b]) ∧ w'.ownsRow w.heap.size 9 1 v l.length (cellsS l) ∧ Below w.heap.size w w'
/-- A row of texts of the call's own. -/
def CutPost (l : List ByteArray) (w : World) (e : Ending) (w' : World) : Prop := ∃ v, e = .returned v ∧ w'.ownsRow w.heap.size 9 1 v l.length (cellsS l) ∧ Below w.heap.size w w'
theorem own_emptyP (w : World) : (w.alloc (.cells #[] 9)).ownsRow w.heap.size 9 1 (.slice (some ⟨w.heap.size, 0, none⟩) 0 0) 0 (cellsS []) := str_new w [] 0 _ rfl rfl (by omega)
theorem own_emptyB (w : World) (base : Nat) (h : base ≤ w.heap.size) : (w.alloc (.cells #[] 9)).ownsRow base 9 1 (.slice (some ⟨w.heap.size, 0, none⟩) 0 0) 0 (cellsS []) :=
  ⟨rfl, Or.inr ⟨w.heap.size, 0, #[], rfl, h, heap_alloc_new _ _, Nat.le_refl _, by unfold maxLen; omega, rfl, rfl⟩⟩
theorem data_at (s : ByteArray) (k : Nat) (h : k < s.size) : s.data.toList[k]? = some s[k] := by
  rw [Array.getElem?_toList]; exact Array.getElem?_eq_getElem h
set_option maxHeartbeats 2000000 in
theorem specCut_any (s : ByteArray) (w : World) (hs : s.size ≤ 100) :
    Calls Tryd.prog 18 #[.string s, .int .u8 44] w (CutPost (cutB s) w) := by
  have HE := Lib.hid (outK_end s)
  have HZ := Lib.hid (part_size s)
  have HC : Hid (∀ k, s.data.toList[k]? = some 44 → outK s (k + 1) = outK s k ++ [partK s k] ∧ partK s (k + 1) = ⟨#[]⟩) := out_comma s
  have HO : Hid (∀ k b, s.data.toList[k]? = some b → b ≠ 44 → outK s (k + 1) = outK s k ∧ partK s (k + 1) = partK s k ++ ⟨#[b]⟩) := out_other s
  have HP : Hid (∀ v w', w'.ownsRow w.heap.size 9 1 v (cutB s).length (cellsS (cutB s)) → Below w.heap.size w w' → CutPost (cutB s) w (.returned v) w') := fun v w' h1 h2 => ⟨v, rfl, h1, h2⟩
  go_enter Tryd.func18, Tryd.ntmps18
  go_wp2
  go_loopw [5, 6, 7] (fun v p i wr => ∃ (k : Nat), k ≤ s.size ∧ i = .int .i64 k ∧ p = .string (partK s k) ∧ wr.ownsRow w.heap.size 9 1 v (outK s k).length (cellsS (outK s k)) ∧ Below w.heap.size w wr) (fun _ _ i _ => s.size - (intOf i).toNat)
  case atStart => exact ⟨0, by omega, rfl, rfl, own_emptyP w, (Below.refl _ _).alloc (Nat.le_refl _) _⟩
  case round =>
    obtain ⟨k, hk, rfl, rfl, hown, hbe⟩ := hrel
    have HW := Lib.hid hown
    have HB := Lib.hid hbe
    clear hown hbe
    obtain ⟨hz1, hz2⟩ := HZ.out k
    by_cases hkl : k < s.size
    · have HD : Hid (s.data.toList[k]? = some s[k]) := data_at s k hkl
      have hex := extract_one s k hkl
      by_cases hb : s[k] = 44
      · have hq : (((s[k].toNat : Nat) : Int) == 44) = true := by rw [hb]; rfl
        obtain ⟨h1, h2⟩ := HC.out k (by rw [HD.out, hb])
        have H1 := Lib.hid h1
        have H2 := Lib.hid h2
        clear h1 h2 HD
        generalize outK s k = O at *
        generalize partK s k = P at *
        go_wp2_with (at_builtin; refine wpList_append_str _ rfl (.tmp 20) (.tmp 22) rfl w.heap.size _ _ O rfl HW.out P rfl (by omega) HB.out.size ?_; intro v' w' hown' hb')
        have HW' := Lib.hid hown'
        have HB' := Lib.hid (HB.out.trans hb')
        clear hown' hb'
        go_wp2
        go_roundw
        case rel => exact ⟨k + 1, by omega, by go_num, by rw [H2.out], by rw [H1.out, List.length_append, List.length_singleton]; exact HW'.out, HB'.out⟩
        case measure => simp [intOf]; omega
      · have hq : (((s[k].toNat : Nat) : Int) == 44) = false := beq_eq_false_iff_ne.2 fun h => hb (UInt8.toNat_inj.1 (by have : (44 : UInt8).toNat = 44 := rfl; omega))
        obtain ⟨h1, h2⟩ := HO.out k _ HD.out hb
        have H1 := Lib.hid h1
        have H2 := Lib.hid h2
        clear h1 h2 HD hb
        have g1 : (0 : Int) ≤ (k : Int) := by omega
        have g2 : (k : Int) + 1 ≤ (s.size : Int) := by omega
        have g3 : (k : Int) ≤ (k : Int) + 1 := by omega
        have hwk : IntKind.i64.wrap ((k : Int) + 1) = (k : Int) + 1 := IntWalk.i64_in _ (by omega)
        have hnk : ((k : Int) + 1).toNat = k + 1 := by omega
        have hadd0 := add_anyP (partK s k) ⟨#[s[k]]⟩ (by have : (⟨#[s[k]]⟩ : ByteArray).size = 1 := rfl; omega)
        have hadd : ∀ w : World, (Op.stringOp .add (partK s k) (s.extract k (k + 1))).run Tryd.prog w = .ok (.string (partK s k ++ ⟨#[s[k]]⟩)) w := fun w => by rw [hex]; exact hadd0 w
        clear hadd0
        generalize outK s k = O at *
        generalize partK s k = P at *
        go_wp2
        go_roundw
        case rel => exact ⟨k + 1, by omega, by go_num, by rw [H2.out], by rw [H1.out]; exact HW.out, HB.out⟩
        case measure => simp [intOf]; omega
    · obtain rfl : k = s.size := by omega
      generalize hO : outK s s.size = O at *
      generalize hP : partK s s.size = P at *
      clear hO hP HC HO HZ
      go_wp2_with (at_builtin; refine wpList_append_str _ rfl (.tmp 31) (.tmp 33) rfl w.heap.size _ _ O rfl HW.out P rfl (by omega) HB.out.size ?_; intro v' w' hown' hb')
      have HW' : Hid (w'.ownsRow w.heap.size 9 1 v' (cutB s).length (cellsS (cutB s))) := by unfold Hid; rw [← HE.out, List.length_append, List.length_singleton]; exact hown'
      have HB' := Lib.hid (HB.out.trans hb')
      clear hown' hb'
      go_wp2
      go_ret
      exact HP.out _ _ HW'.out HB'.out
/-- A row of one's own, its length and capacity. -/
theorem own_cap {w : World} {base e z n : Nat} {v : Value} {c : List Value} (h : w.ownsRow base e z v n c) : ∃ A cap, v = .slice A n cap ∧ n ≤ cap := by
  rcases h.2 with ⟨rfl, h0⟩ | ⟨g, cap, cur, rfl, hg, hh, hn, _⟩
  · exact ⟨none, 0, by rw [h0], by omega⟩
  · exact ⟨_, _, rfl, hn⟩
theorem cut_short (s : ByteArray) (h : s.size ≤ 4000000) : ∀ z ∈ cutB s, z.size ≤ 9223372036854775807 := fun z hz => by have := cutB_size hz; omega
set_option maxHeartbeats 2000000 in
theorem specPrs_any (s : ByteArray) (w : World) (hs : s.size ≤ 4000000) :
    Calls Tryd.prog 14 #[.string s] w (PrPost (prsN s) (areC (cutB s)) w) := by
  have HSH : Hid (areC (cutB s) = true → s.size ≤ 100) := areC_cut_short
  have HNO : Hid (areC (cutB s) = false → prsN s = []) := fun h => by unfold prsN; rw [h]; rfl
  have HYE : Hid (areC (cutB s) = true → prsN s = cutB s) := fun h => by unfold prsN; rw [if_pos h]
  have HLE := Lib.hid (cutB_le s)
  have HCS := Lib.hid (cut_short s hs)
  have HPP : Hid (∀ v b w', w'.ownsRow w.heap.size 9 1 v (prsN s).length (cellsS (prsN s)) → Below w.heap.size w w' → areC (cutB s) = b → PrPost (prsN s) (areC (cutB s)) w (.returned (.tuple #[v, .bool b])) w') := fun v b w' h1 h2 h3 => ⟨v, by rw [h3], h1, h2⟩
  by_cases hsz : s.size ≤ 100
  case neg =>
    have hA : areC (cutB s) = false := by
      cases h : areC (cutB s) with
      | false => rfl
      | true => exact (hsz (HSH.out h)).elim
    have HA := Lib.hid hA
    have hbig : (100 : Int) < (s.size : Int) := by omega
    have HN := Lib.hid (HNO.out hA)
    clear hA
    go_enter Tryd.func14, Tryd.ntmps14
    go_wp2
    go_ret2
    exact HPP.out _ _ _ (by rw [HN.out]; exact own_emptyP w) ((Below.refl _ _).alloc (Nat.le_refl _) _) HA.out
  have hbig : ¬ (100 : Int) < (s.size : Int) := by omega
  have HC := Lib.hid (specCut_any s w hsz)
  go_enter Tryd.func14, Tryd.ntmps14
  go_wp2_with fail
  refine HC.out.mono ?_
  rintro e w1 ⟨v1, rfl, hown, hb⟩
  obtain ⟨A, cap, rfl, hcap⟩ := own_cap hown
  have HW := Lib.hid hown
  have HB := Lib.hid hb
  have HA := Lib.hid (specAre_any (fun _ => ByteArray.empty) (cutB s) A cap _ w1 (by have := HLE.out; omega) hcap (RowRd.of_strs (fun _ => ByteArray.empty) hown (by have := HLE.out; omega) HCS.out).weak)
  clear hown hb hcap
  go_wp2_with fail
  refine HA.out.mono ?_
  rintro e w2 ⟨rfl, hb2⟩
  have HW2 := Lib.hid (own_kept hb2 HW.out)
  have HB2 := Lib.hid (HB.out.trans (hb2.mono HB.out.size))
  clear hb2
  cases hc : areC (cutB s) with
  | false =>
    have HN := Lib.hid (HNO.out hc)
    have HCC := Lib.hid hc
    go_wp2
    go_ret2
    exact HPP.out _ _ _ (by rw [HN.out]; exact own_emptyB w2 _ HB2.out.size) (HB2.out.alloc HB2.out.size _) HCC.out
  | true =>
    have HN := Lib.hid (HYE.out hc)
    have HCC := Lib.hid hc
    go_wp2
    go_ret2
    exact HPP.out _ _ _ (by rw [HN.out]; exact HW2.out) HB2.out HCC.out
theorem index_comma (x : ByteArray) (w : World) : Calls Tryd.prog 37 #[.string x, .string ⟨#[44]⟩] w fun e w' => e = .returned (.int .i64 (Lib.indexB x ⟨#[44]⟩)) ∧ w' = w :=
  (Any.strings_Index_one { Tryd.lays221 with } x 44 w).mono fun e w' ⟨he, hw⟩ => ⟨by rw [he]; show _ = Ending.returned (Value.int .i64 (Lib.index x.data.toList [44])); rw [Lib.index_one], hw⟩
theorem count_comma (x : ByteArray) (w : World) : Calls Tryd.prog 36 #[.string x, .string ⟨#[44]⟩] w fun e w' => e = .returned (.int .i64 (Lib.countB x ⟨#[44]⟩)) ∧ w' = w :=
  (Any.strings_Count_one { Tryd.lays221 with } x 44 w).mono fun e w' ⟨he, hw⟩ => ⟨by rw [he]; show _ = Ending.returned (Value.int .i64 ((Lib.count x.data.toList [44] : Nat) : Int)); rw [Lib.count_one]; rfl, hw⟩
theorem genSplit_comma (s : ByteArray) (w : World) (hs : s.size < 4294967281) :
    Calls Tryd.prog 32 #[.string s, .string ⟨#[44]⟩, .int .i64 0, .int .i64 (-1)] w fun e w' => e = .returned (.slice (some ⟨w.heap.size, 0, none⟩) (cutB s).length (cutB s).length) ∧ w' = w.alloc (.cells ((cutB s).map Value.string).toArray 9) := by
  have hle := Lib.countB_le ⟨#[44]⟩ (by decide) s.size s (Nat.le_refl _)
  have hlen := Lib.splitB_all ⟨#[44]⟩ (by decide) 0 _ s rfl
  have c := Any.strings_genSplit_core Tryd.lays221 (by kernel_rfl) s ⟨#[44]⟩ 0 (-1) (Lib.countB s ⟨#[44]⟩ + 1) w hs (by decide) (Nat.zero_le _) (fun x c _ => index_comma x _) (count_comma s w) (by decide) (by decide) (by rw [if_pos (by decide)]; omega)
  rw [Nat.add_sub_cancel, hlen] at c
  have e2 : Lib.cellsOf (Lib.splitB ⟨#[44]⟩ 0 (Lib.countB s ⟨#[44]⟩) s) (Lib.countB s ⟨#[44]⟩ + 1) = ((Lib.splitB ⟨#[44]⟩ 0 (Lib.countB s ⟨#[44]⟩) s).map Value.string).toArray := by rw [← hlen]; exact Lib.cellsOf_full _
  rw [e2, ← hlen, split_cut] at c
  exact c
theorem split_comma (s : ByteArray) (w : World) (hs : s.size < 4294967281) :
    Calls Tryd.prog 21 #[.string s, .string ⟨#[44]⟩] w fun e w' => e = .returned (.slice (some ⟨w.heap.size, 0, none⟩) (cutB s).length (cutB s).length) ∧ w' = w.alloc (.cells ((cutB s).map Value.string).toArray 9) := by
  have HC := Lib.hid (genSplit_comma s w hs)
  generalize (cutB s).length = n at *
  go_enter Tryd.func21, Tryd.ntmps21
  go_wp2_with fail
  refine HC.out.mono ?_
  rintro e w1 ⟨rfl, hw⟩
  have HW := Lib.hid hw
  clear hw
  go_wp2
  go_ret
  exact ⟨rfl, HW.out⟩
/-- The new row of the parts. -/
theorem own_cut (s : ByteArray) (w : World) (hs : s.size ≤ 4000000) : (w.alloc (.cells ((cutB s).map Value.string).toArray 9)).ownsRow w.heap.size 9 1 (.slice (some ⟨w.heap.size, 0, none⟩) (cutB s).length (cutB s).length) (cutB s).length (cellsS (cutB s)) := by
  have hn := cutB_le s
  refine ⟨by rw [cellsS_len, Nat.mul_one], Or.inr ⟨w.heap.size, (cutB s).length, ((cutB s).map Value.string).toArray, rfl, Nat.le_refl _, heap_alloc_new _ _, Nat.le_refl _, by unfold maxLen; omega, by simp, ?_⟩⟩
  show (cellsS (cutB s)).take ((cutB s).length * 1) = cellsS (cutB s)
  rw [Nat.mul_one, ← cellsS_len (cutB s), List.take_length]
set_option maxHeartbeats 2000000 in
theorem implPrs_any (s : ByteArray) (w : World) (hs : s.size ≤ 4000000) :
    Calls Tryd.prog 15 #[.string s] w (PrPost (prsN s) (areC (cutB s)) w) := by
  have HNO : Hid (areC (cutB s) = false → prsN s = []) := fun h => by unfold prsN; rw [h]; rfl
  have HYE : Hid (areC (cutB s) = true → prsN s = cutB s) := fun h => by unfold prsN; rw [if_pos h]
  have HLE := Lib.hid (cutB_le s)
  have HCS := Lib.hid (cut_short s hs)
  have HPP : Hid (∀ v b w', w'.ownsRow w.heap.size 9 1 v (prsN s).length (cellsS (prsN s)) → Below w.heap.size w w' → areC (cutB s) = b → PrPost (prsN s) (areC (cutB s)) w (.returned (.tuple #[v, .bool b])) w') := fun v b w' h1 h2 h3 => ⟨v, by rw [h3], h1, h2⟩
  have HC := Lib.hid (split_comma s w (by omega))
  have HOC := Lib.hid (own_cut s w hs)
  go_enter Tryd.func15, Tryd.ntmps15
  go_wp2_with fail
  refine HC.out.mono ?_
  rintro e w1 ⟨rfl, hw⟩
  have HB : Hid (Below w.heap.size w w1) := by unfold Hid; rw [hw]; exact (Below.refl _ _).alloc (Nat.le_refl _) _
  rw [← hw] at HOC
  clear hw HC
  have HA := Lib.hid (implAre_any (fun _ => ByteArray.empty) (cutB s) _ (cutB s).length _ w1 (by have := HLE.out; omega) (Nat.le_refl _) (RowRd.of_strs (fun _ => ByteArray.empty) HOC.out (by have := HLE.out; omega) HCS.out).weak)
  go_wp2_with fail
  refine HA.out.mono ?_
  rintro e w2 ⟨rfl, hb2⟩
  have HW2 := Lib.hid (own_kept hb2 HOC.out)
  have HB2 := Lib.hid (HB.out.trans (hb2.mono HB.out.size))
  clear hb2 HA HOC
  cases hc : areC (cutB s) with
  | false =>
    have HN := Lib.hid (HNO.out hc)
    have HCC := Lib.hid hc
    go_wp2
    go_ret2
    exact HPP.out _ _ _ (by rw [HN.out]; exact ⟨rfl, Or.inl ⟨rfl, rfl⟩⟩) HB2.out HCC.out
  | true =>
    have HN := Lib.hid (HYE.out hc)
    have HCC := Lib.hid hc
    go_wp2
    go_ret2
    exact HPP.out _ _ _ (by rw [HN.out]; exact HW2.out) HB2.out HCC.out
end Go.Proofs.YtnildbalaedlgaaDoor
