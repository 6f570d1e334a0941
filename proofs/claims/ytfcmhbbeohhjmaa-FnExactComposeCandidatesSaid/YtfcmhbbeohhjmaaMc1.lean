/- The model's l6In, l6Out: what they answer. -/
import Derived.Test.YtfcmhbbeohhjmaaCd
import Derived.Test.YtfcmhbbeohhjmaaSs
import Derived.Test.YtfcmhbbeohhjmaaSv
import Derived.Test.YtfcmhbbeohhjmaaN1
import Derived.Test.YtfcmhbbeohhjmaaRp
import Derived.Test.YtfcmhbbeohhjmaaApp
namespace Go.Proofs.Ytfcmhbbeohhjmaa
set_option maxRecDepth 100000
open Go.RowKit M
set_option linter.unusedVariables false
set_option linter.unusedSimpArgs false

theorem own_empty5 (w : World) (o : Obj) : ((w.alloc o).alloc (.cells #[] 5)).ownsRow (w.heap.size + 1) 5 1 (.slice (some ⟨w.heap.size + 1, 0, none⟩) 0 0) 0 (cellsB []) :=
  ⟨rfl, Or.inr ⟨w.heap.size + 1, 0, #[], rfl, Nat.le_refl _, box2 _ _ _, Nat.le_refl _, by unfold maxLen; omega, rfl, rfl⟩⟩
set_option maxHeartbeats 4000000 in
theorem specIn_cd (x : DCandidate) (v : Value) (F : Addr → Prop) (w : World) (hl : x.Links.length ≤ 1048576) (hv : RowRd rLink false w v x.Links F) :
    Calls Try.prog 50 #[.agg #[v]] w fun e w' => e = .returned (.string ⟨(inL x.Links).toArray⟩) ∧ Below w.heap.size w w' := by
  obtain ⟨A, cap, rfl⟩ := hv.form
  have HV := Lib.hid hv
  clear hv
  have HX : Hid (∀ k, k < x.Links.length → ∃ y, x.Links[k]? = some y) := fun k hk => ⟨_, List.getElem?_eq_getElem hk⟩
  go_enter Try.func50, Try.ntmps50
  go_wp2
  go_loopw [3, 4] (fun u i wr => ∃ (k : Nat), k ≤ x.Links.length ∧ i = .int .i64 k ∧ wr.ownsRow (w.heap.size + 1) 5 1 u (inL (x.Links.take k)).length (cellsB (inL (x.Links.take k))) ∧ Below w.heap.size w wr ∧ Hid (w.heap.size + 1 ≤ wr.heap.size) ∧ InC wr w.heap.size #[.slice A x.Links.length cap] 29) (fun _ i _ => x.Links.length - (intOf i).toNat)
  case atStart => exact ⟨0, by omega, rfl, own_empty5 _ _, ((Below.refl _ _).alloc (Nat.le_refl _) _).alloc (by simp) _, by unfold Hid; simp, box1 _ _ _⟩
  case round =>
    obtain ⟨k, hk, rfl, ho, hbe, hs1, hi1⟩ := hrel
    have b1 := hi1.cell 0 rfl
    have HBE := Lib.hid hbe
    have HI1 := Lib.hid hi1
    clear hbe hi1
    by_cases hkl : k < x.Links.length
    · obtain ⟨y, hy⟩ := HX.out k hkl
      obtain ⟨g, off, xs, Fk, rfl, _, hra, _, hca⟩ := (HV.out.kept HBE.out).get hy
      obtain rfl := rLink_rd hra
      rw [rLink_size] at hca
      have c0 := hca 0 _ rfl
      have c1 := hca 1 _ rfl
      simp only [Nat.add_zero] at c0
      have HIY := Lib.hid (fun h => inL_yes hy h)
      have HIN := Lib.hid (fun h => inL_no hy h)
      have hli := inL_len x.Links k
      clear hca hra hy
      have ha := u8_in y.In
      generalize inL (x.Links.take k) = I0 at *
      generalize (y.In.toNat : Int) = a at *
      generalize (y.Out.toNat : Int) = b at *
      have HAB := Lib.hid ha
      have HO := Lib.hid ho
      have HLE : Hid (I0.length ≤ 70368744177664) := by unfold Hid; omega
      clear ha hli ho
      by_cases ha0 : a = 0
      · have HI := Lib.hid (HIN.out ha0)
        subst ha0
        go_wp2
        go_roundw
        case rel => exact ⟨k + 1, by omega, by go_num, by rw [HI.out]; exact HO.out, HBE.out, hs1, HI1.out⟩
        case measure => simp [intOf]; omega
      · have HI := Lib.hid (HIY.out ha0)
        go_wp2_with (at_builtin; refine wpList_append_byte_k _ rfl (.tmp 20) (.tmp 27) rfl (w.heap.size + 1) _ _ _ rfl HO.out a HAB.out.1 HAB.out.2 rfl HLE.out hs1.out ?_; intro v' w1 h1 hb1 hk1; have HO2 := Lib.hid h1; have HB1 := Lib.hid hb1; have HI2 : Hid (InC w1 w.heap.size #[.slice (some ⟨g, off, none⟩) x.Links.length cap] 29) := hk1 _ _ HI1.out (by intro c fz e; cases e); clear h1 hb1 hk1)
        go_roundw
        case rel => exact ⟨k + 1, by omega, by go_num, by rw [HI.out, List.length_append]; exact HO2.out, HBE.out.trans (HB1.out.mono (Nat.le_succ _)), Nat.le_trans hs1.out HB1.out.size, HI2.out⟩
        case measure => simp [intOf]; omega
    · obtain rfl : k = x.Links.length := by omega
      rw [List.take_length] at ho
      have hcv := conv_own ho
      clear ho
      go_wp2
      go_ret
      exact ⟨rfl, HBE.out⟩
set_option maxHeartbeats 4000000 in
theorem specOut_cd (x : DCandidate) (v : Value) (F : Addr → Prop) (w : World) (hl : x.Links.length ≤ 1048576) (hv : RowRd rLink false w v x.Links F) :
    Calls Try.prog 51 #[.agg #[v]] w fun e w' => e = .returned (.string ⟨(outL x.Links).toArray⟩) ∧ Below w.heap.size w w' := by
  obtain ⟨A, cap, rfl⟩ := hv.form
  have HV := Lib.hid hv
  clear hv
  have HX : Hid (∀ k, k < x.Links.length → ∃ y, x.Links[k]? = some y) := fun k hk => ⟨_, List.getElem?_eq_getElem hk⟩
  go_enter Try.func51, Try.ntmps51
  go_wp2
  go_loopw [3, 4] (fun u i wr => ∃ (k : Nat), k ≤ x.Links.length ∧ i = .int .i64 k ∧ wr.ownsRow (w.heap.size + 1) 5 1 u (outL (x.Links.take k)).length (cellsB (outL (x.Links.take k))) ∧ Below w.heap.size w wr ∧ Hid (w.heap.size + 1 ≤ wr.heap.size) ∧ InC wr w.heap.size #[.slice A x.Links.length cap] 29) (fun _ i _ => x.Links.length - (intOf i).toNat)
  case atStart => exact ⟨0, by omega, rfl, own_empty5 _ _, ((Below.refl _ _).alloc (Nat.le_refl _) _).alloc (by simp) _, by unfold Hid; simp, box1 _ _ _⟩
  case round =>
    obtain ⟨k, hk, rfl, ho, hbe, hs1, hi1⟩ := hrel
    have b1 := hi1.cell 0 rfl
    have HBE := Lib.hid hbe
    have HI1 := Lib.hid hi1
    clear hbe hi1
    by_cases hkl : k < x.Links.length
    · obtain ⟨y, hy⟩ := HX.out k hkl
      obtain ⟨g, off, xs, Fk, rfl, _, hra, _, hca⟩ := (HV.out.kept HBE.out).get hy
      obtain rfl := rLink_rd hra
      rw [rLink_size] at hca
      have c0 := hca 0 _ rfl
      have c1 := hca 1 _ rfl
      simp only [Nat.add_zero] at c0
      have HIY := Lib.hid (fun h => outL_yes hy h)
      have HIN := Lib.hid (fun h => outL_no hy h)
      have hli := outL_len x.Links k
      clear hca hra hy
      have ha := u8_in y.Out
      generalize outL (x.Links.take k) = I0 at *
      generalize (y.In.toNat : Int) = b at *
      generalize (y.Out.toNat : Int) = a at *
      have HAB := Lib.hid ha
      have HO := Lib.hid ho
      have HLE : Hid (I0.length ≤ 70368744177664) := by unfold Hid; omega
      clear ha hli ho
      by_cases ha0 : a = 0
      · have HI := Lib.hid (HIN.out ha0)
        subst ha0
        go_wp2
        go_roundw
        case rel => exact ⟨k + 1, by omega, by go_num, by rw [HI.out]; exact HO.out, HBE.out, hs1, HI1.out⟩
        case measure => simp [intOf]; omega
      · have HI := Lib.hid (HIY.out ha0)
        go_wp2_with (at_builtin; refine wpList_append_byte_k _ rfl (.tmp 20) (.tmp 27) rfl (w.heap.size + 1) _ _ _ rfl HO.out a HAB.out.1 HAB.out.2 rfl HLE.out hs1.out ?_; intro v' w1 h1 hb1 hk1; have HO2 := Lib.hid h1; have HB1 := Lib.hid hb1; have HI2 : Hid (InC w1 w.heap.size #[.slice (some ⟨g, off, none⟩) x.Links.length cap] 29) := hk1 _ _ HI1.out (by intro c fz e; cases e); clear h1 hb1 hk1)
        go_roundw
        case rel => exact ⟨k + 1, by omega, by go_num, by rw [HI.out, List.length_append]; exact HO2.out, HBE.out.trans (HB1.out.mono (Nat.le_succ _)), Nat.le_trans hs1.out HB1.out.size, HI2.out⟩
        case measure => simp [intOf]; omega
    · obtain rfl : k = x.Links.length := by omega
      rw [List.take_length] at ho
      have hcv := conv_own ho
      clear ho
      go_wp2
      go_ret
      exact ⟨rfl, HBE.out⟩
end Go.Proofs.Ytfcmhbbeohhjmaa
