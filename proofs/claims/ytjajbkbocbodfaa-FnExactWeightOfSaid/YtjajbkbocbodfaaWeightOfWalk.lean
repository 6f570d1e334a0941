/- The walk of FnExactWeightOf: it returns true at every argument, and writes nothing that was there. -/
import Derived.Test.YtjajbkbocbodfaaYw
import Derived.Test.YtjajbkbocbodfaaIj
import Derived.OpenShut
namespace Go.Proofs.Ytjajbkbocbodfaa.fnExactWeightOf
open Go.ChangeShapes Go.RowKit Go.Proofs.Ytjajbkbocbodfaa
set_option maxHeartbeats 1000000 in
theorem walk (x : Syl) (w : World) (hf : Fits x) :
    Calls Try.prog 5 #[sylV x] w fun e w' => e = .returned (.bool true) ∧ Below w.heap.size w w' := by
  obtain ⟨z, hz⟩ : ∃ z, szV 1048576 x = z := ⟨_, rfl⟩
  have HS : Hid (∀ W, _) := fun W => sz_any x 1048576 W (by omega) (by omega) hf
  rw [hz] at HS
  have HT := Lib.hid (toSyl_any x)
  have HM := Lib.hid (specWeight_any x)
  have HI := Lib.hid (implWeight_any x)
  unfold sylV at HS HT HM HI ⊢
  clear hf hz
  generalize bs x.o = O at *
  generalize bs x.n = N at *
  generalize bs x.c = C at *
  have HC0 : Hid ((w.alloc (.cells #[.string O, .string N, .string C] 30)).cell? ⟨w.heap.size, 0, none⟩ = some (.string O)) := by unfold Hid; simp [go_sem]
  have HC1 : Hid ((w.alloc (.cells #[.string O, .string N, .string C] 30)).cell? ⟨w.heap.size, 1, none⟩ = some (.string N)) := by unfold Hid; simp [go_sem]
  have HC2 : Hid ((w.alloc (.cells #[.string O, .string N, .string C] 30)).cell? ⟨w.heap.size, 2, none⟩ = some (.string C)) := by unfold Hid; simp [go_sem]
  go_enter Try.func5, Try.ntmps5
  go_wp2_with fail
  refine (HS.out _).mono ?_
  rintro e w1 ⟨rfl, hb1⟩
  have B1 : Hid (Below w.heap.size w w1) := ((Below.refl _ w).alloc (Nat.le_refl _) _).trans (hb1.mono (by simp))
  have c0 := cell_kp hb1 HC0.out
  have c1 := cell_kp hb1 HC1.out
  have c2 := cell_kp hb1 HC2.out
  clear hb1
  by_cases hneg : z < 0
  · go_wp2
    go_ret
    exact ⟨rfl, B1.out⟩
  · go_wp2_with fail
    refine (HT.out _).mono ?_
    rintro e w2 ⟨rfl, hb2⟩
    have B2 := Lib.hid (B1.out.trans (hb2.mono B1.out.size))
    replace c0 := cell_kp hb2 c0
    replace c1 := cell_kp hb2 c1
    replace c2 := cell_kp hb2 c2
    clear hb2
    go_wp2_with fail
    refine (HM.out _).mono ?_
    rintro e w3 ⟨rfl, hb3⟩
    have B3 := Lib.hid (B2.out.trans (hb3.mono B2.out.size))
    replace c0 := cell_kp hb3 c0
    replace c1 := cell_kp hb3 c1
    replace c2 := cell_kp hb3 c2
    clear hb3
    go_wp2_with fail
    refine (HT.out _).mono ?_
    rintro e w4 ⟨rfl, hb4⟩
    have B4 := Lib.hid (B3.out.trans (hb4.mono B3.out.size))
    clear hb4
    go_wp2_with fail
    refine (HI.out _).mono ?_
    rintro e w5 ⟨rfl, hb5⟩
    have B5 := Lib.hid (B4.out.trans (hb5.mono B4.out.size))
    clear hb5
    go_wp2
    go_ret
    exact ⟨rfl, B5.out⟩
end Go.Proofs.Ytjajbkbocbodfaa.fnExactWeightOf
