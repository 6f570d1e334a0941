/- The walk of FnExactParseCandidate: it returns true at every argument. -/
import Derived.Test.YtlekcnddejnejaaMk2
import Derived.Test.YtlekcnddejnejaaIk4
import Derived.Test.YtlekcnddejnejaaBx
import Derived.Test.YtlekcnddejnejaaTeCandidate
import Derived.Test.YtlekcnddejnejaaTmCandidate
import Derived.Test.YtlekcnddejnejaaThCandidate
namespace Go.Proofs.Ytlekcnddejnejaa.fnExactParseCandidate
open Go.ChangeShapes Go.RowKit Go.Proofs.Ytlekcnddejnejaa
set_option linter.unusedVariables false
set_option linter.unusedSimpArgs false

theorem LEN (s : ByteArray) : (prL s.data.toList).length ≤ 16 := by
  unfold prL prP
  split
  · simp
  · split
    · rename_i h; exact h.1
    · simp
set_option maxHeartbeats 8000000 in
theorem walk (s : ByteArray) (w0 : s.size ≤ maxLen) (w : World) :
    Calls Try.prog 9 #[.string s] w fun e w' => e = .returned (.bool true) ∧ Below w.heap.size w w' := by
  have ws : s.size ≤ 9223372036854775807 := by unfold maxLen at w0; omega
  clear w0
  have HS : Hid (s.size ≤ 1048576 → ∀ W, Calls Try.prog 28 #[.string s] W (CdPost (prL s.data.toList) (prB s.data.toList) W)) := fun hs W => specParse_any s W hs
  have HI : Hid (s.size ≤ 1048576 → ∀ W, Calls Try.prog 29 #[.string s] W (CdPost (prL s.data.toList) (prB s.data.toList) W)) := fun hs W => implParse_any s W hs
  have HLN : Hid (s.size ≤ 1048576 → (prL s.data.toList).length ≤ 16) := fun hs => LEN s
  generalize hD : (prL s.data.toList) = D at *
  generalize hB : (prB s.data.toList) = B at *
  clear hD hB
  go_enter Try.func9, Try.ntmps9
  by_cases hs : (1048576 : Int) < s.size
  · go_wp2_with fail
    go_ret
    exact ⟨rfl, Below.refl _ _⟩
  have hs2 : s.size ≤ 1048576 := by omega
  replace HS := Lib.hid (HS.out hs2)
  replace HI := Lib.hid (HI.out hs2)
  have HCN : Hid (1 + cntRow rLink D ≤ 1000000000) := by
    have h1 := HLN.out hs2
    have h2 := cnt_links D
    unfold Hid
    omega
  go_wp2_with fail
  refine (HS.out _).mono ?_
  rintro e w1 ⟨g0, rfl, hq0, hb0⟩
  obtain ⟨A0, c0, rfl⟩ := hq0.form
  have H0 := Lib.hid hq0.tight
  have HB1 := Lib.hid hb0
  clear hq0 hb0
  go_wp2_with fail
  refine (HI.out _).mono ?_
  rintro e w2 ⟨g1, rfl, hq1, hb1⟩
  obtain ⟨A1, c1, rfl⟩ := hq1.form
  have hbA : Below w1.heap.size w1 w2 := ((Below.refl _ _).alloc (Nat.le_refl _) _).trans (hb1.mono (by simp))
  have HS1 : Hid (w1.heap.size + 1 ≤ w2.heap.size) := by have := hb1.size; unfold Hid; simp at this; exact this
  have H1 : Hid (RowRd rLink true w2 (.slice A1 D.length c1) D (fun a => w1.heap.size + 1 ≤ a.block ∧ a.block < w2.heap.size)) := hq1.tight.mono (fun a ha => ⟨by have := ha.1; simpa using this, ha.2⟩)
  have HX0 : Hid (BoxC w2 w1.heap.size (.slice A0 D.length c0)) := (BoxC.new w1 _ _).kept hb1
  have H02 : Hid (RowRd rLink true w2 (.slice A0 D.length c0) D (fun a => w.heap.size ≤ a.block ∧ a.block < w1.heap.size)) := H0.out.kept hbA
  have HB2 : Hid (Below w.heap.size w w2) := HB1.out.trans (hbA.mono HB1.out.size)
  clear hq1 hb1 hbA
  -- the first comparison
  have x2 : ∀ o, (w2.alloc o).cell? ⟨w1.heap.size, 0, none⟩ = some (.slice A0 D.length c0) := fun o => (HX0.out.kept ((Below.refl _ _).alloc (Nat.le_refl _) o)).1
  go_wp2_with fail
  refine (eqCandidate_any ⟨D⟩ _ _ _ _ _ (H1.out.kept ((Below.refl _ _).alloc (Nat.le_refl _) _)).weak (H02.out.kept ((Below.refl _ _).alloc (Nat.le_refl _) _)).weak).mono ?_
  rintro e w3 ⟨rfl, hb3⟩
  have hbA : Below w2.heap.size w2 w3 := ((Below.refl _ _).alloc (Nat.le_refl _) _).trans (hb3.mono (by simp))
  have HX1 : Hid (BoxC w3 w2.heap.size (.slice A1 D.length c1)) := (BoxC.new w2 _ _).kept hb3
  have HX03 := Lib.hid (HX0.out.kept hbA)
  have H03 := Lib.hid (H02.out.kept hbA)
  have H13 := Lib.hid (H1.out.kept hbA)
  have HB3 : Hid (Below w.heap.size w w3) := HB2.out.trans (hbA.mono HB2.out.size)
  have HS3 : Hid (w2.heap.size + 1 ≤ w3.heap.size) := by have := hb3.size; unfold Hid; simp at this; exact this
  clear hb3 hbA x2
  have x3 := HX03.out.1
  have z3 := HX1.out.1
  -- the marks
  have HM := Lib.hid (markCandidate_any ⟨D⟩ (.slice A1 D.length c1) 1 1 rfl (w1.heap.size + 1) _ w3 (by have := HS1.out; have := HS3.out; omega) (fun a ha => ha.1) HCN.out (Nat.le_refl 1) H13.out)
  obtain ⟨q, hqq⟩ : ∃ q : Nat, 1 + cntRow rLink D = q := ⟨_, rfl⟩
  have hnn : ¬ ((q : Nat) : Int) < 0 := by omega
  rw [show (⟨D⟩ : DCandidate).Links = D from rfl, hqq] at HM
  go_wp2_with fail
  refine HM.out.mono ?_
  rintro e w4 ⟨rfl, hrow, hu, hb4⟩
  have H14 := Lib.hid hrow
  have H04 := Lib.hid (H03.out.apart hu (fun a ha hf => by have h1 := ha.2; have h2 := hf.1; omega))
  have HX04 := Lib.hid (HX03.out.apart hu (fun hf => by have h2 : w1.heap.size + 1 ≤ w1.heap.size := hf.1; omega))
  have HX14 := Lib.hid (HX1.out.apart hu (fun hf => by have h2 : w2.heap.size < w2.heap.size := hf.2; omega))
  have HB4 : Hid (Below w.heap.size w w4) := HB3.out.trans (hb4.mono (by have := HB1.out.size; omega))
  clear hrow hu hb4 HM x3 z3
  have z4 := HX14.out.1
  have HH : Hid (∀ W (F : Addr → Prop), RowRd rLink false W (.slice A1 D.length c1) (labRow rLink 1 D) F → Calls Try.prog 25 #[.agg #[.slice A1 D.length c1], .int .i64 1] W fun e w' => e = .returned (.int .i64 (q : Nat)) ∧ Below W.heap.size W w') := fun W F h => by
    have := heldCandidate_any ⟨D⟩ (.slice A1 D.length c1) D 1 1 rfl F W HCN.out (Nat.le_refl 1) h
    rw [hqq] at this
    exact this
  go_wp2_with fail
  refine (HH.out _ _ H14.out.weak).mono ?_
  rintro e w5 ⟨rfl, hb5⟩
  have H15 := Lib.hid (H14.out.kept hb5)
  have H05 := Lib.hid (H04.out.kept hb5)
  have HX05 := Lib.hid (HX04.out.kept hb5)
  have HX15 := Lib.hid (HX14.out.kept hb5)
  have HB5 : Hid (Below w.heap.size w w5) := HB4.out.trans (hb5.mono HB4.out.size)
  clear hb5 z4
  -- once more
  go_wp2_with fail
  refine (HI.out _).mono ?_
  rintro e w6 ⟨g2, rfl, hq2, hb6⟩
  obtain ⟨A2, c2, rfl⟩ := hq2.form
  have H2 := Lib.hid hq2
  have H16 := Lib.hid (H15.out.kept hb6)
  have H06 := Lib.hid (H05.out.kept hb6)
  have HX06 := Lib.hid (HX05.out.kept hb6)
  have HX16 := Lib.hid (HX15.out.kept hb6)
  have HB6 : Hid (Below w.heap.size w w6) := HB5.out.trans (hb6.mono HB5.out.size)
  clear hq2 hb6
  have x6 : ∀ o, (w6.alloc o).cell? ⟨w1.heap.size, 0, none⟩ = some (.slice A0 D.length c0) := fun o => (HX06.out.kept ((Below.refl _ _).alloc (Nat.le_refl _) o)).1
  go_wp2_with fail
  refine (eqCandidate_any ⟨D⟩ _ _ _ _ _ (H2.out.kept ((Below.refl _ _).alloc (Nat.le_refl _) _)).weak (H06.out.kept ((Below.refl _ _).alloc (Nat.le_refl _) _)).weak).mono ?_
  rintro e w7 ⟨rfl, hb7⟩
  have hbA : Below w6.heap.size w6 w7 := ((Below.refl _ _).alloc (Nat.le_refl _) _).trans (hb7.mono (by simp))
  have z7 := (HX16.out.kept hbA).1
  have H17 := Lib.hid (H16.out.kept hbA)
  have HB7 : Hid (Below w.heap.size w w7) := HB6.out.trans (hbA.mono HB6.out.size)
  clear hb7 hbA x6
  go_wp2_with fail
  refine (HH.out _ _ H17.out.weak).mono ?_
  rintro e w8 ⟨rfl, hb8⟩
  have HB8 : Hid (Below w.heap.size w w8) := HB7.out.trans (hb8.mono HB7.out.size)
  clear hb8
  go_wp2
  go_ret
  exact ⟨rfl, HB8.out⟩
end Go.Proofs.Ytlekcnddejnejaa.fnExactParseCandidate
