/- Merged: Intd Se11 Mc2i Tm11 Mc3 Fm11 Ic5i Tp11 Ro11. -/
import Derived.Test.YtcgmlhlnkbjfnaaGreatDoorQ1
import Derived.WalkKit
import Derived.BigQuiet
import Derived.Lib.QuietBelow
import Derived.Lib.Hide
import Derived.Test.YtcgmlhlnkbjfnaaGreatDoorRows
import Derived.Test.YtcgmlhlnkbjfnaaGreatDoorQ4
import Derived.Test.YtcgmlhlnkbjfnaaGreatDoorQ8
import Derived.Deep.DeepCutAuto
import Derived.Test.YtcgmlhlnkbjfnaaGreatDoorQ5
import Derived.Test.YtcgmlhlnkbjfnaaGreatDoorQ7
import Derived.Deep.RegionHeld3
import Derived.Deep.RegionWith
/- Lists that differ at a place. -/
namespace Go.Proofs.YtcgmlhlnkbjfnaaGreatDoor
set_option maxRecDepth 100000
open Go.RowKit
set_option linter.unusedVariables false
set_option linter.unusedSimpArgs false

theorem ints_differ {l m : List Int} {k : Nat} {x y : Int} (h1 : l[k]? = some x) (h2 : m[k]? = some y) (h : ¬ x = y) : ¬ l = m := fun e => by
  subst e
  rw [h1] at h2
  exact h (Option.some.inj h2)
theorem list_same {α : Type} {l m : List α} (hl : l.length = m.length) (h : ∀ k, k < l.length → l[k]? = m[k]?) : l = m := by
  apply List.ext_getElem?
  intro k
  by_cases hk : k < l.length
  · exact h k hk
  · rw [List.getElem?_eq_none (by omega), List.getElem?_eq_none (by omega)]
end Go.Proofs.YtcgmlhlnkbjfnaaGreatDoor

/- Rows of numbers compared: what the model's and the program's comparisons answer. -/
namespace Go.Proofs.YtcgmlhlnkbjfnaaGreatDoor
set_option maxRecDepth 100000
open Go.RowKit Go.Sort M
set_option linter.unusedVariables false
set_option linter.unusedSimpArgs false

set_option maxHeartbeats 1000000 in
theorem specSame11_any (v u : Value) (l m : List Int) (F G : Addr → Prop) (w : World) (hv : RowRd Rep.int false w v l F) (hu : RowRd Rep.int false w u m G) :
    Calls Tryz.prog 99 #[v, u] w fun e w' => e = .returned (.bool (decide (l = m))) ∧ Below w.heap.size w w' := by
  obtain ⟨A, cap, rfl⟩ := hv.form
  obtain ⟨A2, cap2, rfl⟩ := hu.form
  have hmx := hv.max
  have hmy := hu.max
  have HV := Lib.hid hv
  have HU := Lib.hid hu
  clear hv hu
  have HX : Hid (∀ k, k < l.length → ∃ x, l[k]? = some x) := fun k hk => ⟨_, List.getElem?_eq_getElem hk⟩
  have HY : Hid (∀ k, k < m.length → ∃ x, m[k]? = some x) := fun k hk => ⟨_, List.getElem?_eq_getElem hk⟩
  have HD : Hid (∀ (k : Nat) (x y : Int), l[k]? = some x → m[k]? = some y → ¬ x = y → ¬ l = m) := fun k x y h1 h2 h => ints_differ h1 h2 h
  have HL : Hid (¬ l.length = m.length → ¬ l = m) := fun h e => h (by rw [e])
  have HALL : Hid (l.length = m.length → (∀ k, k < l.length → l[k]? = m[k]?) → l = m) := list_same
  have HR : Hid ((l = m → decide (l = m) = true) ∧ (¬ l = m → decide (l = m) = false)) := ⟨fun h => decide_eq_true h, fun h => decide_eq_false h⟩
  generalize decide (l = m) = r at *
  generalize hln : l.length = n at *
  generalize hlm : m.length = n2 at *
  clear hln hlm
  go_enter Tryz.func99, Tryz.ntmps99
  by_cases hN : n = n2
  case neg =>
    have hN2 : ¬ (n : Int) = (n2 : Int) := by omega
    have HF := Lib.hid (HR.out.2 (HL.out hN))
    go_wp2
    go_ret
    exact ⟨ret_bool HF.out.symm, Below.refl _ _⟩
  subst hN
  go_wp2
  go_loopw [5] (fun i wr => ∃ (k : Nat), k ≤ n ∧ i = .int .i64 k ∧ Hid (∀ j, j < k → l[j]? = m[j]?) ∧ Below w.heap.size w wr) (fun i _ => n - (intOf i).toNat)
  case atStart => exact ⟨0, by omega, rfl, fun j hj => by omega, Below.refl _ _⟩
  case round =>
    obtain ⟨k, hk, rfl, hall, hbe⟩ := hrel
    have HBE := Lib.hid hbe
    clear hbe
    by_cases hkl : k < n
    · obtain ⟨x, hx⟩ := HX.out k hkl
      obtain ⟨y, hy⟩ := HY.out k hkl
      obtain ⟨g, off, xs, Fk, rfl, _, hrx, _, hcx⟩ := (HV.out.kept HBE.out).get hx
      obtain ⟨g2, off2, ys, Gk, rfl, _, hry, _, hcy⟩ := (HU.out.kept HBE.out).get hy
      obtain ⟨rfl, _⟩ := id hrx
      obtain ⟨rfl, _⟩ := id hry
      have c0 := hcx 0 _ rfl
      have d0 := hcy 0 _ rfl
      simp only [show Rep.int.size = 1 from rfl, Nat.mul_one, Nat.add_zero] at c0 d0
      have HDK := Lib.hid (HD.out k x y hx hy)
      have HEQ : Hid (x = y → ∀ j, j < k + 1 → l[j]? = m[j]?) := fun e j hj => by
        by_cases hjk : j = k
        · subst hjk; rw [hx, hy, e]
        · exact hall.out j (by omega)
      clear hcx hcy hrx hry hx hy
      by_cases hxy : x = y
      · have HE2 := Lib.hid (HEQ.out hxy)
        subst hxy
        go_wp2
        go_quiet (fail)
        go_wp2
        go_roundw
        case rel => exact ⟨k + 1, by omega, by go_num, HE2, ⟨HBE.out.os, HBE.out.tape, HBE.out.output, HBE.out.size, HBE.out.block⟩⟩
        case measure => simp [intOf]; omega
      · have HF := Lib.hid (HR.out.2 (HDK.out hxy))
        go_wp2
        go_quiet (fail)
        go_wp2
        go_ret
        exact ⟨ret_bool HF.out.symm, ⟨HBE.out.os, HBE.out.tape, HBE.out.output, HBE.out.size, HBE.out.block⟩⟩
    · obtain rfl : k = n := by omega
      have HF := Lib.hid (HR.out.1 (HALL.out (by trivial) (fun j hj => hall.out j hj)))
      go_wp2
      go_ret
      exact ⟨ret_bool HF.out.symm, HBE.out⟩
theorem specL11_any (v u : Value) (l m : List Int) (F G : Addr → Prop) (w : World) (hv : RowRd Rep.int false w v l F) (hu : RowRd Rep.int false w u m G) :
    Calls Tryz.prog 58 #[v, u] w fun e w' => e = .returned (.bool (decide (l = m))) ∧ Below w.heap.size w w' := by
  have HC := Lib.hid (specSame11_any v u l m F G w hv hu)
  clear hv hu
  generalize decide (l = m) = r at *
  go_enter Tryz.func58, Tryz.ntmps58
  go_wp2_with fail
  refine HC.out.mono ?_
  rintro e w1 ⟨rfl, hb⟩
  have HB := Lib.hid hb
  clear hb
  go_wp2
  go_ret
  exact ⟨rfl, HB.out⟩
set_option maxHeartbeats 1000000 in
theorem sliceEq_any (v u : Value) (l m : List Int) (F G : Addr → Prop) (w : World) (hv : RowRd Rep.int false w v l F) (hu : RowRd Rep.int false w u m G) :
    Calls Tryz.prog 63 #[v, u] w fun e w' => e = .returned (.bool (decide (l = m))) ∧ Below w.heap.size w w' := by
  obtain ⟨A, cap, rfl⟩ := hv.form
  obtain ⟨A2, cap2, rfl⟩ := hu.form
  have hmx := hv.max
  have hmy := hu.max
  have HV := Lib.hid hv
  have HU := Lib.hid hu
  clear hv hu
  have HX : Hid (∀ k, k < l.length → ∃ x, l[k]? = some x) := fun k hk => ⟨_, List.getElem?_eq_getElem hk⟩
  have HY : Hid (∀ k, k < m.length → ∃ x, m[k]? = some x) := fun k hk => ⟨_, List.getElem?_eq_getElem hk⟩
  have HD : Hid (∀ (k : Nat) (x y : Int), l[k]? = some x → m[k]? = some y → ¬ x = y → ¬ l = m) := fun k x y h1 h2 h => ints_differ h1 h2 h
  have HL : Hid (¬ l.length = m.length → ¬ l = m) := fun h e => h (by rw [e])
  have HALL : Hid (l.length = m.length → (∀ k, k < l.length → l[k]? = m[k]?) → l = m) := list_same
  have HR : Hid ((l = m → decide (l = m) = true) ∧ (¬ l = m → decide (l = m) = false)) := ⟨fun h => decide_eq_true h, fun h => decide_eq_false h⟩
  generalize decide (l = m) = r at *
  generalize hln : l.length = n at *
  generalize hlm : m.length = n2 at *
  clear hln hlm
  go_enter Tryz.func63, Tryz.ntmps63
  by_cases hN : n = n2
  case neg =>
    have hN2 : ¬ (n : Int) = (n2 : Int) := by omega
    have HF := Lib.hid (HR.out.2 (HL.out hN))
    go_wp2
    go_ret
    exact ⟨ret_bool HF.out.symm, Below.refl _ _⟩
  subst hN
  go_wp2
  go_loopw [13] (fun i wr => ∃ (k : Nat), k ≤ n ∧ i = .int .i64 k ∧ Hid (∀ j, j < k → l[j]? = m[j]?) ∧ Below w.heap.size w wr) (fun i _ => n - (intOf i).toNat)
  case atStart => exact ⟨0, by omega, rfl, fun j hj => by omega, Below.refl _ _⟩
  case round =>
    obtain ⟨k, hk, rfl, hall, hbe⟩ := hrel
    have HBE := Lib.hid hbe
    clear hbe
    by_cases hkl : k < n
    · obtain ⟨x, hx⟩ := HX.out k hkl
      obtain ⟨y, hy⟩ := HY.out k hkl
      obtain ⟨g, off, xs, Fk, rfl, _, hrx, _, hcx⟩ := (HV.out.kept HBE.out).get hx
      obtain ⟨g2, off2, ys, Gk, rfl, _, hry, _, hcy⟩ := (HU.out.kept HBE.out).get hy
      obtain ⟨rfl, _⟩ := id hrx
      obtain ⟨rfl, _⟩ := id hry
      have c0 := hcx 0 _ rfl
      have d0 := hcy 0 _ rfl
      simp only [show Rep.int.size = 1 from rfl, Nat.mul_one, Nat.add_zero] at c0 d0
      have HDK := Lib.hid (HD.out k x y hx hy)
      have HEQ : Hid (x = y → ∀ j, j < k + 1 → l[j]? = m[j]?) := fun e j hj => by
        by_cases hjk : j = k
        · subst hjk; rw [hx, hy, e]
        · exact hall.out j (by omega)
      clear hcx hcy hrx hry hx hy
      by_cases hxy : x = y
      · have HE2 := Lib.hid (HEQ.out hxy)
        subst hxy
        go_wp2
        go_quiet (fail)
        go_wp2
        go_roundw
        case rel => exact ⟨k + 1, by omega, by go_num, HE2, ⟨HBE.out.os, HBE.out.tape, HBE.out.output, HBE.out.size, HBE.out.block⟩⟩
        case measure => simp [intOf]; omega
      · have HF := Lib.hid (HR.out.2 (HDK.out hxy))
        go_wp2
        go_quiet (fail)
        go_wp2
        go_ret
        exact ⟨ret_bool HF.out.symm, ⟨HBE.out.os, HBE.out.tape, HBE.out.output, HBE.out.size, HBE.out.block⟩⟩
    · obtain rfl : k = n := by omega
      have HF := Lib.hid (HR.out.1 (HALL.out (by trivial) (fun j hj => hall.out j hj)))
      go_wp2
      go_ret
      exact ⟨ret_bool HF.out.symm, HBE.out⟩
end Go.Proofs.YtcgmlhlnkbjfnaaGreatDoor

/- The model's InputOf: what it answers. -/
namespace Go.Proofs.YtcgmlhlnkbjfnaaGreatDoor
set_option maxRecDepth 100000
open Go.RowKit M
set_option linter.unusedVariables false
set_option linter.unusedSimpArgs false

theorem specInput_any (x : DCandidate) (v : Value) (F : Addr → Prop) (w : World) (hl : x.Links.length ≤ 1048576) (hv : RowRd rLink false w v x.Links F) :
    Calls Tryz.prog 56 #[.agg #[v]] w fun e w' => e = .returned (.string ⟨(inS x.Links).toArray⟩) ∧ Below w.heap.size w w' := by
  have HS0 : Hid (∀ W, Below w.heap.size w W → Calls Tryz.prog 57 #[.agg #[v]] W fun e w' => e = .returned (.bool (isCd x.Links)) ∧ Below W.heap.size W w') := fun W hW => specIsCd_any x _ F W hl (hv.kept hW)
  have HS1 : Hid (∀ W, Below w.heap.size w W → Calls Tryz.prog 95 #[.agg #[v]] W fun e w' => e = .returned (.string ⟨(inL x.Links).toArray⟩) ∧ Below W.heap.size W w') := fun W hW => specIn_cd x _ F W hl (hv.kept hW)
  obtain ⟨A, cap, rfl⟩ := hv.form
  clear hv
  have HE : Hid (inS x.Links = if isCd x.Links then inL x.Links else []) := rfl
  generalize isCd x.Links = c at *
  generalize inS x.Links = r at *
  have HA : Hid (∀ o, Below w.heap.size w (w.alloc o)) := fun o => (Below.refl _ _).alloc (Nat.le_refl _) _
  have HA1 : Hid (InC (w.alloc (.cells #[.slice A x.Links.length cap] 59)) w.heap.size #[.slice A x.Links.length cap] 59) := heap_alloc_new _ _
  go_enter Tryz.func56, Tryz.ntmps56
  go_wp2_with fail
  refine (HS0.out _ (HA.out _)).mono ?_
  rintro e w2 ⟨rfl, hb⟩
  have b1 := (HA1.out.kept hb).cell 0 rfl
  have HB : Hid (Below w.heap.size w w2) := below_step (HA.out _) hb
  clear hb
  cases c
  · go_wp2_with fail
    go_ret
    exact ⟨ret_str (by rw [HE.out] <;> rfl), HB.out⟩
  · go_wp2_with fail
    refine (HS1.out _ HB.out).mono ?_
    rintro e w3 ⟨rfl, hb⟩
    have HB3 : Hid (Below w.heap.size w w3) := below_step HB.out hb
    clear hb
    go_wp2_with fail
    go_ret
    exact ⟨ret_str (by rw [HE.out] <;> rfl), HB3.out⟩
end Go.Proofs.YtcgmlhlnkbjfnaaGreatDoor

/- The model's IsTableau: what it answers. -/
namespace Go.Proofs.YtcgmlhlnkbjfnaaGreatDoor
set_option maxRecDepth 100000
open Go.RowKit Go.Sort M
set_option linter.unusedVariables false
set_option linter.unusedSimpArgs false

set_option maxHeartbeats 16000000 in
theorem specTab_any (x : DTableau) (A1 : Option Addr) (c1 : Nat) (A2 : Option Addr) (c2 : Nat) (A3 : Option Addr) (c3 : Nat) (F1 F2 F3 : Addr → Prop) (w : World) (hm : rTableau.sz x ≤ 1048576) (hv : TabRd false w (.slice A1 x.Names.length c1) (.slice A2 x.Rows.length c2) (.slice A3 x.Marks.length c3) x F1 F2 F3) :
    Calls Tryz.prog 19 #[.agg #[.string x.Input, .slice A1 x.Names.length c1, .slice A2 x.Rows.length c2, .slice A3 x.Marks.length c3]] w fun e w' => e = .returned (.bool (isTab x)) ∧ Below w.heap.size w w' := by
  obtain ⟨hz0, hz1, hz2, hz3, hz4, hz5⟩ := szTab_parts hm
  have hcap1 := hv.names.cap_le
  have HZ4 := Lib.hid hz4
  have HV := Lib.hid hv
  have HSA : Hid (∀ W, Below w.heap.size w W → Calls Tryz.prog 34 #[.slice A1 x.Names.length c1] W fun e w' => e = .returned (.bool (areC x.Names)) ∧ Below W.heap.size W w') := fun W hW => specAre_any mkT x.Names A1 c1 F1 W (by omega) hcap1 (hv.names.kept hW)
  have HSF : Hid (∀ W, Calls Tryz.prog 35 #[.string x.Input] W fun e w' => e = .returned (.bool (isFm x.Input)) ∧ W = w') := fun W => specFm_any x.Input W (by unfold maxLen; omega)
  have HSI : Hid (∀ (c : DCandidate) (v : Value) (G : Addr → Prop) W, c.Links.length ≤ 1048576 → RowRd rLink false W v c.Links G → Calls Tryz.prog 56 #[.agg #[v]] W fun e w' => e = .returned (.string (inT c.Links)) ∧ Below W.heap.size W w') := fun c v G W hl hr => specInput_any c v G W hl hr
  have HSC : Hid (∀ (c : DCandidate) (v : Value) (G : Addr → Prop) W, c.Links.length ≤ 1048576 → RowRd rLink false W v c.Links G → Calls Tryz.prog 57 #[.agg #[v]] W fun e w' => e = .returned (.bool (isCd c.Links)) ∧ Below W.heap.size W w') := fun c v G W hl hr => specIsCd_any c v G W hl hr
  have HSP : Hid (∀ (c : DCandidate) (v : Value) (G : Addr → Prop) W, c.Links.length ≤ 1048576 → Below w.heap.size w W → RowRd rLink false W v c.Links G → Calls Tryz.prog 37 #[.slice A1 x.Names.length c1, .agg #[v]] W (IntPost (profN x.Names c.Links) W)) := fun c v G W hl hW hr => specProf_any mkT x.Names A1 c1 F1 c v G W hz1 hl hcap1 (hv.names.kept hW) hr
  have HX2 : Hid (∀ k, k < x.Rows.length → ∃ y, x.Rows[k]? = some y) := fun k hk => ⟨_, List.getElem?_eq_getElem hk⟩
  have HX3 : Hid (∀ k, k < x.Marks.length → ∃ y, x.Marks[k]? = some y) := fun k hk => ⟨_, List.getElem?_eq_getElem hk⟩
  have HHD : Hid (headT x = (areC x.Names && (isFm x.Input && ((decide (1 ≤ (x.Rows.length : Int)) && decide ((x.Rows.length : Int) ≤ 250)) && decide ((x.Marks.length : Int) = (x.Rows.length : Int)))))) := rfl
  have HHF := Lib.hid (isTab_head (x := x))
  have HBD : Hid (∀ k, k < x.Rows.length → rowAt x k = false → isTab x = false) := fun k h1 h2 => isTab_bad h1 h2
  have HGD : Hid (headT x = true → (∀ k, k < x.Rows.length → rowAt x k = true) → isTab x = true) := isTab_good
  have HRA : Hid (∀ (k : Nat) (c : DCandidate) (m : List Int), x.Rows[k]? = some c → x.Marks[k]? = some m → rowAt x k = rowOk x.Names x.Input c.Links m) := fun k c m h1 h2 => rowAt_of h1 h2
  clear hv hz4 hz5 hm
  have HA : Hid (∀ o, Below w.heap.size w (w.alloc o)) := fun o => (Below.refl _ _).alloc (Nat.le_refl _) _
  have HA1 : Hid (InC (w.alloc (.cells #[.string x.Input, .slice A1 x.Names.length c1, .slice A2 x.Rows.length c2, .slice A3 x.Marks.length c3] 27)) w.heap.size #[.string x.Input, .slice A1 x.Names.length c1, .slice A2 x.Rows.length c2, .slice A3 x.Marks.length c3] 27) := heap_alloc_new _ _
  go_enter Tryz.func19, Tryz.ntmps19
  go_wp2_with fail
  refine (HSA.out _ (HA.out _)).mono ?_
  rintro e w1 ⟨rfl, hb⟩
  have HB1 : Hid (Below w.heap.size w w1) := below_step (HA.out _) hb
  have HX1 := Lib.hid (HA1.out.kept hb)
  have b0 := HX1.out.cell 0 rfl
  have b2 := HX1.out.cell 2 rfl
  have b3 := HX1.out.cell 3 rfl
  clear hb
  cases ha : areC x.Names with
  | false =>
    have HN : Hid (isTab x = false) := HHF.out (by rw [HHD.out, ha]; rfl)
    go_wp2_with fail
    go_ret
    exact ⟨ret_bool HN.out.symm, HB1.out⟩
  | true =>
  go_wp2_with fail
  refine (HSF.out _).mono ?_
  rintro e w1' ⟨rfl, rfl⟩
  cases hf : isFm x.Input with
  | false =>
    have HN : Hid (isTab x = false) := HHF.out (by rw [HHD.out, ha, hf]; rfl)
    go_wp2_with fail
    go_ret
    exact ⟨ret_bool HN.out.symm, HB1.out⟩
  | true =>
  go_wp2_with fail
  refine (specIn10_any _ _ _ _).mono ?_
  rintro e w1' ⟨rfl, rfl⟩
  by_cases hr : (1 ≤ (x.Rows.length : Int) ∧ (x.Rows.length : Int) ≤ 250)
  case neg =>
    have hd : (decide (1 ≤ (x.Rows.length : Int)) && decide ((x.Rows.length : Int) ≤ 250)) = false := by
      rw [Bool.and_eq_false_iff, decide_eq_false_iff_not, decide_eq_false_iff_not]; omega
    have HN : Hid (isTab x = false) := HHF.out (by rw [HHD.out, ha, hf, hd]; rfl)
    rw [hd]
    go_wp2_with fail
    go_ret
    exact ⟨ret_bool HN.out.symm, HB1.out⟩
  have hd : (decide (1 ≤ (x.Rows.length : Int)) && decide ((x.Rows.length : Int) ≤ 250)) = true := by rw [decide_eq_true hr.1, decide_eq_true hr.2]; rfl
  have hr1 := hr.1
  have hr2 := hr.2
  rw [hd]
  clear hr
  by_cases hml : (x.Marks.length : Int) = (x.Rows.length : Int)
  case neg =>
    have HN : Hid (isTab x = false) := HHF.out (by rw [HHD.out, ha, hf, hd, decide_eq_false hml]; rfl)
    clear hd ha hf
    go_wp2_with fail
    go_ret
    exact ⟨ret_bool HN.out.symm, HB1.out⟩
  have HHT : Hid (headT x = true) := by unfold Hid; rw [HHD.out, ha, hf, hd, decide_eq_true hml]; rfl
  clear hd ha hf HHD HHF b0 b2 b3
  have hml2 : x.Marks.length = x.Rows.length := by omega
  have b2 := HX1.out.cell 2 rfl
  have b3 := HX1.out.cell 3 rfl
  rw [hml2] at b3
  go_wp2
  go_loopw [3] (fun i wr => ∃ (k : Nat), k ≤ x.Rows.length ∧ i = .int .i64 k ∧ Hid (∀ j, j < k → rowAt x j = true) ∧ InC wr w.heap.size #[.string x.Input, .slice A1 x.Names.length c1, .slice A2 x.Rows.length c2, .slice A3 x.Marks.length c3] 27 ∧ Below w.heap.size w wr) (fun i _ => x.Rows.length - (intOf i).toNat)
  case atStart => exact ⟨0, by omega, rfl, fun j hj => by omega, HX1.out, HB1.out⟩
  case round =>
    obtain ⟨k, hk, rfl, hall, hbox, hbe0⟩ := hrel
    clear b2 b3
    obtain ⟨w2, rfl⟩ : ∃ w2 : World, w2 = wr := ⟨_, rfl⟩
    have HB := Lib.hid hbe0
    have HBX := Lib.hid hbox
    clear hbe0 hbox HX1 HB1
    by_cases hkl : k < x.Rows.length
    · obtain ⟨c, hc⟩ := HX2.out k hkl
      obtain ⟨m, hmk⟩ := HX3.out k (by omega)
      have HL := Lib.hid (HZ4.out k c hc)
      have HRK := Lib.hid (HRA.out k c m hc hmk)
      obtain ⟨g2, o2, xs2, G2, rfl, _, hr2', _, hc2⟩ := (HV.out.rows.kept HB.out).get hc
      obtain ⟨v2, rfl, q2⟩ := rCandidate_rd hr2'
      obtain ⟨g3, o3, xs3, G3, rfl, _, hr3', _, hc3⟩ := (HV.out.marks.kept HB.out).get hmk
      obtain ⟨v3, rfl, q3⟩ := id hr3'
      rw [rCandidate_size] at hc2
      rw [show (Rep.row Rep.int).size = 1 from rfl] at hc3
      have d2 := hc2 0 _ rfl
      have d3 := hc3 0 _ rfl
      simp only [Nat.add_zero, Nat.mul_one] at d2 d3
      have HC2 : Hid (∀ W : World, Below w2.heap.size w2 W → W.cell? ⟨g2, o2 + k, none⟩ = some v2) := fun W hW => cell_kept hW d2
      have HC3 : Hid (∀ W : World, Below w2.heap.size w2 W → W.cell? ⟨g3, o3 + k, none⟩ = some v3) := fun W hW => cell_kept hW d3
      have HQ2 := Lib.hid q2
      have HQ3 := Lib.hid q3
      have HBD2 := Lib.hid (HBD.out k hkl)
      have hkm : (k : Int) < (x.Marks.length : Int) := by omega
      have hkr : (k : Int) < (x.Rows.length : Int) := by omega
      have HW : Hid (∀ W : World, Below w2.heap.size w2 W → Below w.heap.size w W) := fun W hW => below_step HB.out hW
      have HB0 : Hid (∀ W : World, Below w2.heap.size w2 W → W.cell? ⟨w.heap.size, 0, none⟩ = some (.string x.Input)) := fun W hW => (HBX.out.kept hW).cell 0 rfl
      have HB1' : Hid (∀ W : World, Below w2.heap.size w2 W → W.cell? ⟨w.heap.size, 1, none⟩ = some (.slice A1 x.Names.length c1)) := fun W hW => (HBX.out.kept hW).cell 1 rfl
      have HB2 : Hid (∀ W : World, Below w2.heap.size w2 W → W.cell? ⟨w.heap.size, 2, none⟩ = some (.slice (some ⟨g2, o2, none⟩) x.Rows.length c2)) := fun W hW => (HBX.out.kept hW).cell 2 rfl
      have HB3 : Hid (∀ W : World, Below w2.heap.size w2 W → W.cell? ⟨w.heap.size, 3, none⟩ = some (.slice (some ⟨g3, o3, none⟩) x.Marks.length c3)) := fun W hW => (HBX.out.kept hW).cell 3 rfl
      have HIN : Hid (∀ W, Below w2.heap.size w2 W → Calls Tryz.prog 56 #[.agg #[v2]] W fun e w' => e = .returned (.string (inT c.Links)) ∧ Below W.heap.size W w') := fun W hW => HSI.out c v2 G2 W HL.out (HQ2.out.kept hW)
      have HIC : Hid (∀ W, Below w2.heap.size w2 W → Calls Tryz.prog 57 #[.agg #[v2]] W fun e w' => e = .returned (.bool (isCd c.Links)) ∧ Below W.heap.size W w') := fun W hW => HSC.out c v2 G2 W HL.out (HQ2.out.kept hW)
      have HPF : Hid (∀ W, Below w2.heap.size w2 W → Calls Tryz.prog 37 #[.slice A1 x.Names.length c1, .agg #[v2]] W (IntPost (profN x.Names c.Links) W)) := fun W hW => HSP.out c v2 G2 W HL.out (HW.out W hW) (HQ2.out.kept hW)
      have HSE : Hid (∀ W (u : Value) (G : Addr → Prop), Below w2.heap.size w2 W → RowRd Rep.int false W u (profN x.Names c.Links) G → Calls Tryz.prog 58 #[v3, u] W fun e w' => e = .returned (.bool (decide (m = profN x.Names c.Links))) ∧ Below W.heap.size W w') := fun W u G hW hu => specL11_any v3 u m _ G3 G W (HQ3.out.kept hW) hu
      have hne : ((inT c.Links).toList == x.Input.toList) = decide (inT c.Links = x.Input) := txt_eq _ _
      have HRO : Hid (rowAt x k = (isCd c.Links && (decide (inT c.Links = x.Input) && decide (m = profN x.Names c.Links)))) := HRK.out
      obtain ⟨A2', cp2, rfl⟩ := q2.form
      obtain ⟨A3', cp3, rfl⟩ := q3.form
      clear hc hmk hr2' hr3' hc2 hc3 d2 d3 q2 q3 HRK HQ2 HQ3 HL HSI HSC HSP HZ4 HX2 HX3 HRA
      generalize hbi : decide (inT c.Links = x.Input) = bi at *
      generalize hbc : isCd c.Links = bc at *
      generalize hbm : decide (m = profN x.Names c.Links) = bm at *
      clear hbi hbc hbm
      have b2 := HB2.out _ (Below.refl _ _)
      go_upto_region 6 with fail
      clear b2
      go_cut [71] (fun b wx => b = .bool (!rowAt x k) ∧ Below w2.heap.size w2 wx)
      case first =>
        refine wp_region_held_drew (S := fun w' => Below w2.heap.size w2 w') (by kernel_rfl) ((Below.refl _ _).drew) (fun hHeld => ?_)
        cases bi
        · refine' wpAnyH_take (i := 0) (oi := _) (v := ?v1) rfl ?hs1 ?hf1 ?hr1 ?hQ1 (Or.inl ⟨?hw1, ?hy1⟩) hHeld ?rest1
          case hs1 => kernel_rfl
          case hf1 => kernel_rfl
          case hr1 => kernel_rfl
          case hQ1 => exact fun _ _ _ h => h
          case hw1 => kernel_rfl
          case hy1 => (intro w' hw'; go_simp; try with_reducible rfl)
          (try change wpAnyH _ _ _ _ _ _ _ (Act.put _ (some 37) _) _)
          try simp only [Act.put, List.setIfInBounds_toArray, List.set_cons_zero, List.set_cons_succ]
          refine' wpAnyH_take (i := 1) (oi := _) (v := ?v2) rfl ?hs2 ?hf2 ?hr2 ?hQ2 (Or.inl ⟨?hw2, ?hy2⟩) hHeld ?rest2
          case hs2 => kernel_rfl
          case hf2 => kernel_rfl
          case hr2 => kernel_rfl
          case hQ2 => exact fun _ _ _ h => h
          case hw2 => kernel_rfl
          case hy2 => (intro w' hw'; have c0 := HB0.out _ hw'; have c1' := HB1'.out _ hw'; have c2' := HB2.out _ hw'; have c3' := HB3.out _ hw'; have c4' := HC2.out _ hw'; have c5' := HC3.out _ hw'; go_simp; try with_reducible rfl)
          (try change wpAnyH _ _ _ _ _ _ _ (Act.put _ (some 38) _) _)
          try simp only [Act.put, List.setIfInBounds_toArray, List.set_cons_zero, List.set_cons_succ]
          refine' wpAnyH_take (i := 2) (oi := _) (v := ?v3) rfl ?hs3 ?hf3 ?hr3 ?hQ3 (Or.inl ⟨?hw3, ?hy3⟩) hHeld ?rest3
          case hs3 => kernel_rfl
          case hf3 => kernel_rfl
          case hr3 => kernel_rfl
          case hQ3 => exact fun _ _ _ h => h
          case hw3 => kernel_rfl
          case hy3 => (intro w' hw'; go_simp; try with_reducible rfl)
          (try change wpAnyH _ _ _ _ _ _ _ (Act.put _ (some 39) _) _)
          try simp only [Act.put, List.setIfInBounds_toArray, List.set_cons_zero, List.set_cons_succ]
          refine' wpAnyH_take (i := 3) (oi := _) (v := ?v4) rfl ?hs4 ?hf4 ?hr4 ?hQ4 (Or.inl ⟨?hw4, ?hy4⟩) hHeld ?rest4
          case hs4 => kernel_rfl
          case hf4 => kernel_rfl
          case hr4 => kernel_rfl
          case hQ4 => exact fun _ _ _ h => h
          case hw4 => kernel_rfl
          case hy4 => (intro w' hw'; go_simp; try with_reducible rfl)
          (try change wpAnyH _ _ _ _ _ _ _ (Act.put _ (some 40) _) _)
          try simp only [Act.put, List.setIfInBounds_toArray, List.set_cons_zero, List.set_cons_succ]
          refine' wpAnyH_take (i := 4) (oi := _) (v := ?v5) rfl ?hs5 ?hf5 ?hr5 ?hQ5 (Or.inl ⟨?hw5, ?hy5⟩) hHeld ?rest5
          case hs5 => kernel_rfl
          case hf5 => kernel_rfl
          case hr5 => kernel_rfl
          case hQ5 => exact fun _ _ _ h => h
          case hw5 => kernel_rfl
          case hy5 => (intro w' hw'; have c0 := HB0.out _ hw'; have c1' := HB1'.out _ hw'; have c2' := HB2.out _ hw'; have c3' := HB3.out _ hw'; have c4' := HC2.out _ hw'; have c5' := HC3.out _ hw'; go_simp; try with_reducible rfl)
          (try change wpAnyH _ _ _ _ _ _ _ (Act.put _ (some 41) _) _)
          try simp only [Act.put, List.setIfInBounds_toArray, List.set_cons_zero, List.set_cons_succ]
          refine' wpAnyH_take (i := 6) (oi := _) (v := ?v6) rfl ?hs6 ?hf6 ?hr6 ?hQ6 (Or.inl ⟨?hw6, ?hy6⟩) hHeld ?rest6
          case hs6 => kernel_rfl
          case hf6 => kernel_rfl
          case hr6 => kernel_rfl
          case hQ6 => exact fun _ _ _ h => h
          case hw6 => kernel_rfl
          case hy6 => (intro w' hw'; go_simp; try with_reducible rfl)
          (try change wpAnyH _ _ _ _ _ _ _ (Act.put _ (some 43) _) _)
          try simp only [Act.put, List.setIfInBounds_toArray, List.set_cons_zero, List.set_cons_succ]
          refine' wpAnyH_take (i := 7) (oi := _) (v := ?v7) rfl ?hs7 ?hf7 ?hr7 ?hQ7 (Or.inl ⟨?hw7, ?hy7⟩) hHeld ?rest7
          case hs7 => kernel_rfl
          case hf7 => kernel_rfl
          case hr7 => kernel_rfl
          case hQ7 => exact fun _ _ _ h => h
          case hw7 => kernel_rfl
          case hy7 => (intro w' hw'; have c0 := HB0.out _ hw'; have c1' := HB1'.out _ hw'; have c2' := HB2.out _ hw'; have c3' := HB3.out _ hw'; have c4' := HC2.out _ hw'; have c5' := HC3.out _ hw'; go_simp; try with_reducible rfl)
          (try change wpAnyH _ _ _ _ _ _ _ (Act.put _ (some 44) _) _)
          try simp only [Act.put, List.setIfInBounds_toArray, List.set_cons_zero, List.set_cons_succ]
          refine wpAnyH_ready (rs := [5]) (by kernel_rfl) (by simp) ?_
          refine AllReadyH.cons rfl (fun K hK => ?_) AllReadyH.nil
          go_simp
          go_at_call 56; refine (HIN.out _ hHeld).mono ?_; rintro e wa ⟨rfl, hba⟩; have hbe := below_step hHeld hba; clear hba
          (try go_wp2_with fail)
          refine hK.out _ _ hbe (fun hHeld => ?_)
          clear hK K
          try simp only [Act.put, List.setIfInBounds_toArray, List.set_cons_zero, List.set_cons_succ]
          refine' wpAnyH_take (i := 8) (oi := _) (v := ?v8) rfl ?hs8 ?hf8 ?hr8 ?hQ8 (Or.inl ⟨?hw8, ?hy8⟩) hHeld ?rest8
          case hs8 => kernel_rfl
          case hf8 => kernel_rfl
          case hr8 => kernel_rfl
          case hQ8 => exact fun _ _ _ h => h
          case hw8 => kernel_rfl
          case hy8 => (intro w' hw'; go_simp; try with_reducible rfl)
          (try change wpAnyH _ _ _ _ _ _ _ (Act.put _ (some 45) _) _)
          try simp only [Act.put, List.setIfInBounds_toArray, List.set_cons_zero, List.set_cons_succ]
          refine' wpAnyH_take (i := 9) (oi := _) (v := ?v9) rfl ?hs9 ?hf9 ?hr9 ?hQ9 (Or.inl ⟨?hw9, ?hy9⟩) hHeld ?rest9
          case hs9 => kernel_rfl
          case hf9 => kernel_rfl
          case hr9 => kernel_rfl
          case hQ9 => exact fun _ _ _ h => h
          case hw9 => kernel_rfl
          case hy9 => (intro w' hw'; go_simp; try with_reducible rfl)
          (try change wpAnyH _ _ _ _ _ _ _ (Act.put _ (some 46) _) _)
          try simp only [Act.put, List.setIfInBounds_toArray, List.set_cons_zero, List.set_cons_succ]
          refine' wpAnyH_take (i := 10) (oi := _) (v := undef) rfl ?hs10 ?hf10 ?hr10 ?hQ10 (Or.inr ⟨?hw10, rfl⟩) hHeld ?rest10
          case hs10 => kernel_rfl
          case hf10 => kernel_rfl
          case hr10 => kernel_rfl
          case hQ10 => exact fun _ _ _ h => h
          case hw10 => kernel_rfl
          (try change wpAnyH _ _ _ _ _ _ _ (Act.put _ (some 47) _) _)
          try simp only [Act.put, List.setIfInBounds_toArray, List.set_cons_zero, List.set_cons_succ]
          refine' wpAnyH_take (i := 11) (oi := _) (v := undef) rfl ?hs11 ?hf11 ?hr11 ?hQ11 (Or.inr ⟨?hw11, rfl⟩) hHeld ?rest11
          case hs11 => kernel_rfl
          case hf11 => kernel_rfl
          case hr11 => kernel_rfl
          case hQ11 => exact fun _ _ _ h => h
          case hw11 => kernel_rfl
          (try change wpAnyH _ _ _ _ _ _ _ (Act.put _ (some 48) _) _)
          try simp only [Act.put, List.setIfInBounds_toArray, List.set_cons_zero, List.set_cons_succ]
          refine' wpAnyH_take (i := 12) (oi := _) (v := undef) rfl ?hs12 ?hf12 ?hr12 ?hQ12 (Or.inr ⟨?hw12, rfl⟩) hHeld ?rest12
          case hs12 => kernel_rfl
          case hf12 => kernel_rfl
          case hr12 => kernel_rfl
          case hQ12 => exact fun _ _ _ h => h
          case hw12 => kernel_rfl
          (try change wpAnyH _ _ _ _ _ _ _ (Act.put _ (some 49) _) _)
          try simp only [Act.put, List.setIfInBounds_toArray, List.set_cons_zero, List.set_cons_succ]
          refine' wpAnyH_take (i := 13) (oi := _) (v := undef) rfl ?hs13 ?hf13 ?hr13 ?hQ13 (Or.inr ⟨?hw13, rfl⟩) hHeld ?rest13
          case hs13 => kernel_rfl
          case hf13 => kernel_rfl
          case hr13 => kernel_rfl
          case hQ13 => exact fun _ _ _ h => h
          case hw13 => kernel_rfl
          (try change wpAnyH _ _ _ _ _ _ _ (Act.put _ (some 50) _) _)
          try simp only [Act.put, List.setIfInBounds_toArray, List.set_cons_zero, List.set_cons_succ]
          refine' wpAnyH_take (i := 14) (oi := _) (v := undef) rfl ?hs14 ?hf14 ?hr14 ?hQ14 (Or.inr ⟨?hw14, rfl⟩) hHeld ?rest14
          case hs14 => kernel_rfl
          case hf14 => kernel_rfl
          case hr14 => kernel_rfl
          case hQ14 => exact fun _ _ _ h => h
          case hw14 => kernel_rfl
          (try change wpAnyH _ _ _ _ _ _ _ (Act.put _ (some 51) _) _)
          try simp only [Act.put, List.setIfInBounds_toArray, List.set_cons_zero, List.set_cons_succ]
          refine' wpAnyH_take (i := 15) (oi := _) (v := undef) rfl ?hs15 ?hf15 ?hr15 ?hQ15 (Or.inr ⟨?hw15, rfl⟩) hHeld ?rest15
          case hs15 => kernel_rfl
          case hf15 => kernel_rfl
          case hr15 => kernel_rfl
          case hQ15 => exact fun _ _ _ h => h
          case hw15 => kernel_rfl
          (try change wpAnyH _ _ _ _ _ _ _ (Act.put _ (some 52) _) _)
          try simp only [Act.put, List.setIfInBounds_toArray, List.set_cons_zero, List.set_cons_succ]
          refine' wpAnyH_take (i := 16) (oi := _) (v := undef) rfl ?hs16 ?hf16 ?hr16 ?hQ16 (Or.inr ⟨?hw16, rfl⟩) hHeld ?rest16
          case hs16 => kernel_rfl
          case hf16 => kernel_rfl
          case hr16 => kernel_rfl
          case hQ16 => exact fun _ _ _ h => h
          case hw16 => kernel_rfl
          (try change wpAnyH _ _ _ _ _ _ _ (Act.put _ (some 53) _) _)
          try simp only [Act.put, List.setIfInBounds_toArray, List.set_cons_zero, List.set_cons_succ]
          refine' wpAnyH_take (i := 17) (oi := _) (v := ?v17) rfl ?hs17 ?hf17 ?hr17 ?hQ17 (Or.inl ⟨?hw17, ?hy17⟩) hHeld ?rest17
          case hs17 => kernel_rfl
          case hf17 => kernel_rfl
          case hr17 => kernel_rfl
          case hQ17 => exact fun _ _ _ h => h
          case hw17 => kernel_rfl
          case hy17 => (intro w' hw'; go_simp; try with_reducible rfl)
          (try change wpAnyH _ _ _ _ _ _ _ (Act.put _ (some 54) _) _)
          try simp only [Act.put, List.setIfInBounds_toArray, List.set_cons_zero, List.set_cons_succ]
          refine' wpAnyH_take (i := 18) (oi := _) (v := ?v18) rfl ?hs18 ?hf18 ?hr18 ?hQ18 (Or.inl ⟨?hw18, ?hy18⟩) hHeld ?rest18
          case hs18 => kernel_rfl
          case hf18 => kernel_rfl
          case hr18 => kernel_rfl
          case hQ18 => exact fun _ _ _ h => h
          case hw18 => kernel_rfl
          case hy18 => (intro w' hw'; go_simp; try with_reducible rfl)
          (try change wpAnyH _ _ _ _ _ _ _ (Act.put _ (some 55) _) _)
          try simp only [Act.put, List.setIfInBounds_toArray, List.set_cons_zero, List.set_cons_succ]
          refine' wpAnyH_take (i := 19) (oi := _) (v := undef) rfl ?hs19 ?hf19 ?hr19 ?hQ19 (Or.inr ⟨?hw19, rfl⟩) hHeld ?rest19
          case hs19 => kernel_rfl
          case hf19 => kernel_rfl
          case hr19 => kernel_rfl
          case hQ19 => exact fun _ _ _ h => h
          case hw19 => kernel_rfl
          (try change wpAnyH _ _ _ _ _ _ _ (Act.put _ (some 56) _) _)
          try simp only [Act.put, List.setIfInBounds_toArray, List.set_cons_zero, List.set_cons_succ]
          refine' wpAnyH_take (i := 20) (oi := _) (v := undef) rfl ?hs20 ?hf20 ?hr20 ?hQ20 (Or.inr ⟨?hw20, rfl⟩) hHeld ?rest20
          case hs20 => kernel_rfl
          case hf20 => kernel_rfl
          case hr20 => kernel_rfl
          case hQ20 => exact fun _ _ _ h => h
          case hw20 => kernel_rfl
          (try change wpAnyH _ _ _ _ _ _ _ (Act.put _ (some 57) _) _)
          try simp only [Act.put, List.setIfInBounds_toArray, List.set_cons_zero, List.set_cons_succ]
          refine' wpAnyH_take (i := 21) (oi := _) (v := undef) rfl ?hs21 ?hf21 ?hr21 ?hQ21 (Or.inr ⟨?hw21, rfl⟩) hHeld ?rest21
          case hs21 => kernel_rfl
          case hf21 => kernel_rfl
          case hr21 => kernel_rfl
          case hQ21 => exact fun _ _ _ h => h
          case hw21 => kernel_rfl
          (try change wpAnyH _ _ _ _ _ _ _ (Act.put _ (some 58) _) _)
          try simp only [Act.put, List.setIfInBounds_toArray, List.set_cons_zero, List.set_cons_succ]
          refine' wpAnyH_take (i := 22) (oi := _) (v := undef) rfl ?hs22 ?hf22 ?hr22 ?hQ22 (Or.inr ⟨?hw22, rfl⟩) hHeld ?rest22
          case hs22 => kernel_rfl
          case hf22 => kernel_rfl
          case hr22 => kernel_rfl
          case hQ22 => exact fun _ _ _ h => h
          case hw22 => kernel_rfl
          (try change wpAnyH _ _ _ _ _ _ _ (Act.put _ (some 59) _) _)
          try simp only [Act.put, List.setIfInBounds_toArray, List.set_cons_zero, List.set_cons_succ]
          refine' wpAnyH_take (i := 23) (oi := _) (v := undef) rfl ?hs23 ?hf23 ?hr23 ?hQ23 (Or.inr ⟨?hw23, rfl⟩) hHeld ?rest23
          case hs23 => kernel_rfl
          case hf23 => kernel_rfl
          case hr23 => kernel_rfl
          case hQ23 => exact fun _ _ _ h => h
          case hw23 => kernel_rfl
          (try change wpAnyH _ _ _ _ _ _ _ (Act.put _ (some 60) _) _)
          try simp only [Act.put, List.setIfInBounds_toArray, List.set_cons_zero, List.set_cons_succ]
          refine' wpAnyH_take (i := 24) (oi := _) (v := undef) rfl ?hs24 ?hf24 ?hr24 ?hQ24 (Or.inr ⟨?hw24, rfl⟩) hHeld ?rest24
          case hs24 => kernel_rfl
          case hf24 => kernel_rfl
          case hr24 => kernel_rfl
          case hQ24 => exact fun _ _ _ h => h
          case hw24 => kernel_rfl
          (try change wpAnyH _ _ _ _ _ _ _ (Act.put _ (some 61) _) _)
          try simp only [Act.put, List.setIfInBounds_toArray, List.set_cons_zero, List.set_cons_succ]
          refine' wpAnyH_take (i := 25) (oi := _) (v := undef) rfl ?hs25 ?hf25 ?hr25 ?hQ25 (Or.inr ⟨?hw25, rfl⟩) hHeld ?rest25
          case hs25 => kernel_rfl
          case hf25 => kernel_rfl
          case hr25 => kernel_rfl
          case hQ25 => exact fun _ _ _ h => h
          case hw25 => kernel_rfl
          (try change wpAnyH _ _ _ _ _ _ _ (Act.put _ (some 62) _) _)
          try simp only [Act.put, List.setIfInBounds_toArray, List.set_cons_zero, List.set_cons_succ]
          refine' wpAnyH_take (i := 26) (oi := _) (v := undef) rfl ?hs26 ?hf26 ?hr26 ?hQ26 (Or.inr ⟨?hw26, rfl⟩) hHeld ?rest26
          case hs26 => kernel_rfl
          case hf26 => kernel_rfl
          case hr26 => kernel_rfl
          case hQ26 => exact fun _ _ _ h => h
          case hw26 => kernel_rfl
          (try change wpAnyH _ _ _ _ _ _ _ (Act.put _ (some 63) _) _)
          try simp only [Act.put, List.setIfInBounds_toArray, List.set_cons_zero, List.set_cons_succ]
          refine' wpAnyH_take (i := 27) (oi := _) (v := undef) rfl ?hs27 ?hf27 ?hr27 ?hQ27 (Or.inr ⟨?hw27, rfl⟩) hHeld ?rest27
          case hs27 => kernel_rfl
          case hf27 => kernel_rfl
          case hr27 => kernel_rfl
          case hQ27 => exact fun _ _ _ h => h
          case hw27 => kernel_rfl
          (try change wpAnyH _ _ _ _ _ _ _ (Act.put _ (some 64) _) _)
          try simp only [Act.put, List.setIfInBounds_toArray, List.set_cons_zero, List.set_cons_succ]
          refine' wpAnyH_take (i := 28) (oi := _) (v := undef) rfl ?hs28 ?hf28 ?hr28 ?hQ28 (Or.inr ⟨?hw28, rfl⟩) hHeld ?rest28
          case hs28 => kernel_rfl
          case hf28 => kernel_rfl
          case hr28 => kernel_rfl
          case hQ28 => exact fun _ _ _ h => h
          case hw28 => kernel_rfl
          (try change wpAnyH _ _ _ _ _ _ _ (Act.put _ (some 65) _) _)
          try simp only [Act.put, List.setIfInBounds_toArray, List.set_cons_zero, List.set_cons_succ]
          refine' wpAnyH_take (i := 29) (oi := _) (v := undef) rfl ?hs29 ?hf29 ?hr29 ?hQ29 (Or.inr ⟨?hw29, rfl⟩) hHeld ?rest29
          case hs29 => kernel_rfl
          case hf29 => kernel_rfl
          case hr29 => kernel_rfl
          case hQ29 => exact fun _ _ _ h => h
          case hw29 => kernel_rfl
          (try change wpAnyH _ _ _ _ _ _ _ (Act.put _ (some 66) _) _)
          try simp only [Act.put, List.setIfInBounds_toArray, List.set_cons_zero, List.set_cons_succ]
          refine' wpAnyH_take (i := 30) (oi := _) (v := undef) rfl ?hs30 ?hf30 ?hr30 ?hQ30 (Or.inr ⟨?hw30, rfl⟩) hHeld ?rest30
          case hs30 => kernel_rfl
          case hf30 => kernel_rfl
          case hr30 => kernel_rfl
          case hQ30 => exact fun _ _ _ h => h
          case hw30 => kernel_rfl
          (try change wpAnyH _ _ _ _ _ _ _ (Act.put _ (some 67) _) _)
          try simp only [Act.put, List.setIfInBounds_toArray, List.set_cons_zero, List.set_cons_succ]
          refine' wpAnyH_take (i := 31) (oi := _) (v := undef) rfl ?hs31 ?hf31 ?hr31 ?hQ31 (Or.inr ⟨?hw31, rfl⟩) hHeld ?rest31
          case hs31 => kernel_rfl
          case hf31 => kernel_rfl
          case hr31 => kernel_rfl
          case hQ31 => exact fun _ _ _ h => h
          case hw31 => kernel_rfl
          (try change wpAnyH _ _ _ _ _ _ _ (Act.put _ (some 68) _) _)
          try simp only [Act.put, List.setIfInBounds_toArray, List.set_cons_zero, List.set_cons_succ]
          refine' wpAnyH_take (i := 32) (oi := _) (v := undef) rfl ?hs32 ?hf32 ?hr32 ?hQ32 (Or.inr ⟨?hw32, rfl⟩) hHeld ?rest32
          case hs32 => kernel_rfl
          case hf32 => kernel_rfl
          case hr32 => kernel_rfl
          case hQ32 => exact fun _ _ _ h => h
          case hw32 => kernel_rfl
          (try change wpAnyH _ _ _ _ _ _ _ (Act.put _ (some 69) _) _)
          try simp only [Act.put, List.setIfInBounds_toArray, List.set_cons_zero, List.set_cons_succ]
          refine' wpAnyH_take (i := 33) (oi := _) (v := undef) rfl ?hs33 ?hf33 ?hr33 ?hQ33 (Or.inr ⟨?hw33, rfl⟩) hHeld ?rest33
          case hs33 => kernel_rfl
          case hf33 => kernel_rfl
          case hr33 => kernel_rfl
          case hQ33 => exact fun _ _ _ h => h
          case hw33 => kernel_rfl
          (try change wpAnyH _ _ _ _ _ _ _ (Act.put _ (some 70) _) _)
          try simp only [Act.put, List.setIfInBounds_toArray, List.set_cons_zero, List.set_cons_succ]
          refine' wpAnyH_take (i := 34) (oi := _) (v := ?v34) rfl ?hs34 ?hf34 ?hr34 ?hQ34 (Or.inl ⟨?hw34, ?hy34⟩) hHeld ?rest34
          case hs34 => kernel_rfl
          case hf34 => kernel_rfl
          case hr34 => kernel_rfl
          case hQ34 => exact fun _ _ _ h => h
          case hw34 => kernel_rfl
          case hy34 => (intro w' hw'; go_simp; try with_reducible rfl)
          (try change wpAnyH _ _ _ _ _ _ _ (Act.put _ (some 71) _) _)
          try simp only [Act.put, List.setIfInBounds_toArray, List.set_cons_zero, List.set_cons_succ]
          refine wpAnyH_done ?hdone35 ?hq35 _
          case hdone35 => kernel_rfl
          go_wp2_with fail
          go_meet
          exact ⟨by rw [HRO.out]; first | rfl | simp, hHeld⟩
        · cases bc
          · refine' wpAnyH_take (i := 0) (oi := _) (v := ?v36) rfl ?hs36 ?hf36 ?hr36 ?hQ36 (Or.inl ⟨?hw36, ?hy36⟩) hHeld ?rest36
            case hs36 => kernel_rfl
            case hf36 => kernel_rfl
            case hr36 => kernel_rfl
            case hQ36 => exact fun _ _ _ h => h
            case hw36 => kernel_rfl
            case hy36 => (intro w' hw'; go_simp; try with_reducible rfl)
            (try change wpAnyH _ _ _ _ _ _ _ (Act.put _ (some 37) _) _)
            try simp only [Act.put, List.setIfInBounds_toArray, List.set_cons_zero, List.set_cons_succ]
            refine' wpAnyH_take (i := 1) (oi := _) (v := ?v37) rfl ?hs37 ?hf37 ?hr37 ?hQ37 (Or.inl ⟨?hw37, ?hy37⟩) hHeld ?rest37
            case hs37 => kernel_rfl
            case hf37 => kernel_rfl
            case hr37 => kernel_rfl
            case hQ37 => exact fun _ _ _ h => h
            case hw37 => kernel_rfl
            case hy37 => (intro w' hw'; have c0 := HB0.out _ hw'; have c1' := HB1'.out _ hw'; have c2' := HB2.out _ hw'; have c3' := HB3.out _ hw'; have c4' := HC2.out _ hw'; have c5' := HC3.out _ hw'; go_simp; try with_reducible rfl)
            (try change wpAnyH _ _ _ _ _ _ _ (Act.put _ (some 38) _) _)
            try simp only [Act.put, List.setIfInBounds_toArray, List.set_cons_zero, List.set_cons_succ]
            refine' wpAnyH_take (i := 2) (oi := _) (v := ?v38) rfl ?hs38 ?hf38 ?hr38 ?hQ38 (Or.inl ⟨?hw38, ?hy38⟩) hHeld ?rest38
            case hs38 => kernel_rfl
            case hf38 => kernel_rfl
            case hr38 => kernel_rfl
            case hQ38 => exact fun _ _ _ h => h
            case hw38 => kernel_rfl
            case hy38 => (intro w' hw'; go_simp; try with_reducible rfl)
            (try change wpAnyH _ _ _ _ _ _ _ (Act.put _ (some 39) _) _)
            try simp only [Act.put, List.setIfInBounds_toArray, List.set_cons_zero, List.set_cons_succ]
            refine' wpAnyH_take (i := 3) (oi := _) (v := ?v39) rfl ?hs39 ?hf39 ?hr39 ?hQ39 (Or.inl ⟨?hw39, ?hy39⟩) hHeld ?rest39
            case hs39 => kernel_rfl
            case hf39 => kernel_rfl
            case hr39 => kernel_rfl
            case hQ39 => exact fun _ _ _ h => h
            case hw39 => kernel_rfl
            case hy39 => (intro w' hw'; go_simp; try with_reducible rfl)
            (try change wpAnyH _ _ _ _ _ _ _ (Act.put _ (some 40) _) _)
            try simp only [Act.put, List.setIfInBounds_toArray, List.set_cons_zero, List.set_cons_succ]
            refine' wpAnyH_take (i := 4) (oi := _) (v := ?v40) rfl ?hs40 ?hf40 ?hr40 ?hQ40 (Or.inl ⟨?hw40, ?hy40⟩) hHeld ?rest40
            case hs40 => kernel_rfl
            case hf40 => kernel_rfl
            case hr40 => kernel_rfl
            case hQ40 => exact fun _ _ _ h => h
            case hw40 => kernel_rfl
            case hy40 => (intro w' hw'; have c0 := HB0.out _ hw'; have c1' := HB1'.out _ hw'; have c2' := HB2.out _ hw'; have c3' := HB3.out _ hw'; have c4' := HC2.out _ hw'; have c5' := HC3.out _ hw'; go_simp; try with_reducible rfl)
            (try change wpAnyH _ _ _ _ _ _ _ (Act.put _ (some 41) _) _)
            try simp only [Act.put, List.setIfInBounds_toArray, List.set_cons_zero, List.set_cons_succ]
            refine' wpAnyH_take (i := 6) (oi := _) (v := ?v41) rfl ?hs41 ?hf41 ?hr41 ?hQ41 (Or.inl ⟨?hw41, ?hy41⟩) hHeld ?rest41
            case hs41 => kernel_rfl
            case hf41 => kernel_rfl
            case hr41 => kernel_rfl
            case hQ41 => exact fun _ _ _ h => h
            case hw41 => kernel_rfl
            case hy41 => (intro w' hw'; go_simp; try with_reducible rfl)
            (try change wpAnyH _ _ _ _ _ _ _ (Act.put _ (some 43) _) _)
            try simp only [Act.put, List.setIfInBounds_toArray, List.set_cons_zero, List.set_cons_succ]
            refine' wpAnyH_take (i := 7) (oi := _) (v := ?v42) rfl ?hs42 ?hf42 ?hr42 ?hQ42 (Or.inl ⟨?hw42, ?hy42⟩) hHeld ?rest42
            case hs42 => kernel_rfl
            case hf42 => kernel_rfl
            case hr42 => kernel_rfl
            case hQ42 => exact fun _ _ _ h => h
            case hw42 => kernel_rfl
            case hy42 => (intro w' hw'; have c0 := HB0.out _ hw'; have c1' := HB1'.out _ hw'; have c2' := HB2.out _ hw'; have c3' := HB3.out _ hw'; have c4' := HC2.out _ hw'; have c5' := HC3.out _ hw'; go_simp; try with_reducible rfl)
            (try change wpAnyH _ _ _ _ _ _ _ (Act.put _ (some 44) _) _)
            try simp only [Act.put, List.setIfInBounds_toArray, List.set_cons_zero, List.set_cons_succ]
            refine wpAnyH_ready (rs := [5]) (by kernel_rfl) (by simp) ?_
            refine AllReadyH.cons rfl (fun K hK => ?_) AllReadyH.nil
            go_simp
            go_at_call 56; refine (HIN.out _ hHeld).mono ?_; rintro e wa ⟨rfl, hba⟩; have hbe := below_step hHeld hba; clear hba
            (try go_wp2_with fail)
            refine hK.out _ _ hbe (fun hHeld => ?_)
            clear hK K
            try simp only [Act.put, List.setIfInBounds_toArray, List.set_cons_zero, List.set_cons_succ]
            refine' wpAnyH_take (i := 8) (oi := _) (v := ?v43) rfl ?hs43 ?hf43 ?hr43 ?hQ43 (Or.inl ⟨?hw43, ?hy43⟩) hHeld ?rest43
            case hs43 => kernel_rfl
            case hf43 => kernel_rfl
            case hr43 => kernel_rfl
            case hQ43 => exact fun _ _ _ h => h
            case hw43 => kernel_rfl
            case hy43 => (intro w' hw'; go_simp; try with_reducible rfl)
            (try change wpAnyH _ _ _ _ _ _ _ (Act.put _ (some 45) _) _)
            try simp only [Act.put, List.setIfInBounds_toArray, List.set_cons_zero, List.set_cons_succ]
            refine' wpAnyH_take (i := 9) (oi := _) (v := ?v44) rfl ?hs44 ?hf44 ?hr44 ?hQ44 (Or.inl ⟨?hw44, ?hy44⟩) hHeld ?rest44
            case hs44 => kernel_rfl
            case hf44 => kernel_rfl
            case hr44 => kernel_rfl
            case hQ44 => exact fun _ _ _ h => h
            case hw44 => kernel_rfl
            case hy44 => (intro w' hw'; go_simp; try with_reducible rfl)
            (try change wpAnyH _ _ _ _ _ _ _ (Act.put _ (some 46) _) _)
            try simp only [Act.put, List.setIfInBounds_toArray, List.set_cons_zero, List.set_cons_succ]
            refine' wpAnyH_take (i := 10) (oi := _) (v := ?v45) rfl ?hs45 ?hf45 ?hr45 ?hQ45 (Or.inl ⟨?hw45, ?hy45⟩) hHeld ?rest45
            case hs45 => kernel_rfl
            case hf45 => kernel_rfl
            case hr45 => kernel_rfl
            case hQ45 => exact fun _ _ _ h => h
            case hw45 => kernel_rfl
            case hy45 => (intro w' hw'; go_simp; try with_reducible rfl)
            (try change wpAnyH _ _ _ _ _ _ _ (Act.put _ (some 47) _) _)
            try simp only [Act.put, List.setIfInBounds_toArray, List.set_cons_zero, List.set_cons_succ]
            refine' wpAnyH_take (i := 11) (oi := _) (v := ?v46) rfl ?hs46 ?hf46 ?hr46 ?hQ46 (Or.inl ⟨?hw46, ?hy46⟩) hHeld ?rest46
            case hs46 => kernel_rfl
            case hf46 => kernel_rfl
            case hr46 => kernel_rfl
            case hQ46 => exact fun _ _ _ h => h
            case hw46 => kernel_rfl
            case hy46 => (intro w' hw'; have c0 := HB0.out _ hw'; have c1' := HB1'.out _ hw'; have c2' := HB2.out _ hw'; have c3' := HB3.out _ hw'; have c4' := HC2.out _ hw'; have c5' := HC3.out _ hw'; go_simp; try with_reducible rfl)
            (try change wpAnyH _ _ _ _ _ _ _ (Act.put _ (some 48) _) _)
            try simp only [Act.put, List.setIfInBounds_toArray, List.set_cons_zero, List.set_cons_succ]
            refine' wpAnyH_take (i := 12) (oi := _) (v := ?v47) rfl ?hs47 ?hf47 ?hr47 ?hQ47 (Or.inl ⟨?hw47, ?hy47⟩) hHeld ?rest47
            case hs47 => kernel_rfl
            case hf47 => kernel_rfl
            case hr47 => kernel_rfl
            case hQ47 => exact fun _ _ _ h => h
            case hw47 => kernel_rfl
            case hy47 => (intro w' hw'; go_simp; try with_reducible rfl)
            (try change wpAnyH _ _ _ _ _ _ _ (Act.put _ (some 49) _) _)
            try simp only [Act.put, List.setIfInBounds_toArray, List.set_cons_zero, List.set_cons_succ]
            refine' wpAnyH_take (i := 13) (oi := _) (v := ?v48) rfl ?hs48 ?hf48 ?hr48 ?hQ48 (Or.inl ⟨?hw48, ?hy48⟩) hHeld ?rest48
            case hs48 => kernel_rfl
            case hf48 => kernel_rfl
            case hr48 => kernel_rfl
            case hQ48 => exact fun _ _ _ h => h
            case hw48 => kernel_rfl
            case hy48 => (intro w' hw'; go_simp; try with_reducible rfl)
            (try change wpAnyH _ _ _ _ _ _ _ (Act.put _ (some 50) _) _)
            try simp only [Act.put, List.setIfInBounds_toArray, List.set_cons_zero, List.set_cons_succ]
            refine' wpAnyH_take (i := 14) (oi := _) (v := ?v49) rfl ?hs49 ?hf49 ?hr49 ?hQ49 (Or.inl ⟨?hw49, ?hy49⟩) hHeld ?rest49
            case hs49 => kernel_rfl
            case hf49 => kernel_rfl
            case hr49 => kernel_rfl
            case hQ49 => exact fun _ _ _ h => h
            case hw49 => kernel_rfl
            case hy49 => (intro w' hw'; have c0 := HB0.out _ hw'; have c1' := HB1'.out _ hw'; have c2' := HB2.out _ hw'; have c3' := HB3.out _ hw'; have c4' := HC2.out _ hw'; have c5' := HC3.out _ hw'; go_simp; try with_reducible rfl)
            (try change wpAnyH _ _ _ _ _ _ _ (Act.put _ (some 51) _) _)
            try simp only [Act.put, List.setIfInBounds_toArray, List.set_cons_zero, List.set_cons_succ]
            refine wpAnyH_ready (rs := [15]) (by kernel_rfl) (by simp) ?_
            refine AllReadyH.cons rfl (fun K hK => ?_) AllReadyH.nil
            go_simp
            go_at_call 57; refine (HIC.out _ hHeld).mono ?_; rintro e wb ⟨rfl, hba⟩; have hbe := below_step hHeld hba; clear hba
            (try go_wp2_with fail)
            refine hK.out _ _ hbe (fun hHeld => ?_)
            clear hK K
            try simp only [Act.put, List.setIfInBounds_toArray, List.set_cons_zero, List.set_cons_succ]
            refine' wpAnyH_take (i := 16) (oi := _) (v := ?v50) rfl ?hs50 ?hf50 ?hr50 ?hQ50 (Or.inl ⟨?hw50, ?hy50⟩) hHeld ?rest50
            case hs50 => kernel_rfl
            case hf50 => kernel_rfl
            case hr50 => kernel_rfl
            case hQ50 => exact fun _ _ _ h => h
            case hw50 => kernel_rfl
            case hy50 => (intro w' hw'; go_simp; try with_reducible rfl)
            (try change wpAnyH _ _ _ _ _ _ _ (Act.put _ (some 53) _) _)
            try simp only [Act.put, List.setIfInBounds_toArray, List.set_cons_zero, List.set_cons_succ]
            refine' wpAnyH_take (i := 17) (oi := _) (v := ?v51) rfl ?hs51 ?hf51 ?hr51 ?hQ51 (Or.inl ⟨?hw51, ?hy51⟩) hHeld ?rest51
            case hs51 => kernel_rfl
            case hf51 => kernel_rfl
            case hr51 => kernel_rfl
            case hQ51 => exact fun _ _ _ h => h
            case hw51 => kernel_rfl
            case hy51 => (intro w' hw'; go_simp; try with_reducible rfl)
            (try change wpAnyH _ _ _ _ _ _ _ (Act.put _ (some 54) _) _)
            try simp only [Act.put, List.setIfInBounds_toArray, List.set_cons_zero, List.set_cons_succ]
            refine' wpAnyH_take (i := 18) (oi := _) (v := ?v52) rfl ?hs52 ?hf52 ?hr52 ?hQ52 (Or.inl ⟨?hw52, ?hy52⟩) hHeld ?rest52
            case hs52 => kernel_rfl
            case hf52 => kernel_rfl
            case hr52 => kernel_rfl
            case hQ52 => exact fun _ _ _ h => h
            case hw52 => kernel_rfl
            case hy52 => (intro w' hw'; go_simp; try with_reducible rfl)
            (try change wpAnyH _ _ _ _ _ _ _ (Act.put _ (some 55) _) _)
            try simp only [Act.put, List.setIfInBounds_toArray, List.set_cons_zero, List.set_cons_succ]
            refine' wpAnyH_take (i := 19) (oi := _) (v := undef) rfl ?hs53 ?hf53 ?hr53 ?hQ53 (Or.inr ⟨?hw53, rfl⟩) hHeld ?rest53
            case hs53 => kernel_rfl
            case hf53 => kernel_rfl
            case hr53 => kernel_rfl
            case hQ53 => exact fun _ _ _ h => h
            case hw53 => kernel_rfl
            (try change wpAnyH _ _ _ _ _ _ _ (Act.put _ (some 56) _) _)
            try simp only [Act.put, List.setIfInBounds_toArray, List.set_cons_zero, List.set_cons_succ]
            refine' wpAnyH_take (i := 20) (oi := _) (v := undef) rfl ?hs54 ?hf54 ?hr54 ?hQ54 (Or.inr ⟨?hw54, rfl⟩) hHeld ?rest54
            case hs54 => kernel_rfl
            case hf54 => kernel_rfl
            case hr54 => kernel_rfl
            case hQ54 => exact fun _ _ _ h => h
            case hw54 => kernel_rfl
            (try change wpAnyH _ _ _ _ _ _ _ (Act.put _ (some 57) _) _)
            try simp only [Act.put, List.setIfInBounds_toArray, List.set_cons_zero, List.set_cons_succ]
            refine' wpAnyH_take (i := 21) (oi := _) (v := undef) rfl ?hs55 ?hf55 ?hr55 ?hQ55 (Or.inr ⟨?hw55, rfl⟩) hHeld ?rest55
            case hs55 => kernel_rfl
            case hf55 => kernel_rfl
            case hr55 => kernel_rfl
            case hQ55 => exact fun _ _ _ h => h
            case hw55 => kernel_rfl
            (try change wpAnyH _ _ _ _ _ _ _ (Act.put _ (some 58) _) _)
            try simp only [Act.put, List.setIfInBounds_toArray, List.set_cons_zero, List.set_cons_succ]
            refine' wpAnyH_take (i := 22) (oi := _) (v := undef) rfl ?hs56 ?hf56 ?hr56 ?hQ56 (Or.inr ⟨?hw56, rfl⟩) hHeld ?rest56
            case hs56 => kernel_rfl
            case hf56 => kernel_rfl
            case hr56 => kernel_rfl
            case hQ56 => exact fun _ _ _ h => h
            case hw56 => kernel_rfl
            (try change wpAnyH _ _ _ _ _ _ _ (Act.put _ (some 59) _) _)
            try simp only [Act.put, List.setIfInBounds_toArray, List.set_cons_zero, List.set_cons_succ]
            refine' wpAnyH_take (i := 23) (oi := _) (v := undef) rfl ?hs57 ?hf57 ?hr57 ?hQ57 (Or.inr ⟨?hw57, rfl⟩) hHeld ?rest57
            case hs57 => kernel_rfl
            case hf57 => kernel_rfl
            case hr57 => kernel_rfl
            case hQ57 => exact fun _ _ _ h => h
            case hw57 => kernel_rfl
            (try change wpAnyH _ _ _ _ _ _ _ (Act.put _ (some 60) _) _)
            try simp only [Act.put, List.setIfInBounds_toArray, List.set_cons_zero, List.set_cons_succ]
            refine' wpAnyH_take (i := 24) (oi := _) (v := undef) rfl ?hs58 ?hf58 ?hr58 ?hQ58 (Or.inr ⟨?hw58, rfl⟩) hHeld ?rest58
            case hs58 => kernel_rfl
            case hf58 => kernel_rfl
            case hr58 => kernel_rfl
            case hQ58 => exact fun _ _ _ h => h
            case hw58 => kernel_rfl
            (try change wpAnyH _ _ _ _ _ _ _ (Act.put _ (some 61) _) _)
            try simp only [Act.put, List.setIfInBounds_toArray, List.set_cons_zero, List.set_cons_succ]
            refine' wpAnyH_take (i := 25) (oi := _) (v := undef) rfl ?hs59 ?hf59 ?hr59 ?hQ59 (Or.inr ⟨?hw59, rfl⟩) hHeld ?rest59
            case hs59 => kernel_rfl
            case hf59 => kernel_rfl
            case hr59 => kernel_rfl
            case hQ59 => exact fun _ _ _ h => h
            case hw59 => kernel_rfl
            (try change wpAnyH _ _ _ _ _ _ _ (Act.put _ (some 62) _) _)
            try simp only [Act.put, List.setIfInBounds_toArray, List.set_cons_zero, List.set_cons_succ]
            refine' wpAnyH_take (i := 26) (oi := _) (v := undef) rfl ?hs60 ?hf60 ?hr60 ?hQ60 (Or.inr ⟨?hw60, rfl⟩) hHeld ?rest60
            case hs60 => kernel_rfl
            case hf60 => kernel_rfl
            case hr60 => kernel_rfl
            case hQ60 => exact fun _ _ _ h => h
            case hw60 => kernel_rfl
            (try change wpAnyH _ _ _ _ _ _ _ (Act.put _ (some 63) _) _)
            try simp only [Act.put, List.setIfInBounds_toArray, List.set_cons_zero, List.set_cons_succ]
            refine' wpAnyH_take (i := 27) (oi := _) (v := undef) rfl ?hs61 ?hf61 ?hr61 ?hQ61 (Or.inr ⟨?hw61, rfl⟩) hHeld ?rest61
            case hs61 => kernel_rfl
            case hf61 => kernel_rfl
            case hr61 => kernel_rfl
            case hQ61 => exact fun _ _ _ h => h
            case hw61 => kernel_rfl
            (try change wpAnyH _ _ _ _ _ _ _ (Act.put _ (some 64) _) _)
            try simp only [Act.put, List.setIfInBounds_toArray, List.set_cons_zero, List.set_cons_succ]
            refine' wpAnyH_take (i := 28) (oi := _) (v := undef) rfl ?hs62 ?hf62 ?hr62 ?hQ62 (Or.inr ⟨?hw62, rfl⟩) hHeld ?rest62
            case hs62 => kernel_rfl
            case hf62 => kernel_rfl
            case hr62 => kernel_rfl
            case hQ62 => exact fun _ _ _ h => h
            case hw62 => kernel_rfl
            (try change wpAnyH _ _ _ _ _ _ _ (Act.put _ (some 65) _) _)
            try simp only [Act.put, List.setIfInBounds_toArray, List.set_cons_zero, List.set_cons_succ]
            refine' wpAnyH_take (i := 29) (oi := _) (v := undef) rfl ?hs63 ?hf63 ?hr63 ?hQ63 (Or.inr ⟨?hw63, rfl⟩) hHeld ?rest63
            case hs63 => kernel_rfl
            case hf63 => kernel_rfl
            case hr63 => kernel_rfl
            case hQ63 => exact fun _ _ _ h => h
            case hw63 => kernel_rfl
            (try change wpAnyH _ _ _ _ _ _ _ (Act.put _ (some 66) _) _)
            try simp only [Act.put, List.setIfInBounds_toArray, List.set_cons_zero, List.set_cons_succ]
            refine' wpAnyH_take (i := 30) (oi := _) (v := undef) rfl ?hs64 ?hf64 ?hr64 ?hQ64 (Or.inr ⟨?hw64, rfl⟩) hHeld ?rest64
            case hs64 => kernel_rfl
            case hf64 => kernel_rfl
            case hr64 => kernel_rfl
            case hQ64 => exact fun _ _ _ h => h
            case hw64 => kernel_rfl
            (try change wpAnyH _ _ _ _ _ _ _ (Act.put _ (some 67) _) _)
            try simp only [Act.put, List.setIfInBounds_toArray, List.set_cons_zero, List.set_cons_succ]
            refine' wpAnyH_take (i := 31) (oi := _) (v := undef) rfl ?hs65 ?hf65 ?hr65 ?hQ65 (Or.inr ⟨?hw65, rfl⟩) hHeld ?rest65
            case hs65 => kernel_rfl
            case hf65 => kernel_rfl
            case hr65 => kernel_rfl
            case hQ65 => exact fun _ _ _ h => h
            case hw65 => kernel_rfl
            (try change wpAnyH _ _ _ _ _ _ _ (Act.put _ (some 68) _) _)
            try simp only [Act.put, List.setIfInBounds_toArray, List.set_cons_zero, List.set_cons_succ]
            refine' wpAnyH_take (i := 32) (oi := _) (v := undef) rfl ?hs66 ?hf66 ?hr66 ?hQ66 (Or.inr ⟨?hw66, rfl⟩) hHeld ?rest66
            case hs66 => kernel_rfl
            case hf66 => kernel_rfl
            case hr66 => kernel_rfl
            case hQ66 => exact fun _ _ _ h => h
            case hw66 => kernel_rfl
            (try change wpAnyH _ _ _ _ _ _ _ (Act.put _ (some 69) _) _)
            try simp only [Act.put, List.setIfInBounds_toArray, List.set_cons_zero, List.set_cons_succ]
            refine' wpAnyH_take (i := 33) (oi := _) (v := undef) rfl ?hs67 ?hf67 ?hr67 ?hQ67 (Or.inr ⟨?hw67, rfl⟩) hHeld ?rest67
            case hs67 => kernel_rfl
            case hf67 => kernel_rfl
            case hr67 => kernel_rfl
            case hQ67 => exact fun _ _ _ h => h
            case hw67 => kernel_rfl
            (try change wpAnyH _ _ _ _ _ _ _ (Act.put _ (some 70) _) _)
            try simp only [Act.put, List.setIfInBounds_toArray, List.set_cons_zero, List.set_cons_succ]
            refine' wpAnyH_take (i := 34) (oi := _) (v := ?v68) rfl ?hs68 ?hf68 ?hr68 ?hQ68 (Or.inl ⟨?hw68, ?hy68⟩) hHeld ?rest68
            case hs68 => kernel_rfl
            case hf68 => kernel_rfl
            case hr68 => kernel_rfl
            case hQ68 => exact fun _ _ _ h => h
            case hw68 => kernel_rfl
            case hy68 => (intro w' hw'; go_simp; try with_reducible rfl)
            (try change wpAnyH _ _ _ _ _ _ _ (Act.put _ (some 71) _) _)
            try simp only [Act.put, List.setIfInBounds_toArray, List.set_cons_zero, List.set_cons_succ]
            refine wpAnyH_done ?hdone69 ?hq69 _
            case hdone69 => kernel_rfl
            go_wp2_with fail
            go_meet
            exact ⟨by rw [HRO.out]; first | rfl | simp, hHeld⟩
          · refine' wpAnyH_take (i := 0) (oi := _) (v := ?v70) rfl ?hs70 ?hf70 ?hr70 ?hQ70 (Or.inl ⟨?hw70, ?hy70⟩) hHeld ?rest70
            case hs70 => kernel_rfl
            case hf70 => kernel_rfl
            case hr70 => kernel_rfl
            case hQ70 => exact fun _ _ _ h => h
            case hw70 => kernel_rfl
            case hy70 => (intro w' hw'; go_simp; try with_reducible rfl)
            (try change wpAnyH _ _ _ _ _ _ _ (Act.put _ (some 37) _) _)
            try simp only [Act.put, List.setIfInBounds_toArray, List.set_cons_zero, List.set_cons_succ]
            refine' wpAnyH_take (i := 1) (oi := _) (v := ?v71) rfl ?hs71 ?hf71 ?hr71 ?hQ71 (Or.inl ⟨?hw71, ?hy71⟩) hHeld ?rest71
            case hs71 => kernel_rfl
            case hf71 => kernel_rfl
            case hr71 => kernel_rfl
            case hQ71 => exact fun _ _ _ h => h
            case hw71 => kernel_rfl
            case hy71 => (intro w' hw'; have c0 := HB0.out _ hw'; have c1' := HB1'.out _ hw'; have c2' := HB2.out _ hw'; have c3' := HB3.out _ hw'; have c4' := HC2.out _ hw'; have c5' := HC3.out _ hw'; go_simp; try with_reducible rfl)
            (try change wpAnyH _ _ _ _ _ _ _ (Act.put _ (some 38) _) _)
            try simp only [Act.put, List.setIfInBounds_toArray, List.set_cons_zero, List.set_cons_succ]
            refine' wpAnyH_take (i := 2) (oi := _) (v := ?v72) rfl ?hs72 ?hf72 ?hr72 ?hQ72 (Or.inl ⟨?hw72, ?hy72⟩) hHeld ?rest72
            case hs72 => kernel_rfl
            case hf72 => kernel_rfl
            case hr72 => kernel_rfl
            case hQ72 => exact fun _ _ _ h => h
            case hw72 => kernel_rfl
            case hy72 => (intro w' hw'; go_simp; try with_reducible rfl)
            (try change wpAnyH _ _ _ _ _ _ _ (Act.put _ (some 39) _) _)
            try simp only [Act.put, List.setIfInBounds_toArray, List.set_cons_zero, List.set_cons_succ]
            refine' wpAnyH_take (i := 3) (oi := _) (v := ?v73) rfl ?hs73 ?hf73 ?hr73 ?hQ73 (Or.inl ⟨?hw73, ?hy73⟩) hHeld ?rest73
            case hs73 => kernel_rfl
            case hf73 => kernel_rfl
            case hr73 => kernel_rfl
            case hQ73 => exact fun _ _ _ h => h
            case hw73 => kernel_rfl
            case hy73 => (intro w' hw'; go_simp; try with_reducible rfl)
            (try change wpAnyH _ _ _ _ _ _ _ (Act.put _ (some 40) _) _)
            try simp only [Act.put, List.setIfInBounds_toArray, List.set_cons_zero, List.set_cons_succ]
            refine' wpAnyH_take (i := 4) (oi := _) (v := ?v74) rfl ?hs74 ?hf74 ?hr74 ?hQ74 (Or.inl ⟨?hw74, ?hy74⟩) hHeld ?rest74
            case hs74 => kernel_rfl
            case hf74 => kernel_rfl
            case hr74 => kernel_rfl
            case hQ74 => exact fun _ _ _ h => h
            case hw74 => kernel_rfl
            case hy74 => (intro w' hw'; have c0 := HB0.out _ hw'; have c1' := HB1'.out _ hw'; have c2' := HB2.out _ hw'; have c3' := HB3.out _ hw'; have c4' := HC2.out _ hw'; have c5' := HC3.out _ hw'; go_simp; try with_reducible rfl)
            (try change wpAnyH _ _ _ _ _ _ _ (Act.put _ (some 41) _) _)
            try simp only [Act.put, List.setIfInBounds_toArray, List.set_cons_zero, List.set_cons_succ]
            refine' wpAnyH_take (i := 6) (oi := _) (v := ?v75) rfl ?hs75 ?hf75 ?hr75 ?hQ75 (Or.inl ⟨?hw75, ?hy75⟩) hHeld ?rest75
            case hs75 => kernel_rfl
            case hf75 => kernel_rfl
            case hr75 => kernel_rfl
            case hQ75 => exact fun _ _ _ h => h
            case hw75 => kernel_rfl
            case hy75 => (intro w' hw'; go_simp; try with_reducible rfl)
            (try change wpAnyH _ _ _ _ _ _ _ (Act.put _ (some 43) _) _)
            try simp only [Act.put, List.setIfInBounds_toArray, List.set_cons_zero, List.set_cons_succ]
            refine' wpAnyH_take (i := 7) (oi := _) (v := ?v76) rfl ?hs76 ?hf76 ?hr76 ?hQ76 (Or.inl ⟨?hw76, ?hy76⟩) hHeld ?rest76
            case hs76 => kernel_rfl
            case hf76 => kernel_rfl
            case hr76 => kernel_rfl
            case hQ76 => exact fun _ _ _ h => h
            case hw76 => kernel_rfl
            case hy76 => (intro w' hw'; have c0 := HB0.out _ hw'; have c1' := HB1'.out _ hw'; have c2' := HB2.out _ hw'; have c3' := HB3.out _ hw'; have c4' := HC2.out _ hw'; have c5' := HC3.out _ hw'; go_simp; try with_reducible rfl)
            (try change wpAnyH _ _ _ _ _ _ _ (Act.put _ (some 44) _) _)
            try simp only [Act.put, List.setIfInBounds_toArray, List.set_cons_zero, List.set_cons_succ]
            refine wpAnyH_ready (rs := [5]) (by kernel_rfl) (by simp) ?_
            refine AllReadyH.cons rfl (fun K hK => ?_) AllReadyH.nil
            go_simp
            go_at_call 56; refine (HIN.out _ hHeld).mono ?_; rintro e wa ⟨rfl, hba⟩; have hbe := below_step hHeld hba; clear hba
            (try go_wp2_with fail)
            refine hK.out _ _ hbe (fun hHeld => ?_)
            clear hK K
            try simp only [Act.put, List.setIfInBounds_toArray, List.set_cons_zero, List.set_cons_succ]
            refine' wpAnyH_take (i := 8) (oi := _) (v := ?v77) rfl ?hs77 ?hf77 ?hr77 ?hQ77 (Or.inl ⟨?hw77, ?hy77⟩) hHeld ?rest77
            case hs77 => kernel_rfl
            case hf77 => kernel_rfl
            case hr77 => kernel_rfl
            case hQ77 => exact fun _ _ _ h => h
            case hw77 => kernel_rfl
            case hy77 => (intro w' hw'; go_simp; try with_reducible rfl)
            (try change wpAnyH _ _ _ _ _ _ _ (Act.put _ (some 45) _) _)
            try simp only [Act.put, List.setIfInBounds_toArray, List.set_cons_zero, List.set_cons_succ]
            refine' wpAnyH_take (i := 9) (oi := _) (v := ?v78) rfl ?hs78 ?hf78 ?hr78 ?hQ78 (Or.inl ⟨?hw78, ?hy78⟩) hHeld ?rest78
            case hs78 => kernel_rfl
            case hf78 => kernel_rfl
            case hr78 => kernel_rfl
            case hQ78 => exact fun _ _ _ h => h
            case hw78 => kernel_rfl
            case hy78 => (intro w' hw'; go_simp; try with_reducible rfl)
            (try change wpAnyH _ _ _ _ _ _ _ (Act.put _ (some 46) _) _)
            try simp only [Act.put, List.setIfInBounds_toArray, List.set_cons_zero, List.set_cons_succ]
            refine' wpAnyH_take (i := 10) (oi := _) (v := ?v79) rfl ?hs79 ?hf79 ?hr79 ?hQ79 (Or.inl ⟨?hw79, ?hy79⟩) hHeld ?rest79
            case hs79 => kernel_rfl
            case hf79 => kernel_rfl
            case hr79 => kernel_rfl
            case hQ79 => exact fun _ _ _ h => h
            case hw79 => kernel_rfl
            case hy79 => (intro w' hw'; go_simp; try with_reducible rfl)
            (try change wpAnyH _ _ _ _ _ _ _ (Act.put _ (some 47) _) _)
            try simp only [Act.put, List.setIfInBounds_toArray, List.set_cons_zero, List.set_cons_succ]
            refine' wpAnyH_take (i := 11) (oi := _) (v := ?v80) rfl ?hs80 ?hf80 ?hr80 ?hQ80 (Or.inl ⟨?hw80, ?hy80⟩) hHeld ?rest80
            case hs80 => kernel_rfl
            case hf80 => kernel_rfl
            case hr80 => kernel_rfl
            case hQ80 => exact fun _ _ _ h => h
            case hw80 => kernel_rfl
            case hy80 => (intro w' hw'; have c0 := HB0.out _ hw'; have c1' := HB1'.out _ hw'; have c2' := HB2.out _ hw'; have c3' := HB3.out _ hw'; have c4' := HC2.out _ hw'; have c5' := HC3.out _ hw'; go_simp; try with_reducible rfl)
            (try change wpAnyH _ _ _ _ _ _ _ (Act.put _ (some 48) _) _)
            try simp only [Act.put, List.setIfInBounds_toArray, List.set_cons_zero, List.set_cons_succ]
            refine' wpAnyH_take (i := 12) (oi := _) (v := ?v81) rfl ?hs81 ?hf81 ?hr81 ?hQ81 (Or.inl ⟨?hw81, ?hy81⟩) hHeld ?rest81
            case hs81 => kernel_rfl
            case hf81 => kernel_rfl
            case hr81 => kernel_rfl
            case hQ81 => exact fun _ _ _ h => h
            case hw81 => kernel_rfl
            case hy81 => (intro w' hw'; go_simp; try with_reducible rfl)
            (try change wpAnyH _ _ _ _ _ _ _ (Act.put _ (some 49) _) _)
            try simp only [Act.put, List.setIfInBounds_toArray, List.set_cons_zero, List.set_cons_succ]
            refine' wpAnyH_take (i := 13) (oi := _) (v := ?v82) rfl ?hs82 ?hf82 ?hr82 ?hQ82 (Or.inl ⟨?hw82, ?hy82⟩) hHeld ?rest82
            case hs82 => kernel_rfl
            case hf82 => kernel_rfl
            case hr82 => kernel_rfl
            case hQ82 => exact fun _ _ _ h => h
            case hw82 => kernel_rfl
            case hy82 => (intro w' hw'; go_simp; try with_reducible rfl)
            (try change wpAnyH _ _ _ _ _ _ _ (Act.put _ (some 50) _) _)
            try simp only [Act.put, List.setIfInBounds_toArray, List.set_cons_zero, List.set_cons_succ]
            refine' wpAnyH_take (i := 14) (oi := _) (v := ?v83) rfl ?hs83 ?hf83 ?hr83 ?hQ83 (Or.inl ⟨?hw83, ?hy83⟩) hHeld ?rest83
            case hs83 => kernel_rfl
            case hf83 => kernel_rfl
            case hr83 => kernel_rfl
            case hQ83 => exact fun _ _ _ h => h
            case hw83 => kernel_rfl
            case hy83 => (intro w' hw'; have c0 := HB0.out _ hw'; have c1' := HB1'.out _ hw'; have c2' := HB2.out _ hw'; have c3' := HB3.out _ hw'; have c4' := HC2.out _ hw'; have c5' := HC3.out _ hw'; go_simp; try with_reducible rfl)
            (try change wpAnyH _ _ _ _ _ _ _ (Act.put _ (some 51) _) _)
            try simp only [Act.put, List.setIfInBounds_toArray, List.set_cons_zero, List.set_cons_succ]
            refine wpAnyH_ready (rs := [15]) (by kernel_rfl) (by simp) ?_
            refine AllReadyH.cons rfl (fun K hK => ?_) AllReadyH.nil
            go_simp
            go_at_call 57; refine (HIC.out _ hHeld).mono ?_; rintro e wb ⟨rfl, hba⟩; have hbe := below_step hHeld hba; clear hba
            (try go_wp2_with fail)
            refine hK.out _ _ hbe (fun hHeld => ?_)
            clear hK K
            try simp only [Act.put, List.setIfInBounds_toArray, List.set_cons_zero, List.set_cons_succ]
            refine' wpAnyH_take (i := 16) (oi := _) (v := ?v84) rfl ?hs84 ?hf84 ?hr84 ?hQ84 (Or.inl ⟨?hw84, ?hy84⟩) hHeld ?rest84
            case hs84 => kernel_rfl
            case hf84 => kernel_rfl
            case hr84 => kernel_rfl
            case hQ84 => exact fun _ _ _ h => h
            case hw84 => kernel_rfl
            case hy84 => (intro w' hw'; go_simp; try with_reducible rfl)
            (try change wpAnyH _ _ _ _ _ _ _ (Act.put _ (some 53) _) _)
            try simp only [Act.put, List.setIfInBounds_toArray, List.set_cons_zero, List.set_cons_succ]
            refine' wpAnyH_take (i := 17) (oi := _) (v := ?v85) rfl ?hs85 ?hf85 ?hr85 ?hQ85 (Or.inl ⟨?hw85, ?hy85⟩) hHeld ?rest85
            case hs85 => kernel_rfl
            case hf85 => kernel_rfl
            case hr85 => kernel_rfl
            case hQ85 => exact fun _ _ _ h => h
            case hw85 => kernel_rfl
            case hy85 => (intro w' hw'; go_simp; try with_reducible rfl)
            (try change wpAnyH _ _ _ _ _ _ _ (Act.put _ (some 54) _) _)
            try simp only [Act.put, List.setIfInBounds_toArray, List.set_cons_zero, List.set_cons_succ]
            refine' wpAnyH_take (i := 18) (oi := _) (v := ?v86) rfl ?hs86 ?hf86 ?hr86 ?hQ86 (Or.inl ⟨?hw86, ?hy86⟩) hHeld ?rest86
            case hs86 => kernel_rfl
            case hf86 => kernel_rfl
            case hr86 => kernel_rfl
            case hQ86 => exact fun _ _ _ h => h
            case hw86 => kernel_rfl
            case hy86 => (intro w' hw'; go_simp; try with_reducible rfl)
            (try change wpAnyH _ _ _ _ _ _ _ (Act.put _ (some 55) _) _)
            try simp only [Act.put, List.setIfInBounds_toArray, List.set_cons_zero, List.set_cons_succ]
            refine' wpAnyH_take (i := 19) (oi := _) (v := ?v87) rfl ?hs87 ?hf87 ?hr87 ?hQ87 (Or.inl ⟨?hw87, ?hy87⟩) hHeld ?rest87
            case hs87 => kernel_rfl
            case hf87 => kernel_rfl
            case hr87 => kernel_rfl
            case hQ87 => exact fun _ _ _ h => h
            case hw87 => kernel_rfl
            case hy87 => (intro w' hw'; go_simp; try with_reducible rfl)
            (try change wpAnyH _ _ _ _ _ _ _ (Act.put _ (some 56) _) _)
            try simp only [Act.put, List.setIfInBounds_toArray, List.set_cons_zero, List.set_cons_succ]
            refine' wpAnyH_take (i := 20) (oi := _) (v := ?v88) rfl ?hs88 ?hf88 ?hr88 ?hQ88 (Or.inl ⟨?hw88, ?hy88⟩) hHeld ?rest88
            case hs88 => kernel_rfl
            case hf88 => kernel_rfl
            case hr88 => kernel_rfl
            case hQ88 => exact fun _ _ _ h => h
            case hw88 => kernel_rfl
            case hy88 => (intro w' hw'; have c0 := HB0.out _ hw'; have c1' := HB1'.out _ hw'; have c2' := HB2.out _ hw'; have c3' := HB3.out _ hw'; have c4' := HC2.out _ hw'; have c5' := HC3.out _ hw'; go_simp; try with_reducible rfl)
            (try change wpAnyH _ _ _ _ _ _ _ (Act.put _ (some 57) _) _)
            try simp only [Act.put, List.setIfInBounds_toArray, List.set_cons_zero, List.set_cons_succ]
            refine' wpAnyH_take (i := 21) (oi := _) (v := ?v89) rfl ?hs89 ?hf89 ?hr89 ?hQ89 (Or.inl ⟨?hw89, ?hy89⟩) hHeld ?rest89
            case hs89 => kernel_rfl
            case hf89 => kernel_rfl
            case hr89 => kernel_rfl
            case hQ89 => exact fun _ _ _ h => h
            case hw89 => kernel_rfl
            case hy89 => (intro w' hw'; go_simp; try with_reducible rfl)
            (try change wpAnyH _ _ _ _ _ _ _ (Act.put _ (some 58) _) _)
            try simp only [Act.put, List.setIfInBounds_toArray, List.set_cons_zero, List.set_cons_succ]
            refine' wpAnyH_take (i := 22) (oi := _) (v := ?v90) rfl ?hs90 ?hf90 ?hr90 ?hQ90 (Or.inl ⟨?hw90, ?hy90⟩) hHeld ?rest90
            case hs90 => kernel_rfl
            case hf90 => kernel_rfl
            case hr90 => kernel_rfl
            case hQ90 => exact fun _ _ _ h => h
            case hw90 => kernel_rfl
            case hy90 => (intro w' hw'; go_simp; try with_reducible rfl)
            (try change wpAnyH _ _ _ _ _ _ _ (Act.put _ (some 59) _) _)
            try simp only [Act.put, List.setIfInBounds_toArray, List.set_cons_zero, List.set_cons_succ]
            refine' wpAnyH_take (i := 23) (oi := _) (v := ?v91) rfl ?hs91 ?hf91 ?hr91 ?hQ91 (Or.inl ⟨?hw91, ?hy91⟩) hHeld ?rest91
            case hs91 => kernel_rfl
            case hf91 => kernel_rfl
            case hr91 => kernel_rfl
            case hQ91 => exact fun _ _ _ h => h
            case hw91 => kernel_rfl
            case hy91 => (intro w' hw'; have c0 := HB0.out _ hw'; have c1' := HB1'.out _ hw'; have c2' := HB2.out _ hw'; have c3' := HB3.out _ hw'; have c4' := HC2.out _ hw'; have c5' := HC3.out _ hw'; go_simp; try with_reducible rfl)
            (try change wpAnyH _ _ _ _ _ _ _ (Act.put _ (some 60) _) _)
            try simp only [Act.put, List.setIfInBounds_toArray, List.set_cons_zero, List.set_cons_succ]
            refine' wpAnyH_take (i := 24) (oi := _) (v := ?v92) rfl ?hs92 ?hf92 ?hr92 ?hQ92 (Or.inl ⟨?hw92, ?hy92⟩) hHeld ?rest92
            case hs92 => kernel_rfl
            case hf92 => kernel_rfl
            case hr92 => kernel_rfl
            case hQ92 => exact fun _ _ _ h => h
            case hw92 => kernel_rfl
            case hy92 => (intro w' hw'; go_simp; try with_reducible rfl)
            (try change wpAnyH _ _ _ _ _ _ _ (Act.put _ (some 61) _) _)
            try simp only [Act.put, List.setIfInBounds_toArray, List.set_cons_zero, List.set_cons_succ]
            refine' wpAnyH_take (i := 25) (oi := _) (v := ?v93) rfl ?hs93 ?hf93 ?hr93 ?hQ93 (Or.inl ⟨?hw93, ?hy93⟩) hHeld ?rest93
            case hs93 => kernel_rfl
            case hf93 => kernel_rfl
            case hr93 => kernel_rfl
            case hQ93 => exact fun _ _ _ h => h
            case hw93 => kernel_rfl
            case hy93 => (intro w' hw'; have c0 := HB0.out _ hw'; have c1' := HB1'.out _ hw'; have c2' := HB2.out _ hw'; have c3' := HB3.out _ hw'; have c4' := HC2.out _ hw'; have c5' := HC3.out _ hw'; go_simp; try with_reducible rfl)
            (try change wpAnyH _ _ _ _ _ _ _ (Act.put _ (some 62) _) _)
            try simp only [Act.put, List.setIfInBounds_toArray, List.set_cons_zero, List.set_cons_succ]
            refine' wpAnyH_take (i := 26) (oi := _) (v := ?v94) rfl ?hs94 ?hf94 ?hr94 ?hQ94 (Or.inl ⟨?hw94, ?hy94⟩) hHeld ?rest94
            case hs94 => kernel_rfl
            case hf94 => kernel_rfl
            case hr94 => kernel_rfl
            case hQ94 => exact fun _ _ _ h => h
            case hw94 => kernel_rfl
            case hy94 => (intro w' hw'; go_simp; try with_reducible rfl)
            (try change wpAnyH _ _ _ _ _ _ _ (Act.put _ (some 63) _) _)
            try simp only [Act.put, List.setIfInBounds_toArray, List.set_cons_zero, List.set_cons_succ]
            refine' wpAnyH_take (i := 27) (oi := _) (v := ?v95) rfl ?hs95 ?hf95 ?hr95 ?hQ95 (Or.inl ⟨?hw95, ?hy95⟩) hHeld ?rest95
            case hs95 => kernel_rfl
            case hf95 => kernel_rfl
            case hr95 => kernel_rfl
            case hQ95 => exact fun _ _ _ h => h
            case hw95 => kernel_rfl
            case hy95 => (intro w' hw'; have c0 := HB0.out _ hw'; have c1' := HB1'.out _ hw'; have c2' := HB2.out _ hw'; have c3' := HB3.out _ hw'; have c4' := HC2.out _ hw'; have c5' := HC3.out _ hw'; go_simp; try with_reducible rfl)
            (try change wpAnyH _ _ _ _ _ _ _ (Act.put _ (some 64) _) _)
            try simp only [Act.put, List.setIfInBounds_toArray, List.set_cons_zero, List.set_cons_succ]
            refine' wpAnyH_take (i := 28) (oi := _) (v := ?v96) rfl ?hs96 ?hf96 ?hr96 ?hQ96 (Or.inl ⟨?hw96, ?hy96⟩) hHeld ?rest96
            case hs96 => kernel_rfl
            case hf96 => kernel_rfl
            case hr96 => kernel_rfl
            case hQ96 => exact fun _ _ _ h => h
            case hw96 => kernel_rfl
            case hy96 => (intro w' hw'; go_simp; try with_reducible rfl)
            (try change wpAnyH _ _ _ _ _ _ _ (Act.put _ (some 65) _) _)
            try simp only [Act.put, List.setIfInBounds_toArray, List.set_cons_zero, List.set_cons_succ]
            refine' wpAnyH_take (i := 29) (oi := _) (v := ?v97) rfl ?hs97 ?hf97 ?hr97 ?hQ97 (Or.inl ⟨?hw97, ?hy97⟩) hHeld ?rest97
            case hs97 => kernel_rfl
            case hf97 => kernel_rfl
            case hr97 => kernel_rfl
            case hQ97 => exact fun _ _ _ h => h
            case hw97 => kernel_rfl
            case hy97 => (intro w' hw'; go_simp; try with_reducible rfl)
            (try change wpAnyH _ _ _ _ _ _ _ (Act.put _ (some 66) _) _)
            try simp only [Act.put, List.setIfInBounds_toArray, List.set_cons_zero, List.set_cons_succ]
            refine' wpAnyH_take (i := 30) (oi := _) (v := ?v98) rfl ?hs98 ?hf98 ?hr98 ?hQ98 (Or.inl ⟨?hw98, ?hy98⟩) hHeld ?rest98
            case hs98 => kernel_rfl
            case hf98 => kernel_rfl
            case hr98 => kernel_rfl
            case hQ98 => exact fun _ _ _ h => h
            case hw98 => kernel_rfl
            case hy98 => (intro w' hw'; have c0 := HB0.out _ hw'; have c1' := HB1'.out _ hw'; have c2' := HB2.out _ hw'; have c3' := HB3.out _ hw'; have c4' := HC2.out _ hw'; have c5' := HC3.out _ hw'; go_simp; try with_reducible rfl)
            (try change wpAnyH _ _ _ _ _ _ _ (Act.put _ (some 67) _) _)
            try simp only [Act.put, List.setIfInBounds_toArray, List.set_cons_zero, List.set_cons_succ]
            refine wpAnyH_ready (rs := [31]) (by kernel_rfl) (by simp) ?_
            refine AllReadyH.cons rfl (fun K hK => ?_) AllReadyH.nil
            go_simp
            go_at_call 37; refine (HPF.out _ hHeld).mono ?_; rintro e wc ⟨uc, rfl, hrc, hba⟩; have HRC := Lib.hid hrc.weak; have hbe := below_step hHeld hba; clear hba hrc
            (try go_wp2_with fail)
            refine hK.out _ _ hbe (fun hHeld => ?_)
            clear hK K
            try simp only [Act.put, List.setIfInBounds_toArray, List.set_cons_zero, List.set_cons_succ]
            refine wpAnyH_ready (rs := [32]) (by kernel_rfl) (by simp) ?_
            refine AllReadyH.cons rfl (fun K hK => ?_) AllReadyH.nil
            go_simp
            go_at_call 58; refine (HSE.out _ _ _ hHeld HRC.out).mono ?_; rintro e wd ⟨rfl, hba⟩; have hbe := below_step hHeld hba; clear hba
            (try go_wp2_with fail)
            refine hK.out _ _ hbe (fun hHeld => ?_)
            clear hK K
            try simp only [Act.put, List.setIfInBounds_toArray, List.set_cons_zero, List.set_cons_succ]
            refine' wpAnyH_take (i := 33) (oi := _) (v := ?v99) rfl ?hs99 ?hf99 ?hr99 ?hQ99 (Or.inl ⟨?hw99, ?hy99⟩) hHeld ?rest99
            case hs99 => kernel_rfl
            case hf99 => kernel_rfl
            case hr99 => kernel_rfl
            case hQ99 => exact fun _ _ _ h => h
            case hw99 => kernel_rfl
            case hy99 => (intro w' hw'; go_simp; try with_reducible rfl)
            (try change wpAnyH _ _ _ _ _ _ _ (Act.put _ (some 70) _) _)
            try simp only [Act.put, List.setIfInBounds_toArray, List.set_cons_zero, List.set_cons_succ]
            refine' wpAnyH_take (i := 34) (oi := _) (v := ?v100) rfl ?hs100 ?hf100 ?hr100 ?hQ100 (Or.inl ⟨?hw100, ?hy100⟩) hHeld ?rest100
            case hs100 => kernel_rfl
            case hf100 => kernel_rfl
            case hr100 => kernel_rfl
            case hQ100 => exact fun _ _ _ h => h
            case hw100 => kernel_rfl
            case hy100 => (intro w' hw'; go_simp; try with_reducible rfl)
            (try change wpAnyH _ _ _ _ _ _ _ (Act.put _ (some 71) _) _)
            try simp only [Act.put, List.setIfInBounds_toArray, List.set_cons_zero, List.set_cons_succ]
            refine wpAnyH_done ?hdone101 ?hq101 _
            case hdone101 => kernel_rfl
            go_wp2_with fail
            go_meet
            exact ⟨by rw [HRO.out]; first | rfl | simp, hHeld⟩
      case rest =>
        obtain ⟨rfl, hbw⟩ := hcut
        have HBW := Lib.hid hbw
        clear hbw
        cases hrk : rowAt x k with
        | false =>
          have HN := Lib.hid (HBD2.out hrk)
          go_wp2_with fail
          go_ret
          exact ⟨ret_bool HN.out.symm, HW.out _ HBW.out⟩
        | true =>
          have HAL : Hid (∀ j, j < k + 1 → rowAt x j = true) := fun j hj => by
            by_cases e : j = k
            · subst e; exact hrk
            · exact hall.out j (by omega)
          go_wp2
          go_roundw
          case rel => exact ⟨k + 1, by omega, by go_num, HAL.out, HBX.out.kept HBW.out, HW.out _ HBW.out⟩
          case measure => simp [intOf]; omega
    · obtain rfl : k = x.Rows.length := by omega
      have HN := Lib.hid (HGD.out HHT.out hall.out)
      have b2 := HBX.out.cell 2 rfl
      go_wp2
      go_ret
      exact ⟨ret_bool HN.out.symm, HB.out⟩
end Go.Proofs.YtcgmlhlnkbjfnaaGreatDoor

/- The model's FormatCandidate: what it answers. -/
namespace Go.Proofs.YtcgmlhlnkbjfnaaGreatDoor
set_option maxRecDepth 100000
open Go.RowKit M
set_option linter.unusedVariables false
set_option linter.unusedSimpArgs false

theorem cat_str (l m : List UInt8) (h : (l ++ m).length ≤ 1000000000) : ∀ w : World, (Op.stringOp .add ⟨l.toArray⟩ ⟨m.toArray⟩).run Tryz.prog w = .ok (.string ⟨(l ++ m).toArray⟩) w := by
  intro w
  have hm : maxLen = 9223372036854775807 := rfl
  have hz : (⟨l.toArray⟩ : ByteArray).size + (⟨m.toArray⟩ : ByteArray).size ≤ 1000000000 := by simpa [ByteArray.size] using h
  rw [run_string_add_sum _ _ _ (by omega)]
  congr 2
theorem conv_box (w : World) (o : Obj) (u : Int) : (convert 111 9 (.slice (some ⟨w.heap.size + 1, 0, none⟩) 1 1)).run Tryz.prog ((w.alloc o).alloc (.cells #[.int .u8 u] 5)) = .ok (.string ⟨[byt u].toArray⟩) ((w.alloc o).alloc (.cells #[.int .u8 u] 5)) := by
  have h := conv_one (w.alloc o) u
  have hs : (w.alloc o).heap.size = w.heap.size + 1 := by simp
  rw [hs] at h
  exact h
theorem bytes_some {s : ByteArray} (h : 0 < s.size) : s.toList.isEmpty = false := by
  rw [Lib.toList_data]
  cases e : s.data.toList with
  | nil => have := congrArg List.length e; simp at this; exact absurd h (by rw [show s.size = s.data.size from rfl, this]; simp)
  | cons _ _ => rfl
set_option maxHeartbeats 4000000 in
theorem specFmt_cd (x : DCandidate) (v : Value) (F : Addr → Prop) (w : World) (hl : x.Links.length ≤ 1048576) (hv : RowRd rLink false w v x.Links F) :
    Calls Tryz.prog 72 #[.agg #[v]] w fun e w' => e = .returned (.string ⟨(fmtC x.Links).toArray⟩) ∧ Below w.heap.size w w' := by
  have HS0 : Hid (∀ W, Below w.heap.size w W → Calls Tryz.prog 57 #[.agg #[v]] W fun e w' => e = .returned (.bool (isCd x.Links)) ∧ Below W.heap.size W w') := fun W hW => specIsCd_any x _ F W hl (hv.kept hW)
  obtain ⟨A, cap, rfl⟩ := hv.form
  have HV := Lib.hid hv
  clear hv
  have HE : Hid (fmtC x.Links = if isCd x.Links then (if x.Links = [] then noneB else ftC x.Links) else []) := rfl
  have HLE : Hid (isCd x.Links = true → x.Links.length ≤ 16) := isCd_len
  generalize isCd x.Links = c at *
  generalize fmtC x.Links = r at *
  generalize x.Links = l at *
  have HA : Hid (∀ o, Below w.heap.size w (w.alloc o)) := fun o => (Below.refl _ _).alloc (Nat.le_refl _) _
  have HA1 : Hid (InC (w.alloc (.cells #[.slice A l.length cap] 59)) w.heap.size #[.slice A l.length cap] 59) := heap_alloc_new _ _
  go_enter Tryz.func72, Tryz.ntmps72
  go_wp2_with fail
  refine (HS0.out _ (HA.out _)).mono ?_
  rintro e w2 ⟨rfl, hb⟩
  have hi1 := HA1.out.kept hb
  have b1 := hi1.cell 0 rfl
  have HI1 := Lib.hid hi1
  have HB : Hid (Below w.heap.size w w2) := below_step (HA.out _) hb
  clear hb hi1 HS0
  cases c
  · go_wp2_with fail
    go_ret
    exact ⟨ret_str (by rw [HE.out] <;> rfl), HB.out⟩
  · have h16 := HLE.out rfl
    have HE2 : Hid (r = if l = [] then noneB else ftC l) := by unfold Hid; rw [HE.out, if_pos rfl]
    clear HE
    have HX : Hid (∀ k, k < l.length → ∃ y, l[k]? = some y) := fun k hk => ⟨_, List.getElem?_eq_getElem hk⟩
    go_wp2_with fail
    go_loopw [3, 4] (fun u i wr => ∃ (k : Nat), k ≤ l.length ∧ i = .int .i64 k ∧ u = .string ⟨(ftC (l.take k)).toArray⟩ ∧ Below w.heap.size w wr ∧ InC wr w.heap.size #[.slice A l.length cap] 59) (fun _ i _ => l.length - (intOf i).toNat)
    case atStart => exact ⟨0, by omega, rfl, rfl, HB.out, HI1.out⟩
    case round =>
      obtain ⟨k, hk, rfl, rfl, hbe, hi2⟩ := hrel
      have b2 := hi2.cell 0 rfl
      have HBE := Lib.hid hbe
      have HI2 := Lib.hid hi2
      clear hbe hi2
      by_cases hkl : k < l.length
      · obtain ⟨y, hy⟩ := HX.out k hkl
        obtain ⟨g, off, xs, Fk, rfl, _, hra, _, hca⟩ := (HV.out.kept HBE.out).get hy
        obtain rfl := rLink_rd hra
        rw [rLink_size] at hca
        have c0 := hca 0 _ rfl
        have c1 := hca 1 _ rfl
        simp only [Nat.add_zero] at c0
        have HST := Lib.hid (ftC_step hy)
        have hfl := ftC_len_take l k
        have HSM : Hid ((y.In.toNat : Int) = (y.Out.toNat : Int) → ftK y = [byt (y.In.toNat : Int)]) := ft_same
        have HPU : Hid (¬ (y.In.toNat : Int) = (y.Out.toNat : Int) → (y.In.toNat : Int) = 0 → ftK y = [43, byt (y.Out.toNat : Int)]) := fun h h0 => ft_put h h0
        have HAW : Hid (¬ (y.In.toNat : Int) = 0 → (y.Out.toNat : Int) = 0 → ftK y = [45, byt (y.In.toNat : Int)]) := fun h h0 => ft_away h h0
        have HVO : Hid (¬ (y.In.toNat : Int) = (y.Out.toNat : Int) → ¬ (y.In.toNat : Int) = 0 → ¬ (y.Out.toNat : Int) = 0 → ftK y = [42, byt (y.In.toNat : Int)]) := fun h h1 h2 => ft_voice h h1 h2
        clear hca hra hy
        generalize ftC (l.take k) = T at *
        generalize ftK y = r2 at *
        generalize (y.In.toNat : Int) = a at *
        generalize (y.Out.toNat : Int) = b at *
        have HB3 : Hid (∀ o q, Below w.heap.size w ((wr.alloc o).alloc q)) := fun o q => (HBE.out.alloc HBE.out.size _).alloc (by simp; have := HBE.out.size; omega) _
        have HI3 : Hid (∀ o q, InC ((wr.alloc o).alloc q) w.heap.size #[.slice (some ⟨g, off, none⟩) l.length cap] 59) := fun o q => HI2.out.kept (((Below.refl _ _).alloc (Nat.le_refl _) _).alloc (by simp) _)
        have kc : ∀ u, (convert 111 9 (.slice (some ⟨wr.heap.size + 1, 0, none⟩) 1 1)).run Tryz.prog ((wr.alloc (.cells #[.int .u8 a, .int .u8 b] 101)).alloc (.cells #[.int .u8 u] 5)) = .ok (.string ⟨[byt u].toArray⟩) ((wr.alloc (.cells #[.int .u8 a, .int .u8 b] 101)).alloc (.cells #[.int .u8 u] 5)) := fun u => conv_box wr _ u
        by_cases hab : a = b
        · have HR := Lib.hid (HSM.out hab)
          subst hab
          have s1 := cat_str T [byt a] (by simp; omega)
          go_wp2
          go_roundw
          case rel => exact ⟨k + 1, by omega, by go_num, by rw [HST.out, HR.out], HB3.out _ _, HI3.out _ _⟩
          case measure => simp [intOf]; omega
        by_cases ha : a = 0
        · have HR := Lib.hid (HPU.out hab ha)
          subst ha
          have s1 := cat_str T [43] (by simp; omega)
          have s2 := cat_str (T ++ [43]) [byt b] (by simp; omega)
          go_wp2
          go_roundw
          case rel => exact ⟨k + 1, by omega, by go_num, by rw [HST.out, HR.out] <;> simp, HB3.out _ _, HI3.out _ _⟩
          case measure => simp [intOf]; omega
        by_cases hb : b = 0
        · have HR := Lib.hid (HAW.out ha hb)
          subst hb
          have s1 := cat_str T [45] (by simp; omega)
          have s2 := cat_str (T ++ [45]) [byt a] (by simp; omega)
          go_wp2
          go_roundw
          case rel => exact ⟨k + 1, by omega, by go_num, by rw [HST.out, HR.out] <;> simp, HB3.out _ _, HI3.out _ _⟩
          case measure => simp [intOf]; omega
        have HR := Lib.hid (HVO.out hab ha hb)
        have s1 := cat_str T [42] (by simp; omega)
        have s2 := cat_str (T ++ [42]) [byt a] (by simp; omega)
        go_wp2
        go_roundw
        case rel => exact ⟨k + 1, by omega, by go_num, by rw [HST.out, HR.out] <;> simp, HB3.out _ _, HI3.out _ _⟩
        case measure => simp [intOf]; omega
      · obtain rfl : k = l.length := by omega
        rw [List.take_length]
        by_cases hnil : l = []
        · have HR : Hid (r = noneB) := by unfold Hid; rw [HE2.out, if_pos hnil]
          subst hnil
          go_wp2
          go_ret
          exact ⟨ret_str (by rw [HR.out] <;> rfl), HBE.out⟩
        · have HR : Hid (r = ftC l) := by unfold Hid; rw [HE2.out, if_neg hnil]
          have hq : (⟨(ftC l).toArray⟩ : ByteArray).toList.isEmpty = false := bytes_some (by have := List.length_pos_iff.2 (fun e => hnil (ftC_nil.1 e)); simpa [ByteArray.size] using this)
          have HRS : Hid ((⟨(ftC l).toArray⟩ : ByteArray) = ⟨r.toArray⟩) := by unfold Hid; rw [HR.out]
          generalize (⟨(ftC l).toArray⟩ : ByteArray) = S at *
          go_wp2
          go_ret
          exact ⟨ret_str HRS.out, HBE.out⟩
end Go.Proofs.YtcgmlhlnkbjfnaaGreatDoor

/- The model's FormatRow: what it answers. -/
namespace Go.Proofs.YtcgmlhlnkbjfnaaGreatDoor
set_option maxRecDepth 100000
open Go.RowKit Go.Sort M Go.Lib
set_option linter.unusedVariables false
set_option linter.unusedSimpArgs false

theorem fmtZ_any (z : Int) (w : World) (h0 : 0 ≤ z) (h1 : z ≤ 16) : Calls Tryz.prog 105 #[.int .i64 z] w fun e w' => e = .returned (.string (itoaB z)) ∧ Below w.heap.size w w' := by
  by_cases h : z = 0
  · subst h; exact fmt_zero w
  · obtain ⟨m, rfl⟩ : ∃ m : Nat, z = (m : Int) := ⟨z.toNat, by omega⟩
    exact fmt_pos m w (by omega) (by omega)
set_option maxHeartbeats 4000000 in
theorem specNum_any (m : List Int) (v : Value) (F : Addr → Prop) (w : World) (hm : ∀ z ∈ m, 0 ≤ z ∧ z ≤ 16) (h1 : 1 ≤ m.length) (h5 : m.length ≤ 5) (hv : RowRd Rep.int false w v m F) :
    Calls Tryz.prog 73 #[v] w fun e w' => e = .returned (.string (numT m)) ∧ Below w.heap.size w w' := by
  obtain ⟨A, cap, rfl⟩ := hv.form
  have HV := Lib.hid hv
  have HX : Hid (∀ k, k < m.length → ∃ y, m[k]? = some y ∧ 0 ≤ y ∧ y ≤ 16) := fun k hk => ⟨_, List.getElem?_eq_getElem hk, hm _ (List.getElem_mem hk)⟩
  have HSZ := Lib.hid (joinT_size hm)
  have HN : Hid (numT m = joinN (txtL m) m.length) := rfl
  have H1 : Hid (∀ z, m[0]? = some z → joinN (txtL m) 1 = ⟨#[]⟩ ++ itoaB z) := fun z h => joinN_one _ _ (txtL_at h)
  have H2 : Hid (∀ k z, 0 < k → m[k]? = some z → joinN (txtL m) (k + 1) = joinN (txtL m) k ++ ⟨#[44]⟩ ++ itoaB z) := fun k z h0 h => joinN_more _ _ _ h0 (txtL_at h)
  clear hv hm
  generalize hll : m.length = n at *
  go_enter Tryz.func73, Tryz.ntmps73
  go_wp2
  go_loopw [3, 4] (fun s i wr => ∃ (k : Nat), k ≤ n ∧ i = .int .i64 k ∧ s = .string (joinN (txtL m) k) ∧ Below w.heap.size w wr) (fun _ i _ => n - (intOf i).toNat)
  case atStart => exact ⟨0, by omega, rfl, rfl, Below.refl _ _⟩
  case round =>
    obtain ⟨k, hk, rfl, rfl, hbe0⟩ := hrel
    obtain ⟨w2, rfl⟩ : ∃ w2 : World, w2 = wr := ⟨_, rfl⟩
    have HB := Lib.hid hbe0
    clear hbe0
    by_cases hkl : k < n
    · obtain ⟨z, hz, hz0, hz1⟩ := HX.out k hkl
      have HC : Hid (∀ W, Calls Tryz.prog 105 #[.int .i64 z] W fun e w' => e = .returned (.string (itoaB z)) ∧ Below W.heap.size W w') := fun W => fmtZ_any z W hz0 hz1
      obtain ⟨g, off, xs, Fk, rfl, -, hra, -, hca⟩ := (HV.out.kept HB.out).get hz
      obtain ⟨rfl, -⟩ := id hra
      rw [show Rep.int.size = 1 from rfl] at hca
      have c0 := hca 0 _ rfl
      simp only [Nat.add_zero, Nat.mul_one] at c0
      have hs := itoaB_size z hz0 hz1
      have hj := (HSZ.out k (by omega)).1
      rcases Nat.eq_zero_or_pos k with h0 | h0
      · subst h0
        simp only [Nat.add_zero] at c0
        have HN1 := Lib.hid (H1.out z hz)
        have hadd := add_anyT (⟨#[]⟩ : ByteArray) (itoaB z) (by have : (⟨#[]⟩ : ByteArray).size = 0 := rfl; omega)
        rw [show joinN (txtL m) 0 = ⟨#[]⟩ from rfl]
        clear hca hra hz hs hj
        generalize itoaB z = T at *
        go_wp2_with fail
        refine (HC.out _).mono ?_
        rintro e w3 ⟨rfl, hb⟩
        have HB3 := Lib.hid (below_step HB.out hb)
        clear hb c0
        go_wp2
        go_roundw
        case rel => exact ⟨1, by omega, by go_num, by rw [HN1.out], HB3.out⟩
        case measure => simp [intOf]; omega
      · have HN1 := Lib.hid (H2.out k z h0 hz)
        generalize joinN (txtL m) k = J at *
        have hadd := add_anyT J (⟨#[44]⟩ : ByteArray) (by have : (⟨#[44]⟩ : ByteArray).size = 1 := rfl; omega)
        have hadd2 := add_anyT (J ++ (⟨#[44]⟩ : ByteArray)) (itoaB z) (by rw [ByteArray.size_append]; have : (⟨#[44]⟩ : ByteArray).size = 1 := rfl; omega)
        have h0i : (0 : Int) < (k : Int) := by omega
        clear hca hra hz hs hj
        generalize itoaB z = T at *
        go_wp2_with fail
        refine (HC.out _).mono ?_
        rintro e w3 ⟨rfl, hb⟩
        have HB3 := Lib.hid (below_step HB.out hb)
        clear hb c0
        go_wp2
        go_roundw
        case rel => exact ⟨k + 1, by omega, by go_num, by rw [HN1.out], HB3.out⟩
        case measure => simp [intOf]; omega
    · obtain rfl : k = n := by omega
      have hne : ((joinN (txtL m) k).toList == (⟨#[]⟩ : ByteArray).toList) = false := by
        have := (HSZ.out k (Nat.le_refl _)).2 (by omega)
        rw [txt_eq]
        refine decide_eq_false fun e => ?_
        rw [e] at this
        exact absurd this (by decide)
      have hne2 : (joinN (txtL m) k).toList.isEmpty = false := by
        have := (HSZ.out k (Nat.le_refl _)).2 (by omega)
        rw [Lib.toList_data]
        cases hh : (joinN (txtL m) k).data.toList with
        | nil =>
          have h2 : (joinN (txtL m) k).size = 0 := by
            have : (joinN (txtL m) k).data.size = (joinN (txtL m) k).data.toList.length := by simp
            show (joinN (txtL m) k).data.size = 0
            rw [this, hh]; rfl
          omega
        | cons a b => rfl
      generalize joinN (txtL m) k = J at *
      go_wp2
      go_ret
      exact ⟨ret_str HN.out.symm, HB.out⟩
set_option maxHeartbeats 16000000 in
theorem specFr_any (x : DTableau) (A1 : Option Addr) (c1 : Nat) (A2 : Option Addr) (c2 : Nat) (A3 : Option Addr) (c3 : Nat) (F1 F2 F3 : Addr → Prop) (i : Int) (w : World) (hm : rTableau.sz x ≤ 1048576) (hv : TabRd false w (.slice A1 x.Names.length c1) (.slice A2 x.Rows.length c2) (.slice A3 x.Marks.length c3) x F1 F2 F3) :
    Calls Tryz.prog 29 #[.agg #[.string x.Input, .slice A1 x.Names.length c1, .slice A2 x.Rows.length c2, .slice A3 x.Marks.length c3], .int .i64 i] w fun e w' => e = .returned (.string (fmtR x i)) ∧ Below w.heap.size w w' := by
  obtain ⟨hz0, hz1, hz2, hz3, hz4, hz5⟩ := szTab_parts hm
  have HZ4 := Lib.hid hz4
  have HV := Lib.hid hv
  have HIT : Hid (∀ W, Below w.heap.size w W → Calls Tryz.prog 19 #[.agg #[.string x.Input, .slice A1 x.Names.length c1, .slice A2 x.Rows.length c2, .slice A3 x.Marks.length c3]] W fun e w' => e = .returned (.bool (isTab x)) ∧ Below W.heap.size W w') := fun W hW => specTab_any x A1 c1 A2 c2 A3 c3 F1 F2 F3 W hm (hv.kept hW)
  have HNO : Hid (∀ b, isTab x = b → b = false → fmtR x i = ⟨#[]⟩) := fun b h1 h2 => fmtR_out (by rw [rowsL_no (h1.trans h2)]; simp)
  have HYE : Hid (∀ b, isTab x = b → b = true → (x.Marks.length = x.Rows.length ∧ (rowsL x).length = x.Rows.length ∧ ∀ k c m, x.Rows[k]? = some c → x.Marks[k]? = some m → (rowsL x)[k]? = some (c, m))) := fun b h1 h2 => by
    have h3 := headT_parts (headT_of (h1.trans h2))
    exact ⟨h3.2.2.2.2, rowsL_len (h1.trans h2), fun k c m h4 h5 => rowsL_at (h1.trans h2) h4 h5⟩
  have HN2 := Lib.hid (HNO.out _ rfl)
  have HY2 := Lib.hid (HYE.out _ rfl)
  have HNEG : Hid (i < 0 → fmtR x i = ⟨#[]⟩) := fun h => fmtR_neg (by omega)
  have HOUT : Hid ((rowsL x).length ≤ i.toNat → fmtR x i = ⟨#[]⟩) := fmtR_out
  clear hv hz4 hz5 hm HNO HYE
  generalize isTab x = t at *
  have HA : Hid (∀ o, Below w.heap.size w (w.alloc o)) := fun o => (Below.refl _ _).alloc (Nat.le_refl _) _
  have HA1 : Hid (InC (w.alloc (.cells #[.string x.Input, .slice A1 x.Names.length c1, .slice A2 x.Rows.length c2, .slice A3 x.Marks.length c3] 27)) w.heap.size #[.string x.Input, .slice A1 x.Names.length c1, .slice A2 x.Rows.length c2, .slice A3 x.Marks.length c3] 27) := heap_alloc_new _ _
  go_enter Tryz.func29, Tryz.ntmps29
  go_wp2_with fail
  refine (HIT.out _ (HA.out _)).mono ?_
  rintro e w1 ⟨rfl, hb⟩
  have HB1 : Hid (Below w.heap.size w w1) := below_step (HA.out _) hb
  have HX1 := Lib.hid (HA1.out.kept hb)
  have b2 := HX1.out.cell 2 rfl
  clear hb
  cases t with
  | false =>
    have HN := Lib.hid (HN2.out rfl)
    go_wp2
    go_ret
    exact ⟨ret_str HN.out.symm, HB1.out⟩
  | true =>
  obtain ⟨hml, hrl, hat⟩ := HY2.out rfl
  have HAT := Lib.hid hat
  by_cases hi0 : i < 0
  case pos =>
    have HN := Lib.hid (HNEG.out hi0)
    have e1 : decide (i < 0) = true := decide_eq_true hi0
    clear hml hrl hat
    go_wp2
    go_ret
    exact ⟨ret_str HN.out.symm, HB1.out⟩
  have e1 : decide (i < 0) = false := decide_eq_false hi0
  obtain ⟨k, rfl⟩ : ∃ k : Nat, i = (k : Int) := ⟨i.toNat, by omega⟩
  by_cases hkl : k < x.Rows.length
  case neg =>
    have HN : Hid (fmtR x (k : Int) = ⟨#[]⟩) := HOUT.out (by rw [hrl, Int.toNat_natCast]; omega)
    have e2 : decide ((x.Rows.length : Int) ≤ (k : Int)) = true := decide_eq_true (by omega)
    have e3 : decide (x.Rows.length ≤ k) = true := decide_eq_true (by omega)
    clear hml hrl hat hi0
    go_wp2
    go_ret
    exact ⟨ret_str HN.out.symm, HB1.out⟩
  have e2 : decide ((x.Rows.length : Int) ≤ (k : Int)) = false := decide_eq_false (by omega)
  have e3 : decide (x.Rows.length ≤ k) = false := decide_eq_false (by omega)
  obtain ⟨c, hc⟩ : ∃ c, x.Rows[k]? = some c := ⟨_, List.getElem?_eq_getElem hkl⟩
  obtain ⟨m, hmk⟩ : ∃ m, x.Marks[k]? = some m := ⟨_, List.getElem?_eq_getElem (by omega)⟩
  have hro := HAT.out k c m hc hmk
  obtain ⟨hr1, hr2, hr3, hr4⟩ := rows_marks hro
  have HFR := Lib.hid (fmtR_at hro)
  have HL := HZ4.out k c hc
  obtain ⟨g2, o2, xs2, G2, rfl, -, hr2', -, hc2⟩ := (HV.out.rows.kept HB1.out).get hc
  obtain ⟨v2, rfl, q2⟩ := rCandidate_rd hr2'
  obtain ⟨g3, o3, xs3, G3, rfl, -, hr3', -, hc3⟩ := (HV.out.marks.kept HB1.out).get hmk
  obtain ⟨v3, rfl, q3⟩ := id hr3'
  rw [rCandidate_size] at hc2
  rw [show (Rep.row Rep.int).size = 1 from rfl] at hc3
  have d2 := hc2 0 _ rfl
  have d3 := hc3 0 _ rfl
  simp only [Nat.add_zero, Nat.mul_one] at d2 d3
  have HC2 : Hid (∀ W : World, Below w1.heap.size w1 W → W.cell? ⟨g2, o2 + k, none⟩ = some v2) := fun W hW => cell_kept hW d2
  have HC3 : Hid (∀ W : World, Below w1.heap.size w1 W → W.cell? ⟨g3, o3 + k, none⟩ = some v3) := fun W hW => cell_kept hW d3
  have HB2 : Hid (∀ W : World, Below w1.heap.size w1 W → W.cell? ⟨w.heap.size, 2, none⟩ = some (.slice (some ⟨g2, o2, none⟩) x.Rows.length c2)) := fun W hW => (HX1.out.kept hW).cell 2 rfl
  have HB3 : Hid (∀ W : World, Below w1.heap.size w1 W → W.cell? ⟨w.heap.size, 3, none⟩ = some (.slice (some ⟨g3, o3, none⟩) x.Marks.length c3)) := fun W hW => (HX1.out.kept hW).cell 3 rfl
  have HFC : Hid (∀ W, Below w1.heap.size w1 W → Calls Tryz.prog 72 #[.agg #[v2]] W fun e w' => e = .returned (.string ⟨(fmtC c.Links).toArray⟩) ∧ Below W.heap.size W w') := fun W hW => specFmt_cd c v2 G2 W HL (q2.kept hW)
  have HNU : Hid (∀ W, Below w1.heap.size w1 W → Calls Tryz.prog 73 #[v3] W fun e w' => e = .returned (.string (numT m)) ∧ Below W.heap.size W w') := fun W hW => specNum_any m v3 G3 W hr1 hr2 hr3 (q3.kept hW)
  have hs1 := fmtC_size c.Links hr4
  have hs2 := (joinT_size hr1 m.length (Nat.le_refl _)).1
  have HNM : Hid (numT m = joinN (txtL m) m.length) := rfl
  rw [← HNM.out] at hs2
  have hkm : k < x.Marks.length := by omega
  have hkm2 : (k : Int) < (x.Marks.length : Int) := by omega
  have hkr : (k : Int) < (x.Rows.length : Int) := by omega
  have HMS := Lib.hid hs2
  have hr3b : m.length ≤ 5 := hr3
  have h110 : 22 * m.length ≤ 110 := by omega
  clear hc hmk hro hr1 hr2' hr3' hc2 hc3 d3 q2 q3 hrl hat HL hi0 hml
  generalize (⟨(fmtC c.Links).toArray⟩ : ByteArray) = T1 at *
  generalize numT m = T2 at *
  have hadd1 := add_anyT T1 (⟨#[32]⟩ : ByteArray) (by have : (⟨#[32]⟩ : ByteArray).size = 1 := rfl; omega)
  have hadd2 := add_anyT (T1 ++ (⟨#[32]⟩ : ByteArray)) T2 (by rw [ByteArray.size_append]; have : (⟨#[32]⟩ : ByteArray).size = 1 := rfl; omega)
  clear hs1 hs2 h110 hr2 hr3
  go_upto_region 3 with fail
  clear d2 b2
  refine wp_region_held_drew (S := fun w' => Below w1.heap.size w1 w') (by kernel_rfl) ((Below.refl _ _).drew) (fun hHeld => ?_)
  refine' wpAnyH_take (i := 0) (oi := _) (v := ?v1) rfl ?hs1 ?hf1 ?hr1 ?hQ1 (Or.inl ⟨?hw1, ?hy1⟩) hHeld ?rest1
  case hs1 => kernel_rfl
  case hf1 => kernel_rfl
  case hr1 => kernel_rfl
  case hQ1 => exact fun _ _ _ h => h
  case hw1 => kernel_rfl
  case hy1 => (intro w' hw'; go_simp; try with_reducible rfl)
  (try change wpAnyH _ _ _ _ _ _ _ (Act.put _ (some 19) _) _)
  try simp only [Act.put, List.setIfInBounds_toArray, List.set_cons_zero, List.set_cons_succ]
  refine' wpAnyH_take (i := 1) (oi := _) (v := ?v2) rfl ?hs2 ?hf2 ?hr2 ?hQ2 (Or.inl ⟨?hw2, ?hy2⟩) hHeld ?rest2
  case hs2 => kernel_rfl
  case hf2 => kernel_rfl
  case hr2 => kernel_rfl
  case hQ2 => exact fun _ _ _ h => h
  case hw2 => kernel_rfl
  case hy2 => (intro w' hw'; have c1' := HB2.out _ hw'; have c2' := HB3.out _ hw'; have c4' := HC2.out _ hw'; have c5' := HC3.out _ hw'; go_simp; try with_reducible rfl)
  (try change wpAnyH _ _ _ _ _ _ _ (Act.put _ (some 20) _) _)
  try simp only [Act.put, List.setIfInBounds_toArray, List.set_cons_zero, List.set_cons_succ]
  refine' wpAnyH_take (i := 2) (oi := _) (v := ?v3) rfl ?hs3 ?hf3 ?hr3 ?hQ3 (Or.inl ⟨?hw3, ?hy3⟩) hHeld ?rest3
  case hs3 => kernel_rfl
  case hf3 => kernel_rfl
  case hr3 => kernel_rfl
  case hQ3 => exact fun _ _ _ h => h
  case hw3 => kernel_rfl
  case hy3 => (intro w' hw'; go_simp; try with_reducible rfl)
  (try change wpAnyH _ _ _ _ _ _ _ (Act.put _ (some 21) _) _)
  try simp only [Act.put, List.setIfInBounds_toArray, List.set_cons_zero, List.set_cons_succ]
  refine' wpAnyH_take (i := 3) (oi := _) (v := ?v4) rfl ?hs4 ?hf4 ?hr4 ?hQ4 (Or.inl ⟨?hw4, ?hy4⟩) hHeld ?rest4
  case hs4 => kernel_rfl
  case hf4 => kernel_rfl
  case hr4 => kernel_rfl
  case hQ4 => exact fun _ _ _ h => h
  case hw4 => kernel_rfl
  case hy4 => (intro w' hw'; go_simp; try with_reducible rfl)
  (try change wpAnyH _ _ _ _ _ _ _ (Act.put _ (some 22) _) _)
  try simp only [Act.put, List.setIfInBounds_toArray, List.set_cons_zero, List.set_cons_succ]
  refine' wpAnyH_take (i := 4) (oi := _) (v := ?v5) rfl ?hs5 ?hf5 ?hr5 ?hQ5 (Or.inl ⟨?hw5, ?hy5⟩) hHeld ?rest5
  case hs5 => kernel_rfl
  case hf5 => kernel_rfl
  case hr5 => kernel_rfl
  case hQ5 => exact fun _ _ _ h => h
  case hw5 => kernel_rfl
  case hy5 => (intro w' hw'; have c1' := HB2.out _ hw'; have c2' := HB3.out _ hw'; have c4' := HC2.out _ hw'; have c5' := HC3.out _ hw'; go_simp; try with_reducible rfl)
  (try change wpAnyH _ _ _ _ _ _ _ (Act.put _ (some 23) _) _)
  try simp only [Act.put, List.setIfInBounds_toArray, List.set_cons_zero, List.set_cons_succ]
  refine' wpAnyH_take (i := 7) (oi := _) (v := ?v6) rfl ?hs6 ?hf6 ?hr6 ?hQ6 (Or.inl ⟨?hw6, ?hy6⟩) hHeld ?rest6
  case hs6 => kernel_rfl
  case hf6 => kernel_rfl
  case hr6 => kernel_rfl
  case hQ6 => exact fun _ _ _ h => h
  case hw6 => kernel_rfl
  case hy6 => (intro w' hw'; go_simp; try with_reducible rfl)
  (try change wpAnyH _ _ _ _ _ _ _ (Act.put _ (some 26) _) _)
  try simp only [Act.put, List.setIfInBounds_toArray, List.set_cons_zero, List.set_cons_succ]
  refine' wpAnyH_take (i := 8) (oi := _) (v := ?v7) rfl ?hs7 ?hf7 ?hr7 ?hQ7 (Or.inl ⟨?hw7, ?hy7⟩) hHeld ?rest7
  case hs7 => kernel_rfl
  case hf7 => kernel_rfl
  case hr7 => kernel_rfl
  case hQ7 => exact fun _ _ _ h => h
  case hw7 => kernel_rfl
  case hy7 => (intro w' hw'; have c1' := HB2.out _ hw'; have c2' := HB3.out _ hw'; have c4' := HC2.out _ hw'; have c5' := HC3.out _ hw'; go_simp; try with_reducible rfl)
  (try change wpAnyH _ _ _ _ _ _ _ (Act.put _ (some 27) _) _)
  try simp only [Act.put, List.setIfInBounds_toArray, List.set_cons_zero, List.set_cons_succ]
  refine' wpAnyH_take (i := 9) (oi := _) (v := ?v8) rfl ?hs8 ?hf8 ?hr8 ?hQ8 (Or.inl ⟨?hw8, ?hy8⟩) hHeld ?rest8
  case hs8 => kernel_rfl
  case hf8 => kernel_rfl
  case hr8 => kernel_rfl
  case hQ8 => exact fun _ _ _ h => h
  case hw8 => kernel_rfl
  case hy8 => (intro w' hw'; go_simp; try with_reducible rfl)
  (try change wpAnyH _ _ _ _ _ _ _ (Act.put _ (some 28) _) _)
  try simp only [Act.put, List.setIfInBounds_toArray, List.set_cons_zero, List.set_cons_succ]
  refine' wpAnyH_take (i := 10) (oi := _) (v := ?v9) rfl ?hs9 ?hf9 ?hr9 ?hQ9 (Or.inl ⟨?hw9, ?hy9⟩) hHeld ?rest9
  case hs9 => kernel_rfl
  case hf9 => kernel_rfl
  case hr9 => kernel_rfl
  case hQ9 => exact fun _ _ _ h => h
  case hw9 => kernel_rfl
  case hy9 => (intro w' hw'; go_simp; try with_reducible rfl)
  (try change wpAnyH _ _ _ _ _ _ _ (Act.put _ (some 29) _) _)
  try simp only [Act.put, List.setIfInBounds_toArray, List.set_cons_zero, List.set_cons_succ]
  refine' wpAnyH_take (i := 11) (oi := _) (v := ?v10) rfl ?hs10 ?hf10 ?hr10 ?hQ10 (Or.inl ⟨?hw10, ?hy10⟩) hHeld ?rest10
  case hs10 => kernel_rfl
  case hf10 => kernel_rfl
  case hr10 => kernel_rfl
  case hQ10 => exact fun _ _ _ h => h
  case hw10 => kernel_rfl
  case hy10 => (intro w' hw'; have c1' := HB2.out _ hw'; have c2' := HB3.out _ hw'; have c4' := HC2.out _ hw'; have c5' := HC3.out _ hw'; go_simp; try with_reducible rfl)
  (try change wpAnyH _ _ _ _ _ _ _ (Act.put _ (some 30) _) _)
  try simp only [Act.put, List.setIfInBounds_toArray, List.set_cons_zero, List.set_cons_succ]
  refine wpAnyH_ready (rs := [5]) (by kernel_rfl) (by simp) ?_
  refine AllReadyH.cons rfl (fun K hK => ?_) AllReadyH.nil
  go_simp
  go_at_call 72; refine (HFC.out _ hHeld).mono ?_; rintro e wa ⟨rfl, hba⟩; have hbe := below_step hHeld hba; clear hba
  (try go_wp2_with fail)
  refine hK.out _ _ hbe (fun hHeld => ?_)
  clear hK K
  try simp only [Act.put, List.setIfInBounds_toArray, List.set_cons_zero, List.set_cons_succ]
  refine' wpAnyH_take (i := 6) (oi := _) (v := ?v11) rfl ?hs11 ?hf11 ?hr11 ?hQ11 (Or.inl ⟨?hw11, ?hy11⟩) hHeld ?rest11
  case hs11 => kernel_rfl
  case hf11 => kernel_rfl
  case hr11 => kernel_rfl
  case hQ11 => exact fun _ _ _ h => h
  case hw11 => kernel_rfl
  case hy11 => (intro w' hw'; go_simp; try with_reducible rfl)
  (try change wpAnyH _ _ _ _ _ _ _ (Act.put _ (some 25) _) _)
  try simp only [Act.put, List.setIfInBounds_toArray, List.set_cons_zero, List.set_cons_succ]
  refine wpAnyH_ready (rs := [12]) (by kernel_rfl) (by simp) ?_
  refine AllReadyH.cons rfl (fun K hK => ?_) AllReadyH.nil
  go_simp
  go_at_call 73; refine (HNU.out _ hHeld).mono ?_; rintro e wb ⟨rfl, hba⟩; have hbe := below_step hHeld hba; clear hba
  (try go_wp2_with fail)
  refine hK.out _ _ hbe (fun hHeld => ?_)
  clear hK K
  try simp only [Act.put, List.setIfInBounds_toArray, List.set_cons_zero, List.set_cons_succ]
  refine' wpAnyH_take (i := 13) (oi := _) (v := ?v12) rfl ?hs12 ?hf12 ?hr12 ?hQ12 (Or.inl ⟨?hw12, ?hy12⟩) hHeld ?rest12
  case hs12 => kernel_rfl
  case hf12 => kernel_rfl
  case hr12 => kernel_rfl
  case hQ12 => exact fun _ _ _ h => h
  case hw12 => kernel_rfl
  case hy12 => (intro w' hw'; go_simp; try with_reducible rfl)
  (try change wpAnyH _ _ _ _ _ _ _ (Act.put _ (some 32) _) _)
  try simp only [Act.put, List.setIfInBounds_toArray, List.set_cons_zero, List.set_cons_succ]
  refine' wpAnyH_take (i := 14) (oi := _) (v := ?v13) rfl ?hs13 ?hf13 ?hr13 ?hQ13 (Or.inl ⟨?hw13, ?hy13⟩) hHeld ?rest13
  case hs13 => kernel_rfl
  case hf13 => kernel_rfl
  case hr13 => kernel_rfl
  case hQ13 => exact fun _ _ _ h => h
  case hw13 => kernel_rfl
  case hy13 => (intro w' hw'; go_simp; try with_reducible rfl)
  (try change wpAnyH _ _ _ _ _ _ _ (Act.put _ (some 4) _) _)
  try simp only [Act.put, List.setIfInBounds_toArray, List.set_cons_zero, List.set_cons_succ]
  refine wpAnyH_done ?hdone14 ?hq14 _
  case hdone14 => kernel_rfl
  go_wp2
  go_ret
  exact ⟨ret_str HFR.out.symm, below_step HB1.out hHeld⟩
end Go.Proofs.YtcgmlhlnkbjfnaaGreatDoor

/- The program's InputOf: what it answers. -/
namespace Go.Proofs.YtcgmlhlnkbjfnaaGreatDoor
set_option maxRecDepth 100000
open Go.RowKit M
set_option linter.unusedVariables false
set_option linter.unusedSimpArgs false

theorem implInput_any (x : DCandidate) (v : Value) (F : Addr → Prop) (w : World) (hl : x.Links.length ≤ 1048576) (hv : RowRd rLink false w v x.Links F) :
    Calls Tryz.prog 62 #[.agg #[v]] w fun e w' => e = .returned (.string ⟨(inS x.Links).toArray⟩) ∧ Below w.heap.size w w' := by
  have HS0 : Hid (∀ W, Below w.heap.size w W → Calls Tryz.prog 61 #[.agg #[v]] W fun e w' => e = .returned (.bool (isCd x.Links)) ∧ Below W.heap.size W w') := fun W hW => implIsCd_any x _ F W hl (hv.kept hW)
  have HS1 : Hid (∀ W, Below w.heap.size w W → Calls Tryz.prog 102 #[v] W fun e w' => e = .returned (.tuple #[.string ⟨(inL x.Links).toArray⟩, .string ⟨(outL x.Links).toArray⟩]) ∧ Below W.heap.size W w') := fun W hW => implSides_any x.Links _ F W hl (hv.kept hW)
  obtain ⟨A, cap, rfl⟩ := hv.form
  clear hv
  have HE : Hid (inS x.Links = if isCd x.Links then inL x.Links else []) := rfl
  generalize isCd x.Links = c at *
  generalize inS x.Links = r at *
  have HA : Hid (∀ o, Below w.heap.size w (w.alloc o)) := fun o => (Below.refl _ _).alloc (Nat.le_refl _) _
  have HA1 : Hid (InC (w.alloc (.cells #[.slice A x.Links.length cap] 59)) w.heap.size #[.slice A x.Links.length cap] 59) := heap_alloc_new _ _
  go_enter Tryz.func62, Tryz.ntmps62
  go_wp2_with fail
  refine (HS0.out _ (HA.out _)).mono ?_
  rintro e w2 ⟨rfl, hb⟩
  have b1 := (HA1.out.kept hb).cell 0 rfl
  have HB : Hid (Below w.heap.size w w2) := below_step (HA.out _) hb
  clear hb
  cases c
  · go_wp2_with fail
    go_ret
    exact ⟨ret_str (by rw [HE.out] <;> rfl), HB.out⟩
  · go_wp2_with fail
    refine (HS1.out _ HB.out).mono ?_
    rintro e w3 ⟨rfl, hb⟩
    have HB3 : Hid (Below w.heap.size w w3) := below_step HB.out hb
    clear hb
    go_wp2_with fail
    go_ret
    exact ⟨ret_str (by rw [HE.out] <;> rfl), HB3.out⟩
end Go.Proofs.YtcgmlhlnkbjfnaaGreatDoor

/- The program's IsTableau: what it answers. -/
namespace Go.Proofs.YtcgmlhlnkbjfnaaGreatDoor
set_option maxRecDepth 100000
open Go.RowKit Go.Sort M
set_option linter.unusedVariables false
set_option linter.unusedSimpArgs false

set_option maxHeartbeats 16000000 in
theorem implTab_any (x : DTableau) (A1 : Option Addr) (c1 : Nat) (A2 : Option Addr) (c2 : Nat) (A3 : Option Addr) (c3 : Nat) (F1 F2 F3 : Addr → Prop) (w : World) (hm : rTableau.sz x ≤ 1048576) (hv : TabRd false w (.slice A1 x.Names.length c1) (.slice A2 x.Rows.length c2) (.slice A3 x.Marks.length c3) x F1 F2 F3) (hT : FeatTab w) :
    Calls Tryz.prog 21 #[.agg #[.string x.Input, .slice A1 x.Names.length c1, .slice A2 x.Rows.length c2, .slice A3 x.Marks.length c3]] w fun e w' => e = .returned (.bool (isTab x)) ∧ Below w.heap.size w w' := by
  obtain ⟨hz0, hz1, hz2, hz3, hz4, hz5⟩ := szTab_parts hm
  have hcap1 := hv.names.cap_le
  have HZ4 := Lib.hid hz4
  have HV := Lib.hid hv
  have HSA : Hid (∀ W, Below w.heap.size w W → Calls Tryz.prog 38 #[.slice A1 x.Names.length c1] W fun e w' => e = .returned (.bool (areC x.Names)) ∧ Below W.heap.size W w') := fun W hW => implAre_any mkT x.Names A1 c1 F1 W (by omega) hcap1 (hv.names.kept hW)
  have HSF : Hid (∀ W, Calls Tryz.prog 39 #[.string x.Input] W fun e w' => e = .returned (.bool (isFm x.Input)) ∧ W = w') := fun W => implFmS_any x.Input W (by unfold maxLen; omega)
  have HCO : Hid (areC x.Names = true → ∀ W, Below w.heap.size w W → Calls Tryz.prog 41 #[.slice A1 x.Names.length c1] W (OwnPost Rep.fn (ctrs x.Names) W)) := fun h W hW => implCtrs_any mkT x.Names A1 c1 F1 W h (hv.names.kept hW)
  have HSI : Hid (∀ (c : DCandidate) (v : Value) (G : Addr → Prop) W, c.Links.length ≤ 1048576 → RowRd rLink false W v c.Links G → Calls Tryz.prog 62 #[.agg #[v]] W fun e w' => e = .returned (.string (inT c.Links)) ∧ Below W.heap.size W w') := fun c v G W hl hr => implInput_any c v G W hl hr
  have HSC : Hid (∀ (c : DCandidate) (v : Value) (G : Addr → Prop) W, c.Links.length ≤ 1048576 → RowRd rLink false W v c.Links G → Calls Tryz.prog 61 #[.agg #[v]] W fun e w' => e = .returned (.bool (isCd c.Links)) ∧ Below W.heap.size W w') := fun c v G W hl hr => implIsCd_any c v G W hl hr
  have HSP : Hid (areC x.Names = true → ∀ (A4 : Option Addr) (c4 : Nat) (F4 : Addr → Prop) (c : DCandidate) (B : Option Addr) (q : Nat) (G : Addr → Prop) W, c.Links.length ≤ 1048576 → Below w.heap.size w W → RowRd Rep.fn false W (.slice A4 (ctrs x.Names).length c4) (ctrs x.Names) F4 → RowRd rLink false W (.slice B c.Links.length q) c.Links G → Calls Tryz.prog 44 #[.slice A4 (ctrs x.Names).length c4, .agg #[.slice B c.Links.length q]] W (OwnPost Rep.int (cntsN (ctrs x.Names) c.Links) W)) := fun h A4 c4 F4 c B q G W hl hW hr hr2 => implProfOf_any (ctrs x.Names) (ctrs_lt h) A4 c4 F4 c B q G W (by rw [ctrs_len]; exact hz1) hl hr hr2 (feat_below hT hW)
  have HX2 : Hid (∀ k, k < x.Rows.length → ∃ y, x.Rows[k]? = some y) := fun k hk => ⟨_, List.getElem?_eq_getElem hk⟩
  have HX3 : Hid (∀ k, k < x.Marks.length → ∃ y, x.Marks[k]? = some y) := fun k hk => ⟨_, List.getElem?_eq_getElem hk⟩
  have HHD : Hid (headT x = (areC x.Names && (isFm x.Input && ((decide (1 ≤ (x.Rows.length : Int)) && decide ((x.Rows.length : Int) ≤ 250)) && decide ((x.Marks.length : Int) = (x.Rows.length : Int)))))) := rfl
  have HHF := Lib.hid (isTab_head (x := x))
  have HBD : Hid (∀ k, k < x.Rows.length → rowAt x k = false → isTab x = false) := fun k h1 h2 => isTab_bad h1 h2
  have HGD : Hid (headT x = true → (∀ k, k < x.Rows.length → rowAt x k = true) → isTab x = true) := isTab_good
  have HRA : Hid (areC x.Names = true → ∀ (k : Nat) (c : DCandidate) (m : List Int), x.Rows[k]? = some c → x.Marks[k]? = some m → rowAt x k = (isCd c.Links && (decide (inT c.Links = x.Input) && decide (m = cntsN (ctrs x.Names) c.Links)))) := fun h k c m h1 h2 => by
    rw [rowAt_of h1 h2]
    unfold rowOk
    cases hc : isCd c.Links with
    | false => rfl
    | true => rw [profN_ctrs h hc]
  clear hv hz4 hz5 hm hT
  have HA : Hid (∀ o, Below w.heap.size w (w.alloc o)) := fun o => (Below.refl _ _).alloc (Nat.le_refl _) _
  have HA1 : Hid (InC (w.alloc (.cells #[.string x.Input, .slice A1 x.Names.length c1, .slice A2 x.Rows.length c2, .slice A3 x.Marks.length c3] 27)) w.heap.size #[.string x.Input, .slice A1 x.Names.length c1, .slice A2 x.Rows.length c2, .slice A3 x.Marks.length c3] 27) := heap_alloc_new _ _
  go_enter Tryz.func21, Tryz.ntmps21
  go_wp2_with fail
  refine (HSA.out _ (HA.out _)).mono ?_
  rintro e w1 ⟨rfl, hb⟩
  have HB1 : Hid (Below w.heap.size w w1) := below_step (HA.out _) hb
  have HX1 := Lib.hid (HA1.out.kept hb)
  have b0 := HX1.out.cell 0 rfl
  have b1 := HX1.out.cell 1 rfl
  have b2 := HX1.out.cell 2 rfl
  have b3 := HX1.out.cell 3 rfl
  clear hb
  cases ha : areC x.Names with
  | false =>
    have HN : Hid (isTab x = false) := HHF.out (by rw [HHD.out, ha]; rfl)
    go_wp2_with fail
    go_ret
    exact ⟨ret_bool HN.out.symm, HB1.out⟩
  | true =>
  go_wp2_with fail
  refine (HSF.out _).mono ?_
  rintro e w1' ⟨rfl, rfl⟩
  cases hf : isFm x.Input with
  | false =>
    have HN : Hid (isTab x = false) := HHF.out (by rw [HHD.out, ha, hf]; rfl)
    go_wp2_with fail
    go_ret
    exact ⟨ret_bool HN.out.symm, HB1.out⟩
  | true =>
  by_cases hr1 : (1 ≤ (x.Rows.length : Int))
  case neg =>
    have HN : Hid (isTab x = false) := HHF.out (by rw [HHD.out, ha, hf, decide_eq_false hr1]; simp)
    have e1 : decide ((x.Rows.length : Int) < 1) = true := decide_eq_true (by omega)
    clear ha hf hr1
    go_wp2_with fail
    go_ret
    exact ⟨ret_bool HN.out.symm, HB1.out⟩
  by_cases hr2 : ((x.Rows.length : Int) ≤ 250)
  case neg =>
    have HN : Hid (isTab x = false) := HHF.out (by rw [HHD.out, ha, hf, decide_eq_false hr2]; simp)
    have e1 : decide ((x.Rows.length : Int) < 1) = false := decide_eq_false (by omega)
    have e2 : decide ((250 : Int) < (x.Rows.length : Int)) = true := decide_eq_true (by omega)
    clear ha hf hr1 hr2
    go_wp2_with fail
    go_ret
    exact ⟨ret_bool HN.out.symm, HB1.out⟩
  have e1 : decide ((x.Rows.length : Int) < 1) = false := decide_eq_false (by omega)
  have e2 : decide ((250 : Int) < (x.Rows.length : Int)) = false := decide_eq_false (by omega)
  by_cases hml : (x.Marks.length : Int) = (x.Rows.length : Int)
  case neg =>
    have HN : Hid (isTab x = false) := HHF.out (by rw [HHD.out, ha, hf, decide_eq_false hml]; simp)
    have e3 : ((x.Marks.length : Int) != (x.Rows.length : Int)) = true := by simpa using hml
    clear ha hf
    go_wp2_with fail
    go_ret
    exact ⟨ret_bool HN.out.symm, HB1.out⟩
  have e3 : ((x.Marks.length : Int) != (x.Rows.length : Int)) = false := by simpa using hml
  have HHT : Hid (headT x = true) := by unfold Hid; rw [HHD.out, ha, hf, decide_eq_true hr1, decide_eq_true hr2, decide_eq_true hml]; rfl
  have HCA := Lib.hid (HCO.out ha)
  have HPA := Lib.hid (HSP.out ha)
  have HRB := Lib.hid (HRA.out ha)
  clear ha hf HHD HHF HCO HSP HRA
  have hml2 : x.Marks.length = x.Rows.length := by omega
  go_wp2_with fail
  refine (HCA.out _ HB1.out).mono ?_
  rintro e w3 ⟨u4, rfl, hr4, hb⟩
  obtain ⟨A4, c4, rfl⟩ := hr4.form
  have HB3 : Hid (Below w.heap.size w w3) := below_step HB1.out hb
  have HX3' := Lib.hid (HX1.out.kept hb)
  have HR4 := Lib.hid hr4.weak
  clear hb hr4 b0 b1 b2 b3 HX1 HCA e1 e2 e3
  have b2 := HX3'.out.cell 2 rfl
  go_wp2
  clear b2
  go_loopw [41] (fun i wr => ∃ (k : Nat), k ≤ x.Rows.length ∧ i = .int .i64 k ∧ Hid (∀ j, j < k → rowAt x j = true) ∧ Below w3.heap.size w3 wr) (fun i _ => x.Rows.length - (intOf i).toNat)
  case atStart => exact ⟨0, by omega, rfl, fun j hj => by omega, Below.refl _ _⟩
  case round =>
    obtain ⟨k, hk, rfl, hall, hbe0⟩ := hrel
    obtain ⟨w2, rfl⟩ : ∃ w2 : World, w2 = wr := ⟨_, rfl⟩
    have HB := Lib.hid hbe0
    have HBW := Lib.hid (below_step HB3.out hbe0)
    have HBX := Lib.hid (HX3'.out.kept hbe0)
    clear hbe0
    by_cases hkl : k < x.Rows.length
    · obtain ⟨c, hc⟩ := HX2.out k hkl
      obtain ⟨m, hmk⟩ := HX3.out k (by omega)
      have HL := Lib.hid (HZ4.out k c hc)
      have HRK := Lib.hid (HRB.out k c m hc hmk)
      obtain ⟨g2, o2, xs2, G2, rfl, _, hr2', _, hc2⟩ := (HV.out.rows.kept HBW.out).get hc
      obtain ⟨v2, rfl, q2⟩ := rCandidate_rd hr2'
      obtain ⟨g3, o3, xs3, G3, rfl, _, hr3', _, hc3⟩ := (HV.out.marks.kept HBW.out).get hmk
      obtain ⟨v3, rfl, q3⟩ := id hr3'
      rw [rCandidate_size] at hc2
      rw [show (Rep.row Rep.int).size = 1 from rfl] at hc3
      have d2 := hc2 0 _ rfl
      have d3 := hc3 0 _ rfl
      simp only [Nat.add_zero, Nat.mul_one] at d2 d3
      obtain ⟨A2', cp2, rfl⟩ := q2.form
      obtain ⟨A3', cp3, rfl⟩ := q3.form
      have HWB : Hid (Below w2.heap.size w2 (w2.alloc (.cells #[.slice A2' c.Links.length cp2] 59))) := (Below.refl _ _).alloc (Nat.le_refl _) _
      have HIB : Hid (InC (w2.alloc (.cells #[.slice A2' c.Links.length cp2] 59)) w2.heap.size #[.slice A2' c.Links.length cp2] 59) := heap_alloc_new _ _
      have HW2 : Hid (∀ W : World, Below (w2.alloc (.cells #[.slice A2' c.Links.length cp2] 59)).heap.size (w2.alloc (.cells #[.slice A2' c.Links.length cp2] 59)) W → Below w2.heap.size w2 W) := fun W hW => below_step HWB.out hW
      have HC3 : Hid (∀ W : World, Below (w2.alloc (.cells #[.slice A2' c.Links.length cp2] 59)).heap.size (w2.alloc (.cells #[.slice A2' c.Links.length cp2] 59)) W → W.cell? ⟨g3, o3 + k, none⟩ = some (.slice A3' m.length cp3)) := fun W hW => cell_kept (HW2.out W hW) d3
      have HC4 : Hid (∀ W : World, Below (w2.alloc (.cells #[.slice A2' c.Links.length cp2] 59)).heap.size (w2.alloc (.cells #[.slice A2' c.Links.length cp2] 59)) W → W.cell? ⟨w2.heap.size, 0, none⟩ = some (.slice A2' c.Links.length cp2)) := fun W hW => (HIB.out.kept hW).cell 0 rfl
      have HW : Hid (∀ W : World, Below (w2.alloc (.cells #[.slice A2' c.Links.length cp2] 59)).heap.size (w2.alloc (.cells #[.slice A2' c.Links.length cp2] 59)) W → Below w.heap.size w W) := fun W hW => below_step HBW.out (HW2.out W hW)
      have HQ2 := Lib.hid q2
      have HQ3 := Lib.hid q3
      have HBD2 := Lib.hid (HBD.out k hkl)
      have hkm : (k : Int) < (x.Marks.length : Int) := by omega
      have hkr : (k : Int) < (x.Rows.length : Int) := by omega
      have HB0 : Hid (∀ W : World, Below (w2.alloc (.cells #[.slice A2' c.Links.length cp2] 59)).heap.size (w2.alloc (.cells #[.slice A2' c.Links.length cp2] 59)) W → W.cell? ⟨w.heap.size, 0, none⟩ = some (.string x.Input)) := fun W hW => (HBX.out.kept (HW2.out W hW)).cell 0 rfl
      have HB3' : Hid (∀ W : World, Below (w2.alloc (.cells #[.slice A2' c.Links.length cp2] 59)).heap.size (w2.alloc (.cells #[.slice A2' c.Links.length cp2] 59)) W → W.cell? ⟨w.heap.size, 3, none⟩ = some (.slice (some ⟨g3, o3, none⟩) x.Marks.length c3)) := fun W hW => (HBX.out.kept (HW2.out W hW)).cell 3 rfl
      have HIN : Hid (∀ W, Below (w2.alloc (.cells #[.slice A2' c.Links.length cp2] 59)).heap.size (w2.alloc (.cells #[.slice A2' c.Links.length cp2] 59)) W → Calls Tryz.prog 62 #[.agg #[.slice A2' c.Links.length cp2]] W fun e w' => e = .returned (.string (inT c.Links)) ∧ Below W.heap.size W w') := fun W hW => HSI.out c _ G2 W HL.out (HQ2.out.kept (HW2.out W hW))
      have HIC : Hid (∀ W, Below (w2.alloc (.cells #[.slice A2' c.Links.length cp2] 59)).heap.size (w2.alloc (.cells #[.slice A2' c.Links.length cp2] 59)) W → Calls Tryz.prog 61 #[.agg #[.slice A2' c.Links.length cp2]] W fun e w' => e = .returned (.bool (isCd c.Links)) ∧ Below W.heap.size W w') := fun W hW => HSC.out c _ G2 W HL.out (HQ2.out.kept (HW2.out W hW))
      have HPF : Hid (∀ W, Below (w2.alloc (.cells #[.slice A2' c.Links.length cp2] 59)).heap.size (w2.alloc (.cells #[.slice A2' c.Links.length cp2] 59)) W → Calls Tryz.prog 44 #[.slice A4 (ctrs x.Names).length c4, .agg #[.slice A2' c.Links.length cp2]] W (OwnPost Rep.int (cntsN (ctrs x.Names) c.Links) W)) := fun W hW => HPA.out A4 c4 _ c A2' cp2 G2 W HL.out (HW.out W hW) ((HR4.out.kept HB.out).kept (HW2.out W hW)) (HQ2.out.kept (HW2.out W hW))
      have HSE : Hid (∀ W (u : Value) (G : Addr → Prop), Below (w2.alloc (.cells #[.slice A2' c.Links.length cp2] 59)).heap.size (w2.alloc (.cells #[.slice A2' c.Links.length cp2] 59)) W → RowRd Rep.int false W u (cntsN (ctrs x.Names) c.Links) G → Calls Tryz.prog 63 #[.slice A3' m.length cp3, u] W fun e w' => e = .returned (.bool (decide (m = cntsN (ctrs x.Names) c.Links))) ∧ Below W.heap.size W w') := fun W u G hW hu => sliceEq_any _ u m _ G3 G W (HQ3.out.kept (HW2.out W hW)) hu
      have hne : ((inT c.Links).toList == x.Input.toList) = decide (inT c.Links = x.Input) := txt_eq _ _
      have HRO := Lib.hid HRK.out
      clear hc hmk hr2' hr3' hc2 hc3 d3 q2 q3 HRK HQ2 HQ3 HL HSI HSC HPA HZ4 HX2 HX3 HRB
      generalize hbi : decide (inT c.Links = x.Input) = bi at *
      generalize hbc : isCd c.Links = bc at *
      generalize hbm : decide (m = cntsN (ctrs x.Names) c.Links) = bm at *
      generalize ctrs x.Names = js at *
      clear hbi hbc hbm
      go_upto_region 9 with fail
      clear d2
      go_cut [67] (fun b wx => b = .bool (!rowAt x k) ∧ Below w2.heap.size w2 wx)
      case first =>
        refine wp_region_held_drew (S := fun w' => Below (w2.alloc (.cells #[.slice A2' c.Links.length cp2] 59)).heap.size (w2.alloc (.cells #[.slice A2' c.Links.length cp2] 59)) w') (by kernel_rfl) ((Below.refl _ _).drew) (fun hHeld => ?_)
        cases bc
        · refine' wpAnyH_take (i := 0) (oi := _) (v := ?v1) rfl ?hs1 ?hf1 ?hr1 ?hQ1 (Or.inl ⟨?hw1, ?hy1⟩) hHeld ?rest1
          case hs1 => kernel_rfl
          case hf1 => kernel_rfl
          case hr1 => kernel_rfl
          case hQ1 => exact fun _ _ _ h => h
          case hw1 => kernel_rfl
          case hy1 => (intro w' hw'; have c0 := HB0.out _ hw'; have c3' := HB3'.out _ hw'; have c4' := HC4.out _ hw'; have c5' := HC3.out _ hw'; go_simp; try with_reducible rfl)
          (try change wpAnyH _ _ _ _ _ _ _ (Act.put _ (some 46) _) _)
          try simp only [Act.put, List.setIfInBounds_toArray, List.set_cons_zero, List.set_cons_succ]
          refine wpAnyH_ready (rs := [1]) (by kernel_rfl) (by simp) ?_
          refine AllReadyH.cons rfl (fun K hK => ?_) AllReadyH.nil
          go_simp
          go_at_call 61; refine (HIC.out _ hHeld).mono ?_; rintro e wb ⟨rfl, hba⟩; have hbe := below_step hHeld hba; clear hba
          (try go_wp2_with fail)
          refine hK.out _ _ hbe (fun hHeld => ?_)
          clear hK K
          try simp only [Act.put, List.setIfInBounds_toArray, List.set_cons_zero, List.set_cons_succ]
          refine' wpAnyH_take (i := 2) (oi := _) (v := ?v2) rfl ?hs2 ?hf2 ?hr2 ?hQ2 (Or.inl ⟨?hw2, ?hy2⟩) hHeld ?rest2
          case hs2 => kernel_rfl
          case hf2 => kernel_rfl
          case hr2 => kernel_rfl
          case hQ2 => exact fun _ _ _ h => h
          case hw2 => kernel_rfl
          case hy2 => (intro w' hw'; go_simp; try with_reducible rfl)
          (try change wpAnyH _ _ _ _ _ _ _ (Act.put _ (some 48) _) _)
          try simp only [Act.put, List.setIfInBounds_toArray, List.set_cons_zero, List.set_cons_succ]
          refine' wpAnyH_take (i := 3) (oi := _) (v := ?v3) rfl ?hs3 ?hf3 ?hr3 ?hQ3 (Or.inl ⟨?hw3, ?hy3⟩) hHeld ?rest3
          case hs3 => kernel_rfl
          case hf3 => kernel_rfl
          case hr3 => kernel_rfl
          case hQ3 => exact fun _ _ _ h => h
          case hw3 => kernel_rfl
          case hy3 => (intro w' hw'; go_simp; try with_reducible rfl)
          (try change wpAnyH _ _ _ _ _ _ _ (Act.put _ (some 49) _) _)
          try simp only [Act.put, List.setIfInBounds_toArray, List.set_cons_zero, List.set_cons_succ]
          refine' wpAnyH_take (i := 4) (oi := _) (v := undef) rfl ?hs4 ?hf4 ?hr4 ?hQ4 (Or.inr ⟨?hw4, rfl⟩) hHeld ?rest4
          case hs4 => kernel_rfl
          case hf4 => kernel_rfl
          case hr4 => kernel_rfl
          case hQ4 => exact fun _ _ _ h => h
          case hw4 => kernel_rfl
          (try change wpAnyH _ _ _ _ _ _ _ (Act.put _ (some 50) _) _)
          try simp only [Act.put, List.setIfInBounds_toArray, List.set_cons_zero, List.set_cons_succ]
          refine' wpAnyH_take (i := 5) (oi := _) (v := undef) rfl ?hs5 ?hf5 ?hr5 ?hQ5 (Or.inr ⟨?hw5, rfl⟩) hHeld ?rest5
          case hs5 => kernel_rfl
          case hf5 => kernel_rfl
          case hr5 => kernel_rfl
          case hQ5 => exact fun _ _ _ h => h
          case hw5 => kernel_rfl
          (try change wpAnyH _ _ _ _ _ _ _ (Act.put _ (some 51) _) _)
          try simp only [Act.put, List.setIfInBounds_toArray, List.set_cons_zero, List.set_cons_succ]
          refine' wpAnyH_take (i := 6) (oi := _) (v := undef) rfl ?hs6 ?hf6 ?hr6 ?hQ6 (Or.inr ⟨?hw6, rfl⟩) hHeld ?rest6
          case hs6 => kernel_rfl
          case hf6 => kernel_rfl
          case hr6 => kernel_rfl
          case hQ6 => exact fun _ _ _ h => h
          case hw6 => kernel_rfl
          (try change wpAnyH _ _ _ _ _ _ _ (Act.put _ (some 52) _) _)
          try simp only [Act.put, List.setIfInBounds_toArray, List.set_cons_zero, List.set_cons_succ]
          refine' wpAnyH_take (i := 7) (oi := _) (v := undef) rfl ?hs7 ?hf7 ?hr7 ?hQ7 (Or.inr ⟨?hw7, rfl⟩) hHeld ?rest7
          case hs7 => kernel_rfl
          case hf7 => kernel_rfl
          case hr7 => kernel_rfl
          case hQ7 => exact fun _ _ _ h => h
          case hw7 => kernel_rfl
          (try change wpAnyH _ _ _ _ _ _ _ (Act.put _ (some 53) _) _)
          try simp only [Act.put, List.setIfInBounds_toArray, List.set_cons_zero, List.set_cons_succ]
          refine' wpAnyH_take (i := 8) (oi := _) (v := undef) rfl ?hs8 ?hf8 ?hr8 ?hQ8 (Or.inr ⟨?hw8, rfl⟩) hHeld ?rest8
          case hs8 => kernel_rfl
          case hf8 => kernel_rfl
          case hr8 => kernel_rfl
          case hQ8 => exact fun _ _ _ h => h
          case hw8 => kernel_rfl
          (try change wpAnyH _ _ _ _ _ _ _ (Act.put _ (some 54) _) _)
          try simp only [Act.put, List.setIfInBounds_toArray, List.set_cons_zero, List.set_cons_succ]
          refine' wpAnyH_take (i := 9) (oi := _) (v := ?v9) rfl ?hs9 ?hf9 ?hr9 ?hQ9 (Or.inl ⟨?hw9, ?hy9⟩) hHeld ?rest9
          case hs9 => kernel_rfl
          case hf9 => kernel_rfl
          case hr9 => kernel_rfl
          case hQ9 => exact fun _ _ _ h => h
          case hw9 => kernel_rfl
          case hy9 => (intro w' hw'; go_simp; try with_reducible rfl)
          (try change wpAnyH _ _ _ _ _ _ _ (Act.put _ (some 55) _) _)
          try simp only [Act.put, List.setIfInBounds_toArray, List.set_cons_zero, List.set_cons_succ]
          refine' wpAnyH_take (i := 10) (oi := _) (v := ?v10) rfl ?hs10 ?hf10 ?hr10 ?hQ10 (Or.inl ⟨?hw10, ?hy10⟩) hHeld ?rest10
          case hs10 => kernel_rfl
          case hf10 => kernel_rfl
          case hr10 => kernel_rfl
          case hQ10 => exact fun _ _ _ h => h
          case hw10 => kernel_rfl
          case hy10 => (intro w' hw'; go_simp; try with_reducible rfl)
          (try change wpAnyH _ _ _ _ _ _ _ (Act.put _ (some 56) _) _)
          try simp only [Act.put, List.setIfInBounds_toArray, List.set_cons_zero, List.set_cons_succ]
          refine' wpAnyH_take (i := 11) (oi := _) (v := undef) rfl ?hs11 ?hf11 ?hr11 ?hQ11 (Or.inr ⟨?hw11, rfl⟩) hHeld ?rest11
          case hs11 => kernel_rfl
          case hf11 => kernel_rfl
          case hr11 => kernel_rfl
          case hQ11 => exact fun _ _ _ h => h
          case hw11 => kernel_rfl
          (try change wpAnyH _ _ _ _ _ _ _ (Act.put _ (some 57) _) _)
          try simp only [Act.put, List.setIfInBounds_toArray, List.set_cons_zero, List.set_cons_succ]
          refine' wpAnyH_take (i := 12) (oi := _) (v := undef) rfl ?hs12 ?hf12 ?hr12 ?hQ12 (Or.inr ⟨?hw12, rfl⟩) hHeld ?rest12
          case hs12 => kernel_rfl
          case hf12 => kernel_rfl
          case hr12 => kernel_rfl
          case hQ12 => exact fun _ _ _ h => h
          case hw12 => kernel_rfl
          (try change wpAnyH _ _ _ _ _ _ _ (Act.put _ (some 58) _) _)
          try simp only [Act.put, List.setIfInBounds_toArray, List.set_cons_zero, List.set_cons_succ]
          refine' wpAnyH_take (i := 13) (oi := _) (v := undef) rfl ?hs13 ?hf13 ?hr13 ?hQ13 (Or.inr ⟨?hw13, rfl⟩) hHeld ?rest13
          case hs13 => kernel_rfl
          case hf13 => kernel_rfl
          case hr13 => kernel_rfl
          case hQ13 => exact fun _ _ _ h => h
          case hw13 => kernel_rfl
          (try change wpAnyH _ _ _ _ _ _ _ (Act.put _ (some 59) _) _)
          try simp only [Act.put, List.setIfInBounds_toArray, List.set_cons_zero, List.set_cons_succ]
          refine' wpAnyH_take (i := 14) (oi := _) (v := undef) rfl ?hs14 ?hf14 ?hr14 ?hQ14 (Or.inr ⟨?hw14, rfl⟩) hHeld ?rest14
          case hs14 => kernel_rfl
          case hf14 => kernel_rfl
          case hr14 => kernel_rfl
          case hQ14 => exact fun _ _ _ h => h
          case hw14 => kernel_rfl
          (try change wpAnyH _ _ _ _ _ _ _ (Act.put _ (some 60) _) _)
          try simp only [Act.put, List.setIfInBounds_toArray, List.set_cons_zero, List.set_cons_succ]
          refine' wpAnyH_take (i := 15) (oi := _) (v := undef) rfl ?hs15 ?hf15 ?hr15 ?hQ15 (Or.inr ⟨?hw15, rfl⟩) hHeld ?rest15
          case hs15 => kernel_rfl
          case hf15 => kernel_rfl
          case hr15 => kernel_rfl
          case hQ15 => exact fun _ _ _ h => h
          case hw15 => kernel_rfl
          (try change wpAnyH _ _ _ _ _ _ _ (Act.put _ (some 61) _) _)
          try simp only [Act.put, List.setIfInBounds_toArray, List.set_cons_zero, List.set_cons_succ]
          refine' wpAnyH_take (i := 16) (oi := _) (v := undef) rfl ?hs16 ?hf16 ?hr16 ?hQ16 (Or.inr ⟨?hw16, rfl⟩) hHeld ?rest16
          case hs16 => kernel_rfl
          case hf16 => kernel_rfl
          case hr16 => kernel_rfl
          case hQ16 => exact fun _ _ _ h => h
          case hw16 => kernel_rfl
          (try change wpAnyH _ _ _ _ _ _ _ (Act.put _ (some 62) _) _)
          try simp only [Act.put, List.setIfInBounds_toArray, List.set_cons_zero, List.set_cons_succ]
          refine' wpAnyH_take (i := 17) (oi := _) (v := undef) rfl ?hs17 ?hf17 ?hr17 ?hQ17 (Or.inr ⟨?hw17, rfl⟩) hHeld ?rest17
          case hs17 => kernel_rfl
          case hf17 => kernel_rfl
          case hr17 => kernel_rfl
          case hQ17 => exact fun _ _ _ h => h
          case hw17 => kernel_rfl
          (try change wpAnyH _ _ _ _ _ _ _ (Act.put _ (some 63) _) _)
          try simp only [Act.put, List.setIfInBounds_toArray, List.set_cons_zero, List.set_cons_succ]
          refine' wpAnyH_take (i := 18) (oi := _) (v := undef) rfl ?hs18 ?hf18 ?hr18 ?hQ18 (Or.inr ⟨?hw18, rfl⟩) hHeld ?rest18
          case hs18 => kernel_rfl
          case hf18 => kernel_rfl
          case hr18 => kernel_rfl
          case hQ18 => exact fun _ _ _ h => h
          case hw18 => kernel_rfl
          (try change wpAnyH _ _ _ _ _ _ _ (Act.put _ (some 64) _) _)
          try simp only [Act.put, List.setIfInBounds_toArray, List.set_cons_zero, List.set_cons_succ]
          refine' wpAnyH_take (i := 19) (oi := _) (v := undef) rfl ?hs19 ?hf19 ?hr19 ?hQ19 (Or.inr ⟨?hw19, rfl⟩) hHeld ?rest19
          case hs19 => kernel_rfl
          case hf19 => kernel_rfl
          case hr19 => kernel_rfl
          case hQ19 => exact fun _ _ _ h => h
          case hw19 => kernel_rfl
          (try change wpAnyH _ _ _ _ _ _ _ (Act.put _ (some 65) _) _)
          try simp only [Act.put, List.setIfInBounds_toArray, List.set_cons_zero, List.set_cons_succ]
          refine' wpAnyH_take (i := 20) (oi := _) (v := undef) rfl ?hs20 ?hf20 ?hr20 ?hQ20 (Or.inr ⟨?hw20, rfl⟩) hHeld ?rest20
          case hs20 => kernel_rfl
          case hf20 => kernel_rfl
          case hr20 => kernel_rfl
          case hQ20 => exact fun _ _ _ h => h
          case hw20 => kernel_rfl
          (try change wpAnyH _ _ _ _ _ _ _ (Act.put _ (some 66) _) _)
          try simp only [Act.put, List.setIfInBounds_toArray, List.set_cons_zero, List.set_cons_succ]
          refine' wpAnyH_take (i := 21) (oi := _) (v := ?v21) rfl ?hs21 ?hf21 ?hr21 ?hQ21 (Or.inl ⟨?hw21, ?hy21⟩) hHeld ?rest21
          case hs21 => kernel_rfl
          case hf21 => kernel_rfl
          case hr21 => kernel_rfl
          case hQ21 => exact fun _ _ _ h => h
          case hw21 => kernel_rfl
          case hy21 => (intro w' hw'; go_simp; try with_reducible rfl)
          (try change wpAnyH _ _ _ _ _ _ _ (Act.put _ (some 67) _) _)
          try simp only [Act.put, List.setIfInBounds_toArray, List.set_cons_zero, List.set_cons_succ]
          refine wpAnyH_done ?hdone22 ?hq22 _
          case hdone22 => kernel_rfl
          go_wp2_with fail
          go_meet
          exact ⟨by rw [HRO.out]; first | rfl | simp, HW2.out _ hHeld⟩
        · cases bi
          · refine' wpAnyH_take (i := 0) (oi := _) (v := ?v23) rfl ?hs23 ?hf23 ?hr23 ?hQ23 (Or.inl ⟨?hw23, ?hy23⟩) hHeld ?rest23
            case hs23 => kernel_rfl
            case hf23 => kernel_rfl
            case hr23 => kernel_rfl
            case hQ23 => exact fun _ _ _ h => h
            case hw23 => kernel_rfl
            case hy23 => (intro w' hw'; have c0 := HB0.out _ hw'; have c3' := HB3'.out _ hw'; have c4' := HC4.out _ hw'; have c5' := HC3.out _ hw'; go_simp; try with_reducible rfl)
            (try change wpAnyH _ _ _ _ _ _ _ (Act.put _ (some 46) _) _)
            try simp only [Act.put, List.setIfInBounds_toArray, List.set_cons_zero, List.set_cons_succ]
            refine wpAnyH_ready (rs := [1]) (by kernel_rfl) (by simp) ?_
            refine AllReadyH.cons rfl (fun K hK => ?_) AllReadyH.nil
            go_simp
            go_at_call 61; refine (HIC.out _ hHeld).mono ?_; rintro e wb ⟨rfl, hba⟩; have hbe := below_step hHeld hba; clear hba
            (try go_wp2_with fail)
            refine hK.out _ _ hbe (fun hHeld => ?_)
            clear hK K
            try simp only [Act.put, List.setIfInBounds_toArray, List.set_cons_zero, List.set_cons_succ]
            refine' wpAnyH_take (i := 2) (oi := _) (v := ?v24) rfl ?hs24 ?hf24 ?hr24 ?hQ24 (Or.inl ⟨?hw24, ?hy24⟩) hHeld ?rest24
            case hs24 => kernel_rfl
            case hf24 => kernel_rfl
            case hr24 => kernel_rfl
            case hQ24 => exact fun _ _ _ h => h
            case hw24 => kernel_rfl
            case hy24 => (intro w' hw'; go_simp; try with_reducible rfl)
            (try change wpAnyH _ _ _ _ _ _ _ (Act.put _ (some 48) _) _)
            try simp only [Act.put, List.setIfInBounds_toArray, List.set_cons_zero, List.set_cons_succ]
            refine' wpAnyH_take (i := 3) (oi := _) (v := ?v25) rfl ?hs25 ?hf25 ?hr25 ?hQ25 (Or.inl ⟨?hw25, ?hy25⟩) hHeld ?rest25
            case hs25 => kernel_rfl
            case hf25 => kernel_rfl
            case hr25 => kernel_rfl
            case hQ25 => exact fun _ _ _ h => h
            case hw25 => kernel_rfl
            case hy25 => (intro w' hw'; go_simp; try with_reducible rfl)
            (try change wpAnyH _ _ _ _ _ _ _ (Act.put _ (some 49) _) _)
            try simp only [Act.put, List.setIfInBounds_toArray, List.set_cons_zero, List.set_cons_succ]
            refine' wpAnyH_take (i := 4) (oi := _) (v := ?v26) rfl ?hs26 ?hf26 ?hr26 ?hQ26 (Or.inl ⟨?hw26, ?hy26⟩) hHeld ?rest26
            case hs26 => kernel_rfl
            case hf26 => kernel_rfl
            case hr26 => kernel_rfl
            case hQ26 => exact fun _ _ _ h => h
            case hw26 => kernel_rfl
            case hy26 => (intro w' hw'; have c0 := HB0.out _ hw'; have c3' := HB3'.out _ hw'; have c4' := HC4.out _ hw'; have c5' := HC3.out _ hw'; go_simp; try with_reducible rfl)
            (try change wpAnyH _ _ _ _ _ _ _ (Act.put _ (some 50) _) _)
            try simp only [Act.put, List.setIfInBounds_toArray, List.set_cons_zero, List.set_cons_succ]
            refine' wpAnyH_take (i := 6) (oi := _) (v := ?v27) rfl ?hs27 ?hf27 ?hr27 ?hQ27 (Or.inl ⟨?hw27, ?hy27⟩) hHeld ?rest27
            case hs27 => kernel_rfl
            case hf27 => kernel_rfl
            case hr27 => kernel_rfl
            case hQ27 => exact fun _ _ _ h => h
            case hw27 => kernel_rfl
            case hy27 => (intro w' hw'; go_simp; try with_reducible rfl)
            (try change wpAnyH _ _ _ _ _ _ _ (Act.put _ (some 52) _) _)
            try simp only [Act.put, List.setIfInBounds_toArray, List.set_cons_zero, List.set_cons_succ]
            refine' wpAnyH_take (i := 7) (oi := _) (v := ?v28) rfl ?hs28 ?hf28 ?hr28 ?hQ28 (Or.inl ⟨?hw28, ?hy28⟩) hHeld ?rest28
            case hs28 => kernel_rfl
            case hf28 => kernel_rfl
            case hr28 => kernel_rfl
            case hQ28 => exact fun _ _ _ h => h
            case hw28 => kernel_rfl
            case hy28 => (intro w' hw'; have c0 := HB0.out _ hw'; have c3' := HB3'.out _ hw'; have c4' := HC4.out _ hw'; have c5' := HC3.out _ hw'; go_simp; try with_reducible rfl)
            (try change wpAnyH _ _ _ _ _ _ _ (Act.put _ (some 53) _) _)
            try simp only [Act.put, List.setIfInBounds_toArray, List.set_cons_zero, List.set_cons_succ]
            refine wpAnyH_ready (rs := [5]) (by kernel_rfl) (by simp) ?_
            refine AllReadyH.cons rfl (fun K hK => ?_) AllReadyH.nil
            go_simp
            go_at_call 62; refine (HIN.out _ hHeld).mono ?_; rintro e wa ⟨rfl, hba⟩; have hbe := below_step hHeld hba; clear hba
            (try go_wp2_with fail)
            refine hK.out _ _ hbe (fun hHeld => ?_)
            clear hK K
            try simp only [Act.put, List.setIfInBounds_toArray, List.set_cons_zero, List.set_cons_succ]
            refine' wpAnyH_take (i := 8) (oi := _) (v := ?v29) rfl ?hs29 ?hf29 ?hr29 ?hQ29 (Or.inl ⟨?hw29, ?hy29⟩) hHeld ?rest29
            case hs29 => kernel_rfl
            case hf29 => kernel_rfl
            case hr29 => kernel_rfl
            case hQ29 => exact fun _ _ _ h => h
            case hw29 => kernel_rfl
            case hy29 => (intro w' hw'; go_simp; try with_reducible rfl)
            (try change wpAnyH _ _ _ _ _ _ _ (Act.put _ (some 54) _) _)
            try simp only [Act.put, List.setIfInBounds_toArray, List.set_cons_zero, List.set_cons_succ]
            refine' wpAnyH_take (i := 9) (oi := _) (v := ?v30) rfl ?hs30 ?hf30 ?hr30 ?hQ30 (Or.inl ⟨?hw30, ?hy30⟩) hHeld ?rest30
            case hs30 => kernel_rfl
            case hf30 => kernel_rfl
            case hr30 => kernel_rfl
            case hQ30 => exact fun _ _ _ h => h
            case hw30 => kernel_rfl
            case hy30 => (intro w' hw'; go_simp; try with_reducible rfl)
            (try change wpAnyH _ _ _ _ _ _ _ (Act.put _ (some 55) _) _)
            try simp only [Act.put, List.setIfInBounds_toArray, List.set_cons_zero, List.set_cons_succ]
            refine' wpAnyH_take (i := 10) (oi := _) (v := ?v31) rfl ?hs31 ?hf31 ?hr31 ?hQ31 (Or.inl ⟨?hw31, ?hy31⟩) hHeld ?rest31
            case hs31 => kernel_rfl
            case hf31 => kernel_rfl
            case hr31 => kernel_rfl
            case hQ31 => exact fun _ _ _ h => h
            case hw31 => kernel_rfl
            case hy31 => (intro w' hw'; go_simp; try with_reducible rfl)
            (try change wpAnyH _ _ _ _ _ _ _ (Act.put _ (some 56) _) _)
            try simp only [Act.put, List.setIfInBounds_toArray, List.set_cons_zero, List.set_cons_succ]
            refine' wpAnyH_take (i := 11) (oi := _) (v := undef) rfl ?hs32 ?hf32 ?hr32 ?hQ32 (Or.inr ⟨?hw32, rfl⟩) hHeld ?rest32
            case hs32 => kernel_rfl
            case hf32 => kernel_rfl
            case hr32 => kernel_rfl
            case hQ32 => exact fun _ _ _ h => h
            case hw32 => kernel_rfl
            (try change wpAnyH _ _ _ _ _ _ _ (Act.put _ (some 57) _) _)
            try simp only [Act.put, List.setIfInBounds_toArray, List.set_cons_zero, List.set_cons_succ]
            refine' wpAnyH_take (i := 12) (oi := _) (v := undef) rfl ?hs33 ?hf33 ?hr33 ?hQ33 (Or.inr ⟨?hw33, rfl⟩) hHeld ?rest33
            case hs33 => kernel_rfl
            case hf33 => kernel_rfl
            case hr33 => kernel_rfl
            case hQ33 => exact fun _ _ _ h => h
            case hw33 => kernel_rfl
            (try change wpAnyH _ _ _ _ _ _ _ (Act.put _ (some 58) _) _)
            try simp only [Act.put, List.setIfInBounds_toArray, List.set_cons_zero, List.set_cons_succ]
            refine' wpAnyH_take (i := 13) (oi := _) (v := undef) rfl ?hs34 ?hf34 ?hr34 ?hQ34 (Or.inr ⟨?hw34, rfl⟩) hHeld ?rest34
            case hs34 => kernel_rfl
            case hf34 => kernel_rfl
            case hr34 => kernel_rfl
            case hQ34 => exact fun _ _ _ h => h
            case hw34 => kernel_rfl
            (try change wpAnyH _ _ _ _ _ _ _ (Act.put _ (some 59) _) _)
            try simp only [Act.put, List.setIfInBounds_toArray, List.set_cons_zero, List.set_cons_succ]
            refine' wpAnyH_take (i := 14) (oi := _) (v := undef) rfl ?hs35 ?hf35 ?hr35 ?hQ35 (Or.inr ⟨?hw35, rfl⟩) hHeld ?rest35
            case hs35 => kernel_rfl
            case hf35 => kernel_rfl
            case hr35 => kernel_rfl
            case hQ35 => exact fun _ _ _ h => h
            case hw35 => kernel_rfl
            (try change wpAnyH _ _ _ _ _ _ _ (Act.put _ (some 60) _) _)
            try simp only [Act.put, List.setIfInBounds_toArray, List.set_cons_zero, List.set_cons_succ]
            refine' wpAnyH_take (i := 15) (oi := _) (v := undef) rfl ?hs36 ?hf36 ?hr36 ?hQ36 (Or.inr ⟨?hw36, rfl⟩) hHeld ?rest36
            case hs36 => kernel_rfl
            case hf36 => kernel_rfl
            case hr36 => kernel_rfl
            case hQ36 => exact fun _ _ _ h => h
            case hw36 => kernel_rfl
            (try change wpAnyH _ _ _ _ _ _ _ (Act.put _ (some 61) _) _)
            try simp only [Act.put, List.setIfInBounds_toArray, List.set_cons_zero, List.set_cons_succ]
            refine' wpAnyH_take (i := 16) (oi := _) (v := undef) rfl ?hs37 ?hf37 ?hr37 ?hQ37 (Or.inr ⟨?hw37, rfl⟩) hHeld ?rest37
            case hs37 => kernel_rfl
            case hf37 => kernel_rfl
            case hr37 => kernel_rfl
            case hQ37 => exact fun _ _ _ h => h
            case hw37 => kernel_rfl
            (try change wpAnyH _ _ _ _ _ _ _ (Act.put _ (some 62) _) _)
            try simp only [Act.put, List.setIfInBounds_toArray, List.set_cons_zero, List.set_cons_succ]
            refine' wpAnyH_take (i := 17) (oi := _) (v := undef) rfl ?hs38 ?hf38 ?hr38 ?hQ38 (Or.inr ⟨?hw38, rfl⟩) hHeld ?rest38
            case hs38 => kernel_rfl
            case hf38 => kernel_rfl
            case hr38 => kernel_rfl
            case hQ38 => exact fun _ _ _ h => h
            case hw38 => kernel_rfl
            (try change wpAnyH _ _ _ _ _ _ _ (Act.put _ (some 63) _) _)
            try simp only [Act.put, List.setIfInBounds_toArray, List.set_cons_zero, List.set_cons_succ]
            refine' wpAnyH_take (i := 18) (oi := _) (v := undef) rfl ?hs39 ?hf39 ?hr39 ?hQ39 (Or.inr ⟨?hw39, rfl⟩) hHeld ?rest39
            case hs39 => kernel_rfl
            case hf39 => kernel_rfl
            case hr39 => kernel_rfl
            case hQ39 => exact fun _ _ _ h => h
            case hw39 => kernel_rfl
            (try change wpAnyH _ _ _ _ _ _ _ (Act.put _ (some 64) _) _)
            try simp only [Act.put, List.setIfInBounds_toArray, List.set_cons_zero, List.set_cons_succ]
            refine' wpAnyH_take (i := 19) (oi := _) (v := undef) rfl ?hs40 ?hf40 ?hr40 ?hQ40 (Or.inr ⟨?hw40, rfl⟩) hHeld ?rest40
            case hs40 => kernel_rfl
            case hf40 => kernel_rfl
            case hr40 => kernel_rfl
            case hQ40 => exact fun _ _ _ h => h
            case hw40 => kernel_rfl
            (try change wpAnyH _ _ _ _ _ _ _ (Act.put _ (some 65) _) _)
            try simp only [Act.put, List.setIfInBounds_toArray, List.set_cons_zero, List.set_cons_succ]
            refine' wpAnyH_take (i := 20) (oi := _) (v := undef) rfl ?hs41 ?hf41 ?hr41 ?hQ41 (Or.inr ⟨?hw41, rfl⟩) hHeld ?rest41
            case hs41 => kernel_rfl
            case hf41 => kernel_rfl
            case hr41 => kernel_rfl
            case hQ41 => exact fun _ _ _ h => h
            case hw41 => kernel_rfl
            (try change wpAnyH _ _ _ _ _ _ _ (Act.put _ (some 66) _) _)
            try simp only [Act.put, List.setIfInBounds_toArray, List.set_cons_zero, List.set_cons_succ]
            refine' wpAnyH_take (i := 21) (oi := _) (v := ?v42) rfl ?hs42 ?hf42 ?hr42 ?hQ42 (Or.inl ⟨?hw42, ?hy42⟩) hHeld ?rest42
            case hs42 => kernel_rfl
            case hf42 => kernel_rfl
            case hr42 => kernel_rfl
            case hQ42 => exact fun _ _ _ h => h
            case hw42 => kernel_rfl
            case hy42 => (intro w' hw'; go_simp; try with_reducible rfl)
            (try change wpAnyH _ _ _ _ _ _ _ (Act.put _ (some 67) _) _)
            try simp only [Act.put, List.setIfInBounds_toArray, List.set_cons_zero, List.set_cons_succ]
            refine wpAnyH_done ?hdone43 ?hq43 _
            case hdone43 => kernel_rfl
            go_wp2_with fail
            go_meet
            exact ⟨by rw [HRO.out]; first | rfl | simp, HW2.out _ hHeld⟩
          · refine' wpAnyH_take (i := 0) (oi := _) (v := ?v44) rfl ?hs44 ?hf44 ?hr44 ?hQ44 (Or.inl ⟨?hw44, ?hy44⟩) hHeld ?rest44
            case hs44 => kernel_rfl
            case hf44 => kernel_rfl
            case hr44 => kernel_rfl
            case hQ44 => exact fun _ _ _ h => h
            case hw44 => kernel_rfl
            case hy44 => (intro w' hw'; have c0 := HB0.out _ hw'; have c3' := HB3'.out _ hw'; have c4' := HC4.out _ hw'; have c5' := HC3.out _ hw'; go_simp; try with_reducible rfl)
            (try change wpAnyH _ _ _ _ _ _ _ (Act.put _ (some 46) _) _)
            try simp only [Act.put, List.setIfInBounds_toArray, List.set_cons_zero, List.set_cons_succ]
            refine wpAnyH_ready (rs := [1]) (by kernel_rfl) (by simp) ?_
            refine AllReadyH.cons rfl (fun K hK => ?_) AllReadyH.nil
            go_simp
            go_at_call 61; refine (HIC.out _ hHeld).mono ?_; rintro e wb ⟨rfl, hba⟩; have hbe := below_step hHeld hba; clear hba
            (try go_wp2_with fail)
            refine hK.out _ _ hbe (fun hHeld => ?_)
            clear hK K
            try simp only [Act.put, List.setIfInBounds_toArray, List.set_cons_zero, List.set_cons_succ]
            refine' wpAnyH_take (i := 2) (oi := _) (v := ?v45) rfl ?hs45 ?hf45 ?hr45 ?hQ45 (Or.inl ⟨?hw45, ?hy45⟩) hHeld ?rest45
            case hs45 => kernel_rfl
            case hf45 => kernel_rfl
            case hr45 => kernel_rfl
            case hQ45 => exact fun _ _ _ h => h
            case hw45 => kernel_rfl
            case hy45 => (intro w' hw'; go_simp; try with_reducible rfl)
            (try change wpAnyH _ _ _ _ _ _ _ (Act.put _ (some 48) _) _)
            try simp only [Act.put, List.setIfInBounds_toArray, List.set_cons_zero, List.set_cons_succ]
            refine' wpAnyH_take (i := 3) (oi := _) (v := ?v46) rfl ?hs46 ?hf46 ?hr46 ?hQ46 (Or.inl ⟨?hw46, ?hy46⟩) hHeld ?rest46
            case hs46 => kernel_rfl
            case hf46 => kernel_rfl
            case hr46 => kernel_rfl
            case hQ46 => exact fun _ _ _ h => h
            case hw46 => kernel_rfl
            case hy46 => (intro w' hw'; go_simp; try with_reducible rfl)
            (try change wpAnyH _ _ _ _ _ _ _ (Act.put _ (some 49) _) _)
            try simp only [Act.put, List.setIfInBounds_toArray, List.set_cons_zero, List.set_cons_succ]
            refine' wpAnyH_take (i := 4) (oi := _) (v := ?v47) rfl ?hs47 ?hf47 ?hr47 ?hQ47 (Or.inl ⟨?hw47, ?hy47⟩) hHeld ?rest47
            case hs47 => kernel_rfl
            case hf47 => kernel_rfl
            case hr47 => kernel_rfl
            case hQ47 => exact fun _ _ _ h => h
            case hw47 => kernel_rfl
            case hy47 => (intro w' hw'; have c0 := HB0.out _ hw'; have c3' := HB3'.out _ hw'; have c4' := HC4.out _ hw'; have c5' := HC3.out _ hw'; go_simp; try with_reducible rfl)
            (try change wpAnyH _ _ _ _ _ _ _ (Act.put _ (some 50) _) _)
            try simp only [Act.put, List.setIfInBounds_toArray, List.set_cons_zero, List.set_cons_succ]
            refine' wpAnyH_take (i := 6) (oi := _) (v := ?v48) rfl ?hs48 ?hf48 ?hr48 ?hQ48 (Or.inl ⟨?hw48, ?hy48⟩) hHeld ?rest48
            case hs48 => kernel_rfl
            case hf48 => kernel_rfl
            case hr48 => kernel_rfl
            case hQ48 => exact fun _ _ _ h => h
            case hw48 => kernel_rfl
            case hy48 => (intro w' hw'; go_simp; try with_reducible rfl)
            (try change wpAnyH _ _ _ _ _ _ _ (Act.put _ (some 52) _) _)
            try simp only [Act.put, List.setIfInBounds_toArray, List.set_cons_zero, List.set_cons_succ]
            refine' wpAnyH_take (i := 7) (oi := _) (v := ?v49) rfl ?hs49 ?hf49 ?hr49 ?hQ49 (Or.inl ⟨?hw49, ?hy49⟩) hHeld ?rest49
            case hs49 => kernel_rfl
            case hf49 => kernel_rfl
            case hr49 => kernel_rfl
            case hQ49 => exact fun _ _ _ h => h
            case hw49 => kernel_rfl
            case hy49 => (intro w' hw'; have c0 := HB0.out _ hw'; have c3' := HB3'.out _ hw'; have c4' := HC4.out _ hw'; have c5' := HC3.out _ hw'; go_simp; try with_reducible rfl)
            (try change wpAnyH _ _ _ _ _ _ _ (Act.put _ (some 53) _) _)
            try simp only [Act.put, List.setIfInBounds_toArray, List.set_cons_zero, List.set_cons_succ]
            refine wpAnyH_ready (rs := [5]) (by kernel_rfl) (by simp) ?_
            refine AllReadyH.cons rfl (fun K hK => ?_) AllReadyH.nil
            go_simp
            go_at_call 62; refine (HIN.out _ hHeld).mono ?_; rintro e wa ⟨rfl, hba⟩; have hbe := below_step hHeld hba; clear hba
            (try go_wp2_with fail)
            refine hK.out _ _ hbe (fun hHeld => ?_)
            clear hK K
            try simp only [Act.put, List.setIfInBounds_toArray, List.set_cons_zero, List.set_cons_succ]
            refine' wpAnyH_take (i := 8) (oi := _) (v := ?v50) rfl ?hs50 ?hf50 ?hr50 ?hQ50 (Or.inl ⟨?hw50, ?hy50⟩) hHeld ?rest50
            case hs50 => kernel_rfl
            case hf50 => kernel_rfl
            case hr50 => kernel_rfl
            case hQ50 => exact fun _ _ _ h => h
            case hw50 => kernel_rfl
            case hy50 => (intro w' hw'; go_simp; try with_reducible rfl)
            (try change wpAnyH _ _ _ _ _ _ _ (Act.put _ (some 54) _) _)
            try simp only [Act.put, List.setIfInBounds_toArray, List.set_cons_zero, List.set_cons_succ]
            refine' wpAnyH_take (i := 9) (oi := _) (v := ?v51) rfl ?hs51 ?hf51 ?hr51 ?hQ51 (Or.inl ⟨?hw51, ?hy51⟩) hHeld ?rest51
            case hs51 => kernel_rfl
            case hf51 => kernel_rfl
            case hr51 => kernel_rfl
            case hQ51 => exact fun _ _ _ h => h
            case hw51 => kernel_rfl
            case hy51 => (intro w' hw'; go_simp; try with_reducible rfl)
            (try change wpAnyH _ _ _ _ _ _ _ (Act.put _ (some 55) _) _)
            try simp only [Act.put, List.setIfInBounds_toArray, List.set_cons_zero, List.set_cons_succ]
            refine' wpAnyH_take (i := 10) (oi := _) (v := ?v52) rfl ?hs52 ?hf52 ?hr52 ?hQ52 (Or.inl ⟨?hw52, ?hy52⟩) hHeld ?rest52
            case hs52 => kernel_rfl
            case hf52 => kernel_rfl
            case hr52 => kernel_rfl
            case hQ52 => exact fun _ _ _ h => h
            case hw52 => kernel_rfl
            case hy52 => (intro w' hw'; go_simp; try with_reducible rfl)
            (try change wpAnyH _ _ _ _ _ _ _ (Act.put _ (some 56) _) _)
            try simp only [Act.put, List.setIfInBounds_toArray, List.set_cons_zero, List.set_cons_succ]
            refine' wpAnyH_take (i := 11) (oi := _) (v := ?v53) rfl ?hs53 ?hf53 ?hr53 ?hQ53 (Or.inl ⟨?hw53, ?hy53⟩) hHeld ?rest53
            case hs53 => kernel_rfl
            case hf53 => kernel_rfl
            case hr53 => kernel_rfl
            case hQ53 => exact fun _ _ _ h => h
            case hw53 => kernel_rfl
            case hy53 => (intro w' hw'; go_simp; try with_reducible rfl)
            (try change wpAnyH _ _ _ _ _ _ _ (Act.put _ (some 57) _) _)
            try simp only [Act.put, List.setIfInBounds_toArray, List.set_cons_zero, List.set_cons_succ]
            refine' wpAnyH_take (i := 12) (oi := _) (v := ?v54) rfl ?hs54 ?hf54 ?hr54 ?hQ54 (Or.inl ⟨?hw54, ?hy54⟩) hHeld ?rest54
            case hs54 => kernel_rfl
            case hf54 => kernel_rfl
            case hr54 => kernel_rfl
            case hQ54 => exact fun _ _ _ h => h
            case hw54 => kernel_rfl
            case hy54 => (intro w' hw'; have c0 := HB0.out _ hw'; have c3' := HB3'.out _ hw'; have c4' := HC4.out _ hw'; have c5' := HC3.out _ hw'; go_simp; try with_reducible rfl)
            (try change wpAnyH _ _ _ _ _ _ _ (Act.put _ (some 58) _) _)
            try simp only [Act.put, List.setIfInBounds_toArray, List.set_cons_zero, List.set_cons_succ]
            refine' wpAnyH_take (i := 13) (oi := _) (v := ?v55) rfl ?hs55 ?hf55 ?hr55 ?hQ55 (Or.inl ⟨?hw55, ?hy55⟩) hHeld ?rest55
            case hs55 => kernel_rfl
            case hf55 => kernel_rfl
            case hr55 => kernel_rfl
            case hQ55 => exact fun _ _ _ h => h
            case hw55 => kernel_rfl
            case hy55 => (intro w' hw'; go_simp; try with_reducible rfl)
            (try change wpAnyH _ _ _ _ _ _ _ (Act.put _ (some 59) _) _)
            try simp only [Act.put, List.setIfInBounds_toArray, List.set_cons_zero, List.set_cons_succ]
            refine' wpAnyH_take (i := 14) (oi := _) (v := ?v56) rfl ?hs56 ?hf56 ?hr56 ?hQ56 (Or.inl ⟨?hw56, ?hy56⟩) hHeld ?rest56
            case hs56 => kernel_rfl
            case hf56 => kernel_rfl
            case hr56 => kernel_rfl
            case hQ56 => exact fun _ _ _ h => h
            case hw56 => kernel_rfl
            case hy56 => (intro w' hw'; go_simp; try with_reducible rfl)
            (try change wpAnyH _ _ _ _ _ _ _ (Act.put _ (some 60) _) _)
            try simp only [Act.put, List.setIfInBounds_toArray, List.set_cons_zero, List.set_cons_succ]
            refine' wpAnyH_take (i := 15) (oi := _) (v := ?v57) rfl ?hs57 ?hf57 ?hr57 ?hQ57 (Or.inl ⟨?hw57, ?hy57⟩) hHeld ?rest57
            case hs57 => kernel_rfl
            case hf57 => kernel_rfl
            case hr57 => kernel_rfl
            case hQ57 => exact fun _ _ _ h => h
            case hw57 => kernel_rfl
            case hy57 => (intro w' hw'; have c0 := HB0.out _ hw'; have c3' := HB3'.out _ hw'; have c4' := HC4.out _ hw'; have c5' := HC3.out _ hw'; go_simp; try with_reducible rfl)
            (try change wpAnyH _ _ _ _ _ _ _ (Act.put _ (some 61) _) _)
            try simp only [Act.put, List.setIfInBounds_toArray, List.set_cons_zero, List.set_cons_succ]
            refine' wpAnyH_take (i := 16) (oi := _) (v := ?v58) rfl ?hs58 ?hf58 ?hr58 ?hQ58 (Or.inl ⟨?hw58, ?hy58⟩) hHeld ?rest58
            case hs58 => kernel_rfl
            case hf58 => kernel_rfl
            case hr58 => kernel_rfl
            case hQ58 => exact fun _ _ _ h => h
            case hw58 => kernel_rfl
            case hy58 => (intro w' hw'; go_simp; try with_reducible rfl)
            (try change wpAnyH _ _ _ _ _ _ _ (Act.put _ (some 62) _) _)
            try simp only [Act.put, List.setIfInBounds_toArray, List.set_cons_zero, List.set_cons_succ]
            refine' wpAnyH_take (i := 17) (oi := _) (v := ?v59) rfl ?hs59 ?hf59 ?hr59 ?hQ59 (Or.inl ⟨?hw59, ?hy59⟩) hHeld ?rest59
            case hs59 => kernel_rfl
            case hf59 => kernel_rfl
            case hr59 => kernel_rfl
            case hQ59 => exact fun _ _ _ h => h
            case hw59 => kernel_rfl
            case hy59 => (intro w' hw'; have c0 := HB0.out _ hw'; have c3' := HB3'.out _ hw'; have c4' := HC4.out _ hw'; have c5' := HC3.out _ hw'; go_simp; try with_reducible rfl)
            (try change wpAnyH _ _ _ _ _ _ _ (Act.put _ (some 63) _) _)
            try simp only [Act.put, List.setIfInBounds_toArray, List.set_cons_zero, List.set_cons_succ]
            refine wpAnyH_ready (rs := [18]) (by kernel_rfl) (by simp) ?_
            refine AllReadyH.cons rfl (fun K hK => ?_) AllReadyH.nil
            go_simp
            go_at_call 44; refine (HPF.out _ hHeld).mono ?_; rintro e wc ⟨uc, rfl, hrc, hba⟩; obtain ⟨Ac, cc, rfl⟩ := hrc.form; have HRC := Lib.hid hrc.weak; have hbe := below_step hHeld hba; clear hba hrc
            (try go_wp2_with fail)
            refine hK.out _ _ hbe (fun hHeld => ?_)
            clear hK K
            try simp only [Act.put, List.setIfInBounds_toArray, List.set_cons_zero, List.set_cons_succ]
            refine wpAnyH_ready (rs := [19]) (by kernel_rfl) (by simp) ?_
            refine AllReadyH.cons rfl (fun K hK => ?_) AllReadyH.nil
            go_simp
            go_at_call 63; refine (HSE.out _ _ _ hHeld HRC.out).mono ?_; rintro e wd ⟨rfl, hba⟩; have hbe := below_step hHeld hba; clear hba
            (try go_wp2_with fail)
            refine hK.out _ _ hbe (fun hHeld => ?_)
            clear hK K
            try simp only [Act.put, List.setIfInBounds_toArray, List.set_cons_zero, List.set_cons_succ]
            refine' wpAnyH_take (i := 20) (oi := _) (v := ?v60) rfl ?hs60 ?hf60 ?hr60 ?hQ60 (Or.inl ⟨?hw60, ?hy60⟩) hHeld ?rest60
            case hs60 => kernel_rfl
            case hf60 => kernel_rfl
            case hr60 => kernel_rfl
            case hQ60 => exact fun _ _ _ h => h
            case hw60 => kernel_rfl
            case hy60 => (intro w' hw'; go_simp; try with_reducible rfl)
            (try change wpAnyH _ _ _ _ _ _ _ (Act.put _ (some 66) _) _)
            try simp only [Act.put, List.setIfInBounds_toArray, List.set_cons_zero, List.set_cons_succ]
            refine' wpAnyH_take (i := 21) (oi := _) (v := ?v61) rfl ?hs61 ?hf61 ?hr61 ?hQ61 (Or.inl ⟨?hw61, ?hy61⟩) hHeld ?rest61
            case hs61 => kernel_rfl
            case hf61 => kernel_rfl
            case hr61 => kernel_rfl
            case hQ61 => exact fun _ _ _ h => h
            case hw61 => kernel_rfl
            case hy61 => (intro w' hw'; go_simp; try with_reducible rfl)
            (try change wpAnyH _ _ _ _ _ _ _ (Act.put _ (some 67) _) _)
            try simp only [Act.put, List.setIfInBounds_toArray, List.set_cons_zero, List.set_cons_succ]
            refine wpAnyH_done ?hdone62 ?hq62 _
            case hdone62 => kernel_rfl
            go_wp2_with fail
            go_meet
            exact ⟨by rw [HRO.out]; first | rfl | simp, HW2.out _ hHeld⟩
      case rest =>
        obtain ⟨rfl, hbw⟩ := hcut
        have HBR := Lib.hid hbw
        clear hbw
        cases hrk : rowAt x k with
        | false =>
          have HN := Lib.hid (HBD2.out hrk)
          go_wp2_with fail
          go_ret
          exact ⟨ret_bool HN.out.symm, below_step HBW.out HBR.out⟩
        | true =>
          have HAL : Hid (∀ j, j < k + 1 → rowAt x j = true) := fun j hj => by
            by_cases e : j = k
            · subst e; exact hrk
            · exact hall.out j (by omega)
          go_wp2
          go_roundw
          case rel => exact ⟨k + 1, by omega, by go_num, HAL.out, below_step HB.out HBR.out⟩
          case measure => simp [intOf]; omega
    · obtain rfl : k = x.Rows.length := by omega
      have HN := Lib.hid (HGD.out HHT.out hall.out)
      go_wp2
      go_ret
      exact ⟨ret_bool HN.out.symm, HBW.out⟩
end Go.Proofs.YtcgmlhlnkbjfnaaGreatDoor

/- The program's rowsOf: what it answers. -/
namespace Go.Proofs.YtcgmlhlnkbjfnaaGreatDoor
set_option maxRecDepth 100000
open Go.RowKit Go.Sort M
set_option linter.unusedVariables false
set_option linter.unusedSimpArgs false

theorem Tryz.infoTMk : (Tryz.prog.info? 69).map (fun i => (i.zero, i.size, i.bytes)) = some (some (.agg #[.slice none 0 0, .slice none 0 0]), 2, 48) := by kernel_rfl
theorem rmk2 : rMk.size = 2 := rfl
theorem World.setCell_size11 (w : World) (a : Addr) (v : Value) : (w.setCell a v).heap.size = w.heap.size := by simp [World.setCell]
set_option maxHeartbeats 16000000 in
theorem implRows_any (x : DTableau) (A1 : Option Addr) (c1 : Nat) (A2 : Option Addr) (c2 : Nat) (A3 : Option Addr) (c3 : Nat) (F1 F2 F3 : Addr → Prop) (w : World) (hm : rTableau.sz x ≤ 1048576) (hv : TabRd false w (.slice A1 x.Names.length c1) (.slice A2 x.Rows.length c2) (.slice A3 x.Marks.length c3) x F1 F2 F3) (hT : FeatTab w) :
    Calls Tryz.prog 66 #[.agg #[.string x.Input, .slice A1 x.Names.length c1, .slice A2 x.Rows.length c2, .slice A3 x.Marks.length c3]] w (MkPost x w) := by
  have HV := Lib.hid hv.tight
  have HIT : Hid (∀ W, Below w.heap.size w W → Calls Tryz.prog 21 #[.agg #[.string x.Input, .slice A1 x.Names.length c1, .slice A2 x.Rows.length c2, .slice A3 x.Marks.length c3]] W fun e w' => e = .returned (.bool (isTab x)) ∧ Below W.heap.size W w') := fun W hW => implTab_any x A1 c1 A2 c2 A3 c3 F1 F2 F3 W hm (hv.kept hW) (feat_below hT hW)
  have HP : Hid (∀ u G w', RowRd rMk false w' u (rowsL x) G → Below w.heap.size w w' → MkPost x w (.returned u) w') := fun u G w' h1 h2 => ⟨u, G, rfl, h1, h2⟩
  have HX2 : Hid (∀ k, k < x.Rows.length → ∃ y, x.Rows[k]? = some y) := fun k hk => ⟨_, List.getElem?_eq_getElem hk⟩
  have HX3 : Hid (∀ k, k < x.Marks.length → ∃ y, x.Marks[k]? = some y) := fun k hk => ⟨_, List.getElem?_eq_getElem hk⟩
  have HLT : Hid (∀ b, isTab x = b → b = true → x.Marks.length = x.Rows.length ∧ x.Rows.length ≤ 250 ∧ (rowsL x).length = x.Rows.length) := fun b h1 h2 => by
    have h3 := headT_parts (headT_of (h1.trans h2))
    exact ⟨h3.2.2.2.2, h3.2.2.2.1, rowsL_len (h1.trans h2)⟩
  have HNO : Hid (∀ b, isTab x = b → b = false → rowsL x = []) := fun b h1 h2 => rowsL_no (h1.trans h2)
  have HAT : Hid (∀ b, isTab x = b → b = true → ∀ (k : Nat) (c : DCandidate) (m : List Int), x.Rows[k]? = some c → x.Marks[k]? = some m → (rowsL x)[k]? = some (c, m)) := fun b h1 h2 k c m h3 h4 => rowsL_at (h1.trans h2) h3 h4
  clear hv hm hT
  have HA : Hid (∀ o, Below w.heap.size w (w.alloc o)) := fun o => (Below.refl _ _).alloc (Nat.le_refl _) _
  have HA1 : Hid (InC (w.alloc (.cells #[.string x.Input, .slice A1 x.Names.length c1, .slice A2 x.Rows.length c2, .slice A3 x.Marks.length c3] 27)) w.heap.size #[.string x.Input, .slice A1 x.Names.length c1, .slice A2 x.Rows.length c2, .slice A3 x.Marks.length c3] 27) := heap_alloc_new _ _
  obtain ⟨i0, hi, hz0, hz1, hz2⟩ := info_parts Tryz.infoTMk
  go_enter Tryz.func66, Tryz.ntmps66
  go_wp2_with fail
  refine (HIT.out _ (HA.out _)).mono ?_
  rintro e w1 ⟨rfl, hb⟩
  have HB1 : Hid (Below w.heap.size w w1) := below_step (HA.out _) hb
  have HX1 := Lib.hid (HA1.out.kept hb)
  have b2 := HX1.out.cell 2 rfl
  clear hb
  have HLT2 := Lib.hid (HLT.out _ rfl)
  have HNO2 := Lib.hid (HNO.out _ rfl)
  have HAT2 := Lib.hid (HAT.out _ rfl)
  clear HLT HNO HAT HIT
  generalize isTab x = t at *
  cases t with
  | false =>
    have HN := Lib.hid (HNO2.out rfl)
    go_wp2_with fail
    go_ret
    exact HP.out _ (fun _ => False) _ (by rw [HN.out]; exact RowRd.nil _ _ _) HB1.out
  | true =>
  obtain ⟨hml, hr2, hrl⟩ := HLT2.out rfl
  have HAT3 := Lib.hid (HAT2.out rfl)
  have HRL := Lib.hid hrl
  clear HLT2 HNO2 HAT2 hrl
  have H0 := Lib.hid (cpTo_zero zMk (rowsL x))
  have HCA := Lib.hid (cpTo_all zMk (rowsL x))
  have HCL : Hid (∀ k, k ≤ x.Rows.length → (cpTo zMk (rowsL x) k).length = x.Rows.length) := fun k hk => by unfold cpTo; rw [List.length_append, List.length_take, List.length_replicate, HRL.out]; omega
  have HCST : Hid (∀ k c m, x.Rows[k]? = some c → x.Marks[k]? = some m → (cpTo zMk (rowsL x) k).set k (c, m) = cpTo zMk (rowsL x) (k + 1)) := fun k c m h1 h2 => cpTo_step _ _ _ (HAT3.out k c m h1 h2)
  generalize hnn : x.Rows.length = n at *
  go_wp2_with (at_make; refine wpList_make_full _ rfl _ _ 82 rfl w1.heap.size 69 i0 (.agg #[.slice none 0 0, .slice none 0 0]) 2 Tryz.underlying82 hi hz0 hz1 .i64 .i64 _ _ n rfl rfl rfl rfl (by rw [hz2]; omega) (by unfold maxLen; omega) (Nat.le_refl _) ?_; intro w4 hown4 hgrow4; have hb14 : Below w1.heap.size w1 w4 := ((Below.refl _ _).grown hgrow4 (Nat.le_refl _) (fun _ h => by cases h)); have b24 := (HX1.out.kept hb14).cell 2 rfl; clear b2)
  have HO4 : Hid (OwnRd rMk 69 false w1.heap.size w4 (.slice (some ⟨w1.heap.size, 0, none⟩) n n) (cpTo zMk (rowsL x) 0) (fun _ => True)) := by
    unfold Hid
    rw [H0.out, HRL.out]
    rw [show (Value.cells (.agg #[.slice none 0 0, .slice none 0 0])) = #[.slice none 0 0, .slice none 0 0] from rfl] at hown4
    refine ⟨_, fun _ _ => False, by rw [List.length_replicate]; exact hown4, fun k y hk => ?_⟩
    rw [List.getElem?_replicate] at hk
    split at hk
    · cases hk
      refine ⟨[.slice none 0 0, .slice none 0 0], ?_, rMk_mk (F1 := fun _ => False) (F2 := fun _ => False) (RowRd.nil _ _ _) (RowRd.nil _ _ _) (fun _ h => h) (fun _ h => h) (fun h => by cases h), fun _ h => h.elim, fun h => by cases h⟩
      intro j u hj
      have hjn : j < 2 := (List.getElem?_eq_some_iff.1 hj).1
      rw [show rMk.size = 2 from rfl, made_at _ _ _ (by omega) (by decide), show (#[.slice none 0 0, .slice none 0 0] : Array Value).size = 2 from rfl, show (k * 2 + j) % 2 = j by omega]
      simpa using hj
    · cases hk
  have HW4 := Lib.hid hb14
  have HX4 := Lib.hid (HX1.out.kept hb14)
  have hbl : w1.heap.size < w4.heap.size := by
    obtain ⟨_, _, hw, _⟩ := HO4.out
    rcases hw.2 with ⟨h, _⟩ | ⟨g, cp, cur, hv, _, hg, _⟩
    · cases h
    · cases hv; exact (Array.getElem?_eq_some_iff.1 hg).1
  clear hown4 hgrow4 hb14
  go_wp2
  clear b24
  go_loopw [16] (fun i wr => ∃ (k : Nat), k ≤ n ∧ i = .int .i64 k ∧ OwnRd rMk 69 false w1.heap.size wr (.slice (some ⟨w1.heap.size, 0, none⟩) n n) (cpTo zMk (rowsL x) k) (fun _ => True) ∧ w4.heap.size ≤ wr.heap.size ∧ Below w1.heap.size w1 wr) (fun i _ => n - (intOf i).toNat)
  case atStart => exact ⟨0, by omega, rfl, HO4.out, Nat.le_refl _, HW4.out⟩
  case round =>
    obtain ⟨k, hk, rfl, hown, hsz, hbe0⟩ := hrel
    obtain ⟨w5, rfl⟩ : ∃ w5 : World, w5 = wr := ⟨_, rfl⟩
    have HO := Lib.hid hown
    have HBE := Lib.hid hbe0
    have HBW := Lib.hid (below_step HB1.out hbe0)
    have HBX := Lib.hid (HX1.out.kept hbe0)
    clear hown hbe0
    by_cases hkl : k < n
    · obtain ⟨c, hc⟩ := HX2.out k (by omega)
      obtain ⟨m, hmk⟩ := HX3.out k (by omega)
      have HSX := Lib.hid (HCST.out k c m hc hmk)
      have HKL := Lib.hid (HCL.out k hk)
      obtain ⟨g2, o2, xs2, G2, rfl, -, hr2', hG2, hc2⟩ := HV.out.rows.get hc
      obtain ⟨v2, rfl, q2⟩ := rCandidate_rd hr2'
      obtain ⟨g3, o3, xs3, G3, rfl, -, hr3', hG3, hc3⟩ := HV.out.marks.get hmk
      obtain ⟨v3, rfl, q3⟩ := id hr3'
      rw [rCandidate_size] at hc2
      rw [show (Rep.row Rep.int).size = 1 from rfl] at hc3
      have d2 := hc2 0 _ rfl
      have d3 := hc3 0 _ rfl
      simp only [Nat.add_zero, Nat.mul_one] at d2 d3
      have hlt3 : g3 < w.heap.size := block_lt_of_cell d3
      replace d2 := cell_kept HBW.out d2
      replace d3 := cell_kept HBW.out d3
      obtain ⟨A2', cp2, rfl⟩ := q2.form
      obtain ⟨A3', cp3, rfl⟩ := q3.form
      have hwlt : w.heap.size < w1.heap.size := HX1.out.lt
      have h15 : w1.heap.size < w5.heap.size := by omega
      have HWB : Hid (Below w5.heap.size w5 (w5.alloc (.cells #[.slice A2' c.Links.length cp2] 59))) := (Below.refl _ _).alloc (Nat.le_refl _) _
      have HWD : Hid (Below w5.heap.size w5 (w5.alloc (.cells #[.slice A2' c.Links.length cp2] 59)).drew) := HWB.out.drew
      have HIB : Hid (InC (w5.alloc (.cells #[.slice A2' c.Links.length cp2] 59)).drew w5.heap.size #[.slice A2' c.Links.length cp2] 59) := heap_alloc_new _ _
      have HQX : Hid (rMk.rd false (w5.alloc (.cells #[.slice A2' c.Links.length cp2] 59)).drew [.slice A2' c.Links.length cp2, .slice A3' m.length cp3] (c, m) (fun p => G2 p ∨ G3 p)) := rMk_mk (x := (c, m)) (F1 := G2) (F2 := G3) ((q2.kept HBW.out).kept HWD.out) ((q3.kept HBW.out).kept HWD.out) (fun _ h => Or.inl h) (fun _ h => Or.inr h) (fun h => by cases h)
      have HFX : Hid (∀ p, G2 p ∨ G3 p → p.block < (w5.alloc (.cells #[.slice A2' c.Links.length cp2] 59)).drew.heap.size ∧ p.block ≠ w1.heap.size) := fun p hp => by
        have h1 : p.block < w.heap.size := hp.elim (fun h => (hG2 p h).2) (fun h => (hG3 p h).2)
        have h2 : w5.heap.size ≤ (w5.alloc (.cells #[.slice A2' c.Links.length cp2] 59)).drew.heap.size := HWD.out.size
        exact ⟨by omega, by omega⟩
      have HOD := Lib.hid (HO.out.kept HWD.out)
      have HS0 : Hid ((w5.alloc (.cells #[.slice A2' c.Links.length cp2] 59)).drew.cell? ⟨w5.heap.size, 0, none⟩ = some (.slice A2' c.Links.length cp2) ∧ (w5.alloc (.cells #[.slice A2' c.Links.length cp2] 59)).drew.cell? ⟨w.heap.size, 3, none⟩ = some (.slice (some ⟨g3, o3, none⟩) x.Marks.length c3) ∧ (w5.alloc (.cells #[.slice A2' c.Links.length cp2] 59)).drew.cell? ⟨g3, o3 + k, none⟩ = some (.slice A3' m.length cp3)) := ⟨HIB.out.cell 0 rfl, (HBX.out.kept HWD.out).cell 3 rfl, cell_kept HWD.out d3⟩
      obtain ⟨⟨z0, e0⟩, ⟨z1, e1⟩, f0, f1⟩ := HOD.out.at2 rmk2 HKL.out hkl
      have HNEW := Lib.hid ((HOD.out.set2 rmk2 HKL.out hkl HQX.out HFX.out).mono (G' := fun _ => True) (fun _ _ => trivial))
      rw [HSX.out] at HNEW
      have HBB : Hid (Below w1.heap.size w1 (((w5.alloc (.cells #[.slice A2' c.Links.length cp2] 59)).drew.setCell ⟨w1.heap.size, k * 2, none⟩ (.slice A2' c.Links.length cp2)).setCell ⟨w1.heap.size, k * 2 + 1, none⟩ (.slice A3' m.length cp3))) := ((below_step HBE.out HWD.out).setCell (p := ⟨w1.heap.size, k * 2, none⟩) (Nat.le_refl _) _).setCell (p := ⟨w1.heap.size, k * 2 + 1, none⟩) (Nat.le_refl _) _
      have HSS : Hid (w4.heap.size ≤ (((w5.alloc (.cells #[.slice A2' c.Links.length cp2] 59)).drew.setCell ⟨w1.heap.size, k * 2, none⟩ (.slice A2' c.Links.length cp2)).setCell ⟨w1.heap.size, k * 2 + 1, none⟩ (.slice A3' m.length cp3)).heap.size) := by
        have h2 : w5.heap.size ≤ (w5.alloc (.cells #[.slice A2' c.Links.length cp2] 59)).drew.heap.size := HWD.out.size
        unfold Hid; simp only [World.setCell_size11]; omega
      have hkm : (k : Int) < (x.Marks.length : Int) := by omega
      have hkr : (k : Int) < (n : Int) := by omega
      clear hc2 hc3 hr2' hr3' q2 q3 hG2 hG3 HQX HFX HOD HSX hc hmk d3
      go_upto_region 7 with fail
      clear d2
      refine wp_region_held_drew (S := fun w' => w'.cell? ⟨w5.heap.size, 0, none⟩ = some (.slice A2' c.Links.length cp2) ∧ w'.cell? ⟨w.heap.size, 3, none⟩ = some (.slice (some ⟨g3, o3, none⟩) x.Marks.length c3) ∧ w'.cell? ⟨g3, o3 + k, none⟩ = some (.slice A3' m.length cp3)) (by kernel_rfl) HS0.out (fun hHeld => ?_)
      generalize (w5.alloc (.cells #[.slice A2' c.Links.length cp2] 59)).drew = WD at *
      refine' wpAnyH_take (i := 0) (oi := _) (v := ?v1) rfl ?hs1 ?hf1 ?hr1 ?hQ1 (Or.inl ⟨?hw1, ?hy1⟩) hHeld ?rest1
      case hs1 => kernel_rfl
      case hf1 => kernel_rfl
      case hr1 => kernel_rfl
      case hQ1 => exact fun _ _ _ h => h
      case hw1 => kernel_rfl
      case hy1 => (intro w' hw'; go_simp; try with_reducible rfl)
      (try change wpAnyH _ _ _ _ _ _ _ (Act.put _ (some 21) _) _)
      try simp only [Act.put, List.setIfInBounds_toArray, List.set_cons_zero, List.set_cons_succ]
      refine' wpAnyH_take (i := 1) (oi := _) (v := ?v2) rfl ?hs2 ?hf2 ?hr2 ?hQ2 (Or.inl ⟨?hw2, ?hy2⟩) hHeld ?rest2
      case hs2 => kernel_rfl
      case hf2 => kernel_rfl
      case hr2 => kernel_rfl
      case hQ2 => exact fun _ _ _ h => h
      case hw2 => kernel_rfl
      case hy2 => (intro w' hw'; go_simp; try with_reducible rfl)
      (try change wpAnyH _ _ _ _ _ _ _ (Act.put _ (some 22) _) _)
      try simp only [Act.put, List.setIfInBounds_toArray, List.set_cons_zero, List.set_cons_succ]
      refine' wpAnyH_take (i := 2) (oi := _) (v := ?v3) rfl ?hs3 ?hf3 ?hr3 ?hQ3 (Or.inl ⟨?hw3, ?hy3⟩) hHeld ?rest3
      case hs3 => kernel_rfl
      case hf3 => kernel_rfl
      case hr3 => kernel_rfl
      case hQ3 => exact fun _ _ _ h => h
      case hw3 => kernel_rfl
      case hy3 => (intro w' hw'; have cA := hw'.1; have cB := hw'.2.1; have cC := hw'.2.2; clear hw'; go_simp; try with_reducible rfl)
      (try change wpAnyH _ _ _ _ _ _ _ (Act.put _ (some 23) _) _)
      try simp only [Act.put, List.setIfInBounds_toArray, List.set_cons_zero, List.set_cons_succ]
      refine' wpAnyH_take (i := 3) (oi := _) (v := ?v4) rfl ?hs4 ?hf4 ?hr4 ?hQ4 (Or.inl ⟨?hw4, ?hy4⟩) hHeld ?rest4
      case hs4 => kernel_rfl
      case hf4 => kernel_rfl
      case hr4 => kernel_rfl
      case hQ4 => exact fun _ _ _ h => h
      case hw4 => kernel_rfl
      case hy4 => (intro w' hw'; go_simp; try with_reducible rfl)
      (try change wpAnyH _ _ _ _ _ _ _ (Act.put _ (some 24) _) _)
      try simp only [Act.put, List.setIfInBounds_toArray, List.set_cons_zero, List.set_cons_succ]
      refine' wpAnyH_take (i := 4) (oi := _) (v := ?v5) rfl ?hs5 ?hf5 ?hr5 ?hQ5 (Or.inl ⟨?hw5, ?hy5⟩) hHeld ?rest5
      case hs5 => kernel_rfl
      case hf5 => kernel_rfl
      case hr5 => kernel_rfl
      case hQ5 => exact fun _ _ _ h => h
      case hw5 => kernel_rfl
      case hy5 => (intro w' hw'; have cA := hw'.1; have cB := hw'.2.1; have cC := hw'.2.2; clear hw'; go_simp; try with_reducible rfl)
      (try change wpAnyH _ _ _ _ _ _ _ (Act.put _ (some 25) _) _)
      try simp only [Act.put, List.setIfInBounds_toArray, List.set_cons_zero, List.set_cons_succ]
      refine' wpAnyH_take (i := 5) (oi := _) (v := ?v6) rfl ?hs6 ?hf6 ?hr6 ?hQ6 (Or.inl ⟨?hw6, ?hy6⟩) hHeld ?rest6
      case hs6 => kernel_rfl
      case hf6 => kernel_rfl
      case hr6 => kernel_rfl
      case hQ6 => exact fun _ _ _ h => h
      case hw6 => kernel_rfl
      case hy6 => (intro w' hw'; go_simp; try with_reducible rfl)
      (try change wpAnyH _ _ _ _ _ _ _ (Act.put _ (some 26) _) _)
      try simp only [Act.put, List.setIfInBounds_toArray, List.set_cons_zero, List.set_cons_succ]
      refine' wpAnyH_take (i := 6) (oi := _) (v := ?v7) rfl ?hs7 ?hf7 ?hr7 ?hQ7 (Or.inl ⟨?hw7, ?hy7⟩) hHeld ?rest7
      case hs7 => kernel_rfl
      case hf7 => kernel_rfl
      case hr7 => kernel_rfl
      case hQ7 => exact fun _ _ _ h => h
      case hw7 => kernel_rfl
      case hy7 => (intro w' hw'; go_simp; try with_reducible rfl)
      (try change wpAnyH _ _ _ _ _ _ _ (Act.put _ (some 27) _) _)
      try simp only [Act.put, List.setIfInBounds_toArray, List.set_cons_zero, List.set_cons_succ]
      refine' wpAnyH_take (i := 7) (oi := _) (v := ?v8) rfl ?hs8 ?hf8 ?hr8 ?hQ8 (Or.inl ⟨?hw8, ?hy8⟩) hHeld ?rest8
      case hs8 => kernel_rfl
      case hf8 => kernel_rfl
      case hr8 => kernel_rfl
      case hQ8 => exact fun _ _ _ h => h
      case hw8 => kernel_rfl
      case hy8 => (intro w' hw'; have cA := hw'.1; have cB := hw'.2.1; have cC := hw'.2.2; clear hw'; go_simp; try with_reducible rfl)
      (try change wpAnyH _ _ _ _ _ _ _ (Act.put _ (some 28) _) _)
      try simp only [Act.put, List.setIfInBounds_toArray, List.set_cons_zero, List.set_cons_succ]
      refine' wpAnyH_take (i := 8) (oi := _) (v := ?v9) rfl ?hs9 ?hf9 ?hr9 ?hQ9 (Or.inl ⟨?hw9, ?hy9⟩) hHeld ?rest9
      case hs9 => kernel_rfl
      case hf9 => kernel_rfl
      case hr9 => kernel_rfl
      case hQ9 => exact fun _ _ _ h => h
      case hw9 => kernel_rfl
      case hy9 => (intro w' hw'; go_simp; try with_reducible rfl)
      (try change wpAnyH _ _ _ _ _ _ _ (Act.put _ (some 29) _) _)
      try simp only [Act.put, List.setIfInBounds_toArray, List.set_cons_zero, List.set_cons_succ]
      refine' wpAnyH_take (i := 9) (oi := _) (v := ?v10) rfl ?hs10 ?hf10 ?hr10 ?hQ10 (Or.inl ⟨?hw10, ?hy10⟩) hHeld ?rest10
      case hs10 => kernel_rfl
      case hf10 => kernel_rfl
      case hr10 => kernel_rfl
      case hQ10 => exact fun _ _ _ h => h
      case hw10 => kernel_rfl
      case hy10 => (intro w' hw'; go_simp; try with_reducible rfl)
      (try change wpAnyH _ _ _ _ _ _ _ (Act.put _ (some 30) _) _)
      try simp only [Act.put, List.setIfInBounds_toArray, List.set_cons_zero, List.set_cons_succ]
      refine wpAnyH_ready (rs := [10]) (by kernel_rfl) (by simp) ?_
      refine AllReadyH.cons rfl (fun K hK => ?_) AllReadyH.nil
      go_simp
      skip
      (try go_wp2_with fail)
      refine hK.out _ _ ⟨(cs_far2 (p := ⟨w5.heap.size, 0, none⟩) (by show w5.heap.size ≠ w1.heap.size; omega)).trans hHeld.1, (cs_far2 (p := ⟨w.heap.size, 3, none⟩) (by show w.heap.size ≠ w1.heap.size; omega)).trans hHeld.2.1, (cs_far2 (p := ⟨g3, o3 + k, none⟩) (by show g3 ≠ w1.heap.size; omega)).trans hHeld.2.2⟩ (fun hHeld => ?_)
      clear hK K
      try simp only [Act.put, List.setIfInBounds_toArray, List.set_cons_zero, List.set_cons_succ]
      refine wpAnyH_done ?hdone11 ?hq11 _
      case hdone11 => kernel_rfl
      go_wp2
      go_roundw
      case rel => exact ⟨k + 1, by omega, by go_num, HNEW.out, HSS.out, HBB.out⟩
      case measure => simp [intOf]; omega
    · obtain rfl : k = n := by omega
      have hro := HO.out.row (by rw [HCL.out k (Nat.le_refl _)]; omega)
      have hca := HCA.out
      rw [HRL.out] at hca
      rw [hca] at hro
      have HRO := Lib.hid hro
      clear hro hca
      go_wp2
      go_ret
      exact HP.out _ _ _ HRO.out HBW.out
end Go.Proofs.YtcgmlhlnkbjfnaaGreatDoor
