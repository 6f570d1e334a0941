/- Rankings: the program's firstDifference and CompareMarks: what they answer. -/
import Derived.Test.YtnildbalaedlgaaIk12
import Derived.Lib.QuietBelow
namespace Go.Proofs.Ytnildbalaedlgaa
set_option maxRecDepth 100000
open Go.RowKit Go.Sort
set_option linter.unusedVariables false
set_option linter.unusedSimpArgs false

def cmpI (x y : Int) : Int := if x < y then -1 else if y < x then 1 else 0
theorem cmpI_rng (x y : Int) : -1 ≤ cmpI x y ∧ cmpI x y ≤ 1 := by unfold cmpI; split <;> (try split) <;> omega
theorem nan12_any (x : Int) (w : World) : Calls Try.prog 49 #[.int .i64 x] w fun e w' => e = .returned (.bool false) ∧ w = w' := by
  have e1 : (x != x) = false := by simp
  go_enter Try.func49, Try.ntmps49
  go_wp2
  go_ret
  exact ⟨rfl, rfl⟩
theorem cmp12_any (x y : Int) (w : World) : Calls Try.prog 43 #[.int .i64 x, .int .i64 y] w fun e w' => e = .returned (.int .i64 (cmpI x y)) ∧ w = w' := by
  have HX := Lib.hid (nan12_any x w)
  have HY := Lib.hid (nan12_any y w)
  have HC : Hid (cmpI x y = if x < y then -1 else if y < x then 1 else 0) := rfl
  generalize cmpI x y = z at *
  go_enter Try.func43, Try.ntmps43
  go_wp2_with fail
  refine HX.out.mono ?_
  rintro e w1 ⟨rfl, rfl⟩
  go_wp2_with fail
  refine HY.out.mono ?_
  rintro e w1 ⟨rfl, rfl⟩
  by_cases h1 : x < y
  · have HF : Hid (z = -1) := by unfold Hid; rw [HC.out, if_pos h1]
    have e1 : decide (x < y) = true := decide_eq_true h1
    clear h1
    go_wp2
    go_ret
    exact ⟨by rw [HF.out]; rfl, rfl⟩
  have e1 : decide (x < y) = false := decide_eq_false h1
  by_cases h2 : y < x
  · have HF : Hid (z = 1) := by unfold Hid; rw [HC.out, if_neg h1, if_pos h2]
    have e2 : decide (y < x) = true := decide_eq_true h2
    clear h1 h2
    go_wp2
    go_ret
    exact ⟨by rw [HF.out]; rfl, rfl⟩
  have e2 : decide (y < x) = false := decide_eq_false h2
  have HF : Hid (z = 0) := by unfold Hid; rw [HC.out, if_neg h1, if_neg h2]
  clear h1 h2
  go_wp2
  go_ret
  exact ⟨by rw [HF.out]; rfl, rfl⟩
theorem diffI_of {a b : List Int} {j : Nat} {x y : Int} (ha : a[j]? = some x) (hb : b[j]? = some y) : diffAt a b (j : Int) = cmpI x y := by
  unfold diffAt cmpI
  rw [Int.toNat_natCast, List.getD_eq_getElem?_getD, List.getD_eq_getElem?_getD, ha, hb]
  rfl
theorem fdiff_at {a b r : List Int} {i j : Nat} (h : r[i]? = some (j : Int)) {x y : Int} (ha : a[j]? = some x) (hb : b[j]? = some y) : fdiff a b (r.drop i) i = if cmpI x y = 0 then fdiff a b (r.drop (i + 1)) (i + 1) else (i, cmpI x y) := by
  obtain ⟨hi, he⟩ := List.getElem?_eq_some_iff.1 h
  rw [List.drop_eq_getElem_cons hi, he, fdiff, diffI_of ha hb]
theorem rank_placeI {a r : List Int} (h : ∀ (i : Nat) (k : Int), r[i]? = some k → 0 ≤ k ∧ k < (a.length : Int)) {i : Nat} (hi : i < r.length) : ∃ j x, r[i]? = some ((j : Nat) : Int) ∧ j < a.length ∧ a[j]? = some x := by
  have hk := List.getElem?_eq_getElem hi
  obtain ⟨h1, h2⟩ := h i _ hk
  refine ⟨(r[i]).toNat, _, by rw [hk, Int.toNat_of_nonneg h1], by omega, List.getElem?_eq_getElem (by omega)⟩
set_option maxHeartbeats 16000000 in
theorem fdif_any (a b r : List Int) (va vb vr : Value) (Fa Fb Fr : Addr → Prop) (w : World) (hva : RowRd Rep.int false w va a Fa) (hvb : RowRd Rep.int false w vb b Fb) (hvr : RowRd Rep.int false w vr r Fr) (hl : a.length = b.length) (hk : ∀ (i : Nat) (k : Int), r[i]? = some k → 0 ≤ k ∧ k < (a.length : Int)) :
    Calls Try.prog 33 #[va, vb, vr] w fun e w' => e = .returned (.tuple #[.int .i64 (fdiff a b r 0).1, .int .i64 (fdiff a b r 0).2]) ∧ Below w.heap.size w w' := by
  have hma := hva.max
  have hmb := hvb.max
  have hmr := hvr.max
  obtain ⟨A1, k1, rfl⟩ := hva.form
  obtain ⟨A2, k2, rfl⟩ := hvb.form
  obtain ⟨A3, k3, rfl⟩ := hvr.form
  have HA := Lib.hid hva
  have HB := Lib.hid hvb
  have HR := Lib.hid hvr
  clear hva hvb hvr
  have HPL : Hid (∀ i, i < r.length → ∃ j x y, r[i]? = some ((j : Nat) : Int) ∧ j < a.length ∧ j < b.length ∧ a[j]? = some x ∧ b[j]? = some y) := fun i hi => by
    obtain ⟨j, x, h1, h2, h3⟩ := rank_placeI hk hi
    exact ⟨j, x, _, h1, h2, by omega, h3, List.getElem?_eq_getElem (by omega)⟩
  have HST : Hid (∀ (i j : Nat) (x y : Int), r[i]? = some (j : Int) → a[j]? = some x → b[j]? = some y → fdiff a b (r.drop i) i = if cmpI x y = 0 then fdiff a b (r.drop (i + 1)) (i + 1) else (i, cmpI x y)) := fun i j x y h1 h2 h3 => fdiff_at h1 h2 h3
  have H0 : Hid (fdiff a b (r.drop 0) 0 = fdiff a b r 0) := rfl
  have HE : Hid (fdiff a b (r.drop r.length) r.length = (-1, 0)) := by unfold Hid; rw [List.drop_length]; rfl
  generalize fdiff a b r 0 = z at *
  clear hl hk
  generalize hln : r.length = n at *
  generalize hla : a.length = na at *
  generalize hlb : b.length = nb at *
  go_enter Try.func33, Try.ntmps33
  go_wp2
  go_loopw [13] (fun i wr => ∃ (k : Nat), k ≤ n ∧ i = .int .i64 k ∧ Hid (fdiff a b (r.drop k) k = z) ∧ Below w.heap.size w wr) (fun i _ => n - (intOf i).toNat)
  case atStart => exact ⟨0, by omega, rfl, H0.out, Below.refl _ _⟩
  case round =>
    obtain ⟨k, hk, rfl, hcm, hbe⟩ := hrel
    obtain ⟨w2, rfl⟩ : ∃ w2 : World, w2 = wr := ⟨_, rfl⟩
    have HBE := Lib.hid hbe
    clear hbe
    by_cases hkl : k < n
    · obtain ⟨j, x, y, hj, hja, hjb, hx, hy⟩ := HPL.out k hkl
      have HS : Hid (z = if cmpI x y = 0 then fdiff a b (r.drop (k + 1)) (k + 1) else ((k : Int), cmpI x y)) := hcm.out.symm.trans (HST.out k j x y hj hx hy)
      have hkr : (k : Int) < (n : Int) := by omega
      have hj1 : (j : Int) < (na : Int) := by omega
      have hj2 : (j : Int) < (nb : Int) := by omega
      obtain ⟨g1, o1, xs1, F1, rfl, _, ha1, _, hc1⟩ := (HA.out.kept HBE.out).get hx
      obtain ⟨g2, o2, xs2, F2, rfl, _, ha2, _, hc2⟩ := (HB.out.kept HBE.out).get hy
      obtain ⟨g3, o3, xs3, F3, rfl, _, ha3, _, hc3⟩ := (HR.out.kept HBE.out).get hj
      obtain ⟨rfl, hxi⟩ := id ha1
      obtain ⟨rfl, hyi⟩ := id ha2
      obtain ⟨rfl, hji⟩ := id ha3
      have c1 := hc1 0 _ rfl
      have c2 := hc2 0 _ rfl
      have c3 := hc3 0 _ rfl
      simp only [show Rep.int.size = 1 from rfl, Nat.mul_one, Nat.add_zero] at c1 c2 c3
      have hr1 := fun d os => cell_regrown c1 d os
      have hr2 := fun d os => cell_regrown c2 d os
      have HH : Hid (∀ d os, Calls Try.prog 43 #[.int .i64 x, .int .i64 y] (grow (redrawn w2 d) os) fun e w'' => e = .returned (.int .i64 (cmpI x y)) ∧ ∃ p : Regrown, w'' = grow (redrawn w2 p.d) p.os) := fun d os => (cmp12_any x y _).mono fun e w'' h => ⟨h.1, ⟨d, os⟩, h.2.symm⟩
      have HH2 := HH.out
      have hrg := cmpI_rng x y
      clear hc1 hc2 hc3 ha1 ha2 ha3 hx hy hj HH
      generalize cmpI x y = o at *
      go_wp2
      refine wp_region_quiet_below (by kernel_rfl) (by kernel_rfl) ?_
      repeat (first | go_big_quiet_skip | quiet_step (with_reducible exact HH2 _ _))
      refine wpQuiet_nil ?_
      intro _ hw'
      obtain ⟨⟨dq, osq⟩, hw''⟩ := hw'
      subst hw''
      have HB5 := Lib.hid (HBE.out.trans ((below_regrown w2 dq osq).mono HBE.out.size))
      by_cases h0 : o = 0
      · have HF : Hid (fdiff a b (r.drop (k + 1)) (k + 1) = z) := by unfold Hid; rw [HS.out, if_pos h0]
        have e0 : (o != 0) = false := by simp [h0]
        clear HS HST HPL hcm h0
        go_wp2
        go_roundw
        case rel => exact ⟨k + 1, by omega, by go_num, HF.out, HB5.out⟩
        case measure => simp [intOf]; omega
      · have HF : Hid (z = ((k : Int), o)) := by unfold Hid; rw [HS.out, if_neg h0]
        have e0 : (o != 0) = true := by simp [h0]
        clear HS HST HPL hcm h0
        go_wp2
        go_ret2
        exact ⟨by rw [HF.out]; rfl, HB5.out⟩
    · obtain rfl : k = n := by omega
      have HF : Hid (z = (-1, 0)) := hcm.out.symm.trans HE.out
      clear hcm
      go_wp2
      go_ret2
      exact ⟨by rw [HF.out]; rfl, HBE.out⟩
set_option maxHeartbeats 8000000 in
theorem implCm_any (a b r : List Int) (va vb vr : Value) (Fa Fb Fr : Addr → Prop) (w : World) (hva : RowRd Rep.int false w va a Fa) (hvb : RowRd Rep.int false w vb b Fb) (hvr : RowRd Rep.int false w vr r Fr) :
    Calls Try.prog 14 #[va, vb, vr] w fun e w' => e = .returned (.int .i64 (cmpV a b r)) ∧ Below w.heap.size w w' := by
  have hma := hva.max
  have hmb := hvb.max
  have hmr := hvr.max
  have HRK := Lib.hid (implRk_any r (a.length : Int) _ Fr w hvr)
  have HV : Hid (cmpV a b r = if rkB r a.length && decide (a.length = b.length) then cmpL a b r else 0) := rfl
  have HFD : Hid (rkB r a.length = true → a.length = b.length → Calls Try.prog 33 #[va, vb, vr] w fun e w' => (∃ p : Int, e = .returned (.tuple #[.int .i64 p, .int .i64 (cmpL a b r)])) ∧ Below w.heap.size w w') := fun h1 h2 =>
    (fdif_any a b r va vb vr Fa Fb Fr w hva hvb hvr h2 fun i k hk => rk_at h1 hk).mono fun e w' h => ⟨⟨_, h.1⟩, h.2⟩
  obtain ⟨A1, k1, rfl⟩ := hva.form
  obtain ⟨A2, k2, rfl⟩ := hvb.form
  obtain ⟨A3, k3, rfl⟩ := hvr.form
  clear hva hvb hvr
  generalize cmpV a b r = z at *
  generalize cmpL a b r = q at *
  generalize hrb : rkB r (a.length : Int) = rb at *
  clear hrb
  go_enter Try.func14, Try.ntmps14
  go_wp2_with fail
  refine HRK.out.mono ?_
  rintro e w1 ⟨rfl, rfl⟩
  cases rb
  case false =>
    have HZ : Hid (z = 0) := HV.out
    go_wp2
    go_ret
    exact ⟨by rw [HZ.out]; rfl, Below.refl _ _⟩
  by_cases hl : a.length = b.length
  case neg =>
    have HZ : Hid (z = 0) := by unfold Hid; rw [HV.out, decide_eq_false hl]; rfl
    have hl2 : ((a.length : Int) != (b.length : Int)) = true := by simp; omega
    clear HV hl HFD
    go_wp2
    go_ret
    exact ⟨by rw [HZ.out]; rfl, Below.refl _ _⟩
  have HZ : Hid (z = q) := by unfold Hid; rw [HV.out, decide_eq_true hl]; rfl
  have hl2 : ((a.length : Int) != (b.length : Int)) = false := by simp; omega
  have HC := Lib.hid (HFD.out rfl hl)
  clear HV HFD hl
  go_wp2_with fail
  refine HC.out.mono ?_
  rintro e w2 ⟨⟨p, rfl⟩, hb2⟩
  have HB2 := Lib.hid hb2
  clear hb2
  go_wp2
  go_ret
  exact ⟨by rw [HZ.out]; rfl, HB2.out⟩
end Go.Proofs.Ytnildbalaedlgaa
