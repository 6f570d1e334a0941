/- The program's IsFooting: what it answers. -/
import Derived.Test.YtifmcbhgoncgjaaDoorFo
import Derived.Test.YtifmcbhgoncgjaaDoorRows
import Derived.Test.YtifmcbhgoncgjaaDoorRet
import Derived.Test.YtifmcbhgoncgjaaDoorSf1
import Derived.BigQuiet
import Derived.Lib.QuietBelow
namespace Go.Proofs.YtifmcbhgoncgjaaDoor
open Go.RowKit Go.Sort
set_option linter.unusedVariables false
set_option linter.unusedSimpArgs false

theorem implEnd_any (a b c : Int) (w : World) (h0 : 0 ≤ a) (h1 : a ≤ 1000) (h2 : 0 ≤ b) (h3 : b ≤ 1000) :
    Calls Tryd.prog 34 #[.agg #[.int .i64 a, .int .i64 b, .int .i64 c]] w fun e w' => e = .returned (.int .i64 (a + b)) ∧ Below w.heap.size w w' := by
  have hw : IntKind.i64.wrap (a + b) = a + b := IntWalk.i64_in _ (by omega)
  go_enter Tryd.func34, Tryd.ntmps34
  go_wp2
  go_ret
  exact ⟨rfl, (Below.refl _ _).alloc (Nat.le_refl _) _⟩
theorem implWithin_any (x : DFoot) (p S : Int) (w : World) (hS : 0 ≤ S ∧ S ≤ 1000) (i0 : I64 x.From) (i1 : I64 x.Size) (i2 : I64 x.Head) :
    Calls Tryd.prog 33 #[.agg #[.int .i64 x.From, .int .i64 x.Size, .int .i64 x.Head], .int .i64 p, .int .i64 S] w fun e w' => e = .returned (.bool (okFoot S p x)) ∧ Below w.heap.size w w' := by
  have hno : Hid (¬ (p ≤ x.From ∧ 1 ≤ x.Size ∧ x.Size ≤ 2 ∧ x.From + x.Size ≤ S ∧ 0 ≤ x.Head ∧ x.Head ≤ x.Size - 1) → okFoot S p x = false) := fun h => by
    cases hb : okFoot S p x with
    | false => rfl
    | true => exact absurd (okFoot_iff.1 hb) h
  have hyes : Hid ((p ≤ x.From ∧ 1 ≤ x.Size ∧ x.Size ≤ 2 ∧ x.From + x.Size ≤ S ∧ 0 ≤ x.Head ∧ x.Head ≤ x.Size - 1) → okFoot S p x = true) := fun h => okFoot_iff.2 h
  unfold I64 at i0 i1 i2
  generalize okFoot S p x = r at *
  generalize x.From = a at *
  generalize x.Size = b at *
  generalize x.Head = c at *
  go_enter Tryd.func33, Tryd.ntmps33
  by_cases h5 : c < 0
  case pos =>
    have HF := Lib.hid (hno.out (by omega))
    go_wp2
    go_ret
    exact ⟨ret_bool HF.out.symm, (Below.refl _ _).alloc (Nat.le_refl _) _⟩
  by_cases h6 : b ≤ c
  case pos =>
    have HF := Lib.hid (hno.out (by omega))
    go_wp2
    go_ret
    exact ⟨ret_bool HF.out.symm, (Below.refl _ _).alloc (Nat.le_refl _) _⟩
  by_cases h7 : 2 < b
  case pos =>
    have HF := Lib.hid (hno.out (by omega))
    go_wp2
    go_ret
    exact ⟨ret_bool HF.out.symm, (Below.refl _ _).alloc (Nat.le_refl _) _⟩
  have hwb : IntKind.i64.wrap (S - b) = S - b := IntWalk.i64_in _ (by omega)
  by_cases h1 : p ≤ a
  case neg =>
    have HF := Lib.hid (hno.out (by omega))
    go_wp2
    go_ret
    exact ⟨ret_bool HF.out.symm, (Below.refl _ _).alloc (Nat.le_refl _) _⟩
  by_cases h2 : a ≤ S - b
  case neg =>
    have HF := Lib.hid (hno.out (by omega))
    go_wp2
    go_ret
    exact ⟨ret_bool (by rw [HF.out]), (Below.refl _ _).alloc (Nat.le_refl _) _⟩
  have HF := Lib.hid (hyes.out (by omega))
  go_wp2
  go_ret
  exact ⟨ret_bool (by rw [HF.out]), (Below.refl _ _).alloc (Nat.le_refl _) _⟩
set_option maxHeartbeats 4000000 in
theorem implIsF_any (f : DFooting) (v1 : Value) (F : Addr → Prop) (w : World) (hm : f.Feet.length ≤ 1048576) (hs : I64 f.Syllables) (hmn : I64 f.Main) (hv : RowRd rFoot false w v1 f.Feet F) :
    Calls Tryd.prog 10 #[.agg #[.int .i64 f.Syllables, v1, .int .i64 f.Main]] w fun e w' => e = .returned (.bool (isFt f)) ∧ Below w.heap.size w w' := by
  obtain ⟨A, cap, rfl⟩ := hv.form
  have HV := Lib.hid hv
  have HX : Hid (∀ k, k < f.Feet.length → ∃ x, f.Feet[k]? = some x) := fun k hk => ⟨_, List.getElem?_eq_getElem hk⟩
  have HI : Hid (isFt f = (okSyls f.Syllables && okFeet f.Syllables 0 f.Feet && decide (0 ≤ f.Main) && decide (f.Main ≤ (f.Feet.length : Int) - 1))) := rfl
  have HNF : Hid (okFeet f.Syllables 0 f.Feet = false → isFt f = false) := isFt_no_feet
  have HNS : Hid (¬ (1 ≤ f.Syllables ∧ f.Syllables ≤ 6) → isFt f = false) := isFt_no_syl
  have HNM : Hid (¬ (0 ≤ f.Main ∧ f.Main ≤ (f.Feet.length : Int) - 1) → isFt f = false) := fun h => by
    cases hb : isFt f with
    | false => rfl
    | true => exact absurd (isFt_iff.1 hb).2.2.2 h
  have HYES : Hid ((1 ≤ f.Syllables ∧ f.Syllables ≤ 6) → okFeet f.Syllables 0 f.Feet = true → (0 ≤ f.Main ∧ f.Main ≤ (f.Feet.length : Int) - 1) → isFt f = true) := fun h1 h2 h3 => isFt_iff.2 ⟨h1.1, h1.2, h2, h3⟩
  have HSTOP : Hid (∀ k x, f.Feet[k]? = some x → okFoot f.Syllables (endFeet 0 (f.Feet.take k)) x = false → okFeet f.Syllables 0 f.Feet = false) := fun k x h hx => okFeet_stop h hx
  have HSTEP : Hid (∀ k x, f.Feet[k]? = some x → okFeet f.Syllables 0 (f.Feet.take k) = true → okFoot f.Syllables (endFeet 0 (f.Feet.take k)) x = true → okFeet f.Syllables 0 (f.Feet.take (k + 1)) = true ∧ endFeet 0 (f.Feet.take (k + 1)) = x.From + x.Size) := fun k x h1 h2 h3 => okFeet_step h1 h2 h3
  have HT0 : Hid (okFeet f.Syllables 0 (f.Feet.take 0) = true ∧ endFeet 0 (f.Feet.take 0) = 0) := ⟨by simp [okFeet], by simp [endFeet]⟩
  have HTA : Hid (f.Feet.take f.Feet.length = f.Feet) := List.take_length
  clear hv
  generalize isFt f = r at *
  generalize hl : f.Feet.length = n at *
  have HL := Lib.hid hl
  clear hl
  unfold I64 at hs hmn
  generalize f.Syllables = S at *
  generalize f.Main = M at *
  generalize f.Feet = l at *
  go_enter Tryd.func10, Tryd.ntmps10
  by_cases hS1 : S < 1
  case pos =>
    have HF := Lib.hid (HNS.out (by omega))
    go_wp2
    go_ret
    exact ⟨ret_bool HF.out.symm, (Below.refl _ _).alloc (Nat.le_refl _) _⟩
  by_cases hS2 : 6 < S
  case pos =>
    have HF := Lib.hid (HNS.out (by omega))
    go_wp2
    go_ret
    exact ⟨ret_bool HF.out.symm, (Below.refl _ _).alloc (Nat.le_refl _) _⟩
  by_cases hM1 : M < 0
  case pos =>
    have HF := Lib.hid (HNM.out (by omega))
    go_wp2
    go_ret
    exact ⟨ret_bool HF.out.symm, (Below.refl _ _).alloc (Nat.le_refl _) _⟩
  by_cases hM2 : (n : Int) ≤ M
  case pos =>
    have HF := Lib.hid (HNM.out (by omega))
    go_wp2
    go_ret
    exact ⟨ret_bool HF.out.symm, (Below.refl _ _).alloc (Nat.le_refl _) _⟩
  go_wp2
  go_loopw [3, 30] (fun a i wr => ∃ (k : Nat) (p : Int), k ≤ n ∧ i = .int .i64 k ∧ a = .int .i64 p ∧ Hid (okFeet S 0 (l.take k) = true ∧ endFeet 0 (l.take k) = p) ∧ Below w.heap.size w wr ∧ InC wr w.heap.size #[.int .i64 S, .slice A n cap, .int .i64 M] 31) (fun _ i _ => n - (intOf i).toNat)
  case atStart => exact ⟨0, 0, by omega, rfl, rfl, HT0.out, (Below.refl _ _).alloc (Nat.le_refl _) _, heap_alloc_new _ _⟩
  case round =>
    obtain ⟨k, p, hk, rfl, rfl, hinv, hbe, hin⟩ := hrel
    have b0 := hin.cell 0 rfl
    have HIN := Lib.hid hin
    have HBE := Lib.hid hbe
    clear hin hbe
    by_cases hkl : k < n
    · obtain ⟨x, hx⟩ := HX.out k hkl
      obtain ⟨g, off, xs, Fk, rfl, _, hrd, _, hc⟩ := (HV.out.kept HBE.out).get hx
      obtain ⟨rfl, i0, i1, i2⟩ := rFoot_rd hrd
      rw [rFoot_size] at hc
      have c0 := hc 0 _ rfl
      have c1 := hc 1 _ rfl
      have c2 := hc 2 _ rfl
      simp only [Nat.add_zero] at c0
      have HSTK := Lib.hid (HSTOP.out k x hx)
      have HSPK := Lib.hid (HSTEP.out k x hx)
      clear hc hrd
      have HW := Lib.hid (fun W => implWithin_any x p S W (by omega) i0 i1 i2)
      have HEN : Hid (okFoot S p x = true → ∀ W, Calls Tryd.prog 34 #[.agg #[.int .i64 x.From, .int .i64 x.Size, .int .i64 x.Head]] W fun e w' => e = .returned (.int .i64 (x.From + x.Size)) ∧ Below W.heap.size W w') := fun h W => by
        have h1 := okFoot_iff.1 h
        refine implEnd_any x.From x.Size x.Head W ?_ (by omega) (by omega) (by omega)
        exact (okFeet_at (n := S) (l := l.take (k + 1)) (a := 0) (k := k) (x := x) (HSTEP.out k x hx hinv.out.1 (by rw [hinv.out.2]; exact h)).1 (Int.le_refl _) (by rw [List.getElem?_take_of_lt (by omega)]; exact hx)).1
      have HOK : Hid (okFoot S p x = false → r = false) := fun h => HNF.out (HSTK.out (by rw [hinv.out.2]; exact h))
      clear hx i0 i1 i2
      have bb0 := fun o => (HIN.out.kept ((Below.refl wr.heap.size wr).alloc (Nat.le_refl _) o)).cell 0 rfl
      generalize hok : okFoot S p x = ok at *
      have HKO := Lib.hid hok
      clear hok
      generalize x.From = a at *
      generalize x.Size = b at *
      generalize x.Head = c at *
      go_wp2_with fail
      refine (HW.out _).mono ?_
      rintro e w1 ⟨rfl, hb1⟩
      have HB1 := Lib.hid (((Below.refl wr.heap.size wr).alloc (Nat.le_refl _) _).trans (hb1.mono (by simp)))
      have hin1 : InC w1 wr.heap.size #[.int .i64 a, .int .i64 b, .int .i64 c] 53 := (hb1.block _ (by simp)).trans (heap_alloc_new _ _)
      have d0 := hin1.cell 0 rfl
      have d1 := hin1.cell 1 rfl
      have d2 := hin1.cell 2 rfl
      clear hb1 hin1
      cases ok with
      | false =>
        have HF := Lib.hid (HOK.out rfl)
        go_wp2
        go_ret
        exact ⟨ret_bool HF.out.symm, HBE.out.trans (HB1.out.mono HBE.out.size)⟩
      | true =>
        go_wp2_with fail
        refine (HEN.out trivial _).mono ?_
        rintro e w2 ⟨rfl, hb2⟩
        have HB2 := Lib.hid (HB1.out.trans (hb2.mono HB1.out.size))
        clear hb2
        go_wp2
        go_roundw
        case rel =>
          have h2 := HSPK.out hinv.out.1 (by rw [hinv.out.2]; exact HKO.out)
          exact ⟨k + 1, _, by omega, by go_num, rfl, h2, HBE.out.trans (HB2.out.mono HBE.out.size), HIN.out.kept HB2.out⟩
        case measure => simp [intOf]; omega
    · obtain rfl : k = n := by omega
      have HF := Lib.hid (HYES.out (by omega) (by have := hinv.out.1; rwa [HTA.out] at this) (by omega))
      go_wp2
      go_ret
      exact ⟨ret_bool HF.out.symm, HBE.out⟩
end Go.Proofs.YtifmcbhgoncgjaaDoor
