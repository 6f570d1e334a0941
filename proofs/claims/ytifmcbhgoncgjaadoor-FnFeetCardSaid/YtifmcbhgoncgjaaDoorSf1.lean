/- The model's IsFooting: what it answers. -/
import Derived.Test.YtifmcbhgoncgjaaDoorFo
import Derived.Test.YtifmcbhgoncgjaaDoorRows
import Derived.Test.YtifmcbhgoncgjaaDoorRet
import Derived.BigQuiet
import Derived.Lib.QuietBelow
namespace Go.Proofs.YtifmcbhgoncgjaaDoor
open Go.RowKit Go.Sort
set_option linter.unusedVariables false
set_option linter.unusedSimpArgs false

theorem specIn3_any (x lo hi : Int) (w : World) :
    Calls Tryd.prog 37 #[.int .i64 x, .int .i64 lo, .int .i64 hi] w fun e w' => e = .returned (.bool (decide (lo ≤ x) && decide (x ≤ hi))) ∧ w = w' := by
  go_enter Tryd.func37, Tryd.ntmps37
  by_cases h : lo ≤ x
  · go_wp2
    go_ret
    exact ⟨ret_bool (by rw [decide_eq_true h, Bool.true_and]), rfl⟩
  · go_wp2
    go_ret
    exact ⟨ret_bool (by rw [decide_eq_false (by omega), Bool.false_and]), rfl⟩
def aggF (x : DFooting) (v1 : Value) : Value := .agg #[.int .i64 x.Syllables, v1, .int .i64 x.Main]
def NI (z : Int) : Prop := -9223372036854775808 ≤ z ∧ z ≤ 9223372036854775807
set_option maxHeartbeats 4000000 in
theorem specIsF_any (f : DFooting) (v1 : Value) (F : Addr → Prop) (w : World) (hm : f.Feet.length ≤ 1048576) (hs : I64 f.Syllables) (hmn : I64 f.Main) (hv : RowRd rFoot false w v1 f.Feet F) :
    Calls Tryd.prog 22 #[.agg #[.int .i64 f.Syllables, v1, .int .i64 f.Main]] w fun e w' => e = .returned (.bool (isFt f)) ∧ Below w.heap.size w w' := by
  obtain ⟨A, cap, rfl⟩ := hv.form
  have HV := Lib.hid hv
  have HX : Hid (∀ k, k < f.Feet.length → ∃ x, f.Feet[k]? = some x) := fun k hk => ⟨_, List.getElem?_eq_getElem hk⟩
  have HI : Hid (isFt f = (okSyls f.Syllables && okFeet f.Syllables 0 f.Feet && decide (0 ≤ f.Main) && decide (f.Main ≤ (f.Feet.length : Int) - 1))) := rfl
  have HNF : Hid (okFeet f.Syllables 0 f.Feet = false → isFt f = false) := isFt_no_feet
  have HNS : Hid (¬ (1 ≤ f.Syllables ∧ f.Syllables ≤ 6) → isFt f = false) := isFt_no_syl
  have HSTOP : Hid (∀ k x, f.Feet[k]? = some x → okFoot f.Syllables (endFeet 0 (f.Feet.take k)) x = false → okFeet f.Syllables 0 f.Feet = false) := fun k x h hx => okFeet_stop h hx
  have HSTEP : Hid (∀ k x, f.Feet[k]? = some x → okFeet f.Syllables 0 (f.Feet.take k) = true → okFoot f.Syllables (endFeet 0 (f.Feet.take k)) x = true → okFeet f.Syllables 0 (f.Feet.take (k + 1)) = true ∧ endFeet 0 (f.Feet.take (k + 1)) = x.From + x.Size) := fun k x h1 h2 h3 => okFeet_step h1 h2 h3
  have HT0 : Hid (okFeet f.Syllables 0 (f.Feet.take 0) = true ∧ endFeet 0 (f.Feet.take 0) = 0) := ⟨by simp [okFeet], by simp [endFeet]⟩
  have HTA : Hid (f.Feet.take f.Feet.length = f.Feet) := List.take_length
  clear hv
  generalize isFt f = r at *
  generalize hl : f.Feet.length = n at *
  have HL := Lib.hid hl
  clear hl
  unfold I64 at hs hmn
  generalize f.Syllables = S at *
  generalize f.Main = M at *
  generalize f.Feet = l at *
  go_enter Tryd.func22, Tryd.ntmps22
  go_wp2
  go_loopw [3, 4] (fun a i wr => ∃ (k : Nat) (p : Int), k ≤ n ∧ i = .int .i64 k ∧ a = .int .i64 p ∧ NI p ∧ Hid (1 ≤ S ∧ S ≤ 6 → okFeet S 0 (l.take k) = true ∧ endFeet 0 (l.take k) = p) ∧ Below w.heap.size w wr ∧ InC wr w.heap.size #[.int .i64 S, .slice A n cap, .int .i64 M] 31) (fun _ i _ => n - (intOf i).toNat)
  case atStart => exact ⟨0, 0, by omega, rfl, rfl, ⟨by omega, by omega⟩, fun _ => HT0.out, (Below.refl _ _).alloc (Nat.le_refl _) _, heap_alloc_new _ _⟩
  case round =>
    obtain ⟨k, p, hk, rfl, rfl, hp, hinv, hbe, hin⟩ := hrel
    have b0 := hin.cell 0 rfl
    have b1 := hin.cell 1 rfl
    have b2 := hin.cell 2 rfl
    have HIN := Lib.hid hin
    have HBE := Lib.hid hbe
    clear hin hbe
    unfold NI at hp
    by_cases hkl : k < n
    · obtain ⟨x, hx⟩ := HX.out k hkl
      obtain ⟨g, off, xs, Fk, rfl, _, hrd, _, hc⟩ := (HV.out.kept HBE.out).get hx
      obtain ⟨rfl, i0, i1, i2⟩ := rFoot_rd hrd
      rw [rFoot_size] at hc
      have c0 := hc 0 _ rfl
      have c1 := hc 1 _ rfl
      have c2 := hc 2 _ rfl
      simp only [Nat.add_zero] at c0
      have HSTK := Lib.hid (HSTOP.out k x hx)
      have HSPK := Lib.hid (HSTEP.out k x hx)
      clear hc hrd
      unfold I64 at i0 i1 i2
      have bb0 := fun o => (HIN.out.kept ((Below.refl wr.heap.size wr).alloc (Nat.le_refl _) o)).cell 0 rfl
      have hdec : Hid (1 ≤ S ∧ S ≤ 6 → okFoot S p x = true ↔ (1 ≤ S ∧ S ≤ 6 → p ≤ x.From ∧ 1 ≤ x.Size ∧ x.Size ≤ 2 ∧ x.From + x.Size ≤ S ∧ 0 ≤ x.Head ∧ x.Head ≤ x.Size - 1)) := by unfold Hid; rw [okFoot_iff]
      have hno : Hid (¬ (p ≤ x.From ∧ 1 ≤ x.Size ∧ x.Size ≤ 2 ∧ x.From + x.Size ≤ S ∧ 0 ≤ x.Head ∧ x.Head ≤ x.Size - 1) → okFoot S p x = false) := fun h => by
        cases hb : okFoot S p x with
        | false => rfl
        | true => exact absurd (okFoot_iff.1 hb) h
      have hyes : Hid ((p ≤ x.From ∧ 1 ≤ x.Size ∧ x.Size ≤ 2 ∧ x.From + x.Size ≤ S ∧ 0 ≤ x.Head ∧ x.Head ≤ x.Size - 1) → okFoot S p x = true) := fun h => okFoot_iff.2 h
      have HSI := Lib.hid (fun (a b c : Int) (W : World) => specIn3_any a b c W)
      have HFAIL : Hid (¬ (p ≤ x.From ∧ 1 ≤ x.Size ∧ x.Size ≤ 2 ∧ x.From + x.Size ≤ S ∧ 0 ≤ x.Head ∧ x.Head ≤ x.Size - 1) ∨ ¬ (1 ≤ S ∧ S ≤ 6) → r = false) := fun h => by
        by_cases hS : 1 ≤ S ∧ S ≤ 6
        · have h1 := hno.out (h.resolve_right (fun h2 => h2 hS))
          obtain ⟨_, e⟩ := hinv.out hS
          exact HNF.out (HSTK.out (by rw [e]; exact h1))
        · exact HNS.out hS
      clear hdec hx
      generalize x.From = a at *
      generalize x.Size = b at *
      generalize x.Head = c at *
      by_cases h1 : a < p
      case pos =>
        go_wp2
        go_ret
        exact ⟨ret_bool (HFAIL.out (Or.inl (by omega))).symm, (HBE.out.alloc HBE.out.size _)⟩
      obtain ⟨q, hq⟩ : ∃ q, IntKind.i64.wrap (a + b) = q := ⟨_, rfl⟩
      by_cases h2 : 1 ≤ b
      case neg =>
        have HF := Lib.hid (HFAIL.out (by omega))
        go_wp2
        go_ret
        exact ⟨ret_bool HF.out.symm, (HBE.out.alloc HBE.out.size _)⟩
      by_cases h2b : b ≤ 2
      case neg =>
        have HF := Lib.hid (HFAIL.out (by omega))
        go_wp2
        go_ret
        exact ⟨ret_bool HF.out.symm, (HBE.out.alloc HBE.out.size _)⟩
      have hq1 : (a + b ≤ 9223372036854775807 → q = a + b) ∧ (¬ a + b ≤ 9223372036854775807 → q < 0) ∧ NI q := by
        unfold NI
        by_cases hab : a + b ≤ 9223372036854775807
        · have := IntWalk.i64_in (a + b) (by omega)
          omega
        · have : IntKind.i64.wrap (a + b) = a + b - 18446744073709551616 := by simp [IntKind.wrap, IntKind.signed, IntKind.bits]; omega
          omega
      unfold NI at hq1
      by_cases h3 : S < q
      case pos =>
        have HF := Lib.hid (HFAIL.out (by omega))
        go_wp2
        go_ret
        exact ⟨ret_bool HF.out.symm, (HBE.out.alloc HBE.out.size _)⟩
      by_cases h4 : S < a
      case pos =>
        have HF := Lib.hid (HFAIL.out (by omega))
        go_wp2
        go_ret
        exact ⟨ret_bool HF.out.symm, (HBE.out.alloc HBE.out.size _)⟩
      have hwb : IntKind.i64.wrap (b - 1) = b - 1 := IntWalk.i64_in _ (by omega)
      by_cases h5 : 0 ≤ c
      case neg =>
        have HF := Lib.hid (HFAIL.out (by omega))
        go_wp2
        go_ret
        exact ⟨ret_bool HF.out.symm, (HBE.out.alloc HBE.out.size _)⟩
      by_cases h6 : c ≤ b - 1
      case neg =>
        have HF := Lib.hid (HFAIL.out (by omega))
        go_wp2
        go_ret
        exact ⟨ret_bool HF.out.symm, (HBE.out.alloc HBE.out.size _)⟩
      go_wp2
      go_roundw
      case rel =>
        refine ⟨k + 1, q, by omega, by go_num, rfl, hq1.2.2, fun hS => ?_, HBE.out.alloc HBE.out.size _, HIN.out.kept ((Below.refl _ _).alloc (Nat.le_refl _) _)⟩
        obtain ⟨e1, e2⟩ := hinv.out hS
        have := HSPK.out e1 (by rw [e2]; exact hyes.out (by omega))
        refine ⟨this.1, this.2.trans ?_⟩
        omega
      case measure => simp [intOf]; omega
    · obtain rfl : k = n := by omega
      by_cases hS1 : 1 ≤ S
      case neg =>
        have HF := Lib.hid (HNS.out (by omega))
        go_wp2
        go_ret
        exact ⟨ret_bool HF.out.symm, HBE.out⟩
      by_cases hS2 : S ≤ 6
      case neg =>
        have HF := Lib.hid (HNS.out (by omega))
        go_wp2
        go_ret
        exact ⟨ret_bool HF.out.symm, HBE.out⟩
      have HOK := Lib.hid (hinv.out ⟨hS1, hS2⟩)
      have hr : Hid (r = (decide (0 ≤ M) && decide (M ≤ (k : Int) - 1))) := by
        have e := HOK.out.1
        rw [HTA.out] at e
        unfold Hid
        rw [HI.out, e]
        simp [okSyls, hS1, hS2]
      have hwn : IntKind.i64.wrap ((k : Int) - 1) = (k : Int) - 1 := IntWalk.i64_in _ (by omega)
      by_cases hM : 0 ≤ M
      case neg =>
        go_wp2
        go_ret
        exact ⟨ret_bool (by rw [hr.out, decide_eq_false (by omega)]; rfl), HBE.out⟩
      go_wp2
      go_ret
      exact ⟨ret_bool (by rw [hr.out, decide_eq_true hM, Bool.true_and]), HBE.out⟩
end Go.Proofs.YtifmcbhgoncgjaaDoor
