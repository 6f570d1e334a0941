/- Rankings: the program's isConstraintCount, slices.Contains over numbers, IsRanking: what they answer. -/
import Derived.Test.YtnildbalaedlgaaDoorRk12
import Derived.Test.YtnildbalaedlgaaDoorCc12
import Derived.WalkKit
import Derived.BigQuiet
import Derived.Lib.QuietBelow
namespace Go.Proofs.YtnildbalaedlgaaDoor
set_option maxRecDepth 100000
open Go.RowKit Go.Sort
set_option linter.unusedVariables false
set_option linter.unusedSimpArgs false

set_option maxHeartbeats 1000000 in
theorem idxN12_any (l : List Int) (v : Value) (F : Addr → Prop) (x : Int) (w : World) (hv : RowRd Rep.int false w v l F) :
    Calls Tryd.prog 38 #[v, .int .i64 x] w fun e w' => e = .returned (.int .i64 (idxN12 l x)) ∧ w = w' := by
  obtain ⟨A, cap, rfl⟩ := hv.form
  have hmx := hv.max
  have HV := Lib.hid hv
  clear hv
  have HX : Hid (∀ k, k < l.length → ∃ y, l[k]? = some y) := fun k hk => ⟨_, List.getElem?_eq_getElem hk⟩
  have HNO : Hid ((∀ (j : Nat) (y : Int), j < l.length → l[j]? = some y → ¬ y = x) → idxN12 l x = -1) := fun h => idxN12_no fun j y hj => h j y (List.getElem?_eq_some_iff.1 hj).1 hj
  have HYES : Hid (∀ (k : Nat), l[k]? = some x → (∀ (j : Nat) (y : Int), j < k → l[j]? = some y → ¬ y = x) → idxN12 l x = k) := fun k h1 h2 => idxN12_yes h1 h2
  generalize idxN12 l x = r at *
  generalize hll : l.length = L at *
  clear hll
  go_enter Tryd.func38, Tryd.ntmps38
  go_wp2
  go_loop [8] (fun i => ∃ (k : Nat), k ≤ L ∧ i = .int .i64 k ∧ Hid (∀ (j : Nat) (y : Int), j < k → l[j]? = some y → ¬ y = x)) (fun i => L - (intOf i).toNat)
  case atStart => exact ⟨0, by omega, rfl, fun j y hj => by omega⟩
  case round =>
    obtain ⟨k, hk, rfl, hall⟩ := hrel
    by_cases hkl : k < L
    · obtain ⟨y, hy⟩ := HX.out k hkl
      obtain ⟨g, off, xs, Fk, rfl, _, hra, _, hca⟩ := HV.out.get hy
      obtain ⟨rfl, _⟩ := id hra
      rw [show Rep.int.size = 1 from rfl] at hca
      have c0 := hca 0 _ rfl
      simp only [Nat.add_zero, Nat.mul_one] at c0
      clear hca hra
      have HY := Lib.hid hy
      clear hy
      by_cases he : x = y
      · subst he
        have HF := Lib.hid (HYES.out k HY.out hall.out)
        clear HYES HNO hall
        go_wp2
        go_ret
        exact ⟨by rw [HF.out]; rfl, rfl⟩
      · have e1 : (x == y) = false := by simp [he]
        have HG : Hid (∀ (j : Nat) (z : Int), j < k + 1 → l[j]? = some z → ¬ z = x) := fun j z hj hz => by
          by_cases e : j = k
          · subst e; rw [HY.out] at hz; cases hz; exact fun h => he h.symm
          · exact hall.out j z (by omega) hz
        clear HYES HNO hall
        go_wp2
        go_round
        case rel => exact ⟨k + 1, by omega, by go_num, HG.out⟩
        case measure => simp [intOf]; omega
    · obtain rfl : k = L := by omega
      have HF := Lib.hid (HNO.out hall.out)
      clear hall
      go_wp2
      go_ret
      exact ⟨by rw [HF.out]; rfl, rfl⟩
theorem memI_any (l : List Int) (v : Value) (F : Addr → Prop) (x : Int) (w : World) (hv : RowRd Rep.int false w v l F) :
    Calls Tryd.prog 33 #[v, .int .i64 x] w fun e w' => e = .returned (.bool (decide (x ∈ l))) ∧ w = w' := by
  have HC := Lib.hid (idxN12_any l v F x w hv)
  clear hv
  rw [mem_idx]
  generalize idxN12 l x = i at *
  go_enter Tryd.func33, Tryd.ntmps33
  go_wp2_with fail
  refine HC.out.mono ?_
  rintro e w1 ⟨rfl, rfl⟩
  go_wp2
  go_ret
  exact ⟨rfl, rfl⟩
set_option maxHeartbeats 8000000 in
theorem implRk_any (l : List Int) (n : Int) (v : Value) (F : Addr → Prop) (w : World) (hv : RowRd Rep.int false w v l F) :
    Calls Tryd.prog 23 #[v, .int .i64 n] w fun e w' => e = .returned (.bool (rkB l n)) ∧ w = w' := by
  obtain ⟨A, cap, rfl⟩ := hv.form
  have hmx := hv.max
  have HV := Lib.hid hv
  clear hv
  have HSH : Hid (¬ (1 ≤ n ∧ n ≤ 5 ∧ (l.length : Int) = n) → rkB l n = false) := rk_short
  have HNOT : Hid (∀ k : Nat, (k : Int) < n → ¬ (k : Int) ∈ l → rkB l n = false) := fun k h1 h2 => rk_not h1 h2
  have HYES : Hid (1 ≤ n → n ≤ 5 → (l.length : Int) = n → (∀ k : Nat, (k : Int) < n → (k : Int) ∈ l) → rkB l n = true) := rk_yes
  have HM := Lib.hid (fun k : Nat => memI_any l _ F (k : Int) w HV.out)
  have HI := Lib.hid (cnt12_any n w)
  generalize rkB l n = r at *
  generalize hll : l.length = L at *
  by_cases hc : 1 ≤ n ∧ n ≤ 5
  case neg =>
    have HF := Lib.hid (HSH.out fun h => hc ⟨h.1, h.2.1⟩)
    have e0 : (decide (1 ≤ n) && decide (n ≤ 5)) = false := by
      cases h : (decide (1 ≤ n) && decide (n ≤ 5)) with
      | false => rfl
      | true => simp at h; exact (hc h).elim
    rw [e0] at HI
    clear hc HSH HNOT HYES e0
    go_enter Tryd.func23, Tryd.ntmps23
    go_wp2_with fail
    refine HI.out.mono ?_
    rintro e w1 ⟨rfl, rfl⟩
    go_wp2
    go_ret
    exact ⟨ret_bool HF.out.symm, rfl⟩
  have e0 : (decide (1 ≤ n) && decide (n ≤ 5)) = true := by simp [hc.1, hc.2]
  rw [e0] at HI
  clear e0
  obtain ⟨hc1, hc2⟩ := hc
  by_cases hL : (L : Int) = n
  case neg =>
    have HF := Lib.hid (HSH.out fun h => hL h.2.2)
    have e1 : ((L : Int) != n) = true := by simp [hL]
    clear HSH HNOT HYES hL
    go_enter Tryd.func23, Tryd.ntmps23
    go_wp2_with fail
    refine HI.out.mono ?_
    rintro e w1 ⟨rfl, rfl⟩
    go_wp2
    go_ret
    exact ⟨ret_bool HF.out.symm, rfl⟩
  subst hL
  have HY : Hid ((∀ k : Nat, k < L → (k : Int) ∈ l) → r = true) := fun h => HYES.out hc1 hc2 rfl fun k hk => h k (by omega)
  have HN : Hid (∀ k : Nat, k < L → ¬ (k : Int) ∈ l → r = false) := fun k hk => HNOT.out k (by omega)
  clear HSH HNOT HYES
  go_enter Tryd.func23, Tryd.ntmps23
  go_wp2_with fail
  refine HI.out.mono ?_
  rintro e w1 ⟨rfl, rfl⟩
  go_wp2
  go_loop [16] (fun i => ∃ (k : Nat), k ≤ L ∧ i = .int .i64 k ∧ Hid (∀ j : Nat, j < k → (j : Int) ∈ l)) (fun i => L - (intOf i).toNat)
  case atStart => exact ⟨0, by omega, rfl, fun j hj => by omega⟩
  case round =>
    obtain ⟨k, hk, rfl, hall⟩ := hrel
    by_cases hkl : k < L
    · have HMK := Lib.hid (HM.out k)
      by_cases hm : (k : Int) ∈ l
      · rw [decide_eq_true hm] at HMK
        have HG : Hid (∀ j : Nat, j < k + 1 → (j : Int) ∈ l) := fun j hj => by
          by_cases e : j = k
          · subst e; exact hm
          · exact hall.out j (by omega)
        clear HY HN hm hall
        go_wp2_with fail
        refine HMK.out.mono ?_
        rintro e w1 ⟨rfl, rfl⟩
        go_wp2
        go_round
        case rel => exact ⟨k + 1, by omega, by go_num, HG.out⟩
        case measure => simp [intOf]; omega
      · rw [decide_eq_false hm] at HMK
        have HF := Lib.hid (HN.out k hkl hm)
        clear HY HN hm hall
        go_wp2_with fail
        refine HMK.out.mono ?_
        rintro e w1 ⟨rfl, rfl⟩
        go_wp2
        go_ret
        exact ⟨ret_bool HF.out.symm, rfl⟩
    · obtain rfl : k = L := by omega
      have HF := Lib.hid (HY.out hall.out)
      clear HY HN hall
      go_wp2
      go_ret
      exact ⟨ret_bool HF.out.symm, rfl⟩
end Go.Proofs.YtnildbalaedlgaaDoor
