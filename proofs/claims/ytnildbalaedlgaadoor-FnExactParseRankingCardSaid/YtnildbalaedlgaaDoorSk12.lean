/- Rankings: the model's l12Has and IsRanking: what they answer. -/
import Derived.Test.YtnildbalaedlgaaDoorRk12
import Derived.Test.YtnildbalaedlgaaDoorMt10
import Derived.WalkKit
import Derived.BigQuiet
import Derived.Lib.QuietBelow
namespace Go.Proofs.YtnildbalaedlgaaDoor
set_option maxRecDepth 100000
open Go.RowKit Go.Sort M
set_option linter.unusedVariables false
set_option linter.unusedSimpArgs false

set_option maxHeartbeats 1000000 in
theorem has12_any (l : List Int) (v : Value) (F : Addr → Prop) (x : Int) (w : World) (hv : RowRd Rep.int false w v l F) :
    Calls Tryd.prog 34 #[v, .int .i64 x] w fun e w' => e = .returned (.bool (decide (x ∈ l))) ∧ w = w' := by
  obtain ⟨A, cap, rfl⟩ := hv.form
  have hmx := hv.max
  have HV := Lib.hid hv
  clear hv
  have HX : Hid (∀ k, k < l.length → ∃ y, l[k]? = some y) := fun k hk => ⟨_, List.getElem?_eq_getElem hk⟩
  have HNO : Hid ((∀ (j : Nat) (y : Int), j < l.length → l[j]? = some y → ¬ y = x) → decide (x ∈ l) = false) := fun h => decide_eq_false fun hm => by
    obtain ⟨j, hj⟩ := List.mem_iff_getElem?.1 hm
    exact h j x (List.getElem?_eq_some_iff.1 hj).1 hj rfl
  have HYES : Hid (∀ (k : Nat), l[k]? = some x → decide (x ∈ l) = true) := fun k h => decide_eq_true (List.mem_of_getElem? h)
  generalize decide (x ∈ l) = r at *
  generalize hll : l.length = L at *
  clear hll
  go_enter Tryd.func34, Tryd.ntmps34
  go_wp2
  go_loop [5] (fun i => ∃ (k : Nat), k ≤ L ∧ i = .int .i64 k ∧ Hid (∀ (j : Nat) (y : Int), j < k → l[j]? = some y → ¬ y = x)) (fun i => L - (intOf i).toNat)
  case atStart => exact ⟨0, by omega, rfl, fun j y hj => by omega⟩
  case round =>
    obtain ⟨k, hk, rfl, hall⟩ := hrel
    by_cases hkl : k < L
    · obtain ⟨y, hy⟩ := HX.out k hkl
      obtain ⟨g, off, xs, Fk, rfl, _, hra, _, hca⟩ := HV.out.get hy
      obtain ⟨rfl, _⟩ := id hra
      rw [show Rep.int.size = 1 from rfl] at hca
      have c0 := hca 0 _ rfl
      simp only [Nat.add_zero, Nat.mul_one] at c0
      clear hca hra
      have HY := Lib.hid hy
      clear hy
      by_cases he : y = x
      · subst he
        have HF := Lib.hid (HYES.out k HY.out)
        clear HYES HNO
        go_wp2
        go_ret
        exact ⟨ret_bool HF.out.symm, rfl⟩
      · have e1 : (y == x) = false := by simp [he]
        have HG : Hid (∀ (j : Nat) (z : Int), j < k + 1 → l[j]? = some z → ¬ z = x) := fun j z hj hz => by
          by_cases e : j = k
          · subst e; rw [HY.out] at hz; cases hz; exact he
          · exact hall.out j z (by omega) hz
        clear HYES HNO hall
        go_wp2
        go_round
        case rel => exact ⟨k + 1, by omega, by go_num, HG.out⟩
        case measure => simp [intOf]; omega
    · obtain rfl : k = L := by omega
      have HF := Lib.hid (HNO.out hall.out)
      clear hall
      go_wp2
      go_ret
      exact ⟨ret_bool HF.out.symm, rfl⟩
set_option maxHeartbeats 8000000 in
theorem specRk_any (l : List Int) (n : Int) (v : Value) (F : Addr → Prop) (w : World) (hn : I64 n) (hv : RowRd Rep.int false w v l F) :
    Calls Tryd.prog 28 #[v, .int .i64 n] w fun e w' => e = .returned (.bool (rkB l n)) ∧ Below w.heap.size w w' := by
  obtain ⟨A, cap, rfl⟩ := hv.form
  have hmx := hv.max
  have hcap := hv.cap_le
  have HV := Lib.hid hv
  clear hv
  have HX : Hid (∀ k, k < l.length → ∃ y, l[k]? = some y ∧ I64 y) := fun k hk => ⟨_, List.getElem?_eq_getElem hk, by
    obtain ⟨g, off, xs, Fk, _, _, hr, _⟩ := HV.out.get (List.getElem?_eq_getElem hk)
    exact hr.2⟩
  have HBAD : Hid (∀ (k : Nat) (x : Int), l[k]? = some x → (x < 0 ∨ n ≤ x ∨ x ∈ l.take k) → rkB l n = false) := fun k x h1 h2 => rk_bad h1 h2
  have HEND : Hid (goodTo l n l.length → rkB l n = (decide (1 ≤ n) && (decide (n ≤ 5) && decide ((l.length : Int) = n)))) := fun h => rk_of_good h
  have HTK : Hid (∀ k, k ≤ l.length → (l.take k).length = k) := fun k hk => by rw [List.length_take]; omega
  generalize rkB l n = r at *
  generalize hll : l.length = L at *
  unfold I64 at hn
  go_enter Tryd.func28, Tryd.ntmps28
  go_wp2
  go_loopw [5] (fun i wr => ∃ (k : Nat), k ≤ L ∧ i = .int .i64 k ∧ Hid (goodTo l n k) ∧ Below w.heap.size w wr) (fun i _ => L - (intOf i).toNat)
  case atStart => exact ⟨0, by omega, rfl, fun j x hj => by omega, Below.refl _ _⟩
  case round =>
    obtain ⟨k, hk, rfl, hgo, hbe⟩ := hrel
    obtain ⟨w2, rfl⟩ : ∃ w2 : World, w2 = wr := ⟨_, rfl⟩
    have HBE := Lib.hid hbe
    clear hbe
    by_cases hkl : k < L
    · obtain ⟨x, hx, hxi⟩ := HX.out k hkl
      have HVK := Lib.hid (HV.out.kept HBE.out)
      obtain ⟨g, off, xs, Fk, rfl, _, hra, _, hca⟩ := HVK.out.get hx
      obtain ⟨rfl, _⟩ := id hra
      rw [show Rep.int.size = 1 from rfl] at hca
      have c0 := hca 0 _ rfl
      simp only [Nat.add_zero, Nat.mul_one] at c0
      have hr0 := fun d os => cell_regrown c0 d os
      have hkc : (k : Int) ≤ (cap : Int) := by omega
      have hkr : (k : Int) < (L : Int) := by omega
      have HXX := Lib.hid hx
      unfold I64 at hxi
      clear hca hra hx
      have HH : Hid (∀ d os, Calls Tryd.prog 34 #[.slice (some ⟨g, off, none⟩) k cap, .int .i64 x] (grow (redrawn w2 d) os) fun e w'' => e = .returned (.bool (decide (x ∈ l.take k))) ∧ ∃ p : Regrown, w'' = grow (redrawn w2 p.d) p.os) := fun d os =>
        (has12_any (l.take k) (.slice (some ⟨g, off, none⟩) k cap) F x _ ((by have h := (HVK.out.kept (below_regrown w2 d os)).head k cap (by omega) (by omega); exact h))).mono fun e w'' h => ⟨h.1, ⟨d, os⟩, h.2.symm⟩
      have HB := Lib.hid (HBAD.out k x HXX.out)
      by_cases h0 : x < 0
      · have e1 : decide (x < 0) = true := decide_eq_true h0
        have HF := Lib.hid (HB.out (.inl h0))
        clear HH HB HBAD HEND h0
        go_wp2
        refine wp_region_quiet_below (by kernel_rfl) (by kernel_rfl) ?_
        repeat (first | go_big_quiet_skip | quiet_step (fail))
        refine wpQuiet_nil ?_
        intro _ hw'
        obtain ⟨⟨dq, osq⟩, hw''⟩ := hw'
        subst hw''
        have HB5 := Lib.hid (HBE.out.trans ((below_regrown w2 dq osq).mono HBE.out.size))
        go_wp2
        go_ret
        exact ⟨ret_bool HF.out.symm, HB5.out⟩
      have e1 : decide (x < 0) = false := decide_eq_false h0
      by_cases h1 : n ≤ x
      · have e2 : decide (n ≤ x) = true := decide_eq_true h1
        have HF := Lib.hid (HB.out (.inr (.inl h1)))
        clear HH HB HBAD HEND h0 h1
        go_wp2
        refine wp_region_quiet_below (by kernel_rfl) (by kernel_rfl) ?_
        repeat (first | go_big_quiet_skip | quiet_step (fail))
        refine wpQuiet_nil ?_
        intro _ hw'
        obtain ⟨⟨dq, osq⟩, hw''⟩ := hw'
        subst hw''
        have HB5 := Lib.hid (HBE.out.trans ((below_regrown w2 dq osq).mono HBE.out.size))
        go_wp2
        go_ret
        exact ⟨ret_bool HF.out.symm, HB5.out⟩
      have e2 : decide (n ≤ x) = false := decide_eq_false h1
      have HG : Hid (¬ x ∈ l.take k → goodTo l n (k + 1)) := fun hm j y hj hy => by
        by_cases e : j = k
        · subst e; rw [HXX.out] at hy; cases hy; exact ⟨by omega, by omega, hm⟩
        · exact hgo.out j y (by omega) hy
      by_cases h2 : x ∈ l.take k
      · have HF := Lib.hid (HB.out (.inr (.inr h2)))
        have HH2 := HH.out
        rw [decide_eq_true h2] at HH2
        clear HH HB HBAD HEND h0 h1 h2 HG
        go_wp2
        refine wp_region_quiet_below (by kernel_rfl) (by kernel_rfl) ?_
        repeat (first | go_big_quiet_skip | quiet_step (with_reducible exact HH2 _ _))
        refine wpQuiet_nil ?_
        intro _ hw'
        obtain ⟨⟨dq, osq⟩, hw''⟩ := hw'
        subst hw''
        have HB5 := Lib.hid (HBE.out.trans ((below_regrown w2 dq osq).mono HBE.out.size))
        go_wp2
        go_ret
        exact ⟨ret_bool HF.out.symm, HB5.out⟩
      · have HH2 := HH.out
        rw [decide_eq_false h2] at HH2
        have HG2 := Lib.hid (HG.out h2)
        clear HH HB HBAD HEND h0 h1 h2 HG
        go_wp2
        refine wp_region_quiet_below (by kernel_rfl) (by kernel_rfl) ?_
        repeat (first | go_big_quiet_skip | quiet_step (with_reducible exact HH2 _ _))
        refine wpQuiet_nil ?_
        intro _ hw'
        obtain ⟨⟨dq, osq⟩, hw''⟩ := hw'
        subst hw''
        have HB5 := Lib.hid (HBE.out.trans ((below_regrown w2 dq osq).mono HBE.out.size))
        go_wp2
        go_roundw
        case rel => exact ⟨k + 1, by omega, by go_num, HG2.out, HB5.out⟩
        case measure => simp [intOf]; omega
    · obtain rfl : k = L := by omega
      have HE : Hid (r = ((decide (1 ≤ n) && decide (n ≤ 5)) && decide ((k : Int) = n))) := by unfold Hid; rw [HEND.out hgo.out, Bool.and_assoc]
      have HI := Lib.hid (fun W => specIn10_any n 1 5 W)
      generalize (decide (1 ≤ n) && decide (n ≤ 5)) = b at *
      clear HBAD HEND hgo
      go_wp2_with fail
      refine (HI.out _).mono ?_
      rintro e w3 ⟨rfl, rfl⟩
      by_cases hL : (k : Int) = n
      · have e3 : decide ((k : Int) = n) = true := decide_eq_true hL
        have e4 : ((k : Int) == n) = true := by simp [hL]
        rw [e3, Bool.and_true] at HE
        clear hL
        cases b <;> (go_wp2; go_ret; exact ⟨ret_bool HE.out.symm, HBE.out⟩)
      · have e3 : decide ((k : Int) = n) = false := decide_eq_false hL
        have e4 : ((k : Int) == n) = false := by simp [hL]
        rw [e3, Bool.and_false] at HE
        clear hL
        cases b <;> (go_wp2; go_ret; exact ⟨ret_bool HE.out.symm, HBE.out⟩)
end Go.Proofs.YtnildbalaedlgaaDoor
