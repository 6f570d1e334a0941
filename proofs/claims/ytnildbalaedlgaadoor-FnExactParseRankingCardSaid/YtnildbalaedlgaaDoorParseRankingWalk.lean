/- The walk of FnExactParseRanking: it returns true at every argument. -/
import Derived.Test.YtnildbalaedlgaaDoorPs12
import Derived.Test.YtnildbalaedlgaaDoorPi12
import Derived.Test.YtnildbalaedlgaaDoorTzStringS
import Derived.Test.YtnildbalaedlgaaDoorTtStringS
import Derived.Test.YtnildbalaedlgaaDoorTeStringS
import Derived.Test.YtnildbalaedlgaaDoorTmStringS
import Derived.Test.YtnildbalaedlgaaDoorTeIntS
import Derived.Test.YtnildbalaedlgaaDoorTmIntS
import Derived.Test.YtnildbalaedlgaaDoorThIntS
import Derived.Test.YtnildbalaedlgaaDoorOpS
namespace Go.Proofs.YtnildbalaedlgaaDoor.fnExactParseRanking
set_option maxRecDepth 100000
open Go.RowKit Go.Proofs.YtnildbalaedlgaaDoor
set_option linter.unusedVariables false

theorem cntStrs12 (l : List ByteArray) : cntRow (Rep.str mkT) l = l.length := by
  induction l with
  | nil => rfl
  | cons x l ih => unfold cntRow at *; rw [List.map_cons, List.sum_cons, ih, List.length_cons, show (Rep.str mkT).cnt x = 1 from rfl]; omega
theorem cntPrk (l : List ByteArray) (s : ByteArray) : cntRow Rep.int (prkL l s) ≤ 5 := by
  rw [cntRow_int]
  unfold prkL
  split
  · rename_i h
    unfold prkB at h
    rw [Bool.and_eq_true] at h
    have := rk_len h.2
    omega
  · simp
set_option maxHeartbeats 8000000 in
theorem walk (w : World) (v : Value) (l : List ByteArray) (F : Addr → Prop) (hv : RowRd (Rep.str mkT) false w v l F) (s : ByteArray) (hs0 : s.size ≤ maxLen) :
    Calls Tryd.prog 3 #[v, .string s] w fun e w' => e = .returned (.bool true) ∧ Below w.heap.size w w' := by
  obtain ⟨A, cap, rfl⟩ := hv.form
  have hmx := hv.max
  have HV := Lib.hid hv.tight
  clear hv
  have HB := Lib.hid (Below.refl w.heap.size w)
  by_cases hlens : s.size ≤ 1048576
  case neg =>
    have hl2 : (1048576 : Int) < (s.size : Int) := by omega
    go_enter Tryd.func3, Tryd.ntmps3
    go_wp2
    go_ret
    exact ⟨rfl, HB.out⟩
  have HSS : Hid (s.size ≤ 4000000) := by unfold Hid; omega
  have hl2s : ¬ (1048576 : Int) < (s.size : Int) := by omega
  go_enter Tryd.func3, Tryd.ntmps3
  have HC : Hid (∀ W, Below w.heap.size w W → Calls Tryd.prog 5 #[.slice A l.length cap, .int .i64 1048576] W fun e w' => (∃ z : Int, e = .returned (.int .i64 z) ∧ (z < 0 ∨ z + (szRow (Rep.str mkT) l : Nat) = 1048576 ∧ 0 ≤ z)) ∧ Below W.heap.size W w') := fun W hW => szStringS_any _ l 1048576 _ W (by omega) (by omega) (HV.out.kept hW)
  go_wp2_with fail
  refine (HC.out _ (by first | exact Below.refl _ _ | exact (Below.refl _ _).alloc (Nat.le_refl _) _ | exact (Below.refl _ _).drew)).mono ?_
  rintro e w1 ⟨⟨z, rfl, hz⟩, hb⟩
  have hbn : Below w.heap.size w w1 := below_step (by first | exact Below.refl _ _ | exact (Below.refl _ _).alloc (Nat.le_refl _) _ | exact (Below.refl _ _).drew) hb
  have hs1 : Hid (w.heap.size ≤ w1.heap.size) := hbn.size
  replace HV := Lib.hid (HV.out.kept hbn)
  replace HB := Lib.hid (HB.out.trans (hbn.mono HB.out.size))
  clear hb hbn HC
  by_cases hneg : z < 0
  case pos =>
    go_wp2
    go_ret
    exact ⟨rfl, HB.out⟩
  have HSZ : Hid (szRow (Rep.str mkT) l ≤ 1048576) := by unfold Hid; have := hz.resolve_left hneg; omega
  have HL : Hid (l.length ≤ 1000000000) := by unfold Hid; have h1 := HSZ.out; have := szRow_len (Rep.str mkT) l; omega
  clear hz
  have HCS : Hid (1 + cntRow (Rep.str mkT) l ≤ 1000000000) := by unfold Hid; rw [cntStrs12]; have h1 := HSZ.out; have := szRow_len (Rep.str mkT) l; omega
  have HCG : Hid (1 + cntRow Rep.int (prkL l s) ≤ 1000000000) := by unfold Hid; have := cntPrk l s; omega
  have HC : Hid (∀ W, Below w1.heap.size w1 W → Calls Tryd.prog 7 #[.slice A l.length cap] W (OwnPostS l W)) := fun W hW => toStringS_any _ l _ W HSZ.out (HV.out.kept hW)
  go_wp2_with fail
  refine (HC.out _ (by first | exact Below.refl _ _ | exact (Below.refl _ _).alloc (Nat.le_refl _) _ | exact (Below.refl _ _).drew)).mono ?_
  rintro e w2 ⟨Au1, rfl, hq, hb⟩
  have hbn : Below w1.heap.size w1 w2 := below_step (by first | exact Below.refl _ _ | exact (Below.refl _ _).alloc (Nat.le_refl _) _ | exact (Below.refl _ _).drew) hb
  have hs2 : Hid (w1.heap.size ≤ w2.heap.size) := hbn.size
  replace HV := Lib.hid (HV.out.kept hbn)
  replace HB := Lib.hid (HB.out.trans (hbn.mono HB.out.size))
  have Hu1 := Lib.hid hq.tight
  clear hb hq hbn HC
  have HC : Hid (∀ W, Below w2.heap.size w2 W → Calls Tryd.prog 6 #[.slice Au1 l.length l.length, .string s] W (PrkPost (prkL l s) (prkB l s) W)) := fun W hW => specPrk_any mkT l s _ _ _ W HL.out (Nat.le_refl _) (Hu1.out.kept hW).weak HSS.out
  go_wp2_with fail
  refine (HC.out _ (by first | exact Below.refl _ _ | exact (Below.refl _ _).alloc (Nat.le_refl _) _ | exact (Below.refl _ _).drew)).mono ?_
  rintro e w3 ⟨g0, rfl, hq, hb⟩
  have hbn : Below w2.heap.size w2 w3 := below_step (by first | exact Below.refl _ _ | exact (Below.refl _ _).alloc (Nat.le_refl _) _ | exact (Below.refl _ _).drew) hb
  have hs3 : Hid (w2.heap.size ≤ w3.heap.size) := hbn.size
  replace HV := Lib.hid (HV.out.kept hbn)
  replace Hu1 := Lib.hid (Hu1.out.kept hbn)
  replace HB := Lib.hid (HB.out.trans (hbn.mono HB.out.size))
  have Hg0 := Lib.hid hq.tight
  clear hb hq hbn HC
  have HC : Hid (∀ W, Below w3.heap.size w3 W → Calls Tryd.prog 7 #[.slice A l.length cap] W (OwnPostS l W)) := fun W hW => toStringS_any _ l _ W HSZ.out (HV.out.kept hW)
  go_wp2_with fail
  refine (HC.out _ (by first | exact Below.refl _ _ | exact (Below.refl _ _).alloc (Nat.le_refl _) _ | exact (Below.refl _ _).drew)).mono ?_
  rintro e w4 ⟨Ax0, rfl, hq, hb⟩
  have hbn : Below w3.heap.size w3 w4 := below_step (by first | exact Below.refl _ _ | exact (Below.refl _ _).alloc (Nat.le_refl _) _ | exact (Below.refl _ _).drew) hb
  have hs4 : Hid (w3.heap.size ≤ w4.heap.size) := hbn.size
  replace HV := Lib.hid (HV.out.kept hbn)
  replace Hu1 := Lib.hid (Hu1.out.kept hbn)
  replace Hg0 := Lib.hid (Hg0.out.kept hbn)
  replace HB := Lib.hid (HB.out.trans (hbn.mono HB.out.size))
  have Hx0 := Lib.hid hq.tight
  clear hb hq hbn HC
  have HC : Hid (∀ W, Below w4.heap.size w4 W → Calls Tryd.prog 8 #[.slice Ax0 l.length l.length, .string s] W (PrkPost (prkL l s) (prkB l s) W)) := fun W hW => implPrk_any mkT l s _ _ _ W HL.out (Nat.le_refl _) (Hx0.out.kept hW).weak HSS.out
  go_wp2_with fail
  refine (HC.out _ (by first | exact Below.refl _ _ | exact (Below.refl _ _).alloc (Nat.le_refl _) _ | exact (Below.refl _ _).drew)).mono ?_
  rintro e w5 ⟨g1, rfl, hq, hb⟩
  have hbn : Below w4.heap.size w4 w5 := below_step (by first | exact Below.refl _ _ | exact (Below.refl _ _).alloc (Nat.le_refl _) _ | exact (Below.refl _ _).drew) hb
  have hs5 : Hid (w4.heap.size ≤ w5.heap.size) := hbn.size
  replace HV := Lib.hid (HV.out.kept hbn)
  replace Hu1 := Lib.hid (Hu1.out.kept hbn)
  replace Hg0 := Lib.hid (Hg0.out.kept hbn)
  replace Hx0 := Lib.hid (Hx0.out.kept hbn)
  replace HB := Lib.hid (HB.out.trans (hbn.mono HB.out.size))
  have Hg1 := Lib.hid hq.tight
  clear hb hq hbn HC
  have HC : Hid (∀ W, Below w5.heap.size w5 W → Calls Tryd.prog 9 #[g1, g0] W fun e w' => e = .returned (.bool true) ∧ Below W.heap.size W w') := fun W hW => eqIntS_any _ _ (prkL l s) _ _ W (Hg1.out.kept hW).weak (Hg0.out.kept hW).weak
  go_wp2_with fail
  refine (HC.out _ (by first | exact Below.refl _ _ | exact (Below.refl _ _).alloc (Nat.le_refl _) _ | exact (Below.refl _ _).drew)).mono ?_
  rintro e w6 ⟨rfl, hb⟩
  have hbn : Below w5.heap.size w5 w6 := below_step (by first | exact Below.refl _ _ | exact (Below.refl _ _).alloc (Nat.le_refl _) _ | exact (Below.refl _ _).drew) hb
  have hs6 : Hid (w5.heap.size ≤ w6.heap.size) := hbn.size
  replace HV := Lib.hid (HV.out.kept hbn)
  replace Hu1 := Lib.hid (Hu1.out.kept hbn)
  replace Hg0 := Lib.hid (Hg0.out.kept hbn)
  replace Hx0 := Lib.hid (Hx0.out.kept hbn)
  replace Hg1 := Lib.hid (Hg1.out.kept hbn)
  replace HB := Lib.hid (HB.out.trans (hbn.mono HB.out.size))
  clear hb hbn HC
  have HC : Hid (∀ W, Below w6.heap.size w6 W → Calls Tryd.prog 7 #[.slice A l.length cap] W (OwnPostS l W)) := fun W hW => toStringS_any _ l _ W HSZ.out (HV.out.kept hW)
  go_wp2_with fail
  refine (HC.out _ (by first | exact Below.refl _ _ | exact (Below.refl _ _).alloc (Nat.le_refl _) _ | exact (Below.refl _ _).drew)).mono ?_
  rintro e w7 ⟨Au2, rfl, hq, hb⟩
  have hbn : Below w6.heap.size w6 w7 := below_step (by first | exact Below.refl _ _ | exact (Below.refl _ _).alloc (Nat.le_refl _) _ | exact (Below.refl _ _).drew) hb
  have hs7 : Hid (w6.heap.size ≤ w7.heap.size) := hbn.size
  replace HV := Lib.hid (HV.out.kept hbn)
  replace Hu1 := Lib.hid (Hu1.out.kept hbn)
  replace Hg0 := Lib.hid (Hg0.out.kept hbn)
  replace Hx0 := Lib.hid (Hx0.out.kept hbn)
  replace Hg1 := Lib.hid (Hg1.out.kept hbn)
  replace HB := Lib.hid (HB.out.trans (hbn.mono HB.out.size))
  have Hu2 := Lib.hid hq.tight
  clear hb hq hbn HC
  have HC : Hid (∀ W, Below w7.heap.size w7 W → Calls Tryd.prog 10 #[.slice Ax0 l.length l.length, .slice Au2 l.length l.length] W fun e w' => e = .returned (.bool true) ∧ Below W.heap.size W w') := fun W hW => eqStrs_any _ _ l _ _ W (Hx0.out.kept hW).weak (Hu2.out.kept hW).weak
  go_wp2_with fail
  refine (HC.out _ (by first | exact Below.refl _ _ | exact (Below.refl _ _).alloc (Nat.le_refl _) _ | exact (Below.refl _ _).drew)).mono ?_
  rintro e w8 ⟨rfl, hb⟩
  have hbn : Below w7.heap.size w7 w8 := below_step (by first | exact Below.refl _ _ | exact (Below.refl _ _).alloc (Nat.le_refl _) _ | exact (Below.refl _ _).drew) hb
  have hs8 : Hid (w7.heap.size ≤ w8.heap.size) := hbn.size
  replace HV := Lib.hid (HV.out.kept hbn)
  replace Hu1 := Lib.hid (Hu1.out.kept hbn)
  replace Hg0 := Lib.hid (Hg0.out.kept hbn)
  replace Hx0 := Lib.hid (Hx0.out.kept hbn)
  replace Hg1 := Lib.hid (Hg1.out.kept hbn)
  replace Hu2 := Lib.hid (Hu2.out.kept hbn)
  replace HB := Lib.hid (HB.out.trans (hbn.mono HB.out.size))
  clear hb hbn HC
  obtain ⟨c1, hc1⟩ : ∃ q : Nat, 1 + cntRow (Rep.str mkT) (l) = q := ⟨_, rfl⟩
  have hnn1 : ¬ ((c1 : Nat) : Int) < 0 := by omega
  have HM := Lib.hid (markStrs_any (.slice Ax0 l.length l.length) l 1 1 rfl w.heap.size _ w8 (fun a ha => by have := hs1.out; have := hs2.out; have := hs3.out; have := hs4.out; have := hs5.out; have := hs6.out; have := hs7.out; have := hs8.out; omega) HCS.out (Nat.le_refl 1) (by have := hs1.out; have := hs2.out; have := hs3.out; have := hs4.out; have := hs5.out; have := hs6.out; have := hs7.out; have := hs8.out; omega) Hx0.out)
  rw [hc1] at HM
  go_wp2_with fail
  refine HM.out.mono ?_
  rintro e w9 ⟨rfl, hq, hu, hb⟩
  have hs9 : Hid (w8.heap.size ≤ w9.heap.size) := hb.size
  replace HV := Lib.hid (HV.out.apart hu (fun a ha hf => by have := hs1.out; have := hs2.out; have := hs3.out; have := hs4.out; have := hs5.out; have := hs6.out; have := hs7.out; have := hs8.out; have := hs9.out; omega))
  replace Hu1 := Lib.hid (Hu1.out.apart hu (fun a ha hf => by have := hs1.out; have := hs2.out; have := hs3.out; have := hs4.out; have := hs5.out; have := hs6.out; have := hs7.out; have := hs8.out; have := hs9.out; omega))
  replace Hg0 := Lib.hid (Hg0.out.apart hu (fun a ha hf => by have := hs1.out; have := hs2.out; have := hs3.out; have := hs4.out; have := hs5.out; have := hs6.out; have := hs7.out; have := hs8.out; have := hs9.out; omega))
  replace Hx0 := Lib.hid hq
  replace Hg1 := Lib.hid (Hg1.out.apart hu (fun a ha hf => by have := hs1.out; have := hs2.out; have := hs3.out; have := hs4.out; have := hs5.out; have := hs6.out; have := hs7.out; have := hs8.out; have := hs9.out; omega))
  replace Hu2 := Lib.hid (Hu2.out.apart hu (fun a ha hf => by have := hs1.out; have := hs2.out; have := hs3.out; have := hs4.out; have := hs5.out; have := hs6.out; have := hs7.out; have := hs8.out; have := hs9.out; omega))
  replace HB := Lib.hid (HB.out.trans (hb.mono (by have := hs1.out; have := hs2.out; have := hs3.out; have := hs4.out; have := hs5.out; have := hs6.out; have := hs7.out; have := hs8.out; have := hs9.out; omega)))
  clear HM hq hu hb
  have HC : Hid (∀ W, Below w9.heap.size w9 W → Calls Tryd.prog 9 #[g1, g0] W fun e w' => e = .returned (.bool true) ∧ Below W.heap.size W w') := fun W hW => eqIntS_any _ _ (prkL l s) _ _ W (Hg1.out.kept hW).weak (Hg0.out.kept hW).weak
  go_wp2_with fail
  refine (HC.out _ (by first | exact Below.refl _ _ | exact (Below.refl _ _).alloc (Nat.le_refl _) _ | exact (Below.refl _ _).drew)).mono ?_
  rintro e w10 ⟨rfl, hb⟩
  have hbn : Below w9.heap.size w9 w10 := below_step (by first | exact Below.refl _ _ | exact (Below.refl _ _).alloc (Nat.le_refl _) _ | exact (Below.refl _ _).drew) hb
  have hs10 : Hid (w9.heap.size ≤ w10.heap.size) := hbn.size
  replace HV := Lib.hid (HV.out.kept hbn)
  replace Hu1 := Lib.hid (Hu1.out.kept hbn)
  replace Hg0 := Lib.hid (Hg0.out.kept hbn)
  replace Hx0 := Lib.hid (Hx0.out.kept hbn)
  replace Hg1 := Lib.hid (Hg1.out.kept hbn)
  replace Hu2 := Lib.hid (Hu2.out.kept hbn)
  replace HB := Lib.hid (HB.out.trans (hbn.mono HB.out.size))
  clear hb hbn HC
  obtain ⟨c2, hc2⟩ : ∃ q : Nat, 1 + cntRow Rep.int (prkL l s) = q := ⟨_, rfl⟩
  have hnn2 : ¬ ((c2 : Nat) : Int) < 0 := by omega
  have HM := Lib.hid (markIntS_any g1 (prkL l s) 1 1 rfl w.heap.size _ w10 (fun a ha => by have := hs1.out; have := hs2.out; have := hs3.out; have := hs4.out; have := hs5.out; have := hs6.out; have := hs7.out; have := hs8.out; have := hs9.out; have := hs10.out; omega) HCG.out (Nat.le_refl 1) Hg1.out)
  rw [hc2] at HM
  go_wp2_with fail
  refine HM.out.mono ?_
  rintro e w11 ⟨rfl, hq, hu, hb⟩
  have hs11 : Hid (w10.heap.size ≤ w11.heap.size) := hb.size
  replace HV := Lib.hid (HV.out.apart hu (fun a ha hf => by have := hs1.out; have := hs2.out; have := hs3.out; have := hs4.out; have := hs5.out; have := hs6.out; have := hs7.out; have := hs8.out; have := hs9.out; have := hs10.out; have := hs11.out; omega))
  replace Hu1 := Lib.hid (Hu1.out.apart hu (fun a ha hf => by have := hs1.out; have := hs2.out; have := hs3.out; have := hs4.out; have := hs5.out; have := hs6.out; have := hs7.out; have := hs8.out; have := hs9.out; have := hs10.out; have := hs11.out; omega))
  replace Hg0 := Lib.hid (Hg0.out.apart hu (fun a ha hf => by have := hs1.out; have := hs2.out; have := hs3.out; have := hs4.out; have := hs5.out; have := hs6.out; have := hs7.out; have := hs8.out; have := hs9.out; have := hs10.out; have := hs11.out; omega))
  replace Hx0 := Lib.hid (Hx0.out.apart hu (fun a ha hf => by have := hs1.out; have := hs2.out; have := hs3.out; have := hs4.out; have := hs5.out; have := hs6.out; have := hs7.out; have := hs8.out; have := hs9.out; have := hs10.out; have := hs11.out; omega))
  replace Hg1 := Lib.hid hq
  replace Hu2 := Lib.hid (Hu2.out.apart hu (fun a ha hf => by have := hs1.out; have := hs2.out; have := hs3.out; have := hs4.out; have := hs5.out; have := hs6.out; have := hs7.out; have := hs8.out; have := hs9.out; have := hs10.out; have := hs11.out; omega))
  replace HB := Lib.hid (HB.out.trans (hb.mono (by have := hs1.out; have := hs2.out; have := hs3.out; have := hs4.out; have := hs5.out; have := hs6.out; have := hs7.out; have := hs8.out; have := hs9.out; have := hs10.out; have := hs11.out; omega)))
  clear HM hq hu hb
  have HC : Hid (∀ W, Below w11.heap.size w11 W → Calls Tryd.prog 13 #[g1, .int .i64 1] W fun e w' => e = .returned (.int .i64 ((c2 : Nat) : Int)) ∧ Below W.heap.size W w') := fun W hW => by have := heldIntS_any g1 (prkL l s) 1 1 rfl _ W HCG.out (Nat.le_refl 1) (Hg1.out.kept hW).weak; rw [hc2] at this; exact this
  go_wp2_with fail
  refine (HC.out _ (by first | exact Below.refl _ _ | exact (Below.refl _ _).alloc (Nat.le_refl _) _ | exact (Below.refl _ _).drew)).mono ?_
  rintro e w12 ⟨rfl, hb⟩
  have hbn : Below w11.heap.size w11 w12 := below_step (by first | exact Below.refl _ _ | exact (Below.refl _ _).alloc (Nat.le_refl _) _ | exact (Below.refl _ _).drew) hb
  have hs12 : Hid (w11.heap.size ≤ w12.heap.size) := hbn.size
  replace HV := Lib.hid (HV.out.kept hbn)
  replace Hu1 := Lib.hid (Hu1.out.kept hbn)
  replace Hg0 := Lib.hid (Hg0.out.kept hbn)
  replace Hx0 := Lib.hid (Hx0.out.kept hbn)
  replace Hg1 := Lib.hid (Hg1.out.kept hbn)
  replace Hu2 := Lib.hid (Hu2.out.kept hbn)
  replace HB := Lib.hid (HB.out.trans (hbn.mono HB.out.size))
  clear hb hbn HC
  have HC : Hid (∀ W, Below w12.heap.size w12 W → Calls Tryd.prog 7 #[.slice A l.length cap] W (OwnPostS l W)) := fun W hW => toStringS_any _ l _ W HSZ.out (HV.out.kept hW)
  go_wp2_with fail
  refine (HC.out _ (by first | exact Below.refl _ _ | exact (Below.refl _ _).alloc (Nat.le_refl _) _ | exact (Below.refl _ _).drew)).mono ?_
  rintro e w13 ⟨Au3, rfl, hq, hb⟩
  have hbn : Below w12.heap.size w12 w13 := below_step (by first | exact Below.refl _ _ | exact (Below.refl _ _).alloc (Nat.le_refl _) _ | exact (Below.refl _ _).drew) hb
  have hs13 : Hid (w12.heap.size ≤ w13.heap.size) := hbn.size
  replace HV := Lib.hid (HV.out.kept hbn)
  replace Hu1 := Lib.hid (Hu1.out.kept hbn)
  replace Hg0 := Lib.hid (Hg0.out.kept hbn)
  replace Hx0 := Lib.hid (Hx0.out.kept hbn)
  replace Hg1 := Lib.hid (Hg1.out.kept hbn)
  replace Hu2 := Lib.hid (Hu2.out.kept hbn)
  replace HB := Lib.hid (HB.out.trans (hbn.mono HB.out.size))
  have Hu3 := Lib.hid hq.tight
  clear hb hq hbn HC
  have HC : Hid (∀ W, Below w13.heap.size w13 W → Calls Tryd.prog 8 #[.slice Au3 l.length l.length, .string s] W (PrkPost (prkL l s) (prkB l s) W)) := fun W hW => implPrk_any mkT l s _ _ _ W HL.out (Nat.le_refl _) (Hu3.out.kept hW).weak HSS.out
  go_wp2_with fail
  refine (HC.out _ (by first | exact Below.refl _ _ | exact (Below.refl _ _).alloc (Nat.le_refl _) _ | exact (Below.refl _ _).drew)).mono ?_
  rintro e w14 ⟨g2, rfl, hq, hb⟩
  have hbn : Below w13.heap.size w13 w14 := below_step (by first | exact Below.refl _ _ | exact (Below.refl _ _).alloc (Nat.le_refl _) _ | exact (Below.refl _ _).drew) hb
  have hs14 : Hid (w13.heap.size ≤ w14.heap.size) := hbn.size
  replace HV := Lib.hid (HV.out.kept hbn)
  replace Hu1 := Lib.hid (Hu1.out.kept hbn)
  replace Hg0 := Lib.hid (Hg0.out.kept hbn)
  replace Hx0 := Lib.hid (Hx0.out.kept hbn)
  replace Hg1 := Lib.hid (Hg1.out.kept hbn)
  replace Hu2 := Lib.hid (Hu2.out.kept hbn)
  replace Hu3 := Lib.hid (Hu3.out.kept hbn)
  replace HB := Lib.hid (HB.out.trans (hbn.mono HB.out.size))
  have Hg2 := Lib.hid hq.tight
  clear hb hq hbn HC
  have HC : Hid (∀ W, Below w14.heap.size w14 W → Calls Tryd.prog 9 #[g2, g0] W fun e w' => e = .returned (.bool true) ∧ Below W.heap.size W w') := fun W hW => eqIntS_any _ _ (prkL l s) _ _ W (Hg2.out.kept hW).weak (Hg0.out.kept hW).weak
  go_wp2_with fail
  refine (HC.out _ (by first | exact Below.refl _ _ | exact (Below.refl _ _).alloc (Nat.le_refl _) _ | exact (Below.refl _ _).drew)).mono ?_
  rintro e w15 ⟨rfl, hb⟩
  have hbn : Below w14.heap.size w14 w15 := below_step (by first | exact Below.refl _ _ | exact (Below.refl _ _).alloc (Nat.le_refl _) _ | exact (Below.refl _ _).drew) hb
  have hs15 : Hid (w14.heap.size ≤ w15.heap.size) := hbn.size
  replace HV := Lib.hid (HV.out.kept hbn)
  replace Hu1 := Lib.hid (Hu1.out.kept hbn)
  replace Hg0 := Lib.hid (Hg0.out.kept hbn)
  replace Hx0 := Lib.hid (Hx0.out.kept hbn)
  replace Hg1 := Lib.hid (Hg1.out.kept hbn)
  replace Hu2 := Lib.hid (Hu2.out.kept hbn)
  replace Hu3 := Lib.hid (Hu3.out.kept hbn)
  replace Hg2 := Lib.hid (Hg2.out.kept hbn)
  replace HB := Lib.hid (HB.out.trans (hbn.mono HB.out.size))
  clear hb hbn HC
  have HC : Hid (∀ W, Below w15.heap.size w15 W → Calls Tryd.prog 13 #[g1, .int .i64 1] W fun e w' => e = .returned (.int .i64 ((c2 : Nat) : Int)) ∧ Below W.heap.size W w') := fun W hW => by have := heldIntS_any g1 (prkL l s) 1 1 rfl _ W HCG.out (Nat.le_refl 1) (Hg1.out.kept hW).weak; rw [hc2] at this; exact this
  go_wp2_with fail
  refine (HC.out _ (by first | exact Below.refl _ _ | exact (Below.refl _ _).alloc (Nat.le_refl _) _ | exact (Below.refl _ _).drew)).mono ?_
  rintro e w16 ⟨rfl, hb⟩
  have hbn : Below w15.heap.size w15 w16 := below_step (by first | exact Below.refl _ _ | exact (Below.refl _ _).alloc (Nat.le_refl _) _ | exact (Below.refl _ _).drew) hb
  have hs16 : Hid (w15.heap.size ≤ w16.heap.size) := hbn.size
  replace HV := Lib.hid (HV.out.kept hbn)
  replace Hu1 := Lib.hid (Hu1.out.kept hbn)
  replace Hg0 := Lib.hid (Hg0.out.kept hbn)
  replace Hx0 := Lib.hid (Hx0.out.kept hbn)
  replace Hg1 := Lib.hid (Hg1.out.kept hbn)
  replace Hu2 := Lib.hid (Hu2.out.kept hbn)
  replace Hu3 := Lib.hid (Hu3.out.kept hbn)
  replace Hg2 := Lib.hid (Hg2.out.kept hbn)
  replace HB := Lib.hid (HB.out.trans (hbn.mono HB.out.size))
  clear hb hbn HC
  go_wp2
  go_ret
  exact ⟨rfl, HB.out⟩
end Go.Proofs.YtnildbalaedlgaaDoor.fnExactParseRanking
