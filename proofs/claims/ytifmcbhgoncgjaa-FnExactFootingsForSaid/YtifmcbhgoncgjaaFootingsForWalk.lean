/- The walk of FnExactFootingsFor: it returns true at every argument. -/
import Derived.Test.YtifmcbhgoncgjaaSf7
import Derived.Test.YtifmcbhgoncgjaaIf7f
import Derived.Test.YtifmcbhgoncgjaaTtIntS
import Derived.Test.YtifmcbhgoncgjaaTeIntS
import Derived.Test.YtifmcbhgoncgjaaTmIntS
import Derived.Test.YtifmcbhgoncgjaaTeFootingS
import Derived.Test.YtifmcbhgoncgjaaTmFootingS
import Derived.Test.YtifmcbhgoncgjaaThFootingS
namespace Go.Proofs.Ytifmcbhgoncgjaa.fnExactFootingsFor
open Go.RowKit Go.Proofs.Ytifmcbhgoncgjaa
set_option linter.unusedVariables false

theorem HCNT (s : List Int) : 1 + cntRow rFooting (footFor s) ≤ 1000000000 := by
  have h1 := cntFoot_le (l := footFor s) (fun f hf => footAll_row ((List.mem_filter.1 hf).1))
  have h2 := forTo_len s (footAll s.length).length
  have h3 := footAll_len (s.length : Int)
  have h4 : forTo s (footAll s.length).length = footFor s := by unfold forTo footFor; rw [List.take_length]
  rw [h4] at h2
  omega
set_option maxHeartbeats 4000000 in
theorem walk (w : World) (v : Value) (s : List Int) (F : Addr → Prop) (hv : RowRd Rep.int false w v s F) :
    Calls Try.prog 6 #[v] w fun e w' => e = .returned (.bool true) ∧ Below w.heap.size w w' := by
  obtain ⟨A, cap, rfl⟩ := hv.form
  have hmx := hv.max
  have HV := Lib.hid hv.tight
  clear hv
  have HB := Lib.hid (Below.refl w.heap.size w)
  by_cases hlen : s.length ≤ 1048576
  case neg =>
    have hl2 : (1048576 : Int) < (s.length : Int) := by omega
    go_enter Try.func6, Try.ntmps6
    go_wp2
    go_ret
    exact ⟨rfl, HB.out⟩
  have HSZ : Hid (szRow Rep.int s ≤ 1048576) := by unfold Hid; rw [szRow_flat _ (fun _ => rfl)]; exact hlen
  have HCS : Hid (1 + cntRow Rep.int s ≤ 1000000000) := by unfold Hid; rw [cntRow_int]; omega
  have hl2 : ¬ (1048576 : Int) < (s.length : Int) := by omega
  have HCG : Hid (1 + cntRow rFooting (footFor s) ≤ 1000000000) := HCNT s
  go_enter Try.func6, Try.ntmps6
  have HC : Hid (∀ W, Below w.heap.size w W → Calls Try.prog 26 #[.slice A s.length cap] W (OwnPost Rep.int (s) W)) := fun W hW => toIntS_any _ s _ W HSZ.out (HV.out.kept hW)
  go_wp2_with fail
  refine (HC.out _ (by first | exact Below.refl _ _ | exact (Below.refl _ _).alloc (Nat.le_refl _) _ | exact (Below.refl _ _).drew)).mono ?_
  rintro e w1 ⟨u1, rfl, hq, hb⟩
  have hbn : Below w.heap.size w w1 := below_step (by first | exact Below.refl _ _ | exact (Below.refl _ _).alloc (Nat.le_refl _) _ | exact (Below.refl _ _).drew) hb
  have hs1 : Hid (w.heap.size ≤ w1.heap.size) := hbn.size
  replace HV := Lib.hid (HV.out.kept hbn)
  replace HB := Lib.hid (HB.out.trans (hbn.mono HB.out.size))
  have Hu1 := Lib.hid hq.tight
  clear hb hq hbn HC
  have HC : Hid (∀ W, Below w1.heap.size w1 W → Calls Try.prog 25 #[u1] W (OwnPost rFooting (footFor s) W)) := fun W hW => specFFor_any u1 s _ W (Hu1.out.kept hW).weak
  go_wp2_with fail
  refine (HC.out _ (by first | exact Below.refl _ _ | exact (Below.refl _ _).alloc (Nat.le_refl _) _ | exact (Below.refl _ _).drew)).mono ?_
  rintro e w2 ⟨g0, rfl, hq, hb⟩
  have hbn : Below w1.heap.size w1 w2 := below_step (by first | exact Below.refl _ _ | exact (Below.refl _ _).alloc (Nat.le_refl _) _ | exact (Below.refl _ _).drew) hb
  have hs2 : Hid (w1.heap.size ≤ w2.heap.size) := hbn.size
  replace HV := Lib.hid (HV.out.kept hbn)
  replace Hu1 := Lib.hid (Hu1.out.kept hbn)
  replace HB := Lib.hid (HB.out.trans (hbn.mono HB.out.size))
  have Hg0 := Lib.hid hq.tight
  clear hb hq hbn HC
  have HC : Hid (∀ W, Below w2.heap.size w2 W → Calls Try.prog 26 #[.slice A s.length cap] W (OwnPost Rep.int (s) W)) := fun W hW => toIntS_any _ s _ W HSZ.out (HV.out.kept hW)
  go_wp2_with fail
  refine (HC.out _ (by first | exact Below.refl _ _ | exact (Below.refl _ _).alloc (Nat.le_refl _) _ | exact (Below.refl _ _).drew)).mono ?_
  rintro e w3 ⟨x0, rfl, hq, hb⟩
  have hbn : Below w2.heap.size w2 w3 := below_step (by first | exact Below.refl _ _ | exact (Below.refl _ _).alloc (Nat.le_refl _) _ | exact (Below.refl _ _).drew) hb
  have hs3 : Hid (w2.heap.size ≤ w3.heap.size) := hbn.size
  replace HV := Lib.hid (HV.out.kept hbn)
  replace Hu1 := Lib.hid (Hu1.out.kept hbn)
  replace Hg0 := Lib.hid (Hg0.out.kept hbn)
  replace HB := Lib.hid (HB.out.trans (hbn.mono HB.out.size))
  have Hx0 := Lib.hid hq.tight
  clear hb hq hbn HC
  have HC : Hid (∀ W, Below w3.heap.size w3 W → Calls Try.prog 27 #[x0] W (OwnPost rFooting (footFor s) W)) := fun W hW => implFFor_any x0 s _ W (Hx0.out.kept hW).weak
  go_wp2_with fail
  refine (HC.out _ (by first | exact Below.refl _ _ | exact (Below.refl _ _).alloc (Nat.le_refl _) _ | exact (Below.refl _ _).drew)).mono ?_
  rintro e w4 ⟨g1, rfl, hq, hb⟩
  have hbn : Below w3.heap.size w3 w4 := below_step (by first | exact Below.refl _ _ | exact (Below.refl _ _).alloc (Nat.le_refl _) _ | exact (Below.refl _ _).drew) hb
  have hs4 : Hid (w3.heap.size ≤ w4.heap.size) := hbn.size
  replace HV := Lib.hid (HV.out.kept hbn)
  replace Hu1 := Lib.hid (Hu1.out.kept hbn)
  replace Hg0 := Lib.hid (Hg0.out.kept hbn)
  replace Hx0 := Lib.hid (Hx0.out.kept hbn)
  replace HB := Lib.hid (HB.out.trans (hbn.mono HB.out.size))
  have Hg1 := Lib.hid hq.tight
  clear hb hq hbn HC
  have HC : Hid (∀ W, Below w4.heap.size w4 W → Calls Try.prog 22 #[g1, g0] W fun e w' => e = .returned (.bool true) ∧ Below W.heap.size W w') := fun W hW => eqFootingS_any _ _ (footFor s) _ _ W (Hg1.out.kept hW).weak (Hg0.out.kept hW).weak
  go_wp2_with fail
  refine (HC.out _ (by first | exact Below.refl _ _ | exact (Below.refl _ _).alloc (Nat.le_refl _) _ | exact (Below.refl _ _).drew)).mono ?_
  rintro e w5 ⟨rfl, hb⟩
  have hbn : Below w4.heap.size w4 w5 := below_step (by first | exact Below.refl _ _ | exact (Below.refl _ _).alloc (Nat.le_refl _) _ | exact (Below.refl _ _).drew) hb
  have hs5 : Hid (w4.heap.size ≤ w5.heap.size) := hbn.size
  replace HV := Lib.hid (HV.out.kept hbn)
  replace Hu1 := Lib.hid (Hu1.out.kept hbn)
  replace Hg0 := Lib.hid (Hg0.out.kept hbn)
  replace Hx0 := Lib.hid (Hx0.out.kept hbn)
  replace Hg1 := Lib.hid (Hg1.out.kept hbn)
  replace HB := Lib.hid (HB.out.trans (hbn.mono HB.out.size))
  clear hb hbn HC
  have HC : Hid (∀ W, Below w5.heap.size w5 W → Calls Try.prog 26 #[.slice A s.length cap] W (OwnPost Rep.int (s) W)) := fun W hW => toIntS_any _ s _ W HSZ.out (HV.out.kept hW)
  go_wp2_with fail
  refine (HC.out _ (by first | exact Below.refl _ _ | exact (Below.refl _ _).alloc (Nat.le_refl _) _ | exact (Below.refl _ _).drew)).mono ?_
  rintro e w6 ⟨u2, rfl, hq, hb⟩
  have hbn : Below w5.heap.size w5 w6 := below_step (by first | exact Below.refl _ _ | exact (Below.refl _ _).alloc (Nat.le_refl _) _ | exact (Below.refl _ _).drew) hb
  have hs6 : Hid (w5.heap.size ≤ w6.heap.size) := hbn.size
  replace HV := Lib.hid (HV.out.kept hbn)
  replace Hu1 := Lib.hid (Hu1.out.kept hbn)
  replace Hg0 := Lib.hid (Hg0.out.kept hbn)
  replace Hx0 := Lib.hid (Hx0.out.kept hbn)
  replace Hg1 := Lib.hid (Hg1.out.kept hbn)
  replace HB := Lib.hid (HB.out.trans (hbn.mono HB.out.size))
  have Hu2 := Lib.hid hq.tight
  clear hb hq hbn HC
  have HC : Hid (∀ W, Below w6.heap.size w6 W → Calls Try.prog 16 #[x0, u2] W fun e w' => e = .returned (.bool true) ∧ Below W.heap.size W w') := fun W hW => eqIntS_any _ _ s _ _ W (Hx0.out.kept hW).weak (Hu2.out.kept hW).weak
  go_wp2_with fail
  refine (HC.out _ (by first | exact Below.refl _ _ | exact (Below.refl _ _).alloc (Nat.le_refl _) _ | exact (Below.refl _ _).drew)).mono ?_
  rintro e w7 ⟨rfl, hb⟩
  have hbn : Below w6.heap.size w6 w7 := below_step (by first | exact Below.refl _ _ | exact (Below.refl _ _).alloc (Nat.le_refl _) _ | exact (Below.refl _ _).drew) hb
  have hs7 : Hid (w6.heap.size ≤ w7.heap.size) := hbn.size
  replace HV := Lib.hid (HV.out.kept hbn)
  replace Hu1 := Lib.hid (Hu1.out.kept hbn)
  replace Hg0 := Lib.hid (Hg0.out.kept hbn)
  replace Hx0 := Lib.hid (Hx0.out.kept hbn)
  replace Hg1 := Lib.hid (Hg1.out.kept hbn)
  replace Hu2 := Lib.hid (Hu2.out.kept hbn)
  replace HB := Lib.hid (HB.out.trans (hbn.mono HB.out.size))
  clear hb hbn HC
  obtain ⟨c1, hc1⟩ : ∃ q : Nat, 1 + cntRow Rep.int (s) = q := ⟨_, rfl⟩
  have hnn1 : ¬ ((c1 : Nat) : Int) < 0 := by omega
  have HM := Lib.hid (markIntS_any x0 s 1 1 rfl w.heap.size _ w7 (fun a ha => by have := hs1.out; have := hs2.out; have := hs3.out; have := hs4.out; have := hs5.out; have := hs6.out; have := hs7.out; omega) HCS.out (Nat.le_refl 1) Hx0.out)
  rw [hc1] at HM
  go_wp2_with fail
  refine HM.out.mono ?_
  rintro e w8 ⟨rfl, hq, hu, hb⟩
  have hs8 : Hid (w7.heap.size ≤ w8.heap.size) := hb.size
  replace HV := Lib.hid (HV.out.apart hu (fun a ha hf => by have := hs1.out; have := hs2.out; have := hs3.out; have := hs4.out; have := hs5.out; have := hs6.out; have := hs7.out; have := hs8.out; omega))
  replace Hu1 := Lib.hid (Hu1.out.apart hu (fun a ha hf => by have := hs1.out; have := hs2.out; have := hs3.out; have := hs4.out; have := hs5.out; have := hs6.out; have := hs7.out; have := hs8.out; omega))
  replace Hg0 := Lib.hid (Hg0.out.apart hu (fun a ha hf => by have := hs1.out; have := hs2.out; have := hs3.out; have := hs4.out; have := hs5.out; have := hs6.out; have := hs7.out; have := hs8.out; omega))
  replace Hx0 := Lib.hid hq
  replace Hg1 := Lib.hid (Hg1.out.apart hu (fun a ha hf => by have := hs1.out; have := hs2.out; have := hs3.out; have := hs4.out; have := hs5.out; have := hs6.out; have := hs7.out; have := hs8.out; omega))
  replace Hu2 := Lib.hid (Hu2.out.apart hu (fun a ha hf => by have := hs1.out; have := hs2.out; have := hs3.out; have := hs4.out; have := hs5.out; have := hs6.out; have := hs7.out; have := hs8.out; omega))
  replace HB := Lib.hid (HB.out.trans (hb.mono (by have := hs1.out; have := hs2.out; have := hs3.out; have := hs4.out; have := hs5.out; have := hs6.out; have := hs7.out; have := hs8.out; omega)))
  clear HM hq hu hb
  have HC : Hid (∀ W, Below w8.heap.size w8 W → Calls Try.prog 22 #[g1, g0] W fun e w' => e = .returned (.bool true) ∧ Below W.heap.size W w') := fun W hW => eqFootingS_any _ _ (footFor s) _ _ W (Hg1.out.kept hW).weak (Hg0.out.kept hW).weak
  go_wp2_with fail
  refine (HC.out _ (by first | exact Below.refl _ _ | exact (Below.refl _ _).alloc (Nat.le_refl _) _ | exact (Below.refl _ _).drew)).mono ?_
  rintro e w9 ⟨rfl, hb⟩
  have hbn : Below w8.heap.size w8 w9 := below_step (by first | exact Below.refl _ _ | exact (Below.refl _ _).alloc (Nat.le_refl _) _ | exact (Below.refl _ _).drew) hb
  have hs9 : Hid (w8.heap.size ≤ w9.heap.size) := hbn.size
  replace HV := Lib.hid (HV.out.kept hbn)
  replace Hu1 := Lib.hid (Hu1.out.kept hbn)
  replace Hg0 := Lib.hid (Hg0.out.kept hbn)
  replace Hx0 := Lib.hid (Hx0.out.kept hbn)
  replace Hg1 := Lib.hid (Hg1.out.kept hbn)
  replace Hu2 := Lib.hid (Hu2.out.kept hbn)
  replace HB := Lib.hid (HB.out.trans (hbn.mono HB.out.size))
  clear hb hbn HC
  obtain ⟨c2, hc2⟩ : ∃ q : Nat, 1 + cntRow rFooting (footFor s) = q := ⟨_, rfl⟩
  have hnn2 : ¬ ((c2 : Nat) : Int) < 0 := by omega
  have HM := Lib.hid (markFootingS_any g1 (footFor s) 1 1 rfl w.heap.size _ w9 (fun a ha => by have := hs1.out; have := hs2.out; have := hs3.out; have := hs4.out; have := hs5.out; have := hs6.out; have := hs7.out; have := hs8.out; have := hs9.out; omega) HCG.out (Nat.le_refl 1) Hg1.out)
  rw [hc2] at HM
  go_wp2_with fail
  refine HM.out.mono ?_
  rintro e w10 ⟨rfl, hq, hu, hb⟩
  have hs10 : Hid (w9.heap.size ≤ w10.heap.size) := hb.size
  replace HV := Lib.hid (HV.out.apart hu (fun a ha hf => by have := hs1.out; have := hs2.out; have := hs3.out; have := hs4.out; have := hs5.out; have := hs6.out; have := hs7.out; have := hs8.out; have := hs9.out; have := hs10.out; omega))
  replace Hu1 := Lib.hid (Hu1.out.apart hu (fun a ha hf => by have := hs1.out; have := hs2.out; have := hs3.out; have := hs4.out; have := hs5.out; have := hs6.out; have := hs7.out; have := hs8.out; have := hs9.out; have := hs10.out; omega))
  replace Hg0 := Lib.hid (Hg0.out.apart hu (fun a ha hf => by have := hs1.out; have := hs2.out; have := hs3.out; have := hs4.out; have := hs5.out; have := hs6.out; have := hs7.out; have := hs8.out; have := hs9.out; have := hs10.out; omega))
  replace Hx0 := Lib.hid (Hx0.out.apart hu (fun a ha hf => by have := hs1.out; have := hs2.out; have := hs3.out; have := hs4.out; have := hs5.out; have := hs6.out; have := hs7.out; have := hs8.out; have := hs9.out; have := hs10.out; omega))
  replace Hg1 := Lib.hid hq
  replace Hu2 := Lib.hid (Hu2.out.apart hu (fun a ha hf => by have := hs1.out; have := hs2.out; have := hs3.out; have := hs4.out; have := hs5.out; have := hs6.out; have := hs7.out; have := hs8.out; have := hs9.out; have := hs10.out; omega))
  replace HB := Lib.hid (HB.out.trans (hb.mono (by have := hs1.out; have := hs2.out; have := hs3.out; have := hs4.out; have := hs5.out; have := hs6.out; have := hs7.out; have := hs8.out; have := hs9.out; have := hs10.out; omega)))
  clear HM hq hu hb
  have HC : Hid (∀ W, Below w10.heap.size w10 W → Calls Try.prog 24 #[g1, .int .i64 1] W fun e w' => e = .returned (.int .i64 ((c2 : Nat) : Int)) ∧ Below W.heap.size W w') := fun W hW => by have := heldFootingS_any g1 (footFor s) 1 1 rfl _ W HCG.out (Nat.le_refl 1) (Hg1.out.kept hW).weak; rw [hc2] at this; exact this
  go_wp2_with fail
  refine (HC.out _ (by first | exact Below.refl _ _ | exact (Below.refl _ _).alloc (Nat.le_refl _) _ | exact (Below.refl _ _).drew)).mono ?_
  rintro e w11 ⟨rfl, hb⟩
  have hbn : Below w10.heap.size w10 w11 := below_step (by first | exact Below.refl _ _ | exact (Below.refl _ _).alloc (Nat.le_refl _) _ | exact (Below.refl _ _).drew) hb
  have hs11 : Hid (w10.heap.size ≤ w11.heap.size) := hbn.size
  replace HV := Lib.hid (HV.out.kept hbn)
  replace Hu1 := Lib.hid (Hu1.out.kept hbn)
  replace Hg0 := Lib.hid (Hg0.out.kept hbn)
  replace Hx0 := Lib.hid (Hx0.out.kept hbn)
  replace Hg1 := Lib.hid (Hg1.out.kept hbn)
  replace Hu2 := Lib.hid (Hu2.out.kept hbn)
  replace HB := Lib.hid (HB.out.trans (hbn.mono HB.out.size))
  clear hb hbn HC
  have HC : Hid (∀ W, Below w11.heap.size w11 W → Calls Try.prog 26 #[.slice A s.length cap] W (OwnPost Rep.int (s) W)) := fun W hW => toIntS_any _ s _ W HSZ.out (HV.out.kept hW)
  go_wp2_with fail
  refine (HC.out _ (by first | exact Below.refl _ _ | exact (Below.refl _ _).alloc (Nat.le_refl _) _ | exact (Below.refl _ _).drew)).mono ?_
  rintro e w12 ⟨u3, rfl, hq, hb⟩
  have hbn : Below w11.heap.size w11 w12 := below_step (by first | exact Below.refl _ _ | exact (Below.refl _ _).alloc (Nat.le_refl _) _ | exact (Below.refl _ _).drew) hb
  have hs12 : Hid (w11.heap.size ≤ w12.heap.size) := hbn.size
  replace HV := Lib.hid (HV.out.kept hbn)
  replace Hu1 := Lib.hid (Hu1.out.kept hbn)
  replace Hg0 := Lib.hid (Hg0.out.kept hbn)
  replace Hx0 := Lib.hid (Hx0.out.kept hbn)
  replace Hg1 := Lib.hid (Hg1.out.kept hbn)
  replace Hu2 := Lib.hid (Hu2.out.kept hbn)
  replace HB := Lib.hid (HB.out.trans (hbn.mono HB.out.size))
  have Hu3 := Lib.hid hq.tight
  clear hb hq hbn HC
  have HC : Hid (∀ W, Below w12.heap.size w12 W → Calls Try.prog 27 #[u3] W (OwnPost rFooting (footFor s) W)) := fun W hW => implFFor_any u3 s _ W (Hu3.out.kept hW).weak
  go_wp2_with fail
  refine (HC.out _ (by first | exact Below.refl _ _ | exact (Below.refl _ _).alloc (Nat.le_refl _) _ | exact (Below.refl _ _).drew)).mono ?_
  rintro e w13 ⟨g2, rfl, hq, hb⟩
  have hbn : Below w12.heap.size w12 w13 := below_step (by first | exact Below.refl _ _ | exact (Below.refl _ _).alloc (Nat.le_refl _) _ | exact (Below.refl _ _).drew) hb
  have hs13 : Hid (w12.heap.size ≤ w13.heap.size) := hbn.size
  replace HV := Lib.hid (HV.out.kept hbn)
  replace Hu1 := Lib.hid (Hu1.out.kept hbn)
  replace Hg0 := Lib.hid (Hg0.out.kept hbn)
  replace Hx0 := Lib.hid (Hx0.out.kept hbn)
  replace Hg1 := Lib.hid (Hg1.out.kept hbn)
  replace Hu2 := Lib.hid (Hu2.out.kept hbn)
  replace Hu3 := Lib.hid (Hu3.out.kept hbn)
  replace HB := Lib.hid (HB.out.trans (hbn.mono HB.out.size))
  have Hg2 := Lib.hid hq.tight
  clear hb hq hbn HC
  have HC : Hid (∀ W, Below w13.heap.size w13 W → Calls Try.prog 22 #[g2, g0] W fun e w' => e = .returned (.bool true) ∧ Below W.heap.size W w') := fun W hW => eqFootingS_any _ _ (footFor s) _ _ W (Hg2.out.kept hW).weak (Hg0.out.kept hW).weak
  go_wp2_with fail
  refine (HC.out _ (by first | exact Below.refl _ _ | exact (Below.refl _ _).alloc (Nat.le_refl _) _ | exact (Below.refl _ _).drew)).mono ?_
  rintro e w14 ⟨rfl, hb⟩
  have hbn : Below w13.heap.size w13 w14 := below_step (by first | exact Below.refl _ _ | exact (Below.refl _ _).alloc (Nat.le_refl _) _ | exact (Below.refl _ _).drew) hb
  have hs14 : Hid (w13.heap.size ≤ w14.heap.size) := hbn.size
  replace HV := Lib.hid (HV.out.kept hbn)
  replace Hu1 := Lib.hid (Hu1.out.kept hbn)
  replace Hg0 := Lib.hid (Hg0.out.kept hbn)
  replace Hx0 := Lib.hid (Hx0.out.kept hbn)
  replace Hg1 := Lib.hid (Hg1.out.kept hbn)
  replace Hu2 := Lib.hid (Hu2.out.kept hbn)
  replace Hu3 := Lib.hid (Hu3.out.kept hbn)
  replace Hg2 := Lib.hid (Hg2.out.kept hbn)
  replace HB := Lib.hid (HB.out.trans (hbn.mono HB.out.size))
  clear hb hbn HC
  have HC : Hid (∀ W, Below w14.heap.size w14 W → Calls Try.prog 24 #[g1, .int .i64 1] W fun e w' => e = .returned (.int .i64 ((c2 : Nat) : Int)) ∧ Below W.heap.size W w') := fun W hW => by have := heldFootingS_any g1 (footFor s) 1 1 rfl _ W HCG.out (Nat.le_refl 1) (Hg1.out.kept hW).weak; rw [hc2] at this; exact this
  go_wp2_with fail
  refine (HC.out _ (by first | exact Below.refl _ _ | exact (Below.refl _ _).alloc (Nat.le_refl _) _ | exact (Below.refl _ _).drew)).mono ?_
  rintro e w15 ⟨rfl, hb⟩
  have hbn : Below w14.heap.size w14 w15 := below_step (by first | exact Below.refl _ _ | exact (Below.refl _ _).alloc (Nat.le_refl _) _ | exact (Below.refl _ _).drew) hb
  have hs15 : Hid (w14.heap.size ≤ w15.heap.size) := hbn.size
  replace HV := Lib.hid (HV.out.kept hbn)
  replace Hu1 := Lib.hid (Hu1.out.kept hbn)
  replace Hg0 := Lib.hid (Hg0.out.kept hbn)
  replace Hx0 := Lib.hid (Hx0.out.kept hbn)
  replace Hg1 := Lib.hid (Hg1.out.kept hbn)
  replace Hu2 := Lib.hid (Hu2.out.kept hbn)
  replace Hu3 := Lib.hid (Hu3.out.kept hbn)
  replace Hg2 := Lib.hid (Hg2.out.kept hbn)
  replace HB := Lib.hid (HB.out.trans (hbn.mono HB.out.size))
  clear hb hbn HC
  go_wp2
  go_ret
  exact ⟨rfl, HB.out⟩
end Go.Proofs.Ytifmcbhgoncgjaa.fnExactFootingsFor
