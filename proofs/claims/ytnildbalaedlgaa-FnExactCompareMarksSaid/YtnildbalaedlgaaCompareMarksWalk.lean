/- The walk of FnExactCompareMarks: it returns true at every argument. -/
import Derived.Test.YtnildbalaedlgaaCs12
import Derived.Test.YtnildbalaedlgaaCi12
import Derived.Test.YtnildbalaedlgaaTtIntS
import Derived.Test.YtnildbalaedlgaaTeIntS
namespace Go.Proofs.Ytnildbalaedlgaa.fnExactCompareMarks
set_option maxRecDepth 100000
open Go.RowKit Go.Proofs.Ytnildbalaedlgaa
set_option linter.unusedVariables false

set_option maxHeartbeats 4000000 in
theorem walk (w : World) (va : Value) (a : List Int) (Fa : Addr → Prop) (hva : RowRd Rep.int false w va a Fa) (vb : Value) (b : List Int) (Fb : Addr → Prop) (hvb : RowRd Rep.int false w vb b Fb) (vr : Value) (r : List Int) (Fr : Addr → Prop) (hvr : RowRd Rep.int false w vr r Fr) :
    Calls Try.prog 4 #[va, vb, vr] w fun e w' => e = .returned (.bool true) ∧ Below w.heap.size w w' := by
  obtain ⟨Aa, ka, rfl⟩ := hva.form
  have hma := hva.max
  have HVa := Lib.hid hva.tight
  clear hva
  obtain ⟨Ab, kb, rfl⟩ := hvb.form
  have hmb := hvb.max
  have HVb := Lib.hid hvb.tight
  clear hvb
  obtain ⟨Ar, kr, rfl⟩ := hvr.form
  have hmr := hvr.max
  have HVr := Lib.hid hvr.tight
  clear hvr
  have HB := Lib.hid (Below.refl w.heap.size w)
  by_cases hlena : a.length ≤ 1048576
  case neg =>
    have hl2 : (1048576 : Int) < (a.length : Int) := by omega
    go_enter Try.func4, Try.ntmps4
    go_wp2
    go_ret
    exact ⟨rfl, HB.out⟩
  have HSZa : Hid (szRow Rep.int a ≤ 1048576) := by unfold Hid; rw [szRow_flat _ (fun _ => rfl)]; exact hlena
  have hl2a : ¬ (1048576 : Int) < (a.length : Int) := by omega
  by_cases hlenb : b.length ≤ 1048576
  case neg =>
    have hl2 : (1048576 : Int) < (b.length : Int) := by omega
    go_enter Try.func4, Try.ntmps4
    go_wp2
    go_ret
    exact ⟨rfl, HB.out⟩
  have HSZb : Hid (szRow Rep.int b ≤ 1048576) := by unfold Hid; rw [szRow_flat _ (fun _ => rfl)]; exact hlenb
  have hl2b : ¬ (1048576 : Int) < (b.length : Int) := by omega
  by_cases hlenr : r.length ≤ 1048576
  case neg =>
    have hl2 : (1048576 : Int) < (r.length : Int) := by omega
    go_enter Try.func4, Try.ntmps4
    go_wp2
    go_ret
    exact ⟨rfl, HB.out⟩
  have HSZr : Hid (szRow Rep.int r ≤ 1048576) := by unfold Hid; rw [szRow_flat _ (fun _ => rfl)]; exact hlenr
  have hl2r : ¬ (1048576 : Int) < (r.length : Int) := by omega
  go_enter Try.func4, Try.ntmps4
  have HC : Hid (∀ W, Below w.heap.size w W → Calls Try.prog 10 #[.slice Aa a.length ka] W (OwnPost Rep.int (a) W)) := fun W hW => toIntS_any _ a _ W HSZa.out (HVa.out.kept hW)
  go_wp2_with fail
  refine (HC.out _ (by first | exact Below.refl _ _ | exact (Below.refl _ _).alloc (Nat.le_refl _) _ | exact (Below.refl _ _).drew)).mono ?_
  rintro e w1 ⟨ua, rfl, hq, hb⟩
  have hbn : Below w.heap.size w w1 := below_step (by first | exact Below.refl _ _ | exact (Below.refl _ _).alloc (Nat.le_refl _) _ | exact (Below.refl _ _).drew) hb
  have hs1 : Hid (w.heap.size ≤ w1.heap.size) := hbn.size
  replace HVa := Lib.hid (HVa.out.kept hbn)
  replace HVb := Lib.hid (HVb.out.kept hbn)
  replace HVr := Lib.hid (HVr.out.kept hbn)
  replace HB := Lib.hid (HB.out.trans (hbn.mono HB.out.size))
  have Hua := Lib.hid hq.tight
  clear hb hq hbn HC
  have HC : Hid (∀ W, Below w1.heap.size w1 W → Calls Try.prog 10 #[.slice Ab b.length kb] W (OwnPost Rep.int (b) W)) := fun W hW => toIntS_any _ b _ W HSZb.out (HVb.out.kept hW)
  go_wp2_with fail
  refine (HC.out _ (by first | exact Below.refl _ _ | exact (Below.refl _ _).alloc (Nat.le_refl _) _ | exact (Below.refl _ _).drew)).mono ?_
  rintro e w2 ⟨ub, rfl, hq, hb⟩
  have hbn : Below w1.heap.size w1 w2 := below_step (by first | exact Below.refl _ _ | exact (Below.refl _ _).alloc (Nat.le_refl _) _ | exact (Below.refl _ _).drew) hb
  have hs2 : Hid (w1.heap.size ≤ w2.heap.size) := hbn.size
  replace HVa := Lib.hid (HVa.out.kept hbn)
  replace HVb := Lib.hid (HVb.out.kept hbn)
  replace HVr := Lib.hid (HVr.out.kept hbn)
  replace Hua := Lib.hid (Hua.out.kept hbn)
  replace HB := Lib.hid (HB.out.trans (hbn.mono HB.out.size))
  have Hub := Lib.hid hq.tight
  clear hb hq hbn HC
  have HC : Hid (∀ W, Below w2.heap.size w2 W → Calls Try.prog 10 #[.slice Ar r.length kr] W (OwnPost Rep.int (r) W)) := fun W hW => toIntS_any _ r _ W HSZr.out (HVr.out.kept hW)
  go_wp2_with fail
  refine (HC.out _ (by first | exact Below.refl _ _ | exact (Below.refl _ _).alloc (Nat.le_refl _) _ | exact (Below.refl _ _).drew)).mono ?_
  rintro e w3 ⟨ur, rfl, hq, hb⟩
  have hbn : Below w2.heap.size w2 w3 := below_step (by first | exact Below.refl _ _ | exact (Below.refl _ _).alloc (Nat.le_refl _) _ | exact (Below.refl _ _).drew) hb
  have hs3 : Hid (w2.heap.size ≤ w3.heap.size) := hbn.size
  replace HVa := Lib.hid (HVa.out.kept hbn)
  replace HVb := Lib.hid (HVb.out.kept hbn)
  replace HVr := Lib.hid (HVr.out.kept hbn)
  replace Hua := Lib.hid (Hua.out.kept hbn)
  replace Hub := Lib.hid (Hub.out.kept hbn)
  replace HB := Lib.hid (HB.out.trans (hbn.mono HB.out.size))
  have Hur := Lib.hid hq.tight
  clear hb hq hbn HC
  have HC : Hid (∀ W, Below w3.heap.size w3 W → Calls Try.prog 13 #[ua, ub, ur] W fun e w' => e = .returned (.int .i64 (cmpV a b r)) ∧ Below W.heap.size W w') := fun W hW => specCm_any a b r _ _ _ _ _ _ W (Hua.out.kept hW).weak (Hub.out.kept hW).weak (Hur.out.kept hW).weak
  go_wp2_with fail
  refine (HC.out _ (by first | exact Below.refl _ _ | exact (Below.refl _ _).alloc (Nat.le_refl _) _ | exact (Below.refl _ _).drew)).mono ?_
  rintro e w4 ⟨rfl, hb⟩
  have hbn : Below w3.heap.size w3 w4 := below_step (by first | exact Below.refl _ _ | exact (Below.refl _ _).alloc (Nat.le_refl _) _ | exact (Below.refl _ _).drew) hb
  have hs4 : Hid (w3.heap.size ≤ w4.heap.size) := hbn.size
  replace HVa := Lib.hid (HVa.out.kept hbn)
  replace HVb := Lib.hid (HVb.out.kept hbn)
  replace HVr := Lib.hid (HVr.out.kept hbn)
  replace Hua := Lib.hid (Hua.out.kept hbn)
  replace Hub := Lib.hid (Hub.out.kept hbn)
  replace Hur := Lib.hid (Hur.out.kept hbn)
  replace HB := Lib.hid (HB.out.trans (hbn.mono HB.out.size))
  clear hb hbn HC
  have HC : Hid (∀ W, Below w4.heap.size w4 W → Calls Try.prog 10 #[.slice Aa a.length ka] W (OwnPost Rep.int (a) W)) := fun W hW => toIntS_any _ a _ W HSZa.out (HVa.out.kept hW)
  go_wp2_with fail
  refine (HC.out _ (by first | exact Below.refl _ _ | exact (Below.refl _ _).alloc (Nat.le_refl _) _ | exact (Below.refl _ _).drew)).mono ?_
  rintro e w5 ⟨xa, rfl, hq, hb⟩
  have hbn : Below w4.heap.size w4 w5 := below_step (by first | exact Below.refl _ _ | exact (Below.refl _ _).alloc (Nat.le_refl _) _ | exact (Below.refl _ _).drew) hb
  have hs5 : Hid (w4.heap.size ≤ w5.heap.size) := hbn.size
  replace HVa := Lib.hid (HVa.out.kept hbn)
  replace HVb := Lib.hid (HVb.out.kept hbn)
  replace HVr := Lib.hid (HVr.out.kept hbn)
  replace Hua := Lib.hid (Hua.out.kept hbn)
  replace Hub := Lib.hid (Hub.out.kept hbn)
  replace Hur := Lib.hid (Hur.out.kept hbn)
  replace HB := Lib.hid (HB.out.trans (hbn.mono HB.out.size))
  have Hxa := Lib.hid hq.tight
  clear hb hq hbn HC
  have HC : Hid (∀ W, Below w5.heap.size w5 W → Calls Try.prog 10 #[.slice Ab b.length kb] W (OwnPost Rep.int (b) W)) := fun W hW => toIntS_any _ b _ W HSZb.out (HVb.out.kept hW)
  go_wp2_with fail
  refine (HC.out _ (by first | exact Below.refl _ _ | exact (Below.refl _ _).alloc (Nat.le_refl _) _ | exact (Below.refl _ _).drew)).mono ?_
  rintro e w6 ⟨xb, rfl, hq, hb⟩
  have hbn : Below w5.heap.size w5 w6 := below_step (by first | exact Below.refl _ _ | exact (Below.refl _ _).alloc (Nat.le_refl _) _ | exact (Below.refl _ _).drew) hb
  have hs6 : Hid (w5.heap.size ≤ w6.heap.size) := hbn.size
  replace HVa := Lib.hid (HVa.out.kept hbn)
  replace HVb := Lib.hid (HVb.out.kept hbn)
  replace HVr := Lib.hid (HVr.out.kept hbn)
  replace Hua := Lib.hid (Hua.out.kept hbn)
  replace Hub := Lib.hid (Hub.out.kept hbn)
  replace Hur := Lib.hid (Hur.out.kept hbn)
  replace Hxa := Lib.hid (Hxa.out.kept hbn)
  replace HB := Lib.hid (HB.out.trans (hbn.mono HB.out.size))
  have Hxb := Lib.hid hq.tight
  clear hb hq hbn HC
  have HC : Hid (∀ W, Below w6.heap.size w6 W → Calls Try.prog 10 #[.slice Ar r.length kr] W (OwnPost Rep.int (r) W)) := fun W hW => toIntS_any _ r _ W HSZr.out (HVr.out.kept hW)
  go_wp2_with fail
  refine (HC.out _ (by first | exact Below.refl _ _ | exact (Below.refl _ _).alloc (Nat.le_refl _) _ | exact (Below.refl _ _).drew)).mono ?_
  rintro e w7 ⟨xr, rfl, hq, hb⟩
  have hbn : Below w6.heap.size w6 w7 := below_step (by first | exact Below.refl _ _ | exact (Below.refl _ _).alloc (Nat.le_refl _) _ | exact (Below.refl _ _).drew) hb
  have hs7 : Hid (w6.heap.size ≤ w7.heap.size) := hbn.size
  replace HVa := Lib.hid (HVa.out.kept hbn)
  replace HVb := Lib.hid (HVb.out.kept hbn)
  replace HVr := Lib.hid (HVr.out.kept hbn)
  replace Hua := Lib.hid (Hua.out.kept hbn)
  replace Hub := Lib.hid (Hub.out.kept hbn)
  replace Hur := Lib.hid (Hur.out.kept hbn)
  replace Hxa := Lib.hid (Hxa.out.kept hbn)
  replace Hxb := Lib.hid (Hxb.out.kept hbn)
  replace HB := Lib.hid (HB.out.trans (hbn.mono HB.out.size))
  have Hxr := Lib.hid hq.tight
  clear hb hq hbn HC
  have HC : Hid (∀ W, Below w7.heap.size w7 W → Calls Try.prog 14 #[xa, xb, xr] W fun e w' => e = .returned (.int .i64 (cmpV a b r)) ∧ Below W.heap.size W w') := fun W hW => implCm_any a b r _ _ _ _ _ _ W (Hxa.out.kept hW).weak (Hxb.out.kept hW).weak (Hxr.out.kept hW).weak
  go_wp2_with fail
  refine (HC.out _ (by first | exact Below.refl _ _ | exact (Below.refl _ _).alloc (Nat.le_refl _) _ | exact (Below.refl _ _).drew)).mono ?_
  rintro e w8 ⟨rfl, hb⟩
  have hbn : Below w7.heap.size w7 w8 := below_step (by first | exact Below.refl _ _ | exact (Below.refl _ _).alloc (Nat.le_refl _) _ | exact (Below.refl _ _).drew) hb
  have hs8 : Hid (w7.heap.size ≤ w8.heap.size) := hbn.size
  replace HVa := Lib.hid (HVa.out.kept hbn)
  replace HVb := Lib.hid (HVb.out.kept hbn)
  replace HVr := Lib.hid (HVr.out.kept hbn)
  replace Hua := Lib.hid (Hua.out.kept hbn)
  replace Hub := Lib.hid (Hub.out.kept hbn)
  replace Hur := Lib.hid (Hur.out.kept hbn)
  replace Hxa := Lib.hid (Hxa.out.kept hbn)
  replace Hxb := Lib.hid (Hxb.out.kept hbn)
  replace Hxr := Lib.hid (Hxr.out.kept hbn)
  replace HB := Lib.hid (HB.out.trans (hbn.mono HB.out.size))
  clear hb hbn HC
  generalize cmpV a b r = bb at *
  have HC : Hid (∀ W, Below w8.heap.size w8 W → Calls Try.prog 10 #[.slice Aa a.length ka] W (OwnPost Rep.int (a) W)) := fun W hW => toIntS_any _ a _ W HSZa.out (HVa.out.kept hW)
  go_wp2_with fail
  refine (HC.out _ (by first | exact Below.refl _ _ | exact (Below.refl _ _).alloc (Nat.le_refl _) _ | exact (Below.refl _ _).drew)).mono ?_
  rintro e w9 ⟨ya, rfl, hq, hb⟩
  have hbn : Below w8.heap.size w8 w9 := below_step (by first | exact Below.refl _ _ | exact (Below.refl _ _).alloc (Nat.le_refl _) _ | exact (Below.refl _ _).drew) hb
  have hs9 : Hid (w8.heap.size ≤ w9.heap.size) := hbn.size
  replace HVa := Lib.hid (HVa.out.kept hbn)
  replace HVb := Lib.hid (HVb.out.kept hbn)
  replace HVr := Lib.hid (HVr.out.kept hbn)
  replace Hua := Lib.hid (Hua.out.kept hbn)
  replace Hub := Lib.hid (Hub.out.kept hbn)
  replace Hur := Lib.hid (Hur.out.kept hbn)
  replace Hxa := Lib.hid (Hxa.out.kept hbn)
  replace Hxb := Lib.hid (Hxb.out.kept hbn)
  replace Hxr := Lib.hid (Hxr.out.kept hbn)
  replace HB := Lib.hid (HB.out.trans (hbn.mono HB.out.size))
  have Hya := Lib.hid hq.tight
  clear hb hq hbn HC
  have HC : Hid (∀ W, Below w9.heap.size w9 W → Calls Try.prog 12 #[xa, ya] W fun e w' => e = .returned (.bool true) ∧ Below W.heap.size W w') := fun W hW => eqIntS_any _ _ a _ _ W (Hxa.out.kept hW).weak (Hya.out.kept hW).weak
  go_wp2_with fail
  refine (HC.out _ (by first | exact Below.refl _ _ | exact (Below.refl _ _).alloc (Nat.le_refl _) _ | exact (Below.refl _ _).drew)).mono ?_
  rintro e w10 ⟨rfl, hb⟩
  have hbn : Below w9.heap.size w9 w10 := below_step (by first | exact Below.refl _ _ | exact (Below.refl _ _).alloc (Nat.le_refl _) _ | exact (Below.refl _ _).drew) hb
  have hs10 : Hid (w9.heap.size ≤ w10.heap.size) := hbn.size
  replace HVa := Lib.hid (HVa.out.kept hbn)
  replace HVb := Lib.hid (HVb.out.kept hbn)
  replace HVr := Lib.hid (HVr.out.kept hbn)
  replace Hua := Lib.hid (Hua.out.kept hbn)
  replace Hub := Lib.hid (Hub.out.kept hbn)
  replace Hur := Lib.hid (Hur.out.kept hbn)
  replace Hxa := Lib.hid (Hxa.out.kept hbn)
  replace Hxb := Lib.hid (Hxb.out.kept hbn)
  replace Hxr := Lib.hid (Hxr.out.kept hbn)
  replace Hya := Lib.hid (Hya.out.kept hbn)
  replace HB := Lib.hid (HB.out.trans (hbn.mono HB.out.size))
  clear hb hbn HC
  have HC : Hid (∀ W, Below w10.heap.size w10 W → Calls Try.prog 10 #[.slice Ab b.length kb] W (OwnPost Rep.int (b) W)) := fun W hW => toIntS_any _ b _ W HSZb.out (HVb.out.kept hW)
  go_wp2_with fail
  refine (HC.out _ (by first | exact Below.refl _ _ | exact (Below.refl _ _).alloc (Nat.le_refl _) _ | exact (Below.refl _ _).drew)).mono ?_
  rintro e w11 ⟨yb, rfl, hq, hb⟩
  have hbn : Below w10.heap.size w10 w11 := below_step (by first | exact Below.refl _ _ | exact (Below.refl _ _).alloc (Nat.le_refl _) _ | exact (Below.refl _ _).drew) hb
  have hs11 : Hid (w10.heap.size ≤ w11.heap.size) := hbn.size
  replace HVa := Lib.hid (HVa.out.kept hbn)
  replace HVb := Lib.hid (HVb.out.kept hbn)
  replace HVr := Lib.hid (HVr.out.kept hbn)
  replace Hua := Lib.hid (Hua.out.kept hbn)
  replace Hub := Lib.hid (Hub.out.kept hbn)
  replace Hur := Lib.hid (Hur.out.kept hbn)
  replace Hxa := Lib.hid (Hxa.out.kept hbn)
  replace Hxb := Lib.hid (Hxb.out.kept hbn)
  replace Hxr := Lib.hid (Hxr.out.kept hbn)
  replace Hya := Lib.hid (Hya.out.kept hbn)
  replace HB := Lib.hid (HB.out.trans (hbn.mono HB.out.size))
  have Hyb := Lib.hid hq.tight
  clear hb hq hbn HC
  have HC : Hid (∀ W, Below w11.heap.size w11 W → Calls Try.prog 12 #[xb, yb] W fun e w' => e = .returned (.bool true) ∧ Below W.heap.size W w') := fun W hW => eqIntS_any _ _ b _ _ W (Hxb.out.kept hW).weak (Hyb.out.kept hW).weak
  go_wp2_with fail
  refine (HC.out _ (by first | exact Below.refl _ _ | exact (Below.refl _ _).alloc (Nat.le_refl _) _ | exact (Below.refl _ _).drew)).mono ?_
  rintro e w12 ⟨rfl, hb⟩
  have hbn : Below w11.heap.size w11 w12 := below_step (by first | exact Below.refl _ _ | exact (Below.refl _ _).alloc (Nat.le_refl _) _ | exact (Below.refl _ _).drew) hb
  have hs12 : Hid (w11.heap.size ≤ w12.heap.size) := hbn.size
  replace HVa := Lib.hid (HVa.out.kept hbn)
  replace HVb := Lib.hid (HVb.out.kept hbn)
  replace HVr := Lib.hid (HVr.out.kept hbn)
  replace Hua := Lib.hid (Hua.out.kept hbn)
  replace Hub := Lib.hid (Hub.out.kept hbn)
  replace Hur := Lib.hid (Hur.out.kept hbn)
  replace Hxa := Lib.hid (Hxa.out.kept hbn)
  replace Hxb := Lib.hid (Hxb.out.kept hbn)
  replace Hxr := Lib.hid (Hxr.out.kept hbn)
  replace Hya := Lib.hid (Hya.out.kept hbn)
  replace Hyb := Lib.hid (Hyb.out.kept hbn)
  replace HB := Lib.hid (HB.out.trans (hbn.mono HB.out.size))
  clear hb hbn HC
  have HC : Hid (∀ W, Below w12.heap.size w12 W → Calls Try.prog 10 #[.slice Ar r.length kr] W (OwnPost Rep.int (r) W)) := fun W hW => toIntS_any _ r _ W HSZr.out (HVr.out.kept hW)
  go_wp2_with fail
  refine (HC.out _ (by first | exact Below.refl _ _ | exact (Below.refl _ _).alloc (Nat.le_refl _) _ | exact (Below.refl _ _).drew)).mono ?_
  rintro e w13 ⟨yr, rfl, hq, hb⟩
  have hbn : Below w12.heap.size w12 w13 := below_step (by first | exact Below.refl _ _ | exact (Below.refl _ _).alloc (Nat.le_refl _) _ | exact (Below.refl _ _).drew) hb
  have hs13 : Hid (w12.heap.size ≤ w13.heap.size) := hbn.size
  replace HVa := Lib.hid (HVa.out.kept hbn)
  replace HVb := Lib.hid (HVb.out.kept hbn)
  replace HVr := Lib.hid (HVr.out.kept hbn)
  replace Hua := Lib.hid (Hua.out.kept hbn)
  replace Hub := Lib.hid (Hub.out.kept hbn)
  replace Hur := Lib.hid (Hur.out.kept hbn)
  replace Hxa := Lib.hid (Hxa.out.kept hbn)
  replace Hxb := Lib.hid (Hxb.out.kept hbn)
  replace Hxr := Lib.hid (Hxr.out.kept hbn)
  replace Hya := Lib.hid (Hya.out.kept hbn)
  replace Hyb := Lib.hid (Hyb.out.kept hbn)
  replace HB := Lib.hid (HB.out.trans (hbn.mono HB.out.size))
  have Hyr := Lib.hid hq.tight
  clear hb hq hbn HC
  have HC : Hid (∀ W, Below w13.heap.size w13 W → Calls Try.prog 12 #[xr, yr] W fun e w' => e = .returned (.bool true) ∧ Below W.heap.size W w') := fun W hW => eqIntS_any _ _ r _ _ W (Hxr.out.kept hW).weak (Hyr.out.kept hW).weak
  go_wp2_with fail
  refine (HC.out _ (by first | exact Below.refl _ _ | exact (Below.refl _ _).alloc (Nat.le_refl _) _ | exact (Below.refl _ _).drew)).mono ?_
  rintro e w14 ⟨rfl, hb⟩
  have hbn : Below w13.heap.size w13 w14 := below_step (by first | exact Below.refl _ _ | exact (Below.refl _ _).alloc (Nat.le_refl _) _ | exact (Below.refl _ _).drew) hb
  have hs14 : Hid (w13.heap.size ≤ w14.heap.size) := hbn.size
  replace HVa := Lib.hid (HVa.out.kept hbn)
  replace HVb := Lib.hid (HVb.out.kept hbn)
  replace HVr := Lib.hid (HVr.out.kept hbn)
  replace Hua := Lib.hid (Hua.out.kept hbn)
  replace Hub := Lib.hid (Hub.out.kept hbn)
  replace Hur := Lib.hid (Hur.out.kept hbn)
  replace Hxa := Lib.hid (Hxa.out.kept hbn)
  replace Hxb := Lib.hid (Hxb.out.kept hbn)
  replace Hxr := Lib.hid (Hxr.out.kept hbn)
  replace Hya := Lib.hid (Hya.out.kept hbn)
  replace Hyb := Lib.hid (Hyb.out.kept hbn)
  replace Hyr := Lib.hid (Hyr.out.kept hbn)
  replace HB := Lib.hid (HB.out.trans (hbn.mono HB.out.size))
  clear hb hbn HC
  go_wp2
  go_ret
  exact ⟨rfl, HB.out⟩
end Go.Proofs.Ytnildbalaedlgaa.fnExactCompareMarks
