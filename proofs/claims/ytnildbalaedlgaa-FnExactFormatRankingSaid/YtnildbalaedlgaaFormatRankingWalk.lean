/- The walk of FnExactFormatRanking: it returns true at every argument. -/
import Derived.Test.YtnildbalaedlgaaGs12
import Derived.Test.YtnildbalaedlgaaGi12
import Derived.Test.YtnildbalaedlgaaTzStringS
import Derived.Test.YtnildbalaedlgaaTtStringS
import Derived.Test.YtnildbalaedlgaaTeStringS
import Derived.Test.YtnildbalaedlgaaTtIntS
import Derived.Test.YtnildbalaedlgaaTeIntS
import Derived.Test.YtnildbalaedlgaaOpS
namespace Go.Proofs.Ytnildbalaedlgaa.fnExactFormatRanking
set_option maxRecDepth 100000
open Go.RowKit Go.Proofs.Ytnildbalaedlgaa
set_option linter.unusedVariables false

set_option maxHeartbeats 4000000 in
theorem walk (w : World) (v : Value) (l : List ByteArray) (F : Addr → Prop) (hv : RowRd (Rep.str mkT) false w v l F) (vr : Value) (r : List Int) (Fr : Addr → Prop) (hvr : RowRd Rep.int false w vr r Fr) :
    Calls Try.prog 6 #[v, vr] w fun e w' => e = .returned (.bool true) ∧ Below w.heap.size w w' := by
  obtain ⟨A, cap, rfl⟩ := hv.form
  have hmx := hv.max
  have HV := Lib.hid hv.tight
  clear hv
  obtain ⟨Ar, kr, rfl⟩ := hvr.form
  have hmr := hvr.max
  have HVr := Lib.hid hvr.tight
  clear hvr
  have HB := Lib.hid (Below.refl w.heap.size w)
  by_cases hlenr : r.length ≤ 1048576
  case neg =>
    have hl2 : (1048576 : Int) < (r.length : Int) := by omega
    go_enter Try.func6, Try.ntmps6
    go_wp2
    go_ret
    exact ⟨rfl, HB.out⟩
  have HSZr : Hid (szRow Rep.int r ≤ 1048576) := by unfold Hid; rw [szRow_flat _ (fun _ => rfl)]; exact hlenr
  have hl2r : ¬ (1048576 : Int) < (r.length : Int) := by omega
  go_enter Try.func6, Try.ntmps6
  have HC : Hid (∀ W, Below w.heap.size w W → Calls Try.prog 20 #[.slice A l.length cap, .int .i64 1048576] W fun e w' => (∃ z : Int, e = .returned (.int .i64 z) ∧ (z < 0 ∨ z + (szRow (Rep.str mkT) l : Nat) = 1048576 ∧ 0 ≤ z)) ∧ Below W.heap.size W w') := fun W hW => szStringS_any _ l 1048576 _ W (by omega) (by omega) (HV.out.kept hW)
  go_wp2_with fail
  refine (HC.out _ (by first | exact Below.refl _ _ | exact (Below.refl _ _).alloc (Nat.le_refl _) _ | exact (Below.refl _ _).drew)).mono ?_
  rintro e w1 ⟨⟨z, rfl, hz⟩, hb⟩
  have hbn : Below w.heap.size w w1 := below_step (by first | exact Below.refl _ _ | exact (Below.refl _ _).alloc (Nat.le_refl _) _ | exact (Below.refl _ _).drew) hb
  have hs1 : Hid (w.heap.size ≤ w1.heap.size) := hbn.size
  replace HV := Lib.hid (HV.out.kept hbn)
  replace HVr := Lib.hid (HVr.out.kept hbn)
  replace HB := Lib.hid (HB.out.trans (hbn.mono HB.out.size))
  clear hb hbn HC
  by_cases hneg : z < 0
  case pos =>
    go_wp2
    go_ret
    exact ⟨rfl, HB.out⟩
  have HSZ : Hid (szRow (Rep.str mkT) l ≤ 1048576) := by unfold Hid; have := hz.resolve_left hneg; omega
  have HL : Hid (l.length ≤ 1000000000) := by unfold Hid; have h1 := HSZ.out; have := szRow_len (Rep.str mkT) l; omega
  clear hz
  have HC : Hid (∀ W, Below w1.heap.size w1 W → Calls Try.prog 22 #[.slice A l.length cap] W (OwnPostS l W)) := fun W hW => toStringS_any _ l _ W HSZ.out (HV.out.kept hW)
  go_wp2_with fail
  refine (HC.out _ (by first | exact Below.refl _ _ | exact (Below.refl _ _).alloc (Nat.le_refl _) _ | exact (Below.refl _ _).drew)).mono ?_
  rintro e w2 ⟨Au1, rfl, hq, hb⟩
  have hbn : Below w1.heap.size w1 w2 := below_step (by first | exact Below.refl _ _ | exact (Below.refl _ _).alloc (Nat.le_refl _) _ | exact (Below.refl _ _).drew) hb
  have hs2 : Hid (w1.heap.size ≤ w2.heap.size) := hbn.size
  replace HV := Lib.hid (HV.out.kept hbn)
  replace HVr := Lib.hid (HVr.out.kept hbn)
  replace HB := Lib.hid (HB.out.trans (hbn.mono HB.out.size))
  have Hu1 := Lib.hid hq.tight
  clear hb hq hbn HC
  have HC : Hid (∀ W, Below w2.heap.size w2 W → Calls Try.prog 10 #[.slice Ar r.length kr] W (OwnPost Rep.int (r) W)) := fun W hW => toIntS_any _ r _ W HSZr.out (HVr.out.kept hW)
  go_wp2_with fail
  refine (HC.out _ (by first | exact Below.refl _ _ | exact (Below.refl _ _).alloc (Nat.le_refl _) _ | exact (Below.refl _ _).drew)).mono ?_
  rintro e w3 ⟨u2, rfl, hq, hb⟩
  have hbn : Below w2.heap.size w2 w3 := below_step (by first | exact Below.refl _ _ | exact (Below.refl _ _).alloc (Nat.le_refl _) _ | exact (Below.refl _ _).drew) hb
  have hs3 : Hid (w2.heap.size ≤ w3.heap.size) := hbn.size
  replace HV := Lib.hid (HV.out.kept hbn)
  replace HVr := Lib.hid (HVr.out.kept hbn)
  replace Hu1 := Lib.hid (Hu1.out.kept hbn)
  replace HB := Lib.hid (HB.out.trans (hbn.mono HB.out.size))
  have Hu2 := Lib.hid hq.tight
  clear hb hq hbn HC
  have HC : Hid (∀ W, Below w3.heap.size w3 W → Calls Try.prog 21 #[.slice Au1 l.length l.length, u2] W fun e w' => e = .returned (.string (fmtRk l r)) ∧ Below W.heap.size W w') := fun W hW => specFmtRk_any mkT l r _ _ _ _ _ W HL.out (Nat.le_refl _) (Hu1.out.kept hW).weak (Hu2.out.kept hW).weak
  go_wp2_with fail
  refine (HC.out _ (by first | exact Below.refl _ _ | exact (Below.refl _ _).alloc (Nat.le_refl _) _ | exact (Below.refl _ _).drew)).mono ?_
  rintro e w4 ⟨rfl, hb⟩
  have hbn : Below w3.heap.size w3 w4 := below_step (by first | exact Below.refl _ _ | exact (Below.refl _ _).alloc (Nat.le_refl _) _ | exact (Below.refl _ _).drew) hb
  have hs4 : Hid (w3.heap.size ≤ w4.heap.size) := hbn.size
  replace HV := Lib.hid (HV.out.kept hbn)
  replace HVr := Lib.hid (HVr.out.kept hbn)
  replace Hu1 := Lib.hid (Hu1.out.kept hbn)
  replace Hu2 := Lib.hid (Hu2.out.kept hbn)
  replace HB := Lib.hid (HB.out.trans (hbn.mono HB.out.size))
  clear hb hbn HC
  have HC : Hid (∀ W, Below w4.heap.size w4 W → Calls Try.prog 22 #[.slice A l.length cap] W (OwnPostS l W)) := fun W hW => toStringS_any _ l _ W HSZ.out (HV.out.kept hW)
  go_wp2_with fail
  refine (HC.out _ (by first | exact Below.refl _ _ | exact (Below.refl _ _).alloc (Nat.le_refl _) _ | exact (Below.refl _ _).drew)).mono ?_
  rintro e w5 ⟨Ax0, rfl, hq, hb⟩
  have hbn : Below w4.heap.size w4 w5 := below_step (by first | exact Below.refl _ _ | exact (Below.refl _ _).alloc (Nat.le_refl _) _ | exact (Below.refl _ _).drew) hb
  have hs5 : Hid (w4.heap.size ≤ w5.heap.size) := hbn.size
  replace HV := Lib.hid (HV.out.kept hbn)
  replace HVr := Lib.hid (HVr.out.kept hbn)
  replace Hu1 := Lib.hid (Hu1.out.kept hbn)
  replace Hu2 := Lib.hid (Hu2.out.kept hbn)
  replace HB := Lib.hid (HB.out.trans (hbn.mono HB.out.size))
  have Hx0 := Lib.hid hq.tight
  clear hb hq hbn HC
  have HC : Hid (∀ W, Below w5.heap.size w5 W → Calls Try.prog 10 #[.slice Ar r.length kr] W (OwnPost Rep.int (r) W)) := fun W hW => toIntS_any _ r _ W HSZr.out (HVr.out.kept hW)
  go_wp2_with fail
  refine (HC.out _ (by first | exact Below.refl _ _ | exact (Below.refl _ _).alloc (Nat.le_refl _) _ | exact (Below.refl _ _).drew)).mono ?_
  rintro e w6 ⟨x1, rfl, hq, hb⟩
  have hbn : Below w5.heap.size w5 w6 := below_step (by first | exact Below.refl _ _ | exact (Below.refl _ _).alloc (Nat.le_refl _) _ | exact (Below.refl _ _).drew) hb
  have hs6 : Hid (w5.heap.size ≤ w6.heap.size) := hbn.size
  replace HV := Lib.hid (HV.out.kept hbn)
  replace HVr := Lib.hid (HVr.out.kept hbn)
  replace Hu1 := Lib.hid (Hu1.out.kept hbn)
  replace Hu2 := Lib.hid (Hu2.out.kept hbn)
  replace Hx0 := Lib.hid (Hx0.out.kept hbn)
  replace HB := Lib.hid (HB.out.trans (hbn.mono HB.out.size))
  have Hx1 := Lib.hid hq.tight
  clear hb hq hbn HC
  have HC : Hid (∀ W, Below w6.heap.size w6 W → Calls Try.prog 23 #[.slice Ax0 l.length l.length, x1] W fun e w' => e = .returned (.string (fmtRk l r)) ∧ Below W.heap.size W w') := fun W hW => implFmtRk_any mkT l r _ _ _ _ _ W HL.out (Nat.le_refl _) (Hx0.out.kept hW).weak (Hx1.out.kept hW).weak
  go_wp2_with fail
  refine (HC.out _ (by first | exact Below.refl _ _ | exact (Below.refl _ _).alloc (Nat.le_refl _) _ | exact (Below.refl _ _).drew)).mono ?_
  rintro e w7 ⟨rfl, hb⟩
  have hbn : Below w6.heap.size w6 w7 := below_step (by first | exact Below.refl _ _ | exact (Below.refl _ _).alloc (Nat.le_refl _) _ | exact (Below.refl _ _).drew) hb
  have hs7 : Hid (w6.heap.size ≤ w7.heap.size) := hbn.size
  replace HV := Lib.hid (HV.out.kept hbn)
  replace HVr := Lib.hid (HVr.out.kept hbn)
  replace Hu1 := Lib.hid (Hu1.out.kept hbn)
  replace Hu2 := Lib.hid (Hu2.out.kept hbn)
  replace Hx0 := Lib.hid (Hx0.out.kept hbn)
  replace Hx1 := Lib.hid (Hx1.out.kept hbn)
  replace HB := Lib.hid (HB.out.trans (hbn.mono HB.out.size))
  clear hb hbn HC
  generalize fmtRk l r = bb at *
  have HC : Hid (∀ W, Below w7.heap.size w7 W → Calls Try.prog 22 #[.slice A l.length cap] W (OwnPostS l W)) := fun W hW => toStringS_any _ l _ W HSZ.out (HV.out.kept hW)
  go_wp2_with fail
  refine (HC.out _ (by first | exact Below.refl _ _ | exact (Below.refl _ _).alloc (Nat.le_refl _) _ | exact (Below.refl _ _).drew)).mono ?_
  rintro e w8 ⟨Au3, rfl, hq, hb⟩
  have hbn : Below w7.heap.size w7 w8 := below_step (by first | exact Below.refl _ _ | exact (Below.refl _ _).alloc (Nat.le_refl _) _ | exact (Below.refl _ _).drew) hb
  have hs8 : Hid (w7.heap.size ≤ w8.heap.size) := hbn.size
  replace HV := Lib.hid (HV.out.kept hbn)
  replace HVr := Lib.hid (HVr.out.kept hbn)
  replace Hu1 := Lib.hid (Hu1.out.kept hbn)
  replace Hu2 := Lib.hid (Hu2.out.kept hbn)
  replace Hx0 := Lib.hid (Hx0.out.kept hbn)
  replace Hx1 := Lib.hid (Hx1.out.kept hbn)
  replace HB := Lib.hid (HB.out.trans (hbn.mono HB.out.size))
  have Hu3 := Lib.hid hq.tight
  clear hb hq hbn HC
  have HC : Hid (∀ W, Below w8.heap.size w8 W → Calls Try.prog 24 #[.slice Ax0 l.length l.length, .slice Au3 l.length l.length] W fun e w' => e = .returned (.bool true) ∧ Below W.heap.size W w') := fun W hW => eqStrs_any _ _ l _ _ W (Hx0.out.kept hW).weak (Hu3.out.kept hW).weak
  go_wp2_with fail
  refine (HC.out _ (by first | exact Below.refl _ _ | exact (Below.refl _ _).alloc (Nat.le_refl _) _ | exact (Below.refl _ _).drew)).mono ?_
  rintro e w9 ⟨rfl, hb⟩
  have hbn : Below w8.heap.size w8 w9 := below_step (by first | exact Below.refl _ _ | exact (Below.refl _ _).alloc (Nat.le_refl _) _ | exact (Below.refl _ _).drew) hb
  have hs9 : Hid (w8.heap.size ≤ w9.heap.size) := hbn.size
  replace HV := Lib.hid (HV.out.kept hbn)
  replace HVr := Lib.hid (HVr.out.kept hbn)
  replace Hu1 := Lib.hid (Hu1.out.kept hbn)
  replace Hu2 := Lib.hid (Hu2.out.kept hbn)
  replace Hx0 := Lib.hid (Hx0.out.kept hbn)
  replace Hx1 := Lib.hid (Hx1.out.kept hbn)
  replace Hu3 := Lib.hid (Hu3.out.kept hbn)
  replace HB := Lib.hid (HB.out.trans (hbn.mono HB.out.size))
  clear hb hbn HC
  have HC : Hid (∀ W, Below w9.heap.size w9 W → Calls Try.prog 10 #[.slice Ar r.length kr] W (OwnPost Rep.int (r) W)) := fun W hW => toIntS_any _ r _ W HSZr.out (HVr.out.kept hW)
  go_wp2_with fail
  refine (HC.out _ (by first | exact Below.refl _ _ | exact (Below.refl _ _).alloc (Nat.le_refl _) _ | exact (Below.refl _ _).drew)).mono ?_
  rintro e w10 ⟨u4, rfl, hq, hb⟩
  have hbn : Below w9.heap.size w9 w10 := below_step (by first | exact Below.refl _ _ | exact (Below.refl _ _).alloc (Nat.le_refl _) _ | exact (Below.refl _ _).drew) hb
  have hs10 : Hid (w9.heap.size ≤ w10.heap.size) := hbn.size
  replace HV := Lib.hid (HV.out.kept hbn)
  replace HVr := Lib.hid (HVr.out.kept hbn)
  replace Hu1 := Lib.hid (Hu1.out.kept hbn)
  replace Hu2 := Lib.hid (Hu2.out.kept hbn)
  replace Hx0 := Lib.hid (Hx0.out.kept hbn)
  replace Hx1 := Lib.hid (Hx1.out.kept hbn)
  replace Hu3 := Lib.hid (Hu3.out.kept hbn)
  replace HB := Lib.hid (HB.out.trans (hbn.mono HB.out.size))
  have Hu4 := Lib.hid hq.tight
  clear hb hq hbn HC
  have HC : Hid (∀ W, Below w10.heap.size w10 W → Calls Try.prog 12 #[x1, u4] W fun e w' => e = .returned (.bool true) ∧ Below W.heap.size W w') := fun W hW => eqIntS_any _ _ r _ _ W (Hx1.out.kept hW).weak (Hu4.out.kept hW).weak
  go_wp2_with fail
  refine (HC.out _ (by first | exact Below.refl _ _ | exact (Below.refl _ _).alloc (Nat.le_refl _) _ | exact (Below.refl _ _).drew)).mono ?_
  rintro e w11 ⟨rfl, hb⟩
  have hbn : Below w10.heap.size w10 w11 := below_step (by first | exact Below.refl _ _ | exact (Below.refl _ _).alloc (Nat.le_refl _) _ | exact (Below.refl _ _).drew) hb
  have hs11 : Hid (w10.heap.size ≤ w11.heap.size) := hbn.size
  replace HV := Lib.hid (HV.out.kept hbn)
  replace HVr := Lib.hid (HVr.out.kept hbn)
  replace Hu1 := Lib.hid (Hu1.out.kept hbn)
  replace Hu2 := Lib.hid (Hu2.out.kept hbn)
  replace Hx0 := Lib.hid (Hx0.out.kept hbn)
  replace Hx1 := Lib.hid (Hx1.out.kept hbn)
  replace Hu3 := Lib.hid (Hu3.out.kept hbn)
  replace Hu4 := Lib.hid (Hu4.out.kept hbn)
  replace HB := Lib.hid (HB.out.trans (hbn.mono HB.out.size))
  clear hb hbn HC
  go_wp2
  go_ret
  exact ⟨rfl, HB.out⟩
end Go.Proofs.Ytnildbalaedlgaa.fnExactFormatRanking
