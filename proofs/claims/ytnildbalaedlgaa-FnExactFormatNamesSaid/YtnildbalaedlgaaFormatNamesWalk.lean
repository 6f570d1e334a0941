/- The walk of FnExactFormatNames: it returns true at every argument. -/
import Derived.Test.YtnildbalaedlgaaFo10
import Derived.Test.YtnildbalaedlgaaTzStringS
import Derived.Test.YtnildbalaedlgaaTtStringS
import Derived.Test.YtnildbalaedlgaaTeStringS
import Derived.Test.YtnildbalaedlgaaOpS
namespace Go.Proofs.Ytnildbalaedlgaa.fnExactFormatNames
set_option maxRecDepth 100000
open Go.RowKit Go.Proofs.Ytnildbalaedlgaa
set_option linter.unusedVariables false

set_option maxHeartbeats 4000000 in
theorem walk (w : World) (v : Value) (l : List ByteArray) (F : Addr → Prop) (hv : RowRd (Rep.str mkT) false w v l F) :
    Calls Try.prog 8 #[v] w fun e w' => e = .returned (.bool true) ∧ Below w.heap.size w w' := by
  obtain ⟨A, cap, rfl⟩ := hv.form
  have hmx := hv.max
  have HV := Lib.hid hv.tight
  clear hv
  have HB := Lib.hid (Below.refl w.heap.size w)
  go_enter Try.func8, Try.ntmps8
  have HC : Hid (∀ W, Below w.heap.size w W → Calls Try.prog 20 #[.slice A l.length cap, .int .i64 1048576] W fun e w' => (∃ z : Int, e = .returned (.int .i64 z) ∧ (z < 0 ∨ z + (szRow (Rep.str mkT) l : Nat) = 1048576 ∧ 0 ≤ z)) ∧ Below W.heap.size W w') := fun W hW => szStringS_any _ l 1048576 _ W (by omega) (by omega) (HV.out.kept hW)
  go_wp2_with fail
  refine (HC.out _ (by first | exact Below.refl _ _ | exact (Below.refl _ _).alloc (Nat.le_refl _) _ | exact (Below.refl _ _).drew)).mono ?_
  rintro e w1 ⟨⟨z, rfl, hz⟩, hb⟩
  have hbn : Below w.heap.size w w1 := below_step (by first | exact Below.refl _ _ | exact (Below.refl _ _).alloc (Nat.le_refl _) _ | exact (Below.refl _ _).drew) hb
  have hs1 : Hid (w.heap.size ≤ w1.heap.size) := hbn.size
  replace HV := Lib.hid (HV.out.kept hbn)
  replace HB := Lib.hid (HB.out.trans (hbn.mono HB.out.size))
  clear hb hbn HC
  by_cases hneg : z < 0
  case pos =>
    go_wp2
    go_ret
    exact ⟨rfl, HB.out⟩
  have HSZ : Hid (szRow (Rep.str mkT) l ≤ 1048576) := by unfold Hid; have := hz.resolve_left hneg; omega
  have HL : Hid (l.length ≤ 1000000000) := by unfold Hid; have h1 := HSZ.out; have := szRow_len (Rep.str mkT) l; omega
  clear hz
  have HC : Hid (∀ W, Below w1.heap.size w1 W → Calls Try.prog 22 #[.slice A l.length cap] W (OwnPostS l W)) := fun W hW => toStringS_any _ l _ W HSZ.out (HV.out.kept hW)
  go_wp2_with fail
  refine (HC.out _ (by first | exact Below.refl _ _ | exact (Below.refl _ _).alloc (Nat.le_refl _) _ | exact (Below.refl _ _).drew)).mono ?_
  rintro e w2 ⟨Au1, rfl, hq, hb⟩
  have hbn : Below w1.heap.size w1 w2 := below_step (by first | exact Below.refl _ _ | exact (Below.refl _ _).alloc (Nat.le_refl _) _ | exact (Below.refl _ _).drew) hb
  have hs2 : Hid (w1.heap.size ≤ w2.heap.size) := hbn.size
  replace HV := Lib.hid (HV.out.kept hbn)
  replace HB := Lib.hid (HB.out.trans (hbn.mono HB.out.size))
  have Hu1 := Lib.hid hq.tight
  clear hb hq hbn HC
  have HC : Hid (∀ W, Below w2.heap.size w2 W → Calls Try.prog 27 #[.slice Au1 l.length l.length] W fun e w' => e = .returned (Value.string (fmtN l)) ∧ Below W.heap.size W w') := fun W hW => specFmtN_any mkT l _ _ _ W HL.out (Nat.le_refl _) (Hu1.out.kept hW).weak
  go_wp2_with fail
  refine (HC.out _ (by first | exact Below.refl _ _ | exact (Below.refl _ _).alloc (Nat.le_refl _) _ | exact (Below.refl _ _).drew)).mono ?_
  rintro e w3 ⟨rfl, hb⟩
  have hbn : Below w2.heap.size w2 w3 := below_step (by first | exact Below.refl _ _ | exact (Below.refl _ _).alloc (Nat.le_refl _) _ | exact (Below.refl _ _).drew) hb
  have hs3 : Hid (w2.heap.size ≤ w3.heap.size) := hbn.size
  replace HV := Lib.hid (HV.out.kept hbn)
  replace Hu1 := Lib.hid (Hu1.out.kept hbn)
  replace HB := Lib.hid (HB.out.trans (hbn.mono HB.out.size))
  clear hb hbn HC
  have HC : Hid (∀ W, Below w3.heap.size w3 W → Calls Try.prog 22 #[.slice A l.length cap] W (OwnPostS l W)) := fun W hW => toStringS_any _ l _ W HSZ.out (HV.out.kept hW)
  go_wp2_with fail
  refine (HC.out _ (by first | exact Below.refl _ _ | exact (Below.refl _ _).alloc (Nat.le_refl _) _ | exact (Below.refl _ _).drew)).mono ?_
  rintro e w4 ⟨Ax0, rfl, hq, hb⟩
  have hbn : Below w3.heap.size w3 w4 := below_step (by first | exact Below.refl _ _ | exact (Below.refl _ _).alloc (Nat.le_refl _) _ | exact (Below.refl _ _).drew) hb
  have hs4 : Hid (w3.heap.size ≤ w4.heap.size) := hbn.size
  replace HV := Lib.hid (HV.out.kept hbn)
  replace Hu1 := Lib.hid (Hu1.out.kept hbn)
  replace HB := Lib.hid (HB.out.trans (hbn.mono HB.out.size))
  have Hx0 := Lib.hid hq.tight
  clear hb hq hbn HC
  have HC : Hid (∀ W, Below w4.heap.size w4 W → Calls Try.prog 28 #[.slice Ax0 l.length l.length] W fun e w' => e = .returned (Value.string (fmtN l)) ∧ Below W.heap.size W w') := fun W hW => implFmtN_any mkT l _ _ _ W HL.out (Nat.le_refl _) (Hx0.out.kept hW).weak
  go_wp2_with fail
  refine (HC.out _ (by first | exact Below.refl _ _ | exact (Below.refl _ _).alloc (Nat.le_refl _) _ | exact (Below.refl _ _).drew)).mono ?_
  rintro e w5 ⟨rfl, hb⟩
  have hbn : Below w4.heap.size w4 w5 := below_step (by first | exact Below.refl _ _ | exact (Below.refl _ _).alloc (Nat.le_refl _) _ | exact (Below.refl _ _).drew) hb
  have hs5 : Hid (w4.heap.size ≤ w5.heap.size) := hbn.size
  replace HV := Lib.hid (HV.out.kept hbn)
  replace Hu1 := Lib.hid (Hu1.out.kept hbn)
  replace Hx0 := Lib.hid (Hx0.out.kept hbn)
  replace HB := Lib.hid (HB.out.trans (hbn.mono HB.out.size))
  clear hb hbn HC
  generalize fmtN l = bb at *
  have HC : Hid (∀ W, Below w5.heap.size w5 W → Calls Try.prog 22 #[.slice A l.length cap] W (OwnPostS l W)) := fun W hW => toStringS_any _ l _ W HSZ.out (HV.out.kept hW)
  go_wp2_with fail
  refine (HC.out _ (by first | exact Below.refl _ _ | exact (Below.refl _ _).alloc (Nat.le_refl _) _ | exact (Below.refl _ _).drew)).mono ?_
  rintro e w6 ⟨Au2, rfl, hq, hb⟩
  have hbn : Below w5.heap.size w5 w6 := below_step (by first | exact Below.refl _ _ | exact (Below.refl _ _).alloc (Nat.le_refl _) _ | exact (Below.refl _ _).drew) hb
  have hs6 : Hid (w5.heap.size ≤ w6.heap.size) := hbn.size
  replace HV := Lib.hid (HV.out.kept hbn)
  replace Hu1 := Lib.hid (Hu1.out.kept hbn)
  replace Hx0 := Lib.hid (Hx0.out.kept hbn)
  replace HB := Lib.hid (HB.out.trans (hbn.mono HB.out.size))
  have Hu2 := Lib.hid hq.tight
  clear hb hq hbn HC
  have HC : Hid (∀ W, Below w6.heap.size w6 W → Calls Try.prog 24 #[.slice Ax0 l.length l.length, .slice Au2 l.length l.length] W fun e w' => e = .returned (.bool true) ∧ Below W.heap.size W w') := fun W hW => eqStrs_any _ _ l _ _ W (Hx0.out.kept hW).weak (Hu2.out.kept hW).weak
  go_wp2_with fail
  refine (HC.out _ (by first | exact Below.refl _ _ | exact (Below.refl _ _).alloc (Nat.le_refl _) _ | exact (Below.refl _ _).drew)).mono ?_
  rintro e w7 ⟨rfl, hb⟩
  have hbn : Below w6.heap.size w6 w7 := below_step (by first | exact Below.refl _ _ | exact (Below.refl _ _).alloc (Nat.le_refl _) _ | exact (Below.refl _ _).drew) hb
  have hs7 : Hid (w6.heap.size ≤ w7.heap.size) := hbn.size
  replace HV := Lib.hid (HV.out.kept hbn)
  replace Hu1 := Lib.hid (Hu1.out.kept hbn)
  replace Hx0 := Lib.hid (Hx0.out.kept hbn)
  replace Hu2 := Lib.hid (Hu2.out.kept hbn)
  replace HB := Lib.hid (HB.out.trans (hbn.mono HB.out.size))
  clear hb hbn HC
  go_wp2
  go_ret
  exact ⟨rfl, HB.out⟩
end Go.Proofs.Ytnildbalaedlgaa.fnExactFormatNames
