/- The walk of FnExactIsRanking: it returns true at every argument. -/
import Derived.Test.YtnildbalaedlgaaSk12
import Derived.Test.YtnildbalaedlgaaIk12
import Derived.Test.YtnildbalaedlgaaTtIntS
import Derived.Test.YtnildbalaedlgaaTeIntS
namespace Go.Proofs.Ytnildbalaedlgaa.fnExactIsRanking
set_option maxRecDepth 100000
open Go.RowKit Go.Proofs.Ytnildbalaedlgaa
set_option linter.unusedVariables false

set_option maxHeartbeats 4000000 in
theorem walk (w : World) (vr : Value) (r : List Int) (Fr : Addr → Prop) (hvr : RowRd Rep.int false w vr r Fr) (n : Int) (hn : I64 n) :
    Calls Try.prog 3 #[vr, .int .i64 n] w fun e w' => e = .returned (.bool true) ∧ Below w.heap.size w w' := by
  obtain ⟨Ar, kr, rfl⟩ := hvr.form
  have hmr := hvr.max
  have HVr := Lib.hid hvr.tight
  clear hvr
  have HIn := Lib.hid hn
  unfold I64 at hn
  have HB := Lib.hid (Below.refl w.heap.size w)
  by_cases hlenr : r.length ≤ 1048576
  case neg =>
    have hl2 : (1048576 : Int) < (r.length : Int) := by omega
    go_enter Try.func3, Try.ntmps3
    go_wp2
    go_ret
    exact ⟨rfl, HB.out⟩
  have HSZr : Hid (szRow Rep.int r ≤ 1048576) := by unfold Hid; rw [szRow_flat _ (fun _ => rfl)]; exact hlenr
  have hl2r : ¬ (1048576 : Int) < (r.length : Int) := by omega
  go_enter Try.func3, Try.ntmps3
  have HC : Hid (∀ W, Below w.heap.size w W → Calls Try.prog 10 #[.slice Ar r.length kr] W (OwnPost Rep.int (r) W)) := fun W hW => toIntS_any _ r _ W HSZr.out (HVr.out.kept hW)
  go_wp2_with fail
  refine (HC.out _ (by first | exact Below.refl _ _ | exact (Below.refl _ _).alloc (Nat.le_refl _) _ | exact (Below.refl _ _).drew)).mono ?_
  rintro e w1 ⟨ur, rfl, hq, hb⟩
  have hbn : Below w.heap.size w w1 := below_step (by first | exact Below.refl _ _ | exact (Below.refl _ _).alloc (Nat.le_refl _) _ | exact (Below.refl _ _).drew) hb
  have hs1 : Hid (w.heap.size ≤ w1.heap.size) := hbn.size
  replace HVr := Lib.hid (HVr.out.kept hbn)
  replace HB := Lib.hid (HB.out.trans (hbn.mono HB.out.size))
  have Hur := Lib.hid hq.tight
  clear hb hq hbn HC
  have HC : Hid (∀ W, Below w1.heap.size w1 W → Calls Try.prog 9 #[ur, .int .i64 n] W fun e w' => e = .returned (.bool (rkB r n)) ∧ Below W.heap.size W w') := fun W hW => specRk_any r n _ _ W HIn.out (Hur.out.kept hW).weak
  go_wp2_with fail
  refine (HC.out _ (by first | exact Below.refl _ _ | exact (Below.refl _ _).alloc (Nat.le_refl _) _ | exact (Below.refl _ _).drew)).mono ?_
  rintro e w2 ⟨rfl, hb⟩
  have hbn : Below w1.heap.size w1 w2 := below_step (by first | exact Below.refl _ _ | exact (Below.refl _ _).alloc (Nat.le_refl _) _ | exact (Below.refl _ _).drew) hb
  have hs2 : Hid (w1.heap.size ≤ w2.heap.size) := hbn.size
  replace HVr := Lib.hid (HVr.out.kept hbn)
  replace Hur := Lib.hid (Hur.out.kept hbn)
  replace HB := Lib.hid (HB.out.trans (hbn.mono HB.out.size))
  clear hb hbn HC
  have HC : Hid (∀ W, Below w2.heap.size w2 W → Calls Try.prog 10 #[.slice Ar r.length kr] W (OwnPost Rep.int (r) W)) := fun W hW => toIntS_any _ r _ W HSZr.out (HVr.out.kept hW)
  go_wp2_with fail
  refine (HC.out _ (by first | exact Below.refl _ _ | exact (Below.refl _ _).alloc (Nat.le_refl _) _ | exact (Below.refl _ _).drew)).mono ?_
  rintro e w3 ⟨xr, rfl, hq, hb⟩
  have hbn : Below w2.heap.size w2 w3 := below_step (by first | exact Below.refl _ _ | exact (Below.refl _ _).alloc (Nat.le_refl _) _ | exact (Below.refl _ _).drew) hb
  have hs3 : Hid (w2.heap.size ≤ w3.heap.size) := hbn.size
  replace HVr := Lib.hid (HVr.out.kept hbn)
  replace Hur := Lib.hid (Hur.out.kept hbn)
  replace HB := Lib.hid (HB.out.trans (hbn.mono HB.out.size))
  have Hxr := Lib.hid hq.tight
  clear hb hq hbn HC
  have HC : Hid (∀ W, Below w3.heap.size w3 W → Calls Try.prog 11 #[xr, .int .i64 n] W fun e w' => e = .returned (.bool (rkB r n)) ∧ Below W.heap.size W w') := fun W hW => (implRk_any r n _ _ W (Hxr.out.kept hW).weak).mono fun e w' h => ⟨h.1, by rw [h.2]; exact Below.refl _ _⟩
  go_wp2_with fail
  refine (HC.out _ (by first | exact Below.refl _ _ | exact (Below.refl _ _).alloc (Nat.le_refl _) _ | exact (Below.refl _ _).drew)).mono ?_
  rintro e w4 ⟨rfl, hb⟩
  have hbn : Below w3.heap.size w3 w4 := below_step (by first | exact Below.refl _ _ | exact (Below.refl _ _).alloc (Nat.le_refl _) _ | exact (Below.refl _ _).drew) hb
  have hs4 : Hid (w3.heap.size ≤ w4.heap.size) := hbn.size
  replace HVr := Lib.hid (HVr.out.kept hbn)
  replace Hur := Lib.hid (Hur.out.kept hbn)
  replace Hxr := Lib.hid (Hxr.out.kept hbn)
  replace HB := Lib.hid (HB.out.trans (hbn.mono HB.out.size))
  clear hb hbn HC
  generalize rkB r n = bb at *
  have HC : Hid (∀ W, Below w4.heap.size w4 W → Calls Try.prog 10 #[.slice Ar r.length kr] W (OwnPost Rep.int (r) W)) := fun W hW => toIntS_any _ r _ W HSZr.out (HVr.out.kept hW)
  go_wp2_with fail
  refine (HC.out _ (by first | exact Below.refl _ _ | exact (Below.refl _ _).alloc (Nat.le_refl _) _ | exact (Below.refl _ _).drew)).mono ?_
  rintro e w5 ⟨yr, rfl, hq, hb⟩
  have hbn : Below w4.heap.size w4 w5 := below_step (by first | exact Below.refl _ _ | exact (Below.refl _ _).alloc (Nat.le_refl _) _ | exact (Below.refl _ _).drew) hb
  have hs5 : Hid (w4.heap.size ≤ w5.heap.size) := hbn.size
  replace HVr := Lib.hid (HVr.out.kept hbn)
  replace Hur := Lib.hid (Hur.out.kept hbn)
  replace Hxr := Lib.hid (Hxr.out.kept hbn)
  replace HB := Lib.hid (HB.out.trans (hbn.mono HB.out.size))
  have Hyr := Lib.hid hq.tight
  clear hb hq hbn HC
  have HC : Hid (∀ W, Below w5.heap.size w5 W → Calls Try.prog 12 #[xr, yr] W fun e w' => e = .returned (.bool true) ∧ Below W.heap.size W w') := fun W hW => eqIntS_any _ _ r _ _ W (Hxr.out.kept hW).weak (Hyr.out.kept hW).weak
  go_wp2_with fail
  refine (HC.out _ (by first | exact Below.refl _ _ | exact (Below.refl _ _).alloc (Nat.le_refl _) _ | exact (Below.refl _ _).drew)).mono ?_
  rintro e w6 ⟨rfl, hb⟩
  have hbn : Below w5.heap.size w5 w6 := below_step (by first | exact Below.refl _ _ | exact (Below.refl _ _).alloc (Nat.le_refl _) _ | exact (Below.refl _ _).drew) hb
  have hs6 : Hid (w5.heap.size ≤ w6.heap.size) := hbn.size
  replace HVr := Lib.hid (HVr.out.kept hbn)
  replace Hur := Lib.hid (Hur.out.kept hbn)
  replace Hxr := Lib.hid (Hxr.out.kept hbn)
  replace Hyr := Lib.hid (Hyr.out.kept hbn)
  replace HB := Lib.hid (HB.out.trans (hbn.mono HB.out.size))
  clear hb hbn HC
  go_wp2
  go_ret
  exact ⟨rfl, HB.out⟩
end Go.Proofs.Ytnildbalaedlgaa.fnExactIsRanking
