/- The walk of FnExactAllRankings: it returns true at every argument. -/
import Derived.Test.YtnildbalaedlgaaSa12
import Derived.Test.YtnildbalaedlgaaIa12
import Derived.Test.YtnildbalaedlgaaTeIntSS
import Derived.Test.YtnildbalaedlgaaTmIntSS
import Derived.Test.YtnildbalaedlgaaThIntSS
namespace Go.Proofs.Ytnildbalaedlgaa.fnExactAllRankings
set_option maxRecDepth 100000
open Go.RowKit Go.Proofs.Ytnildbalaedlgaa
set_option linter.unusedVariables false

theorem cntII (l : List (List Int)) (h : ∀ m ∈ l, m.length ≤ 5) : cntRow (Rep.row Rep.int) l ≤ l.length * 6 := by
  induction l with
  | nil => simp [cntRow]
  | cons m l ih =>
    have h1 := ih fun x hx => h x (List.mem_cons_of_mem _ hx)
    have h2 := h m (List.mem_cons_self ..)
    have h3 : (Rep.row Rep.int).cnt m = m.length := cntRow_int m
    unfold cntRow at h1 ⊢
    rw [List.map_cons, List.sum_cons, h3, List.length_cons, Nat.succ_mul]
    omega
theorem HCNT (n : Int) : 1 + cntRow (Rep.row Rep.int) (allR n) ≤ 1000000000 := by
  have h1 := cntII (allR n) fun m hm => allR_mem hm
  have h2 := allR_len n
  omega
set_option maxHeartbeats 4000000 in
theorem walk (w : World) (n : Int) (hn : I64 n) :
    Calls Try.prog 5 #[.int .i64 n] w fun e w' => e = .returned (.bool true) ∧ Below w.heap.size w w' := by
  have HN := Lib.hid hn
  have HB := Lib.hid (Below.refl w.heap.size w)
  have HCG : Hid (1 + cntRow (Rep.row Rep.int) (allR n) ≤ 1000000000) := HCNT n
  go_enter Try.func5, Try.ntmps5
  have HC : Hid (∀ W, Below w.heap.size w W → Calls Try.prog 15 #[.int .i64 n] W (OwnPost (Rep.row Rep.int) (allR n) W)) := fun W hW => specAll_any n W HN.out
  go_wp2_with fail
  refine (HC.out _ (by first | exact Below.refl _ _ | exact (Below.refl _ _).alloc (Nat.le_refl _) _ | exact (Below.refl _ _).drew)).mono ?_
  rintro e w1 ⟨g0, rfl, hq, hb⟩
  have hbn : Below w.heap.size w w1 := below_step (by first | exact Below.refl _ _ | exact (Below.refl _ _).alloc (Nat.le_refl _) _ | exact (Below.refl _ _).drew) hb
  have hs1 : Hid (w.heap.size ≤ w1.heap.size) := hbn.size
  replace HB := Lib.hid (HB.out.trans (hbn.mono HB.out.size))
  have Hg0 := Lib.hid hq.tight
  clear hb hq hbn HC
  have HC : Hid (∀ W, Below w1.heap.size w1 W → Calls Try.prog 16 #[.int .i64 n] W (OwnPost (Rep.row Rep.int) (allR n) W)) := fun W hW => implAll_any n W HN.out
  go_wp2_with fail
  refine (HC.out _ (by first | exact Below.refl _ _ | exact (Below.refl _ _).alloc (Nat.le_refl _) _ | exact (Below.refl _ _).drew)).mono ?_
  rintro e w2 ⟨g1, rfl, hq, hb⟩
  have hbn : Below w1.heap.size w1 w2 := below_step (by first | exact Below.refl _ _ | exact (Below.refl _ _).alloc (Nat.le_refl _) _ | exact (Below.refl _ _).drew) hb
  have hs2 : Hid (w1.heap.size ≤ w2.heap.size) := hbn.size
  replace Hg0 := Lib.hid (Hg0.out.kept hbn)
  replace HB := Lib.hid (HB.out.trans (hbn.mono HB.out.size))
  have Hg1 := Lib.hid hq.tight
  clear hb hq hbn HC
  have HC : Hid (∀ W, Below w2.heap.size w2 W → Calls Try.prog 17 #[g1, g0] W fun e w' => e = .returned (.bool true) ∧ Below W.heap.size W w') := fun W hW => eqIntSS_any _ _ (allR n) _ _ W (Hg1.out.kept hW).weak (Hg0.out.kept hW).weak
  go_wp2_with fail
  refine (HC.out _ (by first | exact Below.refl _ _ | exact (Below.refl _ _).alloc (Nat.le_refl _) _ | exact (Below.refl _ _).drew)).mono ?_
  rintro e w3 ⟨rfl, hb⟩
  have hbn : Below w2.heap.size w2 w3 := below_step (by first | exact Below.refl _ _ | exact (Below.refl _ _).alloc (Nat.le_refl _) _ | exact (Below.refl _ _).drew) hb
  have hs3 : Hid (w2.heap.size ≤ w3.heap.size) := hbn.size
  replace Hg0 := Lib.hid (Hg0.out.kept hbn)
  replace Hg1 := Lib.hid (Hg1.out.kept hbn)
  replace HB := Lib.hid (HB.out.trans (hbn.mono HB.out.size))
  clear hb hbn HC
  obtain ⟨c1, hc1⟩ : ∃ q : Nat, 1 + cntRow (Rep.row Rep.int) (allR n) = q := ⟨_, rfl⟩
  have hnn1 : ¬ ((c1 : Nat) : Int) < 0 := by omega
  have HM := Lib.hid (markIntSS_any g1 (allR n) 1 1 rfl w.heap.size _ w3 (fun a ha => by have := hs1.out; have := hs2.out; have := hs3.out; omega) HCG.out (Nat.le_refl 1) Hg1.out)
  rw [hc1] at HM
  go_wp2_with fail
  refine HM.out.mono ?_
  rintro e w4 ⟨rfl, hq, hu, hb⟩
  have hs4 : Hid (w3.heap.size ≤ w4.heap.size) := hb.size
  replace Hg0 := Lib.hid (Hg0.out.apart hu (fun a ha hf => by have := hs1.out; have := hs2.out; have := hs3.out; have := hs4.out; omega))
  replace Hg1 := Lib.hid hq
  replace HB := Lib.hid (HB.out.trans (hb.mono (by have := hs1.out; have := hs2.out; have := hs3.out; have := hs4.out; omega)))
  clear HM hq hu hb
  have HC : Hid (∀ W, Below w4.heap.size w4 W → Calls Try.prog 19 #[g1, .int .i64 1] W fun e w' => e = .returned (.int .i64 ((c1 : Nat) : Int)) ∧ Below W.heap.size W w') := fun W hW => by have := heldIntSS_any g1 (allR n) 1 1 rfl _ W HCG.out (Nat.le_refl 1) (Hg1.out.kept hW).weak; rw [hc1] at this; exact this
  go_wp2_with fail
  refine (HC.out _ (by first | exact Below.refl _ _ | exact (Below.refl _ _).alloc (Nat.le_refl _) _ | exact (Below.refl _ _).drew)).mono ?_
  rintro e w5 ⟨rfl, hb⟩
  have hbn : Below w4.heap.size w4 w5 := below_step (by first | exact Below.refl _ _ | exact (Below.refl _ _).alloc (Nat.le_refl _) _ | exact (Below.refl _ _).drew) hb
  have hs5 : Hid (w4.heap.size ≤ w5.heap.size) := hbn.size
  replace Hg0 := Lib.hid (Hg0.out.kept hbn)
  replace Hg1 := Lib.hid (Hg1.out.kept hbn)
  replace HB := Lib.hid (HB.out.trans (hbn.mono HB.out.size))
  clear hb hbn HC
  have HC : Hid (∀ W, Below w5.heap.size w5 W → Calls Try.prog 16 #[.int .i64 n] W (OwnPost (Rep.row Rep.int) (allR n) W)) := fun W hW => implAll_any n W HN.out
  go_wp2_with fail
  refine (HC.out _ (by first | exact Below.refl _ _ | exact (Below.refl _ _).alloc (Nat.le_refl _) _ | exact (Below.refl _ _).drew)).mono ?_
  rintro e w6 ⟨g2, rfl, hq, hb⟩
  have hbn : Below w5.heap.size w5 w6 := below_step (by first | exact Below.refl _ _ | exact (Below.refl _ _).alloc (Nat.le_refl _) _ | exact (Below.refl _ _).drew) hb
  have hs6 : Hid (w5.heap.size ≤ w6.heap.size) := hbn.size
  replace Hg0 := Lib.hid (Hg0.out.kept hbn)
  replace Hg1 := Lib.hid (Hg1.out.kept hbn)
  replace HB := Lib.hid (HB.out.trans (hbn.mono HB.out.size))
  have Hg2 := Lib.hid hq.tight
  clear hb hq hbn HC
  have HC : Hid (∀ W, Below w6.heap.size w6 W → Calls Try.prog 17 #[g2, g0] W fun e w' => e = .returned (.bool true) ∧ Below W.heap.size W w') := fun W hW => eqIntSS_any _ _ (allR n) _ _ W (Hg2.out.kept hW).weak (Hg0.out.kept hW).weak
  go_wp2_with fail
  refine (HC.out _ (by first | exact Below.refl _ _ | exact (Below.refl _ _).alloc (Nat.le_refl _) _ | exact (Below.refl _ _).drew)).mono ?_
  rintro e w7 ⟨rfl, hb⟩
  have hbn : Below w6.heap.size w6 w7 := below_step (by first | exact Below.refl _ _ | exact (Below.refl _ _).alloc (Nat.le_refl _) _ | exact (Below.refl _ _).drew) hb
  have hs7 : Hid (w6.heap.size ≤ w7.heap.size) := hbn.size
  replace Hg0 := Lib.hid (Hg0.out.kept hbn)
  replace Hg1 := Lib.hid (Hg1.out.kept hbn)
  replace Hg2 := Lib.hid (Hg2.out.kept hbn)
  replace HB := Lib.hid (HB.out.trans (hbn.mono HB.out.size))
  clear hb hbn HC
  have HC : Hid (∀ W, Below w7.heap.size w7 W → Calls Try.prog 19 #[g1, .int .i64 1] W fun e w' => e = .returned (.int .i64 ((c1 : Nat) : Int)) ∧ Below W.heap.size W w') := fun W hW => by have := heldIntSS_any g1 (allR n) 1 1 rfl _ W HCG.out (Nat.le_refl 1) (Hg1.out.kept hW).weak; rw [hc1] at this; exact this
  go_wp2_with fail
  refine (HC.out _ (by first | exact Below.refl _ _ | exact (Below.refl _ _).alloc (Nat.le_refl _) _ | exact (Below.refl _ _).drew)).mono ?_
  rintro e w8 ⟨rfl, hb⟩
  have hbn : Below w7.heap.size w7 w8 := below_step (by first | exact Below.refl _ _ | exact (Below.refl _ _).alloc (Nat.le_refl _) _ | exact (Below.refl _ _).drew) hb
  have hs8 : Hid (w7.heap.size ≤ w8.heap.size) := hbn.size
  replace Hg0 := Lib.hid (Hg0.out.kept hbn)
  replace Hg1 := Lib.hid (Hg1.out.kept hbn)
  replace Hg2 := Lib.hid (Hg2.out.kept hbn)
  replace HB := Lib.hid (HB.out.trans (hbn.mono HB.out.size))
  clear hb hbn HC
  go_wp2
  go_ret
  exact ⟨rfl, HB.out⟩
end Go.Proofs.Ytnildbalaedlgaa.fnExactAllRankings
