/- Merged: ProfileOfWalk. -/
import Derived.Test.YtcgmlhlnkbjfnaaDoorQ7
import Derived.Test.YtcgmlhlnkbjfnaaDoorQ8
import Derived.Test.YtcgmlhlnkbjfnaaDoorQ9
import Derived.Test.YtcgmlhlnkbjfnaaDoorQ1
import Derived.Deep.RegionWith
import Derived.Deep.RegionHeld3
import Derived.Deep.DeepCutAuto
/- The walk of FnExactProfileOf: it returns true at every row of texts and every candidate. -/
namespace Go.Proofs.YtcgmlhlnkbjfnaaDoor.fnExactProfileOf
open Go.RowKit Go.Proofs.YtcgmlhlnkbjfnaaDoor
set_option linter.unusedVariables false
set_option linter.unusedSimpArgs false

theorem cnt_strs (l : List ByteArray) : cntRow (Rep.str mkT) l = l.length := by
  unfold cntRow
  induction l with
  | nil => rfl
  | cons a l ih => simp only [List.map_cons, List.sum_cons, List.length_cons] at ih ⊢; rw [ih, show (Rep.str mkT).cnt a = 1 from rfl]; omega
/-- A row of numbers, laid since a world. -/
def RowI (w0 : World) (D : List Int) (v : Value) (w : World) : Prop := RowRd Rep.int true w v D (fun a => w0.heap.size ≤ a.block) ∧ Below w0.heap.size w0 w
theorem bel_alP {w0 w : World} (h : Below w0.heap.size w0 w) (o : Obj) : Below w0.heap.size w0 (w.alloc o) := h.alloc h.size o
theorem sizeAP (w : World) (o : Obj) : (w.alloc o).heap.size = w.heap.size + 1 := by simp
set_option maxRecDepth 4000000 in
set_option maxHeartbeats 16000000 in
theorem walk (w : World) (hT : FeatTab w) (vn : Value) (ns : List ByteArray) (Fn : Addr → Prop) (hn : RowRd (Rep.str mkT) false w vn ns Fn) (x : DCandidate) (F : Addr → Prop) (v : Value) (hv : RowRd rLink false w v x.Links F) :
    Calls Tryd.prog 3 #[vn, .agg #[v]] w fun e w' => e = .returned (.bool true) ∧ Below w.heap.size w w' := by
  obtain ⟨An, capn, rfl⟩ := hn.form
  obtain ⟨Ax, capx, rfl⟩ := hv.form
  have HVn := Lib.hid hn.tight
  have HVx := Lib.hid hv.tight
  have HTW := Lib.hid hT
  clear hn hv hT
  have HB := Lib.hid (Below.refl w.heap.size w)
  go_enter Tryd.func3, Tryd.ntmps3
  have HC : Hid (∀ W, Below w.heap.size w W → Calls Tryd.prog 4 #[.slice An ns.length capn, .int .i64 1048576] W fun e w' => (∃ z : Int, e = .returned (.int .i64 z) ∧ (z < 0 ∨ z + (szRow (Rep.str mkT) ns : Nat) = 1048576 ∧ 0 ≤ z)) ∧ Below W.heap.size W w') := fun W hW => szStringS_any _ ns 1048576 _ W (by omega) (by omega) (HVn.out.kept hW)
  go_wp2_with fail
  refine (HC.out _ (by first | exact Below.refl _ _ | exact (Below.refl _ _).alloc (Nat.le_refl _) _ | exact (Below.refl _ _).drew)).mono ?_
  rintro e w1 ⟨⟨z, rfl, hz⟩, hb⟩
  have hbn : Below w.heap.size w w1 := below_step (by first | exact Below.refl _ _ | exact (Below.refl _ _).alloc (Nat.le_refl _) _ | exact (Below.refl _ _).drew) hb
  have hs1 : Hid (w.heap.size ≤ w1.heap.size) := hbn.size
  replace HVn := Lib.hid (HVn.out.kept hbn)
  replace HVx := Lib.hid (HVx.out.kept hbn)
  replace HB := Lib.hid (HB.out.trans (hbn.mono HB.out.size))
  have HA : Hid (InC w1 w.heap.size #[.slice Ax x.Links.length capx] 25) := (hb.block _ (by simp)).trans (heap_alloc_new _ _)
  have HA0 : Hid (w.heap.size < w1.heap.size) := (HA.out.lt : _ < _)
  clear hb hbn HC
  by_cases hneg : z < 0
  case pos =>
    go_wp2
    go_ret
    exact ⟨rfl, HB.out⟩
  have hz2 := hz.resolve_left hneg
  have HSZn : Hid (szRow (Rep.str mkT) ns ≤ 1048576) := by unfold Hid; omega
  have HFLn : Hid (ns.length ≤ 1048576) := by unfold Hid; have h1 := HSZn.out; have := szRow_len (Rep.str mkT) ns; omega
  have hz0 : 0 ≤ z := hz2.2
  have hz1 : z ≤ 1048576 := by omega
  clear hz hz2
  have HC : Hid (∀ W, Below w1.heap.size w1 W → Calls Tryd.prog 5 #[.agg #[.slice Ax x.Links.length capx], .int .i64 z] W fun e w' => (∃ z2 : Int, e = .returned (.int .i64 z2) ∧ (z2 < 0 ∨ z2 + (rCandidate.sz x : Nat) = z ∧ 0 ≤ z2)) ∧ Below W.heap.size W w') := fun W hW => szCandidate_any x _ z _ W hz0 hz1 (HVx.out.kept hW)
  have bHA := HA.out.cell 0 rfl
  go_wp2_with fail
  refine (HC.out _ (by first | exact Below.refl _ _ | exact (Below.refl _ _).alloc (Nat.le_refl _) _ | exact (Below.refl _ _).drew)).mono ?_
  rintro e w2 ⟨⟨z2, rfl, hzz⟩, hb⟩
  clear bHA
  have hbn : Below w1.heap.size w1 w2 := below_step (by first | exact Below.refl _ _ | exact (Below.refl _ _).alloc (Nat.le_refl _) _ | exact (Below.refl _ _).drew) hb
  have hs2 : Hid (w1.heap.size ≤ w2.heap.size) := hbn.size
  replace HVn := Lib.hid (HVn.out.kept hbn)
  replace HVx := Lib.hid (HVx.out.kept hbn)
  replace HB := Lib.hid (HB.out.trans (hbn.mono HB.out.size))
  replace HA := Lib.hid (HA.out.kept hbn)
  clear hb hbn HC
  by_cases hneg2 : z2 < 0
  case pos =>
    go_wp2
    go_ret
    exact ⟨rfl, HB.out⟩
  have hz3 := hzz.resolve_left hneg2
  have HSZx : Hid (rCandidate.sz x ≤ 1048576) := by unfold Hid; omega
  have HFLx : Hid (x.Links.length ≤ 1048576) := by unfold Hid; have h1 := HSZx.out; rw [rCandidate_sz] at h1; have := szRow_len rLink x.Links; omega
  clear hzz hz3 hz0 hz1
  have HDL : Hid ((profN ns x.Links).length ≤ 5) := profN_len _ _
  have HSP : Hid (∀ (A B : Option Addr) (F G : Addr → Prop) (W : World), RowRd (Rep.str mkT) true W (.slice A ns.length ns.length) ns F → RowRd rLink true W (.slice B x.Links.length x.Links.length) x.Links G → Calls Tryd.prog 6 #[.slice A ns.length ns.length, .agg #[.slice B x.Links.length x.Links.length]] W (IntPost (profN ns x.Links) W)) := fun A B F G W h1 h2 => specProf_any mkT ns A _ _ x _ _ W HFLn.out HFLx.out (Nat.le_refl _) h1.weak h2.weak
  have HIM : Hid (∀ (A B : Option Addr) (F G : Addr → Prop) (W : World), FeatTab W → RowRd (Rep.str mkT) true W (.slice A ns.length ns.length) ns F → RowRd rLink true W (.slice B x.Links.length x.Links.length) x.Links G → Calls Tryd.prog 9 #[.slice A ns.length ns.length, .agg #[.slice B x.Links.length x.Links.length]] W (IntPost (profN ns x.Links) W)) := fun A B F G W hF h1 h2 => implProf_any mkT ns A _ _ x B _ _ W HFLn.out HFLx.out (Nat.le_refl _) (Nat.le_refl _) h1.weak h2.weak hF
  generalize profN ns x.Links = D at *
  have HKC : Hid (∀ W : World, Below w2.heap.size w2 W → W.cell? ⟨w.heap.size, 0, none⟩ = some (.slice Ax x.Links.length capx)) := fun W hW => (HA.out.kept hW).cell 0 rfl
  have HTn : Hid (∀ W, Below w2.heap.size w2 W → Calls Tryd.prog 7 #[.slice An ns.length capn] W fun e w' => ∃ A0, e = .returned (.slice A0 ns.length ns.length) ∧ RowRd (Rep.str mkT) true w' (.slice A0 ns.length ns.length) ns (fun a => W.heap.size ≤ a.block) ∧ Below W.heap.size W w' ∧ Below w2.heap.size w2 w') := fun W hW => (toStringS_any _ ns _ W HSZn.out (HVn.out.kept hW)).mono fun e w' ⟨A0, h1, h2, h3⟩ => ⟨A0, h1, h2, h3, below_step hW h3⟩
  have HTx : Hid (∀ W, Below w2.heap.size w2 W → Calls Tryd.prog 8 #[.agg #[.slice Ax x.Links.length capx]] W fun e w' => ∃ A0, e = .returned (.agg #[.slice A0 x.Links.length x.Links.length]) ∧ RowRd rLink true w' (.slice A0 x.Links.length x.Links.length) x.Links (fun a => W.heap.size ≤ a.block) ∧ Below W.heap.size W w' ∧ Below w2.heap.size w2 w') := fun W hW => (toCandidate_cap x _ W _ (HVx.out.kept hW) HSZx.out).mono fun e w' ⟨A0, h1, h2, h3⟩ => ⟨A0, h1, h2, h3, below_step hW h3⟩
  have HFT : Hid (FeatTab w2) := feat_below HTW.out HB.out
  have ha0 := HA.out.cell 0 rfl
  go_upto_region 8 with fail
  go_cut [6] (fun b wx => ∃ (A0 : Option Addr) (c0 : Nat), b = .slice A0 D.length c0 ∧ RowI w2 D (.slice A0 D.length c0) wx)
  case first =>
    have hbe : Below w2.heap.size w2 w2.drew := (Below.refl _ _).drew
    go_region_held3 (fun w' => w'.cell? ⟨w.heap.size, 0, none⟩ = some (.slice Ax x.Links.length capx))
      (first | with_reducible exact HKC.out _ hbe | exact HKC.out _ hbe | go_keep)
      (first
        | (go_at_call 7; refine (HTn.out _ ?_).mono ?_; (first | with_reducible exact hbe | exact (Below.refl _ _).drew); rintro e wa ⟨A5, rfl, hq5, hs5, hbe⟩; have HQN := Lib.hid hq5; (try have HQX2 := Lib.hid (HQX.out.kept hs5)))
        | (go_at_call 8; refine (HTx.out _ ?_).mono ?_; (first | with_reducible exact hbe | exact (Below.refl _ _).drew); rintro e wb ⟨A6, rfl, hq6, hs6, hbe⟩; have HQX := Lib.hid hq6; have HQX2 := Lib.hid hq6; (try have HQN2 := Lib.hid (HQN.out.kept hs6)))
        | (go_at_call 6; refine (HSP.out A5 A6 _ _ _ (by first | with_reducible exact HQN2.out | exact HQN.out) (by first | with_reducible exact HQX2.out | exact HQX.out)).mono ?_; rintro e wz ⟨u, rfl, hqz, hsz⟩; obtain ⟨A7, c7, rfl⟩ := hqz.form; have HQZ := Lib.hid hqz; have hsz0 := Below.size hbe; have hbe : Below w2.heap.size w2 wz := below_step hbe hsz))
    all_goals
      go_wp2_with fail
      go_meet
      exact ⟨_, _, rfl, HQZ.out.mono (fun a ha => Nat.le_trans hsz0 ha), hbe⟩
  case rest =>
  obtain ⟨A0, c0, rfl, hbr⟩ := hcut
  have hbn : Below w2.heap.size w2 wc := hbr.2
  generalize wc = w3 at *
  have hs3 : Hid (w2.heap.size ≤ w3.heap.size) := hbn.size
  replace HVn := Lib.hid (HVn.out.kept hbn)
  replace HVx := Lib.hid (HVx.out.kept hbn)
  replace HB := Lib.hid (HB.out.trans (hbn.mono HB.out.size))
  replace HA := Lib.hid (HA.out.kept hbn)
  have HW0 : Hid (RowRd Rep.int true w3 (.slice A0 D.length c0) D (fun a => w2.heap.size ≤ a.block ∧ a.block < w3.heap.size)) := hbr.1.tight
  clear HKC HTn HTx HFT hbr hbn ha0
  have HC : Hid (∀ W, Below w3.heap.size w3 W → Calls Tryd.prog 7 #[.slice An ns.length capn] W (OwnPostS ns W)) := fun W hW => toStringS_any _ ns _ W HSZn.out (HVn.out.kept hW)
  have bHA := HA.out.cell 0 rfl
  go_wp2_with fail
  refine (HC.out _ (by first | exact Below.refl _ _ | exact (Below.refl _ _).alloc (Nat.le_refl _) _ | exact (Below.refl _ _).drew)).mono ?_
  rintro e w4 ⟨Ax0, rfl, hq, hb⟩
  clear bHA
  have hbn : Below w3.heap.size w3 w4 := below_step (by first | exact Below.refl _ _ | exact (Below.refl _ _).alloc (Nat.le_refl _) _ | exact (Below.refl _ _).drew) hb
  have hs4 : Hid (w3.heap.size ≤ w4.heap.size) := hbn.size
  replace HVn := Lib.hid (HVn.out.kept hbn)
  replace HVx := Lib.hid (HVx.out.kept hbn)
  replace HB := Lib.hid (HB.out.trans (hbn.mono HB.out.size))
  replace HA := Lib.hid (HA.out.kept hbn)
  replace HW0 := Lib.hid (HW0.out.kept hbn)
  have Hx0 : Hid (RowRd (Rep.str mkT) true w4 (.slice Ax0 ns.length ns.length) ns (fun a => w3.heap.size ≤ a.block ∧ a.block < w4.heap.size)) := hq.tight
  clear hb hbn HC hq
  have HC : Hid (∀ W, Below w4.heap.size w4 W → Calls Tryd.prog 8 #[.agg #[.slice Ax x.Links.length capx]] W fun e w' => ∃ A0, e = .returned (.agg #[.slice A0 x.Links.length x.Links.length]) ∧ RowRd rLink true w' (.slice A0 x.Links.length x.Links.length) x.Links (fun a => W.heap.size ≤ a.block) ∧ Below W.heap.size W w') := fun W hW => toCandidate_cap x _ W _ (HVx.out.kept hW) HSZx.out
  have bHA := HA.out.cell 0 rfl
  go_wp2_with fail
  refine (HC.out _ (by first | exact Below.refl _ _ | exact (Below.refl _ _).alloc (Nat.le_refl _) _ | exact (Below.refl _ _).drew)).mono ?_
  rintro e w5 ⟨Ax1, rfl, hq, hb⟩
  clear bHA
  have hbn : Below w4.heap.size w4 w5 := below_step (by first | exact Below.refl _ _ | exact (Below.refl _ _).alloc (Nat.le_refl _) _ | exact (Below.refl _ _).drew) hb
  have hs5 : Hid (w4.heap.size ≤ w5.heap.size) := hbn.size
  replace HVn := Lib.hid (HVn.out.kept hbn)
  replace HVx := Lib.hid (HVx.out.kept hbn)
  replace HB := Lib.hid (HB.out.trans (hbn.mono HB.out.size))
  replace HA := Lib.hid (HA.out.kept hbn)
  replace HW0 := Lib.hid (HW0.out.kept hbn)
  replace Hx0 := Lib.hid (Hx0.out.kept hbn)
  have Hx1 : Hid (RowRd rLink true w5 (.slice Ax1 x.Links.length x.Links.length) x.Links (fun a => w4.heap.size ≤ a.block ∧ a.block < w5.heap.size)) := hq.tight
  clear hb hbn HC hq
  have HC : Hid (∀ W, Below w5.heap.size w5 W → Calls Tryd.prog 9 #[.slice Ax0 ns.length ns.length, .agg #[.slice Ax1 x.Links.length x.Links.length]] W (IntPost D W)) := fun W hW => HIM.out _ _ _ _ W (feat_below (feat_below HTW.out HB.out) hW) (Hx0.out.kept hW) (Hx1.out.kept hW)
  have bHA := HA.out.cell 0 rfl
  go_wp2_with fail
  refine (HC.out _ (by first | exact Below.refl _ _ | exact (Below.refl _ _).alloc (Nat.le_refl _) _ | exact (Below.refl _ _).drew)).mono ?_
  rintro e w6 ⟨g1, rfl, hq, hb⟩
  clear bHA
  have hbn : Below w5.heap.size w5 w6 := below_step (by first | exact Below.refl _ _ | exact (Below.refl _ _).alloc (Nat.le_refl _) _ | exact (Below.refl _ _).drew) hb
  have hs6 : Hid (w5.heap.size ≤ w6.heap.size) := hbn.size
  replace HVn := Lib.hid (HVn.out.kept hbn)
  replace HVx := Lib.hid (HVx.out.kept hbn)
  replace HB := Lib.hid (HB.out.trans (hbn.mono HB.out.size))
  replace HA := Lib.hid (HA.out.kept hbn)
  replace HW0 := Lib.hid (HW0.out.kept hbn)
  replace Hx0 := Lib.hid (Hx0.out.kept hbn)
  replace Hx1 := Lib.hid (Hx1.out.kept hbn)
  obtain ⟨Ag, cg, rfl⟩ := hq.form
  have HX1 : Hid (InC w6 w5.heap.size #[.slice Ax1 x.Links.length x.Links.length] 33) := (hb.block _ (by simp)).trans (heap_alloc_new _ _)
  have Hg : Hid (RowRd Rep.int true w6 (.slice Ag D.length cg) D (fun a => w5.heap.size < a.block ∧ a.block < w6.heap.size)) := hq.tight.mono (fun a ha => ⟨by have h := ha.1; rw [sizeAP] at h; omega, ha.2⟩)
  clear hb hbn HC hq
  have HC : Hid (∀ W, Below w6.heap.size w6 W → Calls Tryd.prog 10 #[.slice Ag D.length cg, .slice A0 D.length c0] W fun e w' => e = .returned (.bool true) ∧ Below W.heap.size W w') := fun W hW => eqIntS_any _ _ D _ _ W (Hg.out.kept hW).weak (HW0.out.kept hW).weak
  have bHA := HA.out.cell 0 rfl
  have bHX1 := HX1.out.cell 0 rfl
  go_wp2_with fail
  refine (HC.out _ (by first | exact Below.refl _ _ | exact (Below.refl _ _).alloc (Nat.le_refl _) _ | exact (Below.refl _ _).drew)).mono ?_
  rintro e w7 ⟨rfl, hb⟩
  clear bHA bHX1
  have hbn : Below w6.heap.size w6 w7 := below_step (by first | exact Below.refl _ _ | exact (Below.refl _ _).alloc (Nat.le_refl _) _ | exact (Below.refl _ _).drew) hb
  have hs7 : Hid (w6.heap.size ≤ w7.heap.size) := hbn.size
  replace HVn := Lib.hid (HVn.out.kept hbn)
  replace HVx := Lib.hid (HVx.out.kept hbn)
  replace HB := Lib.hid (HB.out.trans (hbn.mono HB.out.size))
  replace HA := Lib.hid (HA.out.kept hbn)
  replace HW0 := Lib.hid (HW0.out.kept hbn)
  replace Hx0 := Lib.hid (Hx0.out.kept hbn)
  replace Hx1 := Lib.hid (Hx1.out.kept hbn)
  replace HX1 := Lib.hid (HX1.out.kept hbn)
  replace Hg := Lib.hid (Hg.out.kept hbn)
  clear hb hbn HC
  have HC : Hid (∀ W, Below w7.heap.size w7 W → Calls Tryd.prog 7 #[.slice An ns.length capn] W (OwnPostS ns W)) := fun W hW => toStringS_any _ ns _ W HSZn.out (HVn.out.kept hW)
  have bHA := HA.out.cell 0 rfl
  have bHX1 := HX1.out.cell 0 rfl
  go_wp2_with fail
  refine (HC.out _ (by first | exact Below.refl _ _ | exact (Below.refl _ _).alloc (Nat.le_refl _) _ | exact (Below.refl _ _).drew)).mono ?_
  rintro e w8 ⟨Au0, rfl, hq, hb⟩
  clear bHA bHX1
  have hbn : Below w7.heap.size w7 w8 := below_step (by first | exact Below.refl _ _ | exact (Below.refl _ _).alloc (Nat.le_refl _) _ | exact (Below.refl _ _).drew) hb
  have hs8 : Hid (w7.heap.size ≤ w8.heap.size) := hbn.size
  replace HVn := Lib.hid (HVn.out.kept hbn)
  replace HVx := Lib.hid (HVx.out.kept hbn)
  replace HB := Lib.hid (HB.out.trans (hbn.mono HB.out.size))
  replace HA := Lib.hid (HA.out.kept hbn)
  replace HW0 := Lib.hid (HW0.out.kept hbn)
  replace Hx0 := Lib.hid (Hx0.out.kept hbn)
  replace Hx1 := Lib.hid (Hx1.out.kept hbn)
  replace HX1 := Lib.hid (HX1.out.kept hbn)
  replace Hg := Lib.hid (Hg.out.kept hbn)
  have Hu0 := Lib.hid hq.tight
  clear hb hbn HC hq
  have HC : Hid (∀ W, Below w8.heap.size w8 W → Calls Tryd.prog 11 #[.slice Ax0 ns.length ns.length, .slice Au0 ns.length ns.length] W fun e w' => e = .returned (.bool true) ∧ Below W.heap.size W w') := fun W hW => eqStrs_any _ _ ns _ _ W (Hx0.out.kept hW).weak (Hu0.out.kept hW).weak
  have bHA := HA.out.cell 0 rfl
  have bHX1 := HX1.out.cell 0 rfl
  go_wp2_with fail
  refine (HC.out _ (by first | exact Below.refl _ _ | exact (Below.refl _ _).alloc (Nat.le_refl _) _ | exact (Below.refl _ _).drew)).mono ?_
  rintro e w9 ⟨rfl, hb⟩
  clear bHA bHX1
  have hbn : Below w8.heap.size w8 w9 := below_step (by first | exact Below.refl _ _ | exact (Below.refl _ _).alloc (Nat.le_refl _) _ | exact (Below.refl _ _).drew) hb
  have hs9 : Hid (w8.heap.size ≤ w9.heap.size) := hbn.size
  replace HVn := Lib.hid (HVn.out.kept hbn)
  replace HVx := Lib.hid (HVx.out.kept hbn)
  replace HB := Lib.hid (HB.out.trans (hbn.mono HB.out.size))
  replace HA := Lib.hid (HA.out.kept hbn)
  replace HW0 := Lib.hid (HW0.out.kept hbn)
  replace Hx0 := Lib.hid (Hx0.out.kept hbn)
  replace Hx1 := Lib.hid (Hx1.out.kept hbn)
  replace HX1 := Lib.hid (HX1.out.kept hbn)
  replace Hg := Lib.hid (Hg.out.kept hbn)
  replace Hu0 := Lib.hid (Hu0.out.kept hbn)
  clear hb hbn HC
  clear Hu0
  have HT : Hid (∀ W, Below w9.heap.size w9 W → Calls Tryd.prog 8 #[.agg #[.slice Ax x.Links.length capx]] W fun e w' => ∃ u, e = .returned (.agg #[u]) ∧ RowRd rLink true w' u x.Links (fun a => W.heap.size ≤ a.block) ∧ Below W.heap.size W w') := fun W hW => toCandidate_any x _ W _ (HVx.out.kept hW) HSZx.out
  have HE : Hid (∀ (W : World) (u : Value) (G : Addr → Prop), Below w9.heap.size w9 W → RowRd rLink true W u x.Links G → Calls Tryd.prog 12 #[.agg #[.slice Ax1 x.Links.length x.Links.length], .agg #[u]] W fun e w' => e = .returned (.bool true) ∧ Below W.heap.size W w') := fun W u G hW hu => eqCandidate_any x _ _ W _ _ (Hx1.out.kept hW).weak hu.weak
  have HXK : Hid (∀ W : World, Below w9.heap.size w9 W → InC W _ #[.slice Ax1 x.Links.length x.Links.length] 33) := fun W hW => HX1.out.kept hW
  have bHA := HA.out.cell 0 rfl
  have bHX1 := HX1.out.cell 0 rfl
  go_upto_region 16 with fail
  go_cut [49] (fun b wx => b = .bool false ∧ Below w9.heap.size w9 wx)
  case first =>
    go_region_with (first | (go_simp; go_at_call 8; refine (HT.out _ ((Below.refl _ _).drew)).mono ?_; rintro e wt ⟨ut, rfl, hqt, hbt0⟩; have hbt : Below w9.heap.size w9 wt := below_step ((Below.refl _ _).drew) hbt0; obtain ⟨At, ct, rfl⟩ := hqt.form; have e0 := (HXK.out _ hbt).cell 0 rfl; have HBT := Lib.hid hbt; have HQT := Lib.hid hqt; clear hbt0 hqt hbt) | (go_simp; go_at_call 12; refine (HE.out _ _ _ HBT.out HQT.out).mono ?_; rintro e wz ⟨rfl, hbz0⟩; have HBZ := Lib.hid (below_step HBT.out hbz0); clear hbz0))
    all_goals
      go_wp2_with fail
      go_meet
      exact ⟨rfl, HBZ.out⟩
  case rest =>
  obtain ⟨rfl, hbn⟩ := hcut
  clear bHA bHX1
  clear HT HE HXK
  generalize wc = w10 at *
  have hs10 : Hid (w9.heap.size ≤ w10.heap.size) := hbn.size
  replace HVn := Lib.hid (HVn.out.kept hbn)
  replace HVx := Lib.hid (HVx.out.kept hbn)
  replace HB := Lib.hid (HB.out.trans (hbn.mono HB.out.size))
  replace HA := Lib.hid (HA.out.kept hbn)
  replace HW0 := Lib.hid (HW0.out.kept hbn)
  replace Hx0 := Lib.hid (Hx0.out.kept hbn)
  replace Hx1 := Lib.hid (Hx1.out.kept hbn)
  replace HX1 := Lib.hid (HX1.out.kept hbn)
  replace Hg := Lib.hid (Hg.out.kept hbn)
  clear hbn
  have HCD : Hid (1 + cntRow Rep.int D ≤ 1000000000) := by unfold Hid; have h1 := cntRow_int D; have h2 := HDL.out; omega
  have HCS : Hid (cntRow (Rep.str mkT) ns = ns.length) := cnt_strs ns
  obtain ⟨kx, hkx⟩ : ∃ q : Nat, 1 + cntRow (Rep.str mkT) ns = q := ⟨_, rfl⟩
  obtain ⟨ky, hky⟩ : ∃ q : Nat, kx + cntRow rLink x.Links = q := ⟨_, rfl⟩
  have hkx1 : kx ≤ 2100000 := by have h1 := HCS.out; have h2 := HFLn.out; omega
  have hky1 : ky ≤ 5000000 := by have h1 := cnt_links x.Links; have h2 := HFLx.out; omega
  have hkx0 : 1 ≤ kx := by omega
  have hny : ¬ ((ky : Nat) : Int) < 0 := by omega
  replace HX1 : Hid (BoxC w10 w5.heap.size (.slice Ax1 x.Links.length x.Links.length)) := ⟨InC.cell HX1.out 0 rfl, InC.lt HX1.out⟩
  have HM := Lib.hid (markStrs_any (.slice Ax0 ns.length ns.length) ns 1 1 rfl w3.heap.size _ w10 (fun a ha => ha.1) (by omega) (Nat.le_refl 1) (by have := hs1.out; have := hs2.out; have := hs3.out; have := hs4.out; have := hs5.out; have := hs6.out; have := hs7.out; have := hs8.out; have := hs9.out; have := hs10.out; omega) Hx0.out)
  rw [hkx] at HM
  have bHA := HA.out.cell 0 rfl
  have bHX1 := HX1.out.1
  go_wp2_with fail
  refine HM.out.mono ?_
  rintro e w11 ⟨rfl, hq, hu, hb⟩
  clear bHA bHX1
  have hs11 : Hid (w10.heap.size ≤ w11.heap.size) := hb.size
  replace HVn := Lib.hid (HVn.out.apart hu (fun a ha hf => by have := hs1.out; have := hs2.out; have := hs3.out; have := hs4.out; have := hs5.out; have := hs6.out; have := hs7.out; have := hs8.out; have := hs9.out; have := hs10.out; have := hs11.out; omega))
  replace HVx := Lib.hid (HVx.out.apart hu (fun a ha hf => by have := hs1.out; have := hs2.out; have := hs3.out; have := hs4.out; have := hs5.out; have := hs6.out; have := hs7.out; have := hs8.out; have := hs9.out; have := hs10.out; have := hs11.out; omega))
  replace HB := Lib.hid (HB.out.trans (hb.mono (by have := hs1.out; have := hs2.out; have := hs3.out; have := hs4.out; have := hs5.out; have := hs6.out; have := hs7.out; have := hs8.out; have := hs9.out; have := hs10.out; have := hs11.out; omega)))
  replace HA := Lib.hid (InC.keptB HA.out hb (by have := HA0.out; have := hs1.out; have := hs2.out; have := hs3.out; have := hs4.out; have := hs5.out; have := hs6.out; have := hs7.out; have := hs8.out; have := hs9.out; have := hs10.out; have := hs11.out; omega))
  replace HW0 := Lib.hid (HW0.out.apart hu (fun a ha hf => by have := hs1.out; have := hs2.out; have := hs3.out; have := hs4.out; have := hs5.out; have := hs6.out; have := hs7.out; have := hs8.out; have := hs9.out; have := hs10.out; have := hs11.out; omega))
  replace Hx0 := Lib.hid hq
  replace Hx1 := Lib.hid (Hx1.out.apart hu (fun a ha hf => by have := hs1.out; have := hs2.out; have := hs3.out; have := hs4.out; have := hs5.out; have := hs6.out; have := hs7.out; have := hs8.out; have := hs9.out; have := hs10.out; have := hs11.out; omega))
  replace HX1 := Lib.hid (HX1.out.apart hu (fun hf => by have h1 := hf.1; have h2 := hf.2; dsimp only at h1 h2; have := hs1.out; have := hs2.out; have := hs3.out; have := hs4.out; have := hs5.out; have := hs6.out; have := hs7.out; have := hs8.out; have := hs9.out; have := hs10.out; have := hs11.out; omega))
  replace Hg := Lib.hid (Hg.out.apart hu (fun a ha hf => by have := hs1.out; have := hs2.out; have := hs3.out; have := hs4.out; have := hs5.out; have := hs6.out; have := hs7.out; have := hs8.out; have := hs9.out; have := hs10.out; have := hs11.out; omega))
  clear HM hq hu hb
  clear Hx0
  have HM := Lib.hid (markCandidate_any x (.slice Ax1 x.Links.length x.Links.length) kx kx rfl w4.heap.size _ w11 (by have := hs1.out; have := hs2.out; have := hs3.out; have := hs4.out; have := hs5.out; have := hs6.out; have := hs7.out; have := hs8.out; have := hs9.out; have := hs10.out; have := hs11.out; omega) (fun a ha => ha.1) (by omega) hkx0 Hx1.out)
  rw [hky] at HM
  have bHA := HA.out.cell 0 rfl
  have bHX1 := HX1.out.1
  go_wp2_with fail
  refine HM.out.mono ?_
  rintro e w12 ⟨rfl, hq, hu, hb⟩
  clear bHA bHX1
  have hs12 : Hid (w11.heap.size ≤ w12.heap.size) := hb.size
  replace HVn := Lib.hid (HVn.out.apart hu (fun a ha hf => by have := hs1.out; have := hs2.out; have := hs3.out; have := hs4.out; have := hs5.out; have := hs6.out; have := hs7.out; have := hs8.out; have := hs9.out; have := hs10.out; have := hs11.out; have := hs12.out; omega))
  replace HVx := Lib.hid (HVx.out.apart hu (fun a ha hf => by have := hs1.out; have := hs2.out; have := hs3.out; have := hs4.out; have := hs5.out; have := hs6.out; have := hs7.out; have := hs8.out; have := hs9.out; have := hs10.out; have := hs11.out; have := hs12.out; omega))
  replace HB := Lib.hid (HB.out.trans (hb.mono (by have := hs1.out; have := hs2.out; have := hs3.out; have := hs4.out; have := hs5.out; have := hs6.out; have := hs7.out; have := hs8.out; have := hs9.out; have := hs10.out; have := hs11.out; have := hs12.out; omega)))
  replace HA := Lib.hid (InC.keptB HA.out hb (by have := HA0.out; have := hs1.out; have := hs2.out; have := hs3.out; have := hs4.out; have := hs5.out; have := hs6.out; have := hs7.out; have := hs8.out; have := hs9.out; have := hs10.out; have := hs11.out; have := hs12.out; omega))
  replace HW0 := Lib.hid (HW0.out.apart hu (fun a ha hf => by have := hs1.out; have := hs2.out; have := hs3.out; have := hs4.out; have := hs5.out; have := hs6.out; have := hs7.out; have := hs8.out; have := hs9.out; have := hs10.out; have := hs11.out; have := hs12.out; omega))
  replace Hx1 := Lib.hid hq
  replace HX1 := Lib.hid (HX1.out.apart hu (fun hf => by have h1 := hf.1; have h2 := hf.2; dsimp only at h1 h2; have := hs1.out; have := hs2.out; have := hs3.out; have := hs4.out; have := hs5.out; have := hs6.out; have := hs7.out; have := hs8.out; have := hs9.out; have := hs10.out; have := hs11.out; have := hs12.out; omega))
  replace Hg := Lib.hid (Hg.out.apart hu (fun a ha hf => by have := hs1.out; have := hs2.out; have := hs3.out; have := hs4.out; have := hs5.out; have := hs6.out; have := hs7.out; have := hs8.out; have := hs9.out; have := hs10.out; have := hs11.out; have := hs12.out; omega))
  clear HM hq hu hb
  clear Hx1
  clear HX1
  have HC : Hid (∀ W, Below w12.heap.size w12 W → Calls Tryd.prog 10 #[.slice Ag D.length cg, .slice A0 D.length c0] W fun e w' => e = .returned (.bool true) ∧ Below W.heap.size W w') := fun W hW => eqIntS_any _ _ D _ _ W (Hg.out.kept hW).weak (HW0.out.kept hW).weak
  have bHA := HA.out.cell 0 rfl
  go_wp2_with fail
  refine (HC.out _ (by first | exact Below.refl _ _ | exact (Below.refl _ _).alloc (Nat.le_refl _) _ | exact (Below.refl _ _).drew)).mono ?_
  rintro e w13 ⟨rfl, hb⟩
  clear bHA
  have hbn : Below w12.heap.size w12 w13 := below_step (by first | exact Below.refl _ _ | exact (Below.refl _ _).alloc (Nat.le_refl _) _ | exact (Below.refl _ _).drew) hb
  have hs13 : Hid (w12.heap.size ≤ w13.heap.size) := hbn.size
  replace HVn := Lib.hid (HVn.out.kept hbn)
  replace HVx := Lib.hid (HVx.out.kept hbn)
  replace HB := Lib.hid (HB.out.trans (hbn.mono HB.out.size))
  replace HA := Lib.hid (HA.out.kept hbn)
  replace HW0 := Lib.hid (HW0.out.kept hbn)
  replace Hg := Lib.hid (Hg.out.kept hbn)
  clear hb hbn HC
  obtain ⟨kd, hkd⟩ : ∃ q : Nat, 1 + cntRow Rep.int D = q := ⟨_, rfl⟩
  have hnd : ¬ ((kd : Nat) : Int) < 0 := by omega
  have HM := Lib.hid (markIntS_any (.slice Ag D.length cg) D 1 1 rfl w5.heap.size _ w13 (fun a ha => Nat.le_of_lt ha.1) HCD.out (Nat.le_refl 1) Hg.out)
  rw [hkd] at HM
  have bHA := HA.out.cell 0 rfl
  go_wp2_with fail
  refine HM.out.mono ?_
  rintro e w14 ⟨rfl, hq, hu, hb⟩
  clear bHA
  have hs14 : Hid (w13.heap.size ≤ w14.heap.size) := hb.size
  replace HVn := Lib.hid (HVn.out.apart hu (fun a ha hf => by have := hs1.out; have := hs2.out; have := hs3.out; have := hs4.out; have := hs5.out; have := hs6.out; have := hs7.out; have := hs8.out; have := hs9.out; have := hs10.out; have := hs11.out; have := hs12.out; have := hs13.out; have := hs14.out; omega))
  replace HVx := Lib.hid (HVx.out.apart hu (fun a ha hf => by have := hs1.out; have := hs2.out; have := hs3.out; have := hs4.out; have := hs5.out; have := hs6.out; have := hs7.out; have := hs8.out; have := hs9.out; have := hs10.out; have := hs11.out; have := hs12.out; have := hs13.out; have := hs14.out; omega))
  replace HB := Lib.hid (HB.out.trans (hb.mono (by have := hs1.out; have := hs2.out; have := hs3.out; have := hs4.out; have := hs5.out; have := hs6.out; have := hs7.out; have := hs8.out; have := hs9.out; have := hs10.out; have := hs11.out; have := hs12.out; have := hs13.out; have := hs14.out; omega)))
  replace HA := Lib.hid (InC.keptB HA.out hb (by have := HA0.out; have := hs1.out; have := hs2.out; have := hs3.out; have := hs4.out; have := hs5.out; have := hs6.out; have := hs7.out; have := hs8.out; have := hs9.out; have := hs10.out; have := hs11.out; have := hs12.out; have := hs13.out; have := hs14.out; omega))
  replace HW0 := Lib.hid (HW0.out.apart hu (fun a ha hf => by have := hs1.out; have := hs2.out; have := hs3.out; have := hs4.out; have := hs5.out; have := hs6.out; have := hs7.out; have := hs8.out; have := hs9.out; have := hs10.out; have := hs11.out; have := hs12.out; have := hs13.out; have := hs14.out; omega))
  replace Hg := Lib.hid hq
  clear HM hq hu hb
  have HC : Hid (∀ W, Below w14.heap.size w14 W → Calls Tryd.prog 16 #[.slice Ag D.length cg, .int .i64 1] W fun e w' => e = .returned (.int .i64 ((kd : Nat) : Int)) ∧ Below W.heap.size W w') := fun W hW => by have h := heldIntS_any (.slice Ag D.length cg) D 1 1 rfl _ W HCD.out (Nat.le_refl 1) (Hg.out.kept hW).weak; rw [hkd] at h; exact h
  have bHA := HA.out.cell 0 rfl
  go_wp2_with fail
  refine (HC.out _ (by first | exact Below.refl _ _ | exact (Below.refl _ _).alloc (Nat.le_refl _) _ | exact (Below.refl _ _).drew)).mono ?_
  rintro e w15 ⟨rfl, hb⟩
  clear bHA
  have hbn : Below w14.heap.size w14 w15 := below_step (by first | exact Below.refl _ _ | exact (Below.refl _ _).alloc (Nat.le_refl _) _ | exact (Below.refl _ _).drew) hb
  have hs15 : Hid (w14.heap.size ≤ w15.heap.size) := hbn.size
  replace HVn := Lib.hid (HVn.out.kept hbn)
  replace HVx := Lib.hid (HVx.out.kept hbn)
  replace HB := Lib.hid (HB.out.trans (hbn.mono HB.out.size))
  replace HA := Lib.hid (HA.out.kept hbn)
  replace HW0 := Lib.hid (HW0.out.kept hbn)
  replace Hg := Lib.hid (Hg.out.kept hbn)
  clear hb hbn HC
  have HKC : Hid (∀ W : World, Below w15.heap.size w15 W → W.cell? ⟨w.heap.size, 0, none⟩ = some (.slice Ax x.Links.length capx)) := fun W hW => (HA.out.kept hW).cell 0 rfl
  have HTn : Hid (∀ W, Below w15.heap.size w15 W → Calls Tryd.prog 7 #[.slice An ns.length capn] W fun e w' => ∃ A0, e = .returned (.slice A0 ns.length ns.length) ∧ RowRd (Rep.str mkT) true w' (.slice A0 ns.length ns.length) ns (fun a => W.heap.size ≤ a.block) ∧ Below W.heap.size W w' ∧ Below w15.heap.size w15 w') := fun W hW => (toStringS_any _ ns _ W HSZn.out (HVn.out.kept hW)).mono fun e w' ⟨A0, h1, h2, h3⟩ => ⟨A0, h1, h2, h3, below_step hW h3⟩
  have HTx : Hid (∀ W, Below w15.heap.size w15 W → Calls Tryd.prog 8 #[.agg #[.slice Ax x.Links.length capx]] W fun e w' => ∃ A0, e = .returned (.agg #[.slice A0 x.Links.length x.Links.length]) ∧ RowRd rLink true w' (.slice A0 x.Links.length x.Links.length) x.Links (fun a => W.heap.size ≤ a.block) ∧ Below W.heap.size W w' ∧ Below w15.heap.size w15 w') := fun W hW => (toCandidate_cap x _ W _ (HVx.out.kept hW) HSZx.out).mono fun e w' ⟨A0, h1, h2, h3⟩ => ⟨A0, h1, h2, h3, below_step hW h3⟩
  have HFT : Hid (FeatTab w15) := feat_below HTW.out HB.out
  have ha0 := HA.out.cell 0 rfl
  go_upto_region 31 with fail
  go_cut [13] (fun b wx => ∃ (A0 : Option Addr) (c0 : Nat), b = .slice A0 D.length c0 ∧ RowI w15 D (.slice A0 D.length c0) wx)
  case first =>
    have hbe : Below w15.heap.size w15 w15.drew := (Below.refl _ _).drew
    go_region_held3 (fun w' => w'.cell? ⟨w.heap.size, 0, none⟩ = some (.slice Ax x.Links.length capx))
      (first | with_reducible exact HKC.out _ hbe | exact HKC.out _ hbe | go_keep)
      (first
        | (go_at_call 7; refine (HTn.out _ ?_).mono ?_; (first | with_reducible exact hbe | exact (Below.refl _ _).drew); rintro e wa ⟨A5, rfl, hq5, hs5, hbe⟩; have HQN := Lib.hid hq5; (try have HQX2 := Lib.hid (HQX.out.kept hs5)))
        | (go_at_call 8; refine (HTx.out _ ?_).mono ?_; (first | with_reducible exact hbe | exact (Below.refl _ _).drew); rintro e wb ⟨A6, rfl, hq6, hs6, hbe⟩; have HQX := Lib.hid hq6; have HQX2 := Lib.hid hq6; (try have HQN2 := Lib.hid (HQN.out.kept hs6)))
        | (go_at_call 9; refine (HIM.out A5 A6 _ _ _ (feat_below HFT.out hbe) (by first | with_reducible exact HQN2.out | exact HQN.out) (by first | with_reducible exact HQX2.out | exact HQX.out)).mono ?_; rintro e wz ⟨u, rfl, hqz, hsz⟩; obtain ⟨A7, c7, rfl⟩ := hqz.form; have HQZ := Lib.hid hqz; have hsz0 := Below.size hbe; have hbe : Below w15.heap.size w15 wz := below_step hbe hsz))
    all_goals
      go_wp2_with fail
      go_meet
      exact ⟨_, _, rfl, HQZ.out.mono (fun a ha => Nat.le_trans hsz0 ha), hbe⟩
  case rest =>
  obtain ⟨Ah, ch, rfl, hbr⟩ := hcut
  have hbn : Below w15.heap.size w15 wc := hbr.2
  generalize wc = w16 at *
  have hs16 : Hid (w15.heap.size ≤ w16.heap.size) := hbn.size
  replace HVn := Lib.hid (HVn.out.kept hbn)
  replace HVx := Lib.hid (HVx.out.kept hbn)
  replace HB := Lib.hid (HB.out.trans (hbn.mono HB.out.size))
  replace HA := Lib.hid (HA.out.kept hbn)
  replace HW0 := Lib.hid (HW0.out.kept hbn)
  replace Hg := Lib.hid (Hg.out.kept hbn)
  have Hh : Hid (RowRd Rep.int true w16 (.slice Ah D.length ch) D (fun _ => True)) := hbr.1.mono fun _ _ => trivial
  clear HKC HTn HTx HFT hbr hbn ha0
  have HC : Hid (∀ W, Below w16.heap.size w16 W → Calls Tryd.prog 10 #[.slice Ah D.length ch, .slice A0 D.length c0] W fun e w' => e = .returned (.bool true) ∧ Below W.heap.size W w') := fun W hW => eqIntS_any _ _ D _ _ W (Hh.out.kept hW).weak (HW0.out.kept hW).weak
  have bHA := HA.out.cell 0 rfl
  go_wp2_with fail
  refine (HC.out _ (by first | exact Below.refl _ _ | exact (Below.refl _ _).alloc (Nat.le_refl _) _ | exact (Below.refl _ _).drew)).mono ?_
  rintro e w17 ⟨rfl, hb⟩
  clear bHA
  have hbn : Below w16.heap.size w16 w17 := below_step (by first | exact Below.refl _ _ | exact (Below.refl _ _).alloc (Nat.le_refl _) _ | exact (Below.refl _ _).drew) hb
  have hs17 : Hid (w16.heap.size ≤ w17.heap.size) := hbn.size
  replace HVn := Lib.hid (HVn.out.kept hbn)
  replace HVx := Lib.hid (HVx.out.kept hbn)
  replace HB := Lib.hid (HB.out.trans (hbn.mono HB.out.size))
  replace HA := Lib.hid (HA.out.kept hbn)
  replace HW0 := Lib.hid (HW0.out.kept hbn)
  replace Hg := Lib.hid (Hg.out.kept hbn)
  replace Hh := Lib.hid (Hh.out.kept hbn)
  clear hb hbn HC
  have HC : Hid (∀ W, Below w17.heap.size w17 W → Calls Tryd.prog 16 #[.slice Ag D.length cg, .int .i64 1] W fun e w' => e = .returned (.int .i64 ((kd : Nat) : Int)) ∧ Below W.heap.size W w') := fun W hW => by have h := heldIntS_any (.slice Ag D.length cg) D 1 1 rfl _ W HCD.out (Nat.le_refl 1) (Hg.out.kept hW).weak; rw [hkd] at h; exact h
  have bHA := HA.out.cell 0 rfl
  go_wp2_with fail
  refine (HC.out _ (by first | exact Below.refl _ _ | exact (Below.refl _ _).alloc (Nat.le_refl _) _ | exact (Below.refl _ _).drew)).mono ?_
  rintro e w18 ⟨rfl, hb⟩
  clear bHA
  have hbn : Below w17.heap.size w17 w18 := below_step (by first | exact Below.refl _ _ | exact (Below.refl _ _).alloc (Nat.le_refl _) _ | exact (Below.refl _ _).drew) hb
  have hs18 : Hid (w17.heap.size ≤ w18.heap.size) := hbn.size
  replace HVn := Lib.hid (HVn.out.kept hbn)
  replace HVx := Lib.hid (HVx.out.kept hbn)
  replace HB := Lib.hid (HB.out.trans (hbn.mono HB.out.size))
  replace HA := Lib.hid (HA.out.kept hbn)
  replace HW0 := Lib.hid (HW0.out.kept hbn)
  replace Hg := Lib.hid (Hg.out.kept hbn)
  replace Hh := Lib.hid (Hh.out.kept hbn)
  clear hb hbn HC
  have bHA := HA.out.cell 0 rfl
  go_wp2
  go_ret
  exact ⟨rfl, HB.out⟩
end Go.Proofs.YtcgmlhlnkbjfnaaDoor.fnExactProfileOf
