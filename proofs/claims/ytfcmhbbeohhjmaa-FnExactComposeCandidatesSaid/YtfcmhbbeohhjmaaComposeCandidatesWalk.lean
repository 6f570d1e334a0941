/- The walk of FnExactComposeCandidates: it returns true at every two arguments. -/
import Derived.Test.YtfcmhbbeohhjmaaMp9
import Derived.Test.YtfcmhbbeohhjmaaCp9
import Derived.Test.YtfcmhbbeohhjmaaTt9
import Derived.Test.YtfcmhbbeohhjmaaTzCandidate
import Derived.Test.YtfcmhbbeohhjmaaTeCandidate
import Derived.Test.YtfcmhbbeohhjmaaTmCandidate
import Derived.Test.YtfcmhbbeohhjmaaThCandidate
import Derived.Deep.RegionWith
import Derived.Deep.RegionHeld3
import Derived.Deep.DeepCutAuto
namespace Go.Proofs.Ytfcmhbbeohhjmaa.fnExactComposeCandidates
set_option maxRecDepth 100000
open Go.RowKit Go.Proofs.Ytfcmhbbeohhjmaa
set_option linter.unusedVariables false
set_option linter.unusedSimpArgs false

/-- A box that holds a row of links, both laid since a world. -/
structure BoxRow (w0 : World) (D : List DLink) (g : Nat) (v : Value) (w : World) : Prop where
  box : InC w g #[v] 29
  row : RowRd rLink true w v D (fun a => w0.heap.size ≤ a.block ∧ a.block ≠ g)
  lo : w0.heap.size ≤ g
  bel : Below w0.heap.size w0 w
theorem boxOld {w0 wz : World} {D : List DLink} {g : Nat} {v v0 : Value} {K : Nat} (hbox : InC wz g #[v0] 29) (hg : w0.heap.size ≤ g) (hrow : RowRd rLink true wz v D (fun a => K ≤ a.block)) (hK : g < K) (hb : Below w0.heap.size w0 wz) : BoxRow w0 D g v (wz.setCell ⟨g, 0, none⟩ v) :=
  ⟨hbox.put 0 v, (hrow.apart (Unch.set (F := fun a => a.block = g) rfl _) (fun a ha => by have h1 : K ≤ a.block := ha; show ¬ a.block = g; omega)).mono (fun a ha => by have h1 : K ≤ a.block := ha; exact ⟨by omega, by omega⟩), hg, hb.setCell hg _⟩
theorem boxNew {w0 wz : World} {D : List DLink} {v : Value} {K : Nat} (hrow : RowRd rLink true wz v D (fun a => K ≤ a.block)) (hK : w0.heap.size ≤ K) (hb : Below w0.heap.size w0 wz) : BoxRow w0 D wz.heap.size v (wz.alloc (.cells #[v] 29)) :=
  ⟨heap_alloc_new _ _, (hrow.tight.kept ((Below.refl _ _).alloc (Nat.le_refl _) _)).mono (fun a ha => ⟨Nat.le_trans hK ha.1, Nat.ne_of_lt ha.2⟩), hb.size, hb.alloc hb.size _⟩
theorem BoxRow.kept {w0 w w' : World} {D : List DLink} {g : Nat} {v : Value} (h : BoxRow w0 D g v w) (hb : Below w.heap.size w w') : BoxRow w0 D g v w' :=
  ⟨h.box.kept hb, h.row.kept hb, h.lo, below_step h.bel hb⟩
theorem bel_al {w0 w : World} (h : Below w0.heap.size w0 w) (o : Obj) : Below w0.heap.size w0 (w.alloc o) := h.alloc h.size o
theorem boxThrough {w w' : World} {cs : Array Value} {t : TypeId} (h : Below (w.alloc (.cells cs t)).heap.size (w.alloc (.cells cs t)) w') : InC w' w.heap.size cs t := (h.block _ (by simp)).trans (heap_alloc_new _ _)
theorem boxThroughD {w w' : World} {cs : Array Value} {t : TypeId} (h : Below (w.alloc (.cells cs t)).drew.heap.size (w.alloc (.cells cs t)).drew w') : InC w' w.heap.size cs t := (h.block _ (by simp)).trans (heap_alloc_new w _)
theorem sizeA (w : World) (o : Obj) : (w.alloc o).heap.size = w.heap.size + 1 := by simp
theorem sizeD (w : World) (o : Obj) : (w.alloc o).drew.heap.size = w.heap.size + 1 := sizeA w o
theorem compSpec {x y : DCandidate} {A B : Option Addr} {F G : Addr → Prop} (w : World) (hl : x.Links.length ≤ 1048576) (hm : y.Links.length ≤ 1048576) (hv : RowRd rLink true w (.slice A x.Links.length x.Links.length) x.Links F) (hu : RowRd rLink true w (.slice B y.Links.length y.Links.length) y.Links G) :
    Calls Try.prog 22 #[.agg #[.slice A x.Links.length x.Links.length], .agg #[.slice B y.Links.length y.Links.length]] w (CdPost (compC x.Links y.Links) (compB x.Links y.Links) w) :=
  specCompose_any x y A B (fun a => a.block < w.heap.size) w (fun a h => h) hl hm (hv.weak.tight.mono fun a h => h.2) (hu.weak.tight.mono fun a h => h.2)
theorem compImpl {x y : DCandidate} {A B : Option Addr} {F G : Addr → Prop} (w : World) (hl : x.Links.length ≤ 1048576) (hm : y.Links.length ≤ 1048576) (hv : RowRd rLink true w (.slice A x.Links.length x.Links.length) x.Links F) (hu : RowRd rLink true w (.slice B y.Links.length y.Links.length) y.Links G) :
    Calls Try.prog 23 #[.agg #[.slice A x.Links.length x.Links.length], .agg #[.slice B y.Links.length y.Links.length]] w (CdPost (compC x.Links y.Links) (compB x.Links y.Links) w) :=
  implCompose_any x y A B _ _ (fun a => a.block < w.heap.size) w (fun a h => h) hl hm (Nat.le_refl _) (Nat.le_refl _) (hv.weak.tight.mono fun a h => h.2) (hu.weak.tight.mono fun a h => h.2)
set_option maxHeartbeats 8000000 in
theorem walk (w : World) (x : DCandidate) (Fx : Addr → Prop) (vx : Value) (hvx : RowRd rLink false w vx x.Links Fx) (y : DCandidate) (Fy : Addr → Prop) (vy : Value) (hvy : RowRd rLink false w vy y.Links Fy) :
    Calls Try.prog 8 #[.agg #[vx], .agg #[vy]] w fun e w' => e = .returned (.bool true) ∧ Below w.heap.size w w' := by
  obtain ⟨Ax, capx, rfl⟩ := hvx.form
  have HVx := Lib.hid hvx.tight
  clear hvx
  obtain ⟨Ay, capy, rfl⟩ := hvy.form
  have HVy := Lib.hid hvy.tight
  clear hvy
  have HB := Lib.hid (Below.refl w.heap.size w)
  go_enter Try.func8, Try.ntmps8
  have HC : Hid (∀ W, Below w.heap.size w W → Calls Try.prog 9 #[.agg #[.slice Ax x.Links.length capx], .int .i64 1048576] W fun e w' => (∃ z : Int, e = .returned (.int .i64 z) ∧ (z < 0 ∨ z + (rCandidate.sz x : Nat) = 1048576 ∧ 0 ≤ z)) ∧ Below W.heap.size W w') := fun W hW => szCandidate_any x _ 1048576 _ W (by omega) (by omega) (HVx.out.kept hW)
  go_wp2_with fail
  refine (HC.out _ (((Below.refl _ _).alloc (Nat.le_refl _) _).alloc (by simp) _)).mono ?_
  rintro e w1 ⟨⟨zx, rfl, hzx⟩, hb⟩
  have hbn : Below w.heap.size w w1 := below_step (((Below.refl _ _).alloc (Nat.le_refl _) _).alloc (by simp) _) hb
  have hs1 : Hid (w.heap.size ≤ w1.heap.size) := hbn.size
  replace HVx := Lib.hid (HVx.out.kept hbn)
  replace HVy := Lib.hid (HVy.out.kept hbn)
  replace HB := Lib.hid (HB.out.trans (hbn.mono HB.out.size))
  have HA : Hid (InC w1 w.heap.size #[.slice Ax x.Links.length capx] 24) := (hb.block _ (by simp; try omega)).trans (box1 _ _ _)
  have HA2 : Hid (InC w1 (w.heap.size + 1) #[.slice Ay y.Links.length capy] 24) := (hb.block _ (by simp)).trans (box2 _ _ _)
  have HA2w1 : Hid (w.heap.size + 1 < w1.heap.size) := (HA2.out.lt : _ < _)
  clear hb hbn HC
  by_cases hnegx : zx < 0
  case pos =>
    go_wp2
    go_ret
    exact ⟨rfl, HB.out⟩
  replace hzx := hzx.resolve_left hnegx
  have HC : Hid (∀ W, Below w1.heap.size w1 W → Calls Try.prog 9 #[.agg #[.slice Ay y.Links.length capy], .int .i64 zx] W fun e w' => (∃ z : Int, e = .returned (.int .i64 z) ∧ (z < 0 ∨ z + (rCandidate.sz y : Nat) = zx ∧ 0 ≤ z)) ∧ Below W.heap.size W w') := fun W hW => szCandidate_any y _ zx _ W (by omega) (by omega) (HVy.out.kept hW)
  have bHA0 := HA.out.cell 0 rfl
  have bHA20 := HA2.out.cell 0 rfl
  go_wp2_with fail
  refine (HC.out _ (by first | exact Below.refl _ _ | exact (Below.refl _ _).alloc (Nat.le_refl _) _ | exact (Below.refl _ _).drew)).mono ?_
  rintro e w2 ⟨⟨zy, rfl, hzy⟩, hb⟩
  clear bHA0 bHA20
  have hbn : Below w1.heap.size w1 w2 := below_step (by first | exact Below.refl _ _ | exact (Below.refl _ _).alloc (Nat.le_refl _) _ | exact (Below.refl _ _).drew) hb
  have hs2 : Hid (w1.heap.size ≤ w2.heap.size) := hbn.size
  replace HVx := Lib.hid (HVx.out.kept hbn)
  replace HVy := Lib.hid (HVy.out.kept hbn)
  replace HA := Lib.hid (HA.out.kept hbn)
  replace HA2 := Lib.hid (HA2.out.kept hbn)
  replace HB := Lib.hid (HB.out.trans (hbn.mono HB.out.size))
  clear hb hbn HC
  by_cases hnegy : zy < 0
  case pos =>
    go_wp2
    go_ret
    exact ⟨rfl, HB.out⟩
  replace hzy := hzy.resolve_left hnegy
  have HSZx : Hid (rCandidate.sz x ≤ 1048576) := by unfold Hid; omega
  have HSZy : Hid (rCandidate.sz y ≤ 1048576) := by unfold Hid; omega
  clear hzx hzy
  have HFLx : Hid (x.Links.length ≤ 1048576) := by unfold Hid; have h1 := HSZx.out; rw [rCandidate_sz] at h1; have := szRow_len rLink x.Links; omega
  have HFLy : Hid (y.Links.length ≤ 1048576) := by unfold Hid; have h1 := HSZy.out; rw [rCandidate_sz] at h1; have := szRow_len rLink y.Links; omega
  have HCL : Hid ((compC x.Links y.Links).length ≤ 16) := compC_len _ _
  have HSP : Hid (∀ (A B : Option Addr) (F G : Addr → Prop) (W : World), RowRd rLink true W (.slice A x.Links.length x.Links.length) x.Links F → RowRd rLink true W (.slice B y.Links.length y.Links.length) y.Links G → Calls Try.prog 22 #[.agg #[.slice A x.Links.length x.Links.length], .agg #[.slice B y.Links.length y.Links.length]] W (CdPost (compC x.Links y.Links) (compB x.Links y.Links) W)) := fun A B F G W h1 h2 => compSpec W HFLx.out HFLy.out h1 h2
  have HIM : Hid (∀ (A B : Option Addr) (F G : Addr → Prop) (W : World), RowRd rLink true W (.slice A x.Links.length x.Links.length) x.Links F → RowRd rLink true W (.slice B y.Links.length y.Links.length) y.Links G → Calls Try.prog 23 #[.agg #[.slice A x.Links.length x.Links.length], .agg #[.slice B y.Links.length y.Links.length]] W (CdPost (compC x.Links y.Links) (compB x.Links y.Links) W)) := fun A B F G W h1 h2 => compImpl W HFLx.out HFLy.out h1 h2
  generalize compC x.Links y.Links = D at *
  generalize compB x.Links y.Links = bq at *
  have HKC : Hid (∀ W : World, Below w2.heap.size w2 W → W.cell? ⟨w.heap.size, 0, none⟩ = some (.slice Ax x.Links.length capx) ∧ W.cell? ⟨w.heap.size + 1, 0, none⟩ = some (.slice Ay y.Links.length capy)) := fun W hW => ⟨(HA.out.kept hW).cell 0 rfl, (HA2.out.kept hW).cell 0 rfl⟩
  have HTx : Hid (∀ W, Below w2.heap.size w2 W → Calls Try.prog 11 #[.agg #[.slice Ax x.Links.length capx]] W fun e w' => ∃ A0, e = .returned (.agg #[.slice A0 x.Links.length x.Links.length]) ∧ RowRd rLink true w' (.slice A0 x.Links.length x.Links.length) x.Links (fun a => W.heap.size ≤ a.block) ∧ Below W.heap.size W w' ∧ Below w2.heap.size w2 w') := fun W hW => (toCandidate_cap x _ W _ (HVx.out.kept hW) HSZx.out).mono fun e w' ⟨A0, h1, h2, h3⟩ => ⟨A0, h1, h2, h3, below_step hW h3⟩
  have HTy : Hid (∀ W, Below w2.heap.size w2 W → Calls Try.prog 11 #[.agg #[.slice Ay y.Links.length capy]] W fun e w' => ∃ A0, e = .returned (.agg #[.slice A0 y.Links.length y.Links.length]) ∧ RowRd rLink true w' (.slice A0 y.Links.length y.Links.length) y.Links (fun a => W.heap.size ≤ a.block) ∧ Below W.heap.size W w' ∧ Below w2.heap.size w2 w') := fun W hW => (toCandidate_cap y _ W _ (HVy.out.kept hW) HSZy.out).mono fun e w' ⟨A0, h1, h2, h3⟩ => ⟨A0, h1, h2, h3, below_step hW h3⟩
  have ha0 := HA.out.cell 0 rfl
  have hb0 := HA2.out.cell 0 rfl
  go_upto_region 8 with fail
  go_cut [6, 7] (fun p b wx => ∃ (g : Nat) (A0 : Option Addr) (c0 : Nat), p = .pointer (some ⟨g, 0, none⟩) ∧ b = .bool bq ∧ BoxRow w2 D g (.slice A0 D.length c0) wx)
  case first =>
    have hbe : Below w2.heap.size w2 w2.drew := (Below.refl _ _).drew
    go_region_held3 (fun w' => w'.cell? ⟨w.heap.size, 0, none⟩ = some (.slice Ax x.Links.length capx) ∧ w'.cell? ⟨w.heap.size + 1, 0, none⟩ = some (.slice Ay y.Links.length capy))
      (first | with_reducible exact HKC.out _ hbe | with_reducible exact HKC.out _ (bel_al hbe _) | exact HKC.out _ (hbe.setCell (by first | exact hza | exact hzb | exact Nat.le_refl _) _) | go_keep)
      (first
        | (go_at_call_of 11 (Value.agg #[Value.slice Ax x.Links.length capx]); refine (HTx.out _ ?_).mono ?_; (first | with_reducible exact hbe | with_reducible exact bel_al hbe _ | exact (Below.refl _ _).drew | exact bel_al (Below.refl _ _).drew _); rintro e wa ⟨A5, rfl, hq5, hs5, hbe⟩; have hza := Below.size hbe; have HQX := Lib.hid hq5; have HAL := Lib.hid hs5; (first | (with_reducible (have hbox := boxThrough hs5)) | (with_reducible (have hbox := boxThroughD hs5)) | (with_reducible (have hbox := InC.kept hbox hs5)) | skip); (try have hbc := InC.cell hbox 0 rfl); (try have hbf := InC.free hbox 0))
        | (go_at_call_of 11 (Value.agg #[Value.slice Ay y.Links.length capy]); refine (HTy.out _ ?_).mono ?_; (first | with_reducible exact hbe | with_reducible exact bel_al hbe _ | exact (Below.refl _ _).drew | exact bel_al (Below.refl _ _).drew _); rintro e wb ⟨A6, rfl, hq6, hs6, hbe⟩; have hzb := Below.size hbe; have HQY := Lib.hid hq6; have HBL := Lib.hid hs6; (first | (with_reducible (have hbox := boxThrough hs6)) | (with_reducible (have hbox := boxThroughD hs6)) | (with_reducible (have hbox := InC.kept hbox hs6)) | skip); (try have hbc := InC.cell hbox 0 rfl); (try have hbf := InC.free hbox 0); have HQX2 := Lib.hid (HQX.out.kept (by first | with_reducible exact hs6 | exact below_step ((Below.refl _ _).alloc (Nat.le_refl _) _) hs6)))
        | (go_at_call 22; refine (HSP.out A5 A6 _ _ _ (by first | with_reducible exact HQX2.out | exact HQX2.out.kept ((Below.refl _ _).alloc (Nat.le_refl _) _)) (by first | with_reducible exact HQY.out | exact HQY.out.kept ((Below.refl _ _).alloc (Nat.le_refl _) _))).mono ?_; rintro e wz ⟨u, rfl, hqz, hsz⟩; obtain ⟨A7, c7, rfl⟩ := hqz.form; have HQZ := Lib.hid hqz; have HZL := Lib.hid hsz; (first | (with_reducible (have hbox := boxThrough hsz)) | (with_reducible (have hbox := boxThroughD hsz)) | (with_reducible (have hbox := InC.kept hbox hsz)) | skip); (try have hbc := InC.cell hbox 0 rfl); (try have hbf := InC.free hbox 0); have hbe : Below w2.heap.size w2 wz := below_step (by first | with_reducible exact hbe | with_reducible exact bel_al hbe _) hsz))
    all_goals
      go_wp2_with fail
      go_meet
      first
        | exact ⟨_, _, _, rfl, rfl, boxNew HQZ.out (by first | exact hzb | exact Nat.le_trans hzb (by simp)) hbe⟩
        | exact ⟨_, _, _, rfl, rfl, boxOld hbox (by first | exact hzb | exact hza | exact Nat.le_refl _) HQZ.out (by first | (have h1 := HBL.out.size; rw [sizeA] at h1; omega) | (have h1 := HBL.out.size; have h2 := HAL.out.size; rw [sizeD] at h2; omega) | simp) hbe⟩
  case rest =>
  obtain ⟨g0, A0, c0, rfl, rfl, hbr⟩ := hcut
  have hbn : Below w2.heap.size w2 wc := hbr.bel
  generalize wc = w3 at *
  have hs3 : Hid (w2.heap.size ≤ w3.heap.size) := hbn.size
  replace HVx := Lib.hid (HVx.out.kept hbn)
  replace HVy := Lib.hid (HVy.out.kept hbn)
  replace HA := Lib.hid (HA.out.kept hbn)
  replace HA2 := Lib.hid (HA2.out.kept hbn)
  replace HB := Lib.hid (HB.out.trans (hbn.mono HB.out.size))
  have HWB : Hid (InC w3 g0 #[.slice A0 D.length c0] 29) := hbr.box
  have HW0 : Hid (RowRd rLink true w3 (.slice A0 D.length c0) D (fun a => (w2.heap.size ≤ a.block ∧ a.block ≠ g0) ∧ a.block < w3.heap.size)) := hbr.row.tight
  have HG0 : Hid (w2.heap.size ≤ g0 ∧ g0 < w3.heap.size) := ⟨hbr.lo, hbr.box.lt⟩
  clear HKC HTx HTy hbr hbn ha0 hb0
  have HC : Hid (∀ W, Below w3.heap.size w3 W → Calls Try.prog 11 #[.agg #[.slice Ax x.Links.length capx]] W fun e w' => ∃ A0, e = .returned (.agg #[.slice A0 x.Links.length x.Links.length]) ∧ RowRd rLink true w' (.slice A0 x.Links.length x.Links.length) x.Links (fun a => W.heap.size ≤ a.block) ∧ Below W.heap.size W w') := fun W hW => toCandidate_cap x _ W _ (HVx.out.kept hW) HSZx.out
  have bHA := HA.out.cell 0 rfl
  have bbHA := fun o => ((HA.out.kept ((Below.refl w3.heap.size w3).alloc (Nat.le_refl _) o)).cell 0 rfl)
  have bHA2 := HA2.out.cell 0 rfl
  have bbHA2 := fun o => ((HA2.out.kept ((Below.refl w3.heap.size w3).alloc (Nat.le_refl _) o)).cell 0 rfl)
  have bHWB := HWB.out.cell 0 rfl
  have bbHWB := fun o => ((HWB.out.kept ((Below.refl w3.heap.size w3).alloc (Nat.le_refl _) o)).cell 0 rfl)
  go_wp2_with fail
  refine (HC.out _ (by first | exact Below.refl _ _ | exact (Below.refl _ _).alloc (Nat.le_refl _) _ | exact (Below.refl _ _).drew)).mono ?_
  rintro e w4 ⟨Ax0, rfl, hq, hb⟩
  clear bHA bbHA bHA2 bbHA2 bHWB bbHWB
  have hbn : Below w3.heap.size w3 w4 := below_step (by first | exact Below.refl _ _ | exact (Below.refl _ _).alloc (Nat.le_refl _) _ | exact (Below.refl _ _).drew) hb
  have hs4 : Hid (w3.heap.size ≤ w4.heap.size) := hbn.size
  replace HVx := Lib.hid (HVx.out.kept hbn)
  replace HVy := Lib.hid (HVy.out.kept hbn)
  replace HA := Lib.hid (HA.out.kept hbn)
  replace HA2 := Lib.hid (HA2.out.kept hbn)
  replace HB := Lib.hid (HB.out.trans (hbn.mono HB.out.size))
  replace HWB := Lib.hid (HWB.out.kept hbn)
  replace HW0 := Lib.hid (HW0.out.kept hbn)
  have Hx0 : Hid (RowRd rLink true w4 (.slice Ax0 x.Links.length x.Links.length) x.Links (fun a => w3.heap.size ≤ a.block ∧ a.block < w4.heap.size)) := hq.tight
  clear hb hbn HC hq
  have HC : Hid (∀ W, Below w4.heap.size w4 W → Calls Try.prog 11 #[.agg #[.slice Ay y.Links.length capy]] W fun e w' => ∃ A0, e = .returned (.agg #[.slice A0 y.Links.length y.Links.length]) ∧ RowRd rLink true w' (.slice A0 y.Links.length y.Links.length) y.Links (fun a => W.heap.size ≤ a.block) ∧ Below W.heap.size W w') := fun W hW => toCandidate_cap y _ W _ (HVy.out.kept hW) HSZy.out
  have bHA := HA.out.cell 0 rfl
  have bbHA := fun o => ((HA.out.kept ((Below.refl w4.heap.size w4).alloc (Nat.le_refl _) o)).cell 0 rfl)
  have bHA2 := HA2.out.cell 0 rfl
  have bbHA2 := fun o => ((HA2.out.kept ((Below.refl w4.heap.size w4).alloc (Nat.le_refl _) o)).cell 0 rfl)
  have bHWB := HWB.out.cell 0 rfl
  have bbHWB := fun o => ((HWB.out.kept ((Below.refl w4.heap.size w4).alloc (Nat.le_refl _) o)).cell 0 rfl)
  go_wp2_with fail
  refine (HC.out _ (by first | exact Below.refl _ _ | exact (Below.refl _ _).alloc (Nat.le_refl _) _ | exact (Below.refl _ _).drew)).mono ?_
  rintro e w5 ⟨Ax1, rfl, hq, hb⟩
  clear bHA bbHA bHA2 bbHA2 bHWB bbHWB
  have hbn : Below w4.heap.size w4 w5 := below_step (by first | exact Below.refl _ _ | exact (Below.refl _ _).alloc (Nat.le_refl _) _ | exact (Below.refl _ _).drew) hb
  have hs5 : Hid (w4.heap.size ≤ w5.heap.size) := hbn.size
  replace HVx := Lib.hid (HVx.out.kept hbn)
  replace HVy := Lib.hid (HVy.out.kept hbn)
  replace HA := Lib.hid (HA.out.kept hbn)
  replace HA2 := Lib.hid (HA2.out.kept hbn)
  replace HB := Lib.hid (HB.out.trans (hbn.mono HB.out.size))
  replace HWB := Lib.hid (HWB.out.kept hbn)
  replace HW0 := Lib.hid (HW0.out.kept hbn)
  replace Hx0 := Lib.hid (Hx0.out.kept hbn)
  have HX : Hid (InC w5 w4.heap.size #[.slice Ax0 x.Links.length x.Links.length] 29) := (hb.block _ (by simp)).trans (heap_alloc_new _ _)
  have Hx1 : Hid (RowRd rLink true w5 (.slice Ax1 y.Links.length y.Links.length) y.Links (fun a => w4.heap.size < a.block ∧ a.block < w5.heap.size)) := hq.tight.mono (fun a ha => ⟨by have h := ha.1; rw [sizeA] at h; omega, ha.2⟩)
  clear hb hbn HC hq
  have HC : Hid (∀ W, Below w5.heap.size w5 W → Calls Try.prog 23 #[.agg #[.slice Ax0 x.Links.length x.Links.length], .agg #[.slice Ax1 y.Links.length y.Links.length]] W (CdPost D bq W)) := fun W hW => HIM.out _ _ _ _ W (Hx0.out.kept hW) (Hx1.out.kept hW)
  have bHA := HA.out.cell 0 rfl
  have bbHA := fun o => ((HA.out.kept ((Below.refl w5.heap.size w5).alloc (Nat.le_refl _) o)).cell 0 rfl)
  have bHA2 := HA2.out.cell 0 rfl
  have bbHA2 := fun o => ((HA2.out.kept ((Below.refl w5.heap.size w5).alloc (Nat.le_refl _) o)).cell 0 rfl)
  have bHWB := HWB.out.cell 0 rfl
  have bbHWB := fun o => ((HWB.out.kept ((Below.refl w5.heap.size w5).alloc (Nat.le_refl _) o)).cell 0 rfl)
  have bHX := HX.out.cell 0 rfl
  have bbHX := fun o => ((HX.out.kept ((Below.refl w5.heap.size w5).alloc (Nat.le_refl _) o)).cell 0 rfl)
  go_wp2_with fail
  refine (HC.out _ (by first | exact Below.refl _ _ | exact (Below.refl _ _).alloc (Nat.le_refl _) _ | exact (Below.refl _ _).drew)).mono ?_
  rintro e w6 ⟨g1, rfl, hq, hb⟩
  clear bHA bbHA bHA2 bbHA2 bHWB bbHWB bHX bbHX
  have hbn : Below w5.heap.size w5 w6 := below_step (by first | exact Below.refl _ _ | exact (Below.refl _ _).alloc (Nat.le_refl _) _ | exact (Below.refl _ _).drew) hb
  have hs6 : Hid (w5.heap.size ≤ w6.heap.size) := hbn.size
  replace HVx := Lib.hid (HVx.out.kept hbn)
  replace HVy := Lib.hid (HVy.out.kept hbn)
  replace HA := Lib.hid (HA.out.kept hbn)
  replace HA2 := Lib.hid (HA2.out.kept hbn)
  replace HB := Lib.hid (HB.out.trans (hbn.mono HB.out.size))
  replace HWB := Lib.hid (HWB.out.kept hbn)
  replace HW0 := Lib.hid (HW0.out.kept hbn)
  replace Hx0 := Lib.hid (Hx0.out.kept hbn)
  replace HX := Lib.hid (HX.out.kept hbn)
  replace Hx1 := Lib.hid (Hx1.out.kept hbn)
  obtain ⟨Ag, cg, rfl⟩ := hq.form
  have HX1 : Hid (InC w6 w5.heap.size #[.slice Ax1 y.Links.length y.Links.length] 29) := (hb.block _ (by simp)).trans (heap_alloc_new _ _)
  have Hg : Hid (RowRd rLink true w6 (.slice Ag D.length cg) D (fun a => w5.heap.size < a.block ∧ a.block < w6.heap.size)) := hq.tight.mono (fun a ha => ⟨by have h := ha.1; rw [sizeA] at h; omega, ha.2⟩)
  clear hb hbn HC hq
  have HC : Hid (∀ W, Below w6.heap.size w6 W → Calls Try.prog 13 #[.agg #[.slice Ag D.length cg], .agg #[.slice A0 D.length c0]] W fun e w' => e = .returned (.bool true) ∧ Below W.heap.size W w') := fun W hW => eqCandidate_any ⟨D⟩ _ _ W _ _ (Hg.out.kept hW).weak (HW0.out.kept hW).weak
  have bHA := HA.out.cell 0 rfl
  have bbHA := fun o => ((HA.out.kept ((Below.refl w6.heap.size w6).alloc (Nat.le_refl _) o)).cell 0 rfl)
  have bHA2 := HA2.out.cell 0 rfl
  have bbHA2 := fun o => ((HA2.out.kept ((Below.refl w6.heap.size w6).alloc (Nat.le_refl _) o)).cell 0 rfl)
  have bHWB := HWB.out.cell 0 rfl
  have bbHWB := fun o => ((HWB.out.kept ((Below.refl w6.heap.size w6).alloc (Nat.le_refl _) o)).cell 0 rfl)
  have bHX := HX.out.cell 0 rfl
  have bbHX := fun o => ((HX.out.kept ((Below.refl w6.heap.size w6).alloc (Nat.le_refl _) o)).cell 0 rfl)
  have bHX1 := HX1.out.cell 0 rfl
  have bbHX1 := fun o => ((HX1.out.kept ((Below.refl w6.heap.size w6).alloc (Nat.le_refl _) o)).cell 0 rfl)
  go_wp2_with fail
  refine (HC.out _ (by first | exact Below.refl _ _ | exact (Below.refl _ _).alloc (Nat.le_refl _) _ | exact (Below.refl _ _).drew)).mono ?_
  rintro e w7 ⟨rfl, hb⟩
  clear bHA bbHA bHA2 bbHA2 bHWB bbHWB bHX bbHX bHX1 bbHX1
  have hbn : Below w6.heap.size w6 w7 := below_step (by first | exact Below.refl _ _ | exact (Below.refl _ _).alloc (Nat.le_refl _) _ | exact (Below.refl _ _).drew) hb
  have hs7 : Hid (w6.heap.size ≤ w7.heap.size) := hbn.size
  replace HVx := Lib.hid (HVx.out.kept hbn)
  replace HVy := Lib.hid (HVy.out.kept hbn)
  replace HA := Lib.hid (HA.out.kept hbn)
  replace HA2 := Lib.hid (HA2.out.kept hbn)
  replace HB := Lib.hid (HB.out.trans (hbn.mono HB.out.size))
  replace HWB := Lib.hid (HWB.out.kept hbn)
  replace HW0 := Lib.hid (HW0.out.kept hbn)
  replace Hx0 := Lib.hid (Hx0.out.kept hbn)
  replace HX := Lib.hid (HX.out.kept hbn)
  replace Hx1 := Lib.hid (Hx1.out.kept hbn)
  replace HX1 := Lib.hid (HX1.out.kept hbn)
  replace Hg := Lib.hid (Hg.out.kept hbn)
  have HGB : Hid (InC w7 w6.heap.size #[.slice Ag D.length cg] 29) := (hb.block _ (by simp)).trans (heap_alloc_new _ _)
  clear hb hbn HC
  have HT : Hid (∀ W, Below w7.heap.size w7 W → Calls Try.prog 11 #[.agg #[.slice Ax x.Links.length capx]] W fun e w' => ∃ u, e = .returned (.agg #[u]) ∧ RowRd rLink true w' u x.Links (fun a => W.heap.size ≤ a.block) ∧ Below W.heap.size W w') := fun W hW => toCandidate_any x _ W _ (HVx.out.kept hW) HSZx.out
  have HE : Hid (∀ (W : World) (u : Value) (G : Addr → Prop), Below w7.heap.size w7 W → RowRd rLink true W u x.Links G → Calls Try.prog 13 #[.agg #[.slice Ax0 x.Links.length x.Links.length], .agg #[u]] W fun e w' => e = .returned (.bool true) ∧ Below W.heap.size W w') := fun W u G hW hu => eqCandidate_any x _ _ W _ _ (Hx0.out.kept hW).weak hu.weak
  have HXK : Hid (∀ W : World, Below w7.heap.size w7 W → InC W _ #[.slice Ax0 x.Links.length x.Links.length] 29) := fun W hW => HX.out.kept hW
  have bHA := HA.out.cell 0 rfl
  have bbHA := fun o => ((HA.out.kept ((Below.refl w7.heap.size w7).alloc (Nat.le_refl _) o)).cell 0 rfl)
  have bHA2 := HA2.out.cell 0 rfl
  have bbHA2 := fun o => ((HA2.out.kept ((Below.refl w7.heap.size w7).alloc (Nat.le_refl _) o)).cell 0 rfl)
  have bHWB := HWB.out.cell 0 rfl
  have bbHWB := fun o => ((HWB.out.kept ((Below.refl w7.heap.size w7).alloc (Nat.le_refl _) o)).cell 0 rfl)
  have bHX := HX.out.cell 0 rfl
  have bbHX := fun o => ((HX.out.kept ((Below.refl w7.heap.size w7).alloc (Nat.le_refl _) o)).cell 0 rfl)
  have bHX1 := HX1.out.cell 0 rfl
  have bbHX1 := fun o => ((HX1.out.kept ((Below.refl w7.heap.size w7).alloc (Nat.le_refl _) o)).cell 0 rfl)
  have bHGB := HGB.out.cell 0 rfl
  have bbHGB := fun o => ((HGB.out.kept ((Below.refl w7.heap.size w7).alloc (Nat.le_refl _) o)).cell 0 rfl)
  go_upto_region 14 with fail
  go_cut [58] (fun b wx => b = .bool false ∧ Below w7.heap.size w7 wx)
  case first =>
    go_region_with (first | (go_simp; go_at_call 11; refine (HT.out _ ((Below.refl _ _).drew)).mono ?_; rintro e wt ⟨ut, rfl, hqt, hbt0⟩; have hbt : Below w7.heap.size w7 wt := below_step ((Below.refl _ _).drew) hbt0; obtain ⟨At, ct, rfl⟩ := hqt.form; have e0 := (HXK.out _ hbt).cell 0 rfl; have HBT := Lib.hid hbt; have HQT := Lib.hid hqt; clear hbt0 hqt hbt) | (go_simp; go_at_call 13; refine (HE.out _ _ _ HBT.out HQT.out).mono ?_; rintro e wz ⟨rfl, hbz0⟩; have HBZ := Lib.hid (below_step HBT.out hbz0); clear hbz0))
    all_goals
      go_wp2_with fail
      go_meet
      exact ⟨rfl, HBZ.out⟩
  case rest =>
  obtain ⟨rfl, hbn⟩ := hcut
  clear bHA bbHA bHA2 bbHA2 bHWB bbHWB bHX bbHX bHX1 bbHX1 bHGB bbHGB
  clear HT HE HXK
  generalize wc = w8 at *
  have hs8 : Hid (w7.heap.size ≤ w8.heap.size) := hbn.size
  replace HVx := Lib.hid (HVx.out.kept hbn)
  replace HVy := Lib.hid (HVy.out.kept hbn)
  replace HA := Lib.hid (HA.out.kept hbn)
  replace HA2 := Lib.hid (HA2.out.kept hbn)
  replace HB := Lib.hid (HB.out.trans (hbn.mono HB.out.size))
  replace HWB := Lib.hid (HWB.out.kept hbn)
  replace HW0 := Lib.hid (HW0.out.kept hbn)
  replace Hx0 := Lib.hid (Hx0.out.kept hbn)
  replace HX := Lib.hid (HX.out.kept hbn)
  replace Hx1 := Lib.hid (Hx1.out.kept hbn)
  replace HX1 := Lib.hid (HX1.out.kept hbn)
  replace Hg := Lib.hid (Hg.out.kept hbn)
  replace HGB := Lib.hid (HGB.out.kept hbn)
  clear hbn
  have HT : Hid (∀ W, Below w8.heap.size w8 W → Calls Try.prog 11 #[.agg #[.slice Ay y.Links.length capy]] W fun e w' => ∃ u, e = .returned (.agg #[u]) ∧ RowRd rLink true w' u y.Links (fun a => W.heap.size ≤ a.block) ∧ Below W.heap.size W w') := fun W hW => toCandidate_any y _ W _ (HVy.out.kept hW) HSZy.out
  have HE : Hid (∀ (W : World) (u : Value) (G : Addr → Prop), Below w8.heap.size w8 W → RowRd rLink true W u y.Links G → Calls Try.prog 13 #[.agg #[.slice Ax1 y.Links.length y.Links.length], .agg #[u]] W fun e w' => e = .returned (.bool true) ∧ Below W.heap.size W w') := fun W u G hW hu => eqCandidate_any y _ _ W _ _ (Hx1.out.kept hW).weak hu.weak
  have HXK : Hid (∀ W : World, Below w8.heap.size w8 W → InC W _ #[.slice Ax1 y.Links.length y.Links.length] 29) := fun W hW => HX1.out.kept hW
  have bHA := HA.out.cell 0 rfl
  have bbHA := fun o => ((HA.out.kept ((Below.refl w8.heap.size w8).alloc (Nat.le_refl _) o)).cell 0 rfl)
  have bHA2 := HA2.out.cell 0 rfl
  have bbHA2 := fun o => ((HA2.out.kept ((Below.refl w8.heap.size w8).alloc (Nat.le_refl _) o)).cell 0 rfl)
  have bHWB := HWB.out.cell 0 rfl
  have bbHWB := fun o => ((HWB.out.kept ((Below.refl w8.heap.size w8).alloc (Nat.le_refl _) o)).cell 0 rfl)
  have bHX := HX.out.cell 0 rfl
  have bbHX := fun o => ((HX.out.kept ((Below.refl w8.heap.size w8).alloc (Nat.le_refl _) o)).cell 0 rfl)
  have bHX1 := HX1.out.cell 0 rfl
  have bbHX1 := fun o => ((HX1.out.kept ((Below.refl w8.heap.size w8).alloc (Nat.le_refl _) o)).cell 0 rfl)
  have bHGB := HGB.out.cell 0 rfl
  have bbHGB := fun o => ((HGB.out.kept ((Below.refl w8.heap.size w8).alloc (Nat.le_refl _) o)).cell 0 rfl)
  go_upto_region 16 with fail
  go_cut [63] (fun b wx => b = .bool false ∧ Below w8.heap.size w8 wx)
  case first =>
    go_region_with (first | (go_simp; go_at_call 11; refine (HT.out _ ((Below.refl _ _).drew)).mono ?_; rintro e wt ⟨ut, rfl, hqt, hbt0⟩; have hbt : Below w8.heap.size w8 wt := below_step ((Below.refl _ _).drew) hbt0; obtain ⟨At, ct, rfl⟩ := hqt.form; have e0 := (HXK.out _ hbt).cell 0 rfl; have HBT := Lib.hid hbt; have HQT := Lib.hid hqt; clear hbt0 hqt hbt) | (go_simp; go_at_call 13; refine (HE.out _ _ _ HBT.out HQT.out).mono ?_; rintro e wz ⟨rfl, hbz0⟩; have HBZ := Lib.hid (below_step HBT.out hbz0); clear hbz0))
    all_goals
      go_wp2_with fail
      go_meet
      exact ⟨rfl, HBZ.out⟩
  case rest =>
  obtain ⟨rfl, hbn⟩ := hcut
  clear bHA bbHA bHA2 bbHA2 bHWB bbHWB bHX bbHX bHX1 bbHX1 bHGB bbHGB
  clear HT HE HXK
  generalize wc = w9 at *
  have hs9 : Hid (w8.heap.size ≤ w9.heap.size) := hbn.size
  replace HVx := Lib.hid (HVx.out.kept hbn)
  replace HVy := Lib.hid (HVy.out.kept hbn)
  replace HA := Lib.hid (HA.out.kept hbn)
  replace HA2 := Lib.hid (HA2.out.kept hbn)
  replace HB := Lib.hid (HB.out.trans (hbn.mono HB.out.size))
  replace HWB := Lib.hid (HWB.out.kept hbn)
  replace HW0 := Lib.hid (HW0.out.kept hbn)
  replace Hx0 := Lib.hid (Hx0.out.kept hbn)
  replace HX := Lib.hid (HX.out.kept hbn)
  replace Hx1 := Lib.hid (Hx1.out.kept hbn)
  replace HX1 := Lib.hid (HX1.out.kept hbn)
  replace Hg := Lib.hid (Hg.out.kept hbn)
  replace HGB := Lib.hid (HGB.out.kept hbn)
  clear hbn
  have HCD : Hid (1 + cntRow rLink D ≤ 1000000000) := by unfold Hid; have h1 := cnt_links D; have h2 := HCL.out; omega
  obtain ⟨kx, hkx⟩ : ∃ q : Nat, 1 + cntRow rLink x.Links = q := ⟨_, rfl⟩
  obtain ⟨ky, hky⟩ : ∃ q : Nat, kx + cntRow rLink y.Links = q := ⟨_, rfl⟩
  have hkx1 : kx ≤ 2100000 := by have h1 := cnt_links x.Links; have h2 := HFLx.out; omega
  have hky1 : ky ≤ 5000000 := by have h1 := cnt_links y.Links; have h2 := HFLy.out; omega
  have hkx0 : 1 ≤ kx := by omega
  have hnx : ¬ ((kx : Nat) : Int) < 0 := by omega
  have hny : ¬ ((ky : Nat) : Int) < 0 := by omega
  have HAL0 : Hid (w.heap.size + 1 < w1.heap.size) := HA2w1.out
  replace HX1 : Hid (BoxC w9 w5.heap.size (.slice Ax1 y.Links.length y.Links.length)) := ⟨InC.cell HX1.out 0 rfl, InC.lt HX1.out⟩
  replace HGB : Hid (BoxC w9 w6.heap.size (.slice Ag D.length cg)) := ⟨InC.cell HGB.out 0 rfl, InC.lt HGB.out⟩
  have HXc : Hid (BoxC w9 w4.heap.size (.slice Ax0 x.Links.length x.Links.length)) := ⟨InC.cell HX.out 0 rfl, InC.lt HX.out⟩
  clear HX
  have HM := Lib.hid (markCandidate_any x (.slice Ax0 x.Links.length x.Links.length) 1 1 rfl w3.heap.size _ w9 (by have := hs1.out; have := hs2.out; have := hs3.out; have := hs4.out; have := hs5.out; have := hs6.out; have := hs7.out; have := hs8.out; have := hs9.out; omega) (fun a ha => by omega) (by omega) (Nat.le_refl 1) Hx0.out)
  rw [hkx] at HM
  have bHX1 := HX1.out.1
  have bbHX1 := fun o => (HX1.out.kept ((Below.refl w9.heap.size w9).alloc (Nat.le_refl _) o)).1
  have bHGB := HGB.out.1
  have bbHGB := fun o => (HGB.out.kept ((Below.refl w9.heap.size w9).alloc (Nat.le_refl _) o)).1
  have bHXc := HXc.out.1
  have bbHXc := fun o => (HXc.out.kept ((Below.refl w9.heap.size w9).alloc (Nat.le_refl _) o)).1
  have bHA := HA.out.cell 0 rfl
  have bbHA := fun o => ((HA.out.kept ((Below.refl w9.heap.size w9).alloc (Nat.le_refl _) o)).cell 0 rfl)
  have bHA2 := HA2.out.cell 0 rfl
  have bbHA2 := fun o => ((HA2.out.kept ((Below.refl w9.heap.size w9).alloc (Nat.le_refl _) o)).cell 0 rfl)
  have bHWB := HWB.out.cell 0 rfl
  have bbHWB := fun o => ((HWB.out.kept ((Below.refl w9.heap.size w9).alloc (Nat.le_refl _) o)).cell 0 rfl)
  go_wp2_with fail
  refine HM.out.mono ?_
  rintro e w10 ⟨rfl, hq, hu, hb⟩
  clear bHA bbHA bHA2 bbHA2 bHWB bbHWB bHX1 bbHX1 bHGB bbHGB bHXc bbHXc
  have hs10 : Hid (w9.heap.size ≤ w10.heap.size) := hb.size
  replace HVx := Lib.hid (HVx.out.apart hu (fun a ha hf => by have := HG0.out; have := hs1.out; have := hs2.out; have := hs3.out; have := hs4.out; have := hs5.out; have := hs6.out; have := hs7.out; have := hs8.out; have := hs9.out; have := hs10.out; omega))
  replace HVy := Lib.hid (HVy.out.apart hu (fun a ha hf => by have := HG0.out; have := hs1.out; have := hs2.out; have := hs3.out; have := hs4.out; have := hs5.out; have := hs6.out; have := hs7.out; have := hs8.out; have := hs9.out; have := hs10.out; omega))
  replace HA := Lib.hid (InC.keptB HA.out hb (by have := HG0.out; have := HAL0.out; have := hs1.out; have := hs2.out; have := hs3.out; have := hs4.out; have := hs5.out; have := hs6.out; have := hs7.out; have := hs8.out; have := hs9.out; have := hs10.out; omega))
  replace HA2 := Lib.hid (InC.keptB HA2.out hb (by have := HG0.out; have := HAL0.out; have := hs1.out; have := hs2.out; have := hs3.out; have := hs4.out; have := hs5.out; have := hs6.out; have := hs7.out; have := hs8.out; have := hs9.out; have := hs10.out; omega))
  replace HB := Lib.hid (HB.out.trans (hb.mono (by have := hs1.out; have := hs2.out; have := hs3.out; have := hs4.out; have := hs5.out; have := hs6.out; have := hs7.out; have := hs8.out; have := hs9.out; have := hs10.out; omega)))
  replace HWB := Lib.hid (InC.keptB HWB.out hb (by have := HG0.out; have := HAL0.out; have := hs1.out; have := hs2.out; have := hs3.out; have := hs4.out; have := hs5.out; have := hs6.out; have := hs7.out; have := hs8.out; have := hs9.out; have := hs10.out; omega))
  replace HW0 := Lib.hid (HW0.out.apart hu (fun a ha hf => by have := HG0.out; have := hs1.out; have := hs2.out; have := hs3.out; have := hs4.out; have := hs5.out; have := hs6.out; have := hs7.out; have := hs8.out; have := hs9.out; have := hs10.out; omega))
  replace Hx0 := Lib.hid hq
  replace Hx1 := Lib.hid (Hx1.out.apart hu (fun a ha hf => by have := HG0.out; have := hs1.out; have := hs2.out; have := hs3.out; have := hs4.out; have := hs5.out; have := hs6.out; have := hs7.out; have := hs8.out; have := hs9.out; have := hs10.out; omega))
  replace HX1 := Lib.hid (HX1.out.apart hu (fun hf => by have h1 := hf.1; have h2 := hf.2; dsimp only at h1 h2; have := hs1.out; have := hs2.out; have := hs3.out; have := hs4.out; have := hs5.out; have := hs6.out; have := hs7.out; have := hs8.out; have := hs9.out; have := hs10.out; omega))
  replace Hg := Lib.hid (Hg.out.apart hu (fun a ha hf => by have := HG0.out; have := hs1.out; have := hs2.out; have := hs3.out; have := hs4.out; have := hs5.out; have := hs6.out; have := hs7.out; have := hs8.out; have := hs9.out; have := hs10.out; omega))
  replace HGB := Lib.hid (HGB.out.apart hu (fun hf => by have h1 := hf.1; have h2 := hf.2; dsimp only at h1 h2; have := hs1.out; have := hs2.out; have := hs3.out; have := hs4.out; have := hs5.out; have := hs6.out; have := hs7.out; have := hs8.out; have := hs9.out; have := hs10.out; omega))
  replace HXc := Lib.hid (HXc.out.apart hu (fun hf => by have h1 := hf.1; have h2 := hf.2; dsimp only at h1 h2; have := hs1.out; have := hs2.out; have := hs3.out; have := hs4.out; have := hs5.out; have := hs6.out; have := hs7.out; have := hs8.out; have := hs9.out; have := hs10.out; omega))
  clear HM hq hu hb
  clear Hx0
  have HM := Lib.hid (markCandidate_any y (.slice Ax1 y.Links.length y.Links.length) kx kx rfl w4.heap.size _ w10 (by have := hs1.out; have := hs2.out; have := hs3.out; have := hs4.out; have := hs5.out; have := hs6.out; have := hs7.out; have := hs8.out; have := hs9.out; have := hs10.out; omega) (fun a ha => by omega) (by omega) hkx0 Hx1.out)
  rw [hky] at HM
  have bHX1 := HX1.out.1
  have bbHX1 := fun o => (HX1.out.kept ((Below.refl w10.heap.size w10).alloc (Nat.le_refl _) o)).1
  have bHGB := HGB.out.1
  have bbHGB := fun o => (HGB.out.kept ((Below.refl w10.heap.size w10).alloc (Nat.le_refl _) o)).1
  have bHXc := HXc.out.1
  have bbHXc := fun o => (HXc.out.kept ((Below.refl w10.heap.size w10).alloc (Nat.le_refl _) o)).1
  have bHA := HA.out.cell 0 rfl
  have bbHA := fun o => ((HA.out.kept ((Below.refl w10.heap.size w10).alloc (Nat.le_refl _) o)).cell 0 rfl)
  have bHA2 := HA2.out.cell 0 rfl
  have bbHA2 := fun o => ((HA2.out.kept ((Below.refl w10.heap.size w10).alloc (Nat.le_refl _) o)).cell 0 rfl)
  have bHWB := HWB.out.cell 0 rfl
  have bbHWB := fun o => ((HWB.out.kept ((Below.refl w10.heap.size w10).alloc (Nat.le_refl _) o)).cell 0 rfl)
  go_wp2_with fail
  refine HM.out.mono ?_
  rintro e w11 ⟨rfl, hq, hu, hb⟩
  clear bHA bbHA bHA2 bbHA2 bHWB bbHWB bHX1 bbHX1 bHGB bbHGB bHXc bbHXc
  have hs11 : Hid (w10.heap.size ≤ w11.heap.size) := hb.size
  replace HVx := Lib.hid (HVx.out.apart hu (fun a ha hf => by have := HG0.out; have := hs1.out; have := hs2.out; have := hs3.out; have := hs4.out; have := hs5.out; have := hs6.out; have := hs7.out; have := hs8.out; have := hs9.out; have := hs10.out; have := hs11.out; omega))
  replace HVy := Lib.hid (HVy.out.apart hu (fun a ha hf => by have := HG0.out; have := hs1.out; have := hs2.out; have := hs3.out; have := hs4.out; have := hs5.out; have := hs6.out; have := hs7.out; have := hs8.out; have := hs9.out; have := hs10.out; have := hs11.out; omega))
  replace HA := Lib.hid (InC.keptB HA.out hb (by have := HG0.out; have := HAL0.out; have := hs1.out; have := hs2.out; have := hs3.out; have := hs4.out; have := hs5.out; have := hs6.out; have := hs7.out; have := hs8.out; have := hs9.out; have := hs10.out; have := hs11.out; omega))
  replace HA2 := Lib.hid (InC.keptB HA2.out hb (by have := HG0.out; have := HAL0.out; have := hs1.out; have := hs2.out; have := hs3.out; have := hs4.out; have := hs5.out; have := hs6.out; have := hs7.out; have := hs8.out; have := hs9.out; have := hs10.out; have := hs11.out; omega))
  replace HB := Lib.hid (HB.out.trans (hb.mono (by have := hs1.out; have := hs2.out; have := hs3.out; have := hs4.out; have := hs5.out; have := hs6.out; have := hs7.out; have := hs8.out; have := hs9.out; have := hs10.out; have := hs11.out; omega)))
  replace HWB := Lib.hid (InC.keptB HWB.out hb (by have := HG0.out; have := HAL0.out; have := hs1.out; have := hs2.out; have := hs3.out; have := hs4.out; have := hs5.out; have := hs6.out; have := hs7.out; have := hs8.out; have := hs9.out; have := hs10.out; have := hs11.out; omega))
  replace HW0 := Lib.hid (HW0.out.apart hu (fun a ha hf => by have := HG0.out; have := hs1.out; have := hs2.out; have := hs3.out; have := hs4.out; have := hs5.out; have := hs6.out; have := hs7.out; have := hs8.out; have := hs9.out; have := hs10.out; have := hs11.out; omega))
  replace Hx1 := Lib.hid hq
  replace HX1 := Lib.hid (HX1.out.apart hu (fun hf => by have h1 := hf.1; have h2 := hf.2; dsimp only at h1 h2; have := hs1.out; have := hs2.out; have := hs3.out; have := hs4.out; have := hs5.out; have := hs6.out; have := hs7.out; have := hs8.out; have := hs9.out; have := hs10.out; have := hs11.out; omega))
  replace Hg := Lib.hid (Hg.out.apart hu (fun a ha hf => by have := HG0.out; have := hs1.out; have := hs2.out; have := hs3.out; have := hs4.out; have := hs5.out; have := hs6.out; have := hs7.out; have := hs8.out; have := hs9.out; have := hs10.out; have := hs11.out; omega))
  replace HGB := Lib.hid (HGB.out.apart hu (fun hf => by have h1 := hf.1; have h2 := hf.2; dsimp only at h1 h2; have := hs1.out; have := hs2.out; have := hs3.out; have := hs4.out; have := hs5.out; have := hs6.out; have := hs7.out; have := hs8.out; have := hs9.out; have := hs10.out; have := hs11.out; omega))
  replace HXc := Lib.hid (HXc.out.apart hu (fun hf => by have h1 := hf.1; have h2 := hf.2; dsimp only at h1 h2; have := hs1.out; have := hs2.out; have := hs3.out; have := hs4.out; have := hs5.out; have := hs6.out; have := hs7.out; have := hs8.out; have := hs9.out; have := hs10.out; have := hs11.out; omega))
  clear HM hq hu hb
  clear Hx1
  clear HXc
  clear HX1
  have HC : Hid (∀ W, Below w11.heap.size w11 W → Calls Try.prog 13 #[.agg #[.slice Ag D.length cg], .agg #[.slice A0 D.length c0]] W fun e w' => e = .returned (.bool true) ∧ Below W.heap.size W w') := fun W hW => eqCandidate_any ⟨D⟩ _ _ W _ _ (Hg.out.kept hW).weak (HW0.out.kept hW).weak
  have bHGB := HGB.out.1
  have bbHGB := fun o => (HGB.out.kept ((Below.refl w11.heap.size w11).alloc (Nat.le_refl _) o)).1
  have bHA := HA.out.cell 0 rfl
  have bbHA := fun o => ((HA.out.kept ((Below.refl w11.heap.size w11).alloc (Nat.le_refl _) o)).cell 0 rfl)
  have bHA2 := HA2.out.cell 0 rfl
  have bbHA2 := fun o => ((HA2.out.kept ((Below.refl w11.heap.size w11).alloc (Nat.le_refl _) o)).cell 0 rfl)
  have bHWB := HWB.out.cell 0 rfl
  have bbHWB := fun o => ((HWB.out.kept ((Below.refl w11.heap.size w11).alloc (Nat.le_refl _) o)).cell 0 rfl)
  go_wp2_with fail
  refine (HC.out _ (by first | exact Below.refl _ _ | exact (Below.refl _ _).alloc (Nat.le_refl _) _ | exact (Below.refl _ _).drew)).mono ?_
  rintro e w12 ⟨rfl, hb⟩
  clear bHA bbHA bHA2 bbHA2 bHWB bbHWB bHGB bbHGB
  have hbn : Below w11.heap.size w11 w12 := below_step (by first | exact Below.refl _ _ | exact (Below.refl _ _).alloc (Nat.le_refl _) _ | exact (Below.refl _ _).drew) hb
  have hs12 : Hid (w11.heap.size ≤ w12.heap.size) := hbn.size
  replace HVx := Lib.hid (HVx.out.kept hbn)
  replace HVy := Lib.hid (HVy.out.kept hbn)
  replace HA := Lib.hid (HA.out.kept hbn)
  replace HA2 := Lib.hid (HA2.out.kept hbn)
  replace HB := Lib.hid (HB.out.trans (hbn.mono HB.out.size))
  replace HWB := Lib.hid (HWB.out.kept hbn)
  replace HW0 := Lib.hid (HW0.out.kept hbn)
  replace Hg := Lib.hid (Hg.out.kept hbn)
  replace HGB := Lib.hid (HGB.out.kept hbn)
  clear hb hbn HC
  obtain ⟨kd, hkd⟩ : ∃ q : Nat, 1 + cntRow rLink D = q := ⟨_, rfl⟩
  have hnd : ¬ ((kd : Nat) : Int) < 0 := by omega
  have HM := Lib.hid (markCandidate_any ⟨D⟩ (.slice Ag D.length cg) 1 1 rfl w5.heap.size _ w12 (by have := hs1.out; have := hs2.out; have := hs3.out; have := hs4.out; have := hs5.out; have := hs6.out; have := hs7.out; have := hs8.out; have := hs9.out; have := hs10.out; have := hs11.out; have := hs12.out; omega) (fun a ha => by omega) HCD.out (Nat.le_refl 1) Hg.out)
  rw [show (⟨D⟩ : DCandidate).Links = D from rfl, hkd] at HM
  have bHGB := HGB.out.1
  have bbHGB := fun o => (HGB.out.kept ((Below.refl w12.heap.size w12).alloc (Nat.le_refl _) o)).1
  have bHA := HA.out.cell 0 rfl
  have bbHA := fun o => ((HA.out.kept ((Below.refl w12.heap.size w12).alloc (Nat.le_refl _) o)).cell 0 rfl)
  have bHA2 := HA2.out.cell 0 rfl
  have bbHA2 := fun o => ((HA2.out.kept ((Below.refl w12.heap.size w12).alloc (Nat.le_refl _) o)).cell 0 rfl)
  have bHWB := HWB.out.cell 0 rfl
  have bbHWB := fun o => ((HWB.out.kept ((Below.refl w12.heap.size w12).alloc (Nat.le_refl _) o)).cell 0 rfl)
  go_wp2_with fail
  refine HM.out.mono ?_
  rintro e w13 ⟨rfl, hq, hu, hb⟩
  clear bHA bbHA bHA2 bbHA2 bHWB bbHWB bHGB bbHGB
  have hs13 : Hid (w12.heap.size ≤ w13.heap.size) := hb.size
  replace HVx := Lib.hid (HVx.out.apart hu (fun a ha hf => by have := HG0.out; have := hs1.out; have := hs2.out; have := hs3.out; have := hs4.out; have := hs5.out; have := hs6.out; have := hs7.out; have := hs8.out; have := hs9.out; have := hs10.out; have := hs11.out; have := hs12.out; have := hs13.out; omega))
  replace HVy := Lib.hid (HVy.out.apart hu (fun a ha hf => by have := HG0.out; have := hs1.out; have := hs2.out; have := hs3.out; have := hs4.out; have := hs5.out; have := hs6.out; have := hs7.out; have := hs8.out; have := hs9.out; have := hs10.out; have := hs11.out; have := hs12.out; have := hs13.out; omega))
  replace HA := Lib.hid (InC.keptB HA.out hb (by have := HG0.out; have := HAL0.out; have := hs1.out; have := hs2.out; have := hs3.out; have := hs4.out; have := hs5.out; have := hs6.out; have := hs7.out; have := hs8.out; have := hs9.out; have := hs10.out; have := hs11.out; have := hs12.out; have := hs13.out; omega))
  replace HA2 := Lib.hid (InC.keptB HA2.out hb (by have := HG0.out; have := HAL0.out; have := hs1.out; have := hs2.out; have := hs3.out; have := hs4.out; have := hs5.out; have := hs6.out; have := hs7.out; have := hs8.out; have := hs9.out; have := hs10.out; have := hs11.out; have := hs12.out; have := hs13.out; omega))
  replace HB := Lib.hid (HB.out.trans (hb.mono (by have := hs1.out; have := hs2.out; have := hs3.out; have := hs4.out; have := hs5.out; have := hs6.out; have := hs7.out; have := hs8.out; have := hs9.out; have := hs10.out; have := hs11.out; have := hs12.out; have := hs13.out; omega)))
  replace HWB := Lib.hid (InC.keptB HWB.out hb (by have := HG0.out; have := HAL0.out; have := hs1.out; have := hs2.out; have := hs3.out; have := hs4.out; have := hs5.out; have := hs6.out; have := hs7.out; have := hs8.out; have := hs9.out; have := hs10.out; have := hs11.out; have := hs12.out; have := hs13.out; omega))
  replace HW0 := Lib.hid (HW0.out.apart hu (fun a ha hf => by have := HG0.out; have := hs1.out; have := hs2.out; have := hs3.out; have := hs4.out; have := hs5.out; have := hs6.out; have := hs7.out; have := hs8.out; have := hs9.out; have := hs10.out; have := hs11.out; have := hs12.out; have := hs13.out; omega))
  replace Hg := Lib.hid hq
  replace HGB := Lib.hid (HGB.out.apart hu (fun hf => by have h1 := hf.1; have h2 := hf.2; dsimp only at h1 h2; have := hs1.out; have := hs2.out; have := hs3.out; have := hs4.out; have := hs5.out; have := hs6.out; have := hs7.out; have := hs8.out; have := hs9.out; have := hs10.out; have := hs11.out; have := hs12.out; have := hs13.out; omega))
  clear HM hq hu hb
  have HC : Hid (∀ W, Below w13.heap.size w13 W → Calls Try.prog 25 #[.agg #[.slice Ag D.length cg], .int .i64 1] W fun e w' => e = .returned (.int .i64 ((kd : Nat) : Int)) ∧ Below W.heap.size W w') := fun W hW => by have h := heldCandidate_any ⟨D⟩ (.slice Ag D.length cg) D 1 1 rfl _ W HCD.out (Nat.le_refl 1) (Hg.out.kept hW).weak; rw [hkd] at h; exact h
  have bHGB := HGB.out.1
  have bbHGB := fun o => (HGB.out.kept ((Below.refl w13.heap.size w13).alloc (Nat.le_refl _) o)).1
  have bHA := HA.out.cell 0 rfl
  have bbHA := fun o => ((HA.out.kept ((Below.refl w13.heap.size w13).alloc (Nat.le_refl _) o)).cell 0 rfl)
  have bHA2 := HA2.out.cell 0 rfl
  have bbHA2 := fun o => ((HA2.out.kept ((Below.refl w13.heap.size w13).alloc (Nat.le_refl _) o)).cell 0 rfl)
  have bHWB := HWB.out.cell 0 rfl
  have bbHWB := fun o => ((HWB.out.kept ((Below.refl w13.heap.size w13).alloc (Nat.le_refl _) o)).cell 0 rfl)
  go_wp2_with fail
  refine (HC.out _ (by first | exact Below.refl _ _ | exact (Below.refl _ _).alloc (Nat.le_refl _) _ | exact (Below.refl _ _).drew)).mono ?_
  rintro e w14 ⟨rfl, hb⟩
  clear bHA bbHA bHA2 bbHA2 bHWB bbHWB bHGB bbHGB
  have hbn : Below w13.heap.size w13 w14 := below_step (by first | exact Below.refl _ _ | exact (Below.refl _ _).alloc (Nat.le_refl _) _ | exact (Below.refl _ _).drew) hb
  have hs14 : Hid (w13.heap.size ≤ w14.heap.size) := hbn.size
  replace HVx := Lib.hid (HVx.out.kept hbn)
  replace HVy := Lib.hid (HVy.out.kept hbn)
  replace HA := Lib.hid (HA.out.kept hbn)
  replace HA2 := Lib.hid (HA2.out.kept hbn)
  replace HB := Lib.hid (HB.out.trans (hbn.mono HB.out.size))
  replace HWB := Lib.hid (HWB.out.kept hbn)
  replace HW0 := Lib.hid (HW0.out.kept hbn)
  replace Hg := Lib.hid (Hg.out.kept hbn)
  replace HGB := Lib.hid (HGB.out.kept hbn)
  clear hb hbn HC
  have HKC : Hid (∀ W : World, Below w14.heap.size w14 W → W.cell? ⟨w.heap.size, 0, none⟩ = some (.slice Ax x.Links.length capx) ∧ W.cell? ⟨w.heap.size + 1, 0, none⟩ = some (.slice Ay y.Links.length capy)) := fun W hW => ⟨(HA.out.kept hW).cell 0 rfl, (HA2.out.kept hW).cell 0 rfl⟩
  have HTx : Hid (∀ W, Below w14.heap.size w14 W → Calls Try.prog 11 #[.agg #[.slice Ax x.Links.length capx]] W fun e w' => ∃ A0, e = .returned (.agg #[.slice A0 x.Links.length x.Links.length]) ∧ RowRd rLink true w' (.slice A0 x.Links.length x.Links.length) x.Links (fun a => W.heap.size ≤ a.block) ∧ Below W.heap.size W w' ∧ Below w14.heap.size w14 w') := fun W hW => (toCandidate_cap x _ W _ (HVx.out.kept hW) HSZx.out).mono fun e w' ⟨A0, h1, h2, h3⟩ => ⟨A0, h1, h2, h3, below_step hW h3⟩
  have HTy : Hid (∀ W, Below w14.heap.size w14 W → Calls Try.prog 11 #[.agg #[.slice Ay y.Links.length capy]] W fun e w' => ∃ A0, e = .returned (.agg #[.slice A0 y.Links.length y.Links.length]) ∧ RowRd rLink true w' (.slice A0 y.Links.length y.Links.length) y.Links (fun a => W.heap.size ≤ a.block) ∧ Below W.heap.size W w' ∧ Below w14.heap.size w14 w') := fun W hW => (toCandidate_cap y _ W _ (HVy.out.kept hW) HSZy.out).mono fun e w' ⟨A0, h1, h2, h3⟩ => ⟨A0, h1, h2, h3, below_step hW h3⟩
  have ha0 := HA.out.cell 0 rfl
  have hb0 := HA2.out.cell 0 rfl
  go_upto_region 31 with fail
  go_cut [15, 16] (fun p b wx => ∃ (g : Nat) (A0 : Option Addr) (c0 : Nat), p = .pointer (some ⟨g, 0, none⟩) ∧ b = .bool bq ∧ BoxRow w14 D g (.slice A0 D.length c0) wx)
  case first =>
    have hbe : Below w14.heap.size w14 w14.drew := (Below.refl _ _).drew
    go_region_held3 (fun w' => w'.cell? ⟨w.heap.size, 0, none⟩ = some (.slice Ax x.Links.length capx) ∧ w'.cell? ⟨w.heap.size + 1, 0, none⟩ = some (.slice Ay y.Links.length capy))
      (first | with_reducible exact HKC.out _ hbe | with_reducible exact HKC.out _ (bel_al hbe _) | exact HKC.out _ (hbe.setCell (by first | exact hza | exact hzb | exact Nat.le_refl _) _) | go_keep)
      (first
        | (go_at_call_of 11 (Value.agg #[Value.slice Ax x.Links.length capx]); refine (HTx.out _ ?_).mono ?_; (first | with_reducible exact hbe | with_reducible exact bel_al hbe _ | exact (Below.refl _ _).drew | exact bel_al (Below.refl _ _).drew _); rintro e wa ⟨A5, rfl, hq5, hs5, hbe⟩; have hza := Below.size hbe; have HQX := Lib.hid hq5; have HAL := Lib.hid hs5; (first | (with_reducible (have hbox := boxThrough hs5)) | (with_reducible (have hbox := boxThroughD hs5)) | (with_reducible (have hbox := InC.kept hbox hs5)) | skip); (try have hbc := InC.cell hbox 0 rfl); (try have hbf := InC.free hbox 0))
        | (go_at_call_of 11 (Value.agg #[Value.slice Ay y.Links.length capy]); refine (HTy.out _ ?_).mono ?_; (first | with_reducible exact hbe | with_reducible exact bel_al hbe _ | exact (Below.refl _ _).drew | exact bel_al (Below.refl _ _).drew _); rintro e wb ⟨A6, rfl, hq6, hs6, hbe⟩; have hzb := Below.size hbe; have HQY := Lib.hid hq6; have HBL := Lib.hid hs6; (first | (with_reducible (have hbox := boxThrough hs6)) | (with_reducible (have hbox := boxThroughD hs6)) | (with_reducible (have hbox := InC.kept hbox hs6)) | skip); (try have hbc := InC.cell hbox 0 rfl); (try have hbf := InC.free hbox 0); have HQX2 := Lib.hid (HQX.out.kept (by first | with_reducible exact hs6 | exact below_step ((Below.refl _ _).alloc (Nat.le_refl _) _) hs6)))
        | (go_at_call 23; refine (HIM.out A5 A6 _ _ _ (by first | with_reducible exact HQX2.out | exact HQX2.out.kept ((Below.refl _ _).alloc (Nat.le_refl _) _)) (by first | with_reducible exact HQY.out | exact HQY.out.kept ((Below.refl _ _).alloc (Nat.le_refl _) _))).mono ?_; rintro e wz ⟨u, rfl, hqz, hsz⟩; obtain ⟨A7, c7, rfl⟩ := hqz.form; have HQZ := Lib.hid hqz; have HZL := Lib.hid hsz; (first | (with_reducible (have hbox := boxThrough hsz)) | (with_reducible (have hbox := boxThroughD hsz)) | (with_reducible (have hbox := InC.kept hbox hsz)) | skip); (try have hbc := InC.cell hbox 0 rfl); (try have hbf := InC.free hbox 0); have hbe : Below w14.heap.size w14 wz := below_step (by first | with_reducible exact hbe | with_reducible exact bel_al hbe _) hsz))
    all_goals
      go_wp2_with fail
      go_meet
      first
        | exact ⟨_, _, _, rfl, rfl, boxNew HQZ.out (by first | exact hzb | exact Nat.le_trans hzb (by simp)) hbe⟩
        | exact ⟨_, _, _, rfl, rfl, boxOld hbox (by first | exact hzb | exact hza | exact Nat.le_refl _) HQZ.out (by first | (have h1 := HBL.out.size; rw [sizeA] at h1; omega) | (have h1 := HBL.out.size; have h2 := HAL.out.size; rw [sizeD] at h2; omega) | simp) hbe⟩
  case rest =>
  obtain ⟨gh, Ah, ch, rfl, rfl, hbr⟩ := hcut
  have hbn : Below w14.heap.size w14 wc := hbr.bel
  generalize wc = w15 at *
  have hs15 : Hid (w14.heap.size ≤ w15.heap.size) := hbn.size
  replace HVx := Lib.hid (HVx.out.kept hbn)
  replace HVy := Lib.hid (HVy.out.kept hbn)
  replace HA := Lib.hid (HA.out.kept hbn)
  replace HA2 := Lib.hid (HA2.out.kept hbn)
  replace HB := Lib.hid (HB.out.trans (hbn.mono HB.out.size))
  replace HWB := Lib.hid (HWB.out.kept hbn)
  replace HW0 := Lib.hid (HW0.out.kept hbn)
  replace Hg := Lib.hid (Hg.out.kept hbn)
  replace HGB := Lib.hid (HGB.out.kept hbn)
  have HHB : Hid (InC w15 gh #[.slice Ah D.length ch] 29) := hbr.box
  have Hh : Hid (RowRd rLink true w15 (.slice Ah D.length ch) D (fun _ => True)) := hbr.row.mono fun _ _ => trivial
  clear HKC HTx HTy hbr hbn ha0 hb0
  have HC : Hid (∀ W, Below w15.heap.size w15 W → Calls Try.prog 13 #[.agg #[.slice Ah D.length ch], .agg #[.slice A0 D.length c0]] W fun e w' => e = .returned (.bool true) ∧ Below W.heap.size W w') := fun W hW => eqCandidate_any ⟨D⟩ _ _ W _ _ (Hh.out.kept hW).weak (HW0.out.kept hW).weak
  have bHGB := HGB.out.1
  have bbHGB := fun o => (HGB.out.kept ((Below.refl w15.heap.size w15).alloc (Nat.le_refl _) o)).1
  have bHA := HA.out.cell 0 rfl
  have bbHA := fun o => ((HA.out.kept ((Below.refl w15.heap.size w15).alloc (Nat.le_refl _) o)).cell 0 rfl)
  have bHA2 := HA2.out.cell 0 rfl
  have bbHA2 := fun o => ((HA2.out.kept ((Below.refl w15.heap.size w15).alloc (Nat.le_refl _) o)).cell 0 rfl)
  have bHWB := HWB.out.cell 0 rfl
  have bbHWB := fun o => ((HWB.out.kept ((Below.refl w15.heap.size w15).alloc (Nat.le_refl _) o)).cell 0 rfl)
  have bHHB := HHB.out.cell 0 rfl
  have bbHHB := fun o => ((HHB.out.kept ((Below.refl w15.heap.size w15).alloc (Nat.le_refl _) o)).cell 0 rfl)
  go_wp2_with fail
  refine (HC.out _ (by first | exact Below.refl _ _ | exact (Below.refl _ _).alloc (Nat.le_refl _) _ | exact (Below.refl _ _).drew)).mono ?_
  rintro e w16 ⟨rfl, hb⟩
  clear bHA bbHA bHA2 bbHA2 bHWB bbHWB bHGB bbHGB bHHB bbHHB
  have hbn : Below w15.heap.size w15 w16 := below_step (by first | exact Below.refl _ _ | exact (Below.refl _ _).alloc (Nat.le_refl _) _ | exact (Below.refl _ _).drew) hb
  have hs16 : Hid (w15.heap.size ≤ w16.heap.size) := hbn.size
  replace HVx := Lib.hid (HVx.out.kept hbn)
  replace HVy := Lib.hid (HVy.out.kept hbn)
  replace HA := Lib.hid (HA.out.kept hbn)
  replace HA2 := Lib.hid (HA2.out.kept hbn)
  replace HB := Lib.hid (HB.out.trans (hbn.mono HB.out.size))
  replace HWB := Lib.hid (HWB.out.kept hbn)
  replace HW0 := Lib.hid (HW0.out.kept hbn)
  replace Hg := Lib.hid (Hg.out.kept hbn)
  replace HGB := Lib.hid (HGB.out.kept hbn)
  replace HHB := Lib.hid (HHB.out.kept hbn)
  replace Hh := Lib.hid (Hh.out.kept hbn)
  clear hb hbn HC
  have HC : Hid (∀ W, Below w16.heap.size w16 W → Calls Try.prog 25 #[.agg #[.slice Ag D.length cg], .int .i64 1] W fun e w' => e = .returned (.int .i64 ((kd : Nat) : Int)) ∧ Below W.heap.size W w') := fun W hW => by have h := heldCandidate_any ⟨D⟩ (.slice Ag D.length cg) D 1 1 rfl _ W HCD.out (Nat.le_refl 1) (Hg.out.kept hW).weak; rw [hkd] at h; exact h
  have bHGB := HGB.out.1
  have bbHGB := fun o => (HGB.out.kept ((Below.refl w16.heap.size w16).alloc (Nat.le_refl _) o)).1
  have bHA := HA.out.cell 0 rfl
  have bbHA := fun o => ((HA.out.kept ((Below.refl w16.heap.size w16).alloc (Nat.le_refl _) o)).cell 0 rfl)
  have bHA2 := HA2.out.cell 0 rfl
  have bbHA2 := fun o => ((HA2.out.kept ((Below.refl w16.heap.size w16).alloc (Nat.le_refl _) o)).cell 0 rfl)
  have bHWB := HWB.out.cell 0 rfl
  have bbHWB := fun o => ((HWB.out.kept ((Below.refl w16.heap.size w16).alloc (Nat.le_refl _) o)).cell 0 rfl)
  have bHHB := HHB.out.cell 0 rfl
  have bbHHB := fun o => ((HHB.out.kept ((Below.refl w16.heap.size w16).alloc (Nat.le_refl _) o)).cell 0 rfl)
  go_wp2_with fail
  refine (HC.out _ (by first | exact Below.refl _ _ | exact (Below.refl _ _).alloc (Nat.le_refl _) _ | exact (Below.refl _ _).drew)).mono ?_
  rintro e w17 ⟨rfl, hb⟩
  clear bHA bbHA bHA2 bbHA2 bHWB bbHWB bHGB bbHGB bHHB bbHHB
  have hbn : Below w16.heap.size w16 w17 := below_step (by first | exact Below.refl _ _ | exact (Below.refl _ _).alloc (Nat.le_refl _) _ | exact (Below.refl _ _).drew) hb
  have hs17 : Hid (w16.heap.size ≤ w17.heap.size) := hbn.size
  replace HVx := Lib.hid (HVx.out.kept hbn)
  replace HVy := Lib.hid (HVy.out.kept hbn)
  replace HA := Lib.hid (HA.out.kept hbn)
  replace HA2 := Lib.hid (HA2.out.kept hbn)
  replace HB := Lib.hid (HB.out.trans (hbn.mono HB.out.size))
  replace HWB := Lib.hid (HWB.out.kept hbn)
  replace HW0 := Lib.hid (HW0.out.kept hbn)
  replace Hg := Lib.hid (Hg.out.kept hbn)
  replace HGB := Lib.hid (HGB.out.kept hbn)
  replace HHB := Lib.hid (HHB.out.kept hbn)
  replace Hh := Lib.hid (Hh.out.kept hbn)
  clear hb hbn HC
  have bHGB := HGB.out.1
  have bbHGB := fun o => (HGB.out.kept ((Below.refl w17.heap.size w17).alloc (Nat.le_refl _) o)).1
  have bHA := HA.out.cell 0 rfl
  have bbHA := fun o => ((HA.out.kept ((Below.refl w17.heap.size w17).alloc (Nat.le_refl _) o)).cell 0 rfl)
  have bHA2 := HA2.out.cell 0 rfl
  have bbHA2 := fun o => ((HA2.out.kept ((Below.refl w17.heap.size w17).alloc (Nat.le_refl _) o)).cell 0 rfl)
  have bHWB := HWB.out.cell 0 rfl
  have bbHWB := fun o => ((HWB.out.kept ((Below.refl w17.heap.size w17).alloc (Nat.le_refl _) o)).cell 0 rfl)
  have bHHB := HHB.out.cell 0 rfl
  have bbHHB := fun o => ((HHB.out.kept ((Below.refl w17.heap.size w17).alloc (Nat.le_refl _) o)).cell 0 rfl)
  go_wp2
  go_ret
  exact ⟨rfl, HB.out⟩
end Go.Proofs.Ytfcmhbbeohhjmaa.fnExactComposeCandidates
