/- The laws' toCandidate. -/
import Derived.Test.YtfcmhbbeohhjmaaTrCandidate
import Derived.Test.YtfcmhbbeohhjmaaTtLinkS
import Derived.WalkKit
import Derived.BigQuiet
import Derived.Lib.QuietBelow
import Derived.Test.YtfcmhbbeohhjmaaRows
import Derived.Test.YtfcmhbbeohhjmaaRet
namespace Go.Proofs.Ytfcmhbbeohhjmaa
set_option maxRecDepth 100000
open Go.RowKit Go.Sort
set_option linter.unusedVariables false
set_option linter.unusedSimpArgs false

set_option maxHeartbeats 8000000 in
theorem toCandidate_any (x : DCandidate) (F : Addr → Prop) (w : World) (v0 : Value) (hv0 : RowRd rLink false w v0 x.Links F) (hm : rCandidate.sz x ≤ 1048576) :
    Calls Try.prog 11 #[.agg #[v0]] w fun e w' => ∃ u0, e = .returned (.agg #[u0]) ∧ RowRd rLink true w' u0 x.Links (fun a => w.heap.size ≤ a.block) ∧ Below w.heap.size w w' := by
  have HT0 : Hid (∀ W, Below w.heap.size w W → Calls Try.prog 28 #[v0] W (OwnPost rLink x.Links W)) := fun W hW => toLinkS_any v0 _ F W (Nat.le_trans (by rw [rCandidate_sz]; omega) hm) (hv0.kept hW)
  clear hv0
  clear hm
  generalize x.Links = y0 at *
  go_enter Try.func11, Try.ntmps11
  go_wp2_with fail
  refine (HT0.out _ ((((Below.refl _ _).alloc (Nat.le_refl _) _).alloc (by simp) _).alloc (by simp; omega) _)).mono ?_
  rintro e w1 ⟨u0, rfl, hq0, hb0⟩
  obtain ⟨A0, cap0, rfl⟩ := hq0.form
  have HS : InC w1 w.heap.size #[v0] 24 := (hb0.block _ (by simp; omega)).trans ((Below.heap_alloc _ _ _ (by simp; omega)).trans (box1 _ _ _))
  have HR : InC w1 (w.heap.size + 1) #[.slice none 0 0] 29 := (hb0.block _ (by simp)).trans ((Below.heap_alloc _ _ _ (by simp)).trans (box2 _ _ _))
  have HO : InC w1 (w.heap.size + 1 + 1) #[.slice none 0 0] 29 := (hb0.block _ (by simp)).trans (by have := heap_alloc_new ((w.alloc (.cells #[v0] 24)).alloc (.cells #[.slice none 0 0] 29)) (.cells #[.slice none 0 0] 29); rwa [World.size_alloc, World.size_alloc] at this)
  have HB : Hid (Below w.heap.size w w1) := ((((Below.refl _ _).alloc (Nat.le_refl _) _).alloc (by simp) _).alloc (by simp; omega) _).trans (hb0.mono (by simp; omega))
  have HQ0 : Hid (RowRd rLink true w1 (.slice A0 y0.length cap0) y0 (fun a => w.heap.size ≤ a.block ∧ w.heap.size + 1 + 1 < a.block)) := hq0.mono (fun a ha => by simp at ha; omega)
  clear hb0 hq0
  have c0 := InC.cell HO 0 rfl
  have f0 := InC.free HO 0
  replace HO : InC (World.setCell w1 ⟨w.heap.size + 1 + 1, 0, none⟩ ((.slice A0 y0.length cap0))) (w.heap.size + 1 + 1) #[(.slice A0 y0.length cap0)] 29 := heap_setCell_same _ _ _ _ _ _ HO
  replace HS := InC.other HS (p := ⟨w.heap.size + 1 + 1, 0, none⟩) (by simp; omega) ((.slice A0 y0.length cap0))
  replace HR := InC.other HR (p := ⟨w.heap.size + 1 + 1, 0, none⟩) (by simp) ((.slice A0 y0.length cap0))
  replace HB := Lib.hid (HB.out.setCell (p := ⟨w.heap.size + 1 + 1, 0, none⟩) (by simp; omega) ((.slice A0 y0.length cap0)))
  replace HQ0 := Lib.hid (HQ0.out.apart (Unch.set (F := fun a => a = ⟨w.heap.size + 1 + 1, 0, none⟩) rfl ((.slice A0 y0.length cap0))) (fun a ha e => by subst e; simp at ha))
  have o0 := InC.cell HO 0 rfl
  have r0 := InC.cell HR 0 rfl
  have q0 := InC.free HR 0
  replace HR : InC (World.setCell (World.setCell w1 ⟨w.heap.size + 1 + 1, 0, none⟩ ((.slice A0 y0.length cap0))) ⟨w.heap.size + 1, 0, none⟩ ((.slice A0 y0.length cap0))) (w.heap.size + 1) #[(.slice A0 y0.length cap0)] 29 := heap_setCell_same _ _ _ _ _ _ HR
  replace HB := Lib.hid (HB.out.setCell (p := ⟨w.heap.size + 1, 0, none⟩) (by simp) ((.slice A0 y0.length cap0)))
  replace HQ0 := Lib.hid (HQ0.out.apart (Unch.set (F := fun a => a = ⟨w.heap.size + 1, 0, none⟩) rfl ((.slice A0 y0.length cap0))) (fun a ha e => by subst e; simp at ha; try omega))
  have HRR := Lib.hid HR
  clear HR HO HS
  go_wp2
  refine bodyPost_ret (v := .agg #[(.slice A0 y0.length cap0)]) (results_cell_row rfl _ _ (w.heap.size + 1) 29 _ (0, 0) _ rfl HRR.out Try.underlying29 rfl (by kernel_rfl)) rfl ⟨(.slice A0 y0.length cap0), rfl, HQ0.out.mono (fun a ha => ha.1), HB.out⟩
end Go.Proofs.Ytfcmhbbeohhjmaa
