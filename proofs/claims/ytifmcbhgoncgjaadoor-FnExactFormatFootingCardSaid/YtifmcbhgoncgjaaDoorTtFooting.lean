/- The laws' toFooting. -/
import Derived.Test.YtifmcbhgoncgjaaDoorTrFooting
import Derived.Test.YtifmcbhgoncgjaaDoorTtFootS
import Derived.WalkKit
import Derived.BigQuiet
import Derived.Lib.QuietBelow
import Derived.Test.YtifmcbhgoncgjaaDoorRows
import Derived.Test.YtifmcbhgoncgjaaDoorRet
namespace Go.Proofs.YtifmcbhgoncgjaaDoor
open Go.RowKit Go.Sort
set_option linter.unusedVariables false
set_option linter.unusedSimpArgs false

set_option maxHeartbeats 8000000 in
theorem toFooting_any (x : DFooting) (F : Addr → Prop) (w : World) (v1 : Value) (hv1 : RowRd rFoot false w v1 x.Feet F) (hm : rFooting.sz x ≤ 1048576) :
    Calls Tryd.prog 26 #[.agg #[.int .i64 x.Syllables, v1, .int .i64 x.Main]] w fun e w' => ∃ u1, e = .returned (.agg #[.int .i64 x.Syllables, u1, .int .i64 x.Main]) ∧ RowRd rFoot true w' u1 x.Feet (fun a => w.heap.size ≤ a.block) ∧ Below w.heap.size w w' := by
  have HT1 : Hid (∀ W, Below w.heap.size w W → Calls Tryd.prog 43 #[v1] W (OwnPost rFoot x.Feet W)) := fun W hW => toFootS_any v1 _ F W (Nat.le_trans (by rw [rFooting_sz]; omega) hm) (hv1.kept hW)
  clear hv1
  clear hm
  generalize x.Syllables = y0 at *
  generalize x.Main = y2 at *
  generalize x.Feet = y1 at *
  go_enter Tryd.func26, Tryd.ntmps26
  go_wp2_with fail
  refine (HT1.out _ ((((Below.refl _ _).alloc (Nat.le_refl _) _).alloc (by simp) _).alloc (by simp; omega) _)).mono ?_
  rintro e w1 ⟨u1, rfl, hq1, hb1⟩
  obtain ⟨A1, cap1, rfl⟩ := hq1.form
  have HS : InC w1 w.heap.size #[.int .i64 y0, v1, .int .i64 y2] 43 := (hb1.block _ (by simp; omega)).trans ((Below.heap_alloc _ _ _ (by simp; omega)).trans (box1 _ _ _))
  have HR : InC w1 (w.heap.size + 1) #[.int .i64 0, .slice none 0 0, .int .i64 0] 31 := (hb1.block _ (by simp)).trans ((Below.heap_alloc _ _ _ (by simp)).trans (box2 _ _ _))
  have HO : InC w1 (w.heap.size + 1 + 1) #[.int .i64 y0, .slice none 0 0, .int .i64 0] 31 := (hb1.block _ (by simp)).trans (by have := heap_alloc_new ((w.alloc (.cells #[.int .i64 y0, v1, .int .i64 y2] 43)).alloc (.cells #[.int .i64 0, .slice none 0 0, .int .i64 0] 31)) (.cells #[.int .i64 y0, .slice none 0 0, .int .i64 0] 31); rwa [World.size_alloc, World.size_alloc] at this)
  have HB : Hid (Below w.heap.size w w1) := ((((Below.refl _ _).alloc (Nat.le_refl _) _).alloc (by simp) _).alloc (by simp; omega) _).trans (hb1.mono (by simp; omega))
  have HQ1 : Hid (RowRd rFoot true w1 (.slice A1 y1.length cap1) y1 (fun a => w.heap.size ≤ a.block ∧ w.heap.size + 1 + 1 < a.block)) := hq1.mono (fun a ha => by simp at ha; omega)
  clear hb1 hq1
  have c1 := InC.cell HO 1 rfl
  have f1 := InC.free HO 1
  replace HO : InC (World.setCell w1 ⟨w.heap.size + 1 + 1, 1, none⟩ ((.slice A1 y1.length cap1))) (w.heap.size + 1 + 1) #[.int .i64 y0, (.slice A1 y1.length cap1), .int .i64 0] 31 := heap_setCell_same _ _ _ _ _ _ HO
  replace HS := InC.other HS (p := ⟨w.heap.size + 1 + 1, 1, none⟩) (by simp; omega) ((.slice A1 y1.length cap1))
  replace HR := InC.other HR (p := ⟨w.heap.size + 1 + 1, 1, none⟩) (by simp) ((.slice A1 y1.length cap1))
  replace HB := Lib.hid (HB.out.setCell (p := ⟨w.heap.size + 1 + 1, 1, none⟩) (by simp; omega) ((.slice A1 y1.length cap1)))
  replace HQ1 := Lib.hid (HQ1.out.apart (Unch.set (F := fun a => a = ⟨w.heap.size + 1 + 1, 1, none⟩) rfl ((.slice A1 y1.length cap1))) (fun a ha e => by subst e; simp at ha))
  have c2 := InC.cell HO 2 rfl
  have f2 := InC.free HO 2
  have s2 := InC.cell HS 2 rfl
  replace HO : InC (World.setCell (World.setCell w1 ⟨w.heap.size + 1 + 1, 1, none⟩ ((.slice A1 y1.length cap1))) ⟨w.heap.size + 1 + 1, 2, none⟩ (.int .i64 y2)) (w.heap.size + 1 + 1) #[.int .i64 y0, (.slice A1 y1.length cap1), .int .i64 y2] 31 := heap_setCell_same _ _ _ _ _ _ HO
  replace HS := InC.other HS (p := ⟨w.heap.size + 1 + 1, 2, none⟩) (by simp; omega) (.int .i64 y2)
  replace HR := InC.other HR (p := ⟨w.heap.size + 1 + 1, 2, none⟩) (by simp) (.int .i64 y2)
  replace HB := Lib.hid (HB.out.setCell (p := ⟨w.heap.size + 1 + 1, 2, none⟩) (by simp; omega) (.int .i64 y2))
  replace HQ1 := Lib.hid (HQ1.out.apart (Unch.set (F := fun a => a = ⟨w.heap.size + 1 + 1, 2, none⟩) rfl (.int .i64 y2)) (fun a ha e => by subst e; simp at ha))
  have o0 := InC.cell HO 0 rfl
  have r0 := InC.cell HR 0 rfl
  have q0 := InC.free HR 0
  have o1 := InC.cell HO 1 rfl
  have r1 := InC.cell HR 1 rfl
  have q1 := InC.free HR 1
  have o2 := InC.cell HO 2 rfl
  have r2 := InC.cell HR 2 rfl
  have q2 := InC.free HR 2
  replace HR : InC (World.setCell (World.setCell (World.setCell w1 ⟨w.heap.size + 1 + 1, 1, none⟩ ((.slice A1 y1.length cap1))) ⟨w.heap.size + 1 + 1, 2, none⟩ (.int .i64 y2)) ⟨w.heap.size + 1, 0, none⟩ (.int .i64 y0)) (w.heap.size + 1) #[.int .i64 y0, .slice none 0 0, .int .i64 0] 31 := heap_setCell_same _ _ _ _ _ _ HR
  replace HB := Lib.hid (HB.out.setCell (p := ⟨w.heap.size + 1, 0, none⟩) (by simp) (.int .i64 y0))
  replace HQ1 := Lib.hid (HQ1.out.apart (Unch.set (F := fun a => a = ⟨w.heap.size + 1, 0, none⟩) rfl (.int .i64 y0)) (fun a ha e => by subst e; simp at ha; try omega))
  replace HR : InC (World.setCell (World.setCell (World.setCell (World.setCell w1 ⟨w.heap.size + 1 + 1, 1, none⟩ ((.slice A1 y1.length cap1))) ⟨w.heap.size + 1 + 1, 2, none⟩ (.int .i64 y2)) ⟨w.heap.size + 1, 0, none⟩ (.int .i64 y0)) ⟨w.heap.size + 1, 1, none⟩ ((.slice A1 y1.length cap1))) (w.heap.size + 1) #[.int .i64 y0, (.slice A1 y1.length cap1), .int .i64 0] 31 := heap_setCell_same _ _ _ _ _ _ HR
  replace HB := Lib.hid (HB.out.setCell (p := ⟨w.heap.size + 1, 1, none⟩) (by simp) ((.slice A1 y1.length cap1)))
  replace HQ1 := Lib.hid (HQ1.out.apart (Unch.set (F := fun a => a = ⟨w.heap.size + 1, 1, none⟩) rfl ((.slice A1 y1.length cap1))) (fun a ha e => by subst e; simp at ha; try omega))
  replace HR : InC (World.setCell (World.setCell (World.setCell (World.setCell (World.setCell w1 ⟨w.heap.size + 1 + 1, 1, none⟩ ((.slice A1 y1.length cap1))) ⟨w.heap.size + 1 + 1, 2, none⟩ (.int .i64 y2)) ⟨w.heap.size + 1, 0, none⟩ (.int .i64 y0)) ⟨w.heap.size + 1, 1, none⟩ ((.slice A1 y1.length cap1))) ⟨w.heap.size + 1, 2, none⟩ (.int .i64 y2)) (w.heap.size + 1) #[.int .i64 y0, (.slice A1 y1.length cap1), .int .i64 y2] 31 := heap_setCell_same _ _ _ _ _ _ HR
  replace HB := Lib.hid (HB.out.setCell (p := ⟨w.heap.size + 1, 2, none⟩) (by simp) (.int .i64 y2))
  replace HQ1 := Lib.hid (HQ1.out.apart (Unch.set (F := fun a => a = ⟨w.heap.size + 1, 2, none⟩) rfl (.int .i64 y2)) (fun a ha e => by subst e; simp at ha; try omega))
  have HRR := Lib.hid HR
  clear HR HO HS
  go_wp2
  refine bodyPost_ret (v := .agg #[.int .i64 y0, (.slice A1 y1.length cap1), .int .i64 y2]) (results_cell_row rfl _ _ (w.heap.size + 1) 31 _ (0, 0) _ rfl HRR.out Tryd.underlying31 rfl (by kernel_rfl)) rfl ⟨(.slice A1 y1.length cap1), rfl, HQ1.out.mono (fun a ha => ha.1), HB.out⟩
end Go.Proofs.YtifmcbhgoncgjaaDoor
