/- Merged: TzLinkS TzCandidate TtCandidate ToLink ToCandidate. -/
import Derived.Test.YtlkhknoaifbajaaA1
import Derived.WalkKit
import Derived.BigQuiet
import Derived.Lib.QuietBelow
import Derived.Test.YtlkhknoaifbajaaRows
import Derived.Test.YtlkhknoaifbajaaB5
/- The laws' szLinkS. -/
namespace Go.Proofs.Ytlkhknoaifbajaa
set_option maxRecDepth 100000
open Go.RowKit Go.Sort
set_option linter.unusedVariables false
set_option linter.unusedSimpArgs false

theorem szLinkS_any (v : Value) (l : List DLink) (left : Int) (F : Addr → Prop) (w : World) (h0 : 0 ≤ left) (h1 : left ≤ 1048576) (hv : RowRd rLink false w v l F) :
    Calls Try.prog 89 #[v, .int .i64 left] w fun e w' => (∃ z : Int, e = .returned (.int .i64 z) ∧ (z < 0 ∨ z + (szRow rLink l : Nat) = left ∧ 0 ≤ z)) ∧ Below w.heap.size w w' := by
  have HS : Hid (szRow rLink l = l.length) := szRow_flat _ (fun _ => rfl) l
  have hmx := hv.max
  obtain ⟨A, cap, rfl⟩ := hv.form
  clear hv
  generalize l.length = n at *
  go_enter Try.func89, Try.ntmps89
  by_cases h : left - (n : Int) < 0
  · go_wp2
    go_ret
    exact ⟨⟨-1, rfl, Or.inl (by omega)⟩, Below.refl _ _⟩
  · go_wp2
    go_ret
    exact ⟨⟨_, rfl, Or.inr ⟨by rw [HS.out]; omega, by omega⟩⟩, Below.refl _ _⟩
end Go.Proofs.Ytlkhknoaifbajaa

/- The laws' szCandidate. -/
namespace Go.Proofs.Ytlkhknoaifbajaa
set_option maxRecDepth 100000
open Go.RowKit Go.Sort
set_option linter.unusedVariables false
set_option linter.unusedSimpArgs false

theorem szCandidate_any (x : DCandidate) (v0 : Value) (left : Int) (F : Addr → Prop) (w : World) (h0 : 0 ≤ left) (h1 : left ≤ 1048576) (hv : RowRd rLink false w v0 x.Links F) :
    Calls Try.prog 53 #[.agg #[v0], .int .i64 left] w fun e w' => (∃ z : Int, e = .returned (.int .i64 z) ∧ (z < 0 ∨ z + (rCandidate.sz x : Nat) = left ∧ 0 ≤ z)) ∧ Below w.heap.size w w' := by
  have HS : Hid (rCandidate.sz x = szRow rLink x.Links) := by unfold Hid; rw [rCandidate_sz]; try omega
  have HC : Hid (∀ W, Below w.heap.size w W → Calls Try.prog 89 #[v0, .int .i64 left] W fun e w' => (∃ z : Int, e = .returned (.int .i64 z) ∧ (z < 0 ∨ z + (szRow rLink x.Links : Nat) = left ∧ 0 ≤ z)) ∧ Below W.heap.size W w') := fun W hW => szLinkS_any v0 _ left F W h0 h1 (hv.kept hW)
  clear hv
  generalize rCandidate.sz x = n at *
  generalize szRow rLink x.Links = m at *
  go_enter Try.func53, Try.ntmps53
  go_wp2_with fail
  refine (HC.out _ ((Below.refl _ _).alloc (Nat.le_refl _) _)).mono ?_
  rintro e w1 ⟨⟨z, rfl, hz⟩, hb⟩
  have HB := Lib.hid (((Below.refl w.heap.size w).alloc (Nat.le_refl _) _).trans (hb.mono (by simp)))
  clear hb
  by_cases h : z < 0
  · go_wp2
    go_ret
    exact ⟨⟨-1, rfl, Or.inl (by omega)⟩, HB.out⟩
  · have HZ := Lib.hid (hz.resolve_left h)
    clear hz
    go_wp2
    go_ret
    exact ⟨⟨z, rfl, Or.inr (by rw [HS.out]; exact HZ.out)⟩, HB.out⟩
end Go.Proofs.Ytlkhknoaifbajaa

/- The laws' toCandidate. -/
namespace Go.Proofs.Ytlkhknoaifbajaa
set_option maxRecDepth 100000
open Go.RowKit Go.Sort
set_option linter.unusedVariables false
set_option linter.unusedSimpArgs false

set_option maxHeartbeats 8000000 in
theorem toCandidate_any (x : DCandidate) (F : Addr → Prop) (w : World) (v0 : Value) (hv0 : RowRd rLink false w v0 x.Links F) (hm : rCandidate.sz x ≤ 1048576) :
    Calls Try.prog 54 #[.agg #[v0]] w fun e w' => ∃ u0, e = .returned (.agg #[u0]) ∧ RowRd rLink true w' u0 x.Links (fun a => w.heap.size ≤ a.block) ∧ Below w.heap.size w w' := by
  have HT0 : Hid (∀ W, Below w.heap.size w W → Calls Try.prog 90 #[v0] W (OwnPost rLink x.Links W)) := fun W hW => toLinkS_any v0 _ F W (Nat.le_trans (by rw [rCandidate_sz]; omega) hm) (hv0.kept hW)
  clear hv0
  clear hm
  generalize x.Links = y0 at *
  go_enter Try.func54, Try.ntmps54
  go_wp2_with fail
  refine (HT0.out _ ((((Below.refl _ _).alloc (Nat.le_refl _) _).alloc (by simp) _).alloc (by simp; omega) _)).mono ?_
  rintro e w1 ⟨u0, rfl, hq0, hb0⟩
  obtain ⟨A0, cap0, rfl⟩ := hq0.form
  have HS : InC w1 w.heap.size #[v0] 55 := (hb0.block _ (by simp; omega)).trans ((Below.heap_alloc _ _ _ (by simp; omega)).trans (box1 _ _ _))
  have HR : InC w1 (w.heap.size + 1) #[.slice none 0 0] 26 := (hb0.block _ (by simp)).trans ((Below.heap_alloc _ _ _ (by simp)).trans (box2 _ _ _))
  have HO : InC w1 (w.heap.size + 1 + 1) #[.slice none 0 0] 26 := (hb0.block _ (by simp)).trans (by have := heap_alloc_new ((w.alloc (.cells #[v0] 55)).alloc (.cells #[.slice none 0 0] 26)) (.cells #[.slice none 0 0] 26); rwa [World.size_alloc, World.size_alloc] at this)
  have HB : Hid (Below w.heap.size w w1) := ((((Below.refl _ _).alloc (Nat.le_refl _) _).alloc (by simp) _).alloc (by simp; omega) _).trans (hb0.mono (by simp; omega))
  have HQ0 : Hid (RowRd rLink true w1 (.slice A0 y0.length cap0) y0 (fun a => w.heap.size ≤ a.block ∧ w.heap.size + 1 + 1 < a.block)) := hq0.mono (fun a ha => by simp at ha; omega)
  clear hb0 hq0
  have c0 := InC.cell HO 0 rfl
  have f0 := InC.free HO 0
  replace HO : InC (World.setCell w1 ⟨w.heap.size + 1 + 1, 0, none⟩ ((.slice A0 y0.length cap0))) (w.heap.size + 1 + 1) #[(.slice A0 y0.length cap0)] 26 := heap_setCell_same _ _ _ _ _ _ HO
  replace HS := InC.other HS (p := ⟨w.heap.size + 1 + 1, 0, none⟩) (by simp; omega) ((.slice A0 y0.length cap0))
  replace HR := InC.other HR (p := ⟨w.heap.size + 1 + 1, 0, none⟩) (by simp) ((.slice A0 y0.length cap0))
  replace HB := Lib.hid (HB.out.setCell (p := ⟨w.heap.size + 1 + 1, 0, none⟩) (by simp; omega) ((.slice A0 y0.length cap0)))
  replace HQ0 := Lib.hid (HQ0.out.apart (Unch.set (F := fun a => a = ⟨w.heap.size + 1 + 1, 0, none⟩) rfl ((.slice A0 y0.length cap0))) (fun a ha e => by subst e; simp at ha))
  have o0 := InC.cell HO 0 rfl
  have r0 := InC.cell HR 0 rfl
  have q0 := InC.free HR 0
  replace HR : InC (World.setCell (World.setCell w1 ⟨w.heap.size + 1 + 1, 0, none⟩ ((.slice A0 y0.length cap0))) ⟨w.heap.size + 1, 0, none⟩ ((.slice A0 y0.length cap0))) (w.heap.size + 1) #[(.slice A0 y0.length cap0)] 26 := heap_setCell_same _ _ _ _ _ _ HR
  replace HB := Lib.hid (HB.out.setCell (p := ⟨w.heap.size + 1, 0, none⟩) (by simp) ((.slice A0 y0.length cap0)))
  replace HQ0 := Lib.hid (HQ0.out.apart (Unch.set (F := fun a => a = ⟨w.heap.size + 1, 0, none⟩) rfl ((.slice A0 y0.length cap0))) (fun a ha e => by subst e; simp at ha; try omega))
  have HRR := Lib.hid HR
  clear HR HO HS
  go_wp2
  refine bodyPost_ret (v := .agg #[(.slice A0 y0.length cap0)]) (results_cell_row rfl _ _ (w.heap.size + 1) 26 _ (0, 0) _ rfl HRR.out Try.underlying26 rfl (by kernel_rfl)) rfl ⟨(.slice A0 y0.length cap0), rfl, HQ0.out.mono (fun a ha => ha.1), HB.out⟩
end Go.Proofs.Ytlkhknoaifbajaa

/- Arguments of the struct Link. -/
namespace Go.Proofs.Ytlkhknoaifbajaa
set_option maxRecDepth 100000
open Go.ChangeShapes Go.WideShapes Go.RowKit Go.Deep
set_option linter.unusedVariables false
set_option linter.unusedSimpArgs false

section
variable {H : Type} {enc : TypeId × Value → H} {W : World} {base : Nat} {spare : Nat → Bool} {held : Bool}
theorem opens_Link : Opens enc W base spare held rLink 110 := fun fuel cs y h => by
  obtain ⟨xs, n, _, _, _, hl, hf⟩ := DataW.trod_struct Try.underlying110 h
  have hl3 : xs.length = 2 := hl
  have get : ∀ i, i < 2 → ∃ z, xs[i]? = some z := fun i hi => ⟨_, List.getElem?_eq_getElem (by omega)⟩
  obtain ⟨z0, e0⟩ := get 0 (by omega)
  obtain ⟨y0, x0, F0, p0, r0⟩ := opens_byte _ _ _ ((hf 0 _ rfl).trans e0)
  have ee0 : y0 = [.int .u8 (x0.toNat : Int)] := r0
  subst ee0
  have c0 : cs[0]? = some (.int .u8 (x0.toNat : Int)) := at_part (k := 0) (n := 1) (j := 0) (p0 0 _ rfl)
  obtain ⟨z1, e1⟩ := get 1 (by omega)
  obtain ⟨y1, x1, F1, p1, r1⟩ := opens_byte _ _ _ ((hf 1 _ rfl).trans e1)
  have ee1 : y1 = [.int .u8 (x1.toNat : Int)] := r1
  subst ee1
  have c1 : cs[1]? = some (.int .u8 (x1.toNat : Int)) := at_part (k := 1) (n := 1) (j := 0) (p1 0 _ rfl)
  refine ⟨[.int .u8 (x0.toNat : Int), .int .u8 (x1.toNat : Int)], ⟨x0, x1⟩, fun _ => True, ?_, rLink_mk (x := ⟨x0, x1⟩) ⟩
  intro j u hj
  match j, hj with
  | 0, hj => simp at hj; subst hj; exact c0
  | 1, hj => simp at hj; subst hj; exact c1
theorem arg_Link {v : Value} {d : DataW H} {p : List MemPlace} {b0 : Nat} (hval : Value.okWide Try.prog W .any b0 110 v) (h : DataW.Trod enc Try.prog W 0 (fun _ => true) held 110 v d p) :
    ∃ (x : DLink) (F : Addr → Prop), v = .agg #[.int .u8 (x.In.toNat : Int), .int .u8 (x.Out.toNat : Int)] := by
  obtain ⟨cs, rfl, hsz⟩ := okWide_struct Try.underlying110 hval
  have hC : Try.prog.cellsOf 110 = 2 := by kernel_rfl
  rw [hC] at hsz
  obtain ⟨fuel, hf⟩ := h
  obtain ⟨ys, x, F, hy, hr⟩ := opens_Link _ _ _ hf
  have ee := rLink_rd hr
  subst ee
  obtain rfl := agg_of (cs := cs) hy (by rw [hsz]; rfl)
  exact ⟨x, F, rfl⟩
end
end Go.Proofs.Ytlkhknoaifbajaa

/- Arguments of the struct Candidate. -/
namespace Go.Proofs.Ytlkhknoaifbajaa
set_option maxRecDepth 100000
open Go.ChangeShapes Go.WideShapes Go.RowKit Go.Deep
set_option linter.unusedVariables false
set_option linter.unusedSimpArgs false

section
variable {H : Type} {enc : TypeId × Value → H} {W : World} {base : Nat} {spare : Nat → Bool} {held : Bool}
theorem opens_Candidate : Opens enc W base spare held rCandidate 55 := fun fuel cs y h => by
  obtain ⟨xs, n, _, _, _, hl, hf⟩ := DataW.trod_struct Try.underlying55 h
  have hl3 : xs.length = 1 := hl
  have get : ∀ i, i < 1 → ∃ z, xs[i]? = some z := fun i hi => ⟨_, List.getElem?_eq_getElem (by omega)⟩
  obtain ⟨z0, e0⟩ := get 0 (by omega)
  obtain ⟨y0, x0, F0, p0, r0⟩ := (opens_row opens_Link Try.underlying53 (by kernel_rfl) (by decide)) _ _ _ ((hf 0 _ rfl).trans e0)
  obtain ⟨v0, rfl, q0⟩ := r0
  have c0 : cs[0]? = some (v0) := at_part (k := 0) (n := 1) (j := 0) (p0 0 _ rfl)
  refine ⟨[v0], ⟨x0⟩, fun _ => True, ?_, rCandidate_mk (x := ⟨x0⟩) (q0.mono (fun _ _ => trivial))⟩
  intro j u hj
  match j, hj with
  | 0, hj => simp at hj; subst hj; exact c0
theorem arg_Candidate {v : Value} {d : DataW H} {p : List MemPlace} {b0 : Nat} (hval : Value.okWide Try.prog W .any b0 55 v) (h : DataW.Trod enc Try.prog W 0 (fun _ => true) held 55 v d p) :
    ∃ (x : DCandidate) (F : Addr → Prop) (v0 : Value), v = .agg #[v0] ∧ RowRd rLink false W v0 x.Links F := by
  obtain ⟨cs, rfl, hsz⟩ := okWide_struct Try.underlying55 hval
  have hC : Try.prog.cellsOf 55 = 1 := by kernel_rfl
  rw [hC] at hsz
  obtain ⟨fuel, hf⟩ := h
  obtain ⟨ys, x, F, hy, hr⟩ := opens_Candidate _ _ _ hf
  obtain ⟨v0, rfl, q0⟩ := rCandidate_rd hr
  obtain rfl := agg_of (cs := cs) hy (by rw [hsz]; rfl)
  exact ⟨x, F, v0, rfl, q0⟩
end
end Go.Proofs.Ytlkhknoaifbajaa
