/- Arguments of the struct Footing. -/
import Derived.Test.YtifmcbhgoncgjaaDoorOp
import Derived.Test.YtifmcbhgoncgjaaDoorTrFooting
import Derived.Test.YtifmcbhgoncgjaaDoorToFoot
namespace Go.Proofs.YtifmcbhgoncgjaaDoor
open Go.ChangeShapes Go.WideShapes Go.RowKit Go.Deep
set_option linter.unusedVariables false
set_option linter.unusedSimpArgs false

section
variable {H : Type} {enc : TypeId × Value → H} {W : World} {base : Nat} {spare : Nat → Bool} {held : Bool}
theorem opens_Footing : Opens enc W base spare held rFooting 43 := fun fuel cs y h => by
  obtain ⟨xs, n, _, _, _, hl, hf⟩ := DataW.trod_struct Tryd.underlying43 h
  have hl3 : xs.length = 3 := hl
  have get : ∀ i, i < 3 → ∃ z, xs[i]? = some z := fun i hi => ⟨_, List.getElem?_eq_getElem (by omega)⟩
  obtain ⟨z0, e0⟩ := get 0 (by omega)
  obtain ⟨y0, x0, F0, p0, r0⟩ := opens_int _ _ _ ((hf 0 _ rfl).trans e0)
  obtain ⟨rfl, i0⟩ := r0
  have c0 : cs[0]? = some (.int .i64 x0) := at_part (k := 0) (n := 1) (j := 0) (p0 0 _ rfl)
  obtain ⟨z1, e1⟩ := get 1 (by omega)
  obtain ⟨y1, x1, F1, p1, r1⟩ := (opens_row opens_Foot Tryd.underlying41 (by kernel_rfl) (by decide)) _ _ _ ((hf 1 _ rfl).trans e1)
  obtain ⟨v1, rfl, q1⟩ := r1
  have c1 : cs[1]? = some (v1) := at_part (k := 1) (n := 1) (j := 0) (p1 0 _ rfl)
  obtain ⟨z2, e2⟩ := get 2 (by omega)
  obtain ⟨y2, x2, F2, p2, r2⟩ := opens_int _ _ _ ((hf 2 _ rfl).trans e2)
  obtain ⟨rfl, i2⟩ := r2
  have c2 : cs[2]? = some (.int .i64 x2) := at_part (k := 2) (n := 1) (j := 0) (p2 0 _ rfl)
  refine ⟨[.int .i64 x0, v1, .int .i64 x2], ⟨x0, x1, x2⟩, fun _ => True, ?_, rFooting_mk (x := ⟨x0, x1, x2⟩) i0 (q1.mono (fun _ _ => trivial)) i2⟩
  intro j u hj
  match j, hj with
  | 0, hj => simp at hj; subst hj; exact c0
  | 1, hj => simp at hj; subst hj; exact c1
  | 2, hj => simp at hj; subst hj; exact c2
theorem arg_Footing {v : Value} {d : DataW H} {p : List MemPlace} {b0 : Nat} (hval : Value.okWide Tryd.prog W .any b0 43 v) (h : DataW.Trod enc Tryd.prog W 0 (fun _ => true) held 43 v d p) :
    ∃ (x : DFooting) (F : Addr → Prop) (v1 : Value), v = .agg #[.int .i64 x.Syllables, v1, .int .i64 x.Main] ∧ I64 x.Syllables ∧ RowRd rFoot false W v1 x.Feet F ∧ I64 x.Main := by
  obtain ⟨cs, rfl, hsz⟩ := okWide_struct Tryd.underlying43 hval
  have hC : Tryd.prog.cellsOf 43 = 3 := by kernel_rfl
  rw [hC] at hsz
  obtain ⟨fuel, hf⟩ := h
  obtain ⟨ys, x, F, hy, hr⟩ := opens_Footing _ _ _ hf
  obtain ⟨v1, rfl, i0, q1, i2⟩ := rFooting_rd hr
  obtain rfl := agg_of (cs := cs) hy (by rw [hsz]; rfl)
  exact ⟨x, F, v1, rfl, i0, q1, i2⟩
end
end Go.Proofs.YtifmcbhgoncgjaaDoor
