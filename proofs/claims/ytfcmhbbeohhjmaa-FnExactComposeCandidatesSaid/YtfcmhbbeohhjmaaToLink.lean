/- Arguments of the struct Link. -/
import Derived.Test.YtfcmhbbeohhjmaaOp
import Derived.Test.YtfcmhbbeohhjmaaTrLink
import Derived.Test.YtfcmhbbeohhjmaaU8
namespace Go.Proofs.Ytfcmhbbeohhjmaa
set_option maxRecDepth 100000
open Go.ChangeShapes Go.WideShapes Go.RowKit Go.Deep
set_option linter.unusedVariables false
set_option linter.unusedSimpArgs false

section
variable {H : Type} {enc : TypeId × Value → H} {W : World} {base : Nat} {spare : Nat → Bool} {held : Bool}
theorem opens_Link : Opens enc W base spare held rLink 55 := fun fuel cs y h => by
  obtain ⟨xs, n, _, _, _, hl, hf⟩ := DataW.trod_struct Try.underlying55 h
  have hl3 : xs.length = 2 := hl
  have get : ∀ i, i < 2 → ∃ z, xs[i]? = some z := fun i hi => ⟨_, List.getElem?_eq_getElem (by omega)⟩
  obtain ⟨z0, e0⟩ := get 0 (by omega)
  obtain ⟨y0, x0, F0, p0, r0⟩ := opens_byte _ _ _ ((hf 0 _ rfl).trans e0)
  have ee0 : y0 = [.int .u8 (x0.toNat : Int)] := r0
  subst ee0
  have c0 : cs[0]? = some (.int .u8 (x0.toNat : Int)) := at_part (k := 0) (n := 1) (j := 0) (p0 0 _ rfl)
  obtain ⟨z1, e1⟩ := get 1 (by omega)
  obtain ⟨y1, x1, F1, p1, r1⟩ := opens_byte _ _ _ ((hf 1 _ rfl).trans e1)
  have ee1 : y1 = [.int .u8 (x1.toNat : Int)] := r1
  subst ee1
  have c1 : cs[1]? = some (.int .u8 (x1.toNat : Int)) := at_part (k := 1) (n := 1) (j := 0) (p1 0 _ rfl)
  refine ⟨[.int .u8 (x0.toNat : Int), .int .u8 (x1.toNat : Int)], ⟨x0, x1⟩, fun _ => True, ?_, rLink_mk (x := ⟨x0, x1⟩) ⟩
  intro j u hj
  match j, hj with
  | 0, hj => simp at hj; subst hj; exact c0
  | 1, hj => simp at hj; subst hj; exact c1
theorem arg_Link {v : Value} {d : DataW H} {p : List MemPlace} {b0 : Nat} (hval : Value.okWide Try.prog W .any b0 55 v) (h : DataW.Trod enc Try.prog W 0 (fun _ => true) held 55 v d p) :
    ∃ (x : DLink) (F : Addr → Prop), v = .agg #[.int .u8 (x.In.toNat : Int), .int .u8 (x.Out.toNat : Int)] := by
  obtain ⟨cs, rfl, hsz⟩ := okWide_struct Try.underlying55 hval
  have hC : Try.prog.cellsOf 55 = 2 := by kernel_rfl
  rw [hC] at hsz
  obtain ⟨fuel, hf⟩ := h
  obtain ⟨ys, x, F, hy, hr⟩ := opens_Link _ _ _ hf
  have ee := rLink_rd hr
  subst ee
  obtain rfl := agg_of (cs := cs) hy (by rw [hsz]; rfl)
  exact ⟨x, F, rfl⟩
end
end Go.Proofs.Ytfcmhbbeohhjmaa
