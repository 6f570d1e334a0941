/- Arguments of the struct Candidate. -/
import Derived.Test.YtfcmhbbeohhjmaaOp
import Derived.Test.YtfcmhbbeohhjmaaTrCandidate
import Derived.Test.YtfcmhbbeohhjmaaToLink
namespace Go.Proofs.Ytfcmhbbeohhjmaa
set_option maxRecDepth 100000
open Go.ChangeShapes Go.WideShapes Go.RowKit Go.Deep
set_option linter.unusedVariables false
set_option linter.unusedSimpArgs false

section
variable {H : Type} {enc : TypeId × Value → H} {W : World} {base : Nat} {spare : Nat → Bool} {held : Bool}
theorem opens_Candidate : Opens enc W base spare held rCandidate 24 := fun fuel cs y h => by
  obtain ⟨xs, n, _, _, _, hl, hf⟩ := DataW.trod_struct Try.underlying24 h
  have hl3 : xs.length = 1 := hl
  have get : ∀ i, i < 1 → ∃ z, xs[i]? = some z := fun i hi => ⟨_, List.getElem?_eq_getElem (by omega)⟩
  obtain ⟨z0, e0⟩ := get 0 (by omega)
  obtain ⟨y0, x0, F0, p0, r0⟩ := (opens_row opens_Link Try.underlying22 (by kernel_rfl) (by decide)) _ _ _ ((hf 0 _ rfl).trans e0)
  obtain ⟨v0, rfl, q0⟩ := r0
  have c0 : cs[0]? = some (v0) := at_part (k := 0) (n := 1) (j := 0) (p0 0 _ rfl)
  refine ⟨[v0], ⟨x0⟩, fun _ => True, ?_, rCandidate_mk (x := ⟨x0⟩) (q0.mono (fun _ _ => trivial))⟩
  intro j u hj
  match j, hj with
  | 0, hj => simp at hj; subst hj; exact c0
theorem arg_Candidate {v : Value} {d : DataW H} {p : List MemPlace} {b0 : Nat} (hval : Value.okWide Try.prog W .any b0 24 v) (h : DataW.Trod enc Try.prog W 0 (fun _ => true) held 24 v d p) :
    ∃ (x : DCandidate) (F : Addr → Prop) (v0 : Value), v = .agg #[v0] ∧ RowRd rLink false W v0 x.Links F := by
  obtain ⟨cs, rfl, hsz⟩ := okWide_struct Try.underlying24 hval
  have hC : Try.prog.cellsOf 24 = 1 := by kernel_rfl
  rw [hC] at hsz
  obtain ⟨fuel, hf⟩ := h
  obtain ⟨ys, x, F, hy, hr⟩ := opens_Candidate _ _ _ hf
  obtain ⟨v0, rfl, q0⟩ := rCandidate_rd hr
  obtain rfl := agg_of (cs := cs) hy (by rw [hsz]; rfl)
  exact ⟨x, F, v0, rfl, q0⟩
end
end Go.Proofs.Ytfcmhbbeohhjmaa
