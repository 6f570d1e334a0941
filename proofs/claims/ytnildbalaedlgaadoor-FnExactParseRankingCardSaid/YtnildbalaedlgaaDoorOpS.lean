/- Texts and rows of texts among a call's arguments. -/
import Derived.Test.YtnildbalaedlgaaDoorOp
namespace Go.Proofs.YtnildbalaedlgaaDoor
set_option maxRecDepth 100000
open Go.ChangeShapes Go.WideShapes Go.RowKit Go.Deep
set_option linter.unusedVariables false

section
variable {H : Type} {enc : TypeId × Value → H} {W : World} {base : Nat} {spare : Nat → Bool} {held : Bool}
theorem opens_str (m : Nat → ByteArray) : Opens enc W base spare held (Rep.str m) 9 := fun fuel cs y h => by
  obtain ⟨s, rfl, _, hw⟩ := DataW.trod_string Tryd.underlying9 h
  exact ⟨[.string s], s, fun _ => False, fun j u h => h, rfl, by unfold maxLen at hw; omega⟩
/-- An argument that is a row of texts. -/
theorem arg_strs (m : Nat → ByteArray) {v : Value} {d : DataW H} {p : List MemPlace} {b0 : Nat} (hval : Value.okWide Tryd.prog W .any b0 22 v) (h : DataW.Trod enc Tryd.prog W 0 (fun _ => true) held 22 v d p) : ∃ (l : List ByteArray) (F : Addr → Prop), RowRd (Rep.str m) false W v l F :=
  arg_row (E := Rep.str m) (opens_str m) Tryd.underlying22 (by kernel_rfl) (Nat.one_pos) hval h
end
end Go.Proofs.YtnildbalaedlgaaDoor
