/- The struct Footing: its data in cells. -/
import Derived.Test.YtifmcbhgoncgjaaDoorRp
import Derived.Test.YtifmcbhgoncgjaaDoorTrFoot
namespace Go.Proofs.YtifmcbhgoncgjaaDoor
open Go.RowKit
set_option linter.unusedVariables false
set_option linter.unusedSimpArgs false

structure DFooting where
  Syllables : Int
  Feet : (List DFoot)
  Main : Int
deriving DecidableEq
def rFooting : Rep DFooting := Rep.map (Rep.pair Rep.int (Rep.pair (Rep.row rFoot) Rep.int)) (fun x => (x.Syllables, (x.Feet, x.Main))) (fun p => ⟨p.1, p.2.1, p.2.2⟩)
theorem rFooting_size : rFooting.size = 3 := rfl
def zFooting : DFooting := ⟨0, [], 0⟩
theorem rFooting_rd {s : Bool} {w : World} {vs : List Value} {x : DFooting} {F : Addr → Prop} (h : rFooting.rd s w vs x F) : ∃ v1, vs = [.int .i64 x.Syllables, v1, .int .i64 x.Main] ∧ I64 x.Syllables ∧ RowRd rFoot s w v1 x.Feet F ∧ I64 x.Main := by
  obtain ⟨a0, b0, F0, G0, rfl, h0, ⟨a1, b1, F1, G1, rfl, h1, h2, k1, l1, d1⟩, k0, l0, d0⟩ := h
  obtain ⟨rfl, i0⟩ := h0
  obtain ⟨v1, rfl, q1⟩ := h1
  obtain ⟨rfl, i2⟩ := h2
  exact ⟨v1, rfl, i0, q1.mono (fun a ha => (l0 a (k1 a ha))), i2⟩
theorem rFooting_mk {s : Bool} {w : World} {x : DFooting} {F : Addr → Prop} {v1 : Value} (p0 : I64 x.Syllables) (p1 : RowRd rFoot s w v1 x.Feet F) (p2 : I64 x.Main) : rFooting.rd s w [.int .i64 x.Syllables, v1, .int .i64 x.Main] x F := by
  exact ⟨[.int .i64 x.Syllables], [v1, .int .i64 x.Main], fun _ => False, F, rfl, ⟨rfl, p0⟩, ⟨[v1], [.int .i64 x.Main], F, fun _ => False, rfl, ⟨v1, rfl, p1⟩, ⟨rfl, p2⟩, fun _ h => h, fun _ h => h.elim, fun _ _ _ h => h⟩, fun _ h => h.elim, fun _ h => h, fun _ _ h _ => h.elim⟩
theorem rFooting_lab (k : Nat) (x : DFooting) : rFooting.lab k x = ⟨((k : Nat) : Int), labRow rFoot (k + 1) x.Feet, ((k + 1 + cntRow rFoot x.Feet : Nat) : Int)⟩ := rfl
theorem rFooting_cnt (x : DFooting) : rFooting.cnt x = 1 + (cntRow rFoot x.Feet + (1)) := rfl
theorem rFooting_sz (x : DFooting) : rFooting.sz x = 0 + (szRow rFoot x.Feet + (0)) := rfl
end Go.Proofs.YtifmcbhgoncgjaaDoor
