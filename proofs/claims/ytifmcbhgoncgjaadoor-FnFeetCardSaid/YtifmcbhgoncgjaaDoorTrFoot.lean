/- The struct Foot: its data in cells. -/
import Derived.Test.YtifmcbhgoncgjaaDoorRp
namespace Go.Proofs.YtifmcbhgoncgjaaDoor
open Go.RowKit
set_option linter.unusedVariables false
set_option linter.unusedSimpArgs false

structure DFoot where
  From : Int
  Size : Int
  Head : Int
deriving DecidableEq
def rFoot : Rep DFoot := Rep.map (Rep.pair Rep.int (Rep.pair Rep.int Rep.int)) (fun x => (x.From, (x.Size, x.Head))) (fun p => ⟨p.1, p.2.1, p.2.2⟩)
theorem rFoot_size : rFoot.size = 3 := rfl
def zFoot : DFoot := ⟨0, 0, 0⟩
theorem rFoot_rd {s : Bool} {w : World} {vs : List Value} {x : DFoot} {F : Addr → Prop} (h : rFoot.rd s w vs x F) : vs = [.int .i64 x.From, .int .i64 x.Size, .int .i64 x.Head] ∧ I64 x.From ∧ I64 x.Size ∧ I64 x.Head := by
  obtain ⟨a0, b0, F0, G0, rfl, h0, ⟨a1, b1, F1, G1, rfl, h1, h2, k1, l1, d1⟩, k0, l0, d0⟩ := h
  obtain ⟨rfl, i0⟩ := h0
  obtain ⟨rfl, i1⟩ := h1
  obtain ⟨rfl, i2⟩ := h2
  exact ⟨rfl, i0, i1, i2⟩
theorem rFoot_mk {s : Bool} {w : World} {x : DFoot} {F : Addr → Prop} (p0 : I64 x.From) (p1 : I64 x.Size) (p2 : I64 x.Head) : rFoot.rd s w [.int .i64 x.From, .int .i64 x.Size, .int .i64 x.Head] x F := by
  exact ⟨[.int .i64 x.From], [.int .i64 x.Size, .int .i64 x.Head], fun _ => False, fun _ => False, rfl, ⟨rfl, p0⟩, ⟨[.int .i64 x.Size], [.int .i64 x.Head], fun _ => False, fun _ => False, rfl, ⟨rfl, p1⟩, ⟨rfl, p2⟩, fun _ h => h.elim, fun _ h => h.elim, fun _ _ h _ => h.elim⟩, fun _ h => h.elim, fun _ h => h.elim, fun _ _ h _ => h.elim⟩
theorem rFoot_lab (k : Nat) (x : DFoot) : rFoot.lab k x = ⟨((k : Nat) : Int), ((k + 1 : Nat) : Int), ((k + 1 + 1 : Nat) : Int)⟩ := rfl
theorem rFoot_cnt (x : DFoot) : rFoot.cnt x = 1 + (1 + (1)) := rfl
theorem rFoot_sz (x : DFoot) : rFoot.sz x = 0 + (0 + (0)) := rfl
end Go.Proofs.YtifmcbhgoncgjaaDoor
