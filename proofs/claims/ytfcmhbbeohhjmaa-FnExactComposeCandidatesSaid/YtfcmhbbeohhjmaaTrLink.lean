/- The struct Link: its data in cells. -/
import Derived.Test.YtfcmhbbeohhjmaaRp
namespace Go.Proofs.Ytfcmhbbeohhjmaa
set_option maxRecDepth 100000
open Go.RowKit
set_option linter.unusedVariables false
set_option linter.unusedSimpArgs false

structure DLink where
  In : UInt8
  Out : UInt8
deriving DecidableEq
def rLink : Rep DLink := Rep.map (Rep.pair Rep.byte Rep.byte) (fun x => (x.In, x.Out)) (fun p => ⟨p.1, p.2⟩)
theorem rLink_size : rLink.size = 2 := rfl
def zLink : DLink := ⟨0, 0⟩
theorem rLink_rd {s : Bool} {w : World} {vs : List Value} {x : DLink} {F : Addr → Prop} (h : rLink.rd s w vs x F) : vs = [.int .u8 (x.In.toNat : Int), .int .u8 (x.Out.toNat : Int)] := by
  obtain ⟨a0, b0, F0, G0, rfl, h0, h1, k0, l0, d0⟩ := h
  have e0 : a0 = [.int .u8 (x.In.toNat : Int)] := h0
  subst e0
  have e1 : b0 = [.int .u8 (x.Out.toNat : Int)] := h1
  subst e1
  exact rfl
theorem rLink_mk {s : Bool} {w : World} {x : DLink} {F : Addr → Prop} : rLink.rd s w [.int .u8 (x.In.toNat : Int), .int .u8 (x.Out.toNat : Int)] x F := by
  exact ⟨[.int .u8 (x.In.toNat : Int)], [.int .u8 (x.Out.toNat : Int)], fun _ => False, fun _ => False, rfl, rfl, rfl, fun _ h => h.elim, fun _ h => h.elim, fun _ _ h _ => h.elim⟩
theorem rLink_lab (k : Nat) (x : DLink) : rLink.lab k x = ⟨UInt8.ofNat (k), UInt8.ofNat (k + 1)⟩ := rfl
theorem rLink_cnt (x : DLink) : rLink.cnt x = 1 + (1) := rfl
theorem rLink_sz (x : DLink) : rLink.sz x = 0 + (0) := rfl
end Go.Proofs.Ytfcmhbbeohhjmaa
