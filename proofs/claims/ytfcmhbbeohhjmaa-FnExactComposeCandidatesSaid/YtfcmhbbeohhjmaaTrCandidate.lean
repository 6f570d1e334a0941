/- The struct Candidate: its data in cells. -/
import Derived.Test.YtfcmhbbeohhjmaaRp
import Derived.Test.YtfcmhbbeohhjmaaTrLink
namespace Go.Proofs.Ytfcmhbbeohhjmaa
set_option maxRecDepth 100000
open Go.RowKit
set_option linter.unusedVariables false
set_option linter.unusedSimpArgs false

structure DCandidate where
  Links : (List DLink)
deriving DecidableEq
def rCandidate : Rep DCandidate := Rep.map (Rep.row rLink) (fun x => x.Links) (fun p => ⟨p⟩)
theorem rCandidate_size : rCandidate.size = 1 := rfl
def zCandidate : DCandidate := ⟨[]⟩
theorem rCandidate_rd {s : Bool} {w : World} {vs : List Value} {x : DCandidate} {F : Addr → Prop} (h : rCandidate.rd s w vs x F) : ∃ v0, vs = [v0] ∧ RowRd rLink s w v0 x.Links F := by
  have h0 := h
  obtain ⟨v0, rfl, q0⟩ := h0
  exact ⟨v0, rfl, q0⟩
theorem rCandidate_mk {s : Bool} {w : World} {x : DCandidate} {F : Addr → Prop} {v0 : Value} (p0 : RowRd rLink s w v0 x.Links F) : rCandidate.rd s w [v0] x F := by
  exact ⟨v0, rfl, p0⟩
theorem rCandidate_lab (k : Nat) (x : DCandidate) : rCandidate.lab k x = ⟨labRow rLink (k) x.Links⟩ := rfl
theorem rCandidate_cnt (x : DCandidate) : rCandidate.cnt x = cntRow rLink x.Links := rfl
theorem rCandidate_sz (x : DCandidate) : rCandidate.sz x = szRow rLink x.Links := rfl
end Go.Proofs.Ytfcmhbbeohhjmaa
