/- The model's drawing of inputs: one number out of a list; what stands behind a draw. -/
import Derived.Test.YtifmcbhgoncgjaaDoorDk
import Derived.Test.YtifmcbhgoncgjaaDoorRp
namespace Go.Proofs.YtifmcbhgoncgjaaDoor
open Go.RowKit M
set_option linter.unusedVariables false

theorem CurOk.below {w w' : World} {g : Nat} {A : Option Addr} {len cap : Nat} (h : CurOk w g A len cap) (hb : Below w.heap.size w w') : CurOk w' g A len cap := by
  have hlt := h.lt
  obtain ⟨hl, ⟨i, q, hc⟩, hcode⟩ := h
  refine ⟨hl, ⟨i, q, (hb.block g hlt).trans hc⟩, fun k hk => ?_⟩
  obtain ⟨b, off, z, hA, hbg, hbs, h0, h1, hcell⟩ := hcode k hk
  exact ⟨b, off, z, hA, hbg, Nat.lt_of_lt_of_le hbs hb.size, h0, h1, (hb.cell (p := ⟨b, off + k, none⟩) hbs).trans hcell⟩
/-- A list of numbers that lies apart from the cursor. -/
def Nums (w : World) (gl g n : Nat) : Prop := gl ≠ g ∧ gl < w.heap.size ∧ ∀ k, k < n → ∃ v : Int, I64 v ∧ w.cell? ⟨gl, k, none⟩ = some (.int .i64 v)
theorem Nums.of {w : World} {gl g : Nat} {l : List Int} (h : InC w gl (cellsN l).toArray 3) (hg : gl ≠ g) (hl : ∀ z ∈ l, I64 z) : Nums w gl g l.length := by
  refine ⟨hg, h.lt, fun k hk => ⟨_, hl _ (List.getElem_mem hk), ?_⟩⟩
  exact h.cell k (by simp [cellsN, List.getElem?_eq_getElem hk])
theorem pick_ok (w : World) (g : Nat) (A : Option Addr) (len cap gl n : Nat) (hc : CurOk w g A len cap) (h1 : 1 ≤ n) (h2 : n ≤ 1000) (hn : Nums w gl g n) :
    Calls Tryd.prog 45 #[.pointer (some ⟨g, 0, none⟩), .slice (some ⟨gl, 0, none⟩) n n] w (NumPost I64 w g A len cap) := by
  have HC := Lib.hid hc
  have HN := Lib.hid hn
  clear hc hn
  go_enter Tryd.func45, Tryd.ntmps45
  go_wp2_with fail
  refine (below_ok _ g A len cap n HC.out (by omega) (by omega)).mono ?_
  rintro e w1 ⟨x, ⟨x0, x1⟩, rfl, hc1, hg1⟩
  obtain ⟨k, rfl⟩ : ∃ k : Nat, x = k := ⟨x.toNat, by omega⟩
  obtain ⟨v, hvi, hv⟩ := HN.out.2.2 k (by omega)
  have hne : some gl ≠ some g := fun e => HN.out.1 (by simpa using e)
  have hcell : w1.cell? ⟨gl, k, none⟩ = some (.int .i64 v) := hg1.cell hv hne
  have HC1 := Lib.hid hc1
  have HG1 := Lib.hid hg1
  have HVI := Lib.hid hvi
  clear hc1 hg1 hne hv hvi
  go_wp2
  go_ret
  exact ⟨v, HVI.out, rfl, HC1.out, HG1.out⟩
/-- A row that lies apart from the one block that may have turned. -/
theorem RowRd.grown {α : Type} {E : Rep α} {s : Bool} {w w' : World} {v : Value} {l : List α} {F : Addr → Prop} {g : Nat} (h : RowRd E s w v l F) (hg : w.grownBy w' (some g)) (hF : ∀ a, F a → a.block ≠ g) : RowRd E s w' v l F :=
  (h.tight.frame fun a ha => by
    have hb := hg.block a.block ha.2 (fun e => hF a ha.1 (by simpa using e))
    exact ⟨World.cell?_of_block (w := w) hb, World.frozen?_of_block (w := w) hb⟩).mono fun a ha => ha.1
theorem InC.grown {w w' : World} {k g : Nat} {cs : Array Value} {t : TypeId} (h : InC w k cs t) (hg : w.grownBy w' (some g)) (hk : k ≠ g) : InC w' k cs t := (hg.block k h.lt (fun e => hk (by simpa using e))).trans h
theorem grown_of_below {w w' : World} {g : Option Nat} (hb : Below w.heap.size w w') : w.grownBy w' g := ⟨hb.os, hb.tape, hb.output, hb.size, fun i hi _ => hb.block i hi⟩
end Go.Proofs.YtifmcbhgoncgjaaDoor
