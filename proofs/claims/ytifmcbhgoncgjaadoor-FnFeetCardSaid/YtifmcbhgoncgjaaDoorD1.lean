/- The model's drawing of inputs: a byte out of a cursor. Of what there was before the call only the cursor's own block turns. -/
import Derived.Test.YtifmcbhgoncgjaaDoorApp
import Derived.BigQuiet
import Derived.Deep.QuietTactic
namespace Go.Proofs.YtifmcbhgoncgjaaDoor
open Go.RowKit M

theorem and255 (a : Int) : 0 ≤ bits .and .i64 a 255 ∧ bits .and .i64 a 255 ≤ 255 := by
  have h1 : ((BitVec.ofInt 64 a &&& BitVec.ofInt 64 255).toNat) ≤ 255 := by
    rw [BitVec.toNat_and]
    exact Nat.and_le_right
  have h2 : bits .and .i64 a 255 = (((BitVec.ofInt 64 a &&& BitVec.ofInt 64 255).toNat : Nat) : Int) := by
    show IntKind.i64.wrap (((BitVec.ofInt 64 a &&& BitVec.ofInt 64 255).toNat : Nat) : Int) = _
    exact IntWalk.i64_in _ (by omega)
  rw [h2]
  omega
/-- The cursor's block: the code, the next place, the state. -/
def Cur (w : World) (g : Nat) (A : Option Addr) (len cap i : Nat) (h : Int) : Prop := w.heap[g]? = some (.cells #[.slice A len cap, .int .i64 i, .int .i64 h] 66 (0, 0))
/-- The code's bytes. -/
def Code_ (w : World) (g : Nat) (A : Option Addr) (len : Nat) : Prop :=
  ∀ k, k < len → ∃ (b off : Nat) (z : Int), A = some ⟨b, off, none⟩ ∧ b ≠ g ∧ b < w.heap.size ∧ 0 ≤ z ∧ z ≤ 255 ∧ w.cell? ⟨b, off + k, none⟩ = some (.int .u8 z)
/-- A byte, and the cursor as it stands behind it. -/
def BytePost (w : World) (g : Nat) (A : Option Addr) (len cap : Nat) (e : Ending) (w' : World) : Prop :=
  ∃ (x : Int) (i' : Nat) (h' : Int), 0 ≤ x ∧ x ≤ 255 ∧ e = .returned (.int .i64 x) ∧ Cur w' g A len cap i' h' ∧ w.grownBy w' (some g)

theorem Cur.cells {w : World} {g : Nat} {A : Option Addr} {len cap i : Nat} {h : Int} (hc : Cur w g A len cap i h) :
    w.cell? ⟨g, 0, none⟩ = some (.slice A len cap) ∧ w.cell? ⟨g, 1, none⟩ = some (.int .i64 i) ∧ w.cell? ⟨g, 2, none⟩ = some (.int .i64 h) ∧ w.frozen? ⟨g, 1, none⟩ = false ∧ w.frozen? ⟨g, 2, none⟩ = false ∧ g < w.heap.size :=
  ⟨by rw [cell_of_row w g 0 _ 66 (0, 0) hc]; rfl, by rw [cell_of_row w g 1 _ 66 (0, 0) hc]; rfl, by rw [cell_of_row w g 2 _ 66 (0, 0) hc]; rfl, frozen_of_row w g 1 _ 66 hc, frozen_of_row w g 2 _ 66 hc, lt_of_block hc⟩
theorem Cur.set2 {w : World} {g : Nat} {A : Option Addr} {len cap i : Nat} {h : Int} (hc : Cur w g A len cap i h) (q : Int) : Cur (w.setCell ⟨g, 2, none⟩ (.int .i64 q)) g A len cap i q :=
  heap_setCell_same w g 2 _ 66 _ hc
theorem Cur.set1 {w : World} {g : Nat} {A : Option Addr} {len cap i : Nat} {h : Int} (hc : Cur w g A len cap i h) (j : Nat) : Cur (w.setCell ⟨g, 1, none⟩ (.int .i64 j)) g A len cap j h :=
  heap_setCell_same w g 1 _ 66 _ hc
theorem grown_set {a w : World} {g : Nat} (h : a.grownBy w (some g)) (o : Nat) (u : Value) (n : Nat) : a.grownBy ((w.setCell ⟨g, o, none⟩ u).drewN n) (some g) :=
  ⟨h.os, h.tape, h.output, by simpa [World.setCell] using h.size, fun i hi hne => (Below.heap_setCell w ⟨g, o, none⟩ u i (fun e => hne (by rw [e]))).trans (h.block i hi hne)⟩

set_option maxHeartbeats 1000000 in
theorem byte_any (w : World) (g : Nat) (A : Option Addr) (len cap i : Nat) (h : Int) (hlen : len ≤ 1048576) (hc : Cur w g A len cap i h) (hcode : Code_ w g A len) :
    Calls Tryd.prog 46 #[.pointer (some ⟨g, 0, none⟩)] w (BytePost w g A len cap) := by
  obtain ⟨c0, c1, c2, f1, f2, hg⟩ := hc.cells
  have HC := Lib.hid hc
  clear hc
  by_cases hi : i < len
  · obtain ⟨b, off, z, rfl, hbg, hbs, hz0, hz1, hcell⟩ := hcode i hi
    clear hcode
    go_enter Tryd.func46, Tryd.ntmps46
    go_wp2
    generalize wrap64 (wrap64 (h * 6364136223846793005) + 1442695040888963407) = q
    go_quiet (fail)
    go_wp2
    have hx := and255 (bits .xor .i64 (q / 8589934592) (q / 35184372088832))
    generalize bits .and .i64 (bits .xor .i64 (q / 8589934592) (q / 35184372088832)) 255 = x at hx ⊢
    generalize hW : (w.setCell ⟨g, 2, none⟩ (.int .i64 q)).drewN nq = W
    have HC2 : Hid (Cur W g (some ⟨b, off, none⟩) len cap i q) := by subst hW; exact HC.out.set2 q
    have HG : Hid (w.grownBy W (some g)) := by subst hW; exact grown_set (World.grownBy.refl w _) 2 _ nq
    have hcell2 : W.cell? ⟨b, off + i, none⟩ = some (.int .u8 z) := HG.out.cell hcell (fun e => hbg (by simpa using e))
    obtain ⟨d0, d1, d2, e1, e2, hg2⟩ := HC2.out.cells
    have hi' : (i : Int) < (len : Int) := by omega
    clear hW c0 c1 c2 f1 f2 hcell
    go_quiet (fail)
    go_wp2
    have hsum : IntKind.i64.wrap (x + z) = x + z := IntWalk.i64_in _ (by omega)
    have hwz : IntKind.i64.wrap z = z := IntWalk.i64_in _ (by omega)
    have hy := and255 (x + z)
    go_quiet (fail)
    go_wp2
    go_ret
    refine ⟨_, i + 1, q, hy.1, hy.2, rfl, ?_, ?_⟩
    · exact HC2.out.set1 (i + 1)
    · exact grown_set HG.out 1 _ _
  · clear hcode
    go_enter Tryd.func46, Tryd.ntmps46
    go_wp2
    generalize wrap64 (wrap64 (h * 6364136223846793005) + 1442695040888963407) = q
    go_quiet (fail)
    go_wp2
    have hx := and255 (bits .xor .i64 (q / 8589934592) (q / 35184372088832))
    generalize bits .and .i64 (bits .xor .i64 (q / 8589934592) (q / 35184372088832)) 255 = x at hx ⊢
    generalize hW : (w.setCell ⟨g, 2, none⟩ (.int .i64 q)).drewN nq = W
    have HC2 : Hid (Cur W g A len cap i q) := by subst hW; exact HC.out.set2 q
    have HG : Hid (w.grownBy W (some g)) := by subst hW; exact grown_set (World.grownBy.refl w _) 2 _ nq
    obtain ⟨d0, d1, d2, e1, e2, hg2⟩ := HC2.out.cells
    have hi' : ¬ (i : Int) < (len : Int) := by omega
    have hi2 : decide ((i : Int) < (len : Int)) = false := by simpa using hi'
    clear hW c0 c1 c2 f1 f2
    go_quiet (fail)
    go_wp2
    go_ret
    exact ⟨_, i, q, hx.1, hx.2, rfl, HC2.out, ⟨HG.out.os, HG.out.tape, HG.out.output, HG.out.size, HG.out.block⟩⟩
end Go.Proofs.YtifmcbhgoncgjaaDoor
