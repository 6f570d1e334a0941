/- The program's comparison of signs: what it gives. -/
import Derived.Test.YtpcggbpfpicjiaaDoorS3
import Derived.BigQuiet
import Derived.Deep.QuietTactic
namespace Go.Proofs.YtpcggbpfpicjiaaDoor
open Go.RowKit

theorem five_at (F : Nat → Int) (k : Nat) (h : k < 5) : (five F)[k]? = some (.int .i64 (F k)) := by
  match k, h with
  | 0, _ => rfl | 1, _ => rfl | 2, _ => rfl | 3, _ => rfl | 4, _ => rfl
theorem set_third (wd : World) (n q j : Nat) (hn : n = wd.heap.size) (cs : Array Value) (t : TypeId) (o2 o3 : Obj) (v : Value) :
    ((((wd.alloc (.cells cs t)).alloc o2).alloc o3).drewN q).setCell ⟨n, j, none⟩ v = (((wd.drewN q).alloc (.cells (cs.setIfInBounds j v) t)).alloc o2).alloc o3 := by
  show ((((wd.drewN q).alloc (.cells cs t)).alloc o2).alloc o3).setCell ⟨n, j, none⟩ v = _
  have h : n = (wd.drewN q).heap.size := hn
  rw [World.setCell_alloc_past _ _ _ _ (by simp; omega), World.setCell_alloc_past _ _ _ _ (by simp; omega), World.setCell_alloc_at _ _ _ _ _ h]
theorem below_drewN {B : Nat} {a w : World} (h : Below B a w) (q : Nat) : Below B a (w.drewN q) := ⟨h.os, h.tape, h.output, h.size, h.block⟩
set_option maxHeartbeats 800000 in
theorem implCommon_any (A B : Nat → Int) (w : World) :
    Calls Tryd.prog 41 #[.agg (five A), .agg (five B)] w fun e w' => e = .returned (.agg (five (com A B))) ∧ Below w.heap.size w w' := by
  go_enter Tryd.func41, Tryd.ntmps41
  go_wp2
  go_loopw [6] (fun i wr => ∃ j : Nat, j ≤ 5 ∧ i = .int .i64 j ∧ ∃ (wd : World) (cs : Array Value),
      wr = ((wd.alloc (.cells cs 48)).alloc (.cells (five B) 48)).alloc (.cells #[.int .i64 0, .int .i64 0, .int .i64 0, .int .i64 0, .int .i64 0] 48) ∧
      wd.heap.size = w.heap.size ∧ Hid (Below w.heap.size w wd) ∧ Hid (cs.size = 5) ∧ Hid (∀ k, k < j → cs[k]? = some (.int .i64 (com A B k))) ∧ Hid (∀ k, j ≤ k → k < 5 → cs[k]? = some (.int .i64 (A k)))) (fun i _ => 5 - (intOf i).toNat)
  case atStart => exact ⟨0, by omega, rfl, w, five A, rfl, rfl, Below.refl _ _, rfl, fun k hk => by omega, fun k _ hk => five_at A k hk⟩
  case round =>
    obtain ⟨j, hj, rfl, wd, cs, rfl, hwd, hb, hsz, hc, hd⟩ := hrel
    by_cases hlt : j < 5
    · have hv : cs[j]? = some (.int .i64 (A j)) := hd.out j (Nat.le_refl _) hlt
      have hv2 : (five B)[j]? = some (.int .i64 (B j)) := five_at B j hlt
      go_wp2_with fail
      go_quiet (fail)
      go_wp2
      · rename_i hq
        have hne : A j ≠ B j := by simpa using hq
        go_roundw
        case rel =>
          refine ⟨j + 1, by omega, by go_num, wd.drewN nq, _, set_third wd _ nq j hwd.symm _ _ _ _ _, hwd, below_drewN hb.out nq, by have := hsz.out; unfold Hid; simpa using this, fun k hk => ?_, fun k hk hk5 => ?_⟩
          · by_cases hkj : k = j
            · subst hkj
              rw [com_ne hne]
              exact set_at _ _ (by have := hsz.out; omega)
            · rw [set_off _ _ _ hkj]
              exact hc.out k (by omega)
          · rw [set_off _ _ _ (by omega)]
            exact hd.out k (by omega) hk5
        case measure => simp [intOf]; omega
      · rename_i hq
        have he : A j = B j := by simpa using hq
        go_roundw
        case rel =>
          refine ⟨j + 1, by omega, by go_num, wd.drewN nq, cs, rfl, hwd, below_drewN hb.out nq, hsz, fun k hk => ?_, fun k hk hk5 => hd.out k (by omega) hk5⟩
          by_cases hkj : k = j
          · subst hkj
            rw [com_eq he]
            exact hv
          · exact hc.out k (by omega)
        case measure => simp [intOf]; omega
    · obtain rfl : j = 5 := by omega
      obtain rfl := five_of hsz.out hc.out
      go_wp2
      have e2 : w.heap.size + 1 + 1 = ((wd.alloc (.cells (five (com A B)) 48)).alloc (.cells (five B) 48)).heap.size := by simp [hwd]
      refine bodyPost_ret (v := .agg (five (com A B))) (results_cell_row rfl _ _ (w.heap.size + 1 + 1) 48 _ (0, 0) _ rfl (by rw [e2]; exact heap_alloc_new _ _) Tryd.underlying48 rfl (by kernel_rfl)) rfl ⟨rfl, ?_⟩
      have b0 := hb.out
      have b1 := b0.alloc b0.size (.cells (five (com A B)) 48)
      have b2 := b1.alloc b1.size (.cells (five B) 48)
      exact b2.alloc b2.size _
end Go.Proofs.YtpcggbpfpicjiaaDoor
