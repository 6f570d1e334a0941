/- The laws' helpers over syllables: equality. -/
import Derived.Test.YtjajbkbocbodfaaDoorY0
import Derived.WalkKit
import Derived.BigQuiet
import Derived.Lib.QuietBelow
namespace Go.Proofs.YtjajbkbocbodfaaDoor
open Go.RowKit Go.Sort M

theorem cell_kp {w w' : World} (hb : Below w.heap.size w w') {p : Addr} {v : Value} (h : w.cell? p = some v) : w'.cell? p = some v := (hb.cell (block_lt_of_cell h)).trans h
theorem eqSyl_any (x : Syl) (w : World) :
    Calls Tryd.prog 63 #[sylV x, sylV x] w fun e w' => e = .returned (.bool true) ∧ Below w.heap.size w w' := by
  unfold sylV
  generalize bs x.o = O
  generalize bs x.n = N
  generalize bs x.c = C
  go_enter Tryd.func63, Tryd.ntmps63
  go_wp2
  go_ret
  exact ⟨rfl, ((Below.refl _ _).alloc (Nat.le_refl _) _).alloc (by simp) _⟩
set_option maxHeartbeats 1000000 in
theorem eqSyls_any (v u : Value) (l : List Syl) (w : World) (hm : l.length ≤ maxLen) (hv : YRow w v l) (hu : YRow w u l) :
    Calls Tryd.prog 41 #[v, u] w fun e w' => e = .returned (.bool true) ∧ Below w.heap.size w w' := by
  obtain ⟨A, cap, rfl, hA⟩ := hv
  obtain ⟨B, cap2, rfl, hB⟩ := hu
  unfold maxLen at hm
  have HA := Lib.hid hA
  have HB := Lib.hid hB
  clear hA hB
  generalize hll : l.length = n at *
  clear hll
  go_enter Tryd.func41, Tryd.ntmps41
  go_wp2
  go_loopw [5] (fun i wr => ∃ (k : Nat), k ≤ n ∧ i = .int .i64 k ∧ Below w.heap.size w wr) (fun i _ => n - (intOf i).toNat)
  case atStart => exact ⟨0, by omega, rfl, Below.refl _ _⟩
  case round =>
    obtain ⟨k, hk, rfl, hbe⟩ := hrel
    have HBE := Lib.hid hbe
    clear hbe
    by_cases hkl : k < n
    · obtain ⟨g, off, rfl, h0, h1, h2⟩ := HA.out k hkl
      obtain ⟨g', off', rfl, h0', h1', h2'⟩ := HB.out k hkl
      have c0 := fun d os => cell_regrown (cell_kp HBE.out h0) d os
      have c1 := fun d os => cell_regrown (cell_kp HBE.out h1) d os
      have c2 := fun d os => cell_regrown (cell_kp HBE.out h2) d os
      have d0 := fun d os => cell_regrown (cell_kp HBE.out h0') d os
      have d1 := fun d os => cell_regrown (cell_kp HBE.out h1') d os
      have d2 := fun d os => cell_regrown (cell_kp HBE.out h2') d os
      clear h0 h1 h2 h0' h1' h2'
      generalize l.getD k syZ = x at *
      have cS : ∀ d os, Calls Tryd.prog 63 #[sylV x, sylV x] (grow (redrawn wr d) os) fun e w'' => e = .returned (.bool true) ∧ ∃ p : Regrown, w'' = grow (redrawn wr p.d) p.os :=
        fun d os => Calls.regrown_of (eqSyl_any x _)
      unfold sylV at cS
      go_wp2
      refine wp_region_quiet_below (by kernel_rfl) (by kernel_rfl) ?_
      repeat (quiet_step (exact cS _ _))
      refine wpQuiet_nil ?_
      intro _ hw'
      obtain ⟨⟨dq, osq⟩, hw''⟩ := hw'
      subst hw''
      go_wp2
      go_roundw
      case rel => exact ⟨k + 1, by omega, by go_num, HBE.out.trans ((below_regrown wr dq osq).mono HBE.out.size)⟩
      case measure => simp [intOf]; omega
    · obtain rfl : k = n := by omega
      go_wp2
      go_ret
      exact ⟨rfl, HBE.out⟩
theorem yrow_own {w : World} {base : Nat} {v : Value} {l : List Syl} (h : w.ownsRow base 38 3 v l.length (cellsY l)) : YRow w v l := by
  obtain ⟨A, cap, rfl, hr⟩ := syl_read h
  refine ⟨A, cap, rfl, fun k hk => ?_⟩
  obtain ⟨g, rfl, h0, h1, h2⟩ := hr k hk
  exact ⟨g, 0, rfl, by rw [Nat.zero_add]; exact h0, by rw [Nat.zero_add]; exact h1, by rw [Nat.zero_add]; exact h2⟩
theorem yrow_kept {w w' : World} (hb : Below w.heap.size w w') {v : Value} {l : List Syl} (h : YRow w v l) : YRow w' v l := by
  obtain ⟨A, cap, rfl, hr⟩ := h
  refine ⟨A, cap, rfl, fun k hk => ?_⟩
  obtain ⟨g, off, rfl, h0, h1, h2⟩ := hr k hk
  exact ⟨g, off, rfl, cell_kp hb h0, cell_kp hb h1, cell_kp hb h2⟩
end Go.Proofs.YtjajbkbocbodfaaDoor
