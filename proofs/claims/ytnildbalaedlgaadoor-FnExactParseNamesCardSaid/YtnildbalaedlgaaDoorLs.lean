/- The laws' helpers over rows of texts: what they answer. -/
import Derived.Test.YtnildbalaedlgaaDoorAppS
import Derived.Test.YtnildbalaedlgaaDoorLk
namespace Go.Proofs.YtnildbalaedlgaaDoor
set_option maxRecDepth 100000
open Go.RowKit Go.Sort M

set_option maxHeartbeats 400000 in
theorem eqStringS_any (u v : Value) (b1 b2 : Nat) (l : List ByteArray) (w : World) (hn : l.length ≤ 1000000000) (hu : w.ownsRow b1 9 1 u l.length (cellsS l)) (hv : w.ownsRow b2 9 1 v l.length (cellsS l)) :
    Calls Tryd.prog 10 #[u, v] w fun e w' => e = .returned (.bool true) ∧ Below w.heap.size w w' := by
  obtain ⟨A, c1, rfl, hA⟩ := str_read hu
  obtain ⟨B, c2, rfl, hB⟩ := str_read hv
  have HA := Lib.hid hA
  have HB := Lib.hid hB
  clear hA hB hu hv
  generalize l.length = n at *
  go_enter Tryd.func10, Tryd.ntmps10
  go_wp2
  go_loopw [5] (fun i wr => ∃ (k : Nat), k ≤ n ∧ i = .int .i64 k ∧ Below w.heap.size w wr) (fun i _ => n - (intOf i).toNat)
  case atStart => exact ⟨0, by omega, rfl, Below.refl _ _⟩
  case round =>
    obtain ⟨k, hk, rfl, hb⟩ := hrel
    by_cases hkl : k < n
    · obtain ⟨g, rfl, hg⟩ := HA.out k hkl
      obtain ⟨h, rfl, hh⟩ := HB.out k hkl
      have hg1 := cell_kept hb hg
      have hh1 := cell_kept hb hh
      have HBE := Lib.hid hb
      clear hb hg hh
      go_wp2
      go_quiet (fail)
      go_wp2
      go_roundw
      case rel => exact ⟨k + 1, by omega, by go_num, below_drewN HBE.out _⟩
      case measure => simp [intOf]; omega
    · obtain rfl : k = n := by omega
      go_wp2
      go_ret
      exact ⟨rfl, hb⟩
def mkM (k n : Nat) : List ByteArray := (List.range n).map fun i => mkT (k + i)
theorem mkM_len (k n : Nat) : (mkM k n).length = n := by simp [mkM]
theorem mkM_at (k n i : Nat) (h : i < n) : (mkM k n).getD i ByteArray.empty = mkT (k + i) := by
  unfold mkM; rw [List.getD_eq_getElem?_getD, List.getElem?_map, List.getElem?_range h]; rfl
theorem mkM_step (k : Nat) (l : List ByteArray) (i : Nat) (h : i < l.length) : (cellsS (mkM k i ++ l.drop i)).set i (.string (mkT (k + i))) = cellsS (mkM k (i + 1) ++ l.drop (i + 1)) := by
  have e1 : mkM k (i + 1) = mkM k i ++ [mkT (k + i)] := by unfold mkM; rw [List.range_succ, List.map_append]; rfl
  have e2 : l.drop i = l[i] :: l.drop (i + 1) := List.drop_eq_getElem_cons h
  have e3 : (cellsS (mkM k i)).length = i := by rw [cellsS_len, mkM_len]
  rw [e1, e2, cellsS_append, cellsS_append, cellsS_append, List.set_append_right _ _ (by omega), e3, Nat.sub_self, show cellsS (l[i] :: l.drop (i + 1)) = .string l[i] :: cellsS (l.drop (i + 1)) from rfl, List.set_cons_zero, List.append_assoc]
  rfl
set_option maxHeartbeats 800000 in
theorem markStringS_any (v : Value) (base : Nat) (l : List ByteArray) (w : World) (hn : l.length ≤ 1000000) (hv : w.ownsRow base 9 1 v l.length (cellsS l)) (hbase : base ≤ w.heap.size) :
    Calls Tryd.prog 11 #[v, .int .i64 1] w fun e w' => e = .returned (.int .i64 (1 + (l.length : Int))) ∧ w'.ownsRow base 9 1 v l.length (cellsS (mkM 1 l.length)) ∧ Below base w w' := by
  obtain ⟨A, c1, rfl, hA⟩ := str_read hv
  have HV := Lib.hid hv
  clear hA hv
  generalize hl : l.length = n at *
  have HL := Lib.hid hl
  clear hl
  go_enter Tryd.func11, Tryd.ntmps11
  go_wp2
  go_loopw [1, 5] (fun q i wr => ∃ (k : Nat), k ≤ n ∧ i = .int .i64 k ∧ q = .int .i64 (1 + (k : Int)) ∧ wr.ownsRow base 9 1 (.slice A n c1) n (cellsS (mkM 1 k ++ l.drop k)) ∧ Below base w wr) (fun _ i _ => n - (intOf i).toNat)
  case atStart => exact ⟨0, by omega, rfl, rfl, HV.out, Below.refl _ _⟩
  case round =>
    obtain ⟨k, hk, rfl, rfl, hown, hb⟩ := hrel
    by_cases hkl : k < n
    · obtain ⟨g, cap, he, hgb⟩ := str_form hown (by omega)
      obtain ⟨rfl, _, rfl⟩ := Value.slice.inj he
      have HB := Lib.hid hb
      have HO := Lib.hid hown
      clear he hown hb
      go_wp2_with fail
      rw [show (1 + (k : Int)) = ((1 + k : Nat) : Int) by omega]
      refine (markText_any (1 + k) _ (by omega) (by omega)).mono ?_
      rintro e w1 ⟨rfl, hb1⟩
      have hown := own_kept hb1 HO.out
      have hm := hown.1
      have hc := hown.cellAt k (by omega)
      have hf := hown.frozenAt k
      have hst := hown.stored k (.string (mkT (1 + k)))
      obtain ⟨x, hx⟩ : ∃ x, (cellsS (mkM 1 k ++ l.drop k))[k]? = some x := ⟨_, List.getElem?_eq_getElem (by rw [hm]; omega)⟩
      rw [hx] at hc
      have HST := Lib.hid hst
      have HB1 := Lib.hid hb1
      clear hst hm hown hx hb1
      go_wp2
      go_roundw
      case rel =>
        refine ⟨k + 1, by omega, by go_num, by go_num, ?_, (HB.out.trans (HB1.out.mono (Nat.le_trans hbase HB.out.size))).setCell hgb _⟩
        rw [← mkM_step 1 l k (by rw [HL.out]; exact hkl)]
        exact HST.out.1
      case measure => simp [intOf]; omega
    · obtain rfl : k = n := by omega
      rw [show l.drop k = [] from List.drop_of_length_le (by rw [HL.out]; exact Nat.le_refl _), List.append_nil] at hown
      go_wp2
      go_ret
      exact ⟨rfl, hown, hb⟩
set_option maxHeartbeats 800000 in
theorem heldStringS_any (v : Value) (base n : Nat) (w : World) (hn : n ≤ 1000000) (hv : w.ownsRow base 9 1 v n (cellsS (mkM 1 n))) :
    Calls Tryd.prog 16 #[v, .int .i64 1] w fun e w' => e = .returned (.int .i64 (1 + (n : Int))) ∧ Below w.heap.size w w' := by
  have hv' : w.ownsRow base 9 1 v (mkM 1 n).length (cellsS (mkM 1 n)) := by rw [mkM_len]; exact hv
  obtain ⟨A, c1, rfl, hA⟩ := str_read hv'
  rw [mkM_len] at hA
  rw [mkM_len]
  have HA := Lib.hid hA
  clear hA hv hv'
  go_enter Tryd.func16, Tryd.ntmps16
  go_wp2
  go_loopw [1, 5] (fun q i wr => ∃ (k : Nat), k ≤ n ∧ i = .int .i64 k ∧ q = .int .i64 (1 + (k : Int)) ∧ Below w.heap.size w wr) (fun _ i _ => n - (intOf i).toNat)
  case atStart => exact ⟨0, by omega, rfl, rfl, Below.refl _ _⟩
  case round =>
    obtain ⟨k, hk, rfl, rfl, hb⟩ := hrel
    by_cases hkl : k < n
    · obtain ⟨g, rfl, hg⟩ := HA.out k hkl
      rw [mkM_at 1 n k hkl] at hg
      have hc := cell_kept hb hg
      have HB := Lib.hid hb
      clear hg hb
      have cV : ∀ d os, Calls Tryd.prog 24 #[.int .i64 (1 + (k : Int))] (grow (redrawn wr d) os) fun e w'' => e = .returned (.string (mkT (1 + k))) ∧ ∃ p : Regrown, w'' = grow (redrawn wr p.d) p.os := by
        intro d os
        rw [show (1 + (k : Int)) = ((1 + k : Nat) : Int) by omega]
        exact Calls.regrown_of (markText_any (1 + k) _ (by omega) (by omega))
      have gc := fun d os => cell_regrown hc d os
      clear hc
      go_wp2_with fail
      refine wp_region_quiet_below (by kernel_rfl) (by kernel_rfl) ?_
      repeat (quiet_step (exact cV _ _))
      refine wpQuiet_nil ?_
      intro _ hw'
      obtain ⟨⟨dq, osq⟩, hw''⟩ := hw'
      subst hw''
      go_wp2
      go_roundw
      case rel => exact ⟨k + 1, by omega, by go_num, by go_num, HB.out.trans ((below_regrown wr dq osq).mono HB.out.size)⟩
      case measure => simp [intOf]; omega
    · obtain rfl : k = n := by omega
      go_wp2
      go_ret
      exact ⟨rfl, hb⟩
end Go.Proofs.YtnildbalaedlgaaDoor
