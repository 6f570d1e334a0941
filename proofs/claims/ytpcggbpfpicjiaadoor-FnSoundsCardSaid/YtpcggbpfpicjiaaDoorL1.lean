/- The laws' helpers over rows of numbers: what they answer. -/
import Derived.Test.YtpcggbpfpicjiaaDoorAppI
import Derived.Test.YtpcggbpfpicjiaaDoorS6
import Derived.BigQuiet
namespace Go.Proofs.YtpcggbpfpicjiaaDoor
open Go.RowKit Go.Sort

/-- A row of numbers of the call's own, read place by place. -/
theorem int_read {w : World} {base : Nat} {v : Value} {l : List Int} (h : w.ownsRow base 3 1 v l.length (cellsI l)) :
    ∃ A cap, v = .slice A l.length cap ∧ ∀ k, k < l.length → ∃ g, A = some ⟨g, 0, none⟩ ∧ w.cell? ⟨g, k, none⟩ = some (.int .i64 (l.getD k 0)) := by
  have hh := h
  rcases h.2 with ⟨rfl, hn⟩ | ⟨g, cap, cur, rfl, _⟩
  · exact ⟨none, 0, by rw [hn], fun k hk => by omega⟩
  · refine ⟨some ⟨g, 0, none⟩, cap, rfl, fun k hk => ⟨g, rfl, ?_⟩⟩
    have hc : (cellsI l).length = l.length := cellsI_len l
    rw [hh.cellAt k (by omega), cellsI_at l k hk]
/-- k, k + 1, .., n of them. -/
def marks (k : Int) (n : Nat) : List Int := (List.range n).map fun (i : Nat) => k + (i : Int)
theorem marks_len (k : Int) (n : Nat) : (marks k n).length = n := by simp [marks]
theorem marks_at (k : Int) (n i : Nat) (h : i < n) : (marks k n).getD i 0 = k + i := by
  unfold marks; rw [List.getD_eq_getElem?_getD, List.getElem?_map, List.getElem?_range h]; rfl
theorem marks_step (k : Int) (l : List Int) (i : Nat) (h : i < l.length) : (cellsI (marks k i ++ l.drop i)).set i (.int .i64 (k + i)) = cellsI (marks k (i + 1) ++ l.drop (i + 1)) := by
  have e1 : marks k (i + 1) = marks k i ++ [k + (i : Int)] := by unfold marks; rw [List.range_succ, List.map_append]; rfl
  have e2 : l.drop i = l[i] :: l.drop (i + 1) := List.drop_eq_getElem_cons h
  have e3 : (cellsI (marks k i)).length = i := by rw [cellsI_len, marks_len]
  rw [e1, e2, cellsI_append, cellsI_append, cellsI_append, List.set_append_right _ _ (by omega), e3, Nat.sub_self, show cellsI (l[i] :: l.drop (i + 1)) = .int .i64 l[i] :: cellsI (l.drop (i + 1)) from rfl, List.set_cons_zero, List.append_assoc]
  rfl
set_option maxHeartbeats 400000 in
theorem eqIntS_any (u v : Value) (b1 b2 : Nat) (l : List Int) (w : World) (hn : l.length ≤ 1000000000) (hu : w.ownsRow b1 3 1 u l.length (cellsI l)) (hv : w.ownsRow b2 3 1 v l.length (cellsI l)) :
    Calls Tryd.prog 31 #[u, v] w fun e w' => e = .returned (.bool true) ∧ Below w.heap.size w w' := by
  obtain ⟨A, c1, rfl, hA⟩ := int_read hu
  obtain ⟨B, c2, rfl, hB⟩ := int_read hv
  have HA := Lib.hid hA
  have HB := Lib.hid hB
  clear hA hB hu hv
  generalize l.length = n at *
  go_enter Tryd.func31, Tryd.ntmps31
  go_wp2
  go_loopw [5] (fun i wr => ∃ (k : Nat), k ≤ n ∧ i = .int .i64 k ∧ Below w.heap.size w wr) (fun i _ => n - (intOf i).toNat)
  case atStart => exact ⟨0, by omega, rfl, Below.refl _ _⟩
  case round =>
    obtain ⟨k, hk, rfl, hb⟩ := hrel
    by_cases hkl : k < n
    · obtain ⟨g, rfl, hg⟩ := HA.out k hkl
      obtain ⟨h, rfl, hh⟩ := HB.out k hkl
      have hg1 := cell_kept hb hg
      have hh1 := cell_kept hb hh
      have HBE := Lib.hid hb
      clear hb hg hh
      go_wp2
      go_quiet (fail)
      go_wp2
      go_roundw
      case rel => exact ⟨k + 1, by omega, by go_num, below_drewN HBE.out _⟩
      case measure => simp [intOf]; omega
    · obtain rfl : k = n := by omega
      go_wp2
      go_ret
      exact ⟨rfl, hb⟩
theorem int_form {w : World} {base : Nat} {v : Value} {n : Nat} {xs : List Value} (h : w.ownsRow base 3 1 v n xs) (hn : 0 < n) : ∃ g cap, v = .slice (some ⟨g, 0, none⟩) n cap ∧ base ≤ g := by
  rcases h.2 with ⟨rfl, h0⟩ | ⟨g, cap, cur, rfl, hb, _⟩
  · omega
  · exact ⟨g, cap, rfl, hb⟩
set_option maxHeartbeats 400000 in
theorem markIntS_any (v : Value) (base : Nat) (l : List Int) (w : World) (hn : l.length ≤ 1000000000) (hv : w.ownsRow base 3 1 v l.length (cellsI l)) :
    Calls Tryd.prog 32 #[v, .int .i64 1] w fun e w' => e = .returned (.int .i64 (1 + (l.length : Int))) ∧ w'.ownsRow base 3 1 v l.length (cellsI (marks 1 l.length)) ∧ Below base w w' := by
  obtain ⟨A, c1, rfl, hA⟩ := int_read hv
  have HV := Lib.hid hv
  clear hA hv
  generalize hl : l.length = n at *
  have HL := Lib.hid hl
  clear hl
  go_enter Tryd.func32, Tryd.ntmps32
  go_wp2
  go_loopw [1, 5] (fun q i wr => ∃ (k : Nat), k ≤ n ∧ i = .int .i64 k ∧ q = .int .i64 (1 + (k : Int)) ∧ wr.ownsRow base 3 1 (.slice A n c1) n (cellsI (marks 1 k ++ l.drop k)) ∧ Below base w wr) (fun _ i _ => n - (intOf i).toNat)
  case atStart => exact ⟨0, by omega, rfl, rfl, HV.out, Below.refl _ _⟩
  case round =>
    obtain ⟨k, hk, rfl, rfl, hown, hb⟩ := hrel
    by_cases hkl : k < n
    · obtain ⟨g, cap, he, hgb⟩ := int_form hown (by omega)
      obtain ⟨rfl, _, rfl⟩ := Value.slice.inj he
      have hm := hown.1
      have hc := hown.cellAt k (by omega)
      have hf := hown.frozenAt k
      have hst := hown.stored k (.int .i64 (1 + (k : Int)))
      obtain ⟨x, hx⟩ : ∃ x, (cellsI (marks 1 k ++ l.drop k))[k]? = some x := ⟨_, List.getElem?_eq_getElem (by rw [hm]; omega)⟩
      rw [hx] at hc
      have HST := Lib.hid hst
      have HBE := Lib.hid hb
      clear hst hb hm he hown hx
      go_wp2
      go_roundw
      case rel =>
        refine ⟨k + 1, by omega, by go_num, by go_num, ?_, HBE.out.setCell hgb _⟩
        rw [← marks_step 1 l k (by rw [HL.out]; exact hkl)]
        exact HST.out.1
      case measure => simp [intOf]; omega
    · obtain rfl : k = n := by omega
      rw [show l.drop k = [] from List.drop_of_length_le (by rw [HL.out]; exact Nat.le_refl _), List.append_nil] at hown
      go_wp2
      go_ret
      exact ⟨rfl, hown, hb⟩
set_option maxHeartbeats 400000 in
theorem heldIntS_any (v : Value) (base n : Nat) (w : World) (hn : n ≤ 1000000000) (hv : w.ownsRow base 3 1 v n (cellsI (marks 1 n))) :
    Calls Tryd.prog 33 #[v, .int .i64 1] w fun e w' => e = .returned (.int .i64 (1 + (n : Int))) ∧ w = w' := by
  have hv' : w.ownsRow base 3 1 v (marks 1 n).length (cellsI (marks 1 n)) := by rw [marks_len]; exact hv
  obtain ⟨A, c1, rfl, hA⟩ := int_read hv'
  rw [marks_len] at hA
  rw [marks_len]
  have HA := Lib.hid hA
  clear hA hv hv'
  go_enter Tryd.func33, Tryd.ntmps33
  go_wp2
  go_loop [1, 5] (fun q i => ∃ (k : Nat), k ≤ n ∧ i = .int .i64 k ∧ q = .int .i64 (1 + (k : Int))) (fun _ i => n - (intOf i).toNat)
  case atStart => exact ⟨0, by omega, rfl, rfl⟩
  case round =>
    obtain ⟨k, hk, rfl, rfl⟩ := hrel
    by_cases hkl : k < n
    · obtain ⟨g, rfl, hg⟩ := HA.out k hkl
      rw [marks_at 1 n k hkl] at hg
      go_wp2
      go_round
      case rel => exact ⟨k + 1, by omega, by go_num, by go_num⟩
      case measure => simp [intOf]; omega
    · obtain rfl : k = n := by omega
      go_wp2
      go_ret
      exact ⟨rfl, rfl⟩
end Go.Proofs.YtpcggbpfpicjiaaDoor
