/- The program's FootingsOf: what it answers. -/
import Derived.Test.YtifmcbhgoncgjaaDoorFil
import Derived.Laws.EntriesVeiled
namespace Go.Proofs.YtifmcbhgoncgjaaDoor
open Go.RowKit
set_option linter.unusedVariables false
set_option linter.unusedSimpArgs false

/-- The three boxes. -/
def boxesF (w : World) (N : Nat) : World := ((w.alloc (.cells #[.int .i64 (N : Int)] 3)).alloc (.cells #[.slice none 0 0] 26)).alloc (.cells #[fillV w.heap.size (w.heap.size + 1) (w.heap.size + 1 + 1)] 56)
theorem boxesF_size (w : World) (N : Nat) : (boxesF w N).heap.size = w.heap.size + 3 := by simp [boxesF]
theorem boxesF_in (w : World) (N : Nat) : InC (boxesF w N) w.heap.size #[.int .i64 (N : Int)] 3 ∧ InC (boxesF w N) (w.heap.size + 1) #[.slice none 0 0] 26 ∧ InC (boxesF w N) (w.heap.size + 1 + 1) #[fillV w.heap.size (w.heap.size + 1) (w.heap.size + 1 + 1)] 56 := by
  have h1 : InC (w.alloc (.cells #[.int .i64 (N : Int)] 3)) w.heap.size #[.int .i64 (N : Int)] 3 := heap_alloc_new _ _
  have h2 : InC ((w.alloc (.cells #[.int .i64 (N : Int)] 3)).alloc (.cells #[.slice none 0 0] 26)) (w.heap.size + 1) #[.slice none 0 0] 26 := by
    have := heap_alloc_new (w.alloc (.cells #[.int .i64 (N : Int)] 3)) (.cells #[.slice none 0 0] 26)
    rwa [show (w.alloc (.cells #[.int .i64 (N : Int)] 3)).heap.size = w.heap.size + 1 by simp] at this
  have h3 : InC (boxesF w N) (w.heap.size + 1 + 1) #[fillV w.heap.size (w.heap.size + 1) (w.heap.size + 1 + 1)] 56 := by
    have := heap_alloc_new ((w.alloc (.cells #[.int .i64 (N : Int)] 3)).alloc (.cells #[.slice none 0 0] 26)) (.cells #[fillV w.heap.size (w.heap.size + 1) (w.heap.size + 1 + 1)] 56)
    rwa [show ((w.alloc (.cells #[.int .i64 (N : Int)] 3)).alloc (.cells #[.slice none 0 0] 26)).heap.size = w.heap.size + 1 + 1 by simp] at this
  have k2 := (Below.refl _ _).alloc (Nat.le_refl ((w.alloc (.cells #[.int .i64 (N : Int)] 3)).alloc (.cells #[.slice none 0 0] 26)).heap.size) (.cells #[fillV w.heap.size (w.heap.size + 1) (w.heap.size + 1 + 1)] 56)
  have k1 := (Below.refl _ _).alloc (Nat.le_refl (w.alloc (.cells #[.int .i64 (N : Int)] 3)).heap.size) (.cells #[.slice none 0 0] 26)
  exact ⟨(h1.kept k1).kept k2, h2.kept k2, h3⟩
theorem boxesF_below (w : World) (N : Nat) : Below w.heap.size w (boxesF w N) := (((Below.refl _ _).alloc (Nat.le_refl _) _).alloc (by simp) _).alloc (by simp; omega) _
theorem FSt.start (w : World) (N : Nat) : FSt (w.heap.size + 3) w.heap.size (w.heap.size + 1) (w.heap.size + 1 + 1) N (boxesF w N) (.slice none 0 0) [] (fun _ => False) (.slice none 0 0) [] := by
  obtain ⟨h1, h2, h3⟩ := boxesF_in w N
  exact ⟨h1, h2, h3, by omega, OwnRd.nil _ _, OwnRd.nil _ _, fun a h => h.elim, fun k h => by simp [Value.ownBlock] at h, by rw [boxesF_size]; exact Nat.le_refl _⟩
set_option maxHeartbeats 4000000 in
theorem implFOf_any (n : Int) (w : World) : Calls Tryd.prog 14 #[.int .i64 n] w (OwnPost rFooting (footAll n) w) := by
  by_cases hn : 1 ≤ n ∧ n ≤ 4
  case neg =>
    have HE : Hid (footAll n = []) := if_neg hn
    go_enter Tryd.func14, Tryd.ntmps14
    rcases (show n < 1 ∨ 4 < n by omega) with h | h
    · go_wp2
      go_ret
      exact ⟨_, rfl, by rw [HE.out]; exact RowRd.nil _ _ _, (Below.refl _ _).alloc (Nat.le_refl _) _⟩
    · have h2 : ¬ n < 1 := by omega
      go_wp2
      go_ret
      exact ⟨_, rfl, by rw [HE.out]; exact RowRd.nil _ _ _, (Below.refl _ _).alloc (Nat.le_refl _) _⟩
  obtain ⟨N, rfl⟩ := Int.eq_ofNat_of_zero_le (show 0 ≤ n by omega)
  have hN : N ≤ 4 := by omega
  have h1 : ¬ (N : Int) < 1 := by omega
  have h2 : ¬ 4 < (N : Int) := by omega
  have HE : Hid (footAll (N : Int) = [] ++ fillL N [] N 0) := by unfold Hid; rw [fillL_all, List.nil_append]; exact if_pos hn
  have HLEN : Hid ((fillL N [] N 0).length ≤ 176) := fillL_len (by simpa using hN)
  have HF := Lib.hid (implFill_any (w.heap.size + 3) w.heap.size (w.heap.size + 1) (w.heap.size + 1 + 1) N hN N)
  have HN : Hid (N ≤ 4) := hN
  have HST := Lib.hid (FSt.start w N)
  have HB := Lib.hid (boxesF_below w N)
  unfold boxesF fillV at HST HB
  clear hn hN
  go_enter Tryd.func14, Tryd.ntmps14
  go_wp2_with fail
  refine (HF.out 0 0 _ _ [] [] _ _ (by omega) rfl (by simpa using HN.out) (by simp) HST.out).mono ?_
  rintro e w1 ⟨rfl, u1, hto⟩
  rw [← HE.out] at hto
  have HTO := Lib.hid hto
  have c3 := hto.st.bl.cell 0 rfl
  clear hto
  go_wp2
  go_ret
  have hto := HTO.out
  have hl : (footAll (N : Int)).length ≤ 1000 := by have := HE.out; rw [this, List.nil_append]; have := HLEN.out; omega
  refine ⟨_, rfl, (hto.st.own.row (by omega)).mono fun a ha => ?_, ?_⟩
  · rcases ha with ha | ha | ha
    · omega
    · exact ha.elim
    · have := HB.out.size; omega
  · exact ⟨hto.fr.os.trans HB.out.os, hto.fr.tape.trans HB.out.tape, hto.fr.output.trans HB.out.output, Nat.le_trans HB.out.size hto.fr.size, fun k hk => (hto.fr.block k (Nat.lt_of_lt_of_le hk HB.out.size) (by omega) (by simp [Value.ownBlock]) (by simp [Value.ownBlock])).trans (HB.out.block k hk)⟩
end Go.Proofs.YtifmcbhgoncgjaaDoor
