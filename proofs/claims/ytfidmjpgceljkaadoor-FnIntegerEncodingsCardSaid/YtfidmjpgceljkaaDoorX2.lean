/- impl.EncodeFixed: what it answers for a number of at least 0 and a width in its range. -/
import Derived.Test.YtfidmjpgceljkaaDoorRow
namespace Go.Proofs.YtfidmjpgceljkaaDoor
open Go.RowKit M

theorem implEnc_out (n : Int) (k : Nat) (w : World) (hn : 0 ≤ n) (h1 : 1 ≤ k) (h2 : k ≤ 7) (hq : (n / 2 ^ (8 * k) != 0) = true) :
    Calls Tryd.prog 12 #[.int .i64 n, .int .i64 k] w fun e w' => e = .returned (.string ⟨#[]⟩) ∧ w' = w := by
  go_enter Tryd.func12, Tryd.ntmps12
  go_wp2
  go_ret
  exact ⟨rfl, rfl⟩

set_option maxHeartbeats 400000 in
theorem implEnc_in (n : Int) (k : Nat) (w : World) (hn : 0 ≤ n) (hn2 : n ≤ 9223372036854775807) (h1 : 1 ≤ k) (h2 : k ≤ 7) (hq : (n / 2 ^ (8 * k) != 0) = false) :
    Calls Tryd.prog 12 #[.int .i64 n, .int .i64 k] w fun e w' => e = .returned (.string ⟨(lowB n k).toArray⟩) ∧ Below w.heap.size w w' := by
  obtain ⟨i0, hi, hz0, hz1, hz2⟩ := info_parts Tryd.info5
  go_enter Tryd.func12, Tryd.ntmps12
  go_wp2_with (first | (at_make; refine wpList_make_full _ rfl _ _ 22 rfl w.heap.size 5 i0 (.int .u8 0) 1 Tryd.underlying22 hi hz0 hz1 .i64 .i64 _ _ k rfl rfl rfl rfl (by rw [hz2]; omega) (by unfold maxLen; omega) (Nat.le_refl _) ?_; intro w1 hown1 hgrow1) | go_in)
  have hb1 : Below w.heap.size w w1 := (Below.refl _ _).grown hgrow1 (Nat.le_refl _) (fun _ h => by cases h)
  have hown : w1.ownsRow w.heap.size 5 1 (.slice (some ⟨w.heap.size, 0, none⟩) k k) k (List.replicate k (.int .u8 0) ++ cellsB []) := by
    have := hown1
    rw [show (Value.int .u8 0).cells = #[.int .u8 0] from rfl, toList_madeCells_one] at this
    simpa [cellsB] using this
  clear hown1 hgrow1
  go_loopw [0, 6] (fun x i wr => ∃ (c z : Int) (m : Nat) (out : List UInt8), 0 ≤ c ∧ c ≤ 9223372036854775807 ∧ -1 ≤ z ∧ z < k ∧ x = .int .i64 c ∧ i = .int .i64 z ∧ Hid (z = (m : Int) - 1) ∧
      Hid (lowB n k = lowB c m ++ out) ∧ wr.ownsRow w.heap.size 5 1 (.slice (some ⟨w.heap.size, 0, none⟩) k k) k (List.replicate m (.int .u8 0) ++ cellsB out) ∧ Below w.heap.size w wr) (fun _ i _ => (intOf i + 1).toNat)
  case atStart => exact ⟨n, _, k, [], hn, hn2, by omega, by omega, rfl, rfl, by simp [Hid], by simp [Hid], hown, hb1⟩
  case round =>
    obtain ⟨c, z, m, out, hc, hc2, hz3, hz4, rfl, rfl, hm, hl, hown, hb⟩ := hrel
    by_cases hzz : 0 ≤ z
    · obtain ⟨j, rfl⟩ : ∃ j : Nat, z = j := ⟨z.toNat, by omega⟩
      obtain rfl : m = j + 1 := by have := hm.out; omega
      have hcell : wr.cell? ⟨w.heap.size, j, none⟩ = some (.int .u8 0) := by
        rw [hown.cellAt j (by omega)]
        simp [List.getElem?_append]
      have hfr : wr.frozen? ⟨w.heap.size, j, none⟩ = false := hown.frozenAt j
      clear hm
      go_wp2
      go_roundw
      case rel =>
        refine ⟨c / 256, (j : Int) - 1, j, byt (c % 256) :: out, by omega, by omega, by omega, by omega, by go_num, by go_num, ?_, ?_, ?_, ?_⟩
        · unfold Hid; omega
        · have := hl.out; unfold Hid; rw [this, lowB]; simp
        · rw [← set_rep j (.int .u8 0) (c % 256) (by omega) (by omega)]
          exact (hown.stored j _).1
        · exact hb.setCell (Nat.le_refl _) _
      case measure => simp [intOf]
    · obtain rfl : m = 0 := by have := hm.out; omega
      have hl' := hl.out
      simp only [lowB, List.nil_append] at hl'
      have HL := Lib.hid hl'
      have hcv := conv_own (l := out) (by simpa using hown)
      clear hl' hl hm
      go_wp2
      go_ret
      exact ⟨ret_str (by rw [HL.out]), hb⟩

/-- For a width in its range and n at least 0. -/
theorem implEnc_any (n : Int) (k : Nat) (w : World) (hn : 0 ≤ n) (hn2 : n ≤ 9223372036854775807) (h1 : 1 ≤ k) (h2 : k ≤ 7) :
    Calls Tryd.prog 12 #[.int .i64 n, .int .i64 k] w fun e w' => e = .returned (.string (encF n k)) ∧ Below w.heap.size w w' := by
  by_cases hq : hiB n k = 0
  · refine (implEnc_in n k w hn hn2 h1 h2 (by rw [← hiB_pow, hq]; rfl)).mono fun e w' h => ⟨?_, h.2⟩
    rw [h.1, encF_in hq rfl rfl]
  · refine (implEnc_out n k w hn h1 h2 (by rw [← hiB_pow]; simpa using hq)).mono fun e w' h => ⟨?_, ?_⟩
    · rw [h.1, encF, if_neg hq]
    · rw [h.2]; exact Below.refl _ _
end Go.Proofs.YtfidmjpgceljkaaDoor
