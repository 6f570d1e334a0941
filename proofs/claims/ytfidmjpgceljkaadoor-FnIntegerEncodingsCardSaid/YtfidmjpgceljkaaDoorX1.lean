/- spec.EncodeFixed: what it answers for a number of at least 0 and a width in its range. -/
import Derived.Test.YtfidmjpgceljkaaDoorRow
namespace Go.Proofs.YtfidmjpgceljkaaDoor
open Go.RowKit M

/-- 'string([]byte{b})': the conversion of a new block of one byte. -/
theorem conv_one (w : World) (u : Int) :
    (convert 22 9 (.slice (some ⟨w.heap.size, 0, none⟩) 1 1)).run Tryd.prog (w.alloc (.cells #[.int .u8 u] 5)) = .ok (.string ⟨#[UInt8.ofNat u.toNat]⟩) (w.alloc (.cells #[.int .u8 u] 5)) := by
  rw [run_convert_bytes_string _ 22 9 5 _ _ _ Tryd.underlying22 Tryd.underlying5 Tryd.underlying9]
  rw [run_bytesToString _ _ 1 1 [u]]
  · rfl
  · have := run_loadCells_list (P := Tryd.prog) (w.alloc (.cells #[.int .u8 u] 5)) ⟨w.heap.size, 0, none⟩ [.int .u8 u] (cell_one_new _ _ _)
    simpa using this

set_option maxHeartbeats 400000 in
theorem specEnc_any (n : Int) (k : Nat) (w : World) (hn : 0 ≤ n) (hn2 : n ≤ 9223372036854775807) (h1 : 1 ≤ k) (h2 : k ≤ 7) :
    Calls Tryd.prog 14 #[.int .i64 n, .int .i64 k] w fun e w' => e = .returned (.string (encF n k)) ∧ Below w.heap.size w w' := by
  have kc := conv_one
  go_enter Tryd.func14, Tryd.ntmps14
  go_wp2
  go_loopw [0, 5, 6] (fun x o i wr => ∃ (c : Int) (j m : Nat) (out : List UInt8), 0 ≤ c ∧ c ≤ 9223372036854775807 ∧ j ≤ 7 ∧ x = .int .i64 c ∧ i = .int .i64 j ∧ o = .string ⟨out.toArray⟩ ∧ out.length = j ∧
      Hid (j + m = k) ∧ Hid (lowB n k = lowB c m ++ out) ∧ Hid (hiB n k = hiB c m) ∧ Below w.heap.size w wr) (fun _ _ i _ => k - (intOf i).toNat)
  case atStart => exact ⟨n, 0, k, [], hn, hn2, by omega, rfl, rfl, rfl, rfl, by simp [Hid], by simp [Hid], by simp [Hid], Below.refl _ _⟩
  case round =>
    obtain ⟨c, j, m, out, hc, hc2, hj, rfl, rfl, rfl, hlen, hm, hl, hh, hb⟩ := hrel
    have hsz := Lib.hid hlen
    clear hlen
    have hadd : ∀ (w : World) (u : Int), (Op.stringOp .add ⟨#[UInt8.ofNat u.toNat]⟩ ⟨out.toArray⟩).run Tryd.prog w = .ok (.string ⟨(UInt8.ofNat u.toNat :: out).toArray⟩) w := by
      intro w u
      have := hsz.out
      rw [run_string_add_sum _ _ _ (by simp [ByteArray.size]; omega)]
      congr 2
      
    by_cases hlt : j < k
    · obtain ⟨m, rfl⟩ : ∃ m', m = m' + 1 := ⟨m - 1, by have := hm.out; omega⟩
      go_wp2
      go_roundw
      case rel =>
        refine ⟨c / 256, j + 1, m, UInt8.ofNat (c % 256).toNat :: out, by omega, by omega, by omega, by go_num, by go_num, by go_num, by simp [hsz.out], ?_, ?_, ?_, ?_⟩
        · have := hm.out; unfold Hid; omega
        · have := hl.out; unfold Hid; rw [this, lowB]; simp [byt]
        · have := hh.out; unfold Hid; rw [this, hiB]
        · exact hb.alloc hb.size _
      case measure => simp [intOf]; omega
    · have hm0 : m = 0 := by have := hm.out; omega
      subst hm0
      have hl' := hl.out
      have hh' := hh.out
      simp only [lowB, hiB, List.nil_append] at hl' hh'
      have HL := Lib.hid hl'
      have HH := Lib.hid hh'
      clear hl' hh' hl hh hm
      by_cases hcz : c = 0
      · subst hcz
        go_wp2
        go_ret
        exact ⟨ret_str (encF_in HH.out rfl HL.out).symm, hb⟩
      · have hcp : 0 < c := by omega
        clear hcz
        go_wp2
        go_ret
        exact ⟨ret_str (encF_out HH.out hcp).symm, hb⟩
end Go.Proofs.YtfidmjpgceljkaaDoor
