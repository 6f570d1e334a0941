/- The laws' marks of texts: what markText answers; what is kept over calls. -/
import Derived.Test.YtnildbalaedlgaaDoorLk0
import Derived.Test.YtnildbalaedlgaaDoorRow
import Derived.Test.YtnildbalaedlgaaDoorSl
import Derived.BigQuiet
import Derived.Lib.QuietBelow
import Derived.Below
namespace Go.Proofs.YtnildbalaedlgaaDoor
set_option maxRecDepth 100000
open Go.RowKit Go.Sort M

theorem byt_dig (c : Nat) : byt ((48 + c % 10 : Nat) : Int) = 48 + UInt8.ofNat (c % 10) := by
  unfold byt
  rw [Int.toNat_natCast]
  apply UInt8.toNat_inj.1
  simp [UInt8.toNat_add]
theorem cat_one9 (a : UInt8) (l : List UInt8) : (⟨#[a]⟩ : ByteArray) ++ ⟨l.toArray⟩ = ⟨(a :: l).toArray⟩ := by
  apply ByteArray.ext
  simp
/-- 'string([]byte{b})': the conversion of a new block of one byte. -/
theorem mark_conv (w : World) (u : Int) :
    (convert 46 9 (.slice (some ⟨w.heap.size, 0, none⟩) 1 1)).run Tryd.prog (w.alloc (.cells #[.int .u8 u] 5)) = .ok (.string ⟨#[UInt8.ofNat u.toNat]⟩) (w.alloc (.cells #[.int .u8 u] 5)) := by
  rw [run_convert_bytes_string _ 46 9 5 _ _ _ Tryd.underlying46 Tryd.underlying5 Tryd.underlying9]
  rw [run_bytesToString _ _ 1 1 [u]]
  · rfl
  · have := run_loadCells_list (P := Tryd.prog) (w.alloc (.cells #[.int .u8 u] 5)) ⟨w.heap.size, 0, none⟩ [.int .u8 u] (cell_one_new _ _ _)
    simpa using this
/-- The mark's text: m and the numeral. -/
def mkD : Nat → Nat → List UInt8 → List UInt8
  | 0, _, out => out
  | f + 1, c, out => if c = 0 then out else mkD f (c / 10) (byt ((48 + c % 10 : Nat) : Int) :: out)
theorem mkD_zero (f : Nat) (out : List UInt8) : mkD f 0 out = out := by cases f <;> simp [mkD]
theorem mkD_pos (f c : Nat) (out : List UInt8) (h : c ≠ 0) : mkD (f + 1) c out = mkD f (c / 10) (byt ((48 + c % 10 : Nat) : Int) :: out) := by simp [mkD, h]
def mkT (k : Nat) : ByteArray := ⟨(109 :: mkD 20 k []).toArray⟩
set_option maxHeartbeats 400000 in
theorem markText_any (k : Nat) (w : World) (h1 : 1 ≤ k) (h2 : k ≤ 1000000000) :
    Calls Tryd.prog 24 #[.int .i64 k] w fun e w' => e = .returned (.string (mkT k)) ∧ Below w.heap.size w w' := by
  have kc := mark_conv
  have hk0 : ¬ (k : Int) ≤ 0 := by omega
  go_enter Tryd.func24, Tryd.ntmps24
  go_wp2
  go_loopw [0, 3] (fun x o wr => ∃ (c f : Nat) (out : List UInt8), c ≤ 1000000000 ∧ x = .int .i64 c ∧ o = .string ⟨out.toArray⟩ ∧ Hid (mkD 20 k [] = mkD f c out) ∧ Hid (c < 10 ^ f) ∧ out.length + f ≤ 20 ∧ Below w.heap.size w wr) (fun x _ _ => (intOf x).toNat)
  case atStart => exact ⟨k, 20, [], h2, rfl, rfl, rfl, by unfold Hid; omega, by simp, Below.refl _ _⟩
  case round =>
    obtain ⟨c, f, out, hc, rfl, rfl, hd, hlt, hlen, hb⟩ := hrel
    by_cases hz : c = 0
    · subst hz
      have HE : Hid (mkT k = ⟨(109 :: out).toArray⟩) := by unfold Hid mkT; rw [hd.out, mkD_zero]
      have hadd : ∀ w : World, (Op.stringOp .add ⟨#[109]⟩ ⟨out.toArray⟩).run Tryd.prog w = .ok (.string ⟨(109 :: out).toArray⟩) w := by
        intro w; rw [run_string_add_sum _ _ _ (by show 1 + out.toArray.size ≤ _; rw [List.size_toArray]; omega), cat_one9]
      go_wp2
      go_ret
      exact ⟨ret_str HE.out.symm, hb⟩
    · obtain ⟨f, rfl⟩ : ∃ g, f = g + 1 := by
        rcases f with _ | f
        · have := hlt.out; omega
        · exact ⟨f, rfl⟩
      have hcp : (0 : Int) < (c : Int) := by omega
      have hd10 : ((c : Int)).tmod 10 = (c : Int) % 10 := Int.tmod_eq_emod_of_nonneg (by omega)
      have hq10 : ((c : Int)).tdiv 10 = (c : Int) / 10 := Int.tdiv_eq_ediv_of_nonneg (by omega)
      have hw8 : IntKind.u8.wrap (48 + (c : Int) % 10) = 48 + (c : Int) % 10 := IntWalk.u8_in _ (by omega)
      clear kc
      have kc := mark_conv
      go_wp2
      go_roundw
      case rel =>
        refine ⟨c / 10, f, byt ((48 + c % 10 : Nat) : Int) :: out, by omega, by go_num, ?_, ?_, ?_, by simp; omega, hb.alloc hb.size _⟩
        · rw [byt_dig, cat_one9]
        · unfold Hid; rw [hd.out, mkD_pos f c out hz]
        · have h9 := hlt.out
          rw [Nat.pow_succ] at h9
          unfold Hid
          omega
      case measure => simp [intOf]; omega
end Go.Proofs.YtnildbalaedlgaaDoor
