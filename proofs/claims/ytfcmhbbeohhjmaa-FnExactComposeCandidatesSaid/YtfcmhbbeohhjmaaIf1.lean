/- The program's IsForm: what it answers. -/
import Derived.Test.YtfcmhbbeohhjmaaFm
import Derived.Test.YtfcmhbbeohhjmaaSi
namespace Go.Proofs.Ytfcmhbbeohhjmaa
set_option maxRecDepth 100000
open Go.RowKit M

theorem byte_in (b : UInt8) : 0 ≤ (b.toNat : Int) ∧ (b.toNat : Int) < 256 := ⟨by omega, by have := b.toNat_lt; omega⟩
theorem implFmS_any (s : ByteArray) (w : World) (hs : s.size ≤ maxLen) :
    Calls Try.prog 58 #[.string s] w fun e w' => e = .returned (.bool (isFm s)) ∧ w = w' := by
  unfold maxLen at hs
  by_cases h8 : s.size ≤ 8
  · have h9 : ¬ (8 : Int) < (s.size : Int) := by omega
    go_enter Try.func58, Try.ntmps58
    go_wp2
    go_loop [9] (fun i => ∃ (j : Nat), j ≤ s.size ∧ i = .int .i64 j ∧ Hid (∀ k, (hk : k < s.size) → k < j → isSnd (s[k].toNat : Int) = true)) (fun i => s.size - (intOf i).toNat)
    case atStart => exact ⟨0, by omega, rfl, fun k _ hk => by omega⟩
    case round =>
      obtain ⟨j, hj, rfl, hall⟩ := hrel
      by_cases hlt : j < s.size
      · go_wp2_with fail
        refine (implIsSound_any _ _ (byte_in _).1 (byte_in _).2).mono ?_
        rintro e w2 ⟨rfl, rfl⟩
        go_wp2
        · have hn : isSnd (s[j].toNat : Int) = false := of_not_true (by assumption)
          go_ret
          exact ⟨ret_bool (by unfold isFm; rw [l2S_not j hlt hn, Bool.false_and]), rfl⟩
        · have hn : isSnd (s[j].toNat : Int) = true := of_not_false (by assumption)
          go_round
          case rel =>
            refine ⟨j + 1, by omega, by go_num, fun k hk hkj => ?_⟩
            by_cases hkj2 : k = j
            · subst hkj2; exact hn
            · exact hall.out k hk (by omega)
          case measure => simp [intOf]; omega
      · obtain rfl : j = s.size := by omega
        have HO : Hid (isFm s = true) := by
          unfold Hid isFm
          rw [l2S_all fun i hi => hall.out i hi hi]
          simp; omega
        go_wp2
        go_ret
        exact ⟨ret_bool HO.out.symm, rfl⟩
  · have h9 : (8 : Int) < (s.size : Int) := by omega
    have HO : Hid (isFm s = false) := by
      unfold Hid isFm
      have : decide ((s.size : Int) ≤ 8) = false := by simp; omega
      rw [this, Bool.and_false]
    go_enter Try.func58, Try.ntmps58
    go_wp2
    go_ret
    exact ⟨ret_bool HO.out.symm, rfl⟩
theorem implFm_any (s : ByteArray) (w : World) (hs : s.size ≤ maxLen) :
    Calls Try.prog 58 #[.string s] w fun e w' => e = .returned (.bool (isFm s)) ∧ Below w.heap.size w w' :=
  (implFmS_any s w hs).mono fun _ _ h => ⟨h.1, h.2 ▸ Below.refl _ _⟩
end Go.Proofs.Ytfcmhbbeohhjmaa
