/- Whether a text has sounds only: what the model's helper answers. -/
import Derived.Test.YtjhfoifdaiilhaaDoorSs
import Derived.Test.YtjhfoifdaiilhaaDoorShv
import Derived.Laws.IdiomStrings
import Derived.Lib.Slices
namespace Go.Proofs.YtjhfoifdaiilhaaDoor
set_option maxRecDepth 100000
open Go.RowKit

theorem all_take (s : ByteArray) (i : Nat) (h : i < s.size) : s.data.toList.take (i + 1) = s.data.toList.take i ++ [s[i]] := by
  rw [List.take_add_one]
  have hl : i < s.data.toList.length := by simpa using h
  rw [List.getElem?_eq_getElem hl]
  rfl
theorem of_not_true {b : Bool} (h : (!b) = true) : b = false := by simpa using h
theorem of_not_false {b : Bool} (h : (!b) = false) : b = true := by simpa using h
theorem ne_nil_of {s : ByteArray} (h : 0 < s.size) : s.data.toList ≠ [] := by
  intro e
  have h3 : s.data.toList.length = s.size := by simp
  rw [e, List.length_nil] at h3
  omega
def l2S (l : List UInt8) : Bool := l.all (fun b => isSnd (nb b)) && decide (l.length ≤ 20)
theorem l2S_not {s : ByteArray} (i : Nat) (h : i < s.size) (hn : isSnd (s[i].toNat : Int) = false) : l2S s.data.toList = false := by
  unfold l2S
  have hm : s[i] ∈ s.data.toList := by
    have hl : i < s.data.toList.length := by simpa using h
    exact List.getElem_mem (n := i) hl
  have : s.data.toList.all (fun b => isSnd (nb b)) = false := by
    rw [List.all_eq_false]
    exact ⟨s[i], hm, by show ¬ isSnd (s[i].toNat : Int) = true; simp [hn]⟩
  rw [this]
  simp
theorem l2S_all {s : ByteArray} (h : ∀ i, (hi : i < s.size) → isSnd (s[i].toNat : Int) = true) : l2S s.data.toList = decide ((s.size : Int) ≤ 20) := by
  unfold l2S
  have ha : s.data.toList.all (fun b => isSnd (nb b)) = true := by
    rw [List.all_eq_true]
    intro b hb
    obtain ⟨i, hi, rfl⟩ := List.mem_iff_getElem.1 hb
    exact h i (by simpa using hi)
  have hl : s.data.toList.length = s.size := by simp
  rw [ha, hl, Bool.true_and]
  simp
  omega
theorem specL2_any (s : ByteArray) (w : World) (hs : s.size ≤ maxLen) :
    Calls Tryd.prog 79 #[.string s] w fun e w' => e = .returned (.bool (l2S s.data.toList)) ∧ w = w' := by
  unfold maxLen at hs
  go_enter Tryd.func79, Tryd.ntmps79
  go_wp2
  go_loop [3] (fun i => ∃ (j : Nat), j ≤ s.size ∧ i = .int .i64 j ∧ Hid (∀ k, (hk : k < s.size) → k < j → isSnd (s[k].toNat : Int) = true)) (fun i => s.size - (intOf i).toNat)
  case atStart => exact ⟨0, by omega, rfl, fun k _ hk => by omega⟩
  case round =>
    obtain ⟨j, hj, rfl, hall⟩ := hrel
    by_cases hlt : j < s.size
    · go_wp2_with fail
      refine (specIsSound_any _ _).mono ?_
      rintro e w2 ⟨rfl, rfl⟩
      go_wp2
      · have hn : isSnd (s[j].toNat : Int) = false := of_not_true (by assumption)
        go_ret
        exact ⟨ret_bool (l2S_not j hlt hn).symm, rfl⟩
      · have hn : isSnd (s[j].toNat : Int) = true := of_not_false (by assumption)
        go_round
        case rel =>
          refine ⟨j + 1, by omega, by go_num, fun k hk hkj => ?_⟩
          by_cases hkj2 : k = j
          · subst hkj2; exact hn
          · exact hall.out k hk (by omega)
        case measure => simp [intOf]; omega
    · obtain rfl : j = s.size := by omega
      have HO := Lib.hid (l2S_all fun i hi => hall.out i hi hi)
      go_wp2
      go_ret
      exact ⟨ret_bool HO.out.symm, rfl⟩
end Go.Proofs.YtjhfoifdaiilhaaDoor
