/- The program's signs of a sound: what they are. -/
import Derived.Test.YtpcggbpfpicjiaaDoorS2
import Derived.Test.YtpcggbpfpicjiaaDoorShv
import Derived.Laws.Rows
import Derived.Laws.NewBlocks
import Derived.Laws.ResultCell
namespace Go.Proofs.YtpcggbpfpicjiaaDoor
open Go.RowKit

/-- Five numbers as cells. -/
def five (F : Nat → Int) : Array Value := #[.int .i64 (F 0), .int .i64 (F 1), .int .i64 (F 2), .int .i64 (F 3), .int .i64 (F 4)]
theorem five_of {cs : Array Value} {F : Nat → Int} (h : cs.size = 5) (hc : ∀ k, k < 5 → cs[k]? = some (.int .i64 (F k))) : cs = #[.int .i64 (F 0), .int .i64 (F 1), .int .i64 (F 2), .int .i64 (F 3), .int .i64 (F 4)] := by
  apply Array.ext_getElem?
  intro k
  by_cases hk : k < 5
  · rw [hc k hk]
    match k, hk with
    | 0, _ => rfl | 1, _ => rfl | 2, _ => rfl | 3, _ => rfl | 4, _ => rfl
  · rw [Array.getElem?_eq_none (by omega), Array.getElem?_eq_none (by simp; omega)]
theorem set_at {cs : Array Value} (j : Nat) (v : Value) (h : j < cs.size) : (cs.setIfInBounds j v)[j]? = some v := by simp [h]
theorem set_off {cs : Array Value} (j k : Nat) (v : Value) (h : k ≠ j) : (cs.setIfInBounds j v)[k]? = cs[k]? := by
  rw [Array.getElem?_setIfInBounds]; simp [Ne.symm h]
set_option maxHeartbeats 800000 in
theorem implSigns_any (x : Int) (w : World) (h0 : 0 ≤ x) (h1 : x < 256) (hT : FeatTab w) :
    Calls Tryd.prog 42 #[.int .u8 x] w fun e w' => e = .returned (.agg (five (sg x))) ∧ Below w.heap.size w w' := by
  have HT := Lib.hid hT
  have HX : Hid (0 ≤ x ∧ x < 256) := ⟨h0, h1⟩
  clear hT h0 h1
  go_enter Tryd.func42, Tryd.ntmps42
  go_wp2
  go_loopw [5] (fun i wr => ∃ j : Nat, j ≤ 5 ∧ i = .int .i64 j ∧ ∃ cs : Array Value, wr = (w.alloc (.cells #[.int .i64 0, .int .i64 0, .int .i64 0, .int .i64 0, .int .i64 0] 48)).alloc (.cells cs 48) ∧ Hid (cs.size = 5) ∧ Hid (∀ k, k < j → cs[k]? = some (.int .i64 (sg x k)))) (fun i _ => 5 - (intOf i).toNat)
  case atStart => exact ⟨0, by omega, rfl, _, rfl, rfl, fun k hk => by omega⟩
  case round =>
    obtain ⟨j, hj, rfl, cs, rfl, hsz, hc⟩ := hrel
    by_cases hlt : j < 5
    · obtain ⟨v, hv⟩ : ∃ v, cs[j]? = some v := ⟨_, Array.getElem?_eq_getElem (by have := hsz.out; omega)⟩
      have hv2 : (cs.setIfInBounds j (.int .i64 (-1)))[j]? = some (.int .i64 (-1)) := set_at j _ (by have := hsz.out; omega)
      go_wp2_with fail
      refine (implHas_in x j hlt _ HX.out.1 HX.out.2 (feat_below HT.out (((Below.refl _ _).alloc (Nat.le_refl _) _).alloc ((Below.refl _ _).alloc (Nat.le_refl _) _).size _))).mono ?_
      rintro e w1 ⟨rfl, rfl⟩
      go_wp2
      · rename_i hq
        go_roundw
        case rel =>
          refine ⟨j + 1, by omega, by go_num, _, rfl, by have := hsz.out; unfold Hid; simpa using this, fun k hk => ?_⟩
          by_cases hkj : k = j
          · subst hkj
            rw [sg_yes (by assumption)]
            exact set_at _ _ (by have := hsz.out; omega)
          · rw [set_off _ _ _ hkj]
            exact hc.out k (by omega)
        case measure => simp [intOf]; omega
      · rename_i hq
        go_roundw
        case rel =>
          refine ⟨j + 1, by omega, by go_num, _, rfl, by have := hsz.out; unfold Hid; simpa using this, fun k hk => ?_⟩
          by_cases hkj : k = j
          · subst hkj
            rw [sg_no (by assumption)]
            exact set_at _ _ (by have := hsz.out; omega)
          · rw [set_off _ _ _ hkj]
            exact hc.out k (by omega)
        case measure => simp [intOf]; omega
    · obtain rfl : j = 5 := by omega
      obtain rfl := five_of hsz.out hc.out
      go_wp2
      refine bodyPost_ret (v := .agg (five (sg x))) (results_cell_row rfl _ _ w.heap.size 48 _ (0, 0) _ rfl (heap_alloc2_old _ _ _) Tryd.underlying48 rfl (by kernel_rfl)) rfl ⟨rfl, ?_⟩
      exact ((Below.refl _ _).alloc (Nat.le_refl _) _).alloc ((Below.refl _ _).alloc (Nat.le_refl _) _).size _
end Go.Proofs.YtpcggbpfpicjiaaDoor
