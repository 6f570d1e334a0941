/- The program's SharedFeatures: what it answers. -/
import Derived.Test.YtpcggbpfpicjiaaDoorS5
import Derived.Test.YtpcggbpfpicjiaaDoorAppI
namespace Go.Proofs.YtpcggbpfpicjiaaDoor
open Go.RowKit

/-- What is shared, as a list: of the first j features. -/
def sfTo (F : Nat → Int) (j : Nat) : List Int := (List.range j).flatMap fun k => if F k = 0 then [] else [F k * ((k : Int) + 1)]
theorem sfTo_zero (F : Nat → Int) : sfTo F 0 = [] := rfl
theorem sfTo_yes (F : Nat → Int) (j : Nat) (h : F j ≠ 0) : sfTo F (j + 1) = sfTo F j ++ [F j * ((j : Int) + 1)] := by
  unfold sfTo; rw [List.range_succ, List.flatMap_append]; simp [h]
theorem sfTo_no (F : Nat → Int) (j : Nat) (h : F j = 0) : sfTo F (j + 1) = sfTo F j := by
  unfold sfTo; rw [List.range_succ, List.flatMap_append]; simp [h]
theorem sfTo_len (F : Nat → Int) (j : Nat) : (sfTo F j).length ≤ j := by
  induction j with
  | zero => simp [sfTo]
  | succ j ih =>
    by_cases h : F j = 0
    · rw [sfTo_no F j h]; omega
    · rw [sfTo_yes F j h]; simp; omega
theorem shc_range (l : List UInt8) (k : Nat) : shc l k = 0 ∨ shc l k = 1 ∨ shc l k = -1 := by
  unfold shc shv
  split
  · split
    · exact Or.inr (Or.inl rfl)
    · split
      · exact Or.inr (Or.inr rfl)
      · exact Or.inl rfl
  · exact Or.inl rfl
/-- The list of what a text shares; empty for a text that shares nothing. -/
def sfL (l : List UInt8) : List Int := if okCls l then sfTo (shv l) 5 else []
theorem sfL_in {l : List UInt8} (h : okCls l = true) : sfL l = sfTo (shc l) 5 := by
  have : shc l = shv l := by funext k; unfold shc; rw [if_pos h]
  unfold sfL; rw [if_pos h, this]
theorem sfL_out {l : List UInt8} (h : okCls l = false) : sfL l = [] := by unfold sfL; rw [if_neg (by simp [h])]
/-- It answers with a row of its own that holds these numbers. -/
def RowPost (l : List Int) (w : World) (e : Ending) (w' : World) : Prop := ∃ v, e = .returned v ∧ w'.ownsRow w.heap.size 3 1 v l.length (cellsI l) ∧ Below w.heap.size w w'
theorem index5 (F : Nat → Int) (j : Nat) (h : j < 5) (w : World) :
    (Instr.index 48 (.agg #[.int .i64 (F 0), .int .i64 (F 1), .int .i64 (F 2), .int .i64 (F 3), .int .i64 (F 4)]) (.int .i64 j)).run Tryd.prog w = .ok (.int .i64 (F j)) w := by
  rcases (show j = 0 ∨ j = 1 ∨ j = 2 ∨ j = 3 ∨ j = 4 by omega) with rfl | rfl | rfl | rfl | rfl <;> kernel_rfl
set_option maxHeartbeats 800000 in
theorem implSf_any (s : ByteArray) (w : World) (hT : FeatTab w) :
    Calls Tryd.prog 21 #[.string s] w (RowPost (sfL s.data.toList) w) := by
  have HT := Lib.hid hT
  clear hT
  go_enter Tryd.func21, Tryd.ntmps21
  go_wp2_with fail
  refine (implShared_any s _ HT.out).mono ?_
  rintro e w1 ⟨rfl, hb1⟩
  unfold five
  have H1 := Lib.hid hb1
  clear hb1
  by_cases hok : okCls s.data.toList = true
  · have HE := Lib.hid (sfL_in hok)
    go_wp2
    go_loopw [5, 16] (fun v i wr => ∃ (j : Nat), j ≤ 5 ∧ i = .int .i64 j ∧ (wr.ownsRow w.heap.size 3 1 v (sfTo (shc s.data.toList) j).length (cellsI (sfTo (shc s.data.toList) j))) ∧ Below w.heap.size w wr) (fun _ i _ => 5 - (intOf i).toNat)
    case atStart => exact ⟨0, by omega, rfl, ⟨rfl, Or.inl ⟨rfl, rfl⟩⟩, H1.out.alloc H1.out.size _⟩
    case round =>
      obtain ⟨j, hj, rfl, hown, hbe⟩ := hrel
      by_cases hlt : j < 5
      · have hi := index5 (shc s.data.toList) j hlt
        have hr := shc_range s.data.toList j
        have hlen : (sfTo (shc s.data.toList) j).length ≤ 1000000000 := by have := sfTo_len (shc s.data.toList) j; omega
        have hwr : IntKind.i64.wrap (shc s.data.toList j * ((j : Int) + 1)) = shc s.data.toList j * ((j : Int) + 1) := by
          apply IntWalk.i64_in
          rcases hr with h | h | h <;> rw [h] <;> omega
        clear hr
        go_wp2_with (at_builtin; refine wpList_append_int _ rfl (.tmp 22) (.tmp 27) rfl w.heap.size _ _ _ rfl hown _ rfl hlen hbe.size ?_; intro v' w' hown' hb')
        · have hne : shc s.data.toList j ≠ 0 := by simpa using ‹(shc s.data.toList j != 0) = true›
          go_roundw
          case rel =>
            refine ⟨j + 1, by omega, by go_num, ?_, hbe.trans hb'⟩
            rw [sfTo_yes _ j hne, List.length_append, List.length_singleton]
            exact hown'
          case measure => simp [intOf]; omega
        · have hz : shc s.data.toList j = 0 := by simpa using ‹(shc s.data.toList j != 0) = false›
          go_roundw
          case rel =>
            refine ⟨j + 1, by omega, by go_num, ?_, hbe⟩
            rw [sfTo_no _ j hz]
            exact hown
          case measure => simp [intOf]; omega
      · obtain rfl : j = 5 := by omega
        go_wp2
        go_ret
        exact ⟨_, rfl, by rw [HE.out]; exact hown, hbe⟩
  · have hok : okCls s.data.toList = false := by simpa using hok
    have HE := Lib.hid (sfL_out hok)
    go_wp2
    go_ret
    exact ⟨_, rfl, by rw [HE.out]; exact ⟨rfl, Or.inl ⟨rfl, rfl⟩⟩, H1.out.alloc H1.out.size _⟩
end Go.Proofs.YtpcggbpfpicjiaaDoor
