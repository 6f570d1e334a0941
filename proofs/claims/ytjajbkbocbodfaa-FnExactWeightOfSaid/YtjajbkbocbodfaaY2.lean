/- The laws' helpers over syllables: sizes. -/
import Derived.Test.YtjajbkbocbodfaaYe
import Derived.WalkKit
import Derived.BigQuiet
import Derived.Lib.QuietBelow
namespace Go.Proofs.Ytjajbkbocbodfaa
open Go.RowKit Go.Sort M

def szV (left : Int) (x : Syl) : Int := if left < (sylB x).length then -1 else left - (sylB x).length
/-- No part is longer than a text can be. -/
def Fits (x : Syl) : Prop := x.o.length ≤ maxLen ∧ x.n.length ≤ maxLen ∧ x.c.length ≤ maxLen
theorem sz_any (x : Syl) (left : Int) (w : World) (h0 : 0 ≤ left) (h1 : left ≤ 1048576) (hf : Fits x) :
    Calls Try.prog 12 #[sylV x, .int .i64 left] w fun e w' => e = .returned (.int .i64 (szV left x)) ∧ Below w.heap.size w w' := by
  unfold sylV
  obtain ⟨f1, f2, f3⟩ := hf
  unfold maxLen at f1 f2 f3
  have hs := sylB_len x
  have HV : Hid (szV left x = if left < (sylB x).length then -1 else left - (sylB x).length) := rfl
  have s1 := bs_size x.o
  have s2 := bs_size x.n
  have s3 := bs_size x.c
  generalize bs x.o = O at *
  generalize bs x.n = N at *
  generalize bs x.c = C at *
  generalize x.o.length = lo at *
  generalize x.n.length = ln at *
  generalize x.c.length = lc at *
  generalize (sylB x).length = lb at *
  go_enter Try.func12, Try.ntmps12
  go_wp2
  all_goals
    go_ret
    refine ⟨ret_i64 ?_, (Below.refl _ _).alloc (Nat.le_refl _) _⟩
    rw [HV.out]
    clear HV
    split <;> omega
def Szs (l : List Syl) (e : Ending) : Prop := ∃ z : Int, e = .returned (.int .i64 z) ∧ (z < 0 ∨ l.length + (joinL l).length ≤ 1048576)
set_option maxHeartbeats 1000000 in
theorem szs_any (v : Value) (l : List Syl) (w : World) (hf : ∀ k, k < l.length → Fits (l.getD k syZ)) (hm : l.length ≤ maxLen) (hv : YRow w v l) :
    Calls Try.prog 7 #[v, .int .i64 1048576] w fun e w' => Szs l e ∧ Below w.heap.size w w' := by
  obtain ⟨A, cap, rfl, hA⟩ := hv
  unfold maxLen at hm
  have HA := Lib.hid hA
  have HF := Lib.hid hf
  have HE := Lib.hid (joinK_all l)
  have HP : Hid (∀ z : Int, (z < 0 ∨ l.length + (joinL l).length ≤ 1048576) → Szs l (.returned (.int .i64 z))) := fun z h => ⟨z, rfl, h⟩
  clear hA hf
  generalize hll : l.length = n at *
  have HL := Lib.hid hll
  clear hll
  by_cases hn : n ≤ 1048576
  · go_enter Try.func7, Try.ntmps7
    go_wp2
    go_loopw [1, 5] (fun s i wr => ∃ (k : Nat), k ≤ n ∧ i = .int .i64 k ∧ s = .int .i64 (1048576 - (n : Int) - (joinK l k).length) ∧ (n : Int) + (joinK l k).length ≤ 1048576 ∧ Below w.heap.size w wr) (fun _ i _ => n - (intOf i).toNat)
    case atStart => exact ⟨0, by omega, rfl, by simp [joinK], by simp [joinK]; omega, Below.refl _ _⟩
    case round =>
      obtain ⟨k, hk, rfl, rfl, hle, hbe⟩ := hrel
      have HBE := Lib.hid hbe
      clear hbe
      by_cases hkl : k < n
      · obtain ⟨g, off, rfl, h0, h1, h2⟩ := HA.out k hkl
        have c0 := cell_kp HBE.out h0
        have c1 := cell_kp HBE.out h1
        have c2 := cell_kp HBE.out h2
        have hst : (joinK l (k + 1)).length = (joinK l k).length + (sylB (l.getD k syZ)).length := by rw [joinK, List.length_append]
        have HFK := Lib.hid (HF.out k hkl)
        clear h0 h1 h2
        generalize l.getD k syZ = x at *
        have hfk := HFK.out
        have HSZ := Lib.hid (sz_any x (1048576 - (n : Int) - (joinK l k).length) wr (by omega) (by omega) hfk)
        obtain ⟨z, hz⟩ : ∃ z, szV (1048576 - (n : Int) - (joinK l k).length) x = z := ⟨_, rfl⟩
        rw [hz] at HSZ
        unfold szV at hz
        have hzz : z < 0 ∨ (z = 1048576 - (n : Int) - (joinK l (k + 1)).length ∧ (n : Int) + (joinK l (k + 1)).length ≤ 1048576) := by
          split at hz <;> omega
        clear hz hst hfk
        go_wp2_with fail
        refine HSZ.out.mono ?_
        rintro e w1 ⟨rfl, hb1⟩
        have HB1 := Lib.hid (HBE.out.trans (hb1.mono HBE.out.size))
        clear hb1
        go_wp2
        · go_ret
          exact ⟨HP.out _ (.inl (by omega)), HB1.out⟩
        · go_roundw
          case rel => exact ⟨k + 1, by omega, by go_num, by rw [(hzz.resolve_left (by omega)).1], (hzz.resolve_left (by omega)).2, HB1.out⟩
          case measure => simp [intOf]; omega
      · obtain rfl : k = n := by omega
        go_wp2
        go_ret
        exact ⟨HP.out _ (.inr (by rw [← HE.out]; omega)), HBE.out⟩
  · go_enter Try.func7, Try.ntmps7
    go_wp2
    go_ret
    exact ⟨HP.out _ (.inl (by omega)), Below.refl _ _⟩
end Go.Proofs.Ytjajbkbocbodfaa
