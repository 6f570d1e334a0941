/- The model's JoinSyllables: what it answers. -/
import Derived.Test.YtjajbkbocbodfaaY0
import Derived.WalkKit
import Derived.BigQuiet
namespace Go.Proofs.Ytjajbkbocbodfaa
open Go.RowKit M

set_option maxHeartbeats 1000000 in
theorem specJoin_any (v : Value) (l : List Syl) (w : World) (hn : (joinL l).length ≤ 2000000) (hl : l.length ≤ 2000000) (hv : YRow w v l) :
    Calls Try.prog 8 #[v] w fun e w' => e = .returned (.string (bs (joinL l))) ∧ Below w.heap.size w w' := by
  obtain ⟨A, cap, rfl, hA⟩ := hv
  have HA := Lib.hid hA
  have HE := Lib.hid (joinK_all l)
  have HB := Lib.hid (joinK_bound l)
  clear hA
  generalize hll : l.length = n at *
  have HL := Lib.hid hll
  clear hll
  go_enter Try.func8, Try.ntmps8
  go_wp2
  go_loopw [3, 4] (fun s i wr => ∃ (k : Nat), k ≤ n ∧ i = .int .i64 k ∧ s = .string (bs (joinK l k)) ∧ Below w.heap.size w wr ∧ ∀ a, wr.cell? a = w.cell? a) (fun _ i _ => n - (intOf i).toNat)
  case atStart => exact ⟨0, by omega, rfl, rfl, Below.refl _ _, fun _ => rfl⟩
  case round =>
    obtain ⟨k, hk, rfl, rfl, hbe, hce⟩ := hrel
    have HBE := Lib.hid hbe
    have HCE := Lib.hid hce
    clear hbe hce
    by_cases hkl : k < n
    · obtain ⟨g, off, rfl, h0, h1, h2⟩ := HA.out k hkl
      have c0 := (HCE.out _).trans h0
      have c1 := (HCE.out _).trans h1
      have c2 := (HCE.out _).trans h2
      clear h0 h1 h2
      have hst : joinK l (k + 1) = joinK l k ++ ((l.getD k syZ).o ++ ((l.getD k syZ).n ++ (l.getD k syZ).c)) := by rw [joinK, sylB]; simp
      have hb := HB.out (k + 1) (by omega)
      rw [hst] at hb
      simp only [List.length_append] at hb
      generalize (l.getD k syZ).o = O at *
      generalize (l.getD k syZ).n = N at *
      generalize (l.getD k syZ).c = C at *
      generalize joinK l k = J at *
      have HST := Lib.hid hst
      clear hst
      have a1 : ∀ w : World, (Op.stringOp .add (bs J) (bs O)).run Try.prog w = .ok (.string (bs (J ++ O))) w := fun w => by rw [run_string_add_sum _ _ _ (by rw [bs_size, bs_size]; omega), bs_add]
      have a2 : ∀ w : World, (Op.stringOp .add (bs (J ++ O)) (bs N)).run Try.prog w = .ok (.string (bs (J ++ (O ++ N)))) w := fun w => by rw [run_string_add_sum _ _ _ (by rw [bs_size, bs_size, List.length_append]; omega), bs_add, List.append_assoc]
      have a3 : ∀ w : World, (Op.stringOp .add (bs (J ++ (O ++ N))) (bs C)).run Try.prog w = .ok (.string (bs (J ++ (O ++ (N ++ C))))) w := fun w => by rw [run_string_add_sum _ _ _ (by rw [bs_size, bs_size, List.length_append, List.length_append]; omega), bs_add, List.append_assoc, List.append_assoc]
      go_wp2
      go_quiet (fail)
      go_wp2
      go_roundw
      case rel => exact ⟨k + 1, by omega, by go_num, by rw [HST.out], below_dN HBE.out _, HCE.out⟩
      case measure => simp [intOf]; omega
    · obtain rfl : k = n := by omega
      go_wp2
      go_ret
      exact ⟨ret_str (by rw [HE.out]), HBE.out⟩
end Go.Proofs.Ytjajbkbocbodfaa
