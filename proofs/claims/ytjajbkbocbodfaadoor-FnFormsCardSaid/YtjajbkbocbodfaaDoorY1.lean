/- The model's IsOpen, WeightOf, FormatSyllables: what they answer. -/
import Derived.Test.YtjajbkbocbodfaaDoorY0
import Derived.WalkKit
import Derived.BigQuiet
namespace Go.Proofs.YtjajbkbocbodfaaDoor
open Go.RowKit M

def openS (x : Syl) : Bool := x.c.isEmpty
def weightS (x : Syl) : Int := if x.n.isEmpty then 0 else if x.c.isEmpty then 1 else 2
theorem specOpen_any (x : Syl) (w : World) :
    Calls Tryd.prog 32 #[sylV x] w fun e w' => e = .returned (.bool (openS x)) ∧ Below w.heap.size w w' := by
  unfold sylV
  have hl := bs_list x.c
  generalize bs x.o = O
  generalize bs x.n = N
  generalize bs x.c = C at hl
  go_enter Tryd.func32, Tryd.ntmps32
  go_wp2
  go_ret
  exact ⟨rfl, (Below.refl _ _).alloc (Nat.le_refl _) _⟩
theorem specWeight_any (x : Syl) (w : World) :
    Calls Tryd.prog 34 #[sylV x] w fun e w' => e = .returned (.int .i64 (weightS x)) ∧ Below w.heap.size w w' := by
  unfold sylV
  have hl := bs_list x.c
  have hm := bs_list x.n
  have HW : Hid (weightS x = if x.n.isEmpty then 0 else if x.c.isEmpty then 1 else 2) := rfl
  generalize bs x.o = O
  generalize bs x.n = N at hm
  generalize bs x.c = C at hl
  go_enter Tryd.func34, Tryd.ntmps34
  go_wp2
  all_goals
    go_ret
    refine ⟨ret_i64 ?_, (Below.refl _ _).alloc (Nat.le_refl _) _⟩
    rw [HW.out]
    simp_all
def fmtL (l : List Syl) : List UInt8 := fmtK l l.length
set_option maxHeartbeats 1000000 in
theorem specFmt_any (v : Value) (l : List Syl) (w : World) (hn : (joinL l).length ≤ 2000000) (hl : l.length ≤ 2000000) (hv : YRow w v l) :
    Calls Tryd.prog 28 #[v] w fun e w' => e = .returned (.string (bs (fmtL l))) ∧ Below w.heap.size w w' := by
  obtain ⟨A, cap, rfl, hA⟩ := hv
  have HA := Lib.hid hA
  have HE : Hid (fmtL l = fmtK l l.length) := rfl
  have HB : Hid (∀ k, k ≤ l.length → (fmtK l k).length ≤ 2000000 + k) := fun k hk => by
    have h1 := fmtK_len l k
    have h2 := joinK_bound l k hk
    omega
  clear hA
  generalize hll : l.length = n at *
  have HL := Lib.hid hll
  clear hll
  go_enter Tryd.func28, Tryd.ntmps28
  go_wp2
  go_loopw [3, 4] (fun s i wr => ∃ (k : Nat), k ≤ n ∧ i = .int .i64 k ∧ s = .string (bs (fmtK l k)) ∧ Below w.heap.size w wr ∧ ∀ a, wr.cell? a = w.cell? a) (fun _ i _ => n - (intOf i).toNat)
  case atStart => exact ⟨0, by omega, rfl, rfl, Below.refl _ _, fun _ => rfl⟩
  case round =>
    obtain ⟨k, hk, rfl, rfl, hbe, hce⟩ := hrel
    have HBE := Lib.hid hbe
    have HCE := Lib.hid hce
    clear hbe hce
    by_cases hkl : k < n
    · obtain ⟨g, off, rfl, h0, h1, h2⟩ := HA.out k hkl
      have c0 := (HCE.out _).trans h0
      have c1 := (HCE.out _).trans h1
      have c2 := (HCE.out _).trans h2
      clear h0 h1 h2
      obtain ⟨J, hJ⟩ : ∃ J, (if k = 0 then [] else fmtK l k ++ [46]) = J := ⟨_, rfl⟩
      have hst : fmtK l (k + 1) = J ++ ((l.getD k syZ).o ++ ((l.getD k syZ).n ++ (l.getD k syZ).c)) := by rw [fmtK, hJ, sylB]; simp
      have hb := HB.out (k + 1) (by omega)
      have hbk := HB.out k (by omega)
      rw [hst] at hb
      simp only [List.length_append] at hb
      generalize (l.getD k syZ).o = O at *
      generalize (l.getD k syZ).n = N at *
      generalize (l.getD k syZ).c = C at *
      have HST := Lib.hid hst
      clear hst
      have a1 : ∀ w : World, (Op.stringOp .add (bs J) (bs O)).run Tryd.prog w = .ok (.string (bs (J ++ O))) w := fun w => by rw [run_string_add_sum _ _ _ (by rw [bs_size, bs_size]; omega), bs_add]
      have a2 : ∀ w : World, (Op.stringOp .add (bs (J ++ O)) (bs N)).run Tryd.prog w = .ok (.string (bs (J ++ (O ++ N)))) w := fun w => by rw [run_string_add_sum _ _ _ (by rw [bs_size, bs_size, List.length_append]; omega), bs_add, List.append_assoc]
      have a3 : ∀ w : World, (Op.stringOp .add (bs (J ++ (O ++ N))) (bs C)).run Tryd.prog w = .ok (.string (bs (J ++ (O ++ (N ++ C))))) w := fun w => by rw [run_string_add_sum _ _ _ (by rw [bs_size, bs_size, List.length_append, List.length_append]; omega), bs_add, List.append_assoc, List.append_assoc]
      by_cases hk0 : k = 0
      · subst hk0
        obtain rfl : J = [] := by rw [← hJ]; rfl
        have e0 : bs (fmtK l 0) = bs [] := rfl
        rw [e0]
        have h00 : ¬ (0 : Int) < ((0 : Nat) : Int) := by omega
        simp only [List.nil_append] at a1 a2 a3 HST
        simp only [Nat.zero_mul, Nat.add_zero] at c0 c1 c2
        go_wp2
        go_quiet (fail)
        go_wp2
        go_roundw
        case rel => exact ⟨1, by omega, by go_num, by rw [HST.out], below_dN HBE.out _, HCE.out⟩
        case measure => simp [intOf]; omega
      · have h00 : (0 : Int) < (k : Int) := by omega
        rw [if_neg hk0] at hJ
        have ad : ∀ w : World, (Op.stringOp .add (bs (fmtK l k)) ⟨#[46]⟩).run Tryd.prog w = .ok (.string (bs J)) w := fun w => by
          rw [run_string_add_sum _ _ _ (by rw [bs_size]; show _ + 1 ≤ _; omega), ← hJ, ← bs_add]; rfl
        generalize fmtK l k = K at *
        clear hJ
        go_wp2
        go_quiet (fail)
        go_wp2
        go_roundw
        case rel => exact ⟨k + 1, by omega, by go_num, by rw [HST.out], below_dN HBE.out _, HCE.out⟩
        case measure => simp [intOf]; omega
    · obtain rfl : k = n := by omega
      go_wp2
      go_ret
      exact ⟨ret_str (by rw [HE.out]), HBE.out⟩
end Go.Proofs.YtjajbkbocbodfaaDoor
