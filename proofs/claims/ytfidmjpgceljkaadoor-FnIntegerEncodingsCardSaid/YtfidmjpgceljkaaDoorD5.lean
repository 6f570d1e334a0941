/- The inputs that the model draws for three functions. Of what there was before nothing turns. -/
import Derived.Test.YtfidmjpgceljkaaDoorD4
namespace Go.Proofs.YtfidmjpgceljkaaDoor
open Go.RowKit M

theorem below_of_new {w w1 w2 : World} (h : Below w.heap.size w w1) (hg : w1.grownBy w2 (some w.heap.size)) : Below w.heap.size w w2 :=
  h.grown hg h.size (fun k hk => by have : w.heap.size = k := by simpa using hk
                                    omega)
def DrawNum (w : World) (e : Ending) (w' : World) : Prop := ∃ n : Int, -9223372036854775808 ≤ n ∧ n ≤ 9223372036854775807 ∧ e = .returned (.int .i64 n) ∧ Below w.heap.size w w'
def DrawText (w : World) (e : Ending) (w' : World) : Prop := ∃ t : ByteArray, t.size ≤ 40 ∧ e = .returned (.string t) ∧ Below w.heap.size w w'
def DrawTwo (w : World) (e : Ending) (w' : World) : Prop := ∃ n k : Int, -9223372036854775808 ≤ n ∧ n ≤ 9223372036854775807 ∧ -1 ≤ k ∧ k ≤ 8 ∧ e = .returned (.tuple #[.int .i64 n, .int .i64 k]) ∧ Below w.heap.size w w'

theorem drawVar_ok (w : World) (A : Option Addr) (len cap : Nat) (hl : len ≤ 1048576) (hcode : CodeArg w A len) : Calls Tryd.prog 7 #[.slice A len cap] w (DrawNum w) := by
  have HC := Lib.hid hcode
  clear hcode
  go_enter Tryd.func7, Tryd.ntmps7
  go_wp2_with fail
  refine (new_ok _ A len cap hl HC.out).mono ?_
  rintro e w1 ⟨rfl, hc1, hb1⟩
  have HC1 := Lib.hid hc1
  have HB1 := Lib.hid hb1
  clear hc1 hb1
  go_wp2_with fail
  refine (num_ok _ w.heap.size A len cap HC1.out).mono ?_
  rintro e w2 ⟨n, ⟨n0, n1⟩, rfl, _, hg⟩
  have HB2 := Lib.hid (below_of_new HB1.out hg)
  clear hg
  go_wp2
  go_ret
  exact ⟨n, n0, n1, rfl, HB2.out⟩
theorem drawHex_ok (w : World) (A : Option Addr) (len cap : Nat) (hl : len ≤ 1048576) (hcode : CodeArg w A len) : Calls Tryd.prog 8 #[.slice A len cap] w (DrawText w) := by
  have HC := Lib.hid hcode
  clear hcode
  go_enter Tryd.func8, Tryd.ntmps8
  go_wp2_with fail
  refine (new_ok _ A len cap hl HC.out).mono ?_
  rintro e w1 ⟨rfl, hc1, hb1⟩
  have HC1 := Lib.hid hc1
  have HB1 := Lib.hid hb1
  clear hc1 hb1
  go_wp2_with fail
  refine (text_ok _ w.heap.size A len cap 40 (by omega) HC1.out).mono ?_
  rintro e w2 ⟨t, ht, rfl, _, hg⟩
  have HB2 := Lib.hid (below_of_new HB1.out hg)
  clear hg
  go_wp2
  go_ret
  exact ⟨t, ht, rfl, HB2.out⟩
theorem drawFixed_ok (w : World) (A : Option Addr) (len cap : Nat) (hl : len ≤ 1048576) (hcode : CodeArg w A len) : Calls Tryd.prog 11 #[.slice A len cap] w (DrawTwo w) := by
  have HC := Lib.hid hcode
  clear hcode
  go_enter Tryd.func11, Tryd.ntmps11
  go_wp2_with fail
  refine (new_ok _ A len cap hl HC.out).mono ?_
  rintro e w1 ⟨rfl, hc1, hb1⟩
  have HC1 := Lib.hid hc1
  have HB1 := Lib.hid hb1
  clear hc1 hb1
  go_wp2_with fail
  refine (num_ok _ w.heap.size A len cap HC1.out).mono ?_
  rintro e w2 ⟨n, ⟨n0, n1⟩, rfl, hc2, hg⟩
  have HC2 := Lib.hid hc2
  have HG2 := Lib.hid hg
  clear hc2 hg
  go_wp2_with fail
  refine (below_ok _ w.heap.size A len cap 10 HC2.out (by omega) (by omega)).mono ?_
  rintro e w3 ⟨k, ⟨k0, k1⟩, rfl, _, hg⟩
  have HB3 := Lib.hid (below_of_new HB1.out (grown_trans HG2.out hg))
  clear hg
  go_wp2
  go_ret2
  exact ⟨n, k - 1, n0, n1, by omega, by omega, rfl, HB3.out⟩
end Go.Proofs.YtfidmjpgceljkaaDoor
