/- The inputs that the model draws for the functions of sounds, whole. Of what there was before nothing turns. -/
import Derived.Test.YtpcggbpfpicjiaaDoorDs
namespace Go.Proofs.YtpcggbpfpicjiaaDoor
open Go.RowKit M

def DrawB (w : World) (e : Ending) (w' : World) : Prop := ∃ x : Int, (0 ≤ x ∧ x < 256) ∧ e = .returned (.int .u8 x) ∧ Below w.heap.size w w'
def DrawT (most : Nat) (w : World) (e : Ending) (w' : World) : Prop := ∃ t : ByteArray, t.size ≤ most ∧ e = .returned (.string t) ∧ Below w.heap.size w w'
def DrawBF (w : World) (e : Ending) (w' : World) : Prop := ∃ x f : Int, (0 ≤ x ∧ x < 256) ∧ e = .returned (.tuple #[.int .u8 x, .int .i64 f]) ∧ Below w.heap.size w w'
def DrawFY (w : World) (e : Ending) (w' : World) : Prop := ∃ (f : Int) (y : Bool), e = .returned (.tuple #[.int .i64 f, .bool y]) ∧ Below w.heap.size w w'
theorem drawSwap_ok (w : World) (A : Option Addr) (len cap : Nat) (hl : len ≤ 1048576) (hcode : CodeArg w A len) : Calls Tryd.prog 10 #[.slice A len cap] w (DrawB w) := by
  have HC := Lib.hid hcode
  clear hcode
  go_enter Tryd.func10, Tryd.ntmps10
  go_wp2_with fail
  refine (new_ok _ A len cap hl HC.out).mono ?_
  rintro e w1 ⟨rfl, hc1, hb1⟩
  have HC1 := Lib.hid hc1
  have HB1 := Lib.hid hb1
  clear hc1 hb1
  go_wp2_with fail
  refine (in1_ok _ w.heap.size A len cap HC1.out).mono ?_
  rintro e w2 ⟨x, hx, rfl, _, hg⟩
  have HB2 := Lib.hid (below_of_new HB1.out hg)
  clear hg
  go_wp2
  go_ret
  exact ⟨x, hx, rfl, HB2.out⟩
theorem drawNc_ok (w : World) (A : Option Addr) (len cap : Nat) (hl : len ≤ 1048576) (hcode : CodeArg w A len) : Calls Tryd.prog 16 #[.slice A len cap] w (DrawT 5 w) := by
  have HC := Lib.hid hcode
  clear hcode
  go_enter Tryd.func16, Tryd.ntmps16
  go_wp2_with fail
  refine (new_ok _ A len cap hl HC.out).mono ?_
  rintro e w1 ⟨rfl, hc1, hb1⟩
  have HC1 := Lib.hid hc1
  have HB1 := Lib.hid hb1
  clear hc1 hb1
  go_wp2_with fail
  refine (text2_ok _ w.heap.size A len cap HC1.out).mono ?_
  rintro e w2 ⟨t, ht, rfl, _, hg⟩
  have HB2 := Lib.hid (below_of_new HB1.out hg)
  clear hg
  go_wp2
  go_ret
  exact ⟨t, ht, rfl, HB2.out⟩
theorem drawHas_ok (w : World) (A : Option Addr) (len cap : Nat) (hl : len ≤ 1048576) (hcode : CodeArg w A len) : Calls Tryd.prog 23 #[.slice A len cap] w (DrawBF w) := by
  have HC := Lib.hid hcode
  clear hcode
  go_enter Tryd.func23, Tryd.ntmps23
  go_wp2_with fail
  refine (new_ok _ A len cap hl HC.out).mono ?_
  rintro e w1 ⟨rfl, hc1, hb1⟩
  have HC1 := Lib.hid hc1
  have HB1 := Lib.hid hb1
  clear hc1 hb1
  go_wp2_with fail
  refine (in1_ok _ w.heap.size A len cap HC1.out).mono ?_
  rintro e w2 ⟨x, hx, rfl, hc2, hg⟩
  have HC2 := Lib.hid hc2
  have HG2 := Lib.hid hg
  clear hc2 hg
  go_wp2_with fail
  refine (below_ok _ w.heap.size A len cap 7 HC2.out (by omega) (by omega)).mono ?_
  rintro e w3 ⟨f, ⟨f0, f1⟩, rfl, _, hg⟩
  have HB2 := Lib.hid (below_of_new HB1.out (grown_trans HG2.out hg))
  clear hg
  go_wp2
  go_ret2
  exact ⟨x, _, hx, rfl, HB2.out⟩
theorem drawSw_ok (w : World) (A : Option Addr) (len cap : Nat) (hl : len ≤ 1048576) (hcode : CodeArg w A len) : Calls Tryd.prog 24 #[.slice A len cap] w (DrawFY w) := by
  have HC := Lib.hid hcode
  clear hcode
  go_enter Tryd.func24, Tryd.ntmps24
  go_wp2_with fail
  refine (new_ok _ A len cap hl HC.out).mono ?_
  rintro e w1 ⟨rfl, hc1, hb1⟩
  have HC1 := Lib.hid hc1
  have HB1 := Lib.hid hb1
  clear hc1 hb1
  go_wp2_with fail
  refine (below_ok _ w.heap.size A len cap 7 HC1.out (by omega) (by omega)).mono ?_
  rintro e w2 ⟨f, ⟨f0, f1⟩, rfl, hc2, hg⟩
  have HC2 := Lib.hid hc2
  have HG2 := Lib.hid hg
  clear hc2 hg
  go_wp2_with fail
  refine (once_ok _ w.heap.size A len cap 2 HC2.out (by omega) (by omega)).mono ?_
  rintro e w3 ⟨y, rfl, _, hg⟩
  have HB2 := Lib.hid (below_of_new HB1.out (grown_trans HG2.out hg))
  clear hg
  go_wp2
  go_ret2
  exact ⟨_, y, rfl, HB2.out⟩
theorem ncL_len (l : List UInt8) : (ncL l).length ≤ 7 := by
  unfold ncL
  split
  · exact clsL_len _ 7
  · simp
theorem drawInc_ok (w : World) (A : Option Addr) (len cap : Nat) (hl : len ≤ 1048576) (hcode : CodeArg w A len) : Calls Tryd.prog 25 #[.slice A len cap] w (DrawT 7 w) := by
  have HC := Lib.hid hcode
  clear hcode
  go_enter Tryd.func25, Tryd.ntmps25
  go_wp2_with fail
  refine (new_ok _ A len cap hl HC.out).mono ?_
  rintro e w1 ⟨rfl, hc1, hb1⟩
  have HC1 := Lib.hid hc1
  have HB1 := Lib.hid hb1
  clear hc1 hb1
  go_wp2_with fail
  refine (text2_ok _ w.heap.size A len cap HC1.out).mono ?_
  rintro e w2 ⟨t, ht, rfl, hc2, hg⟩
  have HC2 := Lib.hid hc2
  have HG2 := Lib.hid hg
  clear hc2 hg
  go_wp2_with fail
  refine (once_ok _ w.heap.size A len cap 2 HC2.out (by omega) (by omega)).mono ?_
  rintro e w3 ⟨y, rfl, _, hg⟩
  have HB2 := Lib.hid (below_of_new HB1.out (grown_trans HG2.out hg))
  clear hg
  cases y
  · go_wp2
    go_ret
    exact ⟨t, by omega, rfl, HB2.out⟩
  · go_wp2_with fail
    refine (specNc_any t _ (by unfold maxLen; omega)).mono ?_
    rintro e w4 ⟨rfl, hb4⟩
    have HB4 := Lib.hid (HB2.out.trans (hb4.mono HB2.out.size))
    clear hb4
    go_wp2
    go_ret
    exact ⟨_, by simpa [ByteArray.size] using ncL_len t.data.toList, rfl, HB4.out⟩
end Go.Proofs.YtpcggbpfpicjiaaDoor
