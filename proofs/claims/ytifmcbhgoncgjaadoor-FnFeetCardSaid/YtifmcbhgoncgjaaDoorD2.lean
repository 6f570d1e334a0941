/- The model's drawing of inputs: numbers below a bound, one number out of a list. Of what there was before the call only the cursor's own block turns. -/
import Derived.Test.YtifmcbhgoncgjaaDoorD1
namespace Go.Proofs.YtifmcbhgoncgjaaDoor
open Go.RowKit M

/-- A cursor over a code that can be read. -/
def CurOk (w : World) (g : Nat) (A : Option Addr) (len cap : Nat) : Prop := len ≤ 1048576 ∧ (∃ i h, Cur w g A len cap i h) ∧ Code_ w g A len
theorem CurOk.lt {w : World} {g : Nat} {A : Option Addr} {len cap : Nat} (h : CurOk w g A len cap) : g < w.heap.size := by
  obtain ⟨_, ⟨i, q, hc⟩, _⟩ := h
  exact lt_of_block hc
theorem Code_.keep {w w' : World} {g : Nat} {A : Option Addr} {len : Nat} (h : Code_ w g A len) (hk : w.grownBy w' (some g)) : Code_ w' g A len := fun k hlt => by
  obtain ⟨b, off, z, hA, hbg, hb, h0, h1, hc⟩ := h k hlt
  exact ⟨b, off, z, hA, hbg, Nat.lt_of_lt_of_le hb hk.size, h0, h1, hk.cell hc (fun e => hbg (by simpa using e))⟩
theorem grown_trans {a b c : World} {row : Option Nat} (h : a.grownBy b row) (k : b.grownBy c row) : a.grownBy c row :=
  ⟨k.os.trans h.os, k.tape.trans h.tape, k.output.trans h.output, Nat.le_trans h.size k.size, fun i hi hne => (k.block i (Nat.lt_of_lt_of_le hi h.size) hne).trans (h.block i hi hne)⟩
/-- A number as P says, the cursor behind it. -/
def NumPost (P : Int → Prop) (w : World) (g : Nat) (A : Option Addr) (len cap : Nat) (e : Ending) (w' : World) : Prop :=
  ∃ x : Int, P x ∧ e = .returned (.int .i64 x) ∧ CurOk w' g A len cap ∧ w.grownBy w' (some g)
theorem byte_ok (w : World) (g : Nat) (A : Option Addr) (len cap : Nat) (hc : CurOk w g A len cap) :
    Calls Tryd.prog 46 #[.pointer (some ⟨g, 0, none⟩)] w (NumPost (fun x => 0 ≤ x ∧ x ≤ 255) w g A len cap) := by
  obtain ⟨hl, ⟨i, h, hcur⟩, hcode⟩ := hc
  refine (byte_any w g A len cap i h hl hcur hcode).mono fun e w' hp => ?_
  obtain ⟨x, i', h', h0, h1, he, hc', hg⟩ := hp
  exact ⟨x, ⟨h0, h1⟩, he, ⟨hl, ⟨i', h', hc'⟩, hcode.keep hg⟩, hg⟩

set_option maxHeartbeats 1000000 in
theorem below_ok (w : World) (g : Nat) (A : Option Addr) (len cap : Nat) (n : Int) (hc : CurOk w g A len cap) (h1 : 1 ≤ n) (h2 : n ≤ 1000000000) :
    Calls Tryd.prog 31 #[.pointer (some ⟨g, 0, none⟩), .int .i64 n] w (NumPost (fun x => 0 ≤ x ∧ x < n) w g A len cap) := by
  have HC := Lib.hid hc
  clear hc
  by_cases hs : n ≤ 256
  · go_enter Tryd.func31, Tryd.ntmps31
    go_wp2_with fail
    refine (byte_ok _ g A len cap HC.out).mono ?_
    rintro e w1 ⟨x, ⟨x0, x1⟩, rfl, hc1, hg1⟩
    have HC1 := Lib.hid hc1
    have HG1 := Lib.hid hg1
    clear hc1 hg1
    have hm0 : 0 ≤ x % n := Int.emod_nonneg _ (by omega)
    have hm1 : x % n < n := Int.emod_lt_of_pos _ (by omega)
    go_wp2
    go_ret
    exact ⟨_, ⟨hm0, hm1⟩, rfl, HC1.out, HG1.out⟩
  · go_enter Tryd.func31, Tryd.ntmps31
    go_wp2_with fail
    refine (byte_ok _ g A len cap HC.out).mono ?_
    rintro e w1 ⟨x, ⟨x0, x1⟩, rfl, hc1, hg1⟩
    have HC1 := Lib.hid hc1
    have HG1 := Lib.hid hg1
    clear hc1 hg1
    go_wp2_with fail
    refine (byte_ok _ g A len cap HC1.out).mono ?_
    rintro e w2 ⟨y, ⟨y0, y1⟩, rfl, hc2, hg2⟩
    have HC2 := Lib.hid hc2
    have HG2 := Lib.hid (grown_trans HG1.out hg2)
    clear hc2 hg2
    go_wp2_with fail
    refine (byte_ok _ g A len cap HC2.out).mono ?_
    rintro e w3 ⟨z, ⟨z0, z1⟩, rfl, hc3, hg3⟩
    have HC3 := Lib.hid hc3
    have HG3 := Lib.hid (grown_trans HG2.out hg3)
    clear hc3 hg3
    go_wp2_with fail
    refine (byte_ok _ g A len cap HC3.out).mono ?_
    rintro e w4 ⟨u, ⟨u0, u1⟩, rfl, hc4, hg4⟩
    have HC4 := Lib.hid hc4
    have HG4 := Lib.hid (grown_trans HG3.out hg4)
    clear hc4 hg4
    have hm0 : 0 ≤ (x * 16777216 + y * 65536 + z * 256 + u) % n := Int.emod_nonneg _ (by omega)
    have hm1 : (x * 16777216 + y * 65536 + z * 256 + u) % n < n := Int.emod_lt_of_pos _ (by omega)
    go_wp2
    go_ret
    exact ⟨_, ⟨hm0, hm1⟩, rfl, HC4.out, HG4.out⟩
end Go.Proofs.YtifmcbhgoncgjaaDoor
