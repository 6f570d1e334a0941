/- The model's drawing of inputs: a number, a text, a new cursor. Of what there was before the call only the cursor's own block turns. -/
import Derived.Test.YtfidmjpgceljkaaDoorD2
namespace Go.Proofs.YtfidmjpgceljkaaDoor
open Go.RowKit M

theorem CurOk.alloc {w : World} {g : Nat} {A : Option Addr} {len cap : Nat} (h : CurOk w g A len cap) (o : Obj) : CurOk (w.alloc o) g A len cap := by
  have hlt := h.lt
  obtain ⟨hl, ⟨i, q, hc⟩, hcode⟩ := h
  exact ⟨hl, ⟨i, q, (Below.heap_alloc w o g hlt).trans hc⟩, hcode.keep (World.grownBy_alloc w o _)⟩
/-- A list of numbers that lies apart from the cursor. -/
def Nums (w : World) (gl g n : Nat) : Prop := gl ≠ g ∧ gl < w.heap.size ∧ ∀ k, k < n → ∃ v : Int, -9223372036854775808 ≤ v ∧ v ≤ 9223372036854775807 ∧ w.cell? ⟨gl, k, none⟩ = some (.int .i64 v)

set_option maxHeartbeats 400000 in
theorem pick_ok (w : World) (g : Nat) (A : Option Addr) (len cap gl n : Nat) (hc : CurOk w g A len cap) (h1 : 1 ≤ n) (h2 : n ≤ 1000) (hn : Nums w gl g n) :
    Calls Tryd.prog 30 #[.pointer (some ⟨g, 0, none⟩), .slice (some ⟨gl, 0, none⟩) n n] w (NumPost (fun x => -9223372036854775808 ≤ x ∧ x ≤ 9223372036854775807) w g A len cap) := by
  have HC := Lib.hid hc
  have HN := Lib.hid hn
  clear hc hn
  go_enter Tryd.func30, Tryd.ntmps30
  go_wp2_with fail
  refine (below_ok _ g A len cap n HC.out (by omega) (by omega)).mono ?_
  rintro e w1 ⟨x, ⟨x0, x1⟩, rfl, hc1, hg1⟩
  obtain ⟨k, rfl⟩ : ∃ k : Nat, x = k := ⟨x.toNat, by omega⟩
  obtain ⟨v, v0, v1, hv⟩ := HN.out.2.2 k (by omega)
  have hne : some gl ≠ some g := fun e => HN.out.1 (by simpa using e)
  have hcell : w1.cell? ⟨gl, k, none⟩ = some (.int .i64 v) := hg1.cell hv hne
  have HC1 := Lib.hid hc1
  have HG1 := Lib.hid hg1
  clear hc1 hg1 hne hv
  go_wp2
  go_ret
  exact ⟨v, ⟨v0, v1⟩, rfl, HC1.out, HG1.out⟩

/-- The block of the listed numbers. -/
def listed : Array Value := #[.int .i64 (-1), .int .i64 0, .int .i64 127, .int .i64 128, .int .i64 255, .int .i64 256, .int .i64 16383, .int .i64 16384, .int .i64 65535, .int .i64 65536, .int .i64 562949953421311, .int .i64 562949953421312, .int .i64 999999999, .int .i64 1000000000, .int .i64 (-999999999), .int .i64 9223372036854775807, .int .i64 (-9223372036854775808)]
theorem listed_nums (w : World) (g : Nat) (hg : g < w.heap.size) : Nums (w.alloc (.cells listed 3)) w.heap.size g 17 := by
  refine ⟨by omega, by simp, fun k hk => ?_⟩
  rw [World.cell?_alloc_mark]
  rcases (show k = 0 ∨ k = 1 ∨ k = 2 ∨ k = 3 ∨ k = 4 ∨ k = 5 ∨ k = 6 ∨ k = 7 ∨ k = 8 ∨ k = 9 ∨ k = 10 ∨ k = 11 ∨ k = 12 ∨ k = 13 ∨ k = 14 ∨ k = 15 ∨ k = 16 from by omega) with rfl | rfl | rfl | rfl | rfl | rfl | rfl | rfl | rfl | rfl | rfl | rfl | rfl | rfl | rfl | rfl | rfl
  all_goals exact ⟨_, by omega, by omega, rfl⟩

set_option maxHeartbeats 1000000 in
theorem num_ok (w : World) (g : Nat) (A : Option Addr) (len cap : Nat) (hc : CurOk w g A len cap) :
    Calls Tryd.prog 22 #[.pointer (some ⟨g, 0, none⟩)] w (NumPost (fun x => -9223372036854775808 ≤ x ∧ x ≤ 9223372036854775807) w g A len cap) := by
  have HC := Lib.hid hc
  clear hc
  go_enter Tryd.func22, Tryd.ntmps22
  go_wp2_with fail
  refine (below_ok _ g A len cap 8 HC.out (by omega) (by omega)).mono ?_
  rintro e w1 ⟨x, ⟨x0, x1⟩, rfl, hc1, hg1⟩
  have HC1 := Lib.hid hc1
  have HG1 := Lib.hid hg1
  clear hc1 hg1
  rcases (show x = 0 ∨ x = 1 ∨ x = 2 ∨ 3 ≤ x from by omega) with rfl | rfl | rfl | hx
  · have hlt := HC1.out.lt
    go_wp2_with fail
    refine (pick_ok _ g A len cap w1.heap.size 17 (HC1.out.alloc (.cells listed 3)) (by omega) (by omega) (listed_nums w1 g hlt)).mono ?_
    rintro e w2 ⟨y, ⟨y0, y1⟩, rfl, hc2, hg2⟩
    have HC2 := Lib.hid hc2
    have HG2 := Lib.hid (grown_trans HG1.out (grown_trans (World.grownBy_alloc w1 _ _) hg2))
    clear hc2 hg2
    go_wp2
    go_ret
    exact ⟨y, ⟨y0, y1⟩, rfl, HC2.out, HG2.out⟩
  · go_wp2_with fail
    refine (below_ok _ g A len cap 1000000000 HC1.out (by omega) (by omega)).mono ?_
    rintro e w2 ⟨y, ⟨y0, y1⟩, rfl, hc2, hg2⟩
    have HC2 := Lib.hid hc2
    have HG2 := Lib.hid (grown_trans HG1.out hg2)
    clear hc2 hg2
    go_wp2_with fail
    refine (below_ok _ g A len cap 1000000000 HC2.out (by omega) (by omega)).mono ?_
    rintro e w3 ⟨z, ⟨z0, z1⟩, rfl, hc3, hg3⟩
    have HC3 := Lib.hid hc3
    have HG3 := Lib.hid (grown_trans HG2.out hg3)
    clear hc3 hg3
    have p0 : 0 ≤ y * z := Int.mul_nonneg y0 z0
    have p1 : y * z ≤ 1000000000000000000 := by
      have h1 : y * z ≤ 1000000000 * z := Int.mul_le_mul_of_nonneg_right (by omega) z0
      omega
    go_wp2
    go_ret
    exact ⟨y * z, ⟨by omega, by omega⟩, rfl, HC3.out, HG3.out⟩
  · go_wp2_with fail
    refine (below_ok _ g A len cap 100000 HC1.out (by omega) (by omega)).mono ?_
    rintro e w2 ⟨y, ⟨y0, y1⟩, rfl, hc2, hg2⟩
    have HC2 := Lib.hid hc2
    have HG2 := Lib.hid (grown_trans HG1.out hg2)
    clear hc2 hg2
    go_wp2
    go_ret
    exact ⟨-y, ⟨by omega, by omega⟩, rfl, HC2.out, HG2.out⟩
  · have t0 : (x == 0) = false := by simp; omega
    have t1 : (x == 1) = false := by simp; omega
    have t2 : (x == 2) = false := by simp; omega
    go_wp2_with fail
    refine (below_ok _ g A len cap 70000 HC1.out (by omega) (by omega)).mono ?_
    rintro e w2 ⟨y, ⟨y0, y1⟩, rfl, hc2, hg2⟩
    have HC2 := Lib.hid hc2
    have HG2 := Lib.hid (grown_trans HG1.out hg2)
    clear hc2 hg2
    go_wp2
    go_ret
    exact ⟨y, ⟨by omega, by omega⟩, rfl, HC2.out, HG2.out⟩
end Go.Proofs.YtfidmjpgceljkaaDoor
