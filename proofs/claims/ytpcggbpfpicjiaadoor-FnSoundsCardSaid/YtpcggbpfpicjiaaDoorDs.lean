/- The inputs that the model draws for the functions of sounds. Of what there was before nothing turns. -/
import Derived.Test.YtpcggbpfpicjiaaDoorDk
import Derived.Test.YtpcggbpfpicjiaaDoorM3
namespace Go.Proofs.YtpcggbpfpicjiaaDoor
open Go.RowKit M

/-- A byte, the cursor behind it. -/
def InPost (w : World) (g : Nat) (A : Option Addr) (len cap : Nat) (e : Ending) (w' : World) : Prop :=
  ∃ x : Int, (0 ≤ x ∧ x < 256) ∧ e = .returned (.int .u8 x) ∧ CurOk w' g A len cap ∧ w.grownBy w' (some g)
theorem in1_ok (w : World) (g : Nat) (A : Option Addr) (len cap : Nat) (hc : CurOk w g A len cap) :
    Calls Tryd.prog 34 #[.pointer (some ⟨g, 0, none⟩)] w (InPost w g A len cap) := by
  have HC := Lib.hid hc
  clear hc
  go_enter Tryd.func34, Tryd.ntmps34
  go_wp2_with fail
  refine (once_ok _ g A len cap 5 HC.out (by omega) (by omega)).mono ?_
  rintro e w1 ⟨b, rfl, hc1, hg1⟩
  have HC1 := Lib.hid hc1
  have HG1 := Lib.hid hg1
  clear hc1 hg1
  cases b
  · go_wp2_with fail
    refine (below_ok _ g A len cap 7 HC1.out (by omega) (by omega)).mono ?_
    rintro e w2 ⟨x, ⟨x0, x1⟩, rfl, hc2, hg2⟩
    have HC2 := Lib.hid hc2
    have HG2 := Lib.hid (grown_trans HG1.out hg2)
    clear hc2 hg2
    obtain ⟨k, rfl⟩ : ∃ k : Nat, x = k := ⟨x.toNat, by omega⟩
    have hr := snd_read k (by omega)
    have hs := sndAt_ge k
    go_wp2
    go_ret
    exact ⟨_, hs, rfl, HC2.out, HG2.out⟩
  · go_wp2_with fail
    refine (below_ok _ g A len cap 256 HC1.out (by omega) (by omega)).mono ?_
    rintro e w2 ⟨x, ⟨x0, x1⟩, rfl, hc2, hg2⟩
    have HC2 := Lib.hid hc2
    have HG2 := Lib.hid (grown_trans HG1.out hg2)
    clear hc2 hg2
    have hw := IntWalk.u8_in x (by omega)
    go_wp2
    go_ret
    exact ⟨_, ⟨x0, x1⟩, rfl, HC2.out, HG2.out⟩
/-- A list of short texts that lies apart from the cursor. -/
def Strs (w : World) (gl g n : Nat) : Prop := gl ≠ g ∧ gl < w.heap.size ∧ ∀ k, k < n → ∃ t : ByteArray, t.size ≤ 1 ∧ w.cell? ⟨gl, k, none⟩ = some (.string t)
theorem pickS_ok (w : World) (g : Nat) (A : Option Addr) (len cap gl n : Nat) (hc : CurOk w g A len cap) (h1 : 1 ≤ n) (h2 : n ≤ 1000) (hn : Strs w gl g n) :
    Calls Tryd.prog 50 #[.pointer (some ⟨g, 0, none⟩), .slice (some ⟨gl, 0, none⟩) n n] w (TextPost 1 w g A len cap) := by
  have HC := Lib.hid hc
  have HN := Lib.hid hn
  clear hc hn
  go_enter Tryd.func50, Tryd.ntmps50
  go_wp2_with fail
  refine (below_ok _ g A len cap n HC.out (by omega) (by omega)).mono ?_
  rintro e w1 ⟨x, ⟨x0, x1⟩, rfl, hc1, hg1⟩
  obtain ⟨k, rfl⟩ : ∃ k : Nat, x = k := ⟨x.toNat, by omega⟩
  obtain ⟨t, ht, hv⟩ := HN.out.2.2 k (by omega)
  have hne : some gl ≠ some g := fun e => HN.out.1 (by simpa using e)
  have hcell : w1.cell? ⟨gl, k, none⟩ = some (.string t) := hg1.cell hv hne
  have HC1 := Lib.hid hc1
  have HG1 := Lib.hid hg1
  clear hc1 hg1 hne hv
  go_wp2
  go_ret
  exact ⟨t, ht, rfl, HC1.out, HG1.out⟩
theorem listed4 (w : World) (g : Nat) (hg : g < w.heap.size) : Strs (w.alloc (.cells #[.string ⟨#[120]⟩, .string ⟨#[65]⟩, .string ⟨#[32]⟩, .string ⟨#[45]⟩] 9)) w.heap.size g 4 := by
  refine ⟨Nat.ne_of_gt hg, by simp, fun k hk => ?_⟩
  rw [World.cell?_alloc_new]
  rcases (show k = 0 ∨ k = 1 ∨ k = 2 ∨ k = 3 by omega) with rfl | rfl | rfl | rfl <;> exact ⟨_, by decide, rfl⟩
theorem str_add (t u : ByteArray) (h : t.size + u.size ≤ 100) (w : World) : (Op.stringOp .add t u).run Tryd.prog w = .ok (.string (t ++ u)) w := by
  rw [run_string_add_sum _ _ _ (by omega)]
set_option maxHeartbeats 1000000 in
theorem text2_ok (w : World) (g : Nat) (A : Option Addr) (len cap : Nat) (hc : CurOk w g A len cap) :
    Calls Tryd.prog 37 #[.pointer (some ⟨g, 0, none⟩)] w (TextPost 5 w g A len cap) := by
  have HC := Lib.hid hc
  clear hc
  go_enter Tryd.func37, Tryd.ntmps37
  go_wp2_with fail
  refine (below_ok _ g A len cap 5 HC.out (by omega) (by omega)).mono ?_
  rintro e w1 ⟨x, ⟨x0, x1⟩, rfl, hc1, hg1⟩
  have HC1 := Lib.hid hc1
  have HG1 := Lib.hid hg1
  clear hc1 hg1
  go_wp2
  go_loopw [3, 4] (fun v i wr => ∃ (t : ByteArray) (m : Nat), m ≤ 4 ∧ v = .string t ∧ i = .int .i64 m ∧ t.size + m ≤ 4 ∧ CurOk wr g A len cap ∧ w.grownBy wr (some g)) (fun _ i _ => (intOf i).toNat)
  case atStart => exact ⟨⟨#[]⟩, x.toNat, by omega, rfl, by rw [show ((x.toNat : Nat) : Int) = x by omega], by simp [ByteArray.size]; omega, HC1.out, HG1.out⟩
  case round =>
    obtain ⟨t, m, hm, rfl, rfl, htm, hcr, hgr⟩ := hrel
    by_cases hm0 : 0 < m
    · go_wp2_with fail
      refine (below_ok _ g A len cap 7 hcr (by omega) (by omega)).mono ?_
      rintro e w2 ⟨y, ⟨y0, y1⟩, rfl, hc2, hg2⟩
      have HC2 := Lib.hid hc2
      have HG2 := Lib.hid (grown_trans hgr hg2)
      clear hc2 hg2 hcr hgr
      obtain ⟨k, rfl⟩ : ∃ k : Nat, y = k := ⟨y.toNat, by omega⟩
      have hsl := snd_slice k (by omega)
      have hone : (⟨#[byt (sndAt k)]⟩ : ByteArray).size = 1 := rfl
      have hadd := str_add t ⟨#[byt (sndAt k)]⟩ (by omega)
      go_wp2
      go_roundw
      case rel => exact ⟨_, m - 1, by omega, rfl, by go_num, by rw [ByteArray.size_append, hone]; omega, HC2.out, HG2.out⟩
      case measure => simp [intOf]; omega
    · obtain rfl : m = 0 := by omega
      have HCR := Lib.hid hcr
      have HGR := Lib.hid hgr
      clear hcr hgr
      go_wp2_with fail
      refine (once_ok _ g A len cap 12 HCR.out (by omega) (by omega)).mono ?_
      rintro e w2 ⟨b, rfl, hc2, hg2⟩
      have HC2 := Lib.hid hc2
      have HG2 := Lib.hid (grown_trans HGR.out hg2)
      clear hc2 hg2
      cases b
      · go_wp2
        go_ret
        exact ⟨t, by omega, rfl, HC2.out, HG2.out⟩
      · go_wp2_with fail
        refine (pickS_ok _ g A len cap _ 4 (HC2.out.alloc _) (by omega) (by omega) (listed4 w2 g HC2.out.lt)).mono ?_
        rintro e w3 ⟨u, hu, rfl, hc3, hg3⟩
        have HC3 := Lib.hid hc3
        have HG3 := Lib.hid (grown_trans (grown_trans HG2.out (World.grownBy_alloc w2 _ _)) hg3)
        clear hc3 hg3
        have hadd := str_add t u (by omega)
        go_wp2
        go_ret
        exact ⟨_, by rw [ByteArray.size_append]; omega, rfl, HC3.out, HG3.out⟩
end Go.Proofs.YtpcggbpfpicjiaaDoor
