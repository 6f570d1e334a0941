/- The model's drawing of forms. Of what there was before the call only the cursor's own block turns. -/
import Derived.Test.YtjajbkbocbodfaaDoorDk
import Derived.Test.YtjajbkbocbodfaaDoorSl
import Derived.Test.YtjajbkbocbodfaaDoorRet
namespace Go.Proofs.YtjajbkbocbodfaaDoor
open Go.RowKit M

/-- A list of short texts that lies apart from the cursor. -/
def Strs (w : World) (gl g n : Nat) : Prop := gl ≠ g ∧ gl < w.heap.size ∧ ∀ k, k < n → ∃ t : ByteArray, t.size ≤ 1 ∧ w.cell? ⟨gl, k, none⟩ = some (.string t)
theorem pickS_ok (w : World) (g : Nat) (A : Option Addr) (len cap gl n : Nat) (hc : CurOk w g A len cap) (h1 : 1 ≤ n) (h2 : n ≤ 1000) (hn : Strs w gl g n) :
    Calls Tryd.prog 66 #[.pointer (some ⟨g, 0, none⟩), .slice (some ⟨gl, 0, none⟩) n n] w (TextPost 1 w g A len cap) := by
  have HC := Lib.hid hc
  have HN := Lib.hid hn
  clear hc hn
  go_enter Tryd.func66, Tryd.ntmps66
  go_wp2_with fail
  refine (below_ok _ g A len cap n HC.out (by omega) (by omega)).mono ?_
  rintro e w1 ⟨x, ⟨x0, x1⟩, rfl, hc1, hg1⟩
  obtain ⟨k, rfl⟩ : ∃ k : Nat, x = k := ⟨x.toNat, by omega⟩
  obtain ⟨t, ht, hv⟩ := HN.out.2.2 k (by omega)
  have hne : some gl ≠ some g := fun e => HN.out.1 (by simpa using e)
  have hcell : w1.cell? ⟨gl, k, none⟩ = some (.string t) := hg1.cell hv hne
  have HC1 := Lib.hid hc1
  have HG1 := Lib.hid hg1
  clear hc1 hg1 hne hv
  go_wp2
  go_ret
  exact ⟨t, ht, rfl, HC1.out, HG1.out⟩
theorem listed3 (w : World) (g : Nat) (hg : g < w.heap.size) : Strs (w.alloc (.cells #[.string ⟨#[120]⟩, .string ⟨#[65]⟩, .string ⟨#[32]⟩] 9)) w.heap.size g 3 := by
  refine ⟨Nat.ne_of_gt hg, by simp, fun k hk => ?_⟩
  rw [World.cell?_alloc_new]
  rcases (show k = 0 ∨ k = 1 ∨ k = 2 by omega) with rfl | rfl | rfl <;> exact ⟨_, by decide, rfl⟩
set_option maxHeartbeats 1000000 in
theorem form_ok (w : World) (g : Nat) (A : Option Addr) (len cap : Nat) (hc : CurOk w g A len cap) :
    Calls Tryd.prog 65 #[.pointer (some ⟨g, 0, none⟩)] w (TextPost 4 w g A len cap) := by
  have HC := Lib.hid hc
  clear hc
  go_enter Tryd.func65, Tryd.ntmps65
  go_wp2_with fail
  refine (below_ok _ g A len cap 5 HC.out (by omega) (by omega)).mono ?_
  rintro e w1 ⟨x, ⟨x0, x1⟩, rfl, hc1, hg1⟩
  have HC1 := Lib.hid hc1
  have HG1 := Lib.hid hg1
  clear hc1 hg1
  go_wp2
  go_loopw [3, 4] (fun v i wr => ∃ (t : ByteArray) (m : Nat), m ≤ 4 ∧ v = .string t ∧ i = .int .i64 m ∧ t.size + m ≤ 4 ∧ CurOk wr g A len cap ∧ w.grownBy wr (some g)) (fun _ i _ => (intOf i).toNat)
  case atStart => exact ⟨⟨#[]⟩, x.toNat, by omega, rfl, by rw [show ((x.toNat : Nat) : Int) = x by omega], by simp [ByteArray.size]; omega, HC1.out, HG1.out⟩
  case round =>
    obtain ⟨t, m, hm, rfl, rfl, htm, hcr, hgr⟩ := hrel
    by_cases hm0 : 0 < m
    · go_wp2_with fail
      refine (below_ok _ g A len cap 7 hcr (by omega) (by omega)).mono ?_
      rintro e w2 ⟨y, ⟨y0, y1⟩, rfl, hc2, hg2⟩
      have HC2 := Lib.hid hc2
      have HG2 := Lib.hid (grown_trans hgr hg2)
      clear hc2 hg2 hcr hgr
      obtain ⟨k, rfl⟩ : ∃ k : Nat, y = k := ⟨y.toNat, by omega⟩
      have hsl := snd_slice k (by omega)
      have hone : (⟨#[byt (sndAt k)]⟩ : ByteArray).size = 1 := rfl
      have hadd := str_add t ⟨#[byt (sndAt k)]⟩ (by omega)
      go_wp2
      go_roundw
      case rel => exact ⟨_, m - 1, by omega, rfl, by go_num, by rw [ByteArray.size_append, hone]; omega, HC2.out, HG2.out⟩
      case measure => simp [intOf]; omega
    · obtain rfl : m = 0 := by omega
      have HCR := Lib.hid hcr
      have HGR := Lib.hid hgr
      clear hcr hgr
      go_wp2
      go_ret
      exact ⟨t, by omega, rfl, HCR.out, HGR.out⟩
set_option maxHeartbeats 1000000 in
theorem any_ok (w : World) (g : Nat) (A : Option Addr) (len cap : Nat) (hc : CurOk w g A len cap) :
    Calls Tryd.prog 45 #[.pointer (some ⟨g, 0, none⟩)] w (TextPost 12 w g A len cap) := by
  have HC := Lib.hid hc
  clear hc
  go_enter Tryd.func45, Tryd.ntmps45
  go_wp2_with fail
  refine (form_ok _ g A len cap HC.out).mono ?_
  rintro e w1 ⟨t, ht, rfl, hc1, hg1⟩
  have HC1 := Lib.hid hc1
  have HG1 := Lib.hid hg1
  clear hc1 hg1
  go_wp2_with fail
  refine (below_ok _ g A len cap 16 HC1.out (by omega) (by omega)).mono ?_
  rintro e w2 ⟨x, ⟨x0, x1⟩, rfl, hc2, hg2⟩
  have HC2 := Lib.hid hc2
  have HG2 := Lib.hid (grown_trans HG1.out hg2)
  clear hc2 hg2
  by_cases h0 : x = 0
  · subst h0
    go_wp2_with fail
    refine (pickS_ok _ g A len cap _ 3 (HC2.out.alloc _) (by omega) (by omega) (listed3 w2 g HC2.out.lt)).mono ?_
    rintro e w3 ⟨u, hu, rfl, hc3, hg3⟩
    have HC3 := Lib.hid hc3
    have HG3 := Lib.hid (grown_trans (grown_trans HG2.out (World.grownBy_alloc w2 _ _)) hg3)
    clear hc3 hg3
    have hadd := str_add t u (by omega)
    go_wp2
    go_ret
    exact ⟨_, by rw [ByteArray.size_append]; omega, rfl, HC3.out, HG3.out⟩
  · by_cases h1 : x = 1
    · subst h1
      have h8 : (⟨#[116, 97, 105, 116, 97, 105, 116, 97]⟩ : ByteArray).size = 8 := rfl
      have hadd := str_add t ⟨#[116, 97, 105, 116, 97, 105, 116, 97]⟩ (by omega)
      go_wp2
      go_ret
      exact ⟨_, by rw [ByteArray.size_append, h8]; omega, rfl, HC2.out, HG2.out⟩
    · go_wp2
      go_ret
      exact ⟨t, by omega, rfl, HC2.out, HG2.out⟩
end Go.Proofs.YtjajbkbocbodfaaDoor
