/- The inputs that the model draws for the functions of forms. Of what there was before nothing turns. -/
import Derived.Test.YtjajbkbocbodfaaDoorDp
import Derived.Test.YtjajbkbocbodfaaDoorN5
import Derived.Test.YtjajbkbocbodfaaDoorFd
import Derived.Deep.RegionWith
namespace Go.Proofs.YtjajbkbocbodfaaDoor
open Go.RowKit Go.Sort M

def DrawF (most : Nat) (w : World) (e : Ending) (w' : World) : Prop := ∃ t : ByteArray, t.size ≤ most ∧ e = .returned (.string t) ∧ Below w.heap.size w w'
def DrawFF (most : Nat) (w : World) (e : Ending) (w' : World) : Prop := ∃ t u : ByteArray, t.size ≤ most ∧ u.size ≤ most ∧ e = .returned (.tuple #[.string t, .string u]) ∧ Below w.heap.size w w'
def DrawFZ (most : Nat) (w : World) (e : Ending) (w' : World) : Prop := ∃ (t : ByteArray) (z : Int), t.size ≤ most ∧ e = .returned (.tuple #[.string t, .int .i64 z]) ∧ Below w.heap.size w w'
def DrawZ (w : World) (e : Ending) (w' : World) : Prop := ∃ z : Int, e = .returned (.int .i64 z) ∧ Below w.heap.size w w'
theorem drawNb_ok (w : World) (A : Option Addr) (len cap : Nat) (hl : len ≤ 1048576) (hcode : CodeArg w A len) : Calls Tryd.prog 8 #[.slice A len cap] w (DrawF 12 w) := by
  have HC := Lib.hid hcode
  clear hcode
  go_enter Tryd.func8, Tryd.ntmps8
  go_wp2_with fail
  refine (new_ok _ A len cap hl HC.out).mono ?_
  rintro e w1 ⟨rfl, hc1, hb1⟩
  have HC1 := Lib.hid hc1
  have HB1 := Lib.hid hb1
  clear hc1 hb1
  go_wp2_with fail
  refine (any_ok _ w.heap.size A len cap HC1.out).mono ?_
  rintro e w2 ⟨t, ht, rfl, _, hg⟩
  have HB2 := Lib.hid (below_of_new HB1.out hg)
  clear hg
  go_wp2
  go_ret
  exact ⟨t, ht, rfl, HB2.out⟩
theorem drawN_ok (w : World) (A : Option Addr) (len cap : Nat) (hl : len ≤ 1048576) (hcode : CodeArg w A len) : Calls Tryd.prog 36 #[.slice A len cap] w (DrawZ w) := by
  have HC := Lib.hid hcode
  clear hcode
  go_enter Tryd.func36, Tryd.ntmps36
  go_wp2_with fail
  refine (new_ok _ A len cap hl HC.out).mono ?_
  rintro e w1 ⟨rfl, hc1, hb1⟩
  have HC1 := Lib.hid hc1
  have HB1 := Lib.hid hb1
  clear hc1 hb1
  go_wp2_with fail
  refine (below_ok _ w.heap.size A len cap 6 HC1.out (by omega) (by omega)).mono ?_
  rintro e w2 ⟨x, ⟨x0, x1⟩, rfl, _, hg⟩
  have HB2 := Lib.hid (below_of_new HB1.out hg)
  clear hg
  go_wp2
  go_ret
  exact ⟨_, rfl, HB2.out⟩
theorem drawVow_ok (w : World) (A : Option Addr) (len cap : Nat) (hl : len ≤ 1048576) (hcode : CodeArg w A len) : Calls Tryd.prog 35 #[.slice A len cap] w (DrawFZ 12 w) := by
  have HC := Lib.hid hcode
  clear hcode
  go_enter Tryd.func35, Tryd.ntmps35
  go_wp2_with fail
  refine (new_ok _ A len cap hl HC.out).mono ?_
  rintro e w1 ⟨rfl, hc1, hb1⟩
  have HC1 := Lib.hid hc1
  have HB1 := Lib.hid hb1
  clear hc1 hb1
  go_wp2_with fail
  refine (any_ok _ w.heap.size A len cap HC1.out).mono ?_
  rintro e w2 ⟨t, ht, rfl, hc2, hg⟩
  have HC2 := Lib.hid hc2
  have HG2 := Lib.hid hg
  clear hc2 hg
  go_wp2_with fail
  refine (below_ok _ w.heap.size A len cap 7 HC2.out (by omega) (by omega)).mono ?_
  rintro e w3 ⟨f, ⟨f0, f1⟩, rfl, _, hg⟩
  have HB2 := Lib.hid (below_of_new HB1.out (grown_trans HG2.out hg))
  clear hg
  go_wp2
  go_ret2
  exact ⟨t, _, ht, rfl, HB2.out⟩
theorem CurOk.below {w w' : World} {g : Nat} {A : Option Addr} {len cap : Nat} (h : CurOk w g A len cap) (hb : Below w.heap.size w w') : CurOk w' g A len cap := by
  have hlt := h.lt
  obtain ⟨hl, ⟨i, q, hc⟩, hcode⟩ := h
  exact ⟨hl, ⟨i, q, (hb.block g hlt).trans hc⟩, hcode.keep ⟨hb.os, hb.tape, hb.output, hb.size, fun k hk _ => hb.block k hk⟩⟩
theorem nbL_size (s x : ByteArray) (hx : x ∈ nbL s) : x.size ≤ 12 := by
  have h1 := nbL_one s x hx
  unfold distV at h1
  split at h1
  · rename_i h
    have := isFm_size h.2
    omega
  · omega
set_option maxRecDepth 20000 in
set_option maxHeartbeats 2000000 in
theorem drawDist_ok (w : World) (A : Option Addr) (len cap : Nat) (hl : len ≤ 1048576) (hcode : CodeArg w A len) : Calls Tryd.prog 21 #[.slice A len cap] w (DrawFF 12 w) := by
  have HC := Lib.hid hcode
  clear hcode
  go_enter Tryd.func21, Tryd.ntmps21
  go_wp2_with fail
  refine (new_ok _ A len cap hl HC.out).mono ?_
  rintro e w1 ⟨rfl, hc1, hb1⟩
  have HC1 := Lib.hid hc1
  have HB1 := Lib.hid hb1
  clear hc1 hb1
  go_wp2_with fail
  refine (any_ok _ w.heap.size A len cap HC1.out).mono ?_
  rintro e w2 ⟨t, ht, rfl, hc2, hg⟩
  have HC2 := Lib.hid hc2
  have HG2 := Lib.hid hg
  clear hc2 hg
  have HNL := Lib.hid (nbL_len t)
  have HNS := Lib.hid (nbL_size t)
  go_wp2_with fail
  refine (specNb_any t _ (by unfold maxLen; omega)).mono ?_
  rintro e w3 ⟨v, rfl, hown, hb3⟩
  have HC3 := Lib.hid (HC2.out.below hb3)
  have HG3 := Lib.hid (grown_below HG2.out (hb3.mono HG2.out.size))
  have hglt := HC2.out.lt
  generalize nbL t = l at *
  by_cases hpos : 0 < l.length
  · obtain ⟨A1, c1, rfl, hrd⟩ := str_read hown
    obtain ⟨gl, hA1, _⟩ := hrd 0 hpos
    subst hA1
    obtain ⟨gl', cap', he, hge⟩ := str_form hown hpos
    have hgg : gl = gl' := by simpa using (Value.slice.inj he).1
    subst hgg
    have hne : some gl ≠ some w.heap.size := fun e => by
      have : gl = w.heap.size := by simpa using e
      omega
    have HRD : Hid (∀ k, k < l.length → w3.cell? ⟨gl, k, none⟩ = some (.string (l.getD k ByteArray.empty))) := fun k hk => by
      obtain ⟨g2, e2, h2⟩ := hrd k hk
      have : gl = g2 := by simpa using e2
      subst this
      exact h2
    have HMEM : Hid (∀ k, k < l.length → (l.getD k ByteArray.empty).size ≤ 12) := fun k hk => by
      rw [List.getD_eq_getElem?_getD, List.getElem?_eq_getElem hk]; exact HNS.out _ (List.getElem_mem hk)
    clear hown hb3 hrd he hge hglt
    generalize l.length = n at *
    have hnb := HNL.out
    go_wp2_with fail
    refine (once_ok _ w.heap.size A len cap 2 HC3.out (by omega) (by omega)).mono ?_
    rintro e w4 ⟨b, rfl, hc4, hg4⟩
    have HC4 := Lib.hid hc4
    have HG4 := Lib.hid (grown_trans HG3.out hg4)
    have HR4 : Hid (∀ k, k < n → w4.cell? ⟨gl, k, none⟩ = some (.string (l.getD k ByteArray.empty))) := fun k hk => hg4.cell (HRD.out k hk) hne
    clear hc4 hg4
    cases b
    · go_wp2_with fail
      refine (any_ok _ w.heap.size A len cap HC4.out).mono ?_
      rintro e w5 ⟨u, hu, rfl, _, hg5⟩
      have HB5 := Lib.hid (below_of_new HB1.out (grown_trans HG4.out hg5))
      clear hg5
      go_wp2
      go_ret2
      exact ⟨t, u, ht, hu, rfl, HB5.out⟩
    · have HC4d : Hid (CurOk w4.drew w.heap.size A len cap) := HC4.out
      have HR4d : Hid (∀ k, k < n → w4.drew.cell? ⟨gl, k, none⟩ = some (.string (l.getD k ByteArray.empty))) := HR4.out
      have HG4d : Hid (w1.grownBy w4.drew (some w.heap.size)) := ⟨HG4.out.os, HG4.out.tape, HG4.out.output, HG4.out.size, HG4.out.block⟩
      go_wp2
      go_region_with (go_at_call 54; refine (below_ok _ w.heap.size A len cap (n : Int) HC4d.out (by omega) (by omega)).mono ?_; rintro e w5 ⟨x, ⟨x0, x1⟩, rfl, hc5, hg5⟩; obtain ⟨k, rfl⟩ : ∃ k : Nat, x = k := ⟨x.toNat, by omega⟩; have hcell := hg5.cell (HR4d.out k (by omega)) hne; have hu := HMEM.out k (by omega); generalize l.getD k ByteArray.empty = u at hcell hu)
      have HB5 := Lib.hid (below_of_new HB1.out (grown_trans HG4d.out hg5))
      clear hg5
      go_simp
      go_wp2
      go_ret2
      exact ⟨t, u, ht, hu, rfl, HB5.out⟩
  · obtain ⟨A1, c1, rfl, _⟩ := str_read hown
    have hn0 : l.length = 0 := by omega
    rw [hn0]
    clear hown hb3
    go_wp2_with fail
    refine (any_ok _ w.heap.size A len cap HC3.out).mono ?_
    rintro e w5 ⟨u, hu, rfl, _, hg5⟩
    have HB5 := Lib.hid (below_of_new HB1.out (grown_trans HG3.out hg5))
    clear hg5
    go_wp2
    go_ret2
    exact ⟨t, u, ht, hu, rfl, HB5.out⟩
end Go.Proofs.YtjajbkbocbodfaaDoor
