/- The laws' toFootS. -/
import Derived.Test.YtifmcbhgoncgjaaDoorTrFoot
import Derived.Test.YtifmcbhgoncgjaaDoorTtFoot
import Derived.WalkKit
import Derived.BigQuiet
import Derived.Lib.QuietBelow
import Derived.Test.YtifmcbhgoncgjaaDoorRows
import Derived.Test.YtifmcbhgoncgjaaDoorRet
namespace Go.Proofs.YtifmcbhgoncgjaaDoor
open Go.RowKit Go.Sort
set_option linter.unusedVariables false
set_option linter.unusedSimpArgs false

theorem Tryd.infoTFoot : (Tryd.prog.info? 53).map (fun i => (i.zero, i.size, i.bytes)) = some (some (.agg #[.int .i64 0, .int .i64 0, .int .i64 0]), 3, 24) := by kernel_rfl
set_option maxHeartbeats 2000000 in
theorem toFootS_any (v : Value) (l : List DFoot) (F : Addr → Prop) (w : World) (hm : szRow rFoot l ≤ 1048576) (hv : RowRd rFoot false w v l F) :
    Calls Tryd.prog 43 #[v] w (OwnPost rFoot l w) := by
  have hml := Nat.le_trans (szRow_len rFoot l) hm
  obtain ⟨A, cap, rfl⟩ := hv.form
  have HV := Lib.hid hv
  have HSZ : Hid (∀ k x, l[k]? = some x → rFoot.sz x ≤ 1048576) := fun k x h => Nat.le_trans (szRow_at _ _ _ h) hm
  clear hv hm
  have HX : Hid (∀ k, k < l.length → ∃ x, l[k]? = some x) := fun k hk => ⟨_, List.getElem?_eq_getElem hk⟩
  have H0 := Lib.hid (cpTo_zero zFoot l)
  have HA := Lib.hid (cpTo_all zFoot l)
  have HAT := Lib.hid (cpTo_at zFoot l)
  have HST : Hid (∀ k x, l[k]? = some x → (cpTo zFoot l k).set k x = cpTo zFoot l (k + 1)) := fun k x h => cpTo_step _ _ _ h
  have HP : Hid (∀ (u : Value) (w' : World), RowRd rFoot true w' u l (fun a => w.heap.size ≤ a.block) → Below w.heap.size w w' → OwnPost rFoot l w (.returned u) w') := fun u w' h1 h2 => ⟨u, rfl, h1, h2⟩
  generalize hll : l.length = n at *
  clear hll
  obtain ⟨i0, hi, hz0, hz1, hz2⟩ := info_parts Tryd.infoTFoot
  go_enter Tryd.func43, Tryd.ntmps43
  go_wp2_with (at_make; refine wpList_make_full _ rfl _ _ 29 rfl w.heap.size 53 i0 (.agg #[.int .i64 0, .int .i64 0, .int .i64 0]) 3 Tryd.underlying29 hi hz0 hz1 .i64 .i64 _ _ n rfl rfl rfl rfl (by rw [hz2]; omega) (by unfold maxLen; omega) (Nat.le_refl _) ?_; intro w1 hown1 hgrow1)
  have hb1 : Below w.heap.size w w1 := (Below.refl _ _).grown hgrow1 (Nat.le_refl _) (fun _ h => by cases h)
  have HO1 : Hid (RowRd rFoot true w1 (.slice (some ⟨w.heap.size, 0, none⟩) n n) (cpTo zFoot l 0) (fun a => w.heap.size ≤ a.block)) := by
    unfold Hid
    rw [H0.out]
    rw [show (Value.cells (.agg #[.int .i64 0, .int .i64 0, .int .i64 0])) = #[.int .i64 0, .int .i64 0, .int .i64 0] from rfl] at hown1
    have hlr : (List.replicate n (zFoot : DFoot)).length = n := List.length_replicate
    refine (RowRd.of_flat (E := rFoot) (l := List.replicate n zFoot) (base := w.heap.size) (e := 53) (cells := (madeCells #[.int .i64 0, .int .i64 0, .int .i64 0] (n * 3)).toList) (by rw [hlr]; exact hown1) (by rw [hlr]; omega) ?_).mono (fun a ha => ha.1)
    intro k x hk
    rw [List.getElem?_replicate] at hk
    split at hk
    · cases hk
      refine ⟨[.int .i64 0, .int .i64 0, .int .i64 0], ?_, rFoot_mk (x := zFoot) (by unfold zFoot I64; simp only; omega) (by unfold zFoot I64; simp only; omega) (by unfold zFoot I64; simp only; omega)⟩
      intro j u hj
      have hjn : j < 3 := (List.getElem?_eq_some_iff.1 hj).1
      rw [show rFoot.size = 3 from rfl, made_at _ _ _ (by omega) (by decide), show (#[.int .i64 0, .int .i64 0, .int .i64 0] : Array Value).size = 3 from rfl, show (k * 3 + j) % 3 = j by omega]
      simpa using hj
    · cases hk
  have HB1 := Lib.hid hb1
  clear hown1 hgrow1 hb1
  go_wp2
  go_loopw [4] (fun i wr => ∃ (k : Nat), k ≤ n ∧ i = .int .i64 k ∧ RowRd rFoot true wr (.slice (some ⟨w.heap.size, 0, none⟩) n n) (cpTo zFoot l k) (fun a => w.heap.size ≤ a.block) ∧ Below w.heap.size w wr) (fun i _ => n - (intOf i).toNat)
  case atStart => exact ⟨0, by omega, rfl, HO1.out, HB1.out⟩
  case round =>
    obtain ⟨k, hk, rfl, hrow, hbe⟩ := hrel
    have HBE := Lib.hid hbe
    clear hbe
    by_cases hkl : k < n
    · obtain ⟨x, hx⟩ := HX.out k hkl
      have HSX := Lib.hid (HST.out k x hx)
      have hszx := HSZ.out k x hx
      obtain ⟨sg, so, xs, Fs, rfl, _, hsr, _, hsc⟩ := (HV.out.kept HBE.out).get hx
      rw [show rFoot.size = 3 from rfl] at hsc
      obtain ⟨rfl, i0, i1, i2⟩ := rFoot_rd hsr
      have c0 := hsc 0 _ rfl
      have c1 := hsc 1 _ rfl
      have c2 := hsc 2 _ rfl
      simp only [Nat.add_zero] at c0
      clear hsc hsr
      have hrow2 := hrow.tight
      clear hrow
      have HC := Lib.hid (toFoot_any x Fs wr hszx)
      have HR2 := Lib.hid hrow2
      clear hrow2
      go_wp2_with fail
      refine HC.out.mono ?_
      rintro e w2 ⟨rfl, hb2⟩
      have hrow2 := HR2.out.kept hb2
      obtain ⟨g, off, ys, Fk, hge, hrd, hel, hFk, hcl, hput⟩ := hrow2.open (HAT.out k hkl)
      cases hge
      rw [show rFoot.size = 3 from rfl] at hel hcl hput
      simp only [Nat.zero_add] at hel hput
      obtain ⟨rfl, _, _, _⟩ := rFoot_rd hrd
      have d0 := hel.cell 0 rfl
      have f0 := hel.free 0 (by decide)
      have d1 := hel.cell 1 rfl
      have f1 := hel.free 1 (by decide)
      have d2 := hel.cell 2 rfl
      have f2 := hel.free 2 (by decide)
      simp only [Nat.zero_add, Nat.add_zero] at d0 f0 d1 f1 d2 f2
      have hs0 := hel.set 0 (by decide) (.int .i64 x.From)
      simp only [List.set, Nat.zero_add, Nat.add_zero] at hs0
      have hs1 := hs0.set 1 (by decide) (.int .i64 x.Size)
      simp only [List.set, Nat.zero_add, Nat.add_zero] at hs1
      have hs2 := hs1.set 2 (by decide) (.int .i64 x.Head)
      simp only [List.set, Nat.zero_add, Nat.add_zero] at hs2
      have HBB := Lib.hid ((((HBE.out.trans (hb2.mono HBE.out.size)).setCell (p := ⟨w.heap.size, k * 3, none⟩) (Nat.le_refl _) (.int .i64 x.From)).setCell (p := ⟨w.heap.size, k * 3 + 1, none⟩) (Nat.le_refl _) (.int .i64 x.Size)).setCell (p := ⟨w.heap.size, k * 3 + 2, none⟩) (Nat.le_refl _) (.int .i64 x.Head))
      have HNEW := Lib.hid ((hput _ _ x (fun _ => False) hs2 (rFoot_mk (x := x) i0 i1 i2) (fun a h => h.elim)).mono (fun a h => h.elim (fun h => h.1) (fun h => h.elim)))
      rw [HSX.out] at HNEW
      clear hput hel hs0 hs1 hs2 hb2 hrd hFk hcl
      try clear hrow2
      go_wp2
      go_roundw
      case rel => exact ⟨k + 1, by omega, by go_num, HNEW.out, HBB.out⟩
      case measure => simp [intOf]; omega
    · obtain rfl : k = n := by omega
      rw [HA.out] at hrow
      have HRR := Lib.hid hrow
      clear hrow
      go_wp2
      go_ret
      exact HP.out _ _ HRR.out HBE.out
end Go.Proofs.YtifmcbhgoncgjaaDoor
