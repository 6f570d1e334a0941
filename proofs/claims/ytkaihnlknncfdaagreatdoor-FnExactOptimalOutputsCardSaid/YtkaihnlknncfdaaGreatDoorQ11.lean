/- Merged: TzLinkS TzCandidate TzCandidateS TzIntS TzIntSS TzTableau TtLink TtLinkS TtCandidate. -/
import Derived.Test.YtkaihnlknncfdaaGreatDoorQ1
import Derived.WalkKit
import Derived.BigQuiet
import Derived.Lib.QuietBelow
import Derived.Test.YtkaihnlknncfdaaGreatDoorRows
import Derived.Test.YtkaihnlknncfdaaGreatDoorQ10
import Derived.Test.YtkaihnlknncfdaaGreatDoorQ2
import Derived.Test.YtkaihnlknncfdaaGreatDoorQ7
/- The laws' szLinkS. -/
namespace Go.Proofs.YtkaihnlknncfdaaGreatDoor
set_option maxRecDepth 100000
open Go.RowKit Go.Sort
set_option linter.unusedVariables false
set_option linter.unusedSimpArgs false

theorem szLinkS_any (v : Value) (l : List DLink) (left : Int) (F : Addr → Prop) (w : World) (h0 : 0 ≤ left) (h1 : left ≤ 1048576) (hv : RowRd rLink false w v l F) :
    Calls Tryz.prog 74 #[v, .int .i64 left] w fun e w' => (∃ z : Int, e = .returned (.int .i64 z) ∧ (z < 0 ∨ z + (szRow rLink l : Nat) = left ∧ 0 ≤ z)) ∧ Below w.heap.size w w' := by
  have HS : Hid (szRow rLink l = l.length) := szRow_flat _ (fun _ => rfl) l
  have hmx := hv.max
  obtain ⟨A, cap, rfl⟩ := hv.form
  clear hv
  generalize l.length = n at *
  go_enter Tryz.func74, Tryz.ntmps74
  by_cases h : left - (n : Int) < 0
  · go_wp2
    go_ret
    exact ⟨⟨-1, rfl, Or.inl (by omega)⟩, Below.refl _ _⟩
  · go_wp2
    go_ret
    exact ⟨⟨_, rfl, Or.inr ⟨by rw [HS.out]; omega, by omega⟩⟩, Below.refl _ _⟩
end Go.Proofs.YtkaihnlknncfdaaGreatDoor

/- The laws' szCandidate. -/
namespace Go.Proofs.YtkaihnlknncfdaaGreatDoor
set_option maxRecDepth 100000
open Go.RowKit Go.Sort
set_option linter.unusedVariables false
set_option linter.unusedSimpArgs false

theorem szCandidate_any (x : DCandidate) (v0 : Value) (left : Int) (F : Addr → Prop) (w : World) (h0 : 0 ≤ left) (h1 : left ≤ 1048576) (hv : RowRd rLink false w v0 x.Links F) :
    Calls Tryz.prog 33 #[.agg #[v0], .int .i64 left] w fun e w' => (∃ z : Int, e = .returned (.int .i64 z) ∧ (z < 0 ∨ z + (rCandidate.sz x : Nat) = left ∧ 0 ≤ z)) ∧ Below w.heap.size w w' := by
  have HS : Hid (rCandidate.sz x = szRow rLink x.Links) := by unfold Hid; rw [rCandidate_sz]; try omega
  have HC : Hid (∀ W, Below w.heap.size w W → Calls Tryz.prog 74 #[v0, .int .i64 left] W fun e w' => (∃ z : Int, e = .returned (.int .i64 z) ∧ (z < 0 ∨ z + (szRow rLink x.Links : Nat) = left ∧ 0 ≤ z)) ∧ Below W.heap.size W w') := fun W hW => szLinkS_any v0 _ left F W h0 h1 (hv.kept hW)
  clear hv
  generalize rCandidate.sz x = n at *
  generalize szRow rLink x.Links = m at *
  go_enter Tryz.func33, Tryz.ntmps33
  go_wp2_with fail
  refine (HC.out _ ((Below.refl _ _).alloc (Nat.le_refl _) _)).mono ?_
  rintro e w1 ⟨⟨z, rfl, hz⟩, hb⟩
  have HB := Lib.hid (((Below.refl w.heap.size w).alloc (Nat.le_refl _) _).trans (hb.mono (by simp)))
  clear hb
  by_cases h : z < 0
  · go_wp2
    go_ret
    exact ⟨⟨-1, rfl, Or.inl (by omega)⟩, HB.out⟩
  · have HZ := Lib.hid (hz.resolve_left h)
    clear hz
    go_wp2
    go_ret
    exact ⟨⟨z, rfl, Or.inr (by rw [HS.out]; exact HZ.out)⟩, HB.out⟩
end Go.Proofs.YtkaihnlknncfdaaGreatDoor

/- The laws' szCandidateS. -/
namespace Go.Proofs.YtkaihnlknncfdaaGreatDoor
set_option maxRecDepth 100000
open Go.RowKit Go.Sort
set_option linter.unusedVariables false
set_option linter.unusedSimpArgs false

set_option maxHeartbeats 1000000 in
theorem szCandidateS_any (v : Value) (l : List DCandidate) (left : Int) (F : Addr → Prop) (w : World) (h0 : 0 ≤ left) (h1 : left ≤ 1048576) (hv : RowRd rCandidate false w v l F) :
    Calls Tryz.prog 48 #[v, .int .i64 left] w fun e w' => (∃ z : Int, e = .returned (.int .i64 z) ∧ (z < 0 ∨ z + (szRow rCandidate l : Nat) = left ∧ 0 ≤ z)) ∧ Below w.heap.size w w' := by
  have hmx := hv.max
  obtain ⟨A, cap, rfl⟩ := hv.form
  have HV := Lib.hid hv
  clear hv
  have HX : Hid (∀ k, k < l.length → ∃ y, l[k]? = some y) := fun k hk => ⟨_, List.getElem?_eq_getElem hk⟩
  have HS : Hid (szToE rCandidate l l.length = szRow rCandidate l) := szToE_all _ l
  have H0 : Hid (szToE rCandidate l 0 = l.length) := szToE_zero _ l
  have HST : Hid (∀ k x, l[k]? = some x → szToE rCandidate l (k + 1) = szToE rCandidate l k + rCandidate.sz x) := fun k x h => szToE_step _ h
  generalize hll : l.length = n at *
  clear hll
  go_enter Tryz.func48, Tryz.ntmps48
  by_cases h : left - (n : Int) < 0
  · go_wp2
    go_ret
    exact ⟨⟨-1, rfl, Or.inl (by omega)⟩, Below.refl _ _⟩
  · go_wp2
    go_loopw [1, 5] (fun q i wr => ∃ (k : Nat) (z : Int), k ≤ n ∧ i = .int .i64 k ∧ q = .int .i64 z ∧ 0 ≤ z ∧ z ≤ 1048576 ∧ Hid (z + (szToE rCandidate l k : Nat) = left) ∧ Below w.heap.size w wr) (fun _ i _ => n - (intOf i).toNat)
    case atStart => exact ⟨0, _, by omega, rfl, rfl, by omega, by omega, by unfold Hid; rw [H0.out]; omega, Below.refl _ _⟩
    case round =>
      obtain ⟨k, z, hk, rfl, rfl, hz0, hz1, hs, hbe⟩ := hrel
      have HBE := Lib.hid hbe
      clear hbe
      by_cases hkl : k < n
      · obtain ⟨x, hx⟩ := HX.out k hkl
        have HSY := Lib.hid (HST.out k x hx)
        obtain ⟨g, off, xs, Fk, rfl, _, hra, _, hca⟩ := (HV.out.kept HBE.out).get hx
        simp only [show rCandidate.size = 1 from rfl, Nat.mul_one] at hca
        obtain ⟨v0, rfl, q0⟩ := rCandidate_rd hra
        have HC := Lib.hid (szCandidate_any x v0 z Fk wr hz0 hz1 q0)
        have c0 := hca 0 _ rfl
        simp only [Nat.add_zero] at c0
        clear hca hx hra q0
        generalize rCandidate.sz x = sx at *
        go_wp2_with fail
        refine HC.out.mono ?_
        rintro e w2 ⟨⟨z2, rfl, hz⟩, hb⟩
        have HB2 := Lib.hid (HBE.out.trans (hb.mono HBE.out.size))
        clear hb c0
        by_cases hneg : z2 < 0
        · go_wp2
          go_ret
          exact ⟨⟨-1, rfl, Or.inl (by omega)⟩, HB2.out⟩
        · have HZ := Lib.hid (hz.resolve_left hneg)
          have hz2 : z2 ≤ 1048576 := by have := HZ.out; omega
          clear hz
          go_wp2
          go_roundw
          case rel => exact ⟨k + 1, z2, by omega, by first | rfl | go_num, by first | rfl | go_num, by omega, by omega, by unfold Hid; rw [HSY.out]; have := hs.out; have := HZ.out; omega, HB2.out⟩
          case measure => simp [intOf]; omega
      · obtain rfl : k = n := by omega
        go_wp2
        go_ret
        exact ⟨⟨z, rfl, Or.inr ⟨by rw [← HS.out]; exact hs.out, hz0⟩⟩, HBE.out⟩
end Go.Proofs.YtkaihnlknncfdaaGreatDoor

/- The laws' szIntS. -/
namespace Go.Proofs.YtkaihnlknncfdaaGreatDoor
set_option maxRecDepth 100000
open Go.RowKit Go.Sort
set_option linter.unusedVariables false
set_option linter.unusedSimpArgs false

theorem szIntS_any (v : Value) (l : List Int) (left : Int) (F : Addr → Prop) (w : World) (h0 : 0 ≤ left) (h1 : left ≤ 1048576) (hv : RowRd Rep.int false w v l F) :
    Calls Tryz.prog 101 #[v, .int .i64 left] w fun e w' => (∃ z : Int, e = .returned (.int .i64 z) ∧ (z < 0 ∨ z + (szRow Rep.int l : Nat) = left ∧ 0 ≤ z)) ∧ Below w.heap.size w w' := by
  have HS : Hid (szRow Rep.int l = l.length) := szRow_flat _ (fun _ => rfl) l
  have hmx := hv.max
  obtain ⟨A, cap, rfl⟩ := hv.form
  clear hv
  generalize l.length = n at *
  go_enter Tryz.func101, Tryz.ntmps101
  by_cases h : left - (n : Int) < 0
  · go_wp2
    go_ret
    exact ⟨⟨-1, rfl, Or.inl (by omega)⟩, Below.refl _ _⟩
  · go_wp2
    go_ret
    exact ⟨⟨_, rfl, Or.inr ⟨by rw [HS.out]; omega, by omega⟩⟩, Below.refl _ _⟩
end Go.Proofs.YtkaihnlknncfdaaGreatDoor

/- The laws' szIntSS. -/
namespace Go.Proofs.YtkaihnlknncfdaaGreatDoor
set_option maxRecDepth 100000
open Go.RowKit Go.Sort
set_option linter.unusedVariables false
set_option linter.unusedSimpArgs false

set_option maxHeartbeats 1000000 in
theorem szIntSS_any (v : Value) (l : List (List Int)) (left : Int) (F : Addr → Prop) (w : World) (h0 : 0 ≤ left) (h1 : left ≤ 1048576) (hv : RowRd (Rep.row Rep.int) false w v l F) :
    Calls Tryz.prog 49 #[v, .int .i64 left] w fun e w' => (∃ z : Int, e = .returned (.int .i64 z) ∧ (z < 0 ∨ z + (szRow (Rep.row Rep.int) l : Nat) = left ∧ 0 ≤ z)) ∧ Below w.heap.size w w' := by
  have hmx := hv.max
  obtain ⟨A, cap, rfl⟩ := hv.form
  have HV := Lib.hid hv
  clear hv
  have HX : Hid (∀ k, k < l.length → ∃ y, l[k]? = some y) := fun k hk => ⟨_, List.getElem?_eq_getElem hk⟩
  have HS : Hid (szToE (Rep.row Rep.int) l l.length = szRow (Rep.row Rep.int) l) := szToE_all _ l
  have H0 : Hid (szToE (Rep.row Rep.int) l 0 = l.length) := szToE_zero _ l
  have HST : Hid (∀ k x, l[k]? = some x → szToE (Rep.row Rep.int) l (k + 1) = szToE (Rep.row Rep.int) l k + (Rep.row Rep.int).sz x) := fun k x h => szToE_step _ h
  generalize hll : l.length = n at *
  clear hll
  go_enter Tryz.func49, Tryz.ntmps49
  by_cases h : left - (n : Int) < 0
  · go_wp2
    go_ret
    exact ⟨⟨-1, rfl, Or.inl (by omega)⟩, Below.refl _ _⟩
  · go_wp2
    go_loopw [1, 5] (fun q i wr => ∃ (k : Nat) (z : Int), k ≤ n ∧ i = .int .i64 k ∧ q = .int .i64 z ∧ 0 ≤ z ∧ z ≤ 1048576 ∧ Hid (z + (szToE (Rep.row Rep.int) l k : Nat) = left) ∧ Below w.heap.size w wr) (fun _ i _ => n - (intOf i).toNat)
    case atStart => exact ⟨0, _, by omega, rfl, rfl, by omega, by omega, by unfold Hid; rw [H0.out]; omega, Below.refl _ _⟩
    case round =>
      obtain ⟨k, z, hk, rfl, rfl, hz0, hz1, hs, hbe⟩ := hrel
      have HBE := Lib.hid hbe
      clear hbe
      by_cases hkl : k < n
      · obtain ⟨x, hx⟩ := HX.out k hkl
        have HSY := Lib.hid (HST.out k x hx)
        obtain ⟨g, off, xs, Fk, rfl, _, hra, _, hca⟩ := (HV.out.kept HBE.out).get hx
        simp only [show (Rep.row Rep.int).size = 1 from rfl, Nat.mul_one] at hca
        obtain ⟨v0, rfl, q0⟩ := id hra
        have HC := Lib.hid (szIntS_any v0 x z Fk wr hz0 hz1 q0)
        rw [show szRow Rep.int x = (Rep.row Rep.int).sz x from rfl] at HC
        have c0 := hca 0 _ rfl
        simp only [Nat.add_zero] at c0
        clear hca hx hra q0
        generalize (Rep.row Rep.int).sz x = sx at *
        go_wp2_with fail
        refine HC.out.mono ?_
        rintro e w2 ⟨⟨z2, rfl, hz⟩, hb⟩
        have HB2 := Lib.hid (HBE.out.trans (hb.mono HBE.out.size))
        clear hb c0
        by_cases hneg : z2 < 0
        · go_wp2
          go_ret
          exact ⟨⟨-1, rfl, Or.inl (by omega)⟩, HB2.out⟩
        · have HZ := Lib.hid (hz.resolve_left hneg)
          have hz2 : z2 ≤ 1048576 := by have := HZ.out; omega
          clear hz
          go_wp2
          go_roundw
          case rel => exact ⟨k + 1, z2, by omega, by first | rfl | go_num, by first | rfl | go_num, by omega, by omega, by unfold Hid; rw [HSY.out]; have := hs.out; have := HZ.out; omega, HB2.out⟩
          case measure => simp [intOf]; omega
      · obtain rfl : k = n := by omega
        go_wp2
        go_ret
        exact ⟨⟨z, rfl, Or.inr ⟨by rw [← HS.out]; exact hs.out, hz0⟩⟩, HBE.out⟩
end Go.Proofs.YtkaihnlknncfdaaGreatDoor

/- The laws' szTableau. -/
namespace Go.Proofs.YtkaihnlknncfdaaGreatDoor
set_option maxRecDepth 100000
open Go.RowKit Go.Sort M
set_option linter.unusedVariables false
set_option linter.unusedSimpArgs false

set_option maxHeartbeats 2000000 in
theorem szTableau_any (x : DTableau) (v1 v2 v3 : Value) (left : Int) (F1 F2 F3 : Addr → Prop) (w : World) (h0 : 0 ≤ left) (h1 : left ≤ 1048576) (hv : TabRd false w v1 v2 v3 x F1 F2 F3) :
    Calls Tryz.prog 12 #[.agg #[.string x.Input, v1, v2, v3], .int .i64 left] w fun e w' => (∃ z : Int, e = .returned (.int .i64 z) ∧ (z < 0 ∨ z + (rTableau.sz x : Nat) = left ∧ 0 ≤ z)) ∧ Below w.heap.size w w' := by
  have HA0 : Hid (InC (w.alloc (.cells #[.string x.Input, v1, v2, v3] 26)) w.heap.size #[.string x.Input, v1, v2, v3] 26) := heap_alloc_new _ _
  have HBX : Hid (Below w.heap.size w (w.alloc (.cells #[.string x.Input, v1, v2, v3] 26))) := (Below.refl _ _).alloc (Nat.le_refl _) _
  have HS := Lib.hid (rTableau_sz x)
  have hinp := hv.inp
  have HC1 : Hid (∀ z W, 0 ≤ z → z ≤ 1048576 → Below w.heap.size w W → Calls Tryz.prog 32 #[v1, .int .i64 z] W fun e w' => (∃ z' : Int, e = .returned (.int .i64 z') ∧ (z' < 0 ∨ z' + (szRow (Rep.str mkT) x.Names : Nat) = z ∧ 0 ≤ z')) ∧ Below W.heap.size W w') := fun z W h0 h1 hW => szStringS_any v1 _ z F1 W h0 h1 (hv.names.kept hW)
  have HC2 : Hid (∀ z W, 0 ≤ z → z ≤ 1048576 → Below w.heap.size w W → Calls Tryz.prog 48 #[v2, .int .i64 z] W fun e w' => (∃ z' : Int, e = .returned (.int .i64 z') ∧ (z' < 0 ∨ z' + (szRow rCandidate x.Rows : Nat) = z ∧ 0 ≤ z')) ∧ Below W.heap.size W w') := fun z W h0 h1 hW => szCandidateS_any v2 _ z F2 W h0 h1 (hv.rows.kept hW)
  have HC3 : Hid (∀ z W, 0 ≤ z → z ≤ 1048576 → Below w.heap.size w W → Calls Tryz.prog 49 #[v3, .int .i64 z] W fun e w' => (∃ z' : Int, e = .returned (.int .i64 z') ∧ (z' < 0 ∨ z' + (szRow (Rep.row Rep.int) x.Marks : Nat) = z ∧ 0 ≤ z')) ∧ Below W.heap.size W w') := fun z W h0 h1 hW => szIntSS_any v3 _ z F3 W h0 h1 (hv.marks.kept hW)
  clear hv
  generalize rTableau.sz x = N at *
  generalize szRow (Rep.str mkT) x.Names = n1 at *
  generalize szRow rCandidate x.Rows = n2 at *
  generalize szRow (Rep.row Rep.int) x.Marks = n3 at *
  go_enter Tryz.func12, Tryz.ntmps12
  by_cases h : left - (x.Input.size : Int) < 0
  · go_wp2
    go_ret
    exact ⟨⟨-1, rfl, Or.inl (by omega)⟩, HBX.out⟩
  obtain ⟨z0, hz0⟩ : ∃ z : Int, left - (x.Input.size : Int) = z := ⟨_, rfl⟩
  have hw0 : IntKind.i64.wrap (left - (x.Input.size : Int)) = z0 := by rw [hz0]; exact IntWalk.i64_in _ (by omega)
  have HZ0 := Lib.hid hz0
  have h0z : 0 ≤ z0 := by omega
  have h1z : z0 ≤ 1048576 := by omega
  have hzn : ¬ z0 < 0 := by omega
  clear hz0 h
  go_wp2_with fail
  refine (HC1.out z0 _ (by omega) (by omega) HBX.out).mono ?_
  rintro e w1 ⟨⟨z1, rfl, hz1⟩, hb1⟩
  have HB1 := Lib.hid (below_step HBX.out hb1)
  have HA1 := Lib.hid (HA0.out.kept hb1)
  have c1' := HA1.out.cell 2 rfl
  clear hb1
  by_cases hn1 : z1 < 0
  · go_wp2
    go_ret
    exact ⟨⟨-1, rfl, Or.inl (by omega)⟩, HB1.out⟩
  have HZ1 := Lib.hid (hz1.resolve_left hn1)
  have h1z1 : z1 ≤ 1048576 := by have := HZ1.out; omega
  clear hz1
  go_wp2_with fail
  refine (HC2.out z1 _ (by omega) (by omega) HB1.out).mono ?_
  rintro e w2 ⟨⟨z2, rfl, hz2⟩, hb2⟩
  have HB2 := Lib.hid (below_step HB1.out hb2)
  have HA2 := Lib.hid (HA1.out.kept hb2)
  have c2' := HA2.out.cell 3 rfl
  clear c1'
  clear hb2
  by_cases hn2 : z2 < 0
  · go_wp2
    go_ret
    exact ⟨⟨-1, rfl, Or.inl (by omega)⟩, HB2.out⟩
  have HZ2 := Lib.hid (hz2.resolve_left hn2)
  have h1z2 : z2 ≤ 1048576 := by have := HZ2.out; omega
  clear hz2
  go_wp2_with fail
  refine (HC3.out z2 _ (by omega) (by omega) HB2.out).mono ?_
  rintro e w3 ⟨⟨z3, rfl, hz3⟩, hb3⟩
  have HB3 := Lib.hid (below_step HB2.out hb3)
  clear c2'
  clear hb3
  by_cases hn3 : z3 < 0
  · go_wp2
    go_ret
    exact ⟨⟨-1, rfl, Or.inl (by omega)⟩, HB3.out⟩
  have HZ3 := Lib.hid (hz3.resolve_left hn3)
  have h1z3 : z3 ≤ 1048576 := by have := HZ3.out; omega
  clear hz3
  go_wp2
  go_ret
  exact ⟨⟨z3, rfl, Or.inr ⟨by rw [HS.out]; have := HZ0.out; have := HZ1.out; have := HZ2.out; have := HZ3.out; omega, by omega⟩⟩, HB3.out⟩
end Go.Proofs.YtkaihnlknncfdaaGreatDoor

/- The laws' toLink. -/
namespace Go.Proofs.YtkaihnlknncfdaaGreatDoor
set_option maxRecDepth 100000
open Go.RowKit Go.Sort
set_option linter.unusedVariables false
set_option linter.unusedSimpArgs false

set_option maxHeartbeats 8000000 in
theorem toLink_any (x : DLink) (F : Addr → Prop) (w : World) (hm : rLink.sz x ≤ 1048576) :
    Calls Tryz.prog 125 #[.agg #[.int .u8 (x.In.toNat : Int), .int .u8 (x.Out.toNat : Int)]] w fun e w' => e = .returned (.agg #[.int .u8 (x.In.toNat : Int), .int .u8 (x.Out.toNat : Int)]) ∧ Below w.heap.size w w' := by
  generalize x.In = y0 at *
  generalize x.Out = y1 at *
  go_enter Tryz.func125, Tryz.ntmps125
  go_wp2
  refine bodyPost_ret (v := .agg #[.int .u8 (y0.toNat : Int), .int .u8 (y1.toNat : Int)]) (results_cell_row rfl _ _ (w.heap.size + 1) 118 _ (0, 0) _ rfl ((Below.heap_alloc _ _ _ (by simp)).trans (by have := heap_alloc_new (w.alloc (.cells #[.int .u8 (y0.toNat : Int), .int .u8 (y1.toNat : Int)] 124)) (.cells #[.int .u8 (y0.toNat : Int), .int .u8 (y1.toNat : Int)] 118); rwa [World.size_alloc] at this)) Tryz.underlying118 rfl (by kernel_rfl)) rfl ⟨rfl, ?_⟩
  exact (((Below.refl _ _).alloc (Nat.le_refl _) _).alloc (by simp) _).alloc (by simp; omega) _
end Go.Proofs.YtkaihnlknncfdaaGreatDoor

/- The laws' toLinkS. -/
namespace Go.Proofs.YtkaihnlknncfdaaGreatDoor
set_option maxRecDepth 100000
open Go.RowKit Go.Sort
set_option linter.unusedVariables false
set_option linter.unusedSimpArgs false

set_option maxHeartbeats 2000000 in
theorem toLinkS_any (v : Value) (l : List DLink) (F : Addr → Prop) (w : World) (hm : szRow rLink l ≤ 1048576) (hv : RowRd rLink false w v l F) :
    Calls Tryz.prog 78 #[v] w (OwnPost rLink l w) := by
  have hml := Nat.le_trans (szRow_len rLink l) hm
  obtain ⟨A, cap, rfl⟩ := hv.form
  have HV := Lib.hid hv
  have HSZ : Hid (∀ k x, l[k]? = some x → rLink.sz x ≤ 1048576) := fun k x h => Nat.le_trans (szRow_at _ _ _ h) hm
  clear hv hm
  have HX : Hid (∀ k, k < l.length → ∃ x, l[k]? = some x) := fun k hk => ⟨_, List.getElem?_eq_getElem hk⟩
  have H0 := Lib.hid (cpTo_zero zLink l)
  have HA := Lib.hid (cpTo_all zLink l)
  have HAT := Lib.hid (cpTo_at zLink l)
  have HST : Hid (∀ k x, l[k]? = some x → (cpTo zLink l k).set k x = cpTo zLink l (k + 1)) := fun k x h => cpTo_step _ _ _ h
  have HP : Hid (∀ (u : Value) (w' : World), RowRd rLink true w' u l (fun a => w.heap.size ≤ a.block) → Below w.heap.size w w' → OwnPost rLink l w (.returned u) w') := fun u w' h1 h2 => ⟨u, rfl, h1, h2⟩
  generalize hll : l.length = n at *
  clear hll
  obtain ⟨i0, hi, hz0, hz1, hz2⟩ := info_parts Tryz.infoTLink
  go_enter Tryz.func78, Tryz.ntmps78
  go_wp2_with (at_make; refine wpList_make_full _ rfl _ _ 53 rfl w.heap.size 118 i0 (.agg #[.int .u8 0, .int .u8 0]) 2 Tryz.underlying53 hi hz0 hz1 .i64 .i64 _ _ n rfl rfl rfl rfl (by rw [hz2]; omega) (by unfold maxLen; omega) (Nat.le_refl _) ?_; intro w1 hown1 hgrow1)
  have hb1 : Below w.heap.size w w1 := (Below.refl _ _).grown hgrow1 (Nat.le_refl _) (fun _ h => by cases h)
  have HO1 : Hid (RowRd rLink true w1 (.slice (some ⟨w.heap.size, 0, none⟩) n n) (cpTo zLink l 0) (fun a => w.heap.size ≤ a.block)) := by
    unfold Hid
    rw [H0.out]
    rw [show (Value.cells (.agg #[.int .u8 0, .int .u8 0])) = #[.int .u8 0, .int .u8 0] from rfl] at hown1
    have hlr : (List.replicate n (zLink : DLink)).length = n := List.length_replicate
    refine (RowRd.of_flat (E := rLink) (l := List.replicate n zLink) (base := w.heap.size) (e := 118) (cells := (madeCells #[.int .u8 0, .int .u8 0] (n * 2)).toList) (by rw [hlr]; exact hown1) (by rw [hlr]; omega) ?_).mono (fun a ha => ha.1)
    intro k x hk
    rw [List.getElem?_replicate] at hk
    split at hk
    · cases hk
      refine ⟨[.int .u8 0, .int .u8 0], ?_, rLink_mk (x := zLink) ⟩
      intro j u hj
      have hjn : j < 2 := (List.getElem?_eq_some_iff.1 hj).1
      rw [show rLink.size = 2 from rfl, made_at _ _ _ (by omega) (by decide), show (#[.int .u8 0, .int .u8 0] : Array Value).size = 2 from rfl, show (k * 2 + j) % 2 = j by omega]
      simpa using hj
    · cases hk
  have HB1 := Lib.hid hb1
  clear hown1 hgrow1 hb1
  go_wp2
  go_loopw [4] (fun i wr => ∃ (k : Nat), k ≤ n ∧ i = .int .i64 k ∧ RowRd rLink true wr (.slice (some ⟨w.heap.size, 0, none⟩) n n) (cpTo zLink l k) (fun a => w.heap.size ≤ a.block) ∧ Below w.heap.size w wr) (fun i _ => n - (intOf i).toNat)
  case atStart => exact ⟨0, by omega, rfl, HO1.out, HB1.out⟩
  case round =>
    obtain ⟨k, hk, rfl, hrow, hbe⟩ := hrel
    have HBE := Lib.hid hbe
    clear hbe
    by_cases hkl : k < n
    · obtain ⟨x, hx⟩ := HX.out k hkl
      have HSX := Lib.hid (HST.out k x hx)
      have hszx := HSZ.out k x hx
      obtain ⟨sg, so, xs, Fs, rfl, _, hsr, _, hsc⟩ := (HV.out.kept HBE.out).get hx
      rw [show rLink.size = 2 from rfl] at hsc
      have ee := rLink_rd hsr
      subst ee
      have c0 := hsc 0 _ rfl
      have c1 := hsc 1 _ rfl
      simp only [Nat.add_zero] at c0
      clear hsc hsr
      have hrow2 := hrow.tight
      clear hrow
      have HC := Lib.hid (toLink_any x Fs wr hszx)
      have HR2 := Lib.hid hrow2
      clear hrow2
      go_wp2_with fail
      refine HC.out.mono ?_
      rintro e w2 ⟨rfl, hb2⟩
      have hrow2 := HR2.out.kept hb2
      obtain ⟨g, off, ys, Fk, hge, hrd, hel, hFk, hcl, hput⟩ := hrow2.open (HAT.out k hkl)
      cases hge
      rw [show rLink.size = 2 from rfl] at hel hcl hput
      simp only [Nat.zero_add] at hel hput
      have ee := rLink_rd hrd
      subst ee
      have d0 := hel.cell 0 rfl
      have f0 := hel.free 0 (by decide)
      have d1 := hel.cell 1 rfl
      have f1 := hel.free 1 (by decide)
      simp only [Nat.zero_add, Nat.add_zero] at d0 f0 d1 f1
      have hs0 := hel.set 0 (by decide) (.int .u8 (x.In.toNat : Int))
      simp only [List.set, Nat.zero_add, Nat.add_zero] at hs0
      have hs1 := hs0.set 1 (by decide) (.int .u8 (x.Out.toNat : Int))
      simp only [List.set, Nat.zero_add, Nat.add_zero] at hs1
      have HBB := Lib.hid (((HBE.out.trans (hb2.mono HBE.out.size)).setCell (p := ⟨w.heap.size, k * 2, none⟩) (Nat.le_refl _) (.int .u8 (x.In.toNat : Int))).setCell (p := ⟨w.heap.size, k * 2 + 1, none⟩) (Nat.le_refl _) (.int .u8 (x.Out.toNat : Int)))
      have HNEW := Lib.hid ((hput _ _ x (fun _ => False) hs1 (rLink_mk (x := x) ) (fun a h => h.elim)).mono (fun a h => h.elim (fun h => h.1) (fun h => h.elim)))
      rw [HSX.out] at HNEW
      clear hput hel hs0 hs1 hb2 hrd hFk hcl
      try clear hrow2
      go_wp2
      go_roundw
      case rel => exact ⟨k + 1, by omega, by go_num, HNEW.out, HBB.out⟩
      case measure => simp [intOf]; omega
    · obtain rfl : k = n := by omega
      rw [HA.out] at hrow
      have HRR := Lib.hid hrow
      clear hrow
      go_wp2
      go_ret
      exact HP.out _ _ HRR.out HBE.out
end Go.Proofs.YtkaihnlknncfdaaGreatDoor

/- The laws' toCandidate. -/
namespace Go.Proofs.YtkaihnlknncfdaaGreatDoor
set_option maxRecDepth 100000
open Go.RowKit Go.Sort
set_option linter.unusedVariables false
set_option linter.unusedSimpArgs false

set_option maxHeartbeats 8000000 in
theorem toCandidate_any (x : DCandidate) (F : Addr → Prop) (w : World) (v0 : Value) (hv0 : RowRd rLink false w v0 x.Links F) (hm : rCandidate.sz x ≤ 1048576) :
    Calls Tryz.prog 36 #[.agg #[v0]] w fun e w' => ∃ u0, e = .returned (.agg #[u0]) ∧ RowRd rLink true w' u0 x.Links (fun a => w.heap.size ≤ a.block) ∧ Below w.heap.size w w' := by
  have HT0 : Hid (∀ W, Below w.heap.size w W → Calls Tryz.prog 78 #[v0] W (OwnPost rLink x.Links W)) := fun W hW => toLinkS_any v0 _ F W (Nat.le_trans (by rw [rCandidate_sz]; omega) hm) (hv0.kept hW)
  clear hv0
  clear hm
  generalize x.Links = y0 at *
  go_enter Tryz.func36, Tryz.ntmps36
  go_wp2_with fail
  refine (HT0.out _ ((((Below.refl _ _).alloc (Nat.le_refl _) _).alloc (by simp) _).alloc (by simp; omega) _)).mono ?_
  rintro e w1 ⟨u0, rfl, hq0, hb0⟩
  obtain ⟨A0, cap0, rfl⟩ := hq0.form
  have HS : InC w1 w.heap.size #[v0] 49 := (hb0.block _ (by simp; omega)).trans ((Below.heap_alloc _ _ _ (by simp; omega)).trans (box1 _ _ _))
  have HR : InC w1 (w.heap.size + 1) #[.slice none 0 0] 55 := (hb0.block _ (by simp)).trans ((Below.heap_alloc _ _ _ (by simp)).trans (box2 _ _ _))
  have HO : InC w1 (w.heap.size + 1 + 1) #[.slice none 0 0] 55 := (hb0.block _ (by simp)).trans (by have := heap_alloc_new ((w.alloc (.cells #[v0] 49)).alloc (.cells #[.slice none 0 0] 55)) (.cells #[.slice none 0 0] 55); rwa [World.size_alloc, World.size_alloc] at this)
  have HB : Hid (Below w.heap.size w w1) := ((((Below.refl _ _).alloc (Nat.le_refl _) _).alloc (by simp) _).alloc (by simp; omega) _).trans (hb0.mono (by simp; omega))
  have HQ0 : Hid (RowRd rLink true w1 (.slice A0 y0.length cap0) y0 (fun a => w.heap.size ≤ a.block ∧ w.heap.size + 1 + 1 < a.block)) := hq0.mono (fun a ha => by simp at ha; omega)
  clear hb0 hq0
  have c0 := InC.cell HO 0 rfl
  have f0 := InC.free HO 0
  replace HO : InC (World.setCell w1 ⟨w.heap.size + 1 + 1, 0, none⟩ ((.slice A0 y0.length cap0))) (w.heap.size + 1 + 1) #[(.slice A0 y0.length cap0)] 55 := heap_setCell_same _ _ _ _ _ _ HO
  replace HS := InC.other HS (p := ⟨w.heap.size + 1 + 1, 0, none⟩) (by simp; omega) ((.slice A0 y0.length cap0))
  replace HR := InC.other HR (p := ⟨w.heap.size + 1 + 1, 0, none⟩) (by simp) ((.slice A0 y0.length cap0))
  replace HB := Lib.hid (HB.out.setCell (p := ⟨w.heap.size + 1 + 1, 0, none⟩) (by simp; omega) ((.slice A0 y0.length cap0)))
  replace HQ0 := Lib.hid (HQ0.out.apart (Unch.set (F := fun a => a = ⟨w.heap.size + 1 + 1, 0, none⟩) rfl ((.slice A0 y0.length cap0))) (fun a ha e => by subst e; simp at ha))
  have o0 := InC.cell HO 0 rfl
  have r0 := InC.cell HR 0 rfl
  have q0 := InC.free HR 0
  replace HR : InC (World.setCell (World.setCell w1 ⟨w.heap.size + 1 + 1, 0, none⟩ ((.slice A0 y0.length cap0))) ⟨w.heap.size + 1, 0, none⟩ ((.slice A0 y0.length cap0))) (w.heap.size + 1) #[(.slice A0 y0.length cap0)] 55 := heap_setCell_same _ _ _ _ _ _ HR
  replace HB := Lib.hid (HB.out.setCell (p := ⟨w.heap.size + 1, 0, none⟩) (by simp) ((.slice A0 y0.length cap0)))
  replace HQ0 := Lib.hid (HQ0.out.apart (Unch.set (F := fun a => a = ⟨w.heap.size + 1, 0, none⟩) rfl ((.slice A0 y0.length cap0))) (fun a ha e => by subst e; simp at ha; try omega))
  have HRR := Lib.hid HR
  clear HR HO HS
  go_wp2
  refine bodyPost_ret (v := .agg #[(.slice A0 y0.length cap0)]) (results_cell_row rfl _ _ (w.heap.size + 1) 55 _ (0, 0) _ rfl HRR.out Tryz.underlying55 rfl (by kernel_rfl)) rfl ⟨(.slice A0 y0.length cap0), rfl, HQ0.out.mono (fun a ha => ha.1), HB.out⟩
end Go.Proofs.YtkaihnlknncfdaaGreatDoor
