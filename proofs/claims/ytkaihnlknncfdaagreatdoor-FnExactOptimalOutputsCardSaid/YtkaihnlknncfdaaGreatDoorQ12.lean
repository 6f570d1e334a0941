/- Merged: TtCandidateS TtIntS TtIntSS TtTableau TeStringS TeLink TeLinkS TeCandidate TeCandidateS. -/
import Derived.Test.YtkaihnlknncfdaaGreatDoorQ1
import Derived.Test.YtkaihnlknncfdaaGreatDoorQ11
import Derived.WalkKit
import Derived.BigQuiet
import Derived.Lib.QuietBelow
import Derived.Test.YtkaihnlknncfdaaGreatDoorRows
import Derived.Test.YtkaihnlknncfdaaGreatDoorQ2
import Derived.Test.YtkaihnlknncfdaaGreatDoorQ5
/- The laws' toCandidateS. -/
namespace Go.Proofs.YtkaihnlknncfdaaGreatDoor
set_option maxRecDepth 100000
open Go.RowKit Go.Sort
set_option linter.unusedVariables false
set_option linter.unusedSimpArgs false

theorem Tryz.infoTCandidate : (Tryz.prog.info? 55).map (fun i => (i.zero, i.size, i.bytes)) = some (some (.agg #[.slice none 0 0]), 1, 24) := by kernel_rfl
set_option maxHeartbeats 2000000 in
theorem toCandidateS_any (v : Value) (l : List DCandidate) (F : Addr → Prop) (w : World) (hm : szRow rCandidate l ≤ 1048576) (hv : RowRd rCandidate false w v l F) :
    Calls Tryz.prog 52 #[v] w (OwnPost rCandidate l w) := by
  have hml := Nat.le_trans (szRow_len rCandidate l) hm
  obtain ⟨A, cap, rfl⟩ := hv.form
  have HV := Lib.hid hv
  have HSZ : Hid (∀ k x, l[k]? = some x → rCandidate.sz x ≤ 1048576) := fun k x h => Nat.le_trans (szRow_at _ _ _ h) hm
  clear hv hm
  have HX : Hid (∀ k, k < l.length → ∃ x, l[k]? = some x) := fun k hk => ⟨_, List.getElem?_eq_getElem hk⟩
  have H0 := Lib.hid (cpTo_zero zCandidate l)
  have HA := Lib.hid (cpTo_all zCandidate l)
  have HAT := Lib.hid (cpTo_at zCandidate l)
  have HST : Hid (∀ k x, l[k]? = some x → (cpTo zCandidate l k).set k x = cpTo zCandidate l (k + 1)) := fun k x h => cpTo_step _ _ _ h
  have HP : Hid (∀ (u : Value) (w' : World), RowRd rCandidate true w' u l (fun a => w.heap.size ≤ a.block) → Below w.heap.size w w' → OwnPost rCandidate l w (.returned u) w') := fun u w' h1 h2 => ⟨u, rfl, h1, h2⟩
  generalize hll : l.length = n at *
  clear hll
  obtain ⟨i0, hi, hz0, hz1, hz2⟩ := info_parts Tryz.infoTCandidate
  go_enter Tryz.func52, Tryz.ntmps52
  go_wp2_with (at_make; refine wpList_make_full _ rfl _ _ 30 rfl w.heap.size 55 i0 (.agg #[.slice none 0 0]) 1 Tryz.underlying30 hi hz0 hz1 .i64 .i64 _ _ n rfl rfl rfl rfl (by rw [hz2]; omega) (by unfold maxLen; omega) (Nat.le_refl _) ?_; intro w1 hown1 hgrow1)
  have hb1 : Below w.heap.size w w1 := (Below.refl _ _).grown hgrow1 (Nat.le_refl _) (fun _ h => by cases h)
  have HO1 : Hid (RowRd rCandidate true w1 (.slice (some ⟨w.heap.size, 0, none⟩) n n) (cpTo zCandidate l 0) (fun a => w.heap.size ≤ a.block)) := by
    unfold Hid
    rw [H0.out]
    rw [show (Value.cells (.agg #[.slice none 0 0])) = #[.slice none 0 0] from rfl] at hown1
    have hlr : (List.replicate n (zCandidate : DCandidate)).length = n := List.length_replicate
    refine (RowRd.of_flat (E := rCandidate) (l := List.replicate n zCandidate) (base := w.heap.size) (e := 55) (cells := (madeCells #[.slice none 0 0] (n * 1)).toList) (by rw [hlr]; exact hown1) (by rw [hlr]; omega) ?_).mono (fun a ha => ha.1)
    intro k x hk
    rw [List.getElem?_replicate] at hk
    split at hk
    · cases hk
      refine ⟨[.slice none 0 0], ?_, rCandidate_mk (x := zCandidate) (RowRd.nil _ _ _)⟩
      intro j u hj
      have hjn : j < 1 := (List.getElem?_eq_some_iff.1 hj).1
      rw [show rCandidate.size = 1 from rfl, made_at _ _ _ (by omega) (by decide), show (#[.slice none 0 0] : Array Value).size = 1 from rfl, show (k * 1 + j) % 1 = j by omega]
      simpa using hj
    · cases hk
  have HB1 := Lib.hid hb1
  clear hown1 hgrow1 hb1
  go_wp2
  go_loopw [4] (fun i wr => ∃ (k : Nat), k ≤ n ∧ i = .int .i64 k ∧ RowRd rCandidate true wr (.slice (some ⟨w.heap.size, 0, none⟩) n n) (cpTo zCandidate l k) (fun a => w.heap.size ≤ a.block) ∧ Below w.heap.size w wr) (fun i _ => n - (intOf i).toNat)
  case atStart => exact ⟨0, by omega, rfl, HO1.out, HB1.out⟩
  case round =>
    obtain ⟨k, hk, rfl, hrow, hbe⟩ := hrel
    have HBE := Lib.hid hbe
    clear hbe
    by_cases hkl : k < n
    · obtain ⟨x, hx⟩ := HX.out k hkl
      have HSX := Lib.hid (HST.out k x hx)
      have hszx := HSZ.out k x hx
      obtain ⟨sg, so, xs, Fs, rfl, _, hsr, _, hsc⟩ := (HV.out.kept HBE.out).get hx
      simp only [show rCandidate.size = 1 from rfl, Nat.mul_one] at hsc
      obtain ⟨v0, rfl, q0⟩ := rCandidate_rd hsr
      have c0 := hsc 0 _ rfl
      simp only [Nat.add_zero] at c0
      clear hsc hsr
      have hlt : w.heap.size < wr.heap.size := by
        obtain ⟨gq, oq, xq, _, hgq, hlq, _, _, hcq⟩ := hrow.get (HAT.out k hkl)
        cases hgq
        exact block_lt_of_cell (hcq 0 _ (List.getElem?_eq_getElem (by rw [hlq]; decide)))
      have hrow2 := hrow.tight
      clear hrow
      have HC := Lib.hid (toCandidate_any x Fs wr v0 q0 hszx)
      clear q0
      have HR2 := Lib.hid hrow2
      clear hrow2
      go_wp2_with fail
      refine HC.out.mono ?_
      rintro e w2 ⟨u0, rfl, hq0, hb2⟩
      obtain ⟨A0, cap0, rfl⟩ := hq0.form
      have hrow2 := HR2.out.kept hb2
      obtain ⟨g, off, ys, Fk, hge, hrd, hel, hFk, hcl, hput⟩ := hrow2.open (HAT.out k hkl)
      cases hge
      simp only [show rCandidate.size = 1 from rfl, Nat.mul_one] at hel hcl hput
      simp only [Nat.zero_add] at hel hput
      obtain ⟨_, rfl, _⟩ := rCandidate_rd hrd
      have d0 := hel.cell 0 rfl
      have f0 := hel.free 0 (by decide)
      simp only [Nat.zero_add, Nat.add_zero] at d0 f0
      have hs0 := hel.set 0 (by decide) (.slice A0 x.Links.length cap0)
      simp only [List.set, Nat.zero_add, Nat.add_zero] at hs0
      have HBB := Lib.hid ((HBE.out.trans (hb2.mono HBE.out.size)).setCell (p := ⟨w.heap.size, k, none⟩) (Nat.le_refl _) (.slice A0 x.Links.length cap0))
      replace hq0 := hq0.apart (Unch.set (F := fun a => a = ⟨w.heap.size, k, none⟩) rfl (.slice A0 x.Links.length cap0)) (fun a ha e => by subst e; exact Nat.not_le_of_lt hlt ha)
      have HNEW := Lib.hid ((hput _ _ x (fun a => wr.heap.size ≤ a.block) hs0 (rCandidate_mk (x := x) hq0) (fun a ha => Or.inr fun h => Nat.not_le_of_lt h.2 ha)).mono (fun a h => h.elim (fun h => h.1) (fun h => Nat.le_trans HBE.out.size h)))
      rw [HSX.out] at HNEW
      clear hput hel hs0 hb2 hq0 hrd hFk hcl
      try clear hrow2
      go_wp2
      go_roundw
      case rel => exact ⟨k + 1, by omega, by go_num, HNEW.out, HBB.out⟩
      case measure => simp [intOf]; omega
    · obtain rfl : k = n := by omega
      rw [HA.out] at hrow
      have HRR := Lib.hid hrow
      clear hrow
      go_wp2
      go_ret
      exact HP.out _ _ HRR.out HBE.out
end Go.Proofs.YtkaihnlknncfdaaGreatDoor

/- The laws' toIntS. -/
namespace Go.Proofs.YtkaihnlknncfdaaGreatDoor
set_option maxRecDepth 100000
open Go.RowKit Go.Sort
set_option linter.unusedVariables false
set_option linter.unusedSimpArgs false

theorem Tryz.infoTInt : (Tryz.prog.info? 3).map (fun i => (i.zero, i.size, i.bytes)) = some (some (.int .i64 0), 1, 8) := by kernel_rfl
set_option maxHeartbeats 2000000 in
theorem toIntS_any (v : Value) (l : List Int) (F : Addr → Prop) (w : World) (hm : szRow Rep.int l ≤ 1048576) (hv : RowRd Rep.int false w v l F) :
    Calls Tryz.prog 15 #[v] w (OwnPost Rep.int l w) := by
  have hml := Nat.le_trans (szRow_len Rep.int l) hm
  obtain ⟨A, cap, rfl⟩ := hv.form
  have HV := Lib.hid hv
  have HSZ : Hid (∀ k x, l[k]? = some x → Rep.int.sz x ≤ 1048576) := fun k x h => Nat.le_trans (szRow_at _ _ _ h) hm
  clear hv hm
  have HX : Hid (∀ k, k < l.length → ∃ x, l[k]? = some x) := fun k hk => ⟨_, List.getElem?_eq_getElem hk⟩
  have H0 := Lib.hid (cpTo_zero 0 l)
  have HA := Lib.hid (cpTo_all 0 l)
  have HAT := Lib.hid (cpTo_at 0 l)
  have HST : Hid (∀ k x, l[k]? = some x → (cpTo 0 l k).set k x = cpTo 0 l (k + 1)) := fun k x h => cpTo_step _ _ _ h
  have HP : Hid (∀ (u : Value) (w' : World), RowRd Rep.int true w' u l (fun a => w.heap.size ≤ a.block) → Below w.heap.size w w' → OwnPost Rep.int l w (.returned u) w') := fun u w' h1 h2 => ⟨u, rfl, h1, h2⟩
  generalize hll : l.length = n at *
  clear hll
  obtain ⟨i0, hi, hz0, hz1, hz2⟩ := info_parts Tryz.infoTInt
  go_enter Tryz.func15, Tryz.ntmps15
  go_wp2_with (at_make; refine wpList_make_full _ rfl _ _ 27 rfl w.heap.size 3 i0 (.int .i64 0) 1 Tryz.underlying27 hi hz0 hz1 .i64 .i64 _ _ n rfl rfl rfl rfl (by rw [hz2]; omega) (by unfold maxLen; omega) (Nat.le_refl _) ?_; intro w1 hown1 hgrow1)
  have hb1 : Below w.heap.size w w1 := (Below.refl _ _).grown hgrow1 (Nat.le_refl _) (fun _ h => by cases h)
  have HO1 : Hid (RowRd Rep.int true w1 (.slice (some ⟨w.heap.size, 0, none⟩) n n) (cpTo 0 l 0) (fun a => w.heap.size ≤ a.block)) := by
    unfold Hid
    rw [H0.out]
    rw [show (Value.cells (.int .i64 0)) = #[.int .i64 0] from rfl] at hown1
    have hlr : (List.replicate n (0 : Int)).length = n := List.length_replicate
    refine (RowRd.of_flat (E := Rep.int) (l := List.replicate n 0) (base := w.heap.size) (e := 3) (cells := (madeCells #[.int .i64 0] (n * 1)).toList) (by rw [hlr]; exact hown1) (by rw [hlr]; omega) ?_).mono (fun a ha => ha.1)
    intro k x hk
    rw [List.getElem?_replicate] at hk
    split at hk
    · cases hk
      refine ⟨[.int .i64 0], ?_, ⟨rfl, by unfold I64; omega⟩⟩
      intro j u hj
      have hjn : j < 1 := (List.getElem?_eq_some_iff.1 hj).1
      rw [show Rep.int.size = 1 from rfl, made_at _ _ _ (by omega) (by decide), show (#[.int .i64 0] : Array Value).size = 1 from rfl, show (k * 1 + j) % 1 = j by omega]
      simpa using hj
    · cases hk
  have HB1 := Lib.hid hb1
  clear hown1 hgrow1 hb1
  go_wp2
  go_loopw [4] (fun i wr => ∃ (k : Nat), k ≤ n ∧ i = .int .i64 k ∧ RowRd Rep.int true wr (.slice (some ⟨w.heap.size, 0, none⟩) n n) (cpTo 0 l k) (fun a => w.heap.size ≤ a.block) ∧ Below w.heap.size w wr) (fun i _ => n - (intOf i).toNat)
  case atStart => exact ⟨0, by omega, rfl, HO1.out, HB1.out⟩
  case round =>
    obtain ⟨k, hk, rfl, hrow, hbe⟩ := hrel
    have HBE := Lib.hid hbe
    clear hbe
    by_cases hkl : k < n
    · obtain ⟨x, hx⟩ := HX.out k hkl
      have HSX := Lib.hid (HST.out k x hx)
      have hszx := HSZ.out k x hx
      obtain ⟨sg, so, xs, Fs, rfl, _, hsr, _, hsc⟩ := (HV.out.kept HBE.out).get hx
      simp only [show Rep.int.size = 1 from rfl, Nat.mul_one] at hsc
      obtain ⟨rfl, i0'⟩ := id hsr
      have c0 := hsc 0 _ rfl
      simp only [Nat.add_zero] at c0
      clear hsc hsr
      have hrow2 := hrow.tight
      clear hrow
      obtain ⟨g, off, ys, Fk, hge, hrd, hel, hFk, hcl, hput⟩ := hrow2.open (HAT.out k hkl)
      cases hge
      simp only [show Rep.int.size = 1 from rfl, Nat.mul_one] at hel hcl hput
      simp only [Nat.zero_add] at hel hput
      obtain ⟨rfl, _⟩ := id hrd
      have d0 := hel.cell 0 rfl
      have f0 := hel.free 0 (by decide)
      simp only [Nat.zero_add, Nat.add_zero] at d0 f0
      have hs0 := hel.set 0 (by decide) (.int .i64 x)
      simp only [List.set, Nat.zero_add, Nat.add_zero] at hs0
      have HBB := Lib.hid (HBE.out.setCell (p := ⟨w.heap.size, k, none⟩) (Nat.le_refl _) (.int .i64 x))
      have HNEW := Lib.hid ((hput _ _ x (fun _ => False) hs0 (⟨rfl, i0'⟩) (fun a h => h.elim)).mono (fun a h => h.elim (fun h => h.1) (fun h => h.elim)))
      rw [HSX.out] at HNEW
      clear hput hel hs0 hrd hFk hcl
      try clear hrow2
      go_wp2
      go_roundw
      case rel => exact ⟨k + 1, by omega, by go_num, HNEW.out, HBB.out⟩
      case measure => simp [intOf]; omega
    · obtain rfl : k = n := by omega
      rw [HA.out] at hrow
      have HRR := Lib.hid hrow
      clear hrow
      go_wp2
      go_ret
      exact HP.out _ _ HRR.out HBE.out
end Go.Proofs.YtkaihnlknncfdaaGreatDoor

/- The laws' toIntSS. -/
namespace Go.Proofs.YtkaihnlknncfdaaGreatDoor
set_option maxRecDepth 100000
open Go.RowKit Go.Sort
set_option linter.unusedVariables false
set_option linter.unusedSimpArgs false

theorem Tryz.infoTIntS : (Tryz.prog.info? 27).map (fun i => (i.zero, i.size, i.bytes)) = some (some (.slice none 0 0), 1, 24) := by kernel_rfl
set_option maxHeartbeats 2000000 in
theorem toIntSS_any (v : Value) (l : List (List Int)) (F : Addr → Prop) (w : World) (hm : szRow (Rep.row Rep.int) l ≤ 1048576) (hv : RowRd (Rep.row Rep.int) false w v l F) :
    Calls Tryz.prog 53 #[v] w (OwnPost (Rep.row Rep.int) l w) := by
  have hml := Nat.le_trans (szRow_len (Rep.row Rep.int) l) hm
  obtain ⟨A, cap, rfl⟩ := hv.form
  have HV := Lib.hid hv
  have HSZ : Hid (∀ k x, l[k]? = some x → (Rep.row Rep.int).sz x ≤ 1048576) := fun k x h => Nat.le_trans (szRow_at _ _ _ h) hm
  clear hv hm
  have HX : Hid (∀ k, k < l.length → ∃ x, l[k]? = some x) := fun k hk => ⟨_, List.getElem?_eq_getElem hk⟩
  have H0 := Lib.hid (cpTo_zero [] l)
  have HA := Lib.hid (cpTo_all [] l)
  have HAT := Lib.hid (cpTo_at [] l)
  have HST : Hid (∀ k x, l[k]? = some x → (cpTo [] l k).set k x = cpTo [] l (k + 1)) := fun k x h => cpTo_step _ _ _ h
  have HP : Hid (∀ (u : Value) (w' : World), RowRd (Rep.row Rep.int) true w' u l (fun a => w.heap.size ≤ a.block) → Below w.heap.size w w' → OwnPost (Rep.row Rep.int) l w (.returned u) w') := fun u w' h1 h2 => ⟨u, rfl, h1, h2⟩
  generalize hll : l.length = n at *
  clear hll
  obtain ⟨i0, hi, hz0, hz1, hz2⟩ := info_parts Tryz.infoTIntS
  go_enter Tryz.func53, Tryz.ntmps53
  go_wp2_with (at_make; refine wpList_make_full _ rfl _ _ 24 rfl w.heap.size 27 i0 (.slice none 0 0) 1 Tryz.underlying24 hi hz0 hz1 .i64 .i64 _ _ n rfl rfl rfl rfl (by rw [hz2]; omega) (by unfold maxLen; omega) (Nat.le_refl _) ?_; intro w1 hown1 hgrow1)
  have hb1 : Below w.heap.size w w1 := (Below.refl _ _).grown hgrow1 (Nat.le_refl _) (fun _ h => by cases h)
  have HO1 : Hid (RowRd (Rep.row Rep.int) true w1 (.slice (some ⟨w.heap.size, 0, none⟩) n n) (cpTo [] l 0) (fun a => w.heap.size ≤ a.block)) := by
    unfold Hid
    rw [H0.out]
    rw [show (Value.cells (.slice none 0 0)) = #[.slice none 0 0] from rfl] at hown1
    have hlr : (List.replicate n ([] : (List Int))).length = n := List.length_replicate
    refine (RowRd.of_flat (E := (Rep.row Rep.int)) (l := List.replicate n []) (base := w.heap.size) (e := 27) (cells := (madeCells #[.slice none 0 0] (n * 1)).toList) (by rw [hlr]; exact hown1) (by rw [hlr]; omega) ?_).mono (fun a ha => ha.1)
    intro k x hk
    rw [List.getElem?_replicate] at hk
    split at hk
    · cases hk
      refine ⟨[.slice none 0 0], ?_, ⟨_, rfl, RowRd.nil _ _ _⟩⟩
      intro j u hj
      have hjn : j < 1 := (List.getElem?_eq_some_iff.1 hj).1
      rw [show (Rep.row Rep.int).size = 1 from rfl, made_at _ _ _ (by omega) (by decide), show (#[.slice none 0 0] : Array Value).size = 1 from rfl, show (k * 1 + j) % 1 = j by omega]
      simpa using hj
    · cases hk
  have HB1 := Lib.hid hb1
  clear hown1 hgrow1 hb1
  go_wp2
  go_loopw [4] (fun i wr => ∃ (k : Nat), k ≤ n ∧ i = .int .i64 k ∧ RowRd (Rep.row Rep.int) true wr (.slice (some ⟨w.heap.size, 0, none⟩) n n) (cpTo [] l k) (fun a => w.heap.size ≤ a.block) ∧ Below w.heap.size w wr) (fun i _ => n - (intOf i).toNat)
  case atStart => exact ⟨0, by omega, rfl, HO1.out, HB1.out⟩
  case round =>
    obtain ⟨k, hk, rfl, hrow, hbe⟩ := hrel
    have HBE := Lib.hid hbe
    clear hbe
    by_cases hkl : k < n
    · obtain ⟨x, hx⟩ := HX.out k hkl
      have HSX := Lib.hid (HST.out k x hx)
      have hszx := HSZ.out k x hx
      obtain ⟨sg, so, xs, Fs, rfl, _, hsr, _, hsc⟩ := (HV.out.kept HBE.out).get hx
      simp only [show (Rep.row Rep.int).size = 1 from rfl, Nat.mul_one] at hsc
      obtain ⟨v0, rfl, q0⟩ := id hsr
      have c0 := hsc 0 _ rfl
      simp only [Nat.add_zero] at c0
      clear hsc hsr
      have hlt : w.heap.size < wr.heap.size := by
        obtain ⟨gq, oq, xq, _, hgq, hlq, _, _, hcq⟩ := hrow.get (HAT.out k hkl)
        cases hgq
        exact block_lt_of_cell (hcq 0 _ (List.getElem?_eq_getElem (by rw [hlq]; decide)))
      have hrow2 := hrow.tight
      clear hrow
      have HC := Lib.hid (toIntS_any v0 x Fs wr hszx q0)
      clear q0
      have HR2 := Lib.hid hrow2
      clear hrow2
      go_wp2_with fail
      refine HC.out.mono ?_
      rintro e w2 ⟨u0, rfl, hq0, hb2⟩
      obtain ⟨A0, cap0, rfl⟩ := hq0.form
      have hrow2 := HR2.out.kept hb2
      obtain ⟨g, off, ys, Fk, hge, hrd, hel, hFk, hcl, hput⟩ := hrow2.open (HAT.out k hkl)
      cases hge
      simp only [show (Rep.row Rep.int).size = 1 from rfl, Nat.mul_one] at hel hcl hput
      simp only [Nat.zero_add] at hel hput
      obtain ⟨_, rfl, _⟩ := id hrd
      have d0 := hel.cell 0 rfl
      have f0 := hel.free 0 (by decide)
      simp only [Nat.zero_add, Nat.add_zero] at d0 f0
      have hs0 := hel.set 0 (by decide) (.slice A0 x.length cap0)
      simp only [List.set, Nat.zero_add, Nat.add_zero] at hs0
      have HBB := Lib.hid ((HBE.out.trans (hb2.mono HBE.out.size)).setCell (p := ⟨w.heap.size, k, none⟩) (Nat.le_refl _) (.slice A0 x.length cap0))
      replace hq0 := hq0.apart (Unch.set (F := fun a => a = ⟨w.heap.size, k, none⟩) rfl (.slice A0 x.length cap0)) (fun a ha e => by subst e; exact Nat.not_le_of_lt hlt ha)
      have HNEW := Lib.hid ((hput _ _ x (fun a => wr.heap.size ≤ a.block) hs0 (⟨_, rfl, hq0⟩) (fun a ha => Or.inr fun h => Nat.not_le_of_lt h.2 ha)).mono (fun a h => h.elim (fun h => h.1) (fun h => Nat.le_trans HBE.out.size h)))
      rw [HSX.out] at HNEW
      clear hput hel hs0 hb2 hq0 hrd hFk hcl
      try clear hrow2
      go_wp2
      go_roundw
      case rel => exact ⟨k + 1, by omega, by go_num, HNEW.out, HBB.out⟩
      case measure => simp [intOf]; omega
    · obtain rfl : k = n := by omega
      rw [HA.out] at hrow
      have HRR := Lib.hid hrow
      clear hrow
      go_wp2
      go_ret
      exact HP.out _ _ HRR.out HBE.out
end Go.Proofs.YtkaihnlknncfdaaGreatDoor

/- The laws' toTableau. -/
namespace Go.Proofs.YtkaihnlknncfdaaGreatDoor
set_option maxRecDepth 100000
open Go.RowKit Go.Sort M
set_option linter.unusedVariables false
set_option linter.unusedSimpArgs false

/-- It answers with a table of its own. -/
def TabPost (x : DTableau) (w : World) (e : Ending) (w' : World) : Prop :=
  ∃ A1 c1 A2 c2 A3 c3 F1 F2 F3, e = .returned (.agg #[.string x.Input, .slice A1 x.Names.length c1, .slice A2 x.Rows.length c2, .slice A3 x.Marks.length c3]) ∧ TabRd true w' (.slice A1 x.Names.length c1) (.slice A2 x.Rows.length c2) (.slice A3 x.Marks.length c3) x F1 F2 F3 ∧
    (∀ a, F1 a ∨ F2 a ∨ F3 a → w.heap.size ≤ a.block ∧ a.block < w'.heap.size) ∧ Below w.heap.size w w'
set_option maxHeartbeats 8000000 in
theorem toTableau_any (x : DTableau) (v1 v2 v3 : Value) (F1 F2 F3 : Addr → Prop) (w : World) (hm : rTableau.sz x ≤ 1048576) (hv : TabRd false w v1 v2 v3 x F1 F2 F3) :
    Calls Tryz.prog 14 #[.agg #[.string x.Input, v1, v2, v3]] w (TabPost x w) := by
  have hinp := hv.inp
  rw [rTableau_sz] at hm
  have HT1 : Hid (∀ W, Below w.heap.size w W → Calls Tryz.prog 35 #[v1] W (OwnPostS x.Names W)) := fun W hW => toStringS_any v1 _ F1 W (by omega) (hv.names.kept hW)
  have HT2 : Hid (∀ W, Below w.heap.size w W → Calls Tryz.prog 52 #[v2] W (OwnPost rCandidate x.Rows W)) := fun W hW => toCandidateS_any v2 _ F2 W (by omega) (hv.rows.kept hW)
  have HT3 : Hid (∀ W, Below w.heap.size w W → Calls Tryz.prog 53 #[v3] W (OwnPost (Rep.row Rep.int) x.Marks W)) := fun W hW => toIntSS_any v3 _ F3 W (by omega) (hv.marks.kept hW)
  have HI := Lib.hid hinp
  clear hv hm hinp
  unfold TabPost
  obtain ⟨y0, y1, y2, y3⟩ := x
  simp only at *
  go_enter Tryz.func14, Tryz.ntmps14
  have HBA : Hid (Below w.heap.size w (((w.alloc (.cells #[.string y0, v1, v2, v3] 26)).alloc (.cells #[.string ⟨#[]⟩, .slice none 0 0, .slice none 0 0, .slice none 0 0] 32)).alloc (.cells #[.string y0, .slice none 0 0, .slice none 0 0, .slice none 0 0] 32))) := (((Below.refl _ _).alloc (Nat.le_refl _) _).alloc (by simp) _).alloc (by simp; omega) _
  have HSA : Hid (InC (((w.alloc (.cells #[.string y0, v1, v2, v3] 26)).alloc (.cells #[.string ⟨#[]⟩, .slice none 0 0, .slice none 0 0, .slice none 0 0] 32)).alloc (.cells #[.string y0, .slice none 0 0, .slice none 0 0, .slice none 0 0] 32)) w.heap.size #[.string y0, v1, v2, v3] 26) := (Below.heap_alloc _ _ _ (by simp; omega)).trans (box1 _ _ _)
  have HRA : Hid (InC (((w.alloc (.cells #[.string y0, v1, v2, v3] 26)).alloc (.cells #[.string ⟨#[]⟩, .slice none 0 0, .slice none 0 0, .slice none 0 0] 32)).alloc (.cells #[.string y0, .slice none 0 0, .slice none 0 0, .slice none 0 0] 32)) (w.heap.size + 1) #[.string ⟨#[]⟩, .slice none 0 0, .slice none 0 0, .slice none 0 0] 32) := (Below.heap_alloc _ _ _ (by simp)).trans (box2 _ _ _)
  have HOA : Hid (InC (((w.alloc (.cells #[.string y0, v1, v2, v3] 26)).alloc (.cells #[.string ⟨#[]⟩, .slice none 0 0, .slice none 0 0, .slice none 0 0] 32)).alloc (.cells #[.string y0, .slice none 0 0, .slice none 0 0, .slice none 0 0] 32)) (w.heap.size + 1 + 1) #[.string y0, .slice none 0 0, .slice none 0 0, .slice none 0 0] 32) := by unfold Hid InC; have := heap_alloc_new ((w.alloc (.cells #[.string y0, v1, v2, v3] 26)).alloc (.cells #[.string ⟨#[]⟩, .slice none 0 0, .slice none 0 0, .slice none 0 0] 32)) (.cells #[.string y0, .slice none 0 0, .slice none 0 0, .slice none 0 0] 32); rwa [World.size_alloc, World.size_alloc] at this
  go_wp2_with fail
  refine (HT1.out _ HBA.out).mono ?_
  rintro e w1 ⟨A1, rfl, hq1, hb1⟩
  obtain ⟨c1, hc1⟩ : ∃ c, y1.length = c := ⟨_, rfl⟩
  have hlo1 := HBA.out.size
  have hgt1 := HOA.out.lt
  have HQ1 := Lib.hid hq1.tight
  have HB1 : Hid (Below w.heap.size w w1) := below_step HBA.out hb1
  have hs1 := hb1.size
  have HS1 := Lib.hid (HSA.out.kept hb1)
  have HR1 := Lib.hid (HRA.out.kept hb1)
  have HO1 := Lib.hid (HOA.out.kept hb1)
  have f1 := HO1.out.free 1
  have o1 := HO1.out.cell 1 rfl
  have HOs1 : Hid (InC (w1.setCell ⟨w.heap.size + 1 + 1, 1, none⟩ (.slice A1 y1.length y1.length)) (w.heap.size + 1 + 1) #[.string y0, .slice A1 y1.length y1.length, .slice none 0 0, .slice none 0 0] 32) := heap_setCell_same _ _ _ _ _ _ HO1.out
  have HSs1 : Hid (InC (w1.setCell ⟨w.heap.size + 1 + 1, 1, none⟩ (.slice A1 y1.length y1.length)) w.heap.size #[.string y0, v1, v2, v3] 26) := HS1.out.other (p := ⟨w.heap.size + 1 + 1, 1, none⟩) (by simp; omega) (.slice A1 y1.length y1.length)
  have HRs1 : Hid (InC (w1.setCell ⟨w.heap.size + 1 + 1, 1, none⟩ (.slice A1 y1.length y1.length)) (w.heap.size + 1) #[.string ⟨#[]⟩, .slice none 0 0, .slice none 0 0, .slice none 0 0] 32) := HR1.out.other (p := ⟨w.heap.size + 1 + 1, 1, none⟩) (by simp) (.slice A1 y1.length y1.length)
  have HBs1 : Hid (Below w.heap.size w (w1.setCell ⟨w.heap.size + 1 + 1, 1, none⟩ (.slice A1 y1.length y1.length))) := HB1.out.setCell (p := ⟨w.heap.size + 1 + 1, 1, none⟩) (by simp; omega) (.slice A1 y1.length y1.length)
  replace HQ1 := Lib.hid (HQ1.out.apart (Unch.set (F := fun a => a = ⟨w.heap.size + 1 + 1, 1, none⟩) rfl (.slice A1 y1.length y1.length)) (fun a ha e => by subst e; simp at ha; omega))
  have s2 := HSs1.out.cell 2 rfl
  clear hb1 hq1
  clear hc1 c1
  go_wp2_with fail
  refine (HT2.out _ HBs1.out).mono ?_
  rintro e w2 ⟨u2, rfl, hq2, hb2⟩
  obtain ⟨A2, c2, rfl⟩ := hq2.form
  have hlo2 := HBs1.out.size
  have hgt2 := HOs1.out.lt
  have HQ2 := Lib.hid hq2.tight
  have HB2 : Hid (Below w.heap.size w w2) := below_step HBs1.out hb2
  have hs2 := hb2.size
  have HS2 := Lib.hid (HSs1.out.kept hb2)
  have HR2 := Lib.hid (HRs1.out.kept hb2)
  have HO2 := Lib.hid (HOs1.out.kept hb2)
  replace HQ1 := Lib.hid (HQ1.out.kept hb2)
  have f2 := HO2.out.free 2
  have o2 := HO2.out.cell 2 rfl
  have HOs2 : Hid (InC (w2.setCell ⟨w.heap.size + 1 + 1, 2, none⟩ (.slice A2 y2.length c2)) (w.heap.size + 1 + 1) #[.string y0, .slice A1 y1.length y1.length, .slice A2 y2.length c2, .slice none 0 0] 32) := heap_setCell_same _ _ _ _ _ _ HO2.out
  have HSs2 : Hid (InC (w2.setCell ⟨w.heap.size + 1 + 1, 2, none⟩ (.slice A2 y2.length c2)) w.heap.size #[.string y0, v1, v2, v3] 26) := HS2.out.other (p := ⟨w.heap.size + 1 + 1, 2, none⟩) (by simp; omega) (.slice A2 y2.length c2)
  have HRs2 : Hid (InC (w2.setCell ⟨w.heap.size + 1 + 1, 2, none⟩ (.slice A2 y2.length c2)) (w.heap.size + 1) #[.string ⟨#[]⟩, .slice none 0 0, .slice none 0 0, .slice none 0 0] 32) := HR2.out.other (p := ⟨w.heap.size + 1 + 1, 2, none⟩) (by simp) (.slice A2 y2.length c2)
  have HBs2 : Hid (Below w.heap.size w (w2.setCell ⟨w.heap.size + 1 + 1, 2, none⟩ (.slice A2 y2.length c2))) := HB2.out.setCell (p := ⟨w.heap.size + 1 + 1, 2, none⟩) (by simp; omega) (.slice A2 y2.length c2)
  replace HQ1 := Lib.hid (HQ1.out.apart (Unch.set (F := fun a => a = ⟨w.heap.size + 1 + 1, 2, none⟩) rfl (.slice A2 y2.length c2)) (fun a ha e => by subst e; simp at ha; omega))
  replace HQ2 := Lib.hid (HQ2.out.apart (Unch.set (F := fun a => a = ⟨w.heap.size + 1 + 1, 2, none⟩) rfl (.slice A2 y2.length c2)) (fun a ha e => by subst e; simp at ha; omega))
  have s3 := HSs2.out.cell 3 rfl
  clear hb2 hq2 s2
  go_wp2_with fail
  refine (HT3.out _ HBs2.out).mono ?_
  rintro e w3 ⟨u3, rfl, hq3, hb3⟩
  obtain ⟨A3, c3, rfl⟩ := hq3.form
  have hlo3 := HBs2.out.size
  have hgt3 := HOs2.out.lt
  have HQ3 := Lib.hid hq3.tight
  have HB3 : Hid (Below w.heap.size w w3) := below_step HBs2.out hb3
  have hs3 := hb3.size
  have HS3 := Lib.hid (HSs2.out.kept hb3)
  have HR3 := Lib.hid (HRs2.out.kept hb3)
  have HO3 := Lib.hid (HOs2.out.kept hb3)
  replace HQ1 := Lib.hid (HQ1.out.kept hb3)
  replace HQ2 := Lib.hid (HQ2.out.kept hb3)
  have f3 := HO3.out.free 3
  have o3 := HO3.out.cell 3 rfl
  have HOs3 : Hid (InC (w3.setCell ⟨w.heap.size + 1 + 1, 3, none⟩ (.slice A3 y3.length c3)) (w.heap.size + 1 + 1) #[.string y0, .slice A1 y1.length y1.length, .slice A2 y2.length c2, .slice A3 y3.length c3] 32) := heap_setCell_same _ _ _ _ _ _ HO3.out
  have HSs3 : Hid (InC (w3.setCell ⟨w.heap.size + 1 + 1, 3, none⟩ (.slice A3 y3.length c3)) w.heap.size #[.string y0, v1, v2, v3] 26) := HS3.out.other (p := ⟨w.heap.size + 1 + 1, 3, none⟩) (by simp; omega) (.slice A3 y3.length c3)
  have HRs3 : Hid (InC (w3.setCell ⟨w.heap.size + 1 + 1, 3, none⟩ (.slice A3 y3.length c3)) (w.heap.size + 1) #[.string ⟨#[]⟩, .slice none 0 0, .slice none 0 0, .slice none 0 0] 32) := HR3.out.other (p := ⟨w.heap.size + 1 + 1, 3, none⟩) (by simp) (.slice A3 y3.length c3)
  have HBs3 : Hid (Below w.heap.size w (w3.setCell ⟨w.heap.size + 1 + 1, 3, none⟩ (.slice A3 y3.length c3))) := HB3.out.setCell (p := ⟨w.heap.size + 1 + 1, 3, none⟩) (by simp; omega) (.slice A3 y3.length c3)
  replace HQ1 := Lib.hid (HQ1.out.apart (Unch.set (F := fun a => a = ⟨w.heap.size + 1 + 1, 3, none⟩) rfl (.slice A3 y3.length c3)) (fun a ha e => by subst e; simp at ha; omega))
  replace HQ2 := Lib.hid (HQ2.out.apart (Unch.set (F := fun a => a = ⟨w.heap.size + 1 + 1, 3, none⟩) rfl (.slice A3 y3.length c3)) (fun a ha e => by subst e; simp at ha; omega))
  replace HQ3 := Lib.hid (HQ3.out.apart (Unch.set (F := fun a => a = ⟨w.heap.size + 1 + 1, 3, none⟩) rfl (.slice A3 y3.length c3)) (fun a ha e => by subst e; simp at ha; omega))
  clear hb3 hq3 s3
  clear HT1 HS1 HR1 HO1 HT2 HS2 HR2 HO2 HT3 HS3 HR3 HO3
  have p0 := HOs3.out.cell 0 rfl
  have p1 := HOs3.out.cell 1 rfl
  have p2 := HOs3.out.cell 2 rfl
  have p3 := HOs3.out.cell 3 rfl
  have r0 := HRs3.out.cell 0 rfl
  have q0 := HRs3.out.free 0
  have r1 := HRs3.out.cell 1 rfl
  have q1 := HRs3.out.free 1
  have r2 := HRs3.out.cell 2 rfl
  have q2 := HRs3.out.free 2
  have r3 := HRs3.out.cell 3 rfl
  have q3 := HRs3.out.free 3
  have HRt0 : Hid (InC ((w3.setCell ⟨w.heap.size + 1 + 1, 3, none⟩ (.slice A3 y3.length c3)).setCell ⟨w.heap.size + 1, 0, none⟩ (.string y0)) (w.heap.size + 1) #[.string y0, .slice none 0 0, .slice none 0 0, .slice none 0 0] 32) := heap_setCell_same _ _ _ _ _ _ HRs3.out
  have HBt0 := Lib.hid (HBs3.out.setCell (p := ⟨w.heap.size + 1, 0, none⟩) (by simp) (.string y0))
  replace HQ1 := Lib.hid (HQ1.out.apart (Unch.set (F := fun a => a = ⟨w.heap.size + 1, 0, none⟩) rfl (.string y0)) (fun a ha e => by subst e; simp at ha; omega))
  replace HQ2 := Lib.hid (HQ2.out.apart (Unch.set (F := fun a => a = ⟨w.heap.size + 1, 0, none⟩) rfl (.string y0)) (fun a ha e => by subst e; simp at ha; omega))
  replace HQ3 := Lib.hid (HQ3.out.apart (Unch.set (F := fun a => a = ⟨w.heap.size + 1, 0, none⟩) rfl (.string y0)) (fun a ha e => by subst e; simp at ha; omega))
  have HRt1 : Hid (InC (((w3.setCell ⟨w.heap.size + 1 + 1, 3, none⟩ (.slice A3 y3.length c3)).setCell ⟨w.heap.size + 1, 0, none⟩ (.string y0)).setCell ⟨w.heap.size + 1, 1, none⟩ (.slice A1 y1.length y1.length)) (w.heap.size + 1) #[.string y0, .slice A1 y1.length y1.length, .slice none 0 0, .slice none 0 0] 32) := heap_setCell_same _ _ _ _ _ _ HRt0.out
  have HBt1 := Lib.hid (HBt0.out.setCell (p := ⟨w.heap.size + 1, 1, none⟩) (by simp) (.slice A1 y1.length y1.length))
  replace HQ1 := Lib.hid (HQ1.out.apart (Unch.set (F := fun a => a = ⟨w.heap.size + 1, 1, none⟩) rfl (.slice A1 y1.length y1.length)) (fun a ha e => by subst e; simp at ha; omega))
  replace HQ2 := Lib.hid (HQ2.out.apart (Unch.set (F := fun a => a = ⟨w.heap.size + 1, 1, none⟩) rfl (.slice A1 y1.length y1.length)) (fun a ha e => by subst e; simp at ha; omega))
  replace HQ3 := Lib.hid (HQ3.out.apart (Unch.set (F := fun a => a = ⟨w.heap.size + 1, 1, none⟩) rfl (.slice A1 y1.length y1.length)) (fun a ha e => by subst e; simp at ha; omega))
  have HRt2 : Hid (InC ((((w3.setCell ⟨w.heap.size + 1 + 1, 3, none⟩ (.slice A3 y3.length c3)).setCell ⟨w.heap.size + 1, 0, none⟩ (.string y0)).setCell ⟨w.heap.size + 1, 1, none⟩ (.slice A1 y1.length y1.length)).setCell ⟨w.heap.size + 1, 2, none⟩ (.slice A2 y2.length c2)) (w.heap.size + 1) #[.string y0, .slice A1 y1.length y1.length, .slice A2 y2.length c2, .slice none 0 0] 32) := heap_setCell_same _ _ _ _ _ _ HRt1.out
  have HBt2 := Lib.hid (HBt1.out.setCell (p := ⟨w.heap.size + 1, 2, none⟩) (by simp) (.slice A2 y2.length c2))
  replace HQ1 := Lib.hid (HQ1.out.apart (Unch.set (F := fun a => a = ⟨w.heap.size + 1, 2, none⟩) rfl (.slice A2 y2.length c2)) (fun a ha e => by subst e; simp at ha; omega))
  replace HQ2 := Lib.hid (HQ2.out.apart (Unch.set (F := fun a => a = ⟨w.heap.size + 1, 2, none⟩) rfl (.slice A2 y2.length c2)) (fun a ha e => by subst e; simp at ha; omega))
  replace HQ3 := Lib.hid (HQ3.out.apart (Unch.set (F := fun a => a = ⟨w.heap.size + 1, 2, none⟩) rfl (.slice A2 y2.length c2)) (fun a ha e => by subst e; simp at ha; omega))
  have HRt3 : Hid (InC (((((w3.setCell ⟨w.heap.size + 1 + 1, 3, none⟩ (.slice A3 y3.length c3)).setCell ⟨w.heap.size + 1, 0, none⟩ (.string y0)).setCell ⟨w.heap.size + 1, 1, none⟩ (.slice A1 y1.length y1.length)).setCell ⟨w.heap.size + 1, 2, none⟩ (.slice A2 y2.length c2)).setCell ⟨w.heap.size + 1, 3, none⟩ (.slice A3 y3.length c3)) (w.heap.size + 1) #[.string y0, .slice A1 y1.length y1.length, .slice A2 y2.length c2, .slice A3 y3.length c3] 32) := heap_setCell_same _ _ _ _ _ _ HRt2.out
  have HBt3 := Lib.hid (HBt2.out.setCell (p := ⟨w.heap.size + 1, 3, none⟩) (by simp) (.slice A3 y3.length c3))
  replace HQ1 := Lib.hid (HQ1.out.apart (Unch.set (F := fun a => a = ⟨w.heap.size + 1, 3, none⟩) rfl (.slice A3 y3.length c3)) (fun a ha e => by subst e; simp at ha; omega))
  replace HQ2 := Lib.hid (HQ2.out.apart (Unch.set (F := fun a => a = ⟨w.heap.size + 1, 3, none⟩) rfl (.slice A3 y3.length c3)) (fun a ha e => by subst e; simp at ha; omega))
  replace HQ3 := Lib.hid (HQ3.out.apart (Unch.set (F := fun a => a = ⟨w.heap.size + 1, 3, none⟩) rfl (.slice A3 y3.length c3)) (fun a ha e => by subst e; simp at ha; omega))
  have HF : Hid (w.heap.size ≤ w1.heap.size ∧ w1.heap.size ≤ w2.heap.size ∧ w2.heap.size ≤ w3.heap.size) := by
    have := HB1.out.size
    simp at hs2 hs3
    refine ⟨by omega, by omega, by omega⟩
  clear HRs1 HRs2 HOs1 HOs2 HSs1 HSs2 HSs3 HSA HRA HOA
  go_wp2
  refine bodyPost_ret (v := .agg #[.string y0, .slice A1 y1.length y1.length, .slice A2 y2.length c2, .slice A3 y3.length c3]) (results_cell_row rfl _ _ (w.heap.size + 1) 32 _ (0, 0) _ rfl HRt3.out Tryz.underlying32 rfl (by kernel_rfl)) rfl ?_
  refine ⟨A1, y1.length, A2, c2, A3, c3, _, _, _, rfl, ⟨HI.out, HQ1.out, HQ2.out, HQ3.out, fun _ a h1 h2 => ?_, fun _ a h1 h2 => ?_, fun _ a h1 h2 => ?_⟩, fun a ha => ?_, HBt3.out⟩
  all_goals (have hf := HF.out)
  · simp at h1 h2; omega
  · simp at h1 h2; omega
  · simp at h1 h2; omega
  · simp at ha ⊢; rcases ha with ha | ha | ha <;> omega
end Go.Proofs.YtkaihnlknncfdaaGreatDoor

/- The laws' eqStringS. -/
namespace Go.Proofs.YtkaihnlknncfdaaGreatDoor
set_option maxRecDepth 100000
open Go.RowKit Go.Sort
set_option linter.unusedVariables false
set_option linter.unusedSimpArgs false

set_option maxHeartbeats 1000000 in
theorem eqStrs_any (v u : Value) (l : List ByteArray) (F G : Addr → Prop) (w : World) (hv : RowRd (Rep.str mkT) false w v l F) (hu : RowRd (Rep.str mkT) false w u l G) :
    Calls Tryz.prog 24 #[v, u] w fun e w' => e = .returned (.bool true) ∧ Below w.heap.size w w' := by
  obtain ⟨A, cap, rfl⟩ := hv.form
  obtain ⟨A2, cap2, rfl⟩ := hu.form
  have hmx := hv.max
  have HV := Lib.hid hv
  have HU := Lib.hid hu
  clear hv hu
  have HX : Hid (∀ k, k < l.length → ∃ x, l[k]? = some x) := fun k hk => ⟨_, List.getElem?_eq_getElem hk⟩
  generalize hll : l.length = n at *
  clear hll
  go_enter Tryz.func24, Tryz.ntmps24
  go_wp2
  go_loopw [5] (fun i wr => ∃ (k : Nat), k ≤ n ∧ i = .int .i64 k ∧ Below w.heap.size w wr) (fun i _ => n - (intOf i).toNat)
  case atStart => exact ⟨0, by omega, rfl, Below.refl _ _⟩
  case round =>
    obtain ⟨k, hk, rfl, hbe⟩ := hrel
    have HBE := Lib.hid hbe
    clear hbe
    by_cases hkl : k < n
    · obtain ⟨x, hx⟩ := HX.out k hkl
      obtain ⟨g, off, xs, Fk, rfl, _, rc, _, hc⟩ := (HV.out.kept HBE.out).get hx
      obtain ⟨g2, off2, ys, Gk, rfl, _, rd, _, hd⟩ := (HU.out.kept HBE.out).get hx
      simp only [show (Rep.str mkT).size = 1 from rfl, Nat.mul_one] at hc hd
      obtain ⟨rfl, _⟩ := id rc
      obtain ⟨rfl, _⟩ := id rd
      have c0 := hc 0 _ rfl
      have d0 := hd 0 _ rfl
      simp only [Nat.add_zero] at c0 d0
      clear hc hd rc rd hx
      go_wp2
      go_quiet (fail)
      go_wp2
      go_roundw
      case rel => exact ⟨k + 1, by omega, by go_num, ⟨HBE.out.os, HBE.out.tape, HBE.out.output, HBE.out.size, HBE.out.block⟩⟩
      case measure => simp [intOf]; omega
    · obtain rfl : k = n := by omega
      go_wp2
      go_ret
      exact ⟨rfl, HBE.out⟩
end Go.Proofs.YtkaihnlknncfdaaGreatDoor

/- The laws' eqLink. -/
namespace Go.Proofs.YtkaihnlknncfdaaGreatDoor
set_option maxRecDepth 100000
open Go.RowKit Go.Sort
set_option linter.unusedVariables false
set_option linter.unusedSimpArgs false

theorem eqLink_any (x : DLink) (F G : Addr → Prop) (w : World) :
    Calls Tryz.prog 129 #[.agg #[.int .u8 (x.In.toNat : Int), .int .u8 (x.Out.toNat : Int)], .agg #[.int .u8 (x.In.toNat : Int), .int .u8 (x.Out.toNat : Int)]] w fun e w' => e = .returned (.bool true) ∧ Below w.heap.size w w' := by
  generalize x.In = y0 at *
  generalize x.Out = y1 at *
  go_enter Tryz.func129, Tryz.ntmps129
  go_wp2
  go_ret
  exact ⟨rfl, ((Below.refl _ _).alloc (Nat.le_refl _) _).alloc (by simp) _⟩
end Go.Proofs.YtkaihnlknncfdaaGreatDoor

/- The laws' eqLinkS. -/
namespace Go.Proofs.YtkaihnlknncfdaaGreatDoor
set_option maxRecDepth 100000
open Go.RowKit Go.Sort
set_option linter.unusedVariables false
set_option linter.unusedSimpArgs false

set_option maxHeartbeats 1000000 in
theorem eqLinkS_any (v u : Value) (l : List DLink) (F G : Addr → Prop) (w : World) (hv : RowRd rLink false w v l F) (hu : RowRd rLink false w u l G) :
    Calls Tryz.prog 83 #[v, u] w fun e w' => e = .returned (.bool true) ∧ Below w.heap.size w w' := by
  obtain ⟨A, cap, rfl⟩ := hv.form
  obtain ⟨A2, cap2, rfl⟩ := hu.form
  have hmx := hv.max
  have HV := Lib.hid hv
  have HU := Lib.hid hu
  clear hv hu
  have HX : Hid (∀ k, k < l.length → ∃ x, l[k]? = some x) := fun k hk => ⟨_, List.getElem?_eq_getElem hk⟩
  generalize hll : l.length = n at *
  clear hll
  go_enter Tryz.func83, Tryz.ntmps83
  go_wp2
  go_loopw [5] (fun i wr => ∃ (k : Nat), k ≤ n ∧ i = .int .i64 k ∧ Below w.heap.size w wr) (fun i _ => n - (intOf i).toNat)
  case atStart => exact ⟨0, by omega, rfl, Below.refl _ _⟩
  case round =>
    obtain ⟨k, hk, rfl, hbe⟩ := hrel
    have HBE := Lib.hid hbe
    clear hbe
    by_cases hkl : k < n
    · obtain ⟨x, hx⟩ := HX.out k hkl
      obtain ⟨g, off, xs, Fk, rfl, _, rc, _, hc⟩ := (HV.out.kept HBE.out).get hx
      obtain ⟨g2, off2, ys, Gk, rfl, _, rd, _, hd⟩ := (HU.out.kept HBE.out).get hx
      have eec := rLink_rd rc
      subst eec
      have eed := rLink_rd rd
      subst eed
      rw [rLink_size] at hc hd
      have c0 := fun d os => cell_regrown (hc 0 _ rfl) d os
      have c1 := fun d os => cell_regrown (hc 1 _ rfl) d os
      have d0 := fun d os => cell_regrown (hd 0 _ rfl) d os
      have d1 := fun d os => cell_regrown (hd 1 _ rfl) d os
      clear hc hd
      simp only [Nat.add_zero] at c0 d0
      have cS : ∀ d os, Calls Tryz.prog 129 #[.agg #[.int .u8 (x.In.toNat : Int), .int .u8 (x.Out.toNat : Int)], .agg #[.int .u8 (x.In.toNat : Int), .int .u8 (x.Out.toNat : Int)]] (grow (redrawn wr d) os) fun e w'' => e = .returned (.bool true) ∧ ∃ p : Regrown, w'' = grow (redrawn wr p.d) p.os :=
        fun d os => Calls.regrown_of (eqLink_any x Fk Gk _)
      clear  hx
      generalize x.In = y0 at *
      generalize x.Out = y1 at *
      go_wp2
      refine wp_region_quiet_below (by kernel_rfl) (by kernel_rfl) ?_
      repeat (quiet_step (exact cS _ _))
      refine wpQuiet_nil ?_
      intro _ hw'
      obtain ⟨⟨dq, osq⟩, hw''⟩ := hw'
      subst hw''
      go_wp2
      go_roundw
      case rel => exact ⟨k + 1, by omega, by go_num, HBE.out.trans ((below_regrown wr dq osq).mono HBE.out.size)⟩
      case measure => simp [intOf]; omega
    · obtain rfl : k = n := by omega
      go_wp2
      go_ret
      exact ⟨rfl, HBE.out⟩
end Go.Proofs.YtkaihnlknncfdaaGreatDoor

/- The laws' eqCandidate. -/
namespace Go.Proofs.YtkaihnlknncfdaaGreatDoor
set_option maxRecDepth 100000
open Go.RowKit Go.Sort
set_option linter.unusedVariables false
set_option linter.unusedSimpArgs false

theorem eqCandidate_any (x : DCandidate) (F G : Addr → Prop) (w : World) (v0 u0 : Value) (hv0 : RowRd rLink false w v0 x.Links F) (hu0 : RowRd rLink false w u0 x.Links G) :
    Calls Tryz.prog 38 #[.agg #[v0], .agg #[u0]] w fun e w' => e = .returned (.bool true) ∧ Below w.heap.size w w' := by
  have HR0 : Hid (∀ W, Below w.heap.size w W → Calls Tryz.prog 83 #[v0, u0] W fun e w' => e = .returned (.bool true) ∧ Below W.heap.size W w') := fun W hW => eqLinkS_any v0 u0 _ F G W (hv0.kept hW) (hu0.kept hW)
  clear hv0 hu0
  go_enter Tryz.func38, Tryz.ntmps38
  go_wp2_with fail
  refine (HR0.out _ (((Below.refl _ _).alloc (Nat.le_refl _) _).alloc (by simp) _)).mono ?_
  rintro e w1 ⟨rfl, hb1⟩
  have HB1 : Hid (Below w.heap.size w w1) := (((Below.refl _ _).alloc (Nat.le_refl _) _).alloc (by simp) _).trans (hb1.mono (by simp; try omega))
  have hA1 : w1.heap[w.heap.size]? = some (.cells #[v0] 55 (0, 0)) := (hb1.block _ (by simp; try omega)).trans (box1 _ _ _)
  have hB1 : w1.heap[w.heap.size + 1]? = some (.cells #[u0] 55 (0, 0)) := (hb1.block _ (by simp; try omega)).trans (box2 _ _ _)
  clear hb1
  go_wp2
  go_ret
  exact ⟨rfl, HB1.out⟩
end Go.Proofs.YtkaihnlknncfdaaGreatDoor

/- The laws' eqCandidateS. -/
namespace Go.Proofs.YtkaihnlknncfdaaGreatDoor
set_option maxRecDepth 100000
open Go.RowKit Go.Sort
set_option linter.unusedVariables false
set_option linter.unusedSimpArgs false

set_option maxHeartbeats 1000000 in
theorem eqCandidateS_any (v u : Value) (l : List DCandidate) (F G : Addr → Prop) (w : World) (hv : RowRd rCandidate false w v l F) (hu : RowRd rCandidate false w u l G) :
    Calls Tryz.prog 57 #[v, u] w fun e w' => e = .returned (.bool true) ∧ Below w.heap.size w w' := by
  obtain ⟨A, cap, rfl⟩ := hv.form
  obtain ⟨A2, cap2, rfl⟩ := hu.form
  have hmx := hv.max
  have HV := Lib.hid hv
  have HU := Lib.hid hu
  clear hv hu
  have HX : Hid (∀ k, k < l.length → ∃ x, l[k]? = some x) := fun k hk => ⟨_, List.getElem?_eq_getElem hk⟩
  generalize hll : l.length = n at *
  clear hll
  go_enter Tryz.func57, Tryz.ntmps57
  go_wp2
  go_loopw [5] (fun i wr => ∃ (k : Nat), k ≤ n ∧ i = .int .i64 k ∧ Below w.heap.size w wr) (fun i _ => n - (intOf i).toNat)
  case atStart => exact ⟨0, by omega, rfl, Below.refl _ _⟩
  case round =>
    obtain ⟨k, hk, rfl, hbe⟩ := hrel
    have HBE := Lib.hid hbe
    clear hbe
    by_cases hkl : k < n
    · obtain ⟨x, hx⟩ := HX.out k hkl
      obtain ⟨g, off, xs, Fk, rfl, _, rc, _, hc⟩ := (HV.out.kept HBE.out).get hx
      obtain ⟨g2, off2, ys, Gk, rfl, _, rd, _, hd⟩ := (HU.out.kept HBE.out).get hx
      obtain ⟨v0, rfl, qc0⟩ := rCandidate_rd rc
      obtain ⟨u0, rfl, qd0⟩ := rCandidate_rd rd
      rw [rCandidate_size] at hc hd
      have c0 := fun d os => cell_regrown (hc 0 _ rfl) d os
      have d0 := fun d os => cell_regrown (hd 0 _ rfl) d os
      clear hc hd
      simp only [Nat.add_zero, Nat.mul_one] at c0 d0
      have cS : ∀ d os, Calls Tryz.prog 38 #[.agg #[v0], .agg #[u0]] (grow (redrawn wr d) os) fun e w'' => e = .returned (.bool true) ∧ ∃ p : Regrown, w'' = grow (redrawn wr p.d) p.os :=
        fun d os => Calls.regrown_of (eqCandidate_any x Fk Gk _ v0 u0 (qc0.kept (below_regrown wr d os)) (qd0.kept (below_regrown wr d os)))
      clear qc0 qd0 hx
      go_wp2
      refine wp_region_quiet_below (by kernel_rfl) (by kernel_rfl) ?_
      repeat (quiet_step (exact cS _ _))
      refine wpQuiet_nil ?_
      intro _ hw'
      obtain ⟨⟨dq, osq⟩, hw''⟩ := hw'
      subst hw''
      go_wp2
      go_roundw
      case rel => exact ⟨k + 1, by omega, by go_num, HBE.out.trans ((below_regrown wr dq osq).mono HBE.out.size)⟩
      case measure => simp [intOf]; omega
    · obtain rfl : k = n := by omega
      go_wp2
      go_ret
      exact ⟨rfl, HBE.out⟩
end Go.Proofs.YtkaihnlknncfdaaGreatDoor
