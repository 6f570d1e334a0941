/- Merged: Ro11 Wi12 TzStringS Tz0 TzLinkS TzCandidate TzCandidateS TzIntS TzIntSS. -/
import Derived.Test.YtkaihnlknncfdaaGreatDoorQ4
import Derived.Test.YtkaihnlknncfdaaGreatDoorQ9
import Derived.Test.YtkaihnlknncfdaaGreatDoorQ5
import Derived.Test.YtkaihnlknncfdaaGreatDoorQ1
import Derived.Test.YtkaihnlknncfdaaGreatDoorQ2
import Derived.WalkKit
import Derived.BigQuiet
import Derived.Test.YtkaihnlknncfdaaGreatDoorRows
import Derived.Lib.QuietBelow
/- The program's rowsOf: what it answers. -/
namespace Go.Proofs.YtkaihnlknncfdaaGreatDoor
set_option maxRecDepth 100000
open Go.RowKit Go.Sort M
set_option linter.unusedVariables false
set_option linter.unusedSimpArgs false

theorem Tryz.infoTMk : (Tryz.prog.info? 88).map (fun i => (i.zero, i.size, i.bytes)) = some (some (.agg #[.slice none 0 0, .slice none 0 0]), 2, 48) := by kernel_rfl
theorem rmk2 : rMk.size = 2 := rfl
theorem World.setCell_size11 (w : World) (a : Addr) (v : Value) : (w.setCell a v).heap.size = w.heap.size := by simp [World.setCell]
set_option maxHeartbeats 16000000 in
theorem implRows_any (x : DTableau) (A1 : Option Addr) (c1 : Nat) (A2 : Option Addr) (c2 : Nat) (A3 : Option Addr) (c3 : Nat) (F1 F2 F3 : Addr → Prop) (w : World) (hm : rTableau.sz x ≤ 1048576) (hv : TabRd false w (.slice A1 x.Names.length c1) (.slice A2 x.Rows.length c2) (.slice A3 x.Marks.length c3) x F1 F2 F3) (hT : FeatTab w) :
    Calls Tryz.prog 56 #[.agg #[.string x.Input, .slice A1 x.Names.length c1, .slice A2 x.Rows.length c2, .slice A3 x.Marks.length c3]] w (MkPost x w) := by
  have HV := Lib.hid hv.tight
  have HIT : Hid (∀ W, Below w.heap.size w W → Calls Tryz.prog 41 #[.agg #[.string x.Input, .slice A1 x.Names.length c1, .slice A2 x.Rows.length c2, .slice A3 x.Marks.length c3]] W fun e w' => e = .returned (.bool (isTab x)) ∧ Below W.heap.size W w') := fun W hW => implTab_any x A1 c1 A2 c2 A3 c3 F1 F2 F3 W hm (hv.kept hW) (feat_below hT hW)
  have HP : Hid (∀ u G w', RowRd rMk false w' u (rowsL x) G → Below w.heap.size w w' → MkPost x w (.returned u) w') := fun u G w' h1 h2 => ⟨u, G, rfl, h1, h2⟩
  have HX2 : Hid (∀ k, k < x.Rows.length → ∃ y, x.Rows[k]? = some y) := fun k hk => ⟨_, List.getElem?_eq_getElem hk⟩
  have HX3 : Hid (∀ k, k < x.Marks.length → ∃ y, x.Marks[k]? = some y) := fun k hk => ⟨_, List.getElem?_eq_getElem hk⟩
  have HLT : Hid (∀ b, isTab x = b → b = true → x.Marks.length = x.Rows.length ∧ x.Rows.length ≤ 250 ∧ (rowsL x).length = x.Rows.length) := fun b h1 h2 => by
    have h3 := headT_parts (headT_of (h1.trans h2))
    exact ⟨h3.2.2.2.2, h3.2.2.2.1, rowsL_len (h1.trans h2)⟩
  have HNO : Hid (∀ b, isTab x = b → b = false → rowsL x = []) := fun b h1 h2 => rowsL_no (h1.trans h2)
  have HAT : Hid (∀ b, isTab x = b → b = true → ∀ (k : Nat) (c : DCandidate) (m : List Int), x.Rows[k]? = some c → x.Marks[k]? = some m → (rowsL x)[k]? = some (c, m)) := fun b h1 h2 k c m h3 h4 => rowsL_at (h1.trans h2) h3 h4
  clear hv hm hT
  have HA : Hid (∀ o, Below w.heap.size w (w.alloc o)) := fun o => (Below.refl _ _).alloc (Nat.le_refl _) _
  have HA1 : Hid (InC (w.alloc (.cells #[.string x.Input, .slice A1 x.Names.length c1, .slice A2 x.Rows.length c2, .slice A3 x.Marks.length c3] 32)) w.heap.size #[.string x.Input, .slice A1 x.Names.length c1, .slice A2 x.Rows.length c2, .slice A3 x.Marks.length c3] 32) := heap_alloc_new _ _
  obtain ⟨i0, hi, hz0, hz1, hz2⟩ := info_parts Tryz.infoTMk
  go_enter Tryz.func56, Tryz.ntmps56
  go_wp2_with fail
  refine (HIT.out _ (HA.out _)).mono ?_
  rintro e w1 ⟨rfl, hb⟩
  have HB1 : Hid (Below w.heap.size w w1) := below_step (HA.out _) hb
  have HX1 := Lib.hid (HA1.out.kept hb)
  have b2 := HX1.out.cell 2 rfl
  clear hb
  have HLT2 := Lib.hid (HLT.out _ rfl)
  have HNO2 := Lib.hid (HNO.out _ rfl)
  have HAT2 := Lib.hid (HAT.out _ rfl)
  clear HLT HNO HAT HIT
  generalize isTab x = t at *
  cases t with
  | false =>
    have HN := Lib.hid (HNO2.out rfl)
    go_wp2_with fail
    go_ret
    exact HP.out _ (fun _ => False) _ (by rw [HN.out]; exact RowRd.nil _ _ _) HB1.out
  | true =>
  obtain ⟨hml, hr2, hrl⟩ := HLT2.out rfl
  have HAT3 := Lib.hid (HAT2.out rfl)
  have HRL := Lib.hid hrl
  clear HLT2 HNO2 HAT2 hrl
  have H0 := Lib.hid (cpTo_zero zMk (rowsL x))
  have HCA := Lib.hid (cpTo_all zMk (rowsL x))
  have HCL : Hid (∀ k, k ≤ x.Rows.length → (cpTo zMk (rowsL x) k).length = x.Rows.length) := fun k hk => by unfold cpTo; rw [List.length_append, List.length_take, List.length_replicate, HRL.out]; omega
  have HCST : Hid (∀ k c m, x.Rows[k]? = some c → x.Marks[k]? = some m → (cpTo zMk (rowsL x) k).set k (c, m) = cpTo zMk (rowsL x) (k + 1)) := fun k c m h1 h2 => cpTo_step _ _ _ (HAT3.out k c m h1 h2)
  generalize hnn : x.Rows.length = n at *
  go_wp2_with (at_make; refine wpList_make_full _ rfl _ _ 74 rfl w1.heap.size 88 i0 (.agg #[.slice none 0 0, .slice none 0 0]) 2 Tryz.underlying74 hi hz0 hz1 .i64 .i64 _ _ n rfl rfl rfl rfl (by rw [hz2]; omega) (by unfold maxLen; omega) (Nat.le_refl _) ?_; intro w4 hown4 hgrow4; have hb14 : Below w1.heap.size w1 w4 := ((Below.refl _ _).grown hgrow4 (Nat.le_refl _) (fun _ h => by cases h)); have b24 := (HX1.out.kept hb14).cell 2 rfl; clear b2)
  have HO4 : Hid (OwnRd rMk 88 false w1.heap.size w4 (.slice (some ⟨w1.heap.size, 0, none⟩) n n) (cpTo zMk (rowsL x) 0) (fun _ => True)) := by
    unfold Hid
    rw [H0.out, HRL.out]
    rw [show (Value.cells (.agg #[.slice none 0 0, .slice none 0 0])) = #[.slice none 0 0, .slice none 0 0] from rfl] at hown4
    refine ⟨_, fun _ _ => False, by rw [List.length_replicate]; exact hown4, fun k y hk => ?_⟩
    rw [List.getElem?_replicate] at hk
    split at hk
    · cases hk
      refine ⟨[.slice none 0 0, .slice none 0 0], ?_, rMk_mk (F1 := fun _ => False) (F2 := fun _ => False) (RowRd.nil _ _ _) (RowRd.nil _ _ _) (fun _ h => h) (fun _ h => h) (fun h => by cases h), fun _ h => h.elim, fun h => by cases h⟩
      intro j u hj
      have hjn : j < 2 := (List.getElem?_eq_some_iff.1 hj).1
      rw [show rMk.size = 2 from rfl, made_at _ _ _ (by omega) (by decide), show (#[.slice none 0 0, .slice none 0 0] : Array Value).size = 2 from rfl, show (k * 2 + j) % 2 = j by omega]
      simpa using hj
    · cases hk
  have HW4 := Lib.hid hb14
  have HX4 := Lib.hid (HX1.out.kept hb14)
  have hbl : w1.heap.size < w4.heap.size := by
    obtain ⟨_, _, hw, _⟩ := HO4.out
    rcases hw.2 with ⟨h, _⟩ | ⟨g, cp, cur, hv, _, hg, _⟩
    · cases h
    · cases hv; exact (Array.getElem?_eq_some_iff.1 hg).1
  clear hown4 hgrow4 hb14
  go_wp2
  clear b24
  go_loopw [16] (fun i wr => ∃ (k : Nat), k ≤ n ∧ i = .int .i64 k ∧ OwnRd rMk 88 false w1.heap.size wr (.slice (some ⟨w1.heap.size, 0, none⟩) n n) (cpTo zMk (rowsL x) k) (fun _ => True) ∧ w4.heap.size ≤ wr.heap.size ∧ Below w1.heap.size w1 wr) (fun i _ => n - (intOf i).toNat)
  case atStart => exact ⟨0, by omega, rfl, HO4.out, Nat.le_refl _, HW4.out⟩
  case round =>
    obtain ⟨k, hk, rfl, hown, hsz, hbe0⟩ := hrel
    obtain ⟨w5, rfl⟩ : ∃ w5 : World, w5 = wr := ⟨_, rfl⟩
    have HO := Lib.hid hown
    have HBE := Lib.hid hbe0
    have HBW := Lib.hid (below_step HB1.out hbe0)
    have HBX := Lib.hid (HX1.out.kept hbe0)
    clear hown hbe0
    by_cases hkl : k < n
    · obtain ⟨c, hc⟩ := HX2.out k (by omega)
      obtain ⟨m, hmk⟩ := HX3.out k (by omega)
      have HSX := Lib.hid (HCST.out k c m hc hmk)
      have HKL := Lib.hid (HCL.out k hk)
      obtain ⟨g2, o2, xs2, G2, rfl, -, hr2', hG2, hc2⟩ := HV.out.rows.get hc
      obtain ⟨v2, rfl, q2⟩ := rCandidate_rd hr2'
      obtain ⟨g3, o3, xs3, G3, rfl, -, hr3', hG3, hc3⟩ := HV.out.marks.get hmk
      obtain ⟨v3, rfl, q3⟩ := id hr3'
      rw [rCandidate_size] at hc2
      rw [show (Rep.row Rep.int).size = 1 from rfl] at hc3
      have d2 := hc2 0 _ rfl
      have d3 := hc3 0 _ rfl
      simp only [Nat.add_zero, Nat.mul_one] at d2 d3
      have hlt3 : g3 < w.heap.size := block_lt_of_cell d3
      replace d2 := cell_kept HBW.out d2
      replace d3 := cell_kept HBW.out d3
      obtain ⟨A2', cp2, rfl⟩ := q2.form
      obtain ⟨A3', cp3, rfl⟩ := q3.form
      have hwlt : w.heap.size < w1.heap.size := HX1.out.lt
      have h15 : w1.heap.size < w5.heap.size := by omega
      have HWB : Hid (Below w5.heap.size w5 (w5.alloc (.cells #[.slice A2' c.Links.length cp2] 55))) := (Below.refl _ _).alloc (Nat.le_refl _) _
      have HWD : Hid (Below w5.heap.size w5 (w5.alloc (.cells #[.slice A2' c.Links.length cp2] 55)).drew) := HWB.out.drew
      have HIB : Hid (InC (w5.alloc (.cells #[.slice A2' c.Links.length cp2] 55)).drew w5.heap.size #[.slice A2' c.Links.length cp2] 55) := heap_alloc_new _ _
      have HQX : Hid (rMk.rd false (w5.alloc (.cells #[.slice A2' c.Links.length cp2] 55)).drew [.slice A2' c.Links.length cp2, .slice A3' m.length cp3] (c, m) (fun p => G2 p ∨ G3 p)) := rMk_mk (x := (c, m)) (F1 := G2) (F2 := G3) ((q2.kept HBW.out).kept HWD.out) ((q3.kept HBW.out).kept HWD.out) (fun _ h => Or.inl h) (fun _ h => Or.inr h) (fun h => by cases h)
      have HFX : Hid (∀ p, G2 p ∨ G3 p → p.block < (w5.alloc (.cells #[.slice A2' c.Links.length cp2] 55)).drew.heap.size ∧ p.block ≠ w1.heap.size) := fun p hp => by
        have h1 : p.block < w.heap.size := hp.elim (fun h => (hG2 p h).2) (fun h => (hG3 p h).2)
        have h2 : w5.heap.size ≤ (w5.alloc (.cells #[.slice A2' c.Links.length cp2] 55)).drew.heap.size := HWD.out.size
        exact ⟨by omega, by omega⟩
      have HOD := Lib.hid (HO.out.kept HWD.out)
      have HS0 : Hid ((w5.alloc (.cells #[.slice A2' c.Links.length cp2] 55)).drew.cell? ⟨w5.heap.size, 0, none⟩ = some (.slice A2' c.Links.length cp2) ∧ (w5.alloc (.cells #[.slice A2' c.Links.length cp2] 55)).drew.cell? ⟨w.heap.size, 3, none⟩ = some (.slice (some ⟨g3, o3, none⟩) x.Marks.length c3) ∧ (w5.alloc (.cells #[.slice A2' c.Links.length cp2] 55)).drew.cell? ⟨g3, o3 + k, none⟩ = some (.slice A3' m.length cp3)) := ⟨HIB.out.cell 0 rfl, (HBX.out.kept HWD.out).cell 3 rfl, cell_kept HWD.out d3⟩
      obtain ⟨⟨z0, e0⟩, ⟨z1, e1⟩, f0, f1⟩ := HOD.out.at2 rmk2 HKL.out hkl
      have HNEW := Lib.hid ((HOD.out.set2 rmk2 HKL.out hkl HQX.out HFX.out).mono (G' := fun _ => True) (fun _ _ => trivial))
      rw [HSX.out] at HNEW
      have HBB : Hid (Below w1.heap.size w1 (((w5.alloc (.cells #[.slice A2' c.Links.length cp2] 55)).drew.setCell ⟨w1.heap.size, k * 2, none⟩ (.slice A2' c.Links.length cp2)).setCell ⟨w1.heap.size, k * 2 + 1, none⟩ (.slice A3' m.length cp3))) := ((below_step HBE.out HWD.out).setCell (p := ⟨w1.heap.size, k * 2, none⟩) (Nat.le_refl _) _).setCell (p := ⟨w1.heap.size, k * 2 + 1, none⟩) (Nat.le_refl _) _
      have HSS : Hid (w4.heap.size ≤ (((w5.alloc (.cells #[.slice A2' c.Links.length cp2] 55)).drew.setCell ⟨w1.heap.size, k * 2, none⟩ (.slice A2' c.Links.length cp2)).setCell ⟨w1.heap.size, k * 2 + 1, none⟩ (.slice A3' m.length cp3)).heap.size) := by
        have h2 : w5.heap.size ≤ (w5.alloc (.cells #[.slice A2' c.Links.length cp2] 55)).drew.heap.size := HWD.out.size
        unfold Hid; simp only [World.setCell_size11]; omega
      have hkm : (k : Int) < (x.Marks.length : Int) := by omega
      have hkr : (k : Int) < (n : Int) := by omega
      clear hc2 hc3 hr2' hr3' q2 q3 hG2 hG3 HQX HFX HOD HSX hc hmk d3
      go_upto_region 7 with fail
      clear d2
      refine wp_region_held_drew (S := fun w' => w'.cell? ⟨w5.heap.size, 0, none⟩ = some (.slice A2' c.Links.length cp2) ∧ w'.cell? ⟨w.heap.size, 3, none⟩ = some (.slice (some ⟨g3, o3, none⟩) x.Marks.length c3) ∧ w'.cell? ⟨g3, o3 + k, none⟩ = some (.slice A3' m.length cp3)) (by kernel_rfl) HS0.out (fun hHeld => ?_)
      generalize (w5.alloc (.cells #[.slice A2' c.Links.length cp2] 55)).drew = WD at *
      refine' wpAnyH_take (i := 0) (oi := _) (v := ?v1) rfl ?hs1 ?hf1 ?hr1 ?hQ1 (Or.inl ⟨?hw1, ?hy1⟩) hHeld ?rest1
      case hs1 => kernel_rfl
      case hf1 => kernel_rfl
      case hr1 => kernel_rfl
      case hQ1 => exact fun _ _ _ h => h
      case hw1 => kernel_rfl
      case hy1 => (intro w' hw'; go_simp; try with_reducible rfl)
      (try change wpAnyH _ _ _ _ _ _ _ (Act.put _ (some 21) _) _)
      try simp only [Act.put, List.setIfInBounds_toArray, List.set_cons_zero, List.set_cons_succ]
      refine' wpAnyH_take (i := 1) (oi := _) (v := ?v2) rfl ?hs2 ?hf2 ?hr2 ?hQ2 (Or.inl ⟨?hw2, ?hy2⟩) hHeld ?rest2
      case hs2 => kernel_rfl
      case hf2 => kernel_rfl
      case hr2 => kernel_rfl
      case hQ2 => exact fun _ _ _ h => h
      case hw2 => kernel_rfl
      case hy2 => (intro w' hw'; go_simp; try with_reducible rfl)
      (try change wpAnyH _ _ _ _ _ _ _ (Act.put _ (some 22) _) _)
      try simp only [Act.put, List.setIfInBounds_toArray, List.set_cons_zero, List.set_cons_succ]
      refine' wpAnyH_take (i := 2) (oi := _) (v := ?v3) rfl ?hs3 ?hf3 ?hr3 ?hQ3 (Or.inl ⟨?hw3, ?hy3⟩) hHeld ?rest3
      case hs3 => kernel_rfl
      case hf3 => kernel_rfl
      case hr3 => kernel_rfl
      case hQ3 => exact fun _ _ _ h => h
      case hw3 => kernel_rfl
      case hy3 => (intro w' hw'; have cA := hw'.1; have cB := hw'.2.1; have cC := hw'.2.2; clear hw'; go_simp; try with_reducible rfl)
      (try change wpAnyH _ _ _ _ _ _ _ (Act.put _ (some 23) _) _)
      try simp only [Act.put, List.setIfInBounds_toArray, List.set_cons_zero, List.set_cons_succ]
      refine' wpAnyH_take (i := 3) (oi := _) (v := ?v4) rfl ?hs4 ?hf4 ?hr4 ?hQ4 (Or.inl ⟨?hw4, ?hy4⟩) hHeld ?rest4
      case hs4 => kernel_rfl
      case hf4 => kernel_rfl
      case hr4 => kernel_rfl
      case hQ4 => exact fun _ _ _ h => h
      case hw4 => kernel_rfl
      case hy4 => (intro w' hw'; go_simp; try with_reducible rfl)
      (try change wpAnyH _ _ _ _ _ _ _ (Act.put _ (some 24) _) _)
      try simp only [Act.put, List.setIfInBounds_toArray, List.set_cons_zero, List.set_cons_succ]
      refine' wpAnyH_take (i := 4) (oi := _) (v := ?v5) rfl ?hs5 ?hf5 ?hr5 ?hQ5 (Or.inl ⟨?hw5, ?hy5⟩) hHeld ?rest5
      case hs5 => kernel_rfl
      case hf5 => kernel_rfl
      case hr5 => kernel_rfl
      case hQ5 => exact fun _ _ _ h => h
      case hw5 => kernel_rfl
      case hy5 => (intro w' hw'; have cA := hw'.1; have cB := hw'.2.1; have cC := hw'.2.2; clear hw'; go_simp; try with_reducible rfl)
      (try change wpAnyH _ _ _ _ _ _ _ (Act.put _ (some 25) _) _)
      try simp only [Act.put, List.setIfInBounds_toArray, List.set_cons_zero, List.set_cons_succ]
      refine' wpAnyH_take (i := 5) (oi := _) (v := ?v6) rfl ?hs6 ?hf6 ?hr6 ?hQ6 (Or.inl ⟨?hw6, ?hy6⟩) hHeld ?rest6
      case hs6 => kernel_rfl
      case hf6 => kernel_rfl
      case hr6 => kernel_rfl
      case hQ6 => exact fun _ _ _ h => h
      case hw6 => kernel_rfl
      case hy6 => (intro w' hw'; go_simp; try with_reducible rfl)
      (try change wpAnyH _ _ _ _ _ _ _ (Act.put _ (some 26) _) _)
      try simp only [Act.put, List.setIfInBounds_toArray, List.set_cons_zero, List.set_cons_succ]
      refine' wpAnyH_take (i := 6) (oi := _) (v := ?v7) rfl ?hs7 ?hf7 ?hr7 ?hQ7 (Or.inl ⟨?hw7, ?hy7⟩) hHeld ?rest7
      case hs7 => kernel_rfl
      case hf7 => kernel_rfl
      case hr7 => kernel_rfl
      case hQ7 => exact fun _ _ _ h => h
      case hw7 => kernel_rfl
      case hy7 => (intro w' hw'; go_simp; try with_reducible rfl)
      (try change wpAnyH _ _ _ _ _ _ _ (Act.put _ (some 27) _) _)
      try simp only [Act.put, List.setIfInBounds_toArray, List.set_cons_zero, List.set_cons_succ]
      refine' wpAnyH_take (i := 7) (oi := _) (v := ?v8) rfl ?hs8 ?hf8 ?hr8 ?hQ8 (Or.inl ⟨?hw8, ?hy8⟩) hHeld ?rest8
      case hs8 => kernel_rfl
      case hf8 => kernel_rfl
      case hr8 => kernel_rfl
      case hQ8 => exact fun _ _ _ h => h
      case hw8 => kernel_rfl
      case hy8 => (intro w' hw'; have cA := hw'.1; have cB := hw'.2.1; have cC := hw'.2.2; clear hw'; go_simp; try with_reducible rfl)
      (try change wpAnyH _ _ _ _ _ _ _ (Act.put _ (some 28) _) _)
      try simp only [Act.put, List.setIfInBounds_toArray, List.set_cons_zero, List.set_cons_succ]
      refine' wpAnyH_take (i := 8) (oi := _) (v := ?v9) rfl ?hs9 ?hf9 ?hr9 ?hQ9 (Or.inl ⟨?hw9, ?hy9⟩) hHeld ?rest9
      case hs9 => kernel_rfl
      case hf9 => kernel_rfl
      case hr9 => kernel_rfl
      case hQ9 => exact fun _ _ _ h => h
      case hw9 => kernel_rfl
      case hy9 => (intro w' hw'; go_simp; try with_reducible rfl)
      (try change wpAnyH _ _ _ _ _ _ _ (Act.put _ (some 29) _) _)
      try simp only [Act.put, List.setIfInBounds_toArray, List.set_cons_zero, List.set_cons_succ]
      refine' wpAnyH_take (i := 9) (oi := _) (v := ?v10) rfl ?hs10 ?hf10 ?hr10 ?hQ10 (Or.inl ⟨?hw10, ?hy10⟩) hHeld ?rest10
      case hs10 => kernel_rfl
      case hf10 => kernel_rfl
      case hr10 => kernel_rfl
      case hQ10 => exact fun _ _ _ h => h
      case hw10 => kernel_rfl
      case hy10 => (intro w' hw'; go_simp; try with_reducible rfl)
      (try change wpAnyH _ _ _ _ _ _ _ (Act.put _ (some 30) _) _)
      try simp only [Act.put, List.setIfInBounds_toArray, List.set_cons_zero, List.set_cons_succ]
      refine wpAnyH_ready (rs := [10]) (by kernel_rfl) (by simp) ?_
      refine AllReadyH.cons rfl (fun K hK => ?_) AllReadyH.nil
      go_simp
      skip
      (try go_wp2_with fail)
      refine hK.out _ _ ⟨(cs_far2 (p := ⟨w5.heap.size, 0, none⟩) (by show w5.heap.size ≠ w1.heap.size; omega)).trans hHeld.1, (cs_far2 (p := ⟨w.heap.size, 3, none⟩) (by show w.heap.size ≠ w1.heap.size; omega)).trans hHeld.2.1, (cs_far2 (p := ⟨g3, o3 + k, none⟩) (by show g3 ≠ w1.heap.size; omega)).trans hHeld.2.2⟩ (fun hHeld => ?_)
      clear hK K
      try simp only [Act.put, List.setIfInBounds_toArray, List.set_cons_zero, List.set_cons_succ]
      refine wpAnyH_done ?hdone11 ?hq11 _
      case hdone11 => kernel_rfl
      go_wp2
      go_roundw
      case rel => exact ⟨k + 1, by omega, by go_num, HNEW.out, HSS.out, HBB.out⟩
      case measure => simp [intOf]; omega
    · obtain rfl : k = n := by omega
      have hro := HO.out.row (by rw [HCL.out k (Nat.le_refl _)]; omega)
      have hca := HCA.out
      rw [HRL.out] at hca
      rw [hca] at hro
      have HRO := Lib.hid hro
      clear hro hca
      go_wp2
      go_ret
      exact HP.out _ _ _ HRO.out HBW.out
end Go.Proofs.YtkaihnlknncfdaaGreatDoor

/- Winners: the program's bestRows and WinnersOf: what they answer. -/
namespace Go.Proofs.YtkaihnlknncfdaaGreatDoor
set_option maxRecDepth 100000
open Go.RowKit Go.Sort M
set_option linter.unusedVariables false
set_option linter.unusedSimpArgs false

set_option maxHeartbeats 8000000 in
theorem implBest_any (L : List (DCandidate × List Int)) (M : List (List Int)) (r : List Int) (n : Nat) (v vr : Value) (G Fr : Addr → Prop) (w : World) (hLl : L.length ≤ 1000000) (hM : ∀ (k : Nat) (c : DCandidate) (m : List Int), L[k]? = some (c, m) → M.getD k [] = m ∧ m.length = n)
    (hr : rkB r n = true) (hv : RowRd rMk false w v L G) (hvr : RowRd Rep.int false w vr r Fr) :
    Calls Tryz.prog 55 #[v, vr] w (IntPost11 (bestTo M r L.length) w) := by
  have hmr := hvr.max
  obtain ⟨Ar, kr, rfl⟩ := hvr.form
  obtain ⟨A, cap, rfl⟩ := hv.form
  have HV := Lib.hid hv
  have HR := Lib.hid hvr
  have HX : Hid (∀ k, k < L.length → ∃ c m, L[k]? = some (c, m) ∧ M.getD k [] = m ∧ m.length = n) := fun k hk => by
    rcases hp : L[k] with ⟨c, m⟩
    have he : L[k]? = some (c, m) := by rw [List.getElem?_eq_getElem hk, hp]
    exact ⟨c, m, he, hM k c m he⟩
  have HP : Hid (∀ u w', RowRd Rep.int true w' u (bestTo M r L.length) (fun a => w.heap.size ≤ a.block) → Below w.heap.size w w' → IntPost11 (bestTo M r L.length) w (.returned u) w') := fun u w' h1 h2 => ⟨u, rfl, h1, h2⟩
  have HRK : Hid (∀ (i : Nat) (k : Int), r[i]? = some k → 0 ≤ k ∧ k < (n : Int)) := fun i k h => rk_at hr h
  have HNE : Hid (∀ k, 0 < k → ∃ b rest, bestTo M r k = ((b : Nat) : Int) :: rest ∧ b < k ∧ okK M r b k = true) := best_ne M r
  have HBL := Lib.hid (bestTo_len M r)
  have HI64 : Hid (∀ k, k ≤ 1000000000 → ∀ z ∈ bestTo M r k, I64 z) := fun k hk => best_i64 hk
  have HF1 := Lib.hid (bestTo_first M r)
  have HLS : Hid (∀ k b, okK M r b k = true → cmpL (M.getD k []) (M.getD b []) r < 0 → bestTo M r (k + 1) = [(k : Int)]) := fun k b h1 h2 => best_less h1 h2
  have HSM : Hid (∀ k b, b < k → okK M r b k = true → cmpL (M.getD k []) (M.getD b []) r = 0 → bestTo M r (k + 1) = bestTo M r k ++ [(k : Int)]) := fun k b h0 h1 h2 => best_same h0 h1 h2
  have HMR : Hid (∀ k b, b < k → okK M r b k = true → 0 < cmpL (M.getD k []) (M.getD b []) r → bestTo M r (k + 1) = bestTo M r k) := fun k b h0 h1 h2 => best_more h0 h2
  clear hv hvr hM hr
  generalize hN : L.length = N at *
  have HO0 : Hid (w.ownsRow w.heap.size 3 1 (.slice none 0 0) (bestTo M r 0).length (cellsI (bestTo M r 0))) := ⟨rfl, Or.inl ⟨rfl, rfl⟩⟩
  go_enter Tryz.func55, Tryz.ntmps55
  go_wp2
  go_loopw [5, 11] (fun u i wr => ∃ (k : Nat), k ≤ N ∧ i = .int .i64 k ∧ wr.ownsRow w.heap.size 3 1 u (bestTo M r k).length (cellsI (bestTo M r k)) ∧ Below w.heap.size w wr) (fun _ i _ => N - (intOf i).toNat)
  case atStart => exact ⟨0, by omega, rfl, HO0.out, Below.refl _ _⟩
  case round =>
    obtain ⟨k, hk, rfl, hown, hbe⟩ := hrel
    obtain ⟨w2, rfl⟩ : ∃ w2 : World, w2 = wr := ⟨_, rfl⟩
    have HB := Lib.hid hbe
    have HOW := Lib.hid hown
    obtain ⟨Au, cu, rfl⟩ := own_formI hown
    have hbl := HBL.out k
    clear hbe hown
    by_cases hkl : k < N
    · obtain ⟨c, m, hc, hmk, hmn⟩ := HX.out k hkl
      obtain ⟨g2, o2, xs2, G2, rfl, -, hr2', -, hc2⟩ := (HV.out.kept HB.out).get hc
      obtain ⟨v2, v3, K1, K2, rfl, q2, q3, -⟩ := rMk_rd hr2'
      rw [rMk_size] at hc2
      have d2 := hc2 0 _ rfl
      have d3 := hc2 1 _ rfl
      simp only [Nat.add_zero] at d2
      obtain ⟨A2', cp2, rfl⟩ := q2.form
      obtain ⟨A3', cp3, rfl⟩ := q3.form
      rw [hmn] at q3 d3
      have HMN := Lib.hid hmn
      clear hmn
      have HWB : Hid (Below w2.heap.size w2 (w2.alloc (.cells #[.slice A2' c.Links.length cp2, .slice A3' n cp3] 88))) := (Below.refl _ _).alloc (Nat.le_refl _) _
      have HI7 : Hid (InC (w2.alloc (.cells #[.slice A2' c.Links.length cp2, .slice A3' n cp3] 88)) w2.heap.size #[.slice A2' c.Links.length cp2, .slice A3' n cp3] 88) := heap_alloc_new _ _
      have HQ3 := Lib.hid q3
      have HMK := Lib.hid hmk
      have HB3 := Lib.hid (below_step HB.out HWB.out)
      have HO3 := Lib.hid (own_keepI HWB.out HOW.out)
      have hkr : (k : Int) < (N : Int) := by omega
      have hsz2 : w.heap.size ≤ w2.heap.size := HB.out.size
      clear hc hr2' hc2 q2 q3 hmk
      rcases Nat.eq_zero_or_pos k with h0 | h0
      · subst h0
        simp only [Nat.zero_mul, Nat.add_zero] at d2 d3
        have HNX : Hid (bestTo M r (0 + 1) = [((0 : Nat) : Int)]) := HF1.out
        simp only [bestTo_zero, List.length_nil] at HO3 ⊢
        have hsz6 := HB3.out.size
        go_wp2_with (at_builtin; refine wpList_append_int (w2.alloc (.cells #[.slice A2' c.Links.length cp2, .slice A3' n cp3] 88)) rfl (.tmp 37) (.tmp 39) rfl w.heap.size (.slice Au 0 cu) 0 [] rfl HO3.out ((0 : Nat) : Int) (by simp [Act.eval]) (by omega) hsz6 ?_; intro v7 w7 hown7 hb7)
        have HO7 : Hid (w7.ownsRow w.heap.size 3 1 v7 (bestTo M r (0 + 1)).length (cellsI (bestTo M r (0 + 1)))) := by unfold Hid; rw [HNX.out]; exact hown7
        have HB7 := Lib.hid (HB3.out.trans hb7)
        obtain ⟨A7, c7, rfl⟩ := own_formI hown7
        clear hown7 hb7
        go_wp2
        go_roundw
        case rel => exact ⟨0 + 1, by omega, by go_num, HO7.out, HB7.out⟩
        case measure => simp [intOf]; omega
      · obtain ⟨b, rest, hbt, hbk, hok⟩ := HNE.out k h0
        obtain ⟨cb, mb, hcb, hmb, hmbn⟩ := HX.out b (by omega)
        have HMBN := Lib.hid hmbn
        clear hmbn
        have hb0 : (bestTo M r k)[0]? = some (b : Int) := by rw [hbt]; rfl
        have hbl1 : 0 < (bestTo M r k).length := by rw [hbt]; simp
        obtain ⟨gu, ou, xsu, Gu, rfl, -, hru', -, hcu⟩ := (own_ints HO3.out (by omega) (HI64.out k (by omega))).get hb0
        obtain ⟨rfl, -⟩ := id hru'
        have du := hcu 0 _ rfl
        simp only [show Rep.int.size = 1 from rfl, Nat.add_zero, Nat.mul_one, Nat.zero_mul] at du
        obtain ⟨g4, o4, xs4, G4, hge, -, hr4', -, hc4⟩ := (HV.out.kept HB3.out).get hcb
        cases hge
        obtain ⟨vb2, vb3, K3, K4, rfl, q4, q5, -⟩ := rMk_rd hr4'
        rw [rMk_size] at hc4
        have d5 := hc4 1 _ rfl
        have d7 := HI7.out.cell 1 rfl
        have hrx := fun d os => cell_regrown d7 d os
        have hru := fun d os => cell_regrown du d os
        have hr5 := fun d os => cell_regrown d5 d os
        have hbr : (b : Int) < (N : Int) := by omega
        have hblr : (0 : Int) < ((bestTo M r k).length : Int) := by omega
        have HQ5 := Lib.hid q5
        have hLS := HLS.out k b hok
        have hSM := HSM.out k b hbk hok
        have hMR := HMR.out k b hbk hok
        rw [HMK.out, hmb] at hLS hSM hMR
        have HLK := Lib.hid hLS
        have HSK := Lib.hid hSM
        have HMM := Lib.hid hMR
        have HH : Hid (∀ d os, Calls Tryz.prog 66 #[.slice A3' n cp3, vb3, .slice Ar r.length kr] (grow (redrawn (w2.alloc (.cells #[.slice A2' c.Links.length cp2, .slice A3' n cp3] 88)) d) os) fun e w'' => e = .returned (.tuple #[.int .i64 (fdiff m mb r 0).1, .int .i64 (cmpL m mb r)]) ∧ ∃ p : Regrown, w'' = grow (redrawn (w2.alloc (.cells #[.slice A2' c.Links.length cp2, .slice A3' n cp3] 88)) p.d) p.os) := fun d os =>
          Calls.regrown_of (fdif_any m mb r _ vb3 _ K2 K4 Fr _ ((HQ3.out.kept HWB.out).kept (below_regrown (w2.alloc (.cells #[.slice A2' c.Links.length cp2, .slice A3' n cp3] 88)) d os)) (HQ5.out.kept (below_regrown (w2.alloc (.cells #[.slice A2' c.Links.length cp2, .slice A3' n cp3] 88)) d os)) ((HR.out.kept HB3.out).kept (below_regrown (w2.alloc (.cells #[.slice A2' c.Links.length cp2, .slice A3' n cp3] 88)) d os)) (HMN.out.trans HMBN.out.symm) (by rw [HMN.out]; exact HRK.out))
        have HH2 := HH.out
        clear hbt hb0 hru' hcu hr4' hc4 q4 q5 hcb HH hLS hSM hMR
        generalize cmpL m mb r = o at *
        generalize (fdiff m mb r 0).1 = p at *
        generalize hLB : (bestTo M r k).length = LB at *
        go_wp2
        refine wp_region_quiet_below (by kernel_rfl) (by kernel_rfl) ?_
        repeat (first | go_big_quiet_skip | quiet_step (with_reducible exact HH2 _ _))
        refine wpQuiet_nil ?_
        intro _ hw'
        obtain ⟨⟨dq, osq⟩, hw''⟩ := hw'
        subst hw''
        have hb35 := below_regrown (w2.alloc (.cells #[.slice A2' c.Links.length cp2, .slice A3' n cp3] 88)) dq osq
        have HB5 := Lib.hid (below_step HB3.out hb35)
        have HO5 := Lib.hid (own_keepI hb35 HO3.out)
        clear hb35 HH2 hrx hru hr5
        generalize (grow (redrawn (w2.alloc (.cells #[.slice A2' c.Links.length cp2, .slice A3' n cp3] 88)) dq) osq) = w5 at *
        have hsz6 := HB5.out.size
        rcases Int.lt_trichotomy o 0 with ho | ho | ho
        · have e1 : decide (o < 0) = true := decide_eq_true ho
          have e2 : decide (o ≤ 0) = true := decide_eq_true (by omega)
          have HNX := Lib.hid (HLK.out ho)
          have HON : Hid (w5.ownsRow w.heap.size 3 1 (.slice none 0 0) 0 (cellsI [])) := ⟨rfl, Or.inl ⟨rfl, rfl⟩⟩
          go_wp2_with (at_builtin; refine wpList_append_int w5 rfl (.tmp 37) (.tmp 39) rfl w.heap.size (.slice none 0 0) 0 [] rfl HON.out (k : Int) rfl (by omega) hsz6 ?_; intro v7 w7 hown7 hb7)
          have HO7 : Hid (w7.ownsRow w.heap.size 3 1 v7 (bestTo M r (k + 1)).length (cellsI (bestTo M r (k + 1)))) := by unfold Hid; rw [HNX.out]; exact hown7
          have HB7 := Lib.hid (HB5.out.trans hb7)
          obtain ⟨A7, c7, rfl⟩ := own_formI hown7
          clear hown7 hb7
          go_wp2
          go_roundw
          case rel => exact ⟨k + 1, by omega, by go_num, HO7.out, HB7.out⟩
          case measure => simp [intOf]; omega
        · have e1 : decide (o < 0) = false := decide_eq_false (by omega)
          have e2 : decide (o ≤ 0) = true := decide_eq_true (by omega)
          have HNX := Lib.hid (HSK.out ho)
          go_wp2_with (at_builtin; refine wpList_append_int w5 rfl (.tmp 37) (.tmp 39) rfl w.heap.size (.slice (some ⟨gu, ou, none⟩) LB cu) LB (bestTo M r k) rfl HO5.out (k : Int) rfl (by omega) hsz6 ?_; intro v7 w7 hown7 hb7)
          have HO7 : Hid (w7.ownsRow w.heap.size 3 1 v7 (bestTo M r (k + 1)).length (cellsI (bestTo M r (k + 1)))) := by unfold Hid; rw [HNX.out, List.length_append, hLB]; exact hown7
          have HB7 := Lib.hid (HB5.out.trans hb7)
          obtain ⟨A7, c7, rfl⟩ := own_formI hown7
          clear hown7 hb7
          go_wp2
          go_roundw
          case rel => exact ⟨k + 1, by omega, by go_num, HO7.out, HB7.out⟩
          case measure => simp [intOf]; omega
        · have e1 : decide (o < 0) = false := decide_eq_false (by omega)
          have e2 : decide (o ≤ 0) = false := decide_eq_false (by omega)
          have HNX := Lib.hid (HMM.out ho)
          have HO7 : Hid (w5.ownsRow w.heap.size 3 1 (.slice (some ⟨gu, ou, none⟩) LB cu) (bestTo M r (k + 1)).length (cellsI (bestTo M r (k + 1)))) := by unfold Hid; rw [HNX.out, hLB]; exact HO5.out
          go_wp2
          go_roundw
          case rel => exact ⟨k + 1, by omega, by go_num, HO7.out, HB5.out⟩
          case measure => simp [intOf]; omega
    · obtain rfl : k = N := by omega
      have HRR := Lib.hid (own_ints HOW.out (by omega) (HI64.out k (by omega)))
      go_wp2
      go_ret
      exact HP.out _ _ HRR.out HB.out
set_option maxHeartbeats 4000000 in
theorem implWin_any (x : DTableau) (r : List Int) (A1 : Option Addr) (c1 : Nat) (A2 : Option Addr) (c2 : Nat) (A3 : Option Addr) (c3 : Nat) (vr : Value) (F1 F2 F3 Fr : Addr → Prop) (w : World) (hm : rTableau.sz x ≤ 1048576) (hv : TabRd false w (.slice A1 x.Names.length c1) (.slice A2 x.Rows.length c2) (.slice A3 x.Marks.length c3) x F1 F2 F3) (hvr : RowRd Rep.int false w vr r Fr) (hT : FeatTab w) :
    Calls Tryz.prog 16 #[.agg #[.string x.Input, .slice A1 x.Names.length c1, .slice A2 x.Rows.length c2, .slice A3 x.Marks.length c3], vr] w (IntPost11 (winW x r) w) := by
  obtain ⟨hz0, hz1, hz2, hz3, hz4, hz5⟩ := szTab_parts hm
  have hmr := hvr.max
  have HA : Hid (∀ o, Below w.heap.size w (w.alloc o)) := fun o => (Below.refl _ _).alloc (Nat.le_refl _) _
  have HRS : Hid (∀ W, Below w.heap.size w W → Calls Tryz.prog 56 #[.agg #[.string x.Input, .slice A1 x.Names.length c1, .slice A2 x.Rows.length c2, .slice A3 x.Marks.length c3]] W (MkPost x W)) := fun W hW => implRows_any x A1 c1 A2 c2 A3 c3 F1 F2 F3 W hm (hv.kept hW) (feat_below hT hW)
  have HRK : Hid (∀ W, Below w.heap.size w W → Calls Tryz.prog 54 #[vr, .int .i64 (x.Names.length : Int)] W fun e w' => e = .returned (.bool (rkB r x.Names.length)) ∧ W = w') := fun W hW => implRk_any r (x.Names.length : Int) _ Fr W (hvr.kept hW)
  have HP : Hid (∀ u w', RowRd Rep.int true w' u (winW x r) (fun a => w.heap.size ≤ a.block) → Below w.heap.size w w' → IntPost11 (winW x r) w (.returned u) w') := fun u w' h1 h2 => ⟨u, rfl, h1, h2⟩
  have HN : Hid (rkB r x.Names.length = false → winW x r = []) := fun h => winW_no (by rw [h, Bool.and_false])
  have HBE : Hid (rkB r x.Names.length = true → ∀ (W : World) (u : Value) (G : Addr → Prop), Below w.heap.size w W → RowRd rMk false W u (rowsL x) G → Calls Tryz.prog 55 #[u, vr] W (IntPost11 (winW x r) W)) := fun h W u G hW hu => by
    have hl : (rowsL x).length ≤ 1000000 ∧ bestTo x.Marks r (rowsL x).length = winW x r := by
      cases ht : isTab x with
      | true =>
        have h3 := headT_parts (headT_of ht)
        refine ⟨by rw [rowsL_len ht]; omega, ?_⟩
        rw [winW_yes ht h, rowsL_len ht, ← h3.2.2.2.2]; rfl
      | false =>
        rw [rowsL_no ht, winW_no (by rw [ht]; rfl)]
        exact ⟨by simp, rfl⟩
    have hb := implBest_any (rowsL x) x.Marks r x.Names.length u vr G Fr W hl.1 (fun k c m hk => by
      obtain ⟨h1, h2, h3⟩ := rowsL_of hk
      exact ⟨by rw [List.getD_eq_getElem?_getD, h3]; rfl, tab_marks h1 h3⟩) h hu (hvr.kept hW)
    rw [hl.2] at hb
    exact hb
  have HI0 : Hid (InC (w.alloc (.cells #[.string x.Input, .slice A1 x.Names.length c1, .slice A2 x.Rows.length c2, .slice A3 x.Marks.length c3] 32)) w.heap.size #[.string x.Input, .slice A1 x.Names.length c1, .slice A2 x.Rows.length c2, .slice A3 x.Marks.length c3] 32) := heap_alloc_new _ _
  clear hv hvr hm hT hz4 hz5
  generalize winW x r = R at *
  generalize hrb : rkB r (x.Names.length : Int) = rb at *
  clear hrb
  have b0 := HI0.out.cell 0 rfl
  have b1 := HI0.out.cell 1 rfl
  have b2 := HI0.out.cell 2 rfl
  have b3 := HI0.out.cell 3 rfl
  go_enter Tryz.func16, Tryz.ntmps16
  go_wp2_with fail
  refine (HRK.out _ (HA.out _)).mono ?_
  rintro e w1 ⟨rfl, rfl⟩
  cases rb
  case false =>
    have HE := Lib.hid (HN.out rfl)
    go_wp2
    go_ret
    exact HP.out _ _ (by rw [HE.out]; exact RowRd.nil _ _ _) (HA.out _)
  have HBB := Lib.hid (HBE.out rfl)
  go_wp2_with fail
  refine (HRS.out _ (HA.out _)).mono ?_
  rintro e w2 ⟨u, G, rfl, hrow, hb2⟩
  have HB2 := Lib.hid (below_step (HA.out _) hb2)
  have HCC := Lib.hid (HBB.out w2 u G HB2.out hrow)
  clear hrow hb2 b0 b1 b2 b3
  go_wp2_with fail
  refine HCC.out.mono ?_
  rintro e w3 ⟨u3, rfl, hr3, hb3⟩
  have HR3 := Lib.hid (hr3.mono (G := fun a => w.heap.size ≤ a.block) fun a ha => Nat.le_trans HB2.out.size ha)
  have HB3 := Lib.hid (below_step HB2.out hb3)
  clear hr3 hb3
  go_wp2
  go_ret
  exact HP.out _ _ HR3.out HB3.out
end Go.Proofs.YtkaihnlknncfdaaGreatDoor

/- The laws' szStringS. -/
namespace Go.Proofs.YtkaihnlknncfdaaGreatDoor
set_option maxRecDepth 100000
open Go.RowKit Go.Sort M
set_option linter.unusedVariables false
set_option linter.unusedSimpArgs false

def szTo (l : List ByteArray) (k : Nat) : Nat := l.length + ((l.take k).map (·.size)).sum
theorem szTo_zero (l : List ByteArray) : szTo l 0 = l.length := by simp [szTo]
theorem szTo_step {l : List ByteArray} {k : Nat} {x : ByteArray} (h : l[k]? = some x) : szTo l (k + 1) = szTo l k + x.size := by
  unfold szTo
  rw [List.take_add_one, h]
  simp
  omega
theorem szTo_all (l : List ByteArray) : szTo l l.length = szRow (Rep.str mkT) l := by
  unfold szTo szRow
  rw [List.take_length]
  rfl
set_option maxHeartbeats 1000000 in
theorem szStringS_any (v : Value) (l : List ByteArray) (left : Int) (F : Addr → Prop) (w : World) (h0 : 0 ≤ left) (h1 : left ≤ 1048576) (hv : RowRd (Rep.str mkT) false w v l F) :
    Calls Tryz.prog 32 #[v, .int .i64 left] w fun e w' => (∃ z : Int, e = .returned (.int .i64 z) ∧ (z < 0 ∨ z + (szRow (Rep.str mkT) l : Nat) = left ∧ 0 ≤ z)) ∧ Below w.heap.size w w' := by
  have hmx := hv.max
  obtain ⟨A, cap, rfl⟩ := hv.form
  have HV := Lib.hid hv
  clear hv
  have HX : Hid (∀ k, k < l.length → ∃ y, l[k]? = some y) := fun k hk => ⟨_, List.getElem?_eq_getElem hk⟩
  have HS : Hid (szTo l l.length = szRow (Rep.str mkT) l) := szTo_all l
  have H0 : Hid (szTo l 0 = l.length) := szTo_zero l
  have HST : Hid (∀ k x, l[k]? = some x → szTo l (k + 1) = szTo l k + x.size) := fun k x h => szTo_step h
  go_enter Tryz.func32, Tryz.ntmps32
  by_cases h : left - (l.length : Int) < 0
  · go_wp2
    go_ret
    exact ⟨⟨-1, rfl, Or.inl (by omega)⟩, Below.refl _ _⟩
  · go_wp2
    go_loop [1, 5] (fun q i => ∃ (k : Nat) (z : Int), k ≤ l.length ∧ i = .int .i64 k ∧ q = .int .i64 z ∧ 0 ≤ z ∧ z ≤ 1048576 ∧ Hid (z + (szTo l k : Nat) = left)) (fun _ i => l.length - (intOf i).toNat)
    case atStart => exact ⟨0, _, by omega, rfl, rfl, by omega, by omega, by unfold Hid; rw [H0.out]; omega⟩
    case round =>
      obtain ⟨k, z, hk, rfl, rfl, hz0, hz1, hs⟩ := hrel
      by_cases hkl : k < l.length
      · obtain ⟨y, hy⟩ := HX.out k hkl
        have HSY := Lib.hid (HST.out k y hy)
        obtain ⟨g, off, xs, Fk, rfl, _, hra, _, hca⟩ := HV.out.get hy
        obtain ⟨rfl, hys⟩ := hra
        rw [show (Rep.str mkT).size = 1 from rfl] at hca
        have c0 := hca 0 _ rfl
        simp only [Nat.add_zero, Nat.mul_one] at c0
        clear hca hy
        by_cases hneg : z - (y.size : Int) < 0
        · go_wp2
          go_ret
          exact ⟨⟨-1, rfl, Or.inl (by omega)⟩, Below.refl _ _⟩
        · go_wp2
          go_round
          case rel => exact ⟨k + 1, z - (y.size : Int), by omega, by first | rfl | go_num, by first | rfl | go_num, by omega, by omega, by unfold Hid; rw [HSY.out]; have := hs.out; omega⟩
          case measure => simp [intOf]; omega
      · obtain rfl : k = l.length := by omega
        go_wp2
        go_ret
        exact ⟨⟨z, rfl, Or.inr ⟨by rw [← HS.out]; exact hs.out, hz0⟩⟩, Below.refl _ _⟩
end Go.Proofs.YtkaihnlknncfdaaGreatDoor

/- Sizes of rows, element by element. -/
namespace Go.Proofs.YtkaihnlknncfdaaGreatDoor
set_option maxRecDepth 100000
open Go.RowKit
set_option linter.unusedVariables false
set_option linter.unusedSimpArgs false

def szToE {α : Type} (E : Rep α) (l : List α) (k : Nat) : Nat := l.length + ((l.take k).map E.sz).sum
theorem szToE_zero {α : Type} (E : Rep α) (l : List α) : szToE E l 0 = l.length := by simp [szToE]
theorem szToE_step {α : Type} (E : Rep α) {l : List α} {k : Nat} {x : α} (h : l[k]? = some x) : szToE E l (k + 1) = szToE E l k + E.sz x := by
  unfold szToE
  rw [List.take_add_one, h]
  simp
  omega
theorem szToE_all {α : Type} (E : Rep α) (l : List α) : szToE E l l.length = szRow E l := by
  unfold szToE szRow
  rw [List.take_length]
end Go.Proofs.YtkaihnlknncfdaaGreatDoor

/- The laws' szLinkS. -/
namespace Go.Proofs.YtkaihnlknncfdaaGreatDoor
set_option maxRecDepth 100000
open Go.RowKit Go.Sort
set_option linter.unusedVariables false
set_option linter.unusedSimpArgs false

theorem szLinkS_any (v : Value) (l : List DLink) (left : Int) (F : Addr → Prop) (w : World) (h0 : 0 ≤ left) (h1 : left ≤ 1048576) (hv : RowRd rLink false w v l F) :
    Calls Tryz.prog 74 #[v, .int .i64 left] w fun e w' => (∃ z : Int, e = .returned (.int .i64 z) ∧ (z < 0 ∨ z + (szRow rLink l : Nat) = left ∧ 0 ≤ z)) ∧ Below w.heap.size w w' := by
  have HS : Hid (szRow rLink l = l.length) := szRow_flat _ (fun _ => rfl) l
  have hmx := hv.max
  obtain ⟨A, cap, rfl⟩ := hv.form
  clear hv
  generalize l.length = n at *
  go_enter Tryz.func74, Tryz.ntmps74
  by_cases h : left - (n : Int) < 0
  · go_wp2
    go_ret
    exact ⟨⟨-1, rfl, Or.inl (by omega)⟩, Below.refl _ _⟩
  · go_wp2
    go_ret
    exact ⟨⟨_, rfl, Or.inr ⟨by rw [HS.out]; omega, by omega⟩⟩, Below.refl _ _⟩
end Go.Proofs.YtkaihnlknncfdaaGreatDoor

/- The laws' szCandidate. -/
namespace Go.Proofs.YtkaihnlknncfdaaGreatDoor
set_option maxRecDepth 100000
open Go.RowKit Go.Sort
set_option linter.unusedVariables false
set_option linter.unusedSimpArgs false

theorem szCandidate_any (x : DCandidate) (v0 : Value) (left : Int) (F : Addr → Prop) (w : World) (h0 : 0 ≤ left) (h1 : left ≤ 1048576) (hv : RowRd rLink false w v0 x.Links F) :
    Calls Tryz.prog 33 #[.agg #[v0], .int .i64 left] w fun e w' => (∃ z : Int, e = .returned (.int .i64 z) ∧ (z < 0 ∨ z + (rCandidate.sz x : Nat) = left ∧ 0 ≤ z)) ∧ Below w.heap.size w w' := by
  have HS : Hid (rCandidate.sz x = szRow rLink x.Links) := by unfold Hid; rw [rCandidate_sz]; try omega
  have HC : Hid (∀ W, Below w.heap.size w W → Calls Tryz.prog 74 #[v0, .int .i64 left] W fun e w' => (∃ z : Int, e = .returned (.int .i64 z) ∧ (z < 0 ∨ z + (szRow rLink x.Links : Nat) = left ∧ 0 ≤ z)) ∧ Below W.heap.size W w') := fun W hW => szLinkS_any v0 _ left F W h0 h1 (hv.kept hW)
  clear hv
  generalize rCandidate.sz x = n at *
  generalize szRow rLink x.Links = m at *
  go_enter Tryz.func33, Tryz.ntmps33
  go_wp2_with fail
  refine (HC.out _ ((Below.refl _ _).alloc (Nat.le_refl _) _)).mono ?_
  rintro e w1 ⟨⟨z, rfl, hz⟩, hb⟩
  have HB := Lib.hid (((Below.refl w.heap.size w).alloc (Nat.le_refl _) _).trans (hb.mono (by simp)))
  clear hb
  by_cases h : z < 0
  · go_wp2
    go_ret
    exact ⟨⟨-1, rfl, Or.inl (by omega)⟩, HB.out⟩
  · have HZ := Lib.hid (hz.resolve_left h)
    clear hz
    go_wp2
    go_ret
    exact ⟨⟨z, rfl, Or.inr (by rw [HS.out]; exact HZ.out)⟩, HB.out⟩
end Go.Proofs.YtkaihnlknncfdaaGreatDoor

/- The laws' szCandidateS. -/
namespace Go.Proofs.YtkaihnlknncfdaaGreatDoor
set_option maxRecDepth 100000
open Go.RowKit Go.Sort
set_option linter.unusedVariables false
set_option linter.unusedSimpArgs false

set_option maxHeartbeats 1000000 in
theorem szCandidateS_any (v : Value) (l : List DCandidate) (left : Int) (F : Addr → Prop) (w : World) (h0 : 0 ≤ left) (h1 : left ≤ 1048576) (hv : RowRd rCandidate false w v l F) :
    Calls Tryz.prog 48 #[v, .int .i64 left] w fun e w' => (∃ z : Int, e = .returned (.int .i64 z) ∧ (z < 0 ∨ z + (szRow rCandidate l : Nat) = left ∧ 0 ≤ z)) ∧ Below w.heap.size w w' := by
  have hmx := hv.max
  obtain ⟨A, cap, rfl⟩ := hv.form
  have HV := Lib.hid hv
  clear hv
  have HX : Hid (∀ k, k < l.length → ∃ y, l[k]? = some y) := fun k hk => ⟨_, List.getElem?_eq_getElem hk⟩
  have HS : Hid (szToE rCandidate l l.length = szRow rCandidate l) := szToE_all _ l
  have H0 : Hid (szToE rCandidate l 0 = l.length) := szToE_zero _ l
  have HST : Hid (∀ k x, l[k]? = some x → szToE rCandidate l (k + 1) = szToE rCandidate l k + rCandidate.sz x) := fun k x h => szToE_step _ h
  generalize hll : l.length = n at *
  clear hll
  go_enter Tryz.func48, Tryz.ntmps48
  by_cases h : left - (n : Int) < 0
  · go_wp2
    go_ret
    exact ⟨⟨-1, rfl, Or.inl (by omega)⟩, Below.refl _ _⟩
  · go_wp2
    go_loopw [1, 5] (fun q i wr => ∃ (k : Nat) (z : Int), k ≤ n ∧ i = .int .i64 k ∧ q = .int .i64 z ∧ 0 ≤ z ∧ z ≤ 1048576 ∧ Hid (z + (szToE rCandidate l k : Nat) = left) ∧ Below w.heap.size w wr) (fun _ i _ => n - (intOf i).toNat)
    case atStart => exact ⟨0, _, by omega, rfl, rfl, by omega, by omega, by unfold Hid; rw [H0.out]; omega, Below.refl _ _⟩
    case round =>
      obtain ⟨k, z, hk, rfl, rfl, hz0, hz1, hs, hbe⟩ := hrel
      have HBE := Lib.hid hbe
      clear hbe
      by_cases hkl : k < n
      · obtain ⟨x, hx⟩ := HX.out k hkl
        have HSY := Lib.hid (HST.out k x hx)
        obtain ⟨g, off, xs, Fk, rfl, _, hra, _, hca⟩ := (HV.out.kept HBE.out).get hx
        simp only [show rCandidate.size = 1 from rfl, Nat.mul_one] at hca
        obtain ⟨v0, rfl, q0⟩ := rCandidate_rd hra
        have HC := Lib.hid (szCandidate_any x v0 z Fk wr hz0 hz1 q0)
        have c0 := hca 0 _ rfl
        simp only [Nat.add_zero] at c0
        clear hca hx hra q0
        generalize rCandidate.sz x = sx at *
        go_wp2_with fail
        refine HC.out.mono ?_
        rintro e w2 ⟨⟨z2, rfl, hz⟩, hb⟩
        have HB2 := Lib.hid (HBE.out.trans (hb.mono HBE.out.size))
        clear hb c0
        by_cases hneg : z2 < 0
        · go_wp2
          go_ret
          exact ⟨⟨-1, rfl, Or.inl (by omega)⟩, HB2.out⟩
        · have HZ := Lib.hid (hz.resolve_left hneg)
          have hz2 : z2 ≤ 1048576 := by have := HZ.out; omega
          clear hz
          go_wp2
          go_roundw
          case rel => exact ⟨k + 1, z2, by omega, by first | rfl | go_num, by first | rfl | go_num, by omega, by omega, by unfold Hid; rw [HSY.out]; have := hs.out; have := HZ.out; omega, HB2.out⟩
          case measure => simp [intOf]; omega
      · obtain rfl : k = n := by omega
        go_wp2
        go_ret
        exact ⟨⟨z, rfl, Or.inr ⟨by rw [← HS.out]; exact hs.out, hz0⟩⟩, HBE.out⟩
end Go.Proofs.YtkaihnlknncfdaaGreatDoor

/- The laws' szIntS. -/
namespace Go.Proofs.YtkaihnlknncfdaaGreatDoor
set_option maxRecDepth 100000
open Go.RowKit Go.Sort
set_option linter.unusedVariables false
set_option linter.unusedSimpArgs false

theorem szIntS_any (v : Value) (l : List Int) (left : Int) (F : Addr → Prop) (w : World) (h0 : 0 ≤ left) (h1 : left ≤ 1048576) (hv : RowRd Rep.int false w v l F) :
    Calls Tryz.prog 101 #[v, .int .i64 left] w fun e w' => (∃ z : Int, e = .returned (.int .i64 z) ∧ (z < 0 ∨ z + (szRow Rep.int l : Nat) = left ∧ 0 ≤ z)) ∧ Below w.heap.size w w' := by
  have HS : Hid (szRow Rep.int l = l.length) := szRow_flat _ (fun _ => rfl) l
  have hmx := hv.max
  obtain ⟨A, cap, rfl⟩ := hv.form
  clear hv
  generalize l.length = n at *
  go_enter Tryz.func101, Tryz.ntmps101
  by_cases h : left - (n : Int) < 0
  · go_wp2
    go_ret
    exact ⟨⟨-1, rfl, Or.inl (by omega)⟩, Below.refl _ _⟩
  · go_wp2
    go_ret
    exact ⟨⟨_, rfl, Or.inr ⟨by rw [HS.out]; omega, by omega⟩⟩, Below.refl _ _⟩
end Go.Proofs.YtkaihnlknncfdaaGreatDoor

/- The laws' szIntSS. -/
namespace Go.Proofs.YtkaihnlknncfdaaGreatDoor
set_option maxRecDepth 100000
open Go.RowKit Go.Sort
set_option linter.unusedVariables false
set_option linter.unusedSimpArgs false

set_option maxHeartbeats 1000000 in
theorem szIntSS_any (v : Value) (l : List (List Int)) (left : Int) (F : Addr → Prop) (w : World) (h0 : 0 ≤ left) (h1 : left ≤ 1048576) (hv : RowRd (Rep.row Rep.int) false w v l F) :
    Calls Tryz.prog 49 #[v, .int .i64 left] w fun e w' => (∃ z : Int, e = .returned (.int .i64 z) ∧ (z < 0 ∨ z + (szRow (Rep.row Rep.int) l : Nat) = left ∧ 0 ≤ z)) ∧ Below w.heap.size w w' := by
  have hmx := hv.max
  obtain ⟨A, cap, rfl⟩ := hv.form
  have HV := Lib.hid hv
  clear hv
  have HX : Hid (∀ k, k < l.length → ∃ y, l[k]? = some y) := fun k hk => ⟨_, List.getElem?_eq_getElem hk⟩
  have HS : Hid (szToE (Rep.row Rep.int) l l.length = szRow (Rep.row Rep.int) l) := szToE_all _ l
  have H0 : Hid (szToE (Rep.row Rep.int) l 0 = l.length) := szToE_zero _ l
  have HST : Hid (∀ k x, l[k]? = some x → szToE (Rep.row Rep.int) l (k + 1) = szToE (Rep.row Rep.int) l k + (Rep.row Rep.int).sz x) := fun k x h => szToE_step _ h
  generalize hll : l.length = n at *
  clear hll
  go_enter Tryz.func49, Tryz.ntmps49
  by_cases h : left - (n : Int) < 0
  · go_wp2
    go_ret
    exact ⟨⟨-1, rfl, Or.inl (by omega)⟩, Below.refl _ _⟩
  · go_wp2
    go_loopw [1, 5] (fun q i wr => ∃ (k : Nat) (z : Int), k ≤ n ∧ i = .int .i64 k ∧ q = .int .i64 z ∧ 0 ≤ z ∧ z ≤ 1048576 ∧ Hid (z + (szToE (Rep.row Rep.int) l k : Nat) = left) ∧ Below w.heap.size w wr) (fun _ i _ => n - (intOf i).toNat)
    case atStart => exact ⟨0, _, by omega, rfl, rfl, by omega, by omega, by unfold Hid; rw [H0.out]; omega, Below.refl _ _⟩
    case round =>
      obtain ⟨k, z, hk, rfl, rfl, hz0, hz1, hs, hbe⟩ := hrel
      have HBE := Lib.hid hbe
      clear hbe
      by_cases hkl : k < n
      · obtain ⟨x, hx⟩ := HX.out k hkl
        have HSY := Lib.hid (HST.out k x hx)
        obtain ⟨g, off, xs, Fk, rfl, _, hra, _, hca⟩ := (HV.out.kept HBE.out).get hx
        simp only [show (Rep.row Rep.int).size = 1 from rfl, Nat.mul_one] at hca
        obtain ⟨v0, rfl, q0⟩ := id hra
        have HC := Lib.hid (szIntS_any v0 x z Fk wr hz0 hz1 q0)
        rw [show szRow Rep.int x = (Rep.row Rep.int).sz x from rfl] at HC
        have c0 := hca 0 _ rfl
        simp only [Nat.add_zero] at c0
        clear hca hx hra q0
        generalize (Rep.row Rep.int).sz x = sx at *
        go_wp2_with fail
        refine HC.out.mono ?_
        rintro e w2 ⟨⟨z2, rfl, hz⟩, hb⟩
        have HB2 := Lib.hid (HBE.out.trans (hb.mono HBE.out.size))
        clear hb c0
        by_cases hneg : z2 < 0
        · go_wp2
          go_ret
          exact ⟨⟨-1, rfl, Or.inl (by omega)⟩, HB2.out⟩
        · have HZ := Lib.hid (hz.resolve_left hneg)
          have hz2 : z2 ≤ 1048576 := by have := HZ.out; omega
          clear hz
          go_wp2
          go_roundw
          case rel => exact ⟨k + 1, z2, by omega, by first | rfl | go_num, by first | rfl | go_num, by omega, by omega, by unfold Hid; rw [HSY.out]; have := hs.out; have := HZ.out; omega, HB2.out⟩
          case measure => simp [intOf]; omega
      · obtain rfl : k = n := by omega
        go_wp2
        go_ret
        exact ⟨⟨z, rfl, Or.inr ⟨by rw [← HS.out]; exact hs.out, hz0⟩⟩, HBE.out⟩
end Go.Proofs.YtkaihnlknncfdaaGreatDoor
