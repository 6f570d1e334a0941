/- Merged: Dp11 TmStringS TmLinkS TmCandidateS TmIntS TmIntSS TmTableau Tc11 ThIntS. -/
import Derived.Test.YtkaihnlknncfdaaGreatDoorQ12
import Derived.Test.YtkaihnlknncfdaaGreatDoorQ1
import Derived.Test.YtkaihnlknncfdaaGreatDoorQ2
import Derived.WalkKit
import Derived.BigQuiet
import Derived.Lib.QuietBelow
import Derived.Test.YtkaihnlknncfdaaGreatDoorRows
/- The program's DistinctProfiles: what it answers. -/
namespace Go.Proofs.YtkaihnlknncfdaaGreatDoor
set_option maxRecDepth 100000
open Go.RowKit Go.Sort M
set_option linter.unusedVariables false
set_option linter.unusedSimpArgs false

/-- The closure: do the marks of another row equal this row's? -/
theorem clos_any (L : List (DCandidate × List Int)) (k : Nat) (v2 v3 : Value) (m : List Int) (A : Option Addr) (n cap : Nat) (b6 b4 : Nat) (G K : Addr → Prop) (w : World) (d : Nat) (md : List Int) (cd : DCandidate) (hd : L[d]? = some (cd, md))
    (h6 : InC w b6 #[v2, v3] 88) (h4 : InC w b4 #[.slice A n cap] 74) (hr : RowRd rMk false w (.slice A n cap) L G) (hm : RowRd Rep.int false w v3 m K) (hn : L.length = n) :
    Calls Tryz.prog 95 #[.int .i64 d, .pointer (some ⟨b6, 0, none⟩), .pointer (some ⟨b4, 0, none⟩)] w fun e w' => e = .returned (.bool (decide (m = md))) ∧ Below w.heap.size w w' := by
  have hdl : d < L.length := (List.getElem?_eq_some_iff.1 hd).1
  have hmx := hr.max
  obtain ⟨g, off, xs, Fk, rfl, -, hrx, -, hc⟩ := hr.get hd
  obtain ⟨u2, u3, K1, K2, rfl, q2, q3, -⟩ := rMk_rd hrx
  rw [rMk_size] at hc
  have d3 := hc 1 _ rfl
  have c6 := h6.cell 1 rfl
  have c4 := h4.cell 0 rfl
  have HQ : Hid (∀ W, Below w.heap.size w W → Calls Tryz.prog 96 #[v3, u3] W fun e w' => e = .returned (.bool (decide (m = md))) ∧ Below W.heap.size W w') := fun W hW => marksEq_any v3 u3 m md K K2 W (hm.kept hW) (q3.kept hW)
  have hdr : (d : Int) < (n : Int) := by omega
  clear hc hrx q2 q3 hr hm hd h6 h4
  generalize decide (m = md) = r at *
  go_enter Tryz.func95, Tryz.ntmps95
  go_upto_region 1 with fail
  go_region_with (go_simp; go_at_call 96; refine (HQ.out _ ((Below.refl _ _).drew)).mono ?_; rintro e wz ⟨rfl, hbz0⟩; have HBZ := Lib.hid (below_step (Below.drew (Below.refl w.heap.size w)) hbz0); clear hbz0)
  all_goals
    go_wp2
    go_ret
    exact ⟨rfl, HBZ.out⟩
set_option maxHeartbeats 2000000 in
/-- slices.IndexFunc over numbers, with the closure. -/
theorem indexF_any (l : List Int) (v p6 p4 : Value) (P : Int → Bool) (F : Addr → Prop) (w : World) (hl : l.length ≤ 1000000000) (hv : RowRd Rep.int false w v l F)
    (hC : ∀ W, Below w.heap.size w W → ∀ d ∈ l, Calls Tryz.prog 95 #[.int .i64 d, p6, p4] W fun e w' => e = .returned (.bool (P d)) ∧ Below W.heap.size W w') :
    Calls Tryz.prog 133 #[v, .func (.func 95) #[] #[p6, p4]] w fun e w' => (∃ z : Int, e = .returned (.int .i64 z) ∧ I64 z ∧ decide (0 ≤ z) = l.any P) ∧ Below w.heap.size w w' := by
  obtain ⟨A, cap, rfl⟩ := hv.form
  have HV := Lib.hid hv
  have HC := Lib.hid hC
  have HX : Hid (∀ k, k < l.length → ∃ y, l[k]? = some y) := fun k hk => ⟨_, List.getElem?_eq_getElem hk⟩
  have HYE : Hid (∀ (k : Nat) (d : Int), l[k]? = some d → P d = true → l.any P = true) := fun k d h1 h2 => List.any_eq_true.2 ⟨d, List.mem_of_getElem? h1, h2⟩
  have HNO : Hid ((∀ (k : Nat) (d : Int), k < l.length → l[k]? = some d → P d = false) → l.any P = false) := fun h => by
    rw [List.any_eq_false]
    intro d hd
    obtain ⟨k, hk⟩ := List.getElem?_of_mem hd
    rw [h k d (List.getElem?_eq_some_iff.1 hk).1 hk]
    simp
  have HMEM : Hid (∀ (k : Nat) (d : Int), l[k]? = some d → d ∈ l) := fun k d h => List.mem_of_getElem? h
  clear hv hC
  generalize hll : l.length = n at *
  clear hll
  go_enter Tryz.func133, Tryz.ntmps133
  go_wp2
  go_loopw [8] (fun i wr => ∃ (k : Nat), k ≤ n ∧ i = .int .i64 k ∧ Hid (∀ (j : Nat) (d : Int), j < k → l[j]? = some d → P d = false) ∧ Below w.heap.size w wr) (fun i _ => n - (intOf i).toNat)
  case atStart => exact ⟨0, by omega, rfl, fun j d hj => by omega, Below.refl _ _⟩
  case round =>
    obtain ⟨k, hk, rfl, hall, hbe⟩ := hrel
    obtain ⟨w2, rfl⟩ : ∃ w2 : World, w2 = wr := ⟨_, rfl⟩
    have HBE := Lib.hid hbe
    clear hbe
    by_cases hkl : k < n
    · obtain ⟨d, hd⟩ := HX.out k hkl
      obtain ⟨g, off, xs, Fk, rfl, -, hrx, -, hc⟩ := (HV.out.kept HBE.out).get hd
      obtain ⟨rfl, -⟩ := id hrx
      rw [show Rep.int.size = 1 from rfl] at hc
      have c0 := hc 0 _ rfl
      simp only [Nat.add_zero, Nat.mul_one] at c0
      have HCD := Lib.hid (HC.out _ HBE.out d (HMEM.out k d hd))
      have HYD := Lib.hid (HYE.out k d hd)
      have HAL : Hid (P d = false → ∀ (j : Nat) (d' : Int), j < k + 1 → l[j]? = some d' → P d' = false) := fun h j d' hj hjd => by
        by_cases e : j = k
        · subst e; rw [hd] at hjd; cases hjd; exact h
        · exact hall.out j d' (by omega) hjd
      have HD := Lib.hid hd
      clear hc hrx hd
      generalize hpd : P d = pd at *
      go_wp2_with fail
      refine HCD.out.mono ?_
      rintro e w3 ⟨rfl, hb⟩
      have HB3 := Lib.hid (below_step HBE.out hb)
      clear hb c0
      cases pd with
      | true =>
        have HY := Lib.hid (HYD.out rfl)
        go_wp2
        go_ret
        exact ⟨⟨(k : Int), rfl, by unfold I64; omega, by rw [HY.out]; exact decide_eq_true (by omega)⟩, HB3.out⟩
      | false =>
        have HA := Lib.hid (HAL.out rfl)
        go_wp2
        go_roundw
        case rel => exact ⟨k + 1, by omega, by go_num, HA.out, HB3.out⟩
        case measure => simp [intOf]; omega
    · obtain rfl : k = n := by omega
      have HN := Lib.hid (HNO.out hall.out)
      go_wp2
      go_ret
      exact ⟨⟨-1, rfl, by unfold I64; omega, by rw [HN.out]; rfl⟩, HBE.out⟩
theorem containsF_any (l : List Int) (v p6 p4 : Value) (P : Int → Bool) (F : Addr → Prop) (w : World) (hl : l.length ≤ 1000000000) (hv : RowRd Rep.int false w v l F)
    (hC : ∀ W, Below w.heap.size w W → ∀ d ∈ l, Calls Tryz.prog 95 #[.int .i64 d, p6, p4] W fun e w' => e = .returned (.bool (P d)) ∧ Below W.heap.size W w') :
    Calls Tryz.prog 94 #[v, .func (.func 95) #[] #[p6, p4]] w fun e w' => e = .returned (.bool (l.any P)) ∧ Below w.heap.size w w' := by
  have HC := Lib.hid (indexF_any l v p6 p4 P F w hl hv hC)
  clear hv hC
  generalize l.any P = r at *
  go_enter Tryz.func94, Tryz.ntmps94
  go_wp2_with fail
  refine HC.out.mono ?_
  rintro e w1 ⟨⟨z, rfl, hz, hd⟩, hb⟩
  have HB := Lib.hid hb
  have HD := Lib.hid hd
  clear hb hz hd
  go_wp2
  go_ret
  exact ⟨ret_bool HD.out, HB.out⟩
set_option maxHeartbeats 16000000 in
theorem implDist_any (x : DTableau) (A1 : Option Addr) (c1 : Nat) (A2 : Option Addr) (c2 : Nat) (A3 : Option Addr) (c3 : Nat) (F1 F2 F3 : Addr → Prop) (w : World) (hm : rTableau.sz x ≤ 1048576) (hv : TabRd false w (.slice A1 x.Names.length c1) (.slice A2 x.Rows.length c2) (.slice A3 x.Marks.length c3) x F1 F2 F3) (hT : FeatTab w) :
    Calls Tryz.prog 45 #[.agg #[.string x.Input, .slice A1 x.Names.length c1, .slice A2 x.Rows.length c2, .slice A3 x.Marks.length c3]] w (IntPost11 (distL x) w) := by
  have hz2 := (szTab_parts hm).2.2.1
  have HLN : Hid (∀ k c m, (rowsL x)[k]? = some (c, m) → x.Marks.getD k [] = m) := fun k c m h => by rw [List.getD_eq_getElem?_getD, (rowsL_of h).2.2]; rfl
  have HRS : Hid (∀ W, Below w.heap.size w W → Calls Tryz.prog 56 #[.agg #[.string x.Input, .slice A1 x.Names.length c1, .slice A2 x.Rows.length c2, .slice A3 x.Marks.length c3]] W (MkPost x W)) := fun W hW => implRows_any x A1 c1 A2 c2 A3 c3 F1 F2 F3 W hm (hv.kept hW) (feat_below hT hW)
  have HX2 : Hid (∀ k, k < (rowsL x).length → ∃ y, (rowsL x)[k]? = some y) := fun k hk => ⟨_, List.getElem?_eq_getElem hk⟩
  have HRL : Hid ((rowsL x).length ≤ 1048576) := by
    unfold Hid rowsL
    split
    · rw [List.length_zip]; omega
    · simp
  have HP : Hid (∀ u w', RowRd Rep.int true w' u (distL x) (fun a => w.heap.size ≤ a.block) → Below w.heap.size w w' → IntPost11 (distL x) w (.returned u) w') := fun u w' h1 h2 => ⟨u, rfl, h1, h2⟩
  have HDQ : Hid (distL x = distTo x (rowsL x).length) := rfl
  have HDM := Lib.hid (distTo_mem x)
  have HDL := Lib.hid (distTo_len x)
  have HDY : Hid (∀ k, seenB x (distTo x k) k (distTo x k).length = true → distTo x (k + 1) = distTo x k) := fun k h => distTo_yes h
  have HDN : Hid (∀ k, seenB x (distTo x k) k (distTo x k).length = false → distTo x (k + 1) = distTo x k ++ [(k : Int)]) := fun k h => distTo_no h
  have HSB : Hid (∀ k, seenB x (distTo x k) k (distTo x k).length = (distTo x k).any fun d => decide (x.Marks.getD d.toNat [] = x.Marks.getD k [])) := fun k => by unfold seenB; rw [List.take_length]
  have HI64 := Lib.hid (dist_i64 x)
  have HA : Hid (∀ o, Below w.heap.size w (w.alloc o)) := fun o => (Below.refl _ _).alloc (Nat.le_refl _) _
  clear hv hm hT
  go_enter Tryz.func45, Tryz.ntmps45
  go_wp2_with fail
  refine (HRS.out _ (HA.out _)).mono ?_
  rintro e w1 ⟨u, G, rfl, hrow, hb⟩
  obtain ⟨Ar, cr, rfl⟩ := hrow.form
  have hmx := hrow.max
  have HB1 : Hid (Below w.heap.size w w1) := below_step (HA.out _) hb
  have HROW := Lib.hid hrow
  clear hb hrow HRS
  generalize hln : (rowsL x).length = n at *
  have HWA : Hid (Below w1.heap.size w1 (w1.alloc (.cells #[.slice Ar n cr] 74))) := (Below.refl _ _).alloc (Nat.le_refl _) _
  have HI4 : Hid (InC (w1.alloc (.cells #[.slice Ar n cr] 74)) w1.heap.size #[.slice Ar n cr] 74) := heap_alloc_new _ _
  have HRW := Lib.hid (HROW.out.kept HWA.out)
  have b4 := HI4.out.cell 0 rfl
  have hnr := HRL.out
  go_wp2
  have HOZ : Hid ((w1.alloc (.cells #[.slice Ar n cr] 74)).ownsRow (w1.alloc (.cells #[.slice Ar n cr] 74)).heap.size 3 1 (.slice none 0 0) (distTo x 0).length (cellsI (distTo x 0))) := ⟨rfl, Or.inl ⟨rfl, rfl⟩⟩
  have HBZ : Hid (Below w.heap.size w (w1.alloc (.cells #[.slice Ar n cr] 74))) := below_step HB1.out HWA.out
  clear b4
  generalize (w1.alloc (.cells #[.slice Ar n cr] 74)) = W1 at *
  go_loopw [3, 12] (fun u i wr => ∃ (k : Nat), k ≤ n ∧ i = .int .i64 k ∧ wr.ownsRow W1.heap.size 3 1 u (distTo x k).length (cellsI (distTo x k)) ∧ Below W1.heap.size W1 wr) (fun _ i _ => n - (intOf i).toNat)
  case atStart => exact ⟨0, by omega, rfl, HOZ.out, Below.refl _ _⟩
  case round =>
    obtain ⟨k, hk, rfl, hown, hbe0⟩ := hrel
    obtain ⟨w2, rfl⟩ : ∃ w2 : World, w2 = wr := ⟨_, rfl⟩
    have HB := Lib.hid hbe0
    have HOW := Lib.hid hown
    obtain ⟨Au, cu, rfl⟩ := own_formI hown
    have hdl := HDL.out k
    clear hbe0 hown
    by_cases hkl : k < n
    · obtain ⟨⟨c, m⟩, hc⟩ := HX2.out k hkl
      have HMK := Lib.hid (HLN.out k c m hc)
      obtain ⟨g2, o2, xs2, G2, rfl, -, hr2', -, hc2⟩ := (HRW.out.kept HB.out).get hc
      obtain ⟨v2, v3, K1, K2, rfl, q2, q3, -⟩ := rMk_rd hr2'
      rw [rMk_size] at hc2
      have d2 := hc2 0 _ rfl
      have d3 := hc2 1 _ rfl
      simp only [Nat.add_zero] at d2
      obtain ⟨A2', cp2, rfl⟩ := q2.form
      obtain ⟨A3', cp3, rfl⟩ := q3.form
      have HWB : Hid (Below w2.heap.size w2 (w2.alloc (.cells #[.slice A2' c.Links.length cp2, .slice A3' m.length cp3] 88))) := (Below.refl _ _).alloc (Nat.le_refl _) _
      have HI6 : Hid (InC (w2.alloc (.cells #[.slice A2' c.Links.length cp2, .slice A3' m.length cp3] 88)) w2.heap.size #[.slice A2' c.Links.length cp2, .slice A3' m.length cp3] 88) := heap_alloc_new _ _
      have HQ3 := Lib.hid q3
      have HDK := Lib.hid (HDM.out k)
      have HRU := Lib.hid ((own_ints HOW.out (by omega) (HI64.out k (by omega))).weak)
      have HCF : Hid (Calls Tryz.prog 94 #[.slice Au (distTo x k).length cu, .func (.func 95) #[] #[.pointer (some ⟨w2.heap.size, 0, none⟩), .pointer (some ⟨w1.heap.size, 0, none⟩)]] (w2.alloc (.cells #[.slice A2' c.Links.length cp2, .slice A3' m.length cp3] 88)) fun e w' => e = .returned (.bool ((distTo x k).any fun d => decide (x.Marks.getD d.toNat [] = x.Marks.getD k []))) ∧ Below (w2.alloc (.cells #[.slice A2' c.Links.length cp2, .slice A3' m.length cp3] 88)).heap.size (w2.alloc (.cells #[.slice A2' c.Links.length cp2, .slice A3' m.length cp3] 88)) w') := by
        refine containsF_any (distTo x k) _ _ _ (fun d => decide (x.Marks.getD d.toNat [] = x.Marks.getD k [])) _ _ (by omega) (HRU.out.kept HWB.out) ?_
        intro W hW d hd
        have hdr := HDK.out d hd
        obtain ⟨dn, rfl⟩ : ∃ dn : Nat, d = (dn : Int) := ⟨d.toNat, by omega⟩
        obtain ⟨⟨cd, md⟩, hcd⟩ := HX2.out dn (by omega)
        have h2 := HLN.out dn cd md hcd
        have hKW := below_step HWB.out hW
        have := clos_any (rowsL x) k _ (.slice A3' m.length cp3) m _ n cr w2.heap.size w1.heap.size _ K2 W dn md cd hcd (HI6.out.kept hW) ((HI4.out.kept HB.out).kept hKW) ((HRW.out.kept HB.out).kept hKW) (HQ3.out.kept hKW) hln
        have he : decide (x.Marks.getD ((dn : Int)).toNat [] = x.Marks.getD k []) = decide (m = md) := by rw [Int.toNat_natCast, h2, HMK.out]; exact decide_eq_decide.2 eq_comm
        rw [he]
        exact this
      have HSK := Lib.hid (HSB.out k)
      have HDYK := Lib.hid (HDY.out k)
      have HDNK := Lib.hid (HDN.out k)
      have hkr : (k : Int) < (n : Int) := by omega
      have hsz2 : W1.heap.size ≤ w2.heap.size := HB.out.size
      clear hc hr2' hc2 q2 q3
      generalize hsb : ((distTo x k).any fun d => decide (x.Marks.getD d.toNat [] = x.Marks.getD k [])) = sb at *
      clear hsb
      generalize hll : (distTo x k).length = L at *
      go_wp2_with fail
      refine HCF.out.mono ?_
      rintro e w3 ⟨rfl, hb⟩
      have hb23 : Below w2.heap.size w2 w3 := below_step HWB.out hb
      have HB3 := Lib.hid (below_step HB.out hb23)
      have HO3 := Lib.hid (own_keepI hb23 HOW.out)
      have hsz3 := Nat.le_trans hsz2 hb23.size
      clear hb hb23 d2 d3
      cases sb with
      | true =>
        have HD1 := Lib.hid (HDYK.out HSK.out)
        have HO5 : Hid (w3.ownsRow W1.heap.size 3 1 (.slice Au L cu) (distTo x (k + 1)).length (cellsI (distTo x (k + 1)))) := by unfold Hid; rw [HD1.out, hll]; exact HO3.out
        go_wp2
        go_roundw
        case rel => exact ⟨k + 1, by omega, by go_num, HO5.out, HB3.out⟩
        case measure => simp [intOf]; omega
      | false =>
        have HD1 := Lib.hid (HDNK.out HSK.out)
        have hj9 : L ≤ 1000000000 := by omega
        go_wp2_with (at_builtin; go_loud (refine wpList_append_int w3 rfl (.tmp 22) (.tmp 24) rfl W1.heap.size (.slice Au L cu) L (distTo x k) rfl HO3.out (k : Int) rfl hj9 hsz3 ?_; intro v5 w5 hown5 hb5))
        have HO5 : Hid (w5.ownsRow W1.heap.size 3 1 v5 (distTo x (k + 1)).length (cellsI (distTo x (k + 1)))) := by unfold Hid; rw [HD1.out, List.length_append, hll]; exact hown5
        have HB5 := Lib.hid (HB3.out.trans hb5)
        obtain ⟨A5, c5, rfl⟩ := own_formI hown5
        clear hown5 hb5
        go_wp2
        go_roundw
        case rel => exact ⟨k + 1, by omega, by go_num, HO5.out, HB5.out⟩
        case measure => simp [intOf]; omega
    · obtain rfl : k = n := by omega
      have hs0 := HBZ.out.size
      have HRR := Lib.hid ((own_ints HOW.out (by omega) (HI64.out _ (by omega))).mono (G := fun a => w.heap.size ≤ a.block) (fun a ha => by omega))
      go_wp2
      go_ret
      exact HP.out _ _ (by rw [HDQ.out]; exact HRR.out) (below_step HBZ.out HB.out)
end Go.Proofs.YtkaihnlknncfdaaGreatDoor

/- The laws' markStringS. -/
namespace Go.Proofs.YtkaihnlknncfdaaGreatDoor
set_option maxRecDepth 100000
open Go.RowKit Go.Sort M
set_option linter.unusedVariables false
set_option linter.unusedSimpArgs false

theorem mkD_len : ∀ (f c : Nat) (out : List UInt8), (mkD f c out).length ≤ f + out.length
  | 0, _, out => by unfold mkD; omega
  | f + 1, c, out => by
    unfold mkD
    split
    · omega
    · have := mkD_len f (c / 10) (byt ((48 + c % 10 : Nat) : Int) :: out)
      simp only [List.length_cons] at this
      omega
theorem mkT_size (k : Nat) : (mkT k).size ≤ 9223372036854775807 := by
  have := mkD_len 20 k []
  have h2 : (mkT k).size = (mkD 20 k []).length + 1 := rfl
  simp only [List.length_nil] at this
  omega
set_option maxHeartbeats 2000000 in
theorem markStrs_any (v : Value) (l : List ByteArray) (z : Int) (k0 : Nat) (hz : z = (k0 : Int)) (base : Nat) (F0 : Addr → Prop) (w : World) (hF0 : ∀ a, F0 a → base ≤ a.block) (hk : k0 + cntRow (Rep.str mkT) l ≤ 1000000000) (h1k : 1 ≤ k0) (hbase : base ≤ w.heap.size) (hv0 : RowRd (Rep.str mkT) true w v l F0) :
    Calls Tryz.prog 25 #[v, .int .i64 z] w fun e w' => e = .returned (.int .i64 ((k0 + cntRow (Rep.str mkT) l : Nat) : Int)) ∧ RowRd (Rep.str mkT) true w' v (labRow (Rep.str mkT) k0 l) F0 ∧ Unch F0 w w' ∧ Below base w w' := by
  subst hz
  have hv := hv0.tight
  have HG : Hid (∀ a, (F0 a ∧ a.block < w.heap.size) → F0 a) := fun _ h => h.1
  have HFS : Hid (∀ a, (F0 a ∧ a.block < w.heap.size) → a.block < w.heap.size) := fun _ h => h.2
  have HFB : Hid (∀ a, (F0 a ∧ a.block < w.heap.size) → base ≤ a.block) := fun a h => hF0 a h.1
  generalize hF : (fun a => F0 a ∧ a.block < w.heap.size) = F at hv
  have HG : Hid (∀ a, F a → F0 a) := by subst hF; exact HG
  have HFS : Hid (∀ a, F a → a.block < w.heap.size) := by subst hF; exact HFS
  have HFB : Hid (∀ a, F a → base ≤ a.block) := by subst hF; exact HFB
  clear hF hF0
  have hmx := hv.max
  have HMX := Lib.hid hmx
  obtain ⟨A, cap, rfl⟩ := hv.form
  have HV := Lib.hid hv
  clear hv hv0
  have HX : Hid (∀ k, k < l.length → ∃ x, l[k]? = some x) := fun k hk => ⟨_, List.getElem?_eq_getElem hk⟩
  have HEND : Hid (labTo (Rep.str mkT) k0 l l.length = labRow (Rep.str mkT) k0 l ∧ cntTo (Rep.str mkT) l l.length = cntRow (Rep.str mkT) l) := ⟨labTo_all _ _ _, cntTo_all _ _⟩
  have HLE := Lib.hid (cntTo_le (Rep.str mkT) l)
  have H0 := Lib.hid (labTo_zero (Rep.str mkT) k0 l)
  have H00 : Hid (cntTo (Rep.str mkT) l 0 = 0) := rfl
  generalize hll : l.length = n at *
  clear hll
  generalize cntRow (Rep.str mkT) l = cr at *
  go_enter Tryz.func25, Tryz.ntmps25
  go_wp2
  go_loopw [1, 5] (fun q i wr => ∃ (k : Nat), k ≤ n ∧ i = .int .i64 k ∧ q = .int .i64 ((k0 + cntTo (Rep.str mkT) l k : Nat) : Int) ∧ RowRd (Rep.str mkT) true wr (.slice A n cap) (labTo (Rep.str mkT) k0 l k) F ∧ Unch F w wr ∧ Below base w wr) (fun _ i _ => n - (intOf i).toNat)
  case atStart => exact ⟨0, by omega, rfl, by rw [H00.out]; rfl, by rw [H0.out]; exact HV.out, Unch.refl _ _, Below.refl _ _⟩
  case round =>
    obtain ⟨k, hk, rfl, rfl, hrow, hun, hbe⟩ := hrel
    have HUN := Lib.hid hun
    have HBE := Lib.hid hbe
    clear hun hbe
    by_cases hkl : k < n
    · obtain ⟨x, hx⟩ := HX.out k hkl
      have hcs := cntTo_step (Rep.str mkT) l k hx
      have hle := HLE.out (k + 1)
      have HLS := Lib.hid (labTo_step (Rep.str mkT) k0 l k hx)
      have hx1 : (Rep.str mkT).cnt x = 1 := rfl
      rw [hx1] at hcs
      have HLT := Lib.hid (labTo_at (Rep.str mkT) k0 l k hx)
      have HROW := Lib.hid hrow
      have hcb0 : k0 + cntTo (Rep.str mkT) l k + 1 ≤ 1000000000 := by omega
      have HCS := Lib.hid hcs
      clear hrow hcs
      generalize hc : k0 + cntTo (Rep.str mkT) l k = c at *
      have HC := Lib.hid hc
      clear hc
      go_wp2_with fail
      refine (markText_any c _ (by have := HC.out; omega) (by omega)).mono ?_
      rintro e w1 ⟨rfl, hb1⟩
      have hrow1 := HROW.out.kept hb1
      have HUN1 := Lib.hid (HUN.out.trans (Unch.below hb1))
      have HBE1 := Lib.hid (HBE.out.trans (hb1.mono (Nat.le_trans hbase HBE.out.size)))
      clear hb1
      obtain ⟨g, off, xs, Fk, rfl, hrd, hel, hFk, hcl, hput⟩ := hrow1.open HLT.out
      simp only [show (Rep.str mkT).size = 1 from rfl, Nat.mul_one] at hel hcl hput
      have HCL := Lib.hid hcl
      have HFK := Lib.hid hFk
      have HPUT := Lib.hid hput
      clear hrow1 hcl hFk hput
      obtain ⟨rfl, _⟩ := id hrd
      clear hrd
      have c0 := hel.cell 0 rfl
      have f0 := hel.free 0 (by decide)
      have hs0 := hel.set 0 (by decide) (.string (mkT c))
      simp only [Nat.add_zero] at c0 f0 hs0
      simp only [List.set] at hs0
      have HUE := Lib.hid (HUN1.out.trans (Unch.set (p := ⟨g, off + k, none⟩) (HCL.out 0 (by decide)).1 (.string (mkT c))))
      have HBB := Lib.hid (HBE1.out.setCell (p := ⟨g, off + k, none⟩) (HFB.out _ (HCL.out 0 (by decide)).1) (.string (mkT c)))
      have HEE := Lib.hid hs0
      have HMT := Lib.hid (mkT_size c)
      have hcb : c + 1 ≤ 1000000001 := by omega
      clear hs0 hel
      go_wp2
      go_roundw
      case rel =>
        refine ⟨k + 1, by omega, by go_num, ?_, ?_, HUE.out, HBB.out⟩
        · have e1 := HCS.out
          have e2 := HC.out
          congr 1
          omega
        · rw [← HLS.out]
          exact (HPUT.out _ _ ((Rep.str mkT).lab c x) Fk HEE.out ⟨rfl, HMT.out⟩ (fun a h => Or.inl h)).mono (fun a h => h.elim id (HFK.out a))
      case measure => simp [intOf]; omega
    · obtain rfl : k = n := by omega
      rw [HEND.out.1] at hrow
      have HR := Lib.hid (hrow.mono HG.out)
      have HCN := Lib.hid HEND.out.2
      clear hrow
      go_wp2
      go_ret
      exact ⟨ret_i64 (by rw [HCN.out]), HR.out, HUN.out.mono HG.out, HBE.out⟩
end Go.Proofs.YtkaihnlknncfdaaGreatDoor

/- The laws' markLinkS. -/
namespace Go.Proofs.YtkaihnlknncfdaaGreatDoor
set_option maxRecDepth 100000
open Go.RowKit Go.Sort
set_option linter.unusedVariables false
set_option linter.unusedSimpArgs false

set_option maxHeartbeats 2000000 in
theorem markLinkS_any (v : Value) (l : List DLink) (z : Int) (k0 : Nat) (hz : z = (k0 : Int)) (base : Nat) (F0 : Addr → Prop) (w : World) (hF0 : ∀ a, F0 a → base ≤ a.block) (hk : k0 + cntRow rLink l ≤ 1000000000) (h1k : 1 ≤ k0) (hv0 : RowRd rLink true w v l F0) :
    Calls Tryz.prog 84 #[v, .int .i64 z] w fun e w' => e = .returned (.int .i64 ((k0 + cntRow rLink l : Nat) : Int)) ∧ RowRd rLink true w' v (labRow rLink k0 l) F0 ∧ Unch F0 w w' ∧ Below base w w' := by
  subst hz
  have hv := hv0.tight
  have HG : Hid (∀ a, (F0 a ∧ a.block < w.heap.size) → F0 a) := fun _ h => h.1
  have HFS : Hid (∀ a, (F0 a ∧ a.block < w.heap.size) → a.block < w.heap.size) := fun _ h => h.2
  have HFB : Hid (∀ a, (F0 a ∧ a.block < w.heap.size) → base ≤ a.block) := fun a h => hF0 a h.1
  generalize hF : (fun a => F0 a ∧ a.block < w.heap.size) = F at hv
  have HG : Hid (∀ a, F a → F0 a) := by subst hF; exact HG
  have HFS : Hid (∀ a, F a → a.block < w.heap.size) := by subst hF; exact HFS
  have HFB : Hid (∀ a, F a → base ≤ a.block) := by subst hF; exact HFB
  clear hF hF0
  have hmx := hv.max
  have HMX := Lib.hid hmx
  obtain ⟨A, cap, rfl⟩ := hv.form
  have HV := Lib.hid hv
  clear hv hv0
  have HX : Hid (∀ k, k < l.length → ∃ x, l[k]? = some x) := fun k hk => ⟨_, List.getElem?_eq_getElem hk⟩
  have HEND : Hid (labTo rLink k0 l l.length = labRow rLink k0 l ∧ cntTo rLink l l.length = cntRow rLink l) := ⟨labTo_all _ _ _, cntTo_all _ _⟩
  have HLE := Lib.hid (cntTo_le rLink l)
  have H0 := Lib.hid (labTo_zero rLink k0 l)
  have H00 : Hid (cntTo rLink l 0 = 0) := rfl
  generalize hll : l.length = n at *
  clear hll
  generalize cntRow rLink l = cr at *
  go_enter Tryz.func84, Tryz.ntmps84
  go_wp2
  go_loopw [1, 5] (fun q i wr => ∃ (k : Nat), k ≤ n ∧ i = .int .i64 k ∧ q = .int .i64 ((k0 + cntTo rLink l k : Nat) : Int) ∧ RowRd rLink true wr (.slice A n cap) (labTo rLink k0 l k) F ∧ Unch F w wr ∧ Below base w wr) (fun _ i _ => n - (intOf i).toNat)
  case atStart => exact ⟨0, by omega, rfl, by rw [H00.out]; rfl, by rw [H0.out]; exact HV.out, Unch.refl _ _, Below.refl _ _⟩
  case round =>
    obtain ⟨k, hk, rfl, rfl, hrow, hun, hbe⟩ := hrel
    have HUN := Lib.hid hun
    have HBE := Lib.hid hbe
    clear hun hbe
    by_cases hkl : k < n
    · obtain ⟨x, hx⟩ := HX.out k hkl
      have hcs := cntTo_step rLink l k hx
      have hle := HLE.out (k + 1)
      have HLS := Lib.hid (labTo_step rLink k0 l k hx)
      obtain ⟨g, off, xs, Fk, rfl, hrd, hel, hFk, hcl, hput⟩ := hrow.open (labTo_at rLink k0 l k hx)
      rw [show rLink.size = 2 from rfl] at hel hcl hput
      rw [rLink_cnt] at hcs
      have HCL := Lib.hid hcl
      have HFK := Lib.hid hFk
      have HPUT := Lib.hid hput
      have HCS := Lib.hid hcs
      have hcb0 : k0 + cntTo rLink l k + (1 + (1)) ≤ 1000000000 := by omega
      clear hrow hcl hFk hput hcs
      generalize hc : k0 + cntTo rLink l k = c at *
      have hcb : c + 1 ≤ 1000000001 := by omega
      have HC := Lib.hid hc
      clear hc
      have eehrd := rLink_rd hrd
      subst eehrd
      clear hrd
      have c0 := hel.cell 0 rfl
      have f0 := hel.free 0 (by decide)
      have hs0 := hel.set 0 (by decide) (.int .u8 ((((c : Nat) : Int)) % 256))
      simp only [Nat.add_zero] at c0 f0 hs0
      simp only [List.set] at hs0
      have c1 := hs0.cell 1 rfl
      have f1 := hs0.free 1 (by decide)
      have hs1 := hs0.set 1 (by decide) (.int .u8 ((((c : Nat) : Int) + 1) % 256))
      simp only [List.set] at hs1
      have HUE := Lib.hid ((HUN.out.trans (Unch.set (p := ⟨g, off + k * 2, none⟩) (HCL.out 0 (by decide)).1 (.int .u8 ((((c : Nat) : Int)) % 256)))).trans (Unch.set (p := ⟨g, off + k * 2 + 1, none⟩) (HCL.out 1 (by decide)).1 (.int .u8 ((((c : Nat) : Int) + 1) % 256))))
      have HBB := Lib.hid ((HBE.out.setCell (p := ⟨g, off + k * 2, none⟩) (HFB.out _ (HCL.out 0 (by decide)).1) (.int .u8 ((((c : Nat) : Int)) % 256))).setCell (p := ⟨g, off + k * 2 + 1, none⟩) (HFB.out _ (HCL.out 1 (by decide)).1) (.int .u8 ((((c : Nat) : Int) + 1) % 256)))
      have HEE := Lib.hid hs1
      clear hs0 hs1 hel
      go_wp2
      go_roundw
      case rel =>
        refine ⟨k + 1, by omega, by go_num, ?_, ?_, HUE.out, HBB.out⟩
        · have e1 := HCS.out
          have e2 := HC.out
          congr 1
          omega
        · rw [← HLS.out]
          exact (HPUT.out _ _ (rLink.lab c x) Fk HEE.out (rLink_mk (x := rLink.lab c x) ) (fun a h => Or.inl h)).mono (fun a h => h.elim id (HFK.out a))
      case measure => simp [intOf]; omega
    · obtain rfl : k = n := by omega
      rw [HEND.out.1] at hrow
      have HR := Lib.hid (hrow.mono HG.out)
      have HCN := Lib.hid HEND.out.2
      clear hrow
      go_wp2
      go_ret
      exact ⟨ret_i64 (by rw [HCN.out]), HR.out, HUN.out.mono HG.out, HBE.out⟩
end Go.Proofs.YtkaihnlknncfdaaGreatDoor

/- The laws' markCandidateS. -/
namespace Go.Proofs.YtkaihnlknncfdaaGreatDoor
set_option maxRecDepth 100000
open Go.RowKit Go.Sort
set_option linter.unusedVariables false
set_option linter.unusedSimpArgs false

set_option maxHeartbeats 2000000 in
theorem markCandidateS_any (v : Value) (l : List DCandidate) (z : Int) (k0 : Nat) (hz : z = (k0 : Int)) (base : Nat) (F0 : Addr → Prop) (w : World) (hF0 : ∀ a, F0 a → base ≤ a.block) (hk : k0 + cntRow rCandidate l ≤ 1000000000) (h1k : 1 ≤ k0) (hv0 : RowRd rCandidate true w v l F0) :
    Calls Tryz.prog 59 #[v, .int .i64 z] w fun e w' => e = .returned (.int .i64 ((k0 + cntRow rCandidate l : Nat) : Int)) ∧ RowRd rCandidate true w' v (labRow rCandidate k0 l) F0 ∧ Unch F0 w w' ∧ Below base w w' := by
  subst hz
  have hv := hv0.tight
  have HG : Hid (∀ a, (F0 a ∧ a.block < w.heap.size) → F0 a) := fun _ h => h.1
  have HFS : Hid (∀ a, (F0 a ∧ a.block < w.heap.size) → a.block < w.heap.size) := fun _ h => h.2
  have HFB : Hid (∀ a, (F0 a ∧ a.block < w.heap.size) → base ≤ a.block) := fun a h => hF0 a h.1
  generalize hF : (fun a => F0 a ∧ a.block < w.heap.size) = F at hv
  have HG : Hid (∀ a, F a → F0 a) := by subst hF; exact HG
  have HFS : Hid (∀ a, F a → a.block < w.heap.size) := by subst hF; exact HFS
  have HFB : Hid (∀ a, F a → base ≤ a.block) := by subst hF; exact HFB
  clear hF hF0
  have hmx := hv.max
  have HMX := Lib.hid hmx
  obtain ⟨A, cap, rfl⟩ := hv.form
  have HV := Lib.hid hv
  clear hv hv0
  have HX : Hid (∀ k, k < l.length → ∃ x, l[k]? = some x) := fun k hk => ⟨_, List.getElem?_eq_getElem hk⟩
  have HEND : Hid (labTo rCandidate k0 l l.length = labRow rCandidate k0 l ∧ cntTo rCandidate l l.length = cntRow rCandidate l) := ⟨labTo_all _ _ _, cntTo_all _ _⟩
  have HLE := Lib.hid (cntTo_le rCandidate l)
  have H0 := Lib.hid (labTo_zero rCandidate k0 l)
  have H00 : Hid (cntTo rCandidate l 0 = 0) := rfl
  generalize hll : l.length = n at *
  clear hll
  generalize cntRow rCandidate l = cr at *
  go_enter Tryz.func59, Tryz.ntmps59
  go_wp2
  go_loopw [1, 5] (fun q i wr => ∃ (k : Nat), k ≤ n ∧ i = .int .i64 k ∧ q = .int .i64 ((k0 + cntTo rCandidate l k : Nat) : Int) ∧ RowRd rCandidate true wr (.slice A n cap) (labTo rCandidate k0 l k) F ∧ Unch F w wr ∧ Below base w wr) (fun _ i _ => n - (intOf i).toNat)
  case atStart => exact ⟨0, by omega, rfl, by rw [H00.out]; rfl, by rw [H0.out]; exact HV.out, Unch.refl _ _, Below.refl _ _⟩
  case round =>
    obtain ⟨k, hk, rfl, rfl, hrow, hun, hbe⟩ := hrel
    have HUN := Lib.hid hun
    have HBE := Lib.hid hbe
    clear hun hbe
    by_cases hkl : k < n
    · obtain ⟨x, hx⟩ := HX.out k hkl
      have hcs := cntTo_step rCandidate l k hx
      have hle := HLE.out (k + 1)
      have HLS := Lib.hid (labTo_step rCandidate k0 l k hx)
      obtain ⟨g, off, xs, Fk, rfl, hrd, hel, hFk, hcl, hput⟩ := hrow.open (labTo_at rCandidate k0 l k hx)
      simp only [show rCandidate.size = 1 from rfl, Nat.mul_one] at hel hcl hput
      rw [rCandidate_cnt] at hcs
      have HCL := Lib.hid hcl
      have HFK := Lib.hid hFk
      have HPUT := Lib.hid hput
      have HCS := Lib.hid hcs
      have hcb0 : k0 + cntTo rCandidate l k + (cntRow rLink x.Links) ≤ 1000000000 := by omega
      clear hrow hcl hFk hput hcs
      generalize hc : k0 + cntTo rCandidate l k = c at *
      have hc1 : 1 ≤ c := by omega
      have hcb : c + 1 ≤ 1000000001 := by omega
      have HC := Lib.hid hc
      clear hc
      obtain ⟨v0, rfl, q0⟩ := rCandidate_rd hrd
      clear hrd
      obtain ⟨c0', hc0⟩ : ∃ q, c + 0 + cntRow rLink x.Links = q := ⟨_, rfl⟩
      have HM0 := Lib.hid (markLinkS_any v0 x.Links (((c : Nat) : Int)) (c + 0) (by omega) base Fk _ (fun a ha => HFB.out a (HFK.out a ha)) (by omega) (by omega) q0)
      rw [hc0] at HM0
      have c0 := hel.cell 0 rfl
      simp only [Nat.add_zero, Nat.mul_one] at c0
      have HEL0 := Lib.hid hel
      clear hel q0
      go_wp2_with fail
      refine HM0.out.mono ?_
      rintro e w0 ⟨rfl, qq0, hu0, hb0⟩
      have hm0 := HEL0.out.call hu0 (fun j hj => (HCL.out j hj).2) (fun a ha => Nat.lt_of_lt_of_le (HFS.out a ha) (Nat.le_trans HUN.out.size (by simp [World.setCell])))
      clear c0
      have HUE := Lib.hid (HUN.out.trans (hu0.mono HFK.out))
      have HBB := Lib.hid (HBE.out.trans hb0)
      have HEE := Lib.hid hm0
      have HQ0 := Lib.hid qq0
      clear hm0 hu0 hb0 qq0
      go_wp2
      go_roundw
      case rel =>
        subst hc0
        refine ⟨k + 1, by omega, by go_num, ?_, ?_, HUE.out, HBB.out⟩
        · have e1 := HCS.out
          have e2 := HC.out
          congr 1
          omega
        · rw [← HLS.out]
          exact (HPUT.out _ _ (rCandidate.lab c x) Fk HEE.out (rCandidate_mk (x := rCandidate.lab c x) HQ0.out) (fun a h => Or.inl h)).mono (fun a h => h.elim id (HFK.out a))
      case measure => simp [intOf]; omega
    · obtain rfl : k = n := by omega
      rw [HEND.out.1] at hrow
      have HR := Lib.hid (hrow.mono HG.out)
      have HCN := Lib.hid HEND.out.2
      clear hrow
      go_wp2
      go_ret
      exact ⟨ret_i64 (by rw [HCN.out]), HR.out, HUN.out.mono HG.out, HBE.out⟩
end Go.Proofs.YtkaihnlknncfdaaGreatDoor

/- The laws' markIntS. -/
namespace Go.Proofs.YtkaihnlknncfdaaGreatDoor
set_option maxRecDepth 100000
open Go.RowKit Go.Sort
set_option linter.unusedVariables false
set_option linter.unusedSimpArgs false

set_option maxHeartbeats 2000000 in
theorem markIntS_any (v : Value) (l : List Int) (z : Int) (k0 : Nat) (hz : z = (k0 : Int)) (base : Nat) (F0 : Addr → Prop) (w : World) (hF0 : ∀ a, F0 a → base ≤ a.block) (hk : k0 + cntRow Rep.int l ≤ 1000000000) (h1k : 1 ≤ k0) (hv0 : RowRd Rep.int true w v l F0) :
    Calls Tryz.prog 20 #[v, .int .i64 z] w fun e w' => e = .returned (.int .i64 ((k0 + cntRow Rep.int l : Nat) : Int)) ∧ RowRd Rep.int true w' v (labRow Rep.int k0 l) F0 ∧ Unch F0 w w' ∧ Below base w w' := by
  subst hz
  have hv := hv0.tight
  have HG : Hid (∀ a, (F0 a ∧ a.block < w.heap.size) → F0 a) := fun _ h => h.1
  have HFS : Hid (∀ a, (F0 a ∧ a.block < w.heap.size) → a.block < w.heap.size) := fun _ h => h.2
  have HFB : Hid (∀ a, (F0 a ∧ a.block < w.heap.size) → base ≤ a.block) := fun a h => hF0 a h.1
  generalize hF : (fun a => F0 a ∧ a.block < w.heap.size) = F at hv
  have HG : Hid (∀ a, F a → F0 a) := by subst hF; exact HG
  have HFS : Hid (∀ a, F a → a.block < w.heap.size) := by subst hF; exact HFS
  have HFB : Hid (∀ a, F a → base ≤ a.block) := by subst hF; exact HFB
  clear hF hF0
  have hmx := hv.max
  have HMX := Lib.hid hmx
  obtain ⟨A, cap, rfl⟩ := hv.form
  have HV := Lib.hid hv
  clear hv hv0
  have HX : Hid (∀ k, k < l.length → ∃ x, l[k]? = some x) := fun k hk => ⟨_, List.getElem?_eq_getElem hk⟩
  have HEND : Hid (labTo Rep.int k0 l l.length = labRow Rep.int k0 l ∧ cntTo Rep.int l l.length = cntRow Rep.int l) := ⟨labTo_all _ _ _, cntTo_all _ _⟩
  have HLE := Lib.hid (cntTo_le Rep.int l)
  have H0 := Lib.hid (labTo_zero Rep.int k0 l)
  have H00 : Hid (cntTo Rep.int l 0 = 0) := rfl
  generalize hll : l.length = n at *
  clear hll
  generalize cntRow Rep.int l = cr at *
  go_enter Tryz.func20, Tryz.ntmps20
  go_wp2
  go_loopw [1, 5] (fun q i wr => ∃ (k : Nat), k ≤ n ∧ i = .int .i64 k ∧ q = .int .i64 ((k0 + cntTo Rep.int l k : Nat) : Int) ∧ RowRd Rep.int true wr (.slice A n cap) (labTo Rep.int k0 l k) F ∧ Unch F w wr ∧ Below base w wr) (fun _ i _ => n - (intOf i).toNat)
  case atStart => exact ⟨0, by omega, rfl, by rw [H00.out]; rfl, by rw [H0.out]; exact HV.out, Unch.refl _ _, Below.refl _ _⟩
  case round =>
    obtain ⟨k, hk, rfl, rfl, hrow, hun, hbe⟩ := hrel
    have HUN := Lib.hid hun
    have HBE := Lib.hid hbe
    clear hun hbe
    by_cases hkl : k < n
    · obtain ⟨x, hx⟩ := HX.out k hkl
      have hcs := cntTo_step Rep.int l k hx
      have hle := HLE.out (k + 1)
      have HLS := Lib.hid (labTo_step Rep.int k0 l k hx)
      obtain ⟨g, off, xs, Fk, rfl, hrd, hel, hFk, hcl, hput⟩ := hrow.open (labTo_at Rep.int k0 l k hx)
      simp only [show Rep.int.size = 1 from rfl, Nat.mul_one] at hel hcl hput
      rw [show Rep.int.cnt x = 1 from rfl] at hcs
      have HCL := Lib.hid hcl
      have HFK := Lib.hid hFk
      have HPUT := Lib.hid hput
      have HCS := Lib.hid hcs
      have hcb0 : k0 + cntTo Rep.int l k + (1) ≤ 1000000000 := by omega
      clear hrow hcl hFk hput hcs
      generalize hc : k0 + cntTo Rep.int l k = c at *
      have hcb : c + 1 ≤ 1000000001 := by omega
      have HC := Lib.hid hc
      clear hc
      obtain ⟨rfl, _⟩ := id hrd
      clear hrd
      have c0 := hel.cell 0 rfl
      have f0 := hel.free 0 (by decide)
      have hs0 := hel.set 0 (by decide) (.int .i64 (((c : Nat) : Int)))
      simp only [Nat.add_zero] at c0 f0 hs0
      simp only [List.set] at hs0
      have HUE := Lib.hid (HUN.out.trans (Unch.set (p := ⟨g, off + k, none⟩) (HCL.out 0 (by decide)).1 (.int .i64 (((c : Nat) : Int)))))
      have HBB := Lib.hid (HBE.out.setCell (p := ⟨g, off + k, none⟩) (HFB.out _ (HCL.out 0 (by decide)).1) (.int .i64 (((c : Nat) : Int))))
      have HEE := Lib.hid hs0
      clear hs0 hel
      go_wp2
      go_roundw
      case rel =>
        refine ⟨k + 1, by omega, by go_num, ?_, ?_, HUE.out, HBB.out⟩
        · have e1 := HCS.out
          have e2 := HC.out
          congr 1
          omega
        · rw [← HLS.out]
          exact (HPUT.out _ _ (Rep.int.lab c x) Fk HEE.out ⟨rfl, (by unfold I64; simp only [Rep.int]; omega)⟩ (fun a h => Or.inl h)).mono (fun a h => h.elim id (HFK.out a))
      case measure => simp [intOf]; omega
    · obtain rfl : k = n := by omega
      rw [HEND.out.1] at hrow
      have HR := Lib.hid (hrow.mono HG.out)
      have HCN := Lib.hid HEND.out.2
      clear hrow
      go_wp2
      go_ret
      exact ⟨ret_i64 (by rw [HCN.out]), HR.out, HUN.out.mono HG.out, HBE.out⟩
end Go.Proofs.YtkaihnlknncfdaaGreatDoor

/- The laws' markIntSS. -/
namespace Go.Proofs.YtkaihnlknncfdaaGreatDoor
set_option maxRecDepth 100000
open Go.RowKit Go.Sort
set_option linter.unusedVariables false
set_option linter.unusedSimpArgs false

set_option maxHeartbeats 2000000 in
theorem markIntSS_any (v : Value) (l : List (List Int)) (z : Int) (k0 : Nat) (hz : z = (k0 : Int)) (base : Nat) (F0 : Addr → Prop) (w : World) (hF0 : ∀ a, F0 a → base ≤ a.block) (hk : k0 + cntRow (Rep.row Rep.int) l ≤ 1000000000) (h1k : 1 ≤ k0) (hv0 : RowRd (Rep.row Rep.int) true w v l F0) :
    Calls Tryz.prog 60 #[v, .int .i64 z] w fun e w' => e = .returned (.int .i64 ((k0 + cntRow (Rep.row Rep.int) l : Nat) : Int)) ∧ RowRd (Rep.row Rep.int) true w' v (labRow (Rep.row Rep.int) k0 l) F0 ∧ Unch F0 w w' ∧ Below base w w' := by
  subst hz
  have hv := hv0.tight
  have HG : Hid (∀ a, (F0 a ∧ a.block < w.heap.size) → F0 a) := fun _ h => h.1
  have HFS : Hid (∀ a, (F0 a ∧ a.block < w.heap.size) → a.block < w.heap.size) := fun _ h => h.2
  have HFB : Hid (∀ a, (F0 a ∧ a.block < w.heap.size) → base ≤ a.block) := fun a h => hF0 a h.1
  generalize hF : (fun a => F0 a ∧ a.block < w.heap.size) = F at hv
  have HG : Hid (∀ a, F a → F0 a) := by subst hF; exact HG
  have HFS : Hid (∀ a, F a → a.block < w.heap.size) := by subst hF; exact HFS
  have HFB : Hid (∀ a, F a → base ≤ a.block) := by subst hF; exact HFB
  clear hF hF0
  have hmx := hv.max
  have HMX := Lib.hid hmx
  obtain ⟨A, cap, rfl⟩ := hv.form
  have HV := Lib.hid hv
  clear hv hv0
  have HX : Hid (∀ k, k < l.length → ∃ x, l[k]? = some x) := fun k hk => ⟨_, List.getElem?_eq_getElem hk⟩
  have HEND : Hid (labTo (Rep.row Rep.int) k0 l l.length = labRow (Rep.row Rep.int) k0 l ∧ cntTo (Rep.row Rep.int) l l.length = cntRow (Rep.row Rep.int) l) := ⟨labTo_all _ _ _, cntTo_all _ _⟩
  have HLE := Lib.hid (cntTo_le (Rep.row Rep.int) l)
  have H0 := Lib.hid (labTo_zero (Rep.row Rep.int) k0 l)
  have H00 : Hid (cntTo (Rep.row Rep.int) l 0 = 0) := rfl
  generalize hll : l.length = n at *
  clear hll
  generalize cntRow (Rep.row Rep.int) l = cr at *
  go_enter Tryz.func60, Tryz.ntmps60
  go_wp2
  go_loopw [1, 5] (fun q i wr => ∃ (k : Nat), k ≤ n ∧ i = .int .i64 k ∧ q = .int .i64 ((k0 + cntTo (Rep.row Rep.int) l k : Nat) : Int) ∧ RowRd (Rep.row Rep.int) true wr (.slice A n cap) (labTo (Rep.row Rep.int) k0 l k) F ∧ Unch F w wr ∧ Below base w wr) (fun _ i _ => n - (intOf i).toNat)
  case atStart => exact ⟨0, by omega, rfl, by rw [H00.out]; rfl, by rw [H0.out]; exact HV.out, Unch.refl _ _, Below.refl _ _⟩
  case round =>
    obtain ⟨k, hk, rfl, rfl, hrow, hun, hbe⟩ := hrel
    have HUN := Lib.hid hun
    have HBE := Lib.hid hbe
    clear hun hbe
    by_cases hkl : k < n
    · obtain ⟨x, hx⟩ := HX.out k hkl
      have hcs := cntTo_step (Rep.row Rep.int) l k hx
      have hle := HLE.out (k + 1)
      have HLS := Lib.hid (labTo_step (Rep.row Rep.int) k0 l k hx)
      obtain ⟨g, off, xs, Fk, rfl, hrd, hel, hFk, hcl, hput⟩ := hrow.open (labTo_at (Rep.row Rep.int) k0 l k hx)
      simp only [show (Rep.row Rep.int).size = 1 from rfl, Nat.mul_one] at hel hcl hput
      rw [show (Rep.row Rep.int).cnt x = cntRow Rep.int x from rfl] at hcs
      have HCL := Lib.hid hcl
      have HFK := Lib.hid hFk
      have HPUT := Lib.hid hput
      have HCS := Lib.hid hcs
      have hcb0 : k0 + cntTo (Rep.row Rep.int) l k + (cntRow Rep.int x) ≤ 1000000000 := by omega
      clear hrow hcl hFk hput hcs
      generalize hc : k0 + cntTo (Rep.row Rep.int) l k = c at *
      have hc1 : 1 ≤ c := by omega
      have hcb : c + 1 ≤ 1000000001 := by omega
      have HC := Lib.hid hc
      clear hc
      obtain ⟨v0, rfl, q0⟩ := id hrd
      clear hrd
      obtain ⟨c0', hc0⟩ : ∃ q, c + 0 + cntRow Rep.int x = q := ⟨_, rfl⟩
      have HM0 := Lib.hid (markIntS_any v0 x (((c : Nat) : Int)) (c + 0) (by omega) base Fk _ (fun a ha => HFB.out a (HFK.out a ha)) (by omega) (by omega) q0)
      rw [hc0] at HM0
      have c0 := hel.cell 0 rfl
      simp only [Nat.add_zero, Nat.mul_one] at c0
      have HEL0 := Lib.hid hel
      clear hel q0
      go_wp2_with fail
      refine HM0.out.mono ?_
      rintro e w0 ⟨rfl, qq0, hu0, hb0⟩
      have hm0 := HEL0.out.call hu0 (fun j hj => (HCL.out j hj).2) (fun a ha => Nat.lt_of_lt_of_le (HFS.out a ha) (Nat.le_trans HUN.out.size (by simp [World.setCell])))
      clear c0
      have HUE := Lib.hid (HUN.out.trans (hu0.mono HFK.out))
      have HBB := Lib.hid (HBE.out.trans hb0)
      have HEE := Lib.hid hm0
      have HQ0 := Lib.hid qq0
      clear hm0 hu0 hb0 qq0
      go_wp2
      go_roundw
      case rel =>
        subst hc0
        refine ⟨k + 1, by omega, by go_num, ?_, ?_, HUE.out, HBB.out⟩
        · have e1 := HCS.out
          have e2 := HC.out
          congr 1
          omega
        · rw [← HLS.out]
          exact (HPUT.out _ _ ((Rep.row Rep.int).lab c x) Fk HEE.out ⟨v0, rfl, HQ0.out⟩ (fun a h => Or.inl h)).mono (fun a h => h.elim id (HFK.out a))
      case measure => simp [intOf]; omega
    · obtain rfl : k = n := by omega
      rw [HEND.out.1] at hrow
      have HR := Lib.hid (hrow.mono HG.out)
      have HCN := Lib.hid HEND.out.2
      clear hrow
      go_wp2
      go_ret
      exact ⟨ret_i64 (by rw [HCN.out]), HR.out, HUN.out.mono HG.out, HBE.out⟩
end Go.Proofs.YtkaihnlknncfdaaGreatDoor

/- The laws' markTableau. -/
namespace Go.Proofs.YtkaihnlknncfdaaGreatDoor
set_option maxRecDepth 100000
open Go.RowKit Go.Sort M
set_option linter.unusedVariables false
set_option linter.unusedSimpArgs false

set_option maxHeartbeats 2000000 in
theorem markTableau_any (x : DTableau) (v1 v2 v3 : Value) (z : Int) (k0 : Nat) (hz : z = (k0 : Int)) (base : Nat) (F1 F2 F3 : Addr → Prop) (w : World) (hbs : base ≤ w.heap.size) (hF : ∀ a, F1 a ∨ F2 a ∨ F3 a → base ≤ a.block) (hk : k0 + cntTab x ≤ 1000000000) (h1k : 1 ≤ k0) (hv : TabRd true w v1 v2 v3 x F1 F2 F3) :
    Calls Tryz.prog 19 #[.agg #[.string x.Input, v1, v2, v3], .int .i64 z] w fun e w' => e = .returned (.int .i64 ((k0 + cntTab x : Nat) : Int)) ∧ TabRd true w' v1 v2 v3 (labTab k0 x) F1 F2 F3 ∧ Unch (fun a => F1 a ∨ F2 a ∨ F3 a) w w' ∧ Below base w w' := by
  subst hz
  unfold cntTab at hk
  have HBX : Hid (Below w.heap.size w (w.alloc (.cells #[.string x.Input, v1, v2, v3] 32))) := (Below.refl _ _).alloc (Nat.le_refl _) _
  have HA0 : Hid (InC (w.alloc (.cells #[.string x.Input, v1, v2, v3] 32)) w.heap.size #[.string x.Input, v1, v2, v3] 32) := heap_alloc_new _ _
  have HV := Lib.hid hv.tight
  have HFB := Lib.hid hF
  have HI := Lib.hid hv.inp
  have HP : Hid (∀ w', TabRd true w' v1 v2 v3 (labTab k0 x) (fun a => F1 a ∧ a.block < w.heap.size) (fun a => F2 a ∧ a.block < w.heap.size) (fun a => F3 a ∧ a.block < w.heap.size) → TabRd true w' v1 v2 v3 (labTab k0 x) F1 F2 F3) := fun w' h => ⟨h.inp, h.names.mono fun _ h => h.1, h.rows.mono fun _ h => h.1, h.marks.mono fun _ h => h.1, hv.d12, hv.d13, hv.d23⟩
  clear hv hF
  generalize hG1 : (fun a : Addr => F1 a ∧ a.block < w.heap.size) = G1 at *
  generalize hG2 : (fun a : Addr => F2 a ∧ a.block < w.heap.size) = G2 at *
  generalize hG3 : (fun a : Addr => F3 a ∧ a.block < w.heap.size) = G3 at *
  have HS : Hid (∀ a, G1 a ∨ G2 a ∨ G3 a → (F1 a ∨ F2 a ∨ F3 a) ∧ a.block < w.heap.size ∧ base ≤ a.block) := by
    subst hG1; subst hG2; subst hG3
    intro a ha
    rcases ha with ha | ha | ha
    · exact ⟨.inl ha.1, ha.2, HFB.out a (.inl ha.1)⟩
    · exact ⟨.inr (.inl ha.1), ha.2, HFB.out a (.inr (.inl ha.1))⟩
    · exact ⟨.inr (.inr ha.1), ha.2, HFB.out a (.inr (.inr ha.1))⟩
  clear hG1 hG2 hG3 HFB
  obtain ⟨c1, hc1⟩ : ∃ c, k0 + cntRow (Rep.str mkT) x.Names = c := ⟨_, rfl⟩
  obtain ⟨c2, hc2⟩ : ∃ c, c1 + cntRow rCandidate x.Rows = c := ⟨_, rfl⟩
  obtain ⟨c3, hc3⟩ : ∃ c, c2 + cntRow (Rep.row Rep.int) x.Marks = c := ⟨_, rfl⟩
  have HE : Hid (k0 + cntTab x = c3) := by unfold Hid cntTab; omega
  have HLT : Hid (labTab k0 x = ⟨x.Input, labRow (Rep.str mkT) k0 x.Names, labRow rCandidate c1 x.Rows, labRow (Rep.row Rep.int) c2 x.Marks⟩) := by unfold Hid labTab; rw [hc1, hc2]
  have HM1 : Hid (∀ W, Below w.heap.size w W → Calls Tryz.prog 25 #[v1, .int .i64 (k0 : Int)] W fun e w' => e = .returned (.int .i64 ((c1 : Nat) : Int)) ∧ RowRd (Rep.str mkT) true w' v1 (labRow (Rep.str mkT) k0 x.Names) G1 ∧ Unch G1 W w' ∧ Below base W w') := fun W hW => by
    have := markStrs_any v1 x.Names _ k0 rfl base G1 W (fun a ha => (HS.out a (.inl ha)).2.2) (by omega) h1k (Nat.le_trans hbs hW.size) (HV.out.names.kept hW)
    rw [hc1] at this
    exact this
  have HM2 : Hid (∀ W, RowRd rCandidate true W v2 x.Rows G2 → Calls Tryz.prog 59 #[v2, .int .i64 (c1 : Int)] W fun e w' => e = .returned (.int .i64 ((c2 : Nat) : Int)) ∧ RowRd rCandidate true w' v2 (labRow rCandidate c1 x.Rows) G2 ∧ Unch G2 W w' ∧ Below base W w') := fun W hW => by
    have := markCandidateS_any v2 x.Rows _ c1 rfl base G2 W (fun a ha => (HS.out a (.inr (.inl ha))).2.2) (by omega) (by omega) hW
    rw [hc2] at this
    exact this
  have HM3 : Hid (∀ W, RowRd (Rep.row Rep.int) true W v3 x.Marks G3 → Calls Tryz.prog 60 #[v3, .int .i64 (c2 : Int)] W fun e w' => e = .returned (.int .i64 ((c3 : Nat) : Int)) ∧ RowRd (Rep.row Rep.int) true w' v3 (labRow (Rep.row Rep.int) c2 x.Marks) G3 ∧ Unch G3 W w' ∧ Below base W w') := fun W hW => by
    have := markIntSS_any v3 x.Marks _ c2 rfl base G3 W (fun a ha => (HS.out a (.inr (.inr ha))).2.2) (by omega) (by omega) hW
    rw [hc3] at this
    exact this
  have HAP : Hid (∀ (W W' : World) (G : Addr → Prop), Unch G W W' → w.heap.size < W.heap.size → (∀ a, G a → a.block < w.heap.size) → InC W w.heap.size #[.string x.Input, v1, v2, v3] 32 → InC W' w.heap.size #[.string x.Input, v1, v2, v3] 32 ∨ True) := fun _ _ _ _ _ _ _ => Or.inr trivial
  clear hc1 hc2 hc3 hk HAP
  rw [HE.out, HLT.out]
  rw [HLT.out] at HP
  generalize hll0 : labRow (Rep.str mkT) k0 x.Names = L1 at *
  generalize hll1 : labRow rCandidate c1 x.Rows = L2 at *
  generalize hll2 : labRow (Rep.row Rep.int) c2 x.Marks = L3 at *
  clear hll0 hll1 hll2 HLT HE
  have HX0 := Lib.hid HV.out
  go_enter Tryz.func19, Tryz.ntmps19
  go_wp2_with fail
  refine (HM1.out _ HBX.out).mono ?_
  rintro e w1 ⟨rfl, hq1, hu1, hb1⟩
  have hsz0 : (w.alloc (.cells #[.string x.Input, v1, v2, v3] 32)).heap.size = w.heap.size + 1 := by simp
  have HU1 := Lib.hid hu1
  have c2' : w1.cell? ⟨w.heap.size, 2, none⟩ = some v2 := ((hu1.same ⟨w.heap.size, 2, none⟩ (by rw [hsz0]; exact Nat.lt_succ_self _) (fun h => by have := (HS.out _ (.inl h)).2.1; simp at this)).1).trans (HA0.out.cell 2 rfl)
  have c3' : w1.cell? ⟨w.heap.size, 3, none⟩ = some v3 := ((hu1.same ⟨w.heap.size, 3, none⟩ (by rw [hsz0]; exact Nat.lt_succ_self _) (fun h => by have := (HS.out _ (.inl h)).2.1; simp at this)).1).trans (HA0.out.cell 3 rfl)
  have HC3 := Lib.hid c3'
  have hr2 : RowRd rCandidate true w1 v2 x.Rows G2 := (HV.out.rows.kept HBX.out).apart hu1 (fun a h2 h1 => HV.out.d12 rfl a h1 h2)
  have hr3 : RowRd (Rep.row Rep.int) true w1 v3 x.Marks G3 := (HV.out.marks.kept HBX.out).apart hu1 (fun a h3 h1 => HV.out.d13 rfl a h1 h3)
  have HR2 := Lib.hid hr2
  have HR3 := Lib.hid hr3
  have HQ1 := Lib.hid hq1
  have HB1 := Lib.hid (((Below.refl base w).alloc hbs _).trans hb1)
  have HU01 : Hid (Unch (fun a => F1 a ∨ F2 a ∨ F3 a) w w1) := (Unch.below HBX.out).trans (hu1.mono (fun a h => (HS.out a (.inl h)).1))
  have hs1 := hu1.size
  rw [hsz0] at hs1
  have HS1 := Lib.hid hs1
  clear hq1 hu1 hb1 hr2 hr3 c3' HU1 hs1
  go_wp2_with fail
  refine (HM2.out _ HR2.out).mono ?_
  rintro e w2 ⟨rfl, hq2, hu2, hb2⟩
  have c3' : w2.cell? ⟨w.heap.size, 3, none⟩ = some v3 := ((hu2.same ⟨w.heap.size, 3, none⟩ HS1.out (fun h => by have := (HS.out _ (.inr (.inl h))).2.1; simp at this)).1).trans HC3.out
  have hr3 : RowRd (Rep.row Rep.int) true w2 v3 x.Marks G3 := HR3.out.apart hu2 (fun a h3 h2 => HV.out.d23 rfl a h2 h3)
  have hq12 : RowRd (Rep.str mkT) true w2 v1 L1 G1 := HQ1.out.apart hu2 (fun a h1 h2 => HV.out.d12 rfl a h1 h2)
  have HR32 := Lib.hid hr3
  have HQ12 := Lib.hid hq12
  have HQ2 := Lib.hid hq2
  have HB2 := Lib.hid (HB1.out.trans hb2)
  have HU02 : Hid (Unch (fun a => F1 a ∨ F2 a ∨ F3 a) w w2) := HU01.out.trans (hu2.mono (fun a h => (HS.out a (.inr (.inl h))).1))
  clear hq2 hu2 hb2 hr3 hq12 c2'
  go_wp2_with fail
  refine (HM3.out _ HR32.out).mono ?_
  rintro e w3 ⟨rfl, hq3, hu3, hb3⟩
  have HQ3 := Lib.hid hq3
  have HQ13 := Lib.hid (HQ12.out.apart hu3 (fun a h1 h3 => HV.out.d13 rfl a h1 h3))
  have HQ23 := Lib.hid (HQ2.out.apart hu3 (fun a h2 h3 => HV.out.d23 rfl a h2 h3))
  have HB3 := Lib.hid (HB2.out.trans hb3)
  have HU03 : Hid (Unch (fun a => F1 a ∨ F2 a ∨ F3 a) w w3) := HU02.out.trans (hu3.mono (fun a h => (HS.out a (.inr (.inr h))).1))
  clear hq3 hu3 hb3 c3'
  go_wp2
  go_ret
  exact ⟨rfl, HP.out _ ⟨HI.out, HQ13.out, HQ23.out, HQ3.out, HV.out.d12, HV.out.d13, HV.out.d23⟩, HU03.out, HB3.out⟩
end Go.Proofs.YtkaihnlknncfdaaGreatDoor

/- How many marks a table takes. -/
namespace Go.Proofs.YtkaihnlknncfdaaGreatDoor
set_option maxRecDepth 100000
open Go.RowKit M
set_option linter.unusedVariables false
set_option linter.unusedSimpArgs false

theorem cntRow_le {α : Type} (E : Rep α) (c : Nat) (h : ∀ x, E.cnt x ≤ c * (E.sz x + 1)) : ∀ l : List α, cntRow E l ≤ c * szRow E l
  | [] => by simp [cntRow]
  | x :: l => by
    have ih := cntRow_le E c h l
    have h1 := h x
    have e1 : cntRow E (x :: l) = E.cnt x + cntRow E l := by simp [cntRow]
    have e2 : szRow E (x :: l) = (E.sz x + 1) + szRow E l := by simp [szRow]; omega
    rw [e1, e2, Nat.mul_add]
    omega
theorem cntTab_le {x : DTableau} (h : rTableau.sz x ≤ 1048576) : 1 + cntTab x ≤ 1000000000 := by
  rw [rTableau_sz] at h
  have h1 := cntRow_le (Rep.str mkT) 1 (fun y => by show 1 ≤ 1 * (y.size + 1); omega) x.Names
  have h2 := cntRow_le rCandidate 2 (fun y => by
    have h3 := cntRow_le rLink 2 (fun z => by show 1 + 1 ≤ 2 * (0 + 0 + 1); omega) y.Links
    rw [rCandidate_cnt, rCandidate_sz]
    omega) x.Rows
  have h4 := cntRow_le (Rep.row Rep.int) 1 (fun y => by
    have h5 := cntRow_le Rep.int 1 (fun z => by show 1 ≤ 1 * (0 + 1); omega) y
    show cntRow Rep.int y ≤ 1 * (szRow Rep.int y + 1)
    omega) x.Marks
  unfold cntTab
  omega
end Go.Proofs.YtkaihnlknncfdaaGreatDoor

/- The laws' heldIntS. -/
namespace Go.Proofs.YtkaihnlknncfdaaGreatDoor
set_option maxRecDepth 100000
open Go.RowKit Go.Sort
set_option linter.unusedVariables false
set_option linter.unusedSimpArgs false

set_option maxHeartbeats 1000000 in
theorem heldIntS_any (v : Value) (l : List Int) (z : Int) (k0 : Nat) (hz : z = (k0 : Int)) (F : Addr → Prop) (w : World) (hk : k0 + cntRow Rep.int l ≤ 1000000000) (h1k : 1 ≤ k0) (hv : RowRd Rep.int false w v (labRow Rep.int k0 l) F) :
    Calls Tryz.prog 21 #[v, .int .i64 z] w fun e w' => e = .returned (.int .i64 ((k0 + cntRow Rep.int l : Nat) : Int)) ∧ Below w.heap.size w w' := by
  subst hz
  have hmx := hv.max
  rw [labRow_len] at hmx
  obtain ⟨A, cap, rfl⟩ := hv.form
  rw [labRow_len]
  rw [labRow_len] at hv
  have HV := Lib.hid hv
  clear hv
  have HX : Hid (∀ k, k < l.length → ∃ x, l[k]? = some x) := fun k hk => ⟨_, List.getElem?_eq_getElem hk⟩
  have HEND : Hid (cntTo Rep.int l l.length = cntRow Rep.int l) := cntTo_all _ _
  have HLE := Lib.hid (cntTo_le Rep.int l)
  have H00 : Hid (cntTo Rep.int l 0 = 0) := rfl
  generalize hll : l.length = n at *
  clear hll
  generalize cntRow Rep.int l = cr at *
  go_enter Tryz.func21, Tryz.ntmps21
  go_wp2
  go_loopw [1, 5] (fun q i wr => ∃ (k : Nat), k ≤ n ∧ i = .int .i64 k ∧ q = .int .i64 ((k0 + cntTo Rep.int l k : Nat) : Int) ∧ Below w.heap.size w wr) (fun _ i _ => n - (intOf i).toNat)
  case atStart => exact ⟨0, by omega, rfl, by rw [H00.out]; rfl, Below.refl _ _⟩
  case round =>
    obtain ⟨k, hk, rfl, rfl, hbe⟩ := hrel
    have HBE := Lib.hid hbe
    clear hbe
    by_cases hkl : k < n
    · obtain ⟨x, hx⟩ := HX.out k hkl
      have hcs := cntTo_step Rep.int l k hx
      have hle := HLE.out (k + 1)
      obtain ⟨g, off, xs, Fk, rfl, _, hrd, _, hc⟩ := (HV.out.kept HBE.out).get (labRow_at Rep.int k0 l k hx)
      simp only [show Rep.int.size = 1 from rfl, Nat.mul_one] at hc
      rw [show Rep.int.cnt x = 1 from rfl] at hcs
      have HCS := Lib.hid hcs
      have hcb0 : k0 + cntTo Rep.int l k + (1) ≤ 1000000000 := by omega
      clear hcs
      generalize hcc : k0 + cntTo Rep.int l k = c at *
      have hcb : c + 1 ≤ 1000000001 := by omega
      have HC := Lib.hid hcc
      clear hcc
      obtain ⟨rfl, _⟩ := id hrd
      clear hrd hx
      have c0 : wr.cell? ⟨g, off + k, none⟩ = some (.int .i64 (((c : Nat) : Int))) := hc 0 _ rfl
      have HBB := Lib.hid HBE.out
      clear hc
      go_wp2
      go_roundw
      case rel =>
        refine ⟨k + 1, by omega, by go_num, ?_, HBB.out⟩
        have e1 := HCS.out
        have e2 := HC.out
        congr 1
        omega
      case measure => simp [intOf]; omega
    · obtain rfl : k = n := by omega
      have HCN := Lib.hid HEND.out
      go_wp2
      go_ret
      exact ⟨ret_i64 (by rw [HCN.out]), HBE.out⟩
end Go.Proofs.YtkaihnlknncfdaaGreatDoor
