/- Reading a ranking: the model's ParseRanking: what it answers. -/
import Derived.Test.YtnildbalaedlgaaDoorPm12
import Derived.Test.YtnildbalaedlgaaDoorPc12
import Derived.Test.YtnildbalaedlgaaDoorGs12
import Derived.Test.YtnildbalaedlgaaDoorRa
namespace Go.Proofs.YtnildbalaedlgaaDoor
set_option maxRecDepth 100000
open Go.RowKit Go.Sort M
set_option linter.unusedVariables false
set_option linter.unusedSimpArgs false

/-- A row of numbers of the call's own, and whether. -/
def PrkPost (l : List Int) (b : Bool) (w : World) (e : Ending) (w' : World) : Prop := ∃ v, e = .returned (.tuple #[v, .bool b]) ∧ RowRd Rep.int true w' v l (fun a => w.heap.size ≤ a.block) ∧ Below w.heap.size w w'
theorem infoIntP12 : (Tryd.prog.info? 3).map (fun i => (i.zero, i.size, i.bytes)) = some (some (.int .i64 0), 1, 8) := by kernel_rfl
theorem OwnRd.formP12 {α : Type} {E : Rep α} {e : TypeId} {s : Bool} {base : Nat} {w : World} {v : Value} {l : List α} {G : Addr → Prop} (h : OwnRd E e s base w v l G) : ∃ A cap, v = .slice A l.length cap := by
  obtain ⟨c, _, ho, _⟩ := h
  rcases ho.2 with ⟨h1, h2⟩ | ⟨g, cap, _, h1, _⟩
  · exact ⟨none, 0, by rw [h1, h2]⟩
  · exact ⟨_, cap, h1⟩
theorem cell_keptP {B : Nat} {w w' : World} {g o : Nat} {u : Value} (hb : Below B w w') (h : w.cell? ⟨g, o, none⟩ = some u) (hB : w.heap.size ≤ B := by exact Nat.le_refl _) : w'.cell? ⟨g, o, none⟩ = some u := (hb.cell (Nat.lt_of_lt_of_le (block_lt_of_cell h) hB)).trans h
theorem text_eq12 (a b : ByteArray) : (a.toList == b.toList) = decide (a = b) := by
  by_cases h : a = b
  · subst h; simp
  · rw [decide_eq_false h, beq_eq_false_iff_ne]
    exact fun e => h (by rw [Lib.toList_data, Lib.toList_data] at e; exact ByteArray.ext (Array.toList_inj.1 e))
set_option maxHeartbeats 8000000 in
theorem specPrk_any (m : Nat → ByteArray) (l : List ByteArray) (s : ByteArray) (A : Option Addr) (cap : Nat) (F : Addr → Prop) (w : World) (hl : l.length ≤ 1000000000) (hcap : l.length ≤ cap) (hv : RowRd (Rep.str m) false w (.slice A l.length cap) l F) (hs : s.size ≤ 4000000) :
    Calls Tryd.prog 6 #[.slice A l.length cap, .string s] w (PrkPost (prkL l s) (prkB l s) w) := by
  have HV := Lib.hid hv
  have HARE : Hid (∀ W, Below w.heap.size w W → Calls Tryd.prog 17 #[.slice A l.length cap] W fun e w' => e = .returned (.bool (areC l)) ∧ Below W.heap.size W w') := fun W hW => specAre_any m l A cap F W hl hcap (hv.kept hW)
  have HFMT : Hid (∀ (r : List Int) (vr : Value) (G : Addr → Prop) W, Below w.heap.size w W → RowRd Rep.int false W vr r G → Calls Tryd.prog 19 #[.slice A l.length cap, vr] W fun e w' => e = .returned (.string (fmtRk l r)) ∧ Below W.heap.size W w') := fun r vr G W hW hr => specFmtRk_any m l r A cap vr F G W hl hcap (hv.kept hW) hr
  have HP : Hid (∀ v b w', RowRd Rep.int true w' v (prkL l s) (fun a => w.heap.size ≤ a.block) → Below w.heap.size w w' → prkB l s = b → PrkPost (prkL l s) (prkB l s) w (.returned (.tuple #[v, .bool b])) w') := fun v b w' h1 h2 h3 => ⟨v, by rw [h3], h1, h2⟩
  have HN : Hid (prkB l s = false → prkL l s = []) := fun h => by unfold prkL; rw [h]; rfl
  have HBAD : Hid (areC l = false → prkB l s = false) := fun h => by unfold prkB; rw [h]; rfl
  have HBIG : Hid (areC l = true → ¬ s.size ≤ 100 → prkB l s = false) := fun h1 h2 => by
    unfold prkB
    rw [h1, Bool.true_and]
    cases hr : rkB (idxP l s) l.length with
    | false => rfl
    | true => exact (h2 (read_yes h1 hr).2.2.2).elim
  have HIFF : Hid (areC l = true → prkB l s = (decide (fmtRk l (outP l (cutG s) (cutG s).length) = s) && decide (1 ≤ s.size))) := fun h => read_iff h
  have HYES : Hid (areC l = true → prkB l s = true → prkL l s = outP l (cutG s) (cutG s).length) := fun h1 h2 => by
    have h3 := h2
    unfold prkB at h3
    rw [h1, Bool.true_and] at h3
    unfold prkL
    rw [h2, (read_yes h1 h3).1]; rfl
  have HLE := Lib.hid (cutG_le s)
  have HCS := Lib.hid (cutG_short s hs)
  have HAL : Hid (areC l = true → l.length ≤ 5) := fun h => (areC_len h).2
  have HXL : Hid (∀ k, k < l.length → ∃ y, l[k]? = some y) := fun k hk => ⟨_, List.getElem?_eq_getElem hk⟩
  have HA0 : Hid (Below w.heap.size w (w.alloc (.cells #[] 3))) := (Below.refl _ _).alloc (Nat.le_refl _) _
  have HO0 : Hid (OwnRd Rep.int 3 true w.heap.size (w.alloc (.cells #[] 3)) (.slice (some ⟨w.heap.size, 0, none⟩) 0 0) ([] : List Int) (fun _ => False)) := OwnRd.empty w (Nat.le_refl _) _
  have HS1 : Hid (w.heap.size + 1 = (w.alloc (.cells #[] 3)).heap.size) := by unfold Hid; simp
  obtain ⟨i3, hi3, qz3, qz4, qz5⟩ := info_parts infoIntP12
  clear hv
  generalize hra : areC l = ra at *
  clear hra
  generalize hPB : prkB l s = pb at *
  generalize hPL : prkL l s = pl at *
  go_enter Tryd.func6, Tryd.ntmps6
  go_wp2_with fail
  refine (HARE.out _ HA0.out).mono ?_
  rintro e w1 ⟨rfl, hb1⟩
  have HB1 := Lib.hid (below_step HA0.out hb1)
  have HO1 := Lib.hid (OwnRd.kept HO0.out hb1)
  have hs1 : w.heap.size + 1 ≤ w1.heap.size := Nat.le_trans (Nat.le_of_eq HS1.out) hb1.size
  clear hb1 HO0 HA0 HS1 HARE
  have HRZ : Hid (RowRd Rep.int true w1 (.slice (some ⟨w.heap.size, 0, none⟩) 0 0) ([] : List Int) (fun a => w.heap.size ≤ a.block)) := RowRd.zero _ _ _ _ _
  cases ra
  case false =>
    have HB := Lib.hid (HBAD.out rfl)
    have HE := Lib.hid (HN.out (HBAD.out rfl))
    go_wp2
    go_ret2
    exact HP.out _ _ _ (by rw [HE.out]; exact HRZ.out) HB1.out HB.out
  by_cases hsz : s.size ≤ 100
  case neg =>
    have HB := Lib.hid (HBIG.out (by trivial) hsz)
    have HE := Lib.hid (HN.out HB.out)
    have hbig : (100 : Int) < (s.size : Int) := by omega
    clear hsz
    go_wp2
    go_ret2
    exact HP.out _ _ _ (by rw [HE.out]; exact HRZ.out) HB1.out HB.out
  have hbig : ¬ (100 : Int) < (s.size : Int) := by omega
  have HCUT := Lib.hid (specCutG_any s w1 hsz)
  have HI := Lib.hid (HIFF.out (by trivial))
  have HYS := Lib.hid (HYES.out (by trivial))
  have hl5 := HAL.out (by trivial)
  clear HRZ HBAD HBIG HIFF HYES HAL
  have HQ0 := Lib.hid (outP_zero l (cutG s))
  have HQS : Hid (∀ (k : Nat) (x : ByteArray), (cutG s)[k]? = some x → outP l (cutG s) (k + 1) = outP l (cutG s) k ++ idsL l x) := fun k x h => outP_step h
  have HQL : Hid (∀ k, (outP l (cutG s) k).length ≤ 505) := fun k => outP_len hl5 (by have := HLE.out; omega) k
  have HXP : Hid (∀ k, k < (cutG s).length → ∃ x, (cutG s)[k]? = some x) := fun k hk => ⟨_, List.getElem?_eq_getElem hk⟩
  go_wp2_with fail
  refine HCUT.out.mono ?_
  rintro e w2 ⟨v7, rfl, hcut, hb2⟩
  have hrw := (RowRd.of_strs m hcut (by have := HLE.out; omega) HCS.out).weak
  have HRW : Hid (RowRd (Rep.str m) false w2 v7 (cutG s) (fun a => w1.heap.size ≤ a.block ∧ a.block < w2.heap.size)) := hrw
  obtain ⟨A7, c7, rfl⟩ := hrw.form
  have HB2 := Lib.hid (below_step HB1.out hb2)
  have HO2 : Hid (OwnRd Rep.int 3 true w.heap.size w2 (.slice (some ⟨w.heap.size, 0, none⟩) 0 0) (outP l (cutG s) 0) (fun _ => False)) := by unfold Hid; rw [HQ0.out]; exact OwnRd.kept HO1.out hb2
  have HAP : Hid (Apart (.slice (some ⟨w.heap.size, 0, none⟩) 0 0) w1.heap.size w2.heap.size) := fun k hk => by simp [Value.ownBlock] at hk; omega
  have HS2 : Hid (w1.heap.size ≤ w2.heap.size) := hb2.size
  have hNb : (cutG s).length ≤ 101 := by have := HLE.out; omega
  clear hrw hcut hb2 HCUT HO1 HQ0 HLE HCS
  generalize hCU : cutG s = P at *
  clear hCU
  generalize hPN : P.length = N at *
  generalize hLN : l.length = L at *
  go_wp2
  go_loopw [6, 8] (fun u i wr => ∃ (k : Nat), k ≤ N ∧ i = .int .i64 k ∧ OwnRd Rep.int 3 true w.heap.size wr u (outP l P k) (fun _ => False) ∧ Apart u w1.heap.size w2.heap.size ∧ KeepB w1.heap.size w2.heap.size w2 wr ∧ Below w.heap.size w wr) (fun _ i _ => N - (intOf i).toNat)
  case atStart => exact ⟨0, by omega, rfl, HO2.out, HAP.out, KeepB.refl (Nat.le_refl _), HB2.out⟩
  case round =>
    obtain ⟨k, hk, rfl, hown, hap, hkb, hbe⟩ := hrel
    have HOW := Lib.hid hown
    have HAPK := Lib.hid hap
    have HKB := Lib.hid hkb
    have HBE := Lib.hid hbe
    clear hown hap hkb hbe
    by_cases hkn : k < N
    · obtain ⟨x, hx⟩ := HXP.out k hkn
      have HKN : Hid (k + 1 ≤ N) := hkn
      have HSK := Lib.hid (HQS.out k x hx)
      have HXX := Lib.hid hx
      have hkr : (k : Int) < (N : Int) := by omega
      clear hx
      go_wp2
      go_loopw [6, 9] (fun u i wq => ∃ (j : Nat), j ≤ L ∧ i = .int .i64 j ∧ OwnRd Rep.int 3 true w.heap.size wq u (outP l P k ++ idsTo l x j) (fun _ => False) ∧ Apart u w1.heap.size w2.heap.size ∧ KeepB w1.heap.size w2.heap.size w2 wq ∧ Below w.heap.size w wq) (fun _ i _ => L - (intOf i).toNat)
      case atStart => exact ⟨0, by omega, rfl, by rw [show idsTo l x 0 = [] from rfl, List.append_nil]; exact HOW.out, HAPK.out, HKB.out, HBE.out⟩
      case round =>
        obtain ⟨j, hj, rfl, hown, hap, hkb, hbe⟩ := hrel
        obtain ⟨w4, rfl⟩ : ∃ w4 : World, w4 = wr := ⟨_, rfl⟩
        have HOQ := Lib.hid hown
        have HAPQ := Lib.hid hap
        have HKQ := Lib.hid hkb
        have HBQ := Lib.hid hbe
        clear hap hkb hbe
        by_cases hjl : j < L
        · obtain ⟨y, hy⟩ := HXL.out j hjl
          have hjr : (j : Int) < (L : Int) := by omega
          have HR4 : Hid (RowRd (Rep.str m) false w4 (.slice A7 N c7) P (fun a => w1.heap.size ≤ a.block ∧ a.block < w2.heap.size)) := HRW.out.frame fun a ha => by
            have h := HKQ.out.same a.block ha.1 ha.2
            exact ⟨World.cell?_of_block h, World.frozen?_of_block h⟩
          obtain ⟨g1, o1, xs1, G1, rfl, -, hr1, -, hc1⟩ := HR4.out.get HXX.out
          obtain ⟨rfl, -⟩ := id hr1
          obtain ⟨g2, o2, xs2, G2, rfl, -, hr2, -, hc2⟩ := (HV.out.kept HBQ.out).get hy
          obtain ⟨rfl, -⟩ := id hr2
          have d1 := hc1 0 _ rfl
          have d2 := hc2 0 _ rfl
          simp only [show (Rep.str m).size = 1 from rfl, Nat.mul_one, Nat.add_zero] at d1 d2
          have hr1' := fun d os => cell_regrown d1 d os
          have hr2' := fun d os => cell_regrown d2 d os
          obtain ⟨Au, cu, rfl⟩ := OwnRd.formP12 hown
          have hln : (outP l P k ++ idsTo l x j).length ≤ 1000000 := by
            have h1 := HQL.out k
            have h2 := idsTo_len l x j
            rw [List.length_append]; omega
          clear hc1 hc2 hr1 hr2 hown
          generalize hLO : (outP l P k ++ idsTo l x j).length = LO at *
          by_cases hxy : y = x
          · have HNX : Hid (outP l P k ++ idsTo l x (j + 1) = (outP l P k ++ idsTo l x j) ++ [(j : Int)]) := by unfold Hid; rw [idsTo_yes (hxy ▸ hy), List.append_assoc]
            have hq : (y.toList == x.toList) = true := by rw [text_eq12]; exact decide_eq_true hxy
            clear hy hxy
            go_wp2
            refine wp_region_quiet_below (by kernel_rfl) (by kernel_rfl) ?_
            repeat (first | go_big_quiet_skip | quiet_step (fail))
            refine wpQuiet_nil ?_
            intro _ hw'
            obtain ⟨⟨dq, osq⟩, hw''⟩ := hw'
            subst hw''
            have hb45 := below_regrown w4 dq osq
            generalize (grow (redrawn w4 dq) osq) = w5 at *
            have HB5 := Lib.hid (below_step HBQ.out hb45)
            have HO5 := Lib.hid (OwnRd.kept HOQ.out hb45)
            have HK5 := Lib.hid (HKQ.out.below hb45)
            clear hb45 hr1' hr2' d1 d2
            go_wp2_with (at_builtin; refine Hid.out ?_)
            unfold Hid
            refine wpList_append_el Rep.int w5 rfl (.tmp 43) (.tmp 45) 24 3 i3 (.int .i64 0) 8 rfl Tryd.underlying24 hi3 qz3 qz4 qz5 rfl (by decide) true w.heap.size _ (outP l P k ++ idsTo l x j) (fun _ => False) HO5.out rfl [.int .i64 j] (j : Int) (fun _ => False) ⟨rfl, by unfold I64; omega⟩ (fun a h => h.elim) (fun _ a h => h.elim) rfl (fun u hu => by simp at hu; subst hu; rfl) (by omega) (by omega) HB5.out.size ?_
            intro v6 w6 ho6 hb6 hk6 hm6
            have HO6 : Hid (OwnRd Rep.int 3 true w.heap.size w6 v6 (outP l P k ++ idsTo l x (j + 1)) (fun _ => False)) := by unfold Hid; rw [HNX.out]; exact ho6.mono fun a h => h.elim id id
            have HAP6 := Lib.hid (HAPQ.out.grow HK5.out.size hm6)
            have HK6 := Lib.hid (HK5.out.grow HAPQ.out (Nat.le_trans (by omega) hb6.size) (fun q h1 h2 => (hk6 q h1 h2).1))
            have HB6 := Lib.hid (HB5.out.trans hb6)
            clear ho6 hb6 hk6 hm6
            go_wp2
            go_roundw
            case rel => exact ⟨j + 1, by omega, by go_num, HO6.out, HAP6.out, HK6.out, HB6.out⟩
            case measure => simp [intOf]; omega
          · have HNX : Hid (outP l P k ++ idsTo l x (j + 1) = outP l P k ++ idsTo l x j) := by unfold Hid; rw [idsTo_no hy hxy]
            have hq : (y.toList == x.toList) = false := by rw [text_eq12]; exact decide_eq_false hxy
            clear hy hxy
            go_wp2
            refine wp_region_quiet_below (by kernel_rfl) (by kernel_rfl) ?_
            repeat (first | go_big_quiet_skip | quiet_step (fail))
            refine wpQuiet_nil ?_
            intro _ hw'
            obtain ⟨⟨dq, osq⟩, hw''⟩ := hw'
            subst hw''
            have hb45 := below_regrown w4 dq osq
            generalize (grow (redrawn w4 dq) osq) = w5 at *
            have HB5 := Lib.hid (below_step HBQ.out hb45)
            have HO5 : Hid (OwnRd Rep.int 3 true w.heap.size w5 (.slice Au LO cu) (outP l P k ++ idsTo l x (j + 1)) (fun _ => False)) := by unfold Hid; rw [HNX.out]; exact OwnRd.kept HOQ.out hb45
            have HK5 := Lib.hid (HKQ.out.below hb45)
            clear hb45 hr1' hr2' d1 d2
            go_wp2
            go_roundw
            case rel => exact ⟨j + 1, by omega, by go_num, HO5.out, HAPQ.out, HK5.out, HB5.out⟩
            case measure => simp [intOf]; omega
        · obtain rfl : j = L := by omega
          have HOE := hown
          rw [show outP l P k ++ idsTo l x j = outP l P (k + 1) from by rw [HSK.out]; unfold idsL; rw [hLN]] at HOE
          have HOE2 := Lib.hid HOE
          clear HOE hown
          go_wp2
          go_roundw
          case rel => exact ⟨k + 1, HKN.out, by go_num, HOE2.out, HAPQ.out, HKQ.out, HBQ.out⟩
          case measure => have hkn2 := HKN.out; simp [intOf]; omega
    · obtain rfl : k = N := by omega
      obtain ⟨w4, rfl⟩ : ∃ w4 : World, w4 = wr := ⟨_, rfl⟩
      have hql := HQL.out k
      obtain ⟨Au, cu, hAu⟩ := OwnRd.formP12 HOW.out
      subst hAu
      have HRR := Lib.hid ((OwnRd.row HOW.out (by omega)).mono (G := fun a => w.heap.size ≤ a.block) (fun a ha => ha.elim id (fun h => h.elim)))
      have HCF := Lib.hid (HFMT.out _ _ _ w4 HBE.out HRR.out.weak)
      generalize hff : fmtRk l (outP l P k) = f at *
      generalize hLO : (outP l P k).length = LO at *
      clear hff
      go_wp2_with fail
      refine HCF.out.mono ?_
      rintro e w5 ⟨rfl, hb5⟩
      have HR5 := Lib.hid (HRR.out.kept hb5)
      have HB5 := Lib.hid (below_step HBE.out hb5)
      have HZ5 : Hid (RowRd Rep.int true (w5.alloc (.cells #[] 3)) (.slice (some ⟨w5.heap.size, 0, none⟩) 0 0) ([] : List Int) (fun a => w.heap.size ≤ a.block)) := RowRd.zero _ _ _ _ _
      have HZB : Hid (Below w.heap.size w (w5.alloc (.cells #[] 3))) := HB5.out.alloc HB5.out.size _
      clear hb5 HCF HRR
      by_cases hfs : f = s
      · subst hfs
        by_cases hs1 : 1 ≤ f.size
        · have HT : Hid (pb = true) := by unfold Hid; rw [HI.out, decide_eq_true hs1]; simp
          have HE := Lib.hid (HYS.out HT.out)
          have he0 : (f.toList == (⟨#[]⟩ : ByteArray).toList) = false := by rw [text_eq12]; exact decide_eq_false fun e => by rw [e] at hs1; exact absurd hs1 (by decide)
          have e0 : (⟨#[]⟩ : ByteArray).toList = [] := by rw [Lib.toList_data]
          have he1 : (f.toList == []) = false := by rw [← e0]; exact he0
          clear e0
          clear hs1
          go_wp2
          go_ret2
          exact HP.out _ _ _ (by rw [HE.out]; exact HR5.out) HB5.out HT.out
        · have HT : Hid (pb = false) := by unfold Hid; rw [HI.out, decide_eq_false hs1]; simp
          have HE := Lib.hid (HN.out HT.out)
          have hfe : f = ⟨#[]⟩ := by apply ByteArray.ext; exact Array.eq_empty_of_size_eq_zero (by have : f.data.size = f.size := rfl; omega)
          subst hfe
          clear hs1
          go_wp2
          go_ret2
          exact HP.out _ _ _ (by rw [HE.out]; exact HZ5.out) HZB.out HT.out
      · have HT : Hid (pb = false) := by unfold Hid; rw [HI.out, decide_eq_false hfs]; rfl
        have HE := Lib.hid (HN.out HT.out)
        have he0 : (f.toList == s.toList) = false := by rw [text_eq12]; exact decide_eq_false hfs
        have he1 : (f.toList != s.toList) = true := by simp only [bne, he0]; rfl
        clear hfs
        go_wp2
        go_ret2
        exact HP.out _ _ _ (by rw [HE.out]; exact HZ5.out) HZB.out HT.out
end Go.Proofs.YtnildbalaedlgaaDoor
