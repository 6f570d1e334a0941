/- Merged: Fi12 Ct11 Ic5i Tp11 Ro11 Wi12 Oi12 TzStringS Tz0. -/
import Derived.Test.YtkaihnlknncfdaaGreatDoorQ9
import Derived.Lib.QuietBelow
import Derived.Laws.EntriesVeiled
import Derived.Test.YtkaihnlknncfdaaGreatDoorQ8
import Derived.Test.YtkaihnlknncfdaaGreatDoorQ4
import Derived.Test.YtkaihnlknncfdaaGreatDoorQ6
import Derived.Deep.DeepCutAuto
import Derived.Deep.RegionHeld3
import Derived.Deep.RegionWith
import Derived.Test.YtkaihnlknncfdaaGreatDoorQ5
import Derived.Test.YtkaihnlknncfdaaGreatDoorQ1
import Derived.Test.YtkaihnlknncfdaaGreatDoorQ2
import Derived.WalkKit
import Derived.BigQuiet
import Derived.Test.YtkaihnlknncfdaaGreatDoorRows
/- Rankings: the program's firstDifference: what it answers. -/
namespace Go.Proofs.YtkaihnlknncfdaaGreatDoor
set_option maxRecDepth 100000
open Go.RowKit Go.Sort
set_option linter.unusedVariables false
set_option linter.unusedSimpArgs false

def cmpI (x y : Int) : Int := if x < y then -1 else if y < x then 1 else 0
theorem cmpI_rng (x y : Int) : -1 ≤ cmpI x y ∧ cmpI x y ≤ 1 := by unfold cmpI; split <;> (try split) <;> omega
theorem nan12_any (x : Int) (w : World) : Calls Tryz.prog 139 #[.int .i64 x] w fun e w' => e = .returned (.bool false) ∧ w = w' := by
  have e1 : (x != x) = false := by simp
  go_enter Tryz.func139, Tryz.ntmps139
  go_wp2
  go_ret
  exact ⟨rfl, rfl⟩
theorem cmp12_any (x y : Int) (w : World) : Calls Tryz.prog 108 #[.int .i64 x, .int .i64 y] w fun e w' => e = .returned (.int .i64 (cmpI x y)) ∧ w = w' := by
  have HX := Lib.hid (nan12_any x w)
  have HY := Lib.hid (nan12_any y w)
  have HC : Hid (cmpI x y = if x < y then -1 else if y < x then 1 else 0) := rfl
  generalize cmpI x y = z at *
  go_enter Tryz.func108, Tryz.ntmps108
  go_wp2_with fail
  refine HX.out.mono ?_
  rintro e w1 ⟨rfl, rfl⟩
  go_wp2_with fail
  refine HY.out.mono ?_
  rintro e w1 ⟨rfl, rfl⟩
  by_cases h1 : x < y
  · have HF : Hid (z = -1) := by unfold Hid; rw [HC.out, if_pos h1]
    have e1 : decide (x < y) = true := decide_eq_true h1
    clear h1
    go_wp2
    go_ret
    exact ⟨by rw [HF.out]; rfl, rfl⟩
  have e1 : decide (x < y) = false := decide_eq_false h1
  by_cases h2 : y < x
  · have HF : Hid (z = 1) := by unfold Hid; rw [HC.out, if_neg h1, if_pos h2]
    have e2 : decide (y < x) = true := decide_eq_true h2
    clear h1 h2
    go_wp2
    go_ret
    exact ⟨by rw [HF.out]; rfl, rfl⟩
  have e2 : decide (y < x) = false := decide_eq_false h2
  have HF : Hid (z = 0) := by unfold Hid; rw [HC.out, if_neg h1, if_neg h2]
  clear h1 h2
  go_wp2
  go_ret
  exact ⟨by rw [HF.out]; rfl, rfl⟩
theorem diffI_of {a b : List Int} {j : Nat} {x y : Int} (ha : a[j]? = some x) (hb : b[j]? = some y) : diffAt a b (j : Int) = cmpI x y := by
  unfold diffAt cmpI
  rw [Int.toNat_natCast, List.getD_eq_getElem?_getD, List.getD_eq_getElem?_getD, ha, hb]
  rfl
theorem fdiff_at {a b r : List Int} {i j : Nat} (h : r[i]? = some (j : Int)) {x y : Int} (ha : a[j]? = some x) (hb : b[j]? = some y) : fdiff a b (r.drop i) i = if cmpI x y = 0 then fdiff a b (r.drop (i + 1)) (i + 1) else (i, cmpI x y) := by
  obtain ⟨hi, he⟩ := List.getElem?_eq_some_iff.1 h
  rw [List.drop_eq_getElem_cons hi, he, fdiff, diffI_of ha hb]
theorem rank_placeI {a r : List Int} (h : ∀ (i : Nat) (k : Int), r[i]? = some k → 0 ≤ k ∧ k < (a.length : Int)) {i : Nat} (hi : i < r.length) : ∃ j x, r[i]? = some ((j : Nat) : Int) ∧ j < a.length ∧ a[j]? = some x := by
  have hk := List.getElem?_eq_getElem hi
  obtain ⟨h1, h2⟩ := h i _ hk
  refine ⟨(r[i]).toNat, _, by rw [hk, Int.toNat_of_nonneg h1], by omega, List.getElem?_eq_getElem (by omega)⟩
set_option maxHeartbeats 16000000 in
theorem fdif_any (a b r : List Int) (va vb vr : Value) (Fa Fb Fr : Addr → Prop) (w : World) (hva : RowRd Rep.int false w va a Fa) (hvb : RowRd Rep.int false w vb b Fb) (hvr : RowRd Rep.int false w vr r Fr) (hl : a.length = b.length) (hk : ∀ (i : Nat) (k : Int), r[i]? = some k → 0 ≤ k ∧ k < (a.length : Int)) :
    Calls Tryz.prog 66 #[va, vb, vr] w fun e w' => e = .returned (.tuple #[.int .i64 (fdiff a b r 0).1, .int .i64 (fdiff a b r 0).2]) ∧ Below w.heap.size w w' := by
  have hma := hva.max
  have hmb := hvb.max
  have hmr := hvr.max
  obtain ⟨A1, k1, rfl⟩ := hva.form
  obtain ⟨A2, k2, rfl⟩ := hvb.form
  obtain ⟨A3, k3, rfl⟩ := hvr.form
  have HA := Lib.hid hva
  have HB := Lib.hid hvb
  have HR := Lib.hid hvr
  clear hva hvb hvr
  have HPL : Hid (∀ i, i < r.length → ∃ j x y, r[i]? = some ((j : Nat) : Int) ∧ j < a.length ∧ j < b.length ∧ a[j]? = some x ∧ b[j]? = some y) := fun i hi => by
    obtain ⟨j, x, h1, h2, h3⟩ := rank_placeI hk hi
    exact ⟨j, x, _, h1, h2, by omega, h3, List.getElem?_eq_getElem (by omega)⟩
  have HST : Hid (∀ (i j : Nat) (x y : Int), r[i]? = some (j : Int) → a[j]? = some x → b[j]? = some y → fdiff a b (r.drop i) i = if cmpI x y = 0 then fdiff a b (r.drop (i + 1)) (i + 1) else (i, cmpI x y)) := fun i j x y h1 h2 h3 => fdiff_at h1 h2 h3
  have H0 : Hid (fdiff a b (r.drop 0) 0 = fdiff a b r 0) := rfl
  have HE : Hid (fdiff a b (r.drop r.length) r.length = (-1, 0)) := by unfold Hid; rw [List.drop_length]; rfl
  generalize fdiff a b r 0 = z at *
  clear hl hk
  generalize hln : r.length = n at *
  generalize hla : a.length = na at *
  generalize hlb : b.length = nb at *
  go_enter Tryz.func66, Tryz.ntmps66
  go_wp2
  go_loopw [13] (fun i wr => ∃ (k : Nat), k ≤ n ∧ i = .int .i64 k ∧ Hid (fdiff a b (r.drop k) k = z) ∧ Below w.heap.size w wr) (fun i _ => n - (intOf i).toNat)
  case atStart => exact ⟨0, by omega, rfl, H0.out, Below.refl _ _⟩
  case round =>
    obtain ⟨k, hk, rfl, hcm, hbe⟩ := hrel
    obtain ⟨w2, rfl⟩ : ∃ w2 : World, w2 = wr := ⟨_, rfl⟩
    have HBE := Lib.hid hbe
    clear hbe
    by_cases hkl : k < n
    · obtain ⟨j, x, y, hj, hja, hjb, hx, hy⟩ := HPL.out k hkl
      have HS : Hid (z = if cmpI x y = 0 then fdiff a b (r.drop (k + 1)) (k + 1) else ((k : Int), cmpI x y)) := hcm.out.symm.trans (HST.out k j x y hj hx hy)
      have hkr : (k : Int) < (n : Int) := by omega
      have hj1 : (j : Int) < (na : Int) := by omega
      have hj2 : (j : Int) < (nb : Int) := by omega
      obtain ⟨g1, o1, xs1, F1, rfl, _, ha1, _, hc1⟩ := (HA.out.kept HBE.out).get hx
      obtain ⟨g2, o2, xs2, F2, rfl, _, ha2, _, hc2⟩ := (HB.out.kept HBE.out).get hy
      obtain ⟨g3, o3, xs3, F3, rfl, _, ha3, _, hc3⟩ := (HR.out.kept HBE.out).get hj
      obtain ⟨rfl, hxi⟩ := id ha1
      obtain ⟨rfl, hyi⟩ := id ha2
      obtain ⟨rfl, hji⟩ := id ha3
      have c1 := hc1 0 _ rfl
      have c2 := hc2 0 _ rfl
      have c3 := hc3 0 _ rfl
      simp only [show Rep.int.size = 1 from rfl, Nat.mul_one, Nat.add_zero] at c1 c2 c3
      have hr1 := fun d os => cell_regrown c1 d os
      have hr2 := fun d os => cell_regrown c2 d os
      have HH : Hid (∀ d os, Calls Tryz.prog 108 #[.int .i64 x, .int .i64 y] (grow (redrawn w2 d) os) fun e w'' => e = .returned (.int .i64 (cmpI x y)) ∧ ∃ p : Regrown, w'' = grow (redrawn w2 p.d) p.os) := fun d os => (cmp12_any x y _).mono fun e w'' h => ⟨h.1, ⟨d, os⟩, h.2.symm⟩
      have HH2 := HH.out
      have hrg := cmpI_rng x y
      clear hc1 hc2 hc3 ha1 ha2 ha3 hx hy hj HH
      generalize cmpI x y = o at *
      go_wp2
      refine wp_region_quiet_below (by kernel_rfl) (by kernel_rfl) ?_
      repeat (first | go_big_quiet_skip | quiet_step (with_reducible exact HH2 _ _))
      refine wpQuiet_nil ?_
      intro _ hw'
      obtain ⟨⟨dq, osq⟩, hw''⟩ := hw'
      subst hw''
      have HB5 := Lib.hid (HBE.out.trans ((below_regrown w2 dq osq).mono HBE.out.size))
      by_cases h0 : o = 0
      · have HF : Hid (fdiff a b (r.drop (k + 1)) (k + 1) = z) := by unfold Hid; rw [HS.out, if_pos h0]
        have e0 : (o != 0) = false := by simp [h0]
        clear HS HST HPL hcm h0
        go_wp2
        go_roundw
        case rel => exact ⟨k + 1, by omega, by go_num, HF.out, HB5.out⟩
        case measure => simp [intOf]; omega
      · have HF : Hid (z = ((k : Int), o)) := by unfold Hid; rw [HS.out, if_neg h0]
        have e0 : (o != 0) = true := by simp [h0]
        clear HS HST HPL hcm h0
        go_wp2
        go_ret2
        exact ⟨by rw [HF.out]; rfl, HB5.out⟩
    · obtain rfl : k = n := by omega
      have HF : Hid (z = (-1, 0)) := hcm.out.symm.trans HE.out
      clear hcm
      go_wp2
      go_ret2
      exact ⟨by rw [HF.out]; rfl, HBE.out⟩
end Go.Proofs.YtkaihnlknncfdaaGreatDoor

/- The program's counters: a row of function values, and what they count. -/
namespace Go.Proofs.YtkaihnlknncfdaaGreatDoor
set_option maxRecDepth 100000
open Go.RowKit Go.Sort M
set_option linter.unusedVariables false
set_option linter.unusedSimpArgs false

theorem ownsMap_below {w w' : World} {k : TypeId} {b n : Nat} {D : DataW Unit} (h : w.ownsMap Tryz.prog k fR b n D) (hb : Below w.heap.size w w') : w'.ownsMap Tryz.prog k fR b n D := by
  obtain ⟨es, clock, h1, h2⟩ := h
  exact ⟨es, clock, (hb.block b (Array.getElem?_eq_some_iff.1 h1).1).trans h1, h2⟩
theorem Tryz.infoTInt10 : (Tryz.prog.info? 3).map (fun i => (i.zero, i.size, i.bytes)) = some (some (.int .i64 0), 1, 8) := by kernel_rfl
theorem Tryz.infoTFn : (Tryz.prog.info? 103).map (fun i => (i.zero, i.size, i.bytes)) = some (some .nilFunc, 1, 8) := by kernel_rfl
/-- What a function value has caught. -/
def capF (j : Nat) : Array Value := if j < 6 then #[.func (.func (cidN j)) #[] #[]] else #[]
theorem fnV_form (j : Nat) : fnV j = .func (.func (entF j)) (capF j) #[] := by
  unfold fnV entF capF
  split <;> rfl
/-- Function values by their numbers; none at ten. -/
def vF (j : Nat) : Value := if j < 10 then fnV j else .nilFunc
def Rep.fn : Rep Nat where
  size := 1
  rd := fun _ _ vs j _ => vs = [vF j]
  lab := fun _ j => j
  labv := fun _ j => j
  cnt := fun _ => 0
  cntv := fun _ => 0
  sz := fun _ => 0
  len := fun h => by rw [h]; rfl
  frame := fun h _ => h
  weak := fun h => h
  mono := fun h _ => h
  tight := fun h => h
theorem vF_lt {j : Nat} (h : j < 10) : vF j = .func (.func (entF j)) (capF j) #[] := by unfold vF; rw [if_pos h, fnV_form]
def ctrs (ns : List ByteArray) : List Nat := ns.map nix
theorem ctrs_len (ns : List ByteArray) : (ctrs ns).length = ns.length := List.length_map _
set_option maxHeartbeats 4000000 in
theorem implCtrs_any (m : Nat → ByteArray) (ns : List ByteArray) (A : Option Addr) (cap : Nat) (F : Addr → Prop) (w : World) (hC : areC ns = true) (hns : RowRd (Rep.str m) false w (.slice A ns.length cap) ns F) :
    Calls Tryz.prog 81 #[.slice A ns.length cap] w (OwnPost Rep.fn (ctrs ns) w) := by
  have HCT : Hid (∀ W, Calls Tryz.prog 128 #[] W fun e w' => (∃ B, e = .returned (.map (some B)) ∧ w'.ownsMap Tryz.prog 9 fR B 10 (dputN 10)) ∧ Below W.heap.size W w') := fun W => (implCounts_any W).mono fun e w' ⟨h1, h2, h3⟩ => ⟨⟨_, h1, h2⟩, h3⟩
  have HX : Hid (∀ k, k < ns.length → ∃ y, ns[k]? = some y) := fun k hk => ⟨_, List.getElem?_eq_getElem hk⟩
  have HNS := Lib.hid hns
  have HME : Hid (∀ k y, ns[k]? = some y → nix y < 10 ∧ y.size ≤ maxLen) := fun k y hk => by
    have h1 := (areC_mem hC hk).1
    have h2 := name_size h1
    rw [hasB_nix] at h1
    exact ⟨of_decide_eq_true h1, by unfold maxLen; omega⟩
  have HP : Hid (∀ u w', RowRd Rep.fn true w' u (ctrs ns) (fun a => w.heap.size ≤ a.block) → Below w.heap.size w w' → OwnPost Rep.fn (ctrs ns) w (.returned u) w') := fun u w' h1 h2 => ⟨u, rfl, h1, h2⟩
  have hml := areC_len hC
  have HPL := Lib.hid (ctrs_len ns)
  have H0 := Lib.hid (cpTo_zero 10 (ctrs ns))
  have HCA := Lib.hid (cpTo_all 10 (ctrs ns))
  have HCAT : Hid (∀ k, k < ns.length → (cpTo 10 (ctrs ns) k)[k]? = some 10) := fun k hk => cpTo_at _ _ _ (by rw [ctrs_len]; exact hk)
  have HCST : Hid (∀ k y, ns[k]? = some y → (cpTo 10 (ctrs ns) k).set k (nix y) = cpTo 10 (ctrs ns) (k + 1)) := fun k y hk => cpTo_step _ _ _ (by unfold ctrs; rw [List.getElem?_map, hk]; rfl)
  clear hns hC
  generalize hll : ns.length = n at *
  clear hll
  obtain ⟨i0, hi, hz0, hz1, hz2⟩ := info_parts Tryz.infoTFn
  go_enter Tryz.func81, Tryz.ntmps81
  go_wp2_with fail
  refine (HCT.out _).mono ?_
  rintro e w3 ⟨⟨Bm, rfl, hown⟩, hb⟩
  have HB3 := Lib.hid hb
  have hbm : Bm < w3.heap.size := hown.lt
  have HOW := Lib.hid hown
  clear hb hown HCT
  go_wp2_with (at_make; refine wpList_make_full _ rfl _ _ 96 rfl w3.heap.size 103 i0 .nilFunc 1 Tryz.underlying96 hi hz0 hz1 .i64 .i64 _ _ n rfl rfl rfl rfl (by rw [hz2]; omega) (by unfold maxLen; omega) (Nat.le_refl _) ?_; intro w4 hown4 hgrow4)
  have hb34 : Below w3.heap.size w3 w4 := (Below.refl _ _).grown hgrow4 (Nat.le_refl _) (fun _ h => by cases h)
  have HO4 : Hid (RowRd Rep.fn true w4 (.slice (some ⟨w3.heap.size, 0, none⟩) n n) (cpTo 10 (ctrs ns) 0) (fun a => w3.heap.size ≤ a.block)) := by
    unfold Hid
    rw [H0.out, HPL.out]
    rw [show (Value.cells .nilFunc) = #[.nilFunc] from rfl] at hown4
    have hlr : (List.replicate n (10 : Nat)).length = n := List.length_replicate
    refine (RowRd.of_flat (E := Rep.fn) (l := List.replicate n 10) (base := w3.heap.size) (e := 103) (cells := (madeCells #[.nilFunc] (n * 1)).toList) (by rw [hlr]; exact hown4) (by rw [hlr]; omega) ?_).mono (fun a ha => ha.1)
    intro k y hk
    rw [List.getElem?_replicate] at hk
    split at hk
    · cases hk
      refine ⟨[.nilFunc], ?_, rfl⟩
      intro j u hj
      have hjn : j < 1 := (List.getElem?_eq_some_iff.1 hj).1
      rw [show Rep.fn.size = 1 from rfl, made_at _ _ _ (by omega) (by decide), show (#[.nilFunc] : Array Value).size = 1 from rfl, show (k * 1 + j) % 1 = j by omega]
      simpa using hj
    · cases hk
  have HB4 : Hid (Below w.heap.size w w4) := HB3.out.trans (hb34.mono HB3.out.size)
  have HOW4 := Lib.hid (ownsMap_below HOW.out hb34)
  clear hown4 hgrow4 hb34 HOW
  go_wp2
  go_loopw [13] (fun i wr => ∃ (k : Nat), k ≤ n ∧ i = .int .i64 k ∧ RowRd Rep.fn true wr (.slice (some ⟨w3.heap.size, 0, none⟩) n n) (cpTo 10 (ctrs ns) k) (fun a => w3.heap.size ≤ a.block) ∧ wr.ownsMap Tryz.prog 9 fR Bm 10 (dputN 10) ∧ Below w.heap.size w wr) (fun i _ => n - (intOf i).toNat)
  case atStart => exact ⟨0, by omega, rfl, HO4.out, HOW4.out, HB4.out⟩
  case round =>
    obtain ⟨k, hk, rfl, hrow, hmap, hbe⟩ := hrel
    obtain ⟨w5, rfl⟩ : ∃ w5 : World, w5 = wr := ⟨_, rfl⟩
    have HBE := Lib.hid hbe
    have HMP := Lib.hid hmap
    have HRW := Lib.hid hrow.tight
    clear hbe hmap hrow
    by_cases hkl : k < n
    · obtain ⟨y, hy⟩ := HX.out k hkl
      obtain ⟨hnx, hys⟩ := HME.out k y hy
      have hlk := look_plain w5 Bm y hys HMP.out hnx
      rw [fnV_form] at hlk
      have HSX := Lib.hid (HCST.out k y hy)
      obtain ⟨g, off, xs, Fk, rfl, _, hra, _, hca⟩ := (HNS.out.kept HBE.out).get hy
      obtain ⟨rfl, _⟩ := hra
      rw [show (Rep.str m).size = 1 from rfl] at hca
      have c0 := hca 0 _ rfl
      simp only [Nat.add_zero, Nat.mul_one] at c0
      clear hca hy hys
      have hrow2 := HRW.out
      obtain ⟨g2, off2, ys, Fk2, hge, hrd, hel, hFk, hcl, hput⟩ := hrow2.open (HCAT.out k hkl)
      cases hge
      simp only [show Rep.fn.size = 1 from rfl, Nat.mul_one] at hel hcl hput
      simp only [Nat.zero_add] at hel hput
      have hrd2 : ys = [vF 10] := hrd
      subst hrd2
      have d0 := hel.cell 0 rfl
      have f0 := hel.free 0 (by decide)
      simp only [Nat.zero_add, Nat.add_zero] at d0 f0
      have hs0 := hel.set 0 (by decide) (.func (.func (entF (nix y))) (capF (nix y)) #[])
      simp only [List.set, Nat.zero_add, Nat.add_zero] at hs0
      have HBB := Lib.hid (HBE.out.setCell (p := ⟨w3.heap.size, k, none⟩) (by have := HB3.out.size; exact this) (.func (.func (entF (nix y))) (capF (nix y)) #[]))
      have HMM := Lib.hid (HMP.out.setCell (a := ⟨w3.heap.size, k, none⟩) (by show Bm ≠ w3.heap.size; omega) (.func (.func (entF (nix y))) (capF (nix y)) #[]))
      have HNEW := Lib.hid ((hput _ _ (nix y) (fun _ => False) hs0 (by show _ = [vF (nix y)]; rw [vF_lt hnx]) (fun a h => h.elim)).mono (fun a h => h.elim (fun h => h.1) (fun h => h.elim)))
      rw [HSX.out] at HNEW
      clear hput hel hs0 hrd hFk hcl hrow2
      generalize entF (nix y) = q1 at *
      generalize capF (nix y) = q2 at *
      go_wp2
      go_roundw
      case rel => exact ⟨k + 1, by omega, by go_num, HNEW.out, HMM.out, HBB.out⟩
      case measure => simp [intOf]; omega
    · obtain rfl : k = n := by omega
      have hrow := HRW.out
      have hca := HCA.out
      rw [HPL.out] at hca
      rw [hca] at hrow
      have HRR := Lib.hid hrow
      clear hrow hca
      go_wp2
      go_ret
      exact HP.out _ _ (HRR.out.mono (fun a ha => Nat.le_trans HB3.out.size ha.1)) HBE.out
/-- The counts of a candidate. -/
def cntsN (js : List Nat) (l : List DLink) : List Int := js.map fun j => cntN j l
theorem cntsN_len (js : List Nat) (l : List DLink) : (cntsN js l).length = js.length := List.length_map _
theorem profN_ctrs {ns : List ByteArray} {l : List DLink} (h : areC ns = true) (h2 : isCd l = true) : profN ns l = cntsN (ctrs ns) l := by
  rw [profN_yes h h2]
  unfold profTo cntsN ctrs
  rw [List.take_length, List.map_map]
  exact List.map_congr_left fun y _ => vioN_yes h2
theorem cntN_i64 {j : Nat} (hj : j < 10) (l : List DLink) (hl : l.length ≤ 1048576) : I64 (cntN j l) := by
  have h1 : ∀ P Q, mkC P Q (outT l) ≤ 9 := fun P Q => mkC_le P Q _
  have h2 : ∀ p : DLink → Bool, cntC p l ≤ l.length := fun p => by
    unfold cntC; split
    · exact List.countP_le_length
    · omega
  have h3 : brkC l ≤ l.length := by
    unfold brkC; split
    · unfold brkL insideL
      refine Nat.le_trans List.countP_le_length ?_
      rw [List.length_drop, List.length_take]
      omega
    · omega
  unfold cntN I64
  split
  · have := h1 nconsB vowB; omega
  · have := h1 consB nvowB; omega
  · have := h1 consB consB; omega
  · have := h1 anyB vobB; omega
  · have := h1 vobB edgB; omega
  · have := h1 nasB vlsB; omega
  · have := h2 delK; omega
  · have := h2 insK; omega
  · have := h2 vchK; omega
  · omega
  · omega
theorem entF_call (j : Nat) (hj : j < 10) : ∀ args w', (callFunc (entF j) args).run Tryz.prog w' = .ok (.enter (entF j) args) w' := by
  intro args w'
  obtain rfl | rfl | rfl | rfl | rfl | rfl | rfl | rfl | rfl | rfl : j = 0 ∨ j = 1 ∨ j = 2 ∨ j = 3 ∨ j = 4 ∨ j = 5 ∨ j = 6 ∨ j = 7 ∨ j = 8 ∨ j = 9 := by omega
  · exact enters_of Tryz.func147 (by kernel_rfl) rfl args w'
  · exact enters_of Tryz.func147 (by kernel_rfl) rfl args w'
  · exact enters_of Tryz.func147 (by kernel_rfl) rfl args w'
  · exact enters_of Tryz.func147 (by kernel_rfl) rfl args w'
  · exact enters_of Tryz.func147 (by kernel_rfl) rfl args w'
  · exact enters_of Tryz.func147 (by kernel_rfl) rfl args w'
  · exact enters_of Tryz.func153 (by kernel_rfl) rfl args w'
  · exact enters_of Tryz.func154 (by kernel_rfl) rfl args w'
  · exact enters_of Tryz.func155 (by kernel_rfl) rfl args w'
  · exact enters_of Tryz.func156 (by kernel_rfl) rfl args w'
theorem entA_cap (j : Nat) (v : Value) : (capF j).push (.agg #[v]) = entA j v := by
  unfold capF entA
  split <;> rfl
set_option maxHeartbeats 4000000 in
theorem implProfOf_any (js : List Nat) (hj : ∀ j ∈ js, j < 10) (A : Option Addr) (cap : Nat) (F : Addr → Prop) (x : DCandidate) (B : Option Addr) (q : Nat) (G : Addr → Prop) (w : World) (hn : js.length ≤ 1048576) (hl : x.Links.length ≤ 1048576) (hjs : RowRd Rep.fn false w (.slice A js.length cap) js F) (hv : RowRd rLink false w (.slice B x.Links.length q) x.Links G) (hT : FeatTab w) :
    Calls Tryz.prog 82 #[.slice A js.length cap, .agg #[.slice B x.Links.length q]] w (OwnPost Rep.int (cntsN js x.Links) w) := by
  have hq := hv.cap_le
  have HFN : Hid (∀ j, j < 10 → ∀ W, Below w.heap.size w W → Calls Tryz.prog (entF j) (entA j (.slice B x.Links.length q)) W fun e w' => e = .returned (.int .i64 (cntN j x.Links)) ∧ Below W.heap.size W w') := fun j hj W hW => fnV_any j hj x B q G W hl hq (hv.kept hW) (feat_below hT hW)
  have HX : Hid (∀ k, k < js.length → ∃ y, js[k]? = some y) := fun k hk => ⟨_, List.getElem?_eq_getElem hk⟩
  have HJS := Lib.hid hjs
  have HJ : Hid (∀ k y, js[k]? = some y → y < 10) := fun k y hk => hj y (List.mem_of_getElem? hk)
  have HIY : Hid (∀ j, j < 10 → I64 (cntN j x.Links)) := fun j hj => cntN_i64 hj _ hl
  have HP : Hid (∀ u w', RowRd Rep.int true w' u (cntsN js x.Links) (fun a => w.heap.size ≤ a.block) → Below w.heap.size w w' → OwnPost Rep.int (cntsN js x.Links) w (.returned u) w') := fun u w' h1 h2 => ⟨u, rfl, h1, h2⟩
  have HPL := Lib.hid (cntsN_len js x.Links)
  have H0 := Lib.hid (cpTo_zero (0 : Int) (cntsN js x.Links))
  have HCA := Lib.hid (cpTo_all (0 : Int) (cntsN js x.Links))
  have HCAT : Hid (∀ k, k < js.length → (cpTo (0 : Int) (cntsN js x.Links) k)[k]? = some 0) := fun k hk => cpTo_at _ _ _ (by rw [cntsN_len]; exact hk)
  have HCST : Hid (∀ k y, js[k]? = some y → (cpTo (0 : Int) (cntsN js x.Links) k).set k (cntN y x.Links) = cpTo (0 : Int) (cntsN js x.Links) (k + 1)) := fun k y hk => cpTo_step _ _ _ (by unfold cntsN; rw [List.getElem?_map, hk]; rfl)
  have HA : Hid (∀ o, Below w.heap.size w (w.alloc o)) := fun o => (Below.refl _ _).alloc (Nat.le_refl _) _
  have HA1 : Hid (InC (w.alloc (.cells #[.slice B x.Links.length q] 55)) w.heap.size #[.slice B x.Links.length q] 55) := heap_alloc_new _ _
  clear hjs hv hT hj hq
  generalize hll : js.length = n at *
  clear hll
  obtain ⟨i0, hi, hz0, hz1, hz2⟩ := info_parts Tryz.infoTInt10
  go_enter Tryz.func82, Tryz.ntmps82
  go_wp2_with (at_make; refine wpList_make_full _ rfl _ _ 27 rfl (w.heap.size + 1) 3 i0 (.int .i64 0) 1 Tryz.underlying27 hi hz0 hz1 .i64 .i64 _ _ n rfl rfl rfl rfl (by rw [hz2]; omega) (by unfold maxLen; omega) (by simp) ?_; intro w4 hown4 hgrow4)
  have hb34 : Below (w.heap.size + 1) (w.alloc (.cells #[.slice B x.Links.length q] 55)) w4 := (Below.refl _ _).grown hgrow4 (by simp) (fun _ h => by cases h)
  have HX4 : Hid (InC w4 w.heap.size #[.slice B x.Links.length q] 55) := HA1.out.keptB hb34 (by omega)
  have HO4 : Hid (RowRd Rep.int true w4 (.slice (some ⟨w.heap.size + 1, 0, none⟩) n n) (cpTo (0 : Int) (cntsN js x.Links) 0) (fun a => w.heap.size + 1 ≤ a.block)) := by
    unfold Hid
    rw [H0.out, HPL.out]
    rw [show (Value.cells (.int .i64 0)) = #[.int .i64 0] from rfl] at hown4
    have hlr : (List.replicate n (0 : Int)).length = n := List.length_replicate
    refine (RowRd.of_flat (E := Rep.int) (l := List.replicate n 0) (base := w.heap.size + 1) (e := 3) (cells := (madeCells #[.int .i64 0] (n * 1)).toList) (by rw [hlr]; first | exact hown4 | (show w4.ownsRow _ 3 1 _ _ _; simpa using hown4)) (by rw [hlr]; omega) ?_).mono (fun a ha => ha.1)
    intro k y hk
    rw [List.getElem?_replicate] at hk
    split at hk
    · cases hk
      refine ⟨[.int .i64 0], ?_, ⟨rfl, by unfold I64; omega⟩⟩
      intro j u hj
      have hjn : j < 1 := (List.getElem?_eq_some_iff.1 hj).1
      rw [show Rep.int.size = 1 from rfl, made_at _ _ _ (by omega) (by decide), show (#[.int .i64 0] : Array Value).size = 1 from rfl, show (k * 1 + j) % 1 = j by omega]
      simpa using hj
    · cases hk
  have HB4 : Hid (Below w.heap.size w w4) := (HA.out _).trans (hb34.mono (by omega))
  clear hown4 hgrow4 hb34
  go_wp2
  go_loopw [13] (fun i wr => ∃ (k : Nat), k ≤ n ∧ i = .int .i64 k ∧ RowRd Rep.int true wr (.slice (some ⟨w.heap.size + 1, 0, none⟩) n n) (cpTo (0 : Int) (cntsN js x.Links) k) (fun a => w.heap.size + 1 ≤ a.block) ∧ InC wr w.heap.size #[.slice B x.Links.length q] 55 ∧ Below w.heap.size w wr) (fun i _ => n - (intOf i).toNat)
  case atStart => exact ⟨0, by omega, rfl, HO4.out, HX4.out, HB4.out⟩
  case round =>
    obtain ⟨k, hk, rfl, hrow, hbox, hbe⟩ := hrel
    obtain ⟨w5, rfl⟩ : ∃ w5 : World, w5 = wr := ⟨_, rfl⟩
    have HBE := Lib.hid hbe
    have HBX := Lib.hid hbox
    have HRW := Lib.hid hrow.tight
    clear hbe hbox hrow
    by_cases hkl : k < n
    · obtain ⟨i, hy⟩ := HX.out k hkl
      have hi10 := HJ.out k i hy
      have HSX := Lib.hid (HCST.out k i hy)
      have HIQ := Lib.hid (HIY.out i hi10)
      obtain ⟨g, off, xs, Fk, rfl, _, hra, _, hca⟩ := (HJS.out.kept HBE.out).get hy
      have hra2 : xs = [vF i] := hra
      rw [vF_lt hi10] at hra2
      subst hra2
      rw [show Rep.fn.size = 1 from rfl] at hca
      have c0 := hca 0 _ rfl
      simp only [Nat.add_zero, Nat.mul_one] at c0
      have b5 := HBX.out.cell 0 rfl
      have HC := Lib.hid (HFN.out i hi10)
      have HE := Lib.hid (entF_call i hi10)
      have HEA := Lib.hid (entA_cap i (.slice B x.Links.length q))
      clear hca hy hra
      generalize cntN i x.Links = z at *
      generalize hq1 : entF i = q1 at *
      generalize hq2 : capF i = q2 at *
      generalize hq3 : entA i (.slice B x.Links.length q) = q3 at *
      clear hq1 hq2 hq3
      go_wp2_with fail
      rw [HE.out, Oper.upon_enter, HEA.out]
      refine (HC.out _ HBE.out).mono ?_
      rintro e w6 ⟨rfl, hb⟩
      have HB6 : Hid (Below w.heap.size w w6) := below_step HBE.out hb
      have HX6 := Lib.hid (HBX.out.kept hb)
      have hrow2 := HRW.out.kept hb
      clear hb c0 b5
      obtain ⟨g2, off2, ys, Fk2, hge, hrd, hel, hFk, hcl, hput⟩ := hrow2.open (HCAT.out k hkl)
      cases hge
      simp only [show Rep.int.size = 1 from rfl, Nat.mul_one] at hel hcl hput
      simp only [Nat.zero_add] at hel hput
      obtain ⟨rfl, _⟩ := id hrd
      have d0 := hel.cell 0 rfl
      have f0 := hel.free 0 (by decide)
      simp only [Nat.zero_add, Nat.add_zero] at d0 f0
      have hs0 := hel.set 0 (by decide) (.int .i64 z)
      simp only [List.set, Nat.zero_add, Nat.add_zero] at hs0
      have HBB := Lib.hid (HB6.out.setCell (p := ⟨w.heap.size + 1, k, none⟩) (by simp) (.int .i64 z))
      have HXX : Hid (InC (w6.setCell ⟨w.heap.size + 1, k, none⟩ (.int .i64 z)) w.heap.size #[.slice B x.Links.length q] 55) := HX6.out.other (p := ⟨w.heap.size + 1, k, none⟩) (by simp) _
      have HNEW := Lib.hid ((hput _ _ z (fun _ => False) hs0 (⟨rfl, HIQ.out⟩) (fun a h => h.elim)).mono (fun a h => h.elim (fun h => h.1) (fun h => h.elim)))
      rw [HSX.out] at HNEW
      clear hput hel hs0 hrd hFk hcl hrow2
      go_wp2
      go_roundw
      case rel => exact ⟨k + 1, by omega, by go_num, HNEW.out, HXX.out, HBB.out⟩
      case measure => simp [intOf]; omega
    · obtain rfl : k = n := by omega
      have hrow := HRW.out
      have hca := HCA.out
      rw [HPL.out] at hca
      rw [hca] at hrow
      have HRR := Lib.hid hrow
      clear hrow hca
      go_wp2
      go_ret
      exact HP.out _ _ (HRR.out.mono (fun a ha => by have := ha.1; omega)) HBE.out
theorem ctrs_lt {ns : List ByteArray} (h : areC ns = true) : ∀ j ∈ ctrs ns, j < 10 := by
  intro j hj
  unfold ctrs at hj
  obtain ⟨y, hy, rfl⟩ := List.mem_map.1 hj
  obtain ⟨k, hk⟩ := List.getElem?_of_mem hy
  have h1 := (areC_mem h hk).1
  rw [hasB_nix] at h1
  exact of_decide_eq_true h1
end Go.Proofs.YtkaihnlknncfdaaGreatDoor

/- The program's InputOf: what it answers. -/
namespace Go.Proofs.YtkaihnlknncfdaaGreatDoor
set_option maxRecDepth 100000
open Go.RowKit M
set_option linter.unusedVariables false
set_option linter.unusedSimpArgs false

theorem implInput_any (x : DCandidate) (v : Value) (F : Addr → Prop) (w : World) (hl : x.Links.length ≤ 1048576) (hv : RowRd rLink false w v x.Links F) :
    Calls Tryz.prog 90 #[.agg #[v]] w fun e w' => e = .returned (.string ⟨(inS x.Links).toArray⟩) ∧ Below w.heap.size w w' := by
  have HS0 : Hid (∀ W, Below w.heap.size w W → Calls Tryz.prog 80 #[.agg #[v]] W fun e w' => e = .returned (.bool (isCd x.Links)) ∧ Below W.heap.size W w') := fun W hW => implIsCd_any x _ F W hl (hv.kept hW)
  have HS1 : Hid (∀ W, Below w.heap.size w W → Calls Tryz.prog 106 #[v] W fun e w' => e = .returned (.tuple #[.string ⟨(inL x.Links).toArray⟩, .string ⟨(outL x.Links).toArray⟩]) ∧ Below W.heap.size W w') := fun W hW => implSides_any x.Links _ F W hl (hv.kept hW)
  obtain ⟨A, cap, rfl⟩ := hv.form
  clear hv
  have HE : Hid (inS x.Links = if isCd x.Links then inL x.Links else []) := rfl
  generalize isCd x.Links = c at *
  generalize inS x.Links = r at *
  have HA : Hid (∀ o, Below w.heap.size w (w.alloc o)) := fun o => (Below.refl _ _).alloc (Nat.le_refl _) _
  have HA1 : Hid (InC (w.alloc (.cells #[.slice A x.Links.length cap] 55)) w.heap.size #[.slice A x.Links.length cap] 55) := heap_alloc_new _ _
  go_enter Tryz.func90, Tryz.ntmps90
  go_wp2_with fail
  refine (HS0.out _ (HA.out _)).mono ?_
  rintro e w2 ⟨rfl, hb⟩
  have b1 := (HA1.out.kept hb).cell 0 rfl
  have HB : Hid (Below w.heap.size w w2) := below_step (HA.out _) hb
  clear hb
  cases c
  · go_wp2_with fail
    go_ret
    exact ⟨ret_str (by rw [HE.out] <;> rfl), HB.out⟩
  · go_wp2_with fail
    refine (HS1.out _ HB.out).mono ?_
    rintro e w3 ⟨rfl, hb⟩
    have HB3 : Hid (Below w.heap.size w w3) := below_step HB.out hb
    clear hb
    go_wp2_with fail
    go_ret
    exact ⟨ret_str (by rw [HE.out] <;> rfl), HB3.out⟩
end Go.Proofs.YtkaihnlknncfdaaGreatDoor

/- The program's IsTableau: what it answers. -/
namespace Go.Proofs.YtkaihnlknncfdaaGreatDoor
set_option maxRecDepth 100000
open Go.RowKit Go.Sort M
set_option linter.unusedVariables false
set_option linter.unusedSimpArgs false

set_option maxHeartbeats 16000000 in
theorem implTab_any (x : DTableau) (A1 : Option Addr) (c1 : Nat) (A2 : Option Addr) (c2 : Nat) (A3 : Option Addr) (c3 : Nat) (F1 F2 F3 : Addr → Prop) (w : World) (hm : rTableau.sz x ≤ 1048576) (hv : TabRd false w (.slice A1 x.Names.length c1) (.slice A2 x.Rows.length c2) (.slice A3 x.Marks.length c3) x F1 F2 F3) (hT : FeatTab w) :
    Calls Tryz.prog 41 #[.agg #[.string x.Input, .slice A1 x.Names.length c1, .slice A2 x.Rows.length c2, .slice A3 x.Marks.length c3]] w fun e w' => e = .returned (.bool (isTab x)) ∧ Below w.heap.size w w' := by
  obtain ⟨hz0, hz1, hz2, hz3, hz4, hz5⟩ := szTab_parts hm
  have hcap1 := hv.names.cap_le
  have HZ4 := Lib.hid hz4
  have HV := Lib.hid hv
  have HSA : Hid (∀ W, Below w.heap.size w W → Calls Tryz.prog 79 #[.slice A1 x.Names.length c1] W fun e w' => e = .returned (.bool (areC x.Names)) ∧ Below W.heap.size W w') := fun W hW => implAre_any mkT x.Names A1 c1 F1 W (by omega) hcap1 (hv.names.kept hW)
  have HSF : Hid (∀ W, Calls Tryz.prog 89 #[.string x.Input] W fun e w' => e = .returned (.bool (isFm x.Input)) ∧ W = w') := fun W => implFmS_any x.Input W (by unfold maxLen; omega)
  have HCO : Hid (areC x.Names = true → ∀ W, Below w.heap.size w W → Calls Tryz.prog 81 #[.slice A1 x.Names.length c1] W (OwnPost Rep.fn (ctrs x.Names) W)) := fun h W hW => implCtrs_any mkT x.Names A1 c1 F1 W h (hv.names.kept hW)
  have HSI : Hid (∀ (c : DCandidate) (v : Value) (G : Addr → Prop) W, c.Links.length ≤ 1048576 → RowRd rLink false W v c.Links G → Calls Tryz.prog 90 #[.agg #[v]] W fun e w' => e = .returned (.string (inT c.Links)) ∧ Below W.heap.size W w') := fun c v G W hl hr => implInput_any c v G W hl hr
  have HSC : Hid (∀ (c : DCandidate) (v : Value) (G : Addr → Prop) W, c.Links.length ≤ 1048576 → RowRd rLink false W v c.Links G → Calls Tryz.prog 80 #[.agg #[v]] W fun e w' => e = .returned (.bool (isCd c.Links)) ∧ Below W.heap.size W w') := fun c v G W hl hr => implIsCd_any c v G W hl hr
  have HSP : Hid (areC x.Names = true → ∀ (A4 : Option Addr) (c4 : Nat) (F4 : Addr → Prop) (c : DCandidate) (B : Option Addr) (q : Nat) (G : Addr → Prop) W, c.Links.length ≤ 1048576 → Below w.heap.size w W → RowRd Rep.fn false W (.slice A4 (ctrs x.Names).length c4) (ctrs x.Names) F4 → RowRd rLink false W (.slice B c.Links.length q) c.Links G → Calls Tryz.prog 82 #[.slice A4 (ctrs x.Names).length c4, .agg #[.slice B c.Links.length q]] W (OwnPost Rep.int (cntsN (ctrs x.Names) c.Links) W)) := fun h A4 c4 F4 c B q G W hl hW hr hr2 => implProfOf_any (ctrs x.Names) (ctrs_lt h) A4 c4 F4 c B q G W (by rw [ctrs_len]; exact hz1) hl hr hr2 (feat_below hT hW)
  have HX2 : Hid (∀ k, k < x.Rows.length → ∃ y, x.Rows[k]? = some y) := fun k hk => ⟨_, List.getElem?_eq_getElem hk⟩
  have HX3 : Hid (∀ k, k < x.Marks.length → ∃ y, x.Marks[k]? = some y) := fun k hk => ⟨_, List.getElem?_eq_getElem hk⟩
  have HHD : Hid (headT x = (areC x.Names && (isFm x.Input && ((decide (1 ≤ (x.Rows.length : Int)) && decide ((x.Rows.length : Int) ≤ 250)) && decide ((x.Marks.length : Int) = (x.Rows.length : Int)))))) := rfl
  have HHF := Lib.hid (isTab_head (x := x))
  have HBD : Hid (∀ k, k < x.Rows.length → rowAt x k = false → isTab x = false) := fun k h1 h2 => isTab_bad h1 h2
  have HGD : Hid (headT x = true → (∀ k, k < x.Rows.length → rowAt x k = true) → isTab x = true) := isTab_good
  have HRA : Hid (areC x.Names = true → ∀ (k : Nat) (c : DCandidate) (m : List Int), x.Rows[k]? = some c → x.Marks[k]? = some m → rowAt x k = (isCd c.Links && (decide (inT c.Links = x.Input) && decide (m = cntsN (ctrs x.Names) c.Links)))) := fun h k c m h1 h2 => by
    rw [rowAt_of h1 h2]
    unfold rowOk
    cases hc : isCd c.Links with
    | false => rfl
    | true => rw [profN_ctrs h hc]
  clear hv hz4 hz5 hm hT
  have HA : Hid (∀ o, Below w.heap.size w (w.alloc o)) := fun o => (Below.refl _ _).alloc (Nat.le_refl _) _
  have HA1 : Hid (InC (w.alloc (.cells #[.string x.Input, .slice A1 x.Names.length c1, .slice A2 x.Rows.length c2, .slice A3 x.Marks.length c3] 32)) w.heap.size #[.string x.Input, .slice A1 x.Names.length c1, .slice A2 x.Rows.length c2, .slice A3 x.Marks.length c3] 32) := heap_alloc_new _ _
  go_enter Tryz.func41, Tryz.ntmps41
  go_wp2_with fail
  refine (HSA.out _ (HA.out _)).mono ?_
  rintro e w1 ⟨rfl, hb⟩
  have HB1 : Hid (Below w.heap.size w w1) := below_step (HA.out _) hb
  have HX1 := Lib.hid (HA1.out.kept hb)
  have b0 := HX1.out.cell 0 rfl
  have b1 := HX1.out.cell 1 rfl
  have b2 := HX1.out.cell 2 rfl
  have b3 := HX1.out.cell 3 rfl
  clear hb
  cases ha : areC x.Names with
  | false =>
    have HN : Hid (isTab x = false) := HHF.out (by rw [HHD.out, ha]; rfl)
    go_wp2_with fail
    go_ret
    exact ⟨ret_bool HN.out.symm, HB1.out⟩
  | true =>
  go_wp2_with fail
  refine (HSF.out _).mono ?_
  rintro e w1' ⟨rfl, rfl⟩
  cases hf : isFm x.Input with
  | false =>
    have HN : Hid (isTab x = false) := HHF.out (by rw [HHD.out, ha, hf]; rfl)
    go_wp2_with fail
    go_ret
    exact ⟨ret_bool HN.out.symm, HB1.out⟩
  | true =>
  by_cases hr1 : (1 ≤ (x.Rows.length : Int))
  case neg =>
    have HN : Hid (isTab x = false) := HHF.out (by rw [HHD.out, ha, hf, decide_eq_false hr1]; simp)
    have e1 : decide ((x.Rows.length : Int) < 1) = true := decide_eq_true (by omega)
    clear ha hf hr1
    go_wp2_with fail
    go_ret
    exact ⟨ret_bool HN.out.symm, HB1.out⟩
  by_cases hr2 : ((x.Rows.length : Int) ≤ 250)
  case neg =>
    have HN : Hid (isTab x = false) := HHF.out (by rw [HHD.out, ha, hf, decide_eq_false hr2]; simp)
    have e1 : decide ((x.Rows.length : Int) < 1) = false := decide_eq_false (by omega)
    have e2 : decide ((250 : Int) < (x.Rows.length : Int)) = true := decide_eq_true (by omega)
    clear ha hf hr1 hr2
    go_wp2_with fail
    go_ret
    exact ⟨ret_bool HN.out.symm, HB1.out⟩
  have e1 : decide ((x.Rows.length : Int) < 1) = false := decide_eq_false (by omega)
  have e2 : decide ((250 : Int) < (x.Rows.length : Int)) = false := decide_eq_false (by omega)
  by_cases hml : (x.Marks.length : Int) = (x.Rows.length : Int)
  case neg =>
    have HN : Hid (isTab x = false) := HHF.out (by rw [HHD.out, ha, hf, decide_eq_false hml]; simp)
    have e3 : ((x.Marks.length : Int) != (x.Rows.length : Int)) = true := by simpa using hml
    clear ha hf
    go_wp2_with fail
    go_ret
    exact ⟨ret_bool HN.out.symm, HB1.out⟩
  have e3 : ((x.Marks.length : Int) != (x.Rows.length : Int)) = false := by simpa using hml
  have HHT : Hid (headT x = true) := by unfold Hid; rw [HHD.out, ha, hf, decide_eq_true hr1, decide_eq_true hr2, decide_eq_true hml]; rfl
  have HCA := Lib.hid (HCO.out ha)
  have HPA := Lib.hid (HSP.out ha)
  have HRB := Lib.hid (HRA.out ha)
  clear ha hf HHD HHF HCO HSP HRA
  have hml2 : x.Marks.length = x.Rows.length := by omega
  go_wp2_with fail
  refine (HCA.out _ HB1.out).mono ?_
  rintro e w3 ⟨u4, rfl, hr4, hb⟩
  obtain ⟨A4, c4, rfl⟩ := hr4.form
  have HB3 : Hid (Below w.heap.size w w3) := below_step HB1.out hb
  have HX3' := Lib.hid (HX1.out.kept hb)
  have HR4 := Lib.hid hr4.weak
  clear hb hr4 b0 b1 b2 b3 HX1 HCA e1 e2 e3
  have b2 := HX3'.out.cell 2 rfl
  go_wp2
  clear b2
  go_loopw [41] (fun i wr => ∃ (k : Nat), k ≤ x.Rows.length ∧ i = .int .i64 k ∧ Hid (∀ j, j < k → rowAt x j = true) ∧ Below w3.heap.size w3 wr) (fun i _ => x.Rows.length - (intOf i).toNat)
  case atStart => exact ⟨0, by omega, rfl, fun j hj => by omega, Below.refl _ _⟩
  case round =>
    obtain ⟨k, hk, rfl, hall, hbe0⟩ := hrel
    obtain ⟨w2, rfl⟩ : ∃ w2 : World, w2 = wr := ⟨_, rfl⟩
    have HB := Lib.hid hbe0
    have HBW := Lib.hid (below_step HB3.out hbe0)
    have HBX := Lib.hid (HX3'.out.kept hbe0)
    clear hbe0
    by_cases hkl : k < x.Rows.length
    · obtain ⟨c, hc⟩ := HX2.out k hkl
      obtain ⟨m, hmk⟩ := HX3.out k (by omega)
      have HL := Lib.hid (HZ4.out k c hc)
      have HRK := Lib.hid (HRB.out k c m hc hmk)
      obtain ⟨g2, o2, xs2, G2, rfl, _, hr2', _, hc2⟩ := (HV.out.rows.kept HBW.out).get hc
      obtain ⟨v2, rfl, q2⟩ := rCandidate_rd hr2'
      obtain ⟨g3, o3, xs3, G3, rfl, _, hr3', _, hc3⟩ := (HV.out.marks.kept HBW.out).get hmk
      obtain ⟨v3, rfl, q3⟩ := id hr3'
      rw [rCandidate_size] at hc2
      rw [show (Rep.row Rep.int).size = 1 from rfl] at hc3
      have d2 := hc2 0 _ rfl
      have d3 := hc3 0 _ rfl
      simp only [Nat.add_zero, Nat.mul_one] at d2 d3
      obtain ⟨A2', cp2, rfl⟩ := q2.form
      obtain ⟨A3', cp3, rfl⟩ := q3.form
      have HWB : Hid (Below w2.heap.size w2 (w2.alloc (.cells #[.slice A2' c.Links.length cp2] 55))) := (Below.refl _ _).alloc (Nat.le_refl _) _
      have HIB : Hid (InC (w2.alloc (.cells #[.slice A2' c.Links.length cp2] 55)) w2.heap.size #[.slice A2' c.Links.length cp2] 55) := heap_alloc_new _ _
      have HW2 : Hid (∀ W : World, Below (w2.alloc (.cells #[.slice A2' c.Links.length cp2] 55)).heap.size (w2.alloc (.cells #[.slice A2' c.Links.length cp2] 55)) W → Below w2.heap.size w2 W) := fun W hW => below_step HWB.out hW
      have HC3 : Hid (∀ W : World, Below (w2.alloc (.cells #[.slice A2' c.Links.length cp2] 55)).heap.size (w2.alloc (.cells #[.slice A2' c.Links.length cp2] 55)) W → W.cell? ⟨g3, o3 + k, none⟩ = some (.slice A3' m.length cp3)) := fun W hW => cell_kept (HW2.out W hW) d3
      have HC4 : Hid (∀ W : World, Below (w2.alloc (.cells #[.slice A2' c.Links.length cp2] 55)).heap.size (w2.alloc (.cells #[.slice A2' c.Links.length cp2] 55)) W → W.cell? ⟨w2.heap.size, 0, none⟩ = some (.slice A2' c.Links.length cp2)) := fun W hW => (HIB.out.kept hW).cell 0 rfl
      have HW : Hid (∀ W : World, Below (w2.alloc (.cells #[.slice A2' c.Links.length cp2] 55)).heap.size (w2.alloc (.cells #[.slice A2' c.Links.length cp2] 55)) W → Below w.heap.size w W) := fun W hW => below_step HBW.out (HW2.out W hW)
      have HQ2 := Lib.hid q2
      have HQ3 := Lib.hid q3
      have HBD2 := Lib.hid (HBD.out k hkl)
      have hkm : (k : Int) < (x.Marks.length : Int) := by omega
      have hkr : (k : Int) < (x.Rows.length : Int) := by omega
      have HB0 : Hid (∀ W : World, Below (w2.alloc (.cells #[.slice A2' c.Links.length cp2] 55)).heap.size (w2.alloc (.cells #[.slice A2' c.Links.length cp2] 55)) W → W.cell? ⟨w.heap.size, 0, none⟩ = some (.string x.Input)) := fun W hW => (HBX.out.kept (HW2.out W hW)).cell 0 rfl
      have HB3' : Hid (∀ W : World, Below (w2.alloc (.cells #[.slice A2' c.Links.length cp2] 55)).heap.size (w2.alloc (.cells #[.slice A2' c.Links.length cp2] 55)) W → W.cell? ⟨w.heap.size, 3, none⟩ = some (.slice (some ⟨g3, o3, none⟩) x.Marks.length c3)) := fun W hW => (HBX.out.kept (HW2.out W hW)).cell 3 rfl
      have HIN : Hid (∀ W, Below (w2.alloc (.cells #[.slice A2' c.Links.length cp2] 55)).heap.size (w2.alloc (.cells #[.slice A2' c.Links.length cp2] 55)) W → Calls Tryz.prog 90 #[.agg #[.slice A2' c.Links.length cp2]] W fun e w' => e = .returned (.string (inT c.Links)) ∧ Below W.heap.size W w') := fun W hW => HSI.out c _ G2 W HL.out (HQ2.out.kept (HW2.out W hW))
      have HIC : Hid (∀ W, Below (w2.alloc (.cells #[.slice A2' c.Links.length cp2] 55)).heap.size (w2.alloc (.cells #[.slice A2' c.Links.length cp2] 55)) W → Calls Tryz.prog 80 #[.agg #[.slice A2' c.Links.length cp2]] W fun e w' => e = .returned (.bool (isCd c.Links)) ∧ Below W.heap.size W w') := fun W hW => HSC.out c _ G2 W HL.out (HQ2.out.kept (HW2.out W hW))
      have HPF : Hid (∀ W, Below (w2.alloc (.cells #[.slice A2' c.Links.length cp2] 55)).heap.size (w2.alloc (.cells #[.slice A2' c.Links.length cp2] 55)) W → Calls Tryz.prog 82 #[.slice A4 (ctrs x.Names).length c4, .agg #[.slice A2' c.Links.length cp2]] W (OwnPost Rep.int (cntsN (ctrs x.Names) c.Links) W)) := fun W hW => HPA.out A4 c4 _ c A2' cp2 G2 W HL.out (HW.out W hW) ((HR4.out.kept HB.out).kept (HW2.out W hW)) (HQ2.out.kept (HW2.out W hW))
      have HSE : Hid (∀ W (u : Value) (G : Addr → Prop), Below (w2.alloc (.cells #[.slice A2' c.Links.length cp2] 55)).heap.size (w2.alloc (.cells #[.slice A2' c.Links.length cp2] 55)) W → RowRd Rep.int false W u (cntsN (ctrs x.Names) c.Links) G → Calls Tryz.prog 91 #[.slice A3' m.length cp3, u] W fun e w' => e = .returned (.bool (decide (m = cntsN (ctrs x.Names) c.Links))) ∧ Below W.heap.size W w') := fun W u G hW hu => sliceEq_any _ u m _ G3 G W (HQ3.out.kept (HW2.out W hW)) hu
      have hne : ((inT c.Links).toList == x.Input.toList) = decide (inT c.Links = x.Input) := txt_eq _ _
      have HRO := Lib.hid HRK.out
      clear hc hmk hr2' hr3' hc2 hc3 d3 q2 q3 HRK HQ2 HQ3 HL HSI HSC HPA HZ4 HX2 HX3 HRB
      generalize hbi : decide (inT c.Links = x.Input) = bi at *
      generalize hbc : isCd c.Links = bc at *
      generalize hbm : decide (m = cntsN (ctrs x.Names) c.Links) = bm at *
      generalize ctrs x.Names = js at *
      clear hbi hbc hbm
      go_upto_region 9 with fail
      clear d2
      go_cut [67] (fun b wx => b = .bool (!rowAt x k) ∧ Below w2.heap.size w2 wx)
      case first =>
        refine wp_region_held_drew (S := fun w' => Below (w2.alloc (.cells #[.slice A2' c.Links.length cp2] 55)).heap.size (w2.alloc (.cells #[.slice A2' c.Links.length cp2] 55)) w') (by kernel_rfl) ((Below.refl _ _).drew) (fun hHeld => ?_)
        cases bc
        · refine' wpAnyH_take (i := 0) (oi := _) (v := ?v1) rfl ?hs1 ?hf1 ?hr1 ?hQ1 (Or.inl ⟨?hw1, ?hy1⟩) hHeld ?rest1
          case hs1 => kernel_rfl
          case hf1 => kernel_rfl
          case hr1 => kernel_rfl
          case hQ1 => exact fun _ _ _ h => h
          case hw1 => kernel_rfl
          case hy1 => (intro w' hw'; have c0 := HB0.out _ hw'; have c3' := HB3'.out _ hw'; have c4' := HC4.out _ hw'; have c5' := HC3.out _ hw'; go_simp; try with_reducible rfl)
          (try change wpAnyH _ _ _ _ _ _ _ (Act.put _ (some 46) _) _)
          try simp only [Act.put, List.setIfInBounds_toArray, List.set_cons_zero, List.set_cons_succ]
          refine wpAnyH_ready (rs := [1]) (by kernel_rfl) (by simp) ?_
          refine AllReadyH.cons rfl (fun K hK => ?_) AllReadyH.nil
          go_simp
          go_at_call 80; refine (HIC.out _ hHeld).mono ?_; rintro e wb ⟨rfl, hba⟩; have hbe := below_step hHeld hba; clear hba
          (try go_wp2_with fail)
          refine hK.out _ _ hbe (fun hHeld => ?_)
          clear hK K
          try simp only [Act.put, List.setIfInBounds_toArray, List.set_cons_zero, List.set_cons_succ]
          refine' wpAnyH_take (i := 2) (oi := _) (v := ?v2) rfl ?hs2 ?hf2 ?hr2 ?hQ2 (Or.inl ⟨?hw2, ?hy2⟩) hHeld ?rest2
          case hs2 => kernel_rfl
          case hf2 => kernel_rfl
          case hr2 => kernel_rfl
          case hQ2 => exact fun _ _ _ h => h
          case hw2 => kernel_rfl
          case hy2 => (intro w' hw'; go_simp; try with_reducible rfl)
          (try change wpAnyH _ _ _ _ _ _ _ (Act.put _ (some 48) _) _)
          try simp only [Act.put, List.setIfInBounds_toArray, List.set_cons_zero, List.set_cons_succ]
          refine' wpAnyH_take (i := 3) (oi := _) (v := ?v3) rfl ?hs3 ?hf3 ?hr3 ?hQ3 (Or.inl ⟨?hw3, ?hy3⟩) hHeld ?rest3
          case hs3 => kernel_rfl
          case hf3 => kernel_rfl
          case hr3 => kernel_rfl
          case hQ3 => exact fun _ _ _ h => h
          case hw3 => kernel_rfl
          case hy3 => (intro w' hw'; go_simp; try with_reducible rfl)
          (try change wpAnyH _ _ _ _ _ _ _ (Act.put _ (some 49) _) _)
          try simp only [Act.put, List.setIfInBounds_toArray, List.set_cons_zero, List.set_cons_succ]
          refine' wpAnyH_take (i := 4) (oi := _) (v := undef) rfl ?hs4 ?hf4 ?hr4 ?hQ4 (Or.inr ⟨?hw4, rfl⟩) hHeld ?rest4
          case hs4 => kernel_rfl
          case hf4 => kernel_rfl
          case hr4 => kernel_rfl
          case hQ4 => exact fun _ _ _ h => h
          case hw4 => kernel_rfl
          (try change wpAnyH _ _ _ _ _ _ _ (Act.put _ (some 50) _) _)
          try simp only [Act.put, List.setIfInBounds_toArray, List.set_cons_zero, List.set_cons_succ]
          refine' wpAnyH_take (i := 5) (oi := _) (v := undef) rfl ?hs5 ?hf5 ?hr5 ?hQ5 (Or.inr ⟨?hw5, rfl⟩) hHeld ?rest5
          case hs5 => kernel_rfl
          case hf5 => kernel_rfl
          case hr5 => kernel_rfl
          case hQ5 => exact fun _ _ _ h => h
          case hw5 => kernel_rfl
          (try change wpAnyH _ _ _ _ _ _ _ (Act.put _ (some 51) _) _)
          try simp only [Act.put, List.setIfInBounds_toArray, List.set_cons_zero, List.set_cons_succ]
          refine' wpAnyH_take (i := 6) (oi := _) (v := undef) rfl ?hs6 ?hf6 ?hr6 ?hQ6 (Or.inr ⟨?hw6, rfl⟩) hHeld ?rest6
          case hs6 => kernel_rfl
          case hf6 => kernel_rfl
          case hr6 => kernel_rfl
          case hQ6 => exact fun _ _ _ h => h
          case hw6 => kernel_rfl
          (try change wpAnyH _ _ _ _ _ _ _ (Act.put _ (some 52) _) _)
          try simp only [Act.put, List.setIfInBounds_toArray, List.set_cons_zero, List.set_cons_succ]
          refine' wpAnyH_take (i := 7) (oi := _) (v := undef) rfl ?hs7 ?hf7 ?hr7 ?hQ7 (Or.inr ⟨?hw7, rfl⟩) hHeld ?rest7
          case hs7 => kernel_rfl
          case hf7 => kernel_rfl
          case hr7 => kernel_rfl
          case hQ7 => exact fun _ _ _ h => h
          case hw7 => kernel_rfl
          (try change wpAnyH _ _ _ _ _ _ _ (Act.put _ (some 53) _) _)
          try simp only [Act.put, List.setIfInBounds_toArray, List.set_cons_zero, List.set_cons_succ]
          refine' wpAnyH_take (i := 8) (oi := _) (v := undef) rfl ?hs8 ?hf8 ?hr8 ?hQ8 (Or.inr ⟨?hw8, rfl⟩) hHeld ?rest8
          case hs8 => kernel_rfl
          case hf8 => kernel_rfl
          case hr8 => kernel_rfl
          case hQ8 => exact fun _ _ _ h => h
          case hw8 => kernel_rfl
          (try change wpAnyH _ _ _ _ _ _ _ (Act.put _ (some 54) _) _)
          try simp only [Act.put, List.setIfInBounds_toArray, List.set_cons_zero, List.set_cons_succ]
          refine' wpAnyH_take (i := 9) (oi := _) (v := ?v9) rfl ?hs9 ?hf9 ?hr9 ?hQ9 (Or.inl ⟨?hw9, ?hy9⟩) hHeld ?rest9
          case hs9 => kernel_rfl
          case hf9 => kernel_rfl
          case hr9 => kernel_rfl
          case hQ9 => exact fun _ _ _ h => h
          case hw9 => kernel_rfl
          case hy9 => (intro w' hw'; go_simp; try with_reducible rfl)
          (try change wpAnyH _ _ _ _ _ _ _ (Act.put _ (some 55) _) _)
          try simp only [Act.put, List.setIfInBounds_toArray, List.set_cons_zero, List.set_cons_succ]
          refine' wpAnyH_take (i := 10) (oi := _) (v := ?v10) rfl ?hs10 ?hf10 ?hr10 ?hQ10 (Or.inl ⟨?hw10, ?hy10⟩) hHeld ?rest10
          case hs10 => kernel_rfl
          case hf10 => kernel_rfl
          case hr10 => kernel_rfl
          case hQ10 => exact fun _ _ _ h => h
          case hw10 => kernel_rfl
          case hy10 => (intro w' hw'; go_simp; try with_reducible rfl)
          (try change wpAnyH _ _ _ _ _ _ _ (Act.put _ (some 56) _) _)
          try simp only [Act.put, List.setIfInBounds_toArray, List.set_cons_zero, List.set_cons_succ]
          refine' wpAnyH_take (i := 11) (oi := _) (v := undef) rfl ?hs11 ?hf11 ?hr11 ?hQ11 (Or.inr ⟨?hw11, rfl⟩) hHeld ?rest11
          case hs11 => kernel_rfl
          case hf11 => kernel_rfl
          case hr11 => kernel_rfl
          case hQ11 => exact fun _ _ _ h => h
          case hw11 => kernel_rfl
          (try change wpAnyH _ _ _ _ _ _ _ (Act.put _ (some 57) _) _)
          try simp only [Act.put, List.setIfInBounds_toArray, List.set_cons_zero, List.set_cons_succ]
          refine' wpAnyH_take (i := 12) (oi := _) (v := undef) rfl ?hs12 ?hf12 ?hr12 ?hQ12 (Or.inr ⟨?hw12, rfl⟩) hHeld ?rest12
          case hs12 => kernel_rfl
          case hf12 => kernel_rfl
          case hr12 => kernel_rfl
          case hQ12 => exact fun _ _ _ h => h
          case hw12 => kernel_rfl
          (try change wpAnyH _ _ _ _ _ _ _ (Act.put _ (some 58) _) _)
          try simp only [Act.put, List.setIfInBounds_toArray, List.set_cons_zero, List.set_cons_succ]
          refine' wpAnyH_take (i := 13) (oi := _) (v := undef) rfl ?hs13 ?hf13 ?hr13 ?hQ13 (Or.inr ⟨?hw13, rfl⟩) hHeld ?rest13
          case hs13 => kernel_rfl
          case hf13 => kernel_rfl
          case hr13 => kernel_rfl
          case hQ13 => exact fun _ _ _ h => h
          case hw13 => kernel_rfl
          (try change wpAnyH _ _ _ _ _ _ _ (Act.put _ (some 59) _) _)
          try simp only [Act.put, List.setIfInBounds_toArray, List.set_cons_zero, List.set_cons_succ]
          refine' wpAnyH_take (i := 14) (oi := _) (v := undef) rfl ?hs14 ?hf14 ?hr14 ?hQ14 (Or.inr ⟨?hw14, rfl⟩) hHeld ?rest14
          case hs14 => kernel_rfl
          case hf14 => kernel_rfl
          case hr14 => kernel_rfl
          case hQ14 => exact fun _ _ _ h => h
          case hw14 => kernel_rfl
          (try change wpAnyH _ _ _ _ _ _ _ (Act.put _ (some 60) _) _)
          try simp only [Act.put, List.setIfInBounds_toArray, List.set_cons_zero, List.set_cons_succ]
          refine' wpAnyH_take (i := 15) (oi := _) (v := undef) rfl ?hs15 ?hf15 ?hr15 ?hQ15 (Or.inr ⟨?hw15, rfl⟩) hHeld ?rest15
          case hs15 => kernel_rfl
          case hf15 => kernel_rfl
          case hr15 => kernel_rfl
          case hQ15 => exact fun _ _ _ h => h
          case hw15 => kernel_rfl
          (try change wpAnyH _ _ _ _ _ _ _ (Act.put _ (some 61) _) _)
          try simp only [Act.put, List.setIfInBounds_toArray, List.set_cons_zero, List.set_cons_succ]
          refine' wpAnyH_take (i := 16) (oi := _) (v := undef) rfl ?hs16 ?hf16 ?hr16 ?hQ16 (Or.inr ⟨?hw16, rfl⟩) hHeld ?rest16
          case hs16 => kernel_rfl
          case hf16 => kernel_rfl
          case hr16 => kernel_rfl
          case hQ16 => exact fun _ _ _ h => h
          case hw16 => kernel_rfl
          (try change wpAnyH _ _ _ _ _ _ _ (Act.put _ (some 62) _) _)
          try simp only [Act.put, List.setIfInBounds_toArray, List.set_cons_zero, List.set_cons_succ]
          refine' wpAnyH_take (i := 17) (oi := _) (v := undef) rfl ?hs17 ?hf17 ?hr17 ?hQ17 (Or.inr ⟨?hw17, rfl⟩) hHeld ?rest17
          case hs17 => kernel_rfl
          case hf17 => kernel_rfl
          case hr17 => kernel_rfl
          case hQ17 => exact fun _ _ _ h => h
          case hw17 => kernel_rfl
          (try change wpAnyH _ _ _ _ _ _ _ (Act.put _ (some 63) _) _)
          try simp only [Act.put, List.setIfInBounds_toArray, List.set_cons_zero, List.set_cons_succ]
          refine' wpAnyH_take (i := 18) (oi := _) (v := undef) rfl ?hs18 ?hf18 ?hr18 ?hQ18 (Or.inr ⟨?hw18, rfl⟩) hHeld ?rest18
          case hs18 => kernel_rfl
          case hf18 => kernel_rfl
          case hr18 => kernel_rfl
          case hQ18 => exact fun _ _ _ h => h
          case hw18 => kernel_rfl
          (try change wpAnyH _ _ _ _ _ _ _ (Act.put _ (some 64) _) _)
          try simp only [Act.put, List.setIfInBounds_toArray, List.set_cons_zero, List.set_cons_succ]
          refine' wpAnyH_take (i := 19) (oi := _) (v := undef) rfl ?hs19 ?hf19 ?hr19 ?hQ19 (Or.inr ⟨?hw19, rfl⟩) hHeld ?rest19
          case hs19 => kernel_rfl
          case hf19 => kernel_rfl
          case hr19 => kernel_rfl
          case hQ19 => exact fun _ _ _ h => h
          case hw19 => kernel_rfl
          (try change wpAnyH _ _ _ _ _ _ _ (Act.put _ (some 65) _) _)
          try simp only [Act.put, List.setIfInBounds_toArray, List.set_cons_zero, List.set_cons_succ]
          refine' wpAnyH_take (i := 20) (oi := _) (v := undef) rfl ?hs20 ?hf20 ?hr20 ?hQ20 (Or.inr ⟨?hw20, rfl⟩) hHeld ?rest20
          case hs20 => kernel_rfl
          case hf20 => kernel_rfl
          case hr20 => kernel_rfl
          case hQ20 => exact fun _ _ _ h => h
          case hw20 => kernel_rfl
          (try change wpAnyH _ _ _ _ _ _ _ (Act.put _ (some 66) _) _)
          try simp only [Act.put, List.setIfInBounds_toArray, List.set_cons_zero, List.set_cons_succ]
          refine' wpAnyH_take (i := 21) (oi := _) (v := ?v21) rfl ?hs21 ?hf21 ?hr21 ?hQ21 (Or.inl ⟨?hw21, ?hy21⟩) hHeld ?rest21
          case hs21 => kernel_rfl
          case hf21 => kernel_rfl
          case hr21 => kernel_rfl
          case hQ21 => exact fun _ _ _ h => h
          case hw21 => kernel_rfl
          case hy21 => (intro w' hw'; go_simp; try with_reducible rfl)
          (try change wpAnyH _ _ _ _ _ _ _ (Act.put _ (some 67) _) _)
          try simp only [Act.put, List.setIfInBounds_toArray, List.set_cons_zero, List.set_cons_succ]
          refine wpAnyH_done ?hdone22 ?hq22 _
          case hdone22 => kernel_rfl
          go_wp2_with fail
          go_meet
          exact ⟨by rw [HRO.out]; first | rfl | simp, HW2.out _ hHeld⟩
        · cases bi
          · refine' wpAnyH_take (i := 0) (oi := _) (v := ?v23) rfl ?hs23 ?hf23 ?hr23 ?hQ23 (Or.inl ⟨?hw23, ?hy23⟩) hHeld ?rest23
            case hs23 => kernel_rfl
            case hf23 => kernel_rfl
            case hr23 => kernel_rfl
            case hQ23 => exact fun _ _ _ h => h
            case hw23 => kernel_rfl
            case hy23 => (intro w' hw'; have c0 := HB0.out _ hw'; have c3' := HB3'.out _ hw'; have c4' := HC4.out _ hw'; have c5' := HC3.out _ hw'; go_simp; try with_reducible rfl)
            (try change wpAnyH _ _ _ _ _ _ _ (Act.put _ (some 46) _) _)
            try simp only [Act.put, List.setIfInBounds_toArray, List.set_cons_zero, List.set_cons_succ]
            refine wpAnyH_ready (rs := [1]) (by kernel_rfl) (by simp) ?_
            refine AllReadyH.cons rfl (fun K hK => ?_) AllReadyH.nil
            go_simp
            go_at_call 80; refine (HIC.out _ hHeld).mono ?_; rintro e wb ⟨rfl, hba⟩; have hbe := below_step hHeld hba; clear hba
            (try go_wp2_with fail)
            refine hK.out _ _ hbe (fun hHeld => ?_)
            clear hK K
            try simp only [Act.put, List.setIfInBounds_toArray, List.set_cons_zero, List.set_cons_succ]
            refine' wpAnyH_take (i := 2) (oi := _) (v := ?v24) rfl ?hs24 ?hf24 ?hr24 ?hQ24 (Or.inl ⟨?hw24, ?hy24⟩) hHeld ?rest24
            case hs24 => kernel_rfl
            case hf24 => kernel_rfl
            case hr24 => kernel_rfl
            case hQ24 => exact fun _ _ _ h => h
            case hw24 => kernel_rfl
            case hy24 => (intro w' hw'; go_simp; try with_reducible rfl)
            (try change wpAnyH _ _ _ _ _ _ _ (Act.put _ (some 48) _) _)
            try simp only [Act.put, List.setIfInBounds_toArray, List.set_cons_zero, List.set_cons_succ]
            refine' wpAnyH_take (i := 3) (oi := _) (v := ?v25) rfl ?hs25 ?hf25 ?hr25 ?hQ25 (Or.inl ⟨?hw25, ?hy25⟩) hHeld ?rest25
            case hs25 => kernel_rfl
            case hf25 => kernel_rfl
            case hr25 => kernel_rfl
            case hQ25 => exact fun _ _ _ h => h
            case hw25 => kernel_rfl
            case hy25 => (intro w' hw'; go_simp; try with_reducible rfl)
            (try change wpAnyH _ _ _ _ _ _ _ (Act.put _ (some 49) _) _)
            try simp only [Act.put, List.setIfInBounds_toArray, List.set_cons_zero, List.set_cons_succ]
            refine' wpAnyH_take (i := 4) (oi := _) (v := ?v26) rfl ?hs26 ?hf26 ?hr26 ?hQ26 (Or.inl ⟨?hw26, ?hy26⟩) hHeld ?rest26
            case hs26 => kernel_rfl
            case hf26 => kernel_rfl
            case hr26 => kernel_rfl
            case hQ26 => exact fun _ _ _ h => h
            case hw26 => kernel_rfl
            case hy26 => (intro w' hw'; have c0 := HB0.out _ hw'; have c3' := HB3'.out _ hw'; have c4' := HC4.out _ hw'; have c5' := HC3.out _ hw'; go_simp; try with_reducible rfl)
            (try change wpAnyH _ _ _ _ _ _ _ (Act.put _ (some 50) _) _)
            try simp only [Act.put, List.setIfInBounds_toArray, List.set_cons_zero, List.set_cons_succ]
            refine' wpAnyH_take (i := 6) (oi := _) (v := ?v27) rfl ?hs27 ?hf27 ?hr27 ?hQ27 (Or.inl ⟨?hw27, ?hy27⟩) hHeld ?rest27
            case hs27 => kernel_rfl
            case hf27 => kernel_rfl
            case hr27 => kernel_rfl
            case hQ27 => exact fun _ _ _ h => h
            case hw27 => kernel_rfl
            case hy27 => (intro w' hw'; go_simp; try with_reducible rfl)
            (try change wpAnyH _ _ _ _ _ _ _ (Act.put _ (some 52) _) _)
            try simp only [Act.put, List.setIfInBounds_toArray, List.set_cons_zero, List.set_cons_succ]
            refine' wpAnyH_take (i := 7) (oi := _) (v := ?v28) rfl ?hs28 ?hf28 ?hr28 ?hQ28 (Or.inl ⟨?hw28, ?hy28⟩) hHeld ?rest28
            case hs28 => kernel_rfl
            case hf28 => kernel_rfl
            case hr28 => kernel_rfl
            case hQ28 => exact fun _ _ _ h => h
            case hw28 => kernel_rfl
            case hy28 => (intro w' hw'; have c0 := HB0.out _ hw'; have c3' := HB3'.out _ hw'; have c4' := HC4.out _ hw'; have c5' := HC3.out _ hw'; go_simp; try with_reducible rfl)
            (try change wpAnyH _ _ _ _ _ _ _ (Act.put _ (some 53) _) _)
            try simp only [Act.put, List.setIfInBounds_toArray, List.set_cons_zero, List.set_cons_succ]
            refine wpAnyH_ready (rs := [5]) (by kernel_rfl) (by simp) ?_
            refine AllReadyH.cons rfl (fun K hK => ?_) AllReadyH.nil
            go_simp
            go_at_call 90; refine (HIN.out _ hHeld).mono ?_; rintro e wa ⟨rfl, hba⟩; have hbe := below_step hHeld hba; clear hba
            (try go_wp2_with fail)
            refine hK.out _ _ hbe (fun hHeld => ?_)
            clear hK K
            try simp only [Act.put, List.setIfInBounds_toArray, List.set_cons_zero, List.set_cons_succ]
            refine' wpAnyH_take (i := 8) (oi := _) (v := ?v29) rfl ?hs29 ?hf29 ?hr29 ?hQ29 (Or.inl ⟨?hw29, ?hy29⟩) hHeld ?rest29
            case hs29 => kernel_rfl
            case hf29 => kernel_rfl
            case hr29 => kernel_rfl
            case hQ29 => exact fun _ _ _ h => h
            case hw29 => kernel_rfl
            case hy29 => (intro w' hw'; go_simp; try with_reducible rfl)
            (try change wpAnyH _ _ _ _ _ _ _ (Act.put _ (some 54) _) _)
            try simp only [Act.put, List.setIfInBounds_toArray, List.set_cons_zero, List.set_cons_succ]
            refine' wpAnyH_take (i := 9) (oi := _) (v := ?v30) rfl ?hs30 ?hf30 ?hr30 ?hQ30 (Or.inl ⟨?hw30, ?hy30⟩) hHeld ?rest30
            case hs30 => kernel_rfl
            case hf30 => kernel_rfl
            case hr30 => kernel_rfl
            case hQ30 => exact fun _ _ _ h => h
            case hw30 => kernel_rfl
            case hy30 => (intro w' hw'; go_simp; try with_reducible rfl)
            (try change wpAnyH _ _ _ _ _ _ _ (Act.put _ (some 55) _) _)
            try simp only [Act.put, List.setIfInBounds_toArray, List.set_cons_zero, List.set_cons_succ]
            refine' wpAnyH_take (i := 10) (oi := _) (v := ?v31) rfl ?hs31 ?hf31 ?hr31 ?hQ31 (Or.inl ⟨?hw31, ?hy31⟩) hHeld ?rest31
            case hs31 => kernel_rfl
            case hf31 => kernel_rfl
            case hr31 => kernel_rfl
            case hQ31 => exact fun _ _ _ h => h
            case hw31 => kernel_rfl
            case hy31 => (intro w' hw'; go_simp; try with_reducible rfl)
            (try change wpAnyH _ _ _ _ _ _ _ (Act.put _ (some 56) _) _)
            try simp only [Act.put, List.setIfInBounds_toArray, List.set_cons_zero, List.set_cons_succ]
            refine' wpAnyH_take (i := 11) (oi := _) (v := undef) rfl ?hs32 ?hf32 ?hr32 ?hQ32 (Or.inr ⟨?hw32, rfl⟩) hHeld ?rest32
            case hs32 => kernel_rfl
            case hf32 => kernel_rfl
            case hr32 => kernel_rfl
            case hQ32 => exact fun _ _ _ h => h
            case hw32 => kernel_rfl
            (try change wpAnyH _ _ _ _ _ _ _ (Act.put _ (some 57) _) _)
            try simp only [Act.put, List.setIfInBounds_toArray, List.set_cons_zero, List.set_cons_succ]
            refine' wpAnyH_take (i := 12) (oi := _) (v := undef) rfl ?hs33 ?hf33 ?hr33 ?hQ33 (Or.inr ⟨?hw33, rfl⟩) hHeld ?rest33
            case hs33 => kernel_rfl
            case hf33 => kernel_rfl
            case hr33 => kernel_rfl
            case hQ33 => exact fun _ _ _ h => h
            case hw33 => kernel_rfl
            (try change wpAnyH _ _ _ _ _ _ _ (Act.put _ (some 58) _) _)
            try simp only [Act.put, List.setIfInBounds_toArray, List.set_cons_zero, List.set_cons_succ]
            refine' wpAnyH_take (i := 13) (oi := _) (v := undef) rfl ?hs34 ?hf34 ?hr34 ?hQ34 (Or.inr ⟨?hw34, rfl⟩) hHeld ?rest34
            case hs34 => kernel_rfl
            case hf34 => kernel_rfl
            case hr34 => kernel_rfl
            case hQ34 => exact fun _ _ _ h => h
            case hw34 => kernel_rfl
            (try change wpAnyH _ _ _ _ _ _ _ (Act.put _ (some 59) _) _)
            try simp only [Act.put, List.setIfInBounds_toArray, List.set_cons_zero, List.set_cons_succ]
            refine' wpAnyH_take (i := 14) (oi := _) (v := undef) rfl ?hs35 ?hf35 ?hr35 ?hQ35 (Or.inr ⟨?hw35, rfl⟩) hHeld ?rest35
            case hs35 => kernel_rfl
            case hf35 => kernel_rfl
            case hr35 => kernel_rfl
            case hQ35 => exact fun _ _ _ h => h
            case hw35 => kernel_rfl
            (try change wpAnyH _ _ _ _ _ _ _ (Act.put _ (some 60) _) _)
            try simp only [Act.put, List.setIfInBounds_toArray, List.set_cons_zero, List.set_cons_succ]
            refine' wpAnyH_take (i := 15) (oi := _) (v := undef) rfl ?hs36 ?hf36 ?hr36 ?hQ36 (Or.inr ⟨?hw36, rfl⟩) hHeld ?rest36
            case hs36 => kernel_rfl
            case hf36 => kernel_rfl
            case hr36 => kernel_rfl
            case hQ36 => exact fun _ _ _ h => h
            case hw36 => kernel_rfl
            (try change wpAnyH _ _ _ _ _ _ _ (Act.put _ (some 61) _) _)
            try simp only [Act.put, List.setIfInBounds_toArray, List.set_cons_zero, List.set_cons_succ]
            refine' wpAnyH_take (i := 16) (oi := _) (v := undef) rfl ?hs37 ?hf37 ?hr37 ?hQ37 (Or.inr ⟨?hw37, rfl⟩) hHeld ?rest37
            case hs37 => kernel_rfl
            case hf37 => kernel_rfl
            case hr37 => kernel_rfl
            case hQ37 => exact fun _ _ _ h => h
            case hw37 => kernel_rfl
            (try change wpAnyH _ _ _ _ _ _ _ (Act.put _ (some 62) _) _)
            try simp only [Act.put, List.setIfInBounds_toArray, List.set_cons_zero, List.set_cons_succ]
            refine' wpAnyH_take (i := 17) (oi := _) (v := undef) rfl ?hs38 ?hf38 ?hr38 ?hQ38 (Or.inr ⟨?hw38, rfl⟩) hHeld ?rest38
            case hs38 => kernel_rfl
            case hf38 => kernel_rfl
            case hr38 => kernel_rfl
            case hQ38 => exact fun _ _ _ h => h
            case hw38 => kernel_rfl
            (try change wpAnyH _ _ _ _ _ _ _ (Act.put _ (some 63) _) _)
            try simp only [Act.put, List.setIfInBounds_toArray, List.set_cons_zero, List.set_cons_succ]
            refine' wpAnyH_take (i := 18) (oi := _) (v := undef) rfl ?hs39 ?hf39 ?hr39 ?hQ39 (Or.inr ⟨?hw39, rfl⟩) hHeld ?rest39
            case hs39 => kernel_rfl
            case hf39 => kernel_rfl
            case hr39 => kernel_rfl
            case hQ39 => exact fun _ _ _ h => h
            case hw39 => kernel_rfl
            (try change wpAnyH _ _ _ _ _ _ _ (Act.put _ (some 64) _) _)
            try simp only [Act.put, List.setIfInBounds_toArray, List.set_cons_zero, List.set_cons_succ]
            refine' wpAnyH_take (i := 19) (oi := _) (v := undef) rfl ?hs40 ?hf40 ?hr40 ?hQ40 (Or.inr ⟨?hw40, rfl⟩) hHeld ?rest40
            case hs40 => kernel_rfl
            case hf40 => kernel_rfl
            case hr40 => kernel_rfl
            case hQ40 => exact fun _ _ _ h => h
            case hw40 => kernel_rfl
            (try change wpAnyH _ _ _ _ _ _ _ (Act.put _ (some 65) _) _)
            try simp only [Act.put, List.setIfInBounds_toArray, List.set_cons_zero, List.set_cons_succ]
            refine' wpAnyH_take (i := 20) (oi := _) (v := undef) rfl ?hs41 ?hf41 ?hr41 ?hQ41 (Or.inr ⟨?hw41, rfl⟩) hHeld ?rest41
            case hs41 => kernel_rfl
            case hf41 => kernel_rfl
            case hr41 => kernel_rfl
            case hQ41 => exact fun _ _ _ h => h
            case hw41 => kernel_rfl
            (try change wpAnyH _ _ _ _ _ _ _ (Act.put _ (some 66) _) _)
            try simp only [Act.put, List.setIfInBounds_toArray, List.set_cons_zero, List.set_cons_succ]
            refine' wpAnyH_take (i := 21) (oi := _) (v := ?v42) rfl ?hs42 ?hf42 ?hr42 ?hQ42 (Or.inl ⟨?hw42, ?hy42⟩) hHeld ?rest42
            case hs42 => kernel_rfl
            case hf42 => kernel_rfl
            case hr42 => kernel_rfl
            case hQ42 => exact fun _ _ _ h => h
            case hw42 => kernel_rfl
            case hy42 => (intro w' hw'; go_simp; try with_reducible rfl)
            (try change wpAnyH _ _ _ _ _ _ _ (Act.put _ (some 67) _) _)
            try simp only [Act.put, List.setIfInBounds_toArray, List.set_cons_zero, List.set_cons_succ]
            refine wpAnyH_done ?hdone43 ?hq43 _
            case hdone43 => kernel_rfl
            go_wp2_with fail
            go_meet
            exact ⟨by rw [HRO.out]; first | rfl | simp, HW2.out _ hHeld⟩
          · refine' wpAnyH_take (i := 0) (oi := _) (v := ?v44) rfl ?hs44 ?hf44 ?hr44 ?hQ44 (Or.inl ⟨?hw44, ?hy44⟩) hHeld ?rest44
            case hs44 => kernel_rfl
            case hf44 => kernel_rfl
            case hr44 => kernel_rfl
            case hQ44 => exact fun _ _ _ h => h
            case hw44 => kernel_rfl
            case hy44 => (intro w' hw'; have c0 := HB0.out _ hw'; have c3' := HB3'.out _ hw'; have c4' := HC4.out _ hw'; have c5' := HC3.out _ hw'; go_simp; try with_reducible rfl)
            (try change wpAnyH _ _ _ _ _ _ _ (Act.put _ (some 46) _) _)
            try simp only [Act.put, List.setIfInBounds_toArray, List.set_cons_zero, List.set_cons_succ]
            refine wpAnyH_ready (rs := [1]) (by kernel_rfl) (by simp) ?_
            refine AllReadyH.cons rfl (fun K hK => ?_) AllReadyH.nil
            go_simp
            go_at_call 80; refine (HIC.out _ hHeld).mono ?_; rintro e wb ⟨rfl, hba⟩; have hbe := below_step hHeld hba; clear hba
            (try go_wp2_with fail)
            refine hK.out _ _ hbe (fun hHeld => ?_)
            clear hK K
            try simp only [Act.put, List.setIfInBounds_toArray, List.set_cons_zero, List.set_cons_succ]
            refine' wpAnyH_take (i := 2) (oi := _) (v := ?v45) rfl ?hs45 ?hf45 ?hr45 ?hQ45 (Or.inl ⟨?hw45, ?hy45⟩) hHeld ?rest45
            case hs45 => kernel_rfl
            case hf45 => kernel_rfl
            case hr45 => kernel_rfl
            case hQ45 => exact fun _ _ _ h => h
            case hw45 => kernel_rfl
            case hy45 => (intro w' hw'; go_simp; try with_reducible rfl)
            (try change wpAnyH _ _ _ _ _ _ _ (Act.put _ (some 48) _) _)
            try simp only [Act.put, List.setIfInBounds_toArray, List.set_cons_zero, List.set_cons_succ]
            refine' wpAnyH_take (i := 3) (oi := _) (v := ?v46) rfl ?hs46 ?hf46 ?hr46 ?hQ46 (Or.inl ⟨?hw46, ?hy46⟩) hHeld ?rest46
            case hs46 => kernel_rfl
            case hf46 => kernel_rfl
            case hr46 => kernel_rfl
            case hQ46 => exact fun _ _ _ h => h
            case hw46 => kernel_rfl
            case hy46 => (intro w' hw'; go_simp; try with_reducible rfl)
            (try change wpAnyH _ _ _ _ _ _ _ (Act.put _ (some 49) _) _)
            try simp only [Act.put, List.setIfInBounds_toArray, List.set_cons_zero, List.set_cons_succ]
            refine' wpAnyH_take (i := 4) (oi := _) (v := ?v47) rfl ?hs47 ?hf47 ?hr47 ?hQ47 (Or.inl ⟨?hw47, ?hy47⟩) hHeld ?rest47
            case hs47 => kernel_rfl
            case hf47 => kernel_rfl
            case hr47 => kernel_rfl
            case hQ47 => exact fun _ _ _ h => h
            case hw47 => kernel_rfl
            case hy47 => (intro w' hw'; have c0 := HB0.out _ hw'; have c3' := HB3'.out _ hw'; have c4' := HC4.out _ hw'; have c5' := HC3.out _ hw'; go_simp; try with_reducible rfl)
            (try change wpAnyH _ _ _ _ _ _ _ (Act.put _ (some 50) _) _)
            try simp only [Act.put, List.setIfInBounds_toArray, List.set_cons_zero, List.set_cons_succ]
            refine' wpAnyH_take (i := 6) (oi := _) (v := ?v48) rfl ?hs48 ?hf48 ?hr48 ?hQ48 (Or.inl ⟨?hw48, ?hy48⟩) hHeld ?rest48
            case hs48 => kernel_rfl
            case hf48 => kernel_rfl
            case hr48 => kernel_rfl
            case hQ48 => exact fun _ _ _ h => h
            case hw48 => kernel_rfl
            case hy48 => (intro w' hw'; go_simp; try with_reducible rfl)
            (try change wpAnyH _ _ _ _ _ _ _ (Act.put _ (some 52) _) _)
            try simp only [Act.put, List.setIfInBounds_toArray, List.set_cons_zero, List.set_cons_succ]
            refine' wpAnyH_take (i := 7) (oi := _) (v := ?v49) rfl ?hs49 ?hf49 ?hr49 ?hQ49 (Or.inl ⟨?hw49, ?hy49⟩) hHeld ?rest49
            case hs49 => kernel_rfl
            case hf49 => kernel_rfl
            case hr49 => kernel_rfl
            case hQ49 => exact fun _ _ _ h => h
            case hw49 => kernel_rfl
            case hy49 => (intro w' hw'; have c0 := HB0.out _ hw'; have c3' := HB3'.out _ hw'; have c4' := HC4.out _ hw'; have c5' := HC3.out _ hw'; go_simp; try with_reducible rfl)
            (try change wpAnyH _ _ _ _ _ _ _ (Act.put _ (some 53) _) _)
            try simp only [Act.put, List.setIfInBounds_toArray, List.set_cons_zero, List.set_cons_succ]
            refine wpAnyH_ready (rs := [5]) (by kernel_rfl) (by simp) ?_
            refine AllReadyH.cons rfl (fun K hK => ?_) AllReadyH.nil
            go_simp
            go_at_call 90; refine (HIN.out _ hHeld).mono ?_; rintro e wa ⟨rfl, hba⟩; have hbe := below_step hHeld hba; clear hba
            (try go_wp2_with fail)
            refine hK.out _ _ hbe (fun hHeld => ?_)
            clear hK K
            try simp only [Act.put, List.setIfInBounds_toArray, List.set_cons_zero, List.set_cons_succ]
            refine' wpAnyH_take (i := 8) (oi := _) (v := ?v50) rfl ?hs50 ?hf50 ?hr50 ?hQ50 (Or.inl ⟨?hw50, ?hy50⟩) hHeld ?rest50
            case hs50 => kernel_rfl
            case hf50 => kernel_rfl
            case hr50 => kernel_rfl
            case hQ50 => exact fun _ _ _ h => h
            case hw50 => kernel_rfl
            case hy50 => (intro w' hw'; go_simp; try with_reducible rfl)
            (try change wpAnyH _ _ _ _ _ _ _ (Act.put _ (some 54) _) _)
            try simp only [Act.put, List.setIfInBounds_toArray, List.set_cons_zero, List.set_cons_succ]
            refine' wpAnyH_take (i := 9) (oi := _) (v := ?v51) rfl ?hs51 ?hf51 ?hr51 ?hQ51 (Or.inl ⟨?hw51, ?hy51⟩) hHeld ?rest51
            case hs51 => kernel_rfl
            case hf51 => kernel_rfl
            case hr51 => kernel_rfl
            case hQ51 => exact fun _ _ _ h => h
            case hw51 => kernel_rfl
            case hy51 => (intro w' hw'; go_simp; try with_reducible rfl)
            (try change wpAnyH _ _ _ _ _ _ _ (Act.put _ (some 55) _) _)
            try simp only [Act.put, List.setIfInBounds_toArray, List.set_cons_zero, List.set_cons_succ]
            refine' wpAnyH_take (i := 10) (oi := _) (v := ?v52) rfl ?hs52 ?hf52 ?hr52 ?hQ52 (Or.inl ⟨?hw52, ?hy52⟩) hHeld ?rest52
            case hs52 => kernel_rfl
            case hf52 => kernel_rfl
            case hr52 => kernel_rfl
            case hQ52 => exact fun _ _ _ h => h
            case hw52 => kernel_rfl
            case hy52 => (intro w' hw'; go_simp; try with_reducible rfl)
            (try change wpAnyH _ _ _ _ _ _ _ (Act.put _ (some 56) _) _)
            try simp only [Act.put, List.setIfInBounds_toArray, List.set_cons_zero, List.set_cons_succ]
            refine' wpAnyH_take (i := 11) (oi := _) (v := ?v53) rfl ?hs53 ?hf53 ?hr53 ?hQ53 (Or.inl ⟨?hw53, ?hy53⟩) hHeld ?rest53
            case hs53 => kernel_rfl
            case hf53 => kernel_rfl
            case hr53 => kernel_rfl
            case hQ53 => exact fun _ _ _ h => h
            case hw53 => kernel_rfl
            case hy53 => (intro w' hw'; go_simp; try with_reducible rfl)
            (try change wpAnyH _ _ _ _ _ _ _ (Act.put _ (some 57) _) _)
            try simp only [Act.put, List.setIfInBounds_toArray, List.set_cons_zero, List.set_cons_succ]
            refine' wpAnyH_take (i := 12) (oi := _) (v := ?v54) rfl ?hs54 ?hf54 ?hr54 ?hQ54 (Or.inl ⟨?hw54, ?hy54⟩) hHeld ?rest54
            case hs54 => kernel_rfl
            case hf54 => kernel_rfl
            case hr54 => kernel_rfl
            case hQ54 => exact fun _ _ _ h => h
            case hw54 => kernel_rfl
            case hy54 => (intro w' hw'; have c0 := HB0.out _ hw'; have c3' := HB3'.out _ hw'; have c4' := HC4.out _ hw'; have c5' := HC3.out _ hw'; go_simp; try with_reducible rfl)
            (try change wpAnyH _ _ _ _ _ _ _ (Act.put _ (some 58) _) _)
            try simp only [Act.put, List.setIfInBounds_toArray, List.set_cons_zero, List.set_cons_succ]
            refine' wpAnyH_take (i := 13) (oi := _) (v := ?v55) rfl ?hs55 ?hf55 ?hr55 ?hQ55 (Or.inl ⟨?hw55, ?hy55⟩) hHeld ?rest55
            case hs55 => kernel_rfl
            case hf55 => kernel_rfl
            case hr55 => kernel_rfl
            case hQ55 => exact fun _ _ _ h => h
            case hw55 => kernel_rfl
            case hy55 => (intro w' hw'; go_simp; try with_reducible rfl)
            (try change wpAnyH _ _ _ _ _ _ _ (Act.put _ (some 59) _) _)
            try simp only [Act.put, List.setIfInBounds_toArray, List.set_cons_zero, List.set_cons_succ]
            refine' wpAnyH_take (i := 14) (oi := _) (v := ?v56) rfl ?hs56 ?hf56 ?hr56 ?hQ56 (Or.inl ⟨?hw56, ?hy56⟩) hHeld ?rest56
            case hs56 => kernel_rfl
            case hf56 => kernel_rfl
            case hr56 => kernel_rfl
            case hQ56 => exact fun _ _ _ h => h
            case hw56 => kernel_rfl
            case hy56 => (intro w' hw'; go_simp; try with_reducible rfl)
            (try change wpAnyH _ _ _ _ _ _ _ (Act.put _ (some 60) _) _)
            try simp only [Act.put, List.setIfInBounds_toArray, List.set_cons_zero, List.set_cons_succ]
            refine' wpAnyH_take (i := 15) (oi := _) (v := ?v57) rfl ?hs57 ?hf57 ?hr57 ?hQ57 (Or.inl ⟨?hw57, ?hy57⟩) hHeld ?rest57
            case hs57 => kernel_rfl
            case hf57 => kernel_rfl
            case hr57 => kernel_rfl
            case hQ57 => exact fun _ _ _ h => h
            case hw57 => kernel_rfl
            case hy57 => (intro w' hw'; have c0 := HB0.out _ hw'; have c3' := HB3'.out _ hw'; have c4' := HC4.out _ hw'; have c5' := HC3.out _ hw'; go_simp; try with_reducible rfl)
            (try change wpAnyH _ _ _ _ _ _ _ (Act.put _ (some 61) _) _)
            try simp only [Act.put, List.setIfInBounds_toArray, List.set_cons_zero, List.set_cons_succ]
            refine' wpAnyH_take (i := 16) (oi := _) (v := ?v58) rfl ?hs58 ?hf58 ?hr58 ?hQ58 (Or.inl ⟨?hw58, ?hy58⟩) hHeld ?rest58
            case hs58 => kernel_rfl
            case hf58 => kernel_rfl
            case hr58 => kernel_rfl
            case hQ58 => exact fun _ _ _ h => h
            case hw58 => kernel_rfl
            case hy58 => (intro w' hw'; go_simp; try with_reducible rfl)
            (try change wpAnyH _ _ _ _ _ _ _ (Act.put _ (some 62) _) _)
            try simp only [Act.put, List.setIfInBounds_toArray, List.set_cons_zero, List.set_cons_succ]
            refine' wpAnyH_take (i := 17) (oi := _) (v := ?v59) rfl ?hs59 ?hf59 ?hr59 ?hQ59 (Or.inl ⟨?hw59, ?hy59⟩) hHeld ?rest59
            case hs59 => kernel_rfl
            case hf59 => kernel_rfl
            case hr59 => kernel_rfl
            case hQ59 => exact fun _ _ _ h => h
            case hw59 => kernel_rfl
            case hy59 => (intro w' hw'; have c0 := HB0.out _ hw'; have c3' := HB3'.out _ hw'; have c4' := HC4.out _ hw'; have c5' := HC3.out _ hw'; go_simp; try with_reducible rfl)
            (try change wpAnyH _ _ _ _ _ _ _ (Act.put _ (some 63) _) _)
            try simp only [Act.put, List.setIfInBounds_toArray, List.set_cons_zero, List.set_cons_succ]
            refine wpAnyH_ready (rs := [18]) (by kernel_rfl) (by simp) ?_
            refine AllReadyH.cons rfl (fun K hK => ?_) AllReadyH.nil
            go_simp
            go_at_call 82; refine (HPF.out _ hHeld).mono ?_; rintro e wc ⟨uc, rfl, hrc, hba⟩; obtain ⟨Ac, cc, rfl⟩ := hrc.form; have HRC := Lib.hid hrc.weak; have hbe := below_step hHeld hba; clear hba hrc
            (try go_wp2_with fail)
            refine hK.out _ _ hbe (fun hHeld => ?_)
            clear hK K
            try simp only [Act.put, List.setIfInBounds_toArray, List.set_cons_zero, List.set_cons_succ]
            refine wpAnyH_ready (rs := [19]) (by kernel_rfl) (by simp) ?_
            refine AllReadyH.cons rfl (fun K hK => ?_) AllReadyH.nil
            go_simp
            go_at_call 91; refine (HSE.out _ _ _ hHeld HRC.out).mono ?_; rintro e wd ⟨rfl, hba⟩; have hbe := below_step hHeld hba; clear hba
            (try go_wp2_with fail)
            refine hK.out _ _ hbe (fun hHeld => ?_)
            clear hK K
            try simp only [Act.put, List.setIfInBounds_toArray, List.set_cons_zero, List.set_cons_succ]
            refine' wpAnyH_take (i := 20) (oi := _) (v := ?v60) rfl ?hs60 ?hf60 ?hr60 ?hQ60 (Or.inl ⟨?hw60, ?hy60⟩) hHeld ?rest60
            case hs60 => kernel_rfl
            case hf60 => kernel_rfl
            case hr60 => kernel_rfl
            case hQ60 => exact fun _ _ _ h => h
            case hw60 => kernel_rfl
            case hy60 => (intro w' hw'; go_simp; try with_reducible rfl)
            (try change wpAnyH _ _ _ _ _ _ _ (Act.put _ (some 66) _) _)
            try simp only [Act.put, List.setIfInBounds_toArray, List.set_cons_zero, List.set_cons_succ]
            refine' wpAnyH_take (i := 21) (oi := _) (v := ?v61) rfl ?hs61 ?hf61 ?hr61 ?hQ61 (Or.inl ⟨?hw61, ?hy61⟩) hHeld ?rest61
            case hs61 => kernel_rfl
            case hf61 => kernel_rfl
            case hr61 => kernel_rfl
            case hQ61 => exact fun _ _ _ h => h
            case hw61 => kernel_rfl
            case hy61 => (intro w' hw'; go_simp; try with_reducible rfl)
            (try change wpAnyH _ _ _ _ _ _ _ (Act.put _ (some 67) _) _)
            try simp only [Act.put, List.setIfInBounds_toArray, List.set_cons_zero, List.set_cons_succ]
            refine wpAnyH_done ?hdone62 ?hq62 _
            case hdone62 => kernel_rfl
            go_wp2_with fail
            go_meet
            exact ⟨by rw [HRO.out]; first | rfl | simp, HW2.out _ hHeld⟩
      case rest =>
        obtain ⟨rfl, hbw⟩ := hcut
        have HBR := Lib.hid hbw
        clear hbw
        cases hrk : rowAt x k with
        | false =>
          have HN := Lib.hid (HBD2.out hrk)
          go_wp2_with fail
          go_ret
          exact ⟨ret_bool HN.out.symm, below_step HBW.out HBR.out⟩
        | true =>
          have HAL : Hid (∀ j, j < k + 1 → rowAt x j = true) := fun j hj => by
            by_cases e : j = k
            · subst e; exact hrk
            · exact hall.out j (by omega)
          go_wp2
          go_roundw
          case rel => exact ⟨k + 1, by omega, by go_num, HAL.out, below_step HB.out HBR.out⟩
          case measure => simp [intOf]; omega
    · obtain rfl : k = x.Rows.length := by omega
      have HN := Lib.hid (HGD.out HHT.out hall.out)
      go_wp2
      go_ret
      exact ⟨ret_bool HN.out.symm, HBW.out⟩
end Go.Proofs.YtkaihnlknncfdaaGreatDoor

/- The program's rowsOf: what it answers. -/
namespace Go.Proofs.YtkaihnlknncfdaaGreatDoor
set_option maxRecDepth 100000
open Go.RowKit Go.Sort M
set_option linter.unusedVariables false
set_option linter.unusedSimpArgs false

theorem Tryz.infoTMk : (Tryz.prog.info? 88).map (fun i => (i.zero, i.size, i.bytes)) = some (some (.agg #[.slice none 0 0, .slice none 0 0]), 2, 48) := by kernel_rfl
theorem rmk2 : rMk.size = 2 := rfl
theorem World.setCell_size11 (w : World) (a : Addr) (v : Value) : (w.setCell a v).heap.size = w.heap.size := by simp [World.setCell]
set_option maxHeartbeats 16000000 in
theorem implRows_any (x : DTableau) (A1 : Option Addr) (c1 : Nat) (A2 : Option Addr) (c2 : Nat) (A3 : Option Addr) (c3 : Nat) (F1 F2 F3 : Addr → Prop) (w : World) (hm : rTableau.sz x ≤ 1048576) (hv : TabRd false w (.slice A1 x.Names.length c1) (.slice A2 x.Rows.length c2) (.slice A3 x.Marks.length c3) x F1 F2 F3) (hT : FeatTab w) :
    Calls Tryz.prog 56 #[.agg #[.string x.Input, .slice A1 x.Names.length c1, .slice A2 x.Rows.length c2, .slice A3 x.Marks.length c3]] w (MkPost x w) := by
  have HV := Lib.hid hv.tight
  have HIT : Hid (∀ W, Below w.heap.size w W → Calls Tryz.prog 41 #[.agg #[.string x.Input, .slice A1 x.Names.length c1, .slice A2 x.Rows.length c2, .slice A3 x.Marks.length c3]] W fun e w' => e = .returned (.bool (isTab x)) ∧ Below W.heap.size W w') := fun W hW => implTab_any x A1 c1 A2 c2 A3 c3 F1 F2 F3 W hm (hv.kept hW) (feat_below hT hW)
  have HP : Hid (∀ u G w', RowRd rMk false w' u (rowsL x) G → Below w.heap.size w w' → MkPost x w (.returned u) w') := fun u G w' h1 h2 => ⟨u, G, rfl, h1, h2⟩
  have HX2 : Hid (∀ k, k < x.Rows.length → ∃ y, x.Rows[k]? = some y) := fun k hk => ⟨_, List.getElem?_eq_getElem hk⟩
  have HX3 : Hid (∀ k, k < x.Marks.length → ∃ y, x.Marks[k]? = some y) := fun k hk => ⟨_, List.getElem?_eq_getElem hk⟩
  have HLT : Hid (∀ b, isTab x = b → b = true → x.Marks.length = x.Rows.length ∧ x.Rows.length ≤ 250 ∧ (rowsL x).length = x.Rows.length) := fun b h1 h2 => by
    have h3 := headT_parts (headT_of (h1.trans h2))
    exact ⟨h3.2.2.2.2, h3.2.2.2.1, rowsL_len (h1.trans h2)⟩
  have HNO : Hid (∀ b, isTab x = b → b = false → rowsL x = []) := fun b h1 h2 => rowsL_no (h1.trans h2)
  have HAT : Hid (∀ b, isTab x = b → b = true → ∀ (k : Nat) (c : DCandidate) (m : List Int), x.Rows[k]? = some c → x.Marks[k]? = some m → (rowsL x)[k]? = some (c, m)) := fun b h1 h2 k c m h3 h4 => rowsL_at (h1.trans h2) h3 h4
  clear hv hm hT
  have HA : Hid (∀ o, Below w.heap.size w (w.alloc o)) := fun o => (Below.refl _ _).alloc (Nat.le_refl _) _
  have HA1 : Hid (InC (w.alloc (.cells #[.string x.Input, .slice A1 x.Names.length c1, .slice A2 x.Rows.length c2, .slice A3 x.Marks.length c3] 32)) w.heap.size #[.string x.Input, .slice A1 x.Names.length c1, .slice A2 x.Rows.length c2, .slice A3 x.Marks.length c3] 32) := heap_alloc_new _ _
  obtain ⟨i0, hi, hz0, hz1, hz2⟩ := info_parts Tryz.infoTMk
  go_enter Tryz.func56, Tryz.ntmps56
  go_wp2_with fail
  refine (HIT.out _ (HA.out _)).mono ?_
  rintro e w1 ⟨rfl, hb⟩
  have HB1 : Hid (Below w.heap.size w w1) := below_step (HA.out _) hb
  have HX1 := Lib.hid (HA1.out.kept hb)
  have b2 := HX1.out.cell 2 rfl
  clear hb
  have HLT2 := Lib.hid (HLT.out _ rfl)
  have HNO2 := Lib.hid (HNO.out _ rfl)
  have HAT2 := Lib.hid (HAT.out _ rfl)
  clear HLT HNO HAT HIT
  generalize isTab x = t at *
  cases t with
  | false =>
    have HN := Lib.hid (HNO2.out rfl)
    go_wp2_with fail
    go_ret
    exact HP.out _ (fun _ => False) _ (by rw [HN.out]; exact RowRd.nil _ _ _) HB1.out
  | true =>
  obtain ⟨hml, hr2, hrl⟩ := HLT2.out rfl
  have HAT3 := Lib.hid (HAT2.out rfl)
  have HRL := Lib.hid hrl
  clear HLT2 HNO2 HAT2 hrl
  have H0 := Lib.hid (cpTo_zero zMk (rowsL x))
  have HCA := Lib.hid (cpTo_all zMk (rowsL x))
  have HCL : Hid (∀ k, k ≤ x.Rows.length → (cpTo zMk (rowsL x) k).length = x.Rows.length) := fun k hk => by unfold cpTo; rw [List.length_append, List.length_take, List.length_replicate, HRL.out]; omega
  have HCST : Hid (∀ k c m, x.Rows[k]? = some c → x.Marks[k]? = some m → (cpTo zMk (rowsL x) k).set k (c, m) = cpTo zMk (rowsL x) (k + 1)) := fun k c m h1 h2 => cpTo_step _ _ _ (HAT3.out k c m h1 h2)
  generalize hnn : x.Rows.length = n at *
  go_wp2_with (at_make; refine wpList_make_full _ rfl _ _ 74 rfl w1.heap.size 88 i0 (.agg #[.slice none 0 0, .slice none 0 0]) 2 Tryz.underlying74 hi hz0 hz1 .i64 .i64 _ _ n rfl rfl rfl rfl (by rw [hz2]; omega) (by unfold maxLen; omega) (Nat.le_refl _) ?_; intro w4 hown4 hgrow4; have hb14 : Below w1.heap.size w1 w4 := ((Below.refl _ _).grown hgrow4 (Nat.le_refl _) (fun _ h => by cases h)); have b24 := (HX1.out.kept hb14).cell 2 rfl; clear b2)
  have HO4 : Hid (OwnRd rMk 88 false w1.heap.size w4 (.slice (some ⟨w1.heap.size, 0, none⟩) n n) (cpTo zMk (rowsL x) 0) (fun _ => True)) := by
    unfold Hid
    rw [H0.out, HRL.out]
    rw [show (Value.cells (.agg #[.slice none 0 0, .slice none 0 0])) = #[.slice none 0 0, .slice none 0 0] from rfl] at hown4
    refine ⟨_, fun _ _ => False, by rw [List.length_replicate]; exact hown4, fun k y hk => ?_⟩
    rw [List.getElem?_replicate] at hk
    split at hk
    · cases hk
      refine ⟨[.slice none 0 0, .slice none 0 0], ?_, rMk_mk (F1 := fun _ => False) (F2 := fun _ => False) (RowRd.nil _ _ _) (RowRd.nil _ _ _) (fun _ h => h) (fun _ h => h) (fun h => by cases h), fun _ h => h.elim, fun h => by cases h⟩
      intro j u hj
      have hjn : j < 2 := (List.getElem?_eq_some_iff.1 hj).1
      rw [show rMk.size = 2 from rfl, made_at _ _ _ (by omega) (by decide), show (#[.slice none 0 0, .slice none 0 0] : Array Value).size = 2 from rfl, show (k * 2 + j) % 2 = j by omega]
      simpa using hj
    · cases hk
  have HW4 := Lib.hid hb14
  have HX4 := Lib.hid (HX1.out.kept hb14)
  have hbl : w1.heap.size < w4.heap.size := by
    obtain ⟨_, _, hw, _⟩ := HO4.out
    rcases hw.2 with ⟨h, _⟩ | ⟨g, cp, cur, hv, _, hg, _⟩
    · cases h
    · cases hv; exact (Array.getElem?_eq_some_iff.1 hg).1
  clear hown4 hgrow4 hb14
  go_wp2
  clear b24
  go_loopw [16] (fun i wr => ∃ (k : Nat), k ≤ n ∧ i = .int .i64 k ∧ OwnRd rMk 88 false w1.heap.size wr (.slice (some ⟨w1.heap.size, 0, none⟩) n n) (cpTo zMk (rowsL x) k) (fun _ => True) ∧ w4.heap.size ≤ wr.heap.size ∧ Below w1.heap.size w1 wr) (fun i _ => n - (intOf i).toNat)
  case atStart => exact ⟨0, by omega, rfl, HO4.out, Nat.le_refl _, HW4.out⟩
  case round =>
    obtain ⟨k, hk, rfl, hown, hsz, hbe0⟩ := hrel
    obtain ⟨w5, rfl⟩ : ∃ w5 : World, w5 = wr := ⟨_, rfl⟩
    have HO := Lib.hid hown
    have HBE := Lib.hid hbe0
    have HBW := Lib.hid (below_step HB1.out hbe0)
    have HBX := Lib.hid (HX1.out.kept hbe0)
    clear hown hbe0
    by_cases hkl : k < n
    · obtain ⟨c, hc⟩ := HX2.out k (by omega)
      obtain ⟨m, hmk⟩ := HX3.out k (by omega)
      have HSX := Lib.hid (HCST.out k c m hc hmk)
      have HKL := Lib.hid (HCL.out k hk)
      obtain ⟨g2, o2, xs2, G2, rfl, -, hr2', hG2, hc2⟩ := HV.out.rows.get hc
      obtain ⟨v2, rfl, q2⟩ := rCandidate_rd hr2'
      obtain ⟨g3, o3, xs3, G3, rfl, -, hr3', hG3, hc3⟩ := HV.out.marks.get hmk
      obtain ⟨v3, rfl, q3⟩ := id hr3'
      rw [rCandidate_size] at hc2
      rw [show (Rep.row Rep.int).size = 1 from rfl] at hc3
      have d2 := hc2 0 _ rfl
      have d3 := hc3 0 _ rfl
      simp only [Nat.add_zero, Nat.mul_one] at d2 d3
      have hlt3 : g3 < w.heap.size := block_lt_of_cell d3
      replace d2 := cell_kept HBW.out d2
      replace d3 := cell_kept HBW.out d3
      obtain ⟨A2', cp2, rfl⟩ := q2.form
      obtain ⟨A3', cp3, rfl⟩ := q3.form
      have hwlt : w.heap.size < w1.heap.size := HX1.out.lt
      have h15 : w1.heap.size < w5.heap.size := by omega
      have HWB : Hid (Below w5.heap.size w5 (w5.alloc (.cells #[.slice A2' c.Links.length cp2] 55))) := (Below.refl _ _).alloc (Nat.le_refl _) _
      have HWD : Hid (Below w5.heap.size w5 (w5.alloc (.cells #[.slice A2' c.Links.length cp2] 55)).drew) := HWB.out.drew
      have HIB : Hid (InC (w5.alloc (.cells #[.slice A2' c.Links.length cp2] 55)).drew w5.heap.size #[.slice A2' c.Links.length cp2] 55) := heap_alloc_new _ _
      have HQX : Hid (rMk.rd false (w5.alloc (.cells #[.slice A2' c.Links.length cp2] 55)).drew [.slice A2' c.Links.length cp2, .slice A3' m.length cp3] (c, m) (fun p => G2 p ∨ G3 p)) := rMk_mk (x := (c, m)) (F1 := G2) (F2 := G3) ((q2.kept HBW.out).kept HWD.out) ((q3.kept HBW.out).kept HWD.out) (fun _ h => Or.inl h) (fun _ h => Or.inr h) (fun h => by cases h)
      have HFX : Hid (∀ p, G2 p ∨ G3 p → p.block < (w5.alloc (.cells #[.slice A2' c.Links.length cp2] 55)).drew.heap.size ∧ p.block ≠ w1.heap.size) := fun p hp => by
        have h1 : p.block < w.heap.size := hp.elim (fun h => (hG2 p h).2) (fun h => (hG3 p h).2)
        have h2 : w5.heap.size ≤ (w5.alloc (.cells #[.slice A2' c.Links.length cp2] 55)).drew.heap.size := HWD.out.size
        exact ⟨by omega, by omega⟩
      have HOD := Lib.hid (HO.out.kept HWD.out)
      have HS0 : Hid ((w5.alloc (.cells #[.slice A2' c.Links.length cp2] 55)).drew.cell? ⟨w5.heap.size, 0, none⟩ = some (.slice A2' c.Links.length cp2) ∧ (w5.alloc (.cells #[.slice A2' c.Links.length cp2] 55)).drew.cell? ⟨w.heap.size, 3, none⟩ = some (.slice (some ⟨g3, o3, none⟩) x.Marks.length c3) ∧ (w5.alloc (.cells #[.slice A2' c.Links.length cp2] 55)).drew.cell? ⟨g3, o3 + k, none⟩ = some (.slice A3' m.length cp3)) := ⟨HIB.out.cell 0 rfl, (HBX.out.kept HWD.out).cell 3 rfl, cell_kept HWD.out d3⟩
      obtain ⟨⟨z0, e0⟩, ⟨z1, e1⟩, f0, f1⟩ := HOD.out.at2 rmk2 HKL.out hkl
      have HNEW := Lib.hid ((HOD.out.set2 rmk2 HKL.out hkl HQX.out HFX.out).mono (G' := fun _ => True) (fun _ _ => trivial))
      rw [HSX.out] at HNEW
      have HBB : Hid (Below w1.heap.size w1 (((w5.alloc (.cells #[.slice A2' c.Links.length cp2] 55)).drew.setCell ⟨w1.heap.size, k * 2, none⟩ (.slice A2' c.Links.length cp2)).setCell ⟨w1.heap.size, k * 2 + 1, none⟩ (.slice A3' m.length cp3))) := ((below_step HBE.out HWD.out).setCell (p := ⟨w1.heap.size, k * 2, none⟩) (Nat.le_refl _) _).setCell (p := ⟨w1.heap.size, k * 2 + 1, none⟩) (Nat.le_refl _) _
      have HSS : Hid (w4.heap.size ≤ (((w5.alloc (.cells #[.slice A2' c.Links.length cp2] 55)).drew.setCell ⟨w1.heap.size, k * 2, none⟩ (.slice A2' c.Links.length cp2)).setCell ⟨w1.heap.size, k * 2 + 1, none⟩ (.slice A3' m.length cp3)).heap.size) := by
        have h2 : w5.heap.size ≤ (w5.alloc (.cells #[.slice A2' c.Links.length cp2] 55)).drew.heap.size := HWD.out.size
        unfold Hid; simp only [World.setCell_size11]; omega
      have hkm : (k : Int) < (x.Marks.length : Int) := by omega
      have hkr : (k : Int) < (n : Int) := by omega
      clear hc2 hc3 hr2' hr3' q2 q3 hG2 hG3 HQX HFX HOD HSX hc hmk d3
      go_upto_region 7 with fail
      clear d2
      refine wp_region_held_drew (S := fun w' => w'.cell? ⟨w5.heap.size, 0, none⟩ = some (.slice A2' c.Links.length cp2) ∧ w'.cell? ⟨w.heap.size, 3, none⟩ = some (.slice (some ⟨g3, o3, none⟩) x.Marks.length c3) ∧ w'.cell? ⟨g3, o3 + k, none⟩ = some (.slice A3' m.length cp3)) (by kernel_rfl) HS0.out (fun hHeld => ?_)
      generalize (w5.alloc (.cells #[.slice A2' c.Links.length cp2] 55)).drew = WD at *
      refine' wpAnyH_take (i := 0) (oi := _) (v := ?v1) rfl ?hs1 ?hf1 ?hr1 ?hQ1 (Or.inl ⟨?hw1, ?hy1⟩) hHeld ?rest1
      case hs1 => kernel_rfl
      case hf1 => kernel_rfl
      case hr1 => kernel_rfl
      case hQ1 => exact fun _ _ _ h => h
      case hw1 => kernel_rfl
      case hy1 => (intro w' hw'; go_simp; try with_reducible rfl)
      (try change wpAnyH _ _ _ _ _ _ _ (Act.put _ (some 21) _) _)
      try simp only [Act.put, List.setIfInBounds_toArray, List.set_cons_zero, List.set_cons_succ]
      refine' wpAnyH_take (i := 1) (oi := _) (v := ?v2) rfl ?hs2 ?hf2 ?hr2 ?hQ2 (Or.inl ⟨?hw2, ?hy2⟩) hHeld ?rest2
      case hs2 => kernel_rfl
      case hf2 => kernel_rfl
      case hr2 => kernel_rfl
      case hQ2 => exact fun _ _ _ h => h
      case hw2 => kernel_rfl
      case hy2 => (intro w' hw'; go_simp; try with_reducible rfl)
      (try change wpAnyH _ _ _ _ _ _ _ (Act.put _ (some 22) _) _)
      try simp only [Act.put, List.setIfInBounds_toArray, List.set_cons_zero, List.set_cons_succ]
      refine' wpAnyH_take (i := 2) (oi := _) (v := ?v3) rfl ?hs3 ?hf3 ?hr3 ?hQ3 (Or.inl ⟨?hw3, ?hy3⟩) hHeld ?rest3
      case hs3 => kernel_rfl
      case hf3 => kernel_rfl
      case hr3 => kernel_rfl
      case hQ3 => exact fun _ _ _ h => h
      case hw3 => kernel_rfl
      case hy3 => (intro w' hw'; have cA := hw'.1; have cB := hw'.2.1; have cC := hw'.2.2; clear hw'; go_simp; try with_reducible rfl)
      (try change wpAnyH _ _ _ _ _ _ _ (Act.put _ (some 23) _) _)
      try simp only [Act.put, List.setIfInBounds_toArray, List.set_cons_zero, List.set_cons_succ]
      refine' wpAnyH_take (i := 3) (oi := _) (v := ?v4) rfl ?hs4 ?hf4 ?hr4 ?hQ4 (Or.inl ⟨?hw4, ?hy4⟩) hHeld ?rest4
      case hs4 => kernel_rfl
      case hf4 => kernel_rfl
      case hr4 => kernel_rfl
      case hQ4 => exact fun _ _ _ h => h
      case hw4 => kernel_rfl
      case hy4 => (intro w' hw'; go_simp; try with_reducible rfl)
      (try change wpAnyH _ _ _ _ _ _ _ (Act.put _ (some 24) _) _)
      try simp only [Act.put, List.setIfInBounds_toArray, List.set_cons_zero, List.set_cons_succ]
      refine' wpAnyH_take (i := 4) (oi := _) (v := ?v5) rfl ?hs5 ?hf5 ?hr5 ?hQ5 (Or.inl ⟨?hw5, ?hy5⟩) hHeld ?rest5
      case hs5 => kernel_rfl
      case hf5 => kernel_rfl
      case hr5 => kernel_rfl
      case hQ5 => exact fun _ _ _ h => h
      case hw5 => kernel_rfl
      case hy5 => (intro w' hw'; have cA := hw'.1; have cB := hw'.2.1; have cC := hw'.2.2; clear hw'; go_simp; try with_reducible rfl)
      (try change wpAnyH _ _ _ _ _ _ _ (Act.put _ (some 25) _) _)
      try simp only [Act.put, List.setIfInBounds_toArray, List.set_cons_zero, List.set_cons_succ]
      refine' wpAnyH_take (i := 5) (oi := _) (v := ?v6) rfl ?hs6 ?hf6 ?hr6 ?hQ6 (Or.inl ⟨?hw6, ?hy6⟩) hHeld ?rest6
      case hs6 => kernel_rfl
      case hf6 => kernel_rfl
      case hr6 => kernel_rfl
      case hQ6 => exact fun _ _ _ h => h
      case hw6 => kernel_rfl
      case hy6 => (intro w' hw'; go_simp; try with_reducible rfl)
      (try change wpAnyH _ _ _ _ _ _ _ (Act.put _ (some 26) _) _)
      try simp only [Act.put, List.setIfInBounds_toArray, List.set_cons_zero, List.set_cons_succ]
      refine' wpAnyH_take (i := 6) (oi := _) (v := ?v7) rfl ?hs7 ?hf7 ?hr7 ?hQ7 (Or.inl ⟨?hw7, ?hy7⟩) hHeld ?rest7
      case hs7 => kernel_rfl
      case hf7 => kernel_rfl
      case hr7 => kernel_rfl
      case hQ7 => exact fun _ _ _ h => h
      case hw7 => kernel_rfl
      case hy7 => (intro w' hw'; go_simp; try with_reducible rfl)
      (try change wpAnyH _ _ _ _ _ _ _ (Act.put _ (some 27) _) _)
      try simp only [Act.put, List.setIfInBounds_toArray, List.set_cons_zero, List.set_cons_succ]
      refine' wpAnyH_take (i := 7) (oi := _) (v := ?v8) rfl ?hs8 ?hf8 ?hr8 ?hQ8 (Or.inl ⟨?hw8, ?hy8⟩) hHeld ?rest8
      case hs8 => kernel_rfl
      case hf8 => kernel_rfl
      case hr8 => kernel_rfl
      case hQ8 => exact fun _ _ _ h => h
      case hw8 => kernel_rfl
      case hy8 => (intro w' hw'; have cA := hw'.1; have cB := hw'.2.1; have cC := hw'.2.2; clear hw'; go_simp; try with_reducible rfl)
      (try change wpAnyH _ _ _ _ _ _ _ (Act.put _ (some 28) _) _)
      try simp only [Act.put, List.setIfInBounds_toArray, List.set_cons_zero, List.set_cons_succ]
      refine' wpAnyH_take (i := 8) (oi := _) (v := ?v9) rfl ?hs9 ?hf9 ?hr9 ?hQ9 (Or.inl ⟨?hw9, ?hy9⟩) hHeld ?rest9
      case hs9 => kernel_rfl
      case hf9 => kernel_rfl
      case hr9 => kernel_rfl
      case hQ9 => exact fun _ _ _ h => h
      case hw9 => kernel_rfl
      case hy9 => (intro w' hw'; go_simp; try with_reducible rfl)
      (try change wpAnyH _ _ _ _ _ _ _ (Act.put _ (some 29) _) _)
      try simp only [Act.put, List.setIfInBounds_toArray, List.set_cons_zero, List.set_cons_succ]
      refine' wpAnyH_take (i := 9) (oi := _) (v := ?v10) rfl ?hs10 ?hf10 ?hr10 ?hQ10 (Or.inl ⟨?hw10, ?hy10⟩) hHeld ?rest10
      case hs10 => kernel_rfl
      case hf10 => kernel_rfl
      case hr10 => kernel_rfl
      case hQ10 => exact fun _ _ _ h => h
      case hw10 => kernel_rfl
      case hy10 => (intro w' hw'; go_simp; try with_reducible rfl)
      (try change wpAnyH _ _ _ _ _ _ _ (Act.put _ (some 30) _) _)
      try simp only [Act.put, List.setIfInBounds_toArray, List.set_cons_zero, List.set_cons_succ]
      refine wpAnyH_ready (rs := [10]) (by kernel_rfl) (by simp) ?_
      refine AllReadyH.cons rfl (fun K hK => ?_) AllReadyH.nil
      go_simp
      skip
      (try go_wp2_with fail)
      refine hK.out _ _ ⟨(cs_far2 (p := ⟨w5.heap.size, 0, none⟩) (by show w5.heap.size ≠ w1.heap.size; omega)).trans hHeld.1, (cs_far2 (p := ⟨w.heap.size, 3, none⟩) (by show w.heap.size ≠ w1.heap.size; omega)).trans hHeld.2.1, (cs_far2 (p := ⟨g3, o3 + k, none⟩) (by show g3 ≠ w1.heap.size; omega)).trans hHeld.2.2⟩ (fun hHeld => ?_)
      clear hK K
      try simp only [Act.put, List.setIfInBounds_toArray, List.set_cons_zero, List.set_cons_succ]
      refine wpAnyH_done ?hdone11 ?hq11 _
      case hdone11 => kernel_rfl
      go_wp2
      go_roundw
      case rel => exact ⟨k + 1, by omega, by go_num, HNEW.out, HSS.out, HBB.out⟩
      case measure => simp [intOf]; omega
    · obtain rfl : k = n := by omega
      have hro := HO.out.row (by rw [HCL.out k (Nat.le_refl _)]; omega)
      have hca := HCA.out
      rw [HRL.out] at hca
      rw [hca] at hro
      have HRO := Lib.hid hro
      clear hro hca
      go_wp2
      go_ret
      exact HP.out _ _ _ HRO.out HBW.out
end Go.Proofs.YtkaihnlknncfdaaGreatDoor

/- Winners: the program's bestRows and WinnersOf: what they answer. -/
namespace Go.Proofs.YtkaihnlknncfdaaGreatDoor
set_option maxRecDepth 100000
open Go.RowKit Go.Sort M
set_option linter.unusedVariables false
set_option linter.unusedSimpArgs false

set_option maxHeartbeats 8000000 in
theorem implBest_any (L : List (DCandidate × List Int)) (M : List (List Int)) (r : List Int) (n : Nat) (v vr : Value) (G Fr : Addr → Prop) (w : World) (hLl : L.length ≤ 1000000) (hM : ∀ (k : Nat) (c : DCandidate) (m : List Int), L[k]? = some (c, m) → M.getD k [] = m ∧ m.length = n)
    (hr : rkB r n = true) (hv : RowRd rMk false w v L G) (hvr : RowRd Rep.int false w vr r Fr) :
    Calls Tryz.prog 55 #[v, vr] w (IntPost11 (bestTo M r L.length) w) := by
  have hmr := hvr.max
  obtain ⟨Ar, kr, rfl⟩ := hvr.form
  obtain ⟨A, cap, rfl⟩ := hv.form
  have HV := Lib.hid hv
  have HR := Lib.hid hvr
  have HX : Hid (∀ k, k < L.length → ∃ c m, L[k]? = some (c, m) ∧ M.getD k [] = m ∧ m.length = n) := fun k hk => by
    rcases hp : L[k] with ⟨c, m⟩
    have he : L[k]? = some (c, m) := by rw [List.getElem?_eq_getElem hk, hp]
    exact ⟨c, m, he, hM k c m he⟩
  have HP : Hid (∀ u w', RowRd Rep.int true w' u (bestTo M r L.length) (fun a => w.heap.size ≤ a.block) → Below w.heap.size w w' → IntPost11 (bestTo M r L.length) w (.returned u) w') := fun u w' h1 h2 => ⟨u, rfl, h1, h2⟩
  have HRK : Hid (∀ (i : Nat) (k : Int), r[i]? = some k → 0 ≤ k ∧ k < (n : Int)) := fun i k h => rk_at hr h
  have HNE : Hid (∀ k, 0 < k → ∃ b rest, bestTo M r k = ((b : Nat) : Int) :: rest ∧ b < k ∧ okK M r b k = true) := best_ne M r
  have HBL := Lib.hid (bestTo_len M r)
  have HI64 : Hid (∀ k, k ≤ 1000000000 → ∀ z ∈ bestTo M r k, I64 z) := fun k hk => best_i64 hk
  have HF1 := Lib.hid (bestTo_first M r)
  have HLS : Hid (∀ k b, okK M r b k = true → cmpL (M.getD k []) (M.getD b []) r < 0 → bestTo M r (k + 1) = [(k : Int)]) := fun k b h1 h2 => best_less h1 h2
  have HSM : Hid (∀ k b, b < k → okK M r b k = true → cmpL (M.getD k []) (M.getD b []) r = 0 → bestTo M r (k + 1) = bestTo M r k ++ [(k : Int)]) := fun k b h0 h1 h2 => best_same h0 h1 h2
  have HMR : Hid (∀ k b, b < k → okK M r b k = true → 0 < cmpL (M.getD k []) (M.getD b []) r → bestTo M r (k + 1) = bestTo M r k) := fun k b h0 h1 h2 => best_more h0 h2
  clear hv hvr hM hr
  generalize hN : L.length = N at *
  have HO0 : Hid (w.ownsRow w.heap.size 3 1 (.slice none 0 0) (bestTo M r 0).length (cellsI (bestTo M r 0))) := ⟨rfl, Or.inl ⟨rfl, rfl⟩⟩
  go_enter Tryz.func55, Tryz.ntmps55
  go_wp2
  go_loopw [5, 11] (fun u i wr => ∃ (k : Nat), k ≤ N ∧ i = .int .i64 k ∧ wr.ownsRow w.heap.size 3 1 u (bestTo M r k).length (cellsI (bestTo M r k)) ∧ Below w.heap.size w wr) (fun _ i _ => N - (intOf i).toNat)
  case atStart => exact ⟨0, by omega, rfl, HO0.out, Below.refl _ _⟩
  case round =>
    obtain ⟨k, hk, rfl, hown, hbe⟩ := hrel
    obtain ⟨w2, rfl⟩ : ∃ w2 : World, w2 = wr := ⟨_, rfl⟩
    have HB := Lib.hid hbe
    have HOW := Lib.hid hown
    obtain ⟨Au, cu, rfl⟩ := own_formI hown
    have hbl := HBL.out k
    clear hbe hown
    by_cases hkl : k < N
    · obtain ⟨c, m, hc, hmk, hmn⟩ := HX.out k hkl
      obtain ⟨g2, o2, xs2, G2, rfl, -, hr2', -, hc2⟩ := (HV.out.kept HB.out).get hc
      obtain ⟨v2, v3, K1, K2, rfl, q2, q3, -⟩ := rMk_rd hr2'
      rw [rMk_size] at hc2
      have d2 := hc2 0 _ rfl
      have d3 := hc2 1 _ rfl
      simp only [Nat.add_zero] at d2
      obtain ⟨A2', cp2, rfl⟩ := q2.form
      obtain ⟨A3', cp3, rfl⟩ := q3.form
      rw [hmn] at q3 d3
      have HMN := Lib.hid hmn
      clear hmn
      have HWB : Hid (Below w2.heap.size w2 (w2.alloc (.cells #[.slice A2' c.Links.length cp2, .slice A3' n cp3] 88))) := (Below.refl _ _).alloc (Nat.le_refl _) _
      have HI7 : Hid (InC (w2.alloc (.cells #[.slice A2' c.Links.length cp2, .slice A3' n cp3] 88)) w2.heap.size #[.slice A2' c.Links.length cp2, .slice A3' n cp3] 88) := heap_alloc_new _ _
      have HQ3 := Lib.hid q3
      have HMK := Lib.hid hmk
      have HB3 := Lib.hid (below_step HB.out HWB.out)
      have HO3 := Lib.hid (own_keepI HWB.out HOW.out)
      have hkr : (k : Int) < (N : Int) := by omega
      have hsz2 : w.heap.size ≤ w2.heap.size := HB.out.size
      clear hc hr2' hc2 q2 q3 hmk
      rcases Nat.eq_zero_or_pos k with h0 | h0
      · subst h0
        simp only [Nat.zero_mul, Nat.add_zero] at d2 d3
        have HNX : Hid (bestTo M r (0 + 1) = [((0 : Nat) : Int)]) := HF1.out
        simp only [bestTo_zero, List.length_nil] at HO3 ⊢
        have hsz6 := HB3.out.size
        go_wp2_with (at_builtin; refine wpList_append_int (w2.alloc (.cells #[.slice A2' c.Links.length cp2, .slice A3' n cp3] 88)) rfl (.tmp 37) (.tmp 39) rfl w.heap.size (.slice Au 0 cu) 0 [] rfl HO3.out ((0 : Nat) : Int) (by simp [Act.eval]) (by omega) hsz6 ?_; intro v7 w7 hown7 hb7)
        have HO7 : Hid (w7.ownsRow w.heap.size 3 1 v7 (bestTo M r (0 + 1)).length (cellsI (bestTo M r (0 + 1)))) := by unfold Hid; rw [HNX.out]; exact hown7
        have HB7 := Lib.hid (HB3.out.trans hb7)
        obtain ⟨A7, c7, rfl⟩ := own_formI hown7
        clear hown7 hb7
        go_wp2
        go_roundw
        case rel => exact ⟨0 + 1, by omega, by go_num, HO7.out, HB7.out⟩
        case measure => simp [intOf]; omega
      · obtain ⟨b, rest, hbt, hbk, hok⟩ := HNE.out k h0
        obtain ⟨cb, mb, hcb, hmb, hmbn⟩ := HX.out b (by omega)
        have HMBN := Lib.hid hmbn
        clear hmbn
        have hb0 : (bestTo M r k)[0]? = some (b : Int) := by rw [hbt]; rfl
        have hbl1 : 0 < (bestTo M r k).length := by rw [hbt]; simp
        obtain ⟨gu, ou, xsu, Gu, rfl, -, hru', -, hcu⟩ := (own_ints HO3.out (by omega) (HI64.out k (by omega))).get hb0
        obtain ⟨rfl, -⟩ := id hru'
        have du := hcu 0 _ rfl
        simp only [show Rep.int.size = 1 from rfl, Nat.add_zero, Nat.mul_one, Nat.zero_mul] at du
        obtain ⟨g4, o4, xs4, G4, hge, -, hr4', -, hc4⟩ := (HV.out.kept HB3.out).get hcb
        cases hge
        obtain ⟨vb2, vb3, K3, K4, rfl, q4, q5, -⟩ := rMk_rd hr4'
        rw [rMk_size] at hc4
        have d5 := hc4 1 _ rfl
        have d7 := HI7.out.cell 1 rfl
        have hrx := fun d os => cell_regrown d7 d os
        have hru := fun d os => cell_regrown du d os
        have hr5 := fun d os => cell_regrown d5 d os
        have hbr : (b : Int) < (N : Int) := by omega
        have hblr : (0 : Int) < ((bestTo M r k).length : Int) := by omega
        have HQ5 := Lib.hid q5
        have hLS := HLS.out k b hok
        have hSM := HSM.out k b hbk hok
        have hMR := HMR.out k b hbk hok
        rw [HMK.out, hmb] at hLS hSM hMR
        have HLK := Lib.hid hLS
        have HSK := Lib.hid hSM
        have HMM := Lib.hid hMR
        have HH : Hid (∀ d os, Calls Tryz.prog 66 #[.slice A3' n cp3, vb3, .slice Ar r.length kr] (grow (redrawn (w2.alloc (.cells #[.slice A2' c.Links.length cp2, .slice A3' n cp3] 88)) d) os) fun e w'' => e = .returned (.tuple #[.int .i64 (fdiff m mb r 0).1, .int .i64 (cmpL m mb r)]) ∧ ∃ p : Regrown, w'' = grow (redrawn (w2.alloc (.cells #[.slice A2' c.Links.length cp2, .slice A3' n cp3] 88)) p.d) p.os) := fun d os =>
          Calls.regrown_of (fdif_any m mb r _ vb3 _ K2 K4 Fr _ ((HQ3.out.kept HWB.out).kept (below_regrown (w2.alloc (.cells #[.slice A2' c.Links.length cp2, .slice A3' n cp3] 88)) d os)) (HQ5.out.kept (below_regrown (w2.alloc (.cells #[.slice A2' c.Links.length cp2, .slice A3' n cp3] 88)) d os)) ((HR.out.kept HB3.out).kept (below_regrown (w2.alloc (.cells #[.slice A2' c.Links.length cp2, .slice A3' n cp3] 88)) d os)) (HMN.out.trans HMBN.out.symm) (by rw [HMN.out]; exact HRK.out))
        have HH2 := HH.out
        clear hbt hb0 hru' hcu hr4' hc4 q4 q5 hcb HH hLS hSM hMR
        generalize cmpL m mb r = o at *
        generalize (fdiff m mb r 0).1 = p at *
        generalize hLB : (bestTo M r k).length = LB at *
        go_wp2
        refine wp_region_quiet_below (by kernel_rfl) (by kernel_rfl) ?_
        repeat (first | go_big_quiet_skip | quiet_step (with_reducible exact HH2 _ _))
        refine wpQuiet_nil ?_
        intro _ hw'
        obtain ⟨⟨dq, osq⟩, hw''⟩ := hw'
        subst hw''
        have hb35 := below_regrown (w2.alloc (.cells #[.slice A2' c.Links.length cp2, .slice A3' n cp3] 88)) dq osq
        have HB5 := Lib.hid (below_step HB3.out hb35)
        have HO5 := Lib.hid (own_keepI hb35 HO3.out)
        clear hb35 HH2 hrx hru hr5
        generalize (grow (redrawn (w2.alloc (.cells #[.slice A2' c.Links.length cp2, .slice A3' n cp3] 88)) dq) osq) = w5 at *
        have hsz6 := HB5.out.size
        rcases Int.lt_trichotomy o 0 with ho | ho | ho
        · have e1 : decide (o < 0) = true := decide_eq_true ho
          have e2 : decide (o ≤ 0) = true := decide_eq_true (by omega)
          have HNX := Lib.hid (HLK.out ho)
          have HON : Hid (w5.ownsRow w.heap.size 3 1 (.slice none 0 0) 0 (cellsI [])) := ⟨rfl, Or.inl ⟨rfl, rfl⟩⟩
          go_wp2_with (at_builtin; refine wpList_append_int w5 rfl (.tmp 37) (.tmp 39) rfl w.heap.size (.slice none 0 0) 0 [] rfl HON.out (k : Int) rfl (by omega) hsz6 ?_; intro v7 w7 hown7 hb7)
          have HO7 : Hid (w7.ownsRow w.heap.size 3 1 v7 (bestTo M r (k + 1)).length (cellsI (bestTo M r (k + 1)))) := by unfold Hid; rw [HNX.out]; exact hown7
          have HB7 := Lib.hid (HB5.out.trans hb7)
          obtain ⟨A7, c7, rfl⟩ := own_formI hown7
          clear hown7 hb7
          go_wp2
          go_roundw
          case rel => exact ⟨k + 1, by omega, by go_num, HO7.out, HB7.out⟩
          case measure => simp [intOf]; omega
        · have e1 : decide (o < 0) = false := decide_eq_false (by omega)
          have e2 : decide (o ≤ 0) = true := decide_eq_true (by omega)
          have HNX := Lib.hid (HSK.out ho)
          go_wp2_with (at_builtin; refine wpList_append_int w5 rfl (.tmp 37) (.tmp 39) rfl w.heap.size (.slice (some ⟨gu, ou, none⟩) LB cu) LB (bestTo M r k) rfl HO5.out (k : Int) rfl (by omega) hsz6 ?_; intro v7 w7 hown7 hb7)
          have HO7 : Hid (w7.ownsRow w.heap.size 3 1 v7 (bestTo M r (k + 1)).length (cellsI (bestTo M r (k + 1)))) := by unfold Hid; rw [HNX.out, List.length_append, hLB]; exact hown7
          have HB7 := Lib.hid (HB5.out.trans hb7)
          obtain ⟨A7, c7, rfl⟩ := own_formI hown7
          clear hown7 hb7
          go_wp2
          go_roundw
          case rel => exact ⟨k + 1, by omega, by go_num, HO7.out, HB7.out⟩
          case measure => simp [intOf]; omega
        · have e1 : decide (o < 0) = false := decide_eq_false (by omega)
          have e2 : decide (o ≤ 0) = false := decide_eq_false (by omega)
          have HNX := Lib.hid (HMM.out ho)
          have HO7 : Hid (w5.ownsRow w.heap.size 3 1 (.slice (some ⟨gu, ou, none⟩) LB cu) (bestTo M r (k + 1)).length (cellsI (bestTo M r (k + 1)))) := by unfold Hid; rw [HNX.out, hLB]; exact HO5.out
          go_wp2
          go_roundw
          case rel => exact ⟨k + 1, by omega, by go_num, HO7.out, HB5.out⟩
          case measure => simp [intOf]; omega
    · obtain rfl : k = N := by omega
      have HRR := Lib.hid (own_ints HOW.out (by omega) (HI64.out k (by omega)))
      go_wp2
      go_ret
      exact HP.out _ _ HRR.out HB.out
set_option maxHeartbeats 4000000 in
theorem implWin_any (x : DTableau) (r : List Int) (A1 : Option Addr) (c1 : Nat) (A2 : Option Addr) (c2 : Nat) (A3 : Option Addr) (c3 : Nat) (vr : Value) (F1 F2 F3 Fr : Addr → Prop) (w : World) (hm : rTableau.sz x ≤ 1048576) (hv : TabRd false w (.slice A1 x.Names.length c1) (.slice A2 x.Rows.length c2) (.slice A3 x.Marks.length c3) x F1 F2 F3) (hvr : RowRd Rep.int false w vr r Fr) (hT : FeatTab w) :
    Calls Tryz.prog 16 #[.agg #[.string x.Input, .slice A1 x.Names.length c1, .slice A2 x.Rows.length c2, .slice A3 x.Marks.length c3], vr] w (IntPost11 (winW x r) w) := by
  obtain ⟨hz0, hz1, hz2, hz3, hz4, hz5⟩ := szTab_parts hm
  have hmr := hvr.max
  have HA : Hid (∀ o, Below w.heap.size w (w.alloc o)) := fun o => (Below.refl _ _).alloc (Nat.le_refl _) _
  have HRS : Hid (∀ W, Below w.heap.size w W → Calls Tryz.prog 56 #[.agg #[.string x.Input, .slice A1 x.Names.length c1, .slice A2 x.Rows.length c2, .slice A3 x.Marks.length c3]] W (MkPost x W)) := fun W hW => implRows_any x A1 c1 A2 c2 A3 c3 F1 F2 F3 W hm (hv.kept hW) (feat_below hT hW)
  have HRK : Hid (∀ W, Below w.heap.size w W → Calls Tryz.prog 54 #[vr, .int .i64 (x.Names.length : Int)] W fun e w' => e = .returned (.bool (rkB r x.Names.length)) ∧ W = w') := fun W hW => implRk_any r (x.Names.length : Int) _ Fr W (hvr.kept hW)
  have HP : Hid (∀ u w', RowRd Rep.int true w' u (winW x r) (fun a => w.heap.size ≤ a.block) → Below w.heap.size w w' → IntPost11 (winW x r) w (.returned u) w') := fun u w' h1 h2 => ⟨u, rfl, h1, h2⟩
  have HN : Hid (rkB r x.Names.length = false → winW x r = []) := fun h => winW_no (by rw [h, Bool.and_false])
  have HBE : Hid (rkB r x.Names.length = true → ∀ (W : World) (u : Value) (G : Addr → Prop), Below w.heap.size w W → RowRd rMk false W u (rowsL x) G → Calls Tryz.prog 55 #[u, vr] W (IntPost11 (winW x r) W)) := fun h W u G hW hu => by
    have hl : (rowsL x).length ≤ 1000000 ∧ bestTo x.Marks r (rowsL x).length = winW x r := by
      cases ht : isTab x with
      | true =>
        have h3 := headT_parts (headT_of ht)
        refine ⟨by rw [rowsL_len ht]; omega, ?_⟩
        rw [winW_yes ht h, rowsL_len ht, ← h3.2.2.2.2]; rfl
      | false =>
        rw [rowsL_no ht, winW_no (by rw [ht]; rfl)]
        exact ⟨by simp, rfl⟩
    have hb := implBest_any (rowsL x) x.Marks r x.Names.length u vr G Fr W hl.1 (fun k c m hk => by
      obtain ⟨h1, h2, h3⟩ := rowsL_of hk
      exact ⟨by rw [List.getD_eq_getElem?_getD, h3]; rfl, tab_marks h1 h3⟩) h hu (hvr.kept hW)
    rw [hl.2] at hb
    exact hb
  have HI0 : Hid (InC (w.alloc (.cells #[.string x.Input, .slice A1 x.Names.length c1, .slice A2 x.Rows.length c2, .slice A3 x.Marks.length c3] 32)) w.heap.size #[.string x.Input, .slice A1 x.Names.length c1, .slice A2 x.Rows.length c2, .slice A3 x.Marks.length c3] 32) := heap_alloc_new _ _
  clear hv hvr hm hT hz4 hz5
  generalize winW x r = R at *
  generalize hrb : rkB r (x.Names.length : Int) = rb at *
  clear hrb
  have b0 := HI0.out.cell 0 rfl
  have b1 := HI0.out.cell 1 rfl
  have b2 := HI0.out.cell 2 rfl
  have b3 := HI0.out.cell 3 rfl
  go_enter Tryz.func16, Tryz.ntmps16
  go_wp2_with fail
  refine (HRK.out _ (HA.out _)).mono ?_
  rintro e w1 ⟨rfl, rfl⟩
  cases rb
  case false =>
    have HE := Lib.hid (HN.out rfl)
    go_wp2
    go_ret
    exact HP.out _ _ (by rw [HE.out]; exact RowRd.nil _ _ _) (HA.out _)
  have HBB := Lib.hid (HBE.out rfl)
  go_wp2_with fail
  refine (HRS.out _ (HA.out _)).mono ?_
  rintro e w2 ⟨u, G, rfl, hrow, hb2⟩
  have HB2 := Lib.hid (below_step (HA.out _) hb2)
  have HCC := Lib.hid (HBB.out w2 u G HB2.out hrow)
  clear hrow hb2 b0 b1 b2 b3
  go_wp2_with fail
  refine HCC.out.mono ?_
  rintro e w3 ⟨u3, rfl, hr3, hb3⟩
  have HR3 := Lib.hid (hr3.mono (G := fun a => w.heap.size ≤ a.block) fun a ha => Nat.le_trans HB2.out.size ha)
  have HB3 := Lib.hid (below_step HB2.out hb3)
  clear hr3 hb3
  go_wp2
  go_ret
  exact HP.out _ _ HR3.out HB3.out
end Go.Proofs.YtkaihnlknncfdaaGreatDoor

/- Best outputs: the program's OptimalOutputs: what it answers. -/
namespace Go.Proofs.YtkaihnlknncfdaaGreatDoor
set_option maxRecDepth 100000
open Go.RowKit Go.Sort M
set_option linter.unusedVariables false
set_option linter.unusedSimpArgs false

set_option maxHeartbeats 8000000 in
theorem implOpt_any (x : DTableau) (r : List Int) (A1 : Option Addr) (c1 : Nat) (A2 : Option Addr) (c2 : Nat) (A3 : Option Addr) (c3 : Nat) (vr : Value) (F1 F2 F3 Fr : Addr → Prop) (w : World) (hm : rTableau.sz x ≤ 1048576) (hv : TabRd false w (.slice A1 x.Names.length c1) (.slice A2 x.Rows.length c2) (.slice A3 x.Marks.length c3) x F1 F2 F3) (hvr : RowRd Rep.int false w vr r Fr) (hT : FeatTab w) :
    Calls Tryz.prog 23 #[.agg #[.string x.Input, .slice A1 x.Names.length c1, .slice A2 x.Rows.length c2, .slice A3 x.Marks.length c3], vr] w (OptPost (optL x r) w) := by
  obtain ⟨hz0, hz1, hz2, hz3, hz4, hz5⟩ := szTab_parts hm
  have HV := Lib.hid hv
  have HWI : Hid (∀ W, Below w.heap.size w W → Calls Tryz.prog 16 #[.agg #[.string x.Input, .slice A1 x.Names.length c1, .slice A2 x.Rows.length c2, .slice A3 x.Marks.length c3], vr] W (IntPost11 (winW x r) W)) := fun W hW => implWin_any x r A1 c1 A2 c2 A3 c3 vr F1 F2 F3 Fr W hm (hv.kept hW) (hvr.kept hW) (feat_below hT hW)
  have HWL : Hid ((winW x r).length ≤ 250) := winW_250 x r
  have HOS : Hid (∀ (c : DCandidate) (v : Value) (G : Addr → Prop) W, c.Links.length ≤ 1048576 → RowRd rLink false W v c.Links G → Calls Tryz.prog 63 #[.agg #[v]] W fun e w' => e = .returned (.string ⟨(outS c.Links).toArray⟩) ∧ Below W.heap.size W w') := fun c v G W hl hr => implOutput_any c v G W hl hr
  have HX : Hid (∀ k, k < (winW x r).length → ∃ z b c, (winW x r)[k]? = some z ∧ z = ((b : Nat) : Int) ∧ b < x.Rows.length ∧ x.Rows[b]? = some c ∧ outX x z = ⟨(outS c.Links).toArray⟩ ∧ c.Links.length ≤ 1048576) := fun k hk => by
    have h := List.getElem?_eq_getElem hk
    obtain ⟨b, c, h1, h2, h3, h4⟩ := win_row h
    exact ⟨_, b, c, h, h1, h2, h3, h4, hz4 b c h3⟩
  have HSZ : Hid (∀ k, ∀ s ∈ optTo x (winW x r) k, s.size ≤ 9223372036854775807) := optTo_size fun z hz => by
    obtain ⟨k, hk⟩ := List.mem_iff_getElem?.1 hz
    obtain ⟨b, c, _, _, h3, h4⟩ := win_row hk
    rw [h4]
    have := out_size c.Links
    have := hz4 b c h3
    omega
  have HST : Hid (∀ (k : Nat) (z : Int), (winW x r)[k]? = some z → optTo x (winW x r) (k + 1) = addNew (optTo x (winW x r) k) (outX x z)) := fun k z h => optTo_step h
  have HLN := Lib.hid (optTo_len x (winW x r))
  have H0 := Lib.hid (optTo_zero x (winW x r))
  have HEND : Hid (optTo x (winW x r) (winW x r).length = optL x r) := rfl
  have HHAS : Hid (∀ (l : List ByteArray) (v : Value) (F : Addr → Prop) (s : ByteArray) (W : World), l.length ≤ 1000000000 → RowRd (Rep.str mkT) false W v l F → Calls Tryz.prog 64 #[v, .string s] W fun e w' => e = .returned (.bool (hasB l s)) ∧ W = w') := fun l v F s W h1 h2 => contains_any mkT l v F s W h1 h2
  obtain ⟨i9, hi9, h9z, h9s, h9b⟩ := info_parts infoStrO12
  obtain ⟨Ar, kr, rfl⟩ := hvr.form
  clear hv hvr hm hz4 hz5 hT
  generalize optL x r = R at *
  generalize hWW : winW x r = WW at *
  clear hWW
  have HI0 : Hid (InC (w.alloc (.cells #[.string x.Input, .slice A1 x.Names.length c1, .slice A2 x.Rows.length c2, .slice A3 x.Marks.length c3] 32)) w.heap.size #[.string x.Input, .slice A1 x.Names.length c1, .slice A2 x.Rows.length c2, .slice A3 x.Marks.length c3] 32) := heap_alloc_new _ _
  have HA0 : Hid (Below w.heap.size w (w.alloc (.cells #[.string x.Input, .slice A1 x.Names.length c1, .slice A2 x.Rows.length c2, .slice A3 x.Marks.length c3] 32))) := (Below.refl _ _).alloc (Nat.le_refl _) _
  have HO0 : Hid (OwnRd (Rep.str mkT) 9 true (w.heap.size + 1) (w.alloc (.cells #[.string x.Input, .slice A1 x.Names.length c1, .slice A2 x.Rows.length c2, .slice A3 x.Marks.length c3] 32)) (.slice none 0 0) ([] : List ByteArray) (fun _ => False)) := OwnRd.nil _ _
  have HS1 : Hid (w.heap.size + 1 = (w.alloc (.cells #[.string x.Input, .slice A1 x.Names.length c1, .slice A2 x.Rows.length c2, .slice A3 x.Marks.length c3] 32)).heap.size) := by unfold Hid; simp
  have b0 := HI0.out.cell 0 rfl
  have b1 := HI0.out.cell 1 rfl
  have b2 := HI0.out.cell 2 rfl
  have b3 := HI0.out.cell 3 rfl
  go_enter Tryz.func23, Tryz.ntmps23
  go_wp2_with fail
  refine (HWI.out _ HA0.out).mono ?_
  rintro e w2 ⟨u, rfl, hrow, hb2⟩
  rw [← HS1.out] at hrow hb2
  obtain ⟨Au, cu, rfl⟩ := hrow.form
  have HBX := Lib.hid (HI0.out.keptB hb2 (by omega))
  have HO2 : Hid (OwnRd (Rep.str mkT) 9 true (w.heap.size + 1) w2 (.slice none 0 0) (optTo x WW 0) (fun _ => False)) := by
    unfold Hid; rw [H0.out]
    exact OwnRd.kept HO0.out (by rw [← HS1.out]; exact hb2)
  have HB2 := Lib.hid (HA0.out.trans (hb2.mono (by omega)))
  have hs2 := hb2.size
  rw [← HS1.out] at hs2
  have HAP : Hid (Apart (.slice none 0 0) (w.heap.size + 1) w2.heap.size) := fun k hk => by simp [Value.ownBlock] at hk; try omega
  have HRW := Lib.hid (hrow.tight.weak)
  clear hrow hb2 b0 b1 b2 b3 HI0 HA0 HO0 HWI HS1
  have hwl := HWL.out
  generalize hLW : WW.length = LW at *
  go_wp2
  go_loopw [5, 13] (fun o i wr => ∃ (k : Nat), k ≤ LW ∧ i = .int .i64 k ∧ OwnRd (Rep.str mkT) 9 true (w.heap.size + 1) wr o (optTo x WW k) (fun _ => False) ∧ Apart o (w.heap.size + 1) w2.heap.size ∧ KeepB (w.heap.size + 1) w2.heap.size w2 wr ∧ InC wr w.heap.size #[.string x.Input, .slice A1 x.Names.length c1, .slice A2 x.Rows.length c2, .slice A3 x.Marks.length c3] 32 ∧ Below w.heap.size w wr) (fun _ i _ => LW - (intOf i).toNat)
  case atStart => exact ⟨0, by omega, rfl, HO2.out, HAP.out, KeepB.refl (Nat.le_refl _), HBX.out, HB2.out⟩
  case round =>
    obtain ⟨k, hk, rfl, hown, hap, hkb, hbx, hbe⟩ := hrel
    obtain ⟨w4, rfl⟩ : ∃ w4 : World, w4 = wr := ⟨_, rfl⟩
    have HB := Lib.hid hbe
    have HBX4 := Lib.hid hbx
    have HOW := Lib.hid hown
    have HAP4 := Lib.hid hap
    have HKB := Lib.hid hkb
    have hln := HLN.out k
    have HR4 : Hid (RowRd Rep.int false w4 (.slice Au LW cu) WW (fun a => w.heap.size + 1 ≤ a.block ∧ a.block < w2.heap.size)) := HRW.out.frame fun a ha => by
      have h := hkb.same a.block ha.1 ha.2
      exact ⟨World.cell?_of_block h, World.frozen?_of_block h⟩
    obtain ⟨Ao, co, rfl⟩ := OwnRd.formS12 hown
    clear hbe hbx hown hap hkb
    by_cases hkl : k < LW
    · obtain ⟨z, b, c, hz, rfl, hbr, hc, hox, hcl⟩ := HX.out k hkl
      have HSK := Lib.hid (HST.out k _ hz)
      rw [hox] at HSK
      have hkr : (k : Int) < (LW : Int) := by omega
      have hbr2 : (b : Int) < (x.Rows.length : Int) := by omega
      obtain ⟨gu, ou, xsu, Gu, rfl, -, hru', -, hcu⟩ := HR4.out.get hz
      obtain ⟨rfl, -⟩ := id hru'
      have du := hcu 0 _ rfl
      simp only [show Rep.int.size = 1 from rfl, Nat.mul_one, Nat.add_zero] at du
      obtain ⟨g3, o3, xs3, G3, rfl, -, hr3', -, hc3⟩ := (HV.out.rows.kept HB.out).get hc
      obtain ⟨v3, rfl, q3⟩ := rCandidate_rd hr3'
      rw [show rCandidate.size = 1 from rfl] at hc3
      have d3 := hc3 0 _ rfl
      simp only [Nat.add_zero, Nat.mul_one] at d3
      have b2 := HBX4.out.cell 2 rfl
      have HQ3 := Lib.hid q3
      have hsz := out_size c.Links
      clear hru' hcu hr3' hc3 q3 hz hc hox
      have HCO := Lib.hid (HOS.out c v3 G3 w4 hcl HQ3.out)
      generalize hLO : (optTo x WW k).length = LO at *
      go_wp2_with fail
      refine HCO.out.mono ?_
      rintro e w5 ⟨rfl, hb45⟩
      have HB5 := Lib.hid (below_step HB.out hb45)
      have HBX5 := Lib.hid (HBX4.out.kept hb45)
      have HO5 := Lib.hid (OwnRd.kept HOW.out hb45)
      have HKB5 := Lib.hid (HKB.out.below hb45)
      clear hb45 du d3 b2
      generalize hS : (⟨(outS c.Links).toArray⟩ : ByteArray) = S at *
      clear hS
      have HRO := Lib.hid ((OwnRd.row HO5.out (by omega)).weak)
      have HHK := Lib.hid (HHAS.out _ _ _ S w5 (by omega) HRO.out)
      generalize hbb : hasB (optTo x WW k) S = bb at *
      go_wp2_with fail
      refine HHK.out.mono ?_
      rintro e w6 ⟨rfl, rfl⟩
      cases bb with
      | true =>
        have HNX : Hid (optTo x WW (k + 1) = optTo x WW k) := by unfold Hid; rw [HSK.out]; exact addNew_yes hbb
        have HO6 : Hid (OwnRd (Rep.str mkT) 9 true (w.heap.size + 1) w5 (.slice Ao LO co) (optTo x WW (k + 1)) (fun _ => False)) := by unfold Hid; rw [HNX.out]; exact HO5.out
        clear hbb
        go_wp2
        go_roundw
        case rel => exact ⟨k + 1, by omega, by go_num, HO6.out, HAP4.out, HKB5.out, HBX5.out, HB5.out⟩
        case measure => simp [intOf]; omega
      | false =>
        have HNX : Hid (optTo x WW (k + 1) = optTo x WW k ++ [S]) := by unfold Hid; rw [HSK.out]; exact addNew_no hbb
        clear hbb
        go_wp2_with (at_builtin; refine Hid.out ?_)
        unfold Hid
        refine wpList_append_el (Rep.str mkT) w5 rfl (.tmp 27) (.tmp 29) 22 9 i9 (.string ⟨#[]⟩) 16 rfl Tryz.underlying22 hi9 h9z h9s h9b rfl (by decide) true (w.heap.size + 1) _ (optTo x WW k) (fun _ => False) HO5.out rfl [.string S] S (fun _ => False) ⟨rfl, by omega⟩ (fun a h => h.elim) (fun _ a h => h.elim) rfl (fun u hu => by simp at hu; subst hu; rfl) (by omega) (by omega) (by have := HB5.out.size; have := HBX5.out.lt; omega) ?_
        intro v7 w7 ho7 hb7 hk7 hm7
        have HO7 : Hid (OwnRd (Rep.str mkT) 9 true (w.heap.size + 1) w7 v7 (optTo x WW (k + 1)) (fun _ => False)) := by unfold Hid; rw [HNX.out]; exact ho7.mono fun a h => h.elim id id
        have HAP7 := Lib.hid (HAP4.out.grow HKB5.out.size hm7)
        have HKB7 := Lib.hid (HKB5.out.grow HAP4.out (Nat.le_trans (by omega) hb7.size) (fun q h1 h2 => (hk7 q h1 h2).1))
        have HBX7 := Lib.hid (HBX5.out.keptB hb7 (by omega))
        have HB7 := Lib.hid (HB5.out.trans (hb7.mono (by omega)))
        clear ho7 hb7 hk7 hm7
        go_wp2
        go_roundw
        case rel => exact ⟨k + 1, by omega, by go_num, HO7.out, HAP7.out, HKB7.out, HBX7.out, HB7.out⟩
        case measure => simp [intOf]; omega
    · obtain rfl : k = LW := by omega
      have hrr := (OwnRd.row HOW.out (by omega)).mono (G := fun a => w.heap.size ≤ a.block) (fun a ha => ha.elim (fun h => by omega) (fun h => h.elim))
      have HRR : Hid (RowRd (Rep.str mkT) true w4 (.slice Ao (optTo x WW k).length co) R (fun a => w.heap.size ≤ a.block)) := by unfold Hid; rw [← HEND.out]; exact hrr
      clear hrr
      go_wp2
      go_ret
      exact ⟨_, rfl, HRR.out, HB.out⟩
end Go.Proofs.YtkaihnlknncfdaaGreatDoor

/- The laws' szStringS. -/
namespace Go.Proofs.YtkaihnlknncfdaaGreatDoor
set_option maxRecDepth 100000
open Go.RowKit Go.Sort M
set_option linter.unusedVariables false
set_option linter.unusedSimpArgs false

def szTo (l : List ByteArray) (k : Nat) : Nat := l.length + ((l.take k).map (·.size)).sum
theorem szTo_zero (l : List ByteArray) : szTo l 0 = l.length := by simp [szTo]
theorem szTo_step {l : List ByteArray} {k : Nat} {x : ByteArray} (h : l[k]? = some x) : szTo l (k + 1) = szTo l k + x.size := by
  unfold szTo
  rw [List.take_add_one, h]
  simp
  omega
theorem szTo_all (l : List ByteArray) : szTo l l.length = szRow (Rep.str mkT) l := by
  unfold szTo szRow
  rw [List.take_length]
  rfl
set_option maxHeartbeats 1000000 in
theorem szStringS_any (v : Value) (l : List ByteArray) (left : Int) (F : Addr → Prop) (w : World) (h0 : 0 ≤ left) (h1 : left ≤ 1048576) (hv : RowRd (Rep.str mkT) false w v l F) :
    Calls Tryz.prog 32 #[v, .int .i64 left] w fun e w' => (∃ z : Int, e = .returned (.int .i64 z) ∧ (z < 0 ∨ z + (szRow (Rep.str mkT) l : Nat) = left ∧ 0 ≤ z)) ∧ Below w.heap.size w w' := by
  have hmx := hv.max
  obtain ⟨A, cap, rfl⟩ := hv.form
  have HV := Lib.hid hv
  clear hv
  have HX : Hid (∀ k, k < l.length → ∃ y, l[k]? = some y) := fun k hk => ⟨_, List.getElem?_eq_getElem hk⟩
  have HS : Hid (szTo l l.length = szRow (Rep.str mkT) l) := szTo_all l
  have H0 : Hid (szTo l 0 = l.length) := szTo_zero l
  have HST : Hid (∀ k x, l[k]? = some x → szTo l (k + 1) = szTo l k + x.size) := fun k x h => szTo_step h
  go_enter Tryz.func32, Tryz.ntmps32
  by_cases h : left - (l.length : Int) < 0
  · go_wp2
    go_ret
    exact ⟨⟨-1, rfl, Or.inl (by omega)⟩, Below.refl _ _⟩
  · go_wp2
    go_loop [1, 5] (fun q i => ∃ (k : Nat) (z : Int), k ≤ l.length ∧ i = .int .i64 k ∧ q = .int .i64 z ∧ 0 ≤ z ∧ z ≤ 1048576 ∧ Hid (z + (szTo l k : Nat) = left)) (fun _ i => l.length - (intOf i).toNat)
    case atStart => exact ⟨0, _, by omega, rfl, rfl, by omega, by omega, by unfold Hid; rw [H0.out]; omega⟩
    case round =>
      obtain ⟨k, z, hk, rfl, rfl, hz0, hz1, hs⟩ := hrel
      by_cases hkl : k < l.length
      · obtain ⟨y, hy⟩ := HX.out k hkl
        have HSY := Lib.hid (HST.out k y hy)
        obtain ⟨g, off, xs, Fk, rfl, _, hra, _, hca⟩ := HV.out.get hy
        obtain ⟨rfl, hys⟩ := hra
        rw [show (Rep.str mkT).size = 1 from rfl] at hca
        have c0 := hca 0 _ rfl
        simp only [Nat.add_zero, Nat.mul_one] at c0
        clear hca hy
        by_cases hneg : z - (y.size : Int) < 0
        · go_wp2
          go_ret
          exact ⟨⟨-1, rfl, Or.inl (by omega)⟩, Below.refl _ _⟩
        · go_wp2
          go_round
          case rel => exact ⟨k + 1, z - (y.size : Int), by omega, by first | rfl | go_num, by first | rfl | go_num, by omega, by omega, by unfold Hid; rw [HSY.out]; have := hs.out; omega⟩
          case measure => simp [intOf]; omega
      · obtain rfl : k = l.length := by omega
        go_wp2
        go_ret
        exact ⟨⟨z, rfl, Or.inr ⟨by rw [← HS.out]; exact hs.out, hz0⟩⟩, Below.refl _ _⟩
end Go.Proofs.YtkaihnlknncfdaaGreatDoor

/- Sizes of rows, element by element. -/
namespace Go.Proofs.YtkaihnlknncfdaaGreatDoor
set_option maxRecDepth 100000
open Go.RowKit
set_option linter.unusedVariables false
set_option linter.unusedSimpArgs false

def szToE {α : Type} (E : Rep α) (l : List α) (k : Nat) : Nat := l.length + ((l.take k).map E.sz).sum
theorem szToE_zero {α : Type} (E : Rep α) (l : List α) : szToE E l 0 = l.length := by simp [szToE]
theorem szToE_step {α : Type} (E : Rep α) {l : List α} {k : Nat} {x : α} (h : l[k]? = some x) : szToE E l (k + 1) = szToE E l k + E.sz x := by
  unfold szToE
  rw [List.take_add_one, h]
  simp
  omega
theorem szToE_all {α : Type} (E : Rep α) (l : List α) : szToE E l l.length = szRow E l := by
  unfold szToE szRow
  rw [List.take_length]
end Go.Proofs.YtkaihnlknncfdaaGreatDoor
