/- Merged: Tt9 TeLink TeLinkS TeCandidate TmLinkS TmCandidate TeIntS TmIntS ThIntS. -/
import Derived.Test.YtcgmlhlnkbjfnaaDoorQ8
import Derived.Test.YtcgmlhlnkbjfnaaDoorQ1
import Derived.WalkKit
import Derived.BigQuiet
import Derived.Lib.QuietBelow
import Derived.Test.YtcgmlhlnkbjfnaaDoorRows
import Derived.Test.YtcgmlhlnkbjfnaaDoorQ2
/- The laws' toCandidate, with the capacity of the row that it lays. -/
namespace Go.Proofs.YtcgmlhlnkbjfnaaDoor
set_option maxRecDepth 100000
open Go.RowKit Go.Sort
set_option linter.unusedVariables false
set_option linter.unusedSimpArgs false

def OwnPostC {α : Type} (E : Rep α) (l : List α) (w : World) (e : Ending) (w' : World) : Prop := ∃ A, e = .returned (.slice A l.length l.length) ∧ RowRd E true w' (.slice A l.length l.length) l (fun a => w.heap.size ≤ a.block) ∧ Below w.heap.size w w'
set_option maxHeartbeats 2000000 in
theorem toLinkS_cap (v : Value) (l : List DLink) (F : Addr → Prop) (w : World) (hm : szRow rLink l ≤ 1048576) (hv : RowRd rLink false w v l F) :
    Calls Tryd.prog 21 #[v] w (OwnPostC rLink l w) := by
  have hml := Nat.le_trans (szRow_len rLink l) hm
  obtain ⟨A, cap, rfl⟩ := hv.form
  have HV := Lib.hid hv
  have HSZ : Hid (∀ k x, l[k]? = some x → rLink.sz x ≤ 1048576) := fun k x h => Nat.le_trans (szRow_at _ _ _ h) hm
  clear hv hm
  have HX : Hid (∀ k, k < l.length → ∃ x, l[k]? = some x) := fun k hk => ⟨_, List.getElem?_eq_getElem hk⟩
  have H0 := Lib.hid (cpTo_zero zLink l)
  have HA := Lib.hid (cpTo_all zLink l)
  have HAT := Lib.hid (cpTo_at zLink l)
  have HST : Hid (∀ k x, l[k]? = some x → (cpTo zLink l k).set k x = cpTo zLink l (k + 1)) := fun k x h => cpTo_step _ _ _ h
  have HP : Hid (∀ (A : Option Addr) (w' : World), RowRd rLink true w' (.slice A l.length l.length) l (fun a => w.heap.size ≤ a.block) → Below w.heap.size w w' → OwnPostC rLink l w (.returned (.slice A l.length l.length)) w') := fun u w' h1 h2 => ⟨u, rfl, h1, h2⟩
  generalize hll : l.length = n at *
  clear hll
  obtain ⟨i0, hi, hz0, hz1, hz2⟩ := info_parts Tryd.infoTLink
  go_enter Tryd.func21, Tryd.ntmps21
  go_wp2_with (at_make; refine wpList_make_full _ rfl _ _ 31 rfl w.heap.size 57 i0 (.agg #[.int .u8 0, .int .u8 0]) 2 Tryd.underlying31 hi hz0 hz1 .i64 .i64 _ _ n rfl rfl rfl rfl (by rw [hz2]; omega) (by unfold maxLen; omega) (Nat.le_refl _) ?_; intro w1 hown1 hgrow1)
  have hb1 : Below w.heap.size w w1 := (Below.refl _ _).grown hgrow1 (Nat.le_refl _) (fun _ h => by cases h)
  have HO1 : Hid (RowRd rLink true w1 (.slice (some ⟨w.heap.size, 0, none⟩) n n) (cpTo zLink l 0) (fun a => w.heap.size ≤ a.block)) := by
    unfold Hid
    rw [H0.out]
    rw [show (Value.cells (.agg #[.int .u8 0, .int .u8 0])) = #[.int .u8 0, .int .u8 0] from rfl] at hown1
    have hlr : (List.replicate n (zLink : DLink)).length = n := List.length_replicate
    refine (RowRd.of_flat (E := rLink) (l := List.replicate n zLink) (base := w.heap.size) (e := 57) (cells := (madeCells #[.int .u8 0, .int .u8 0] (n * 2)).toList) (by rw [hlr]; exact hown1) (by rw [hlr]; omega) ?_).mono (fun a ha => ha.1)
    intro k x hk
    rw [List.getElem?_replicate] at hk
    split at hk
    · cases hk
      refine ⟨[.int .u8 0, .int .u8 0], ?_, rLink_mk (x := zLink) ⟩
      intro j u hj
      have hjn : j < 2 := (List.getElem?_eq_some_iff.1 hj).1
      rw [show rLink.size = 2 from rfl, made_at _ _ _ (by omega) (by decide), show (#[.int .u8 0, .int .u8 0] : Array Value).size = 2 from rfl, show (k * 2 + j) % 2 = j by omega]
      simpa using hj
    · cases hk
  have HB1 := Lib.hid hb1
  clear hown1 hgrow1 hb1
  go_wp2
  go_loopw [4] (fun i wr => ∃ (k : Nat), k ≤ n ∧ i = .int .i64 k ∧ RowRd rLink true wr (.slice (some ⟨w.heap.size, 0, none⟩) n n) (cpTo zLink l k) (fun a => w.heap.size ≤ a.block) ∧ Below w.heap.size w wr) (fun i _ => n - (intOf i).toNat)
  case atStart => exact ⟨0, by omega, rfl, HO1.out, HB1.out⟩
  case round =>
    obtain ⟨k, hk, rfl, hrow, hbe⟩ := hrel
    have HBE := Lib.hid hbe
    clear hbe
    by_cases hkl : k < n
    · obtain ⟨x, hx⟩ := HX.out k hkl
      have HSX := Lib.hid (HST.out k x hx)
      have hszx := HSZ.out k x hx
      obtain ⟨sg, so, xs, Fs, rfl, _, hsr, _, hsc⟩ := (HV.out.kept HBE.out).get hx
      rw [show rLink.size = 2 from rfl] at hsc
      have ee := rLink_rd hsr
      subst ee
      have c0 := hsc 0 _ rfl
      have c1 := hsc 1 _ rfl
      simp only [Nat.add_zero] at c0
      clear hsc hsr
      have hrow2 := hrow.tight
      clear hrow
      have HC := Lib.hid (toLink_any x Fs wr hszx)
      have HR2 := Lib.hid hrow2
      clear hrow2
      go_wp2_with fail
      refine HC.out.mono ?_
      rintro e w2 ⟨rfl, hb2⟩
      have hrow2 := HR2.out.kept hb2
      obtain ⟨g, off, ys, Fk, hge, hrd, hel, hFk, hcl, hput⟩ := hrow2.open (HAT.out k hkl)
      cases hge
      rw [show rLink.size = 2 from rfl] at hel hcl hput
      simp only [Nat.zero_add] at hel hput
      have ee := rLink_rd hrd
      subst ee
      have d0 := hel.cell 0 rfl
      have f0 := hel.free 0 (by decide)
      have d1 := hel.cell 1 rfl
      have f1 := hel.free 1 (by decide)
      simp only [Nat.zero_add, Nat.add_zero] at d0 f0 d1 f1
      have hs0 := hel.set 0 (by decide) (.int .u8 (x.In.toNat : Int))
      simp only [List.set, Nat.zero_add, Nat.add_zero] at hs0
      have hs1 := hs0.set 1 (by decide) (.int .u8 (x.Out.toNat : Int))
      simp only [List.set, Nat.zero_add, Nat.add_zero] at hs1
      have HBB := Lib.hid (((HBE.out.trans (hb2.mono HBE.out.size)).setCell (p := ⟨w.heap.size, k * 2, none⟩) (Nat.le_refl _) (.int .u8 (x.In.toNat : Int))).setCell (p := ⟨w.heap.size, k * 2 + 1, none⟩) (Nat.le_refl _) (.int .u8 (x.Out.toNat : Int)))
      have HNEW := Lib.hid ((hput _ _ x (fun _ => False) hs1 (rLink_mk (x := x) ) (fun a h => h.elim)).mono (fun a h => h.elim (fun h => h.1) (fun h => h.elim)))
      rw [HSX.out] at HNEW
      clear hput hel hs0 hs1 hb2 hrd hFk hcl
      try clear hrow2
      go_wp2
      go_roundw
      case rel => exact ⟨k + 1, by omega, by go_num, HNEW.out, HBB.out⟩
      case measure => simp [intOf]; omega
    · obtain rfl : k = n := by omega
      rw [HA.out] at hrow
      have HRR := Lib.hid hrow
      clear hrow
      go_wp2
      go_ret
      exact HP.out _ _ HRR.out HBE.out
set_option maxHeartbeats 8000000 in
theorem toCandidate_cap (x : DCandidate) (F : Addr → Prop) (w : World) (v0 : Value) (hv0 : RowRd rLink false w v0 x.Links F) (hm : rCandidate.sz x ≤ 1048576) :
    Calls Tryd.prog 8 #[.agg #[v0]] w fun e w' => ∃ A0, e = .returned (.agg #[.slice A0 x.Links.length x.Links.length]) ∧ RowRd rLink true w' (.slice A0 x.Links.length x.Links.length) x.Links (fun a => w.heap.size ≤ a.block) ∧ Below w.heap.size w w' := by
  have HT0 : Hid (∀ W, Below w.heap.size w W → Calls Tryd.prog 21 #[v0] W (OwnPostC rLink x.Links W)) := fun W hW => toLinkS_cap v0 _ F W (Nat.le_trans (by rw [rCandidate_sz]; omega) hm) (hv0.kept hW)
  clear hv0
  clear hm
  generalize x.Links = y0 at *
  go_enter Tryd.func8, Tryd.ntmps8
  go_wp2_with fail
  refine (HT0.out _ ((((Below.refl _ _).alloc (Nat.le_refl _) _).alloc (by simp) _).alloc (by simp; omega) _)).mono ?_
  rintro e w1 ⟨A0, rfl, hq0, hb0⟩
  have HS : InC w1 w.heap.size #[v0] 25 := (hb0.block _ (by simp; omega)).trans ((Below.heap_alloc _ _ _ (by simp; omega)).trans (box1 _ _ _))
  have HR : InC w1 (w.heap.size + 1) #[.slice none 0 0] 33 := (hb0.block _ (by simp)).trans ((Below.heap_alloc _ _ _ (by simp)).trans (box2 _ _ _))
  have HO : InC w1 (w.heap.size + 1 + 1) #[.slice none 0 0] 33 := (hb0.block _ (by simp)).trans (by have := heap_alloc_new ((w.alloc (.cells #[v0] 25)).alloc (.cells #[.slice none 0 0] 33)) (.cells #[.slice none 0 0] 33); rwa [World.size_alloc, World.size_alloc] at this)
  have HB : Hid (Below w.heap.size w w1) := ((((Below.refl _ _).alloc (Nat.le_refl _) _).alloc (by simp) _).alloc (by simp; omega) _).trans (hb0.mono (by simp; omega))
  have HQ0 : Hid (RowRd rLink true w1 (.slice A0 y0.length y0.length) y0 (fun a => w.heap.size ≤ a.block ∧ w.heap.size + 1 + 1 < a.block)) := hq0.mono (fun a ha => by simp at ha; omega)
  clear hb0 hq0
  have c0 := InC.cell HO 0 rfl
  have f0 := InC.free HO 0
  replace HO : InC (World.setCell w1 ⟨w.heap.size + 1 + 1, 0, none⟩ ((.slice A0 y0.length y0.length))) (w.heap.size + 1 + 1) #[(.slice A0 y0.length y0.length)] 33 := heap_setCell_same _ _ _ _ _ _ HO
  replace HS := InC.other HS (p := ⟨w.heap.size + 1 + 1, 0, none⟩) (by simp; omega) ((.slice A0 y0.length y0.length))
  replace HR := InC.other HR (p := ⟨w.heap.size + 1 + 1, 0, none⟩) (by simp) ((.slice A0 y0.length y0.length))
  replace HB := Lib.hid (HB.out.setCell (p := ⟨w.heap.size + 1 + 1, 0, none⟩) (by simp; omega) ((.slice A0 y0.length y0.length)))
  replace HQ0 := Lib.hid (HQ0.out.apart (Unch.set (F := fun a => a = ⟨w.heap.size + 1 + 1, 0, none⟩) rfl ((.slice A0 y0.length y0.length))) (fun a ha e => by subst e; simp at ha))
  have o0 := InC.cell HO 0 rfl
  have r0 := InC.cell HR 0 rfl
  have q0 := InC.free HR 0
  replace HR : InC (World.setCell (World.setCell w1 ⟨w.heap.size + 1 + 1, 0, none⟩ ((.slice A0 y0.length y0.length))) ⟨w.heap.size + 1, 0, none⟩ ((.slice A0 y0.length y0.length))) (w.heap.size + 1) #[(.slice A0 y0.length y0.length)] 33 := heap_setCell_same _ _ _ _ _ _ HR
  replace HB := Lib.hid (HB.out.setCell (p := ⟨w.heap.size + 1, 0, none⟩) (by simp) ((.slice A0 y0.length y0.length)))
  replace HQ0 := Lib.hid (HQ0.out.apart (Unch.set (F := fun a => a = ⟨w.heap.size + 1, 0, none⟩) rfl ((.slice A0 y0.length y0.length))) (fun a ha e => by subst e; simp at ha; try omega))
  have HRR := Lib.hid HR
  clear HR HO HS
  go_wp2
  refine bodyPost_ret (v := .agg #[(.slice A0 y0.length y0.length)]) (results_cell_row rfl _ _ (w.heap.size + 1) 33 _ (0, 0) _ rfl HRR.out Tryd.underlying33 rfl (by kernel_rfl)) rfl ⟨A0, rfl, HQ0.out.mono (fun a ha => ha.1), HB.out⟩
end Go.Proofs.YtcgmlhlnkbjfnaaDoor

/- The laws' eqLink. -/
namespace Go.Proofs.YtcgmlhlnkbjfnaaDoor
set_option maxRecDepth 100000
open Go.RowKit Go.Sort
set_option linter.unusedVariables false
set_option linter.unusedSimpArgs false

theorem eqLink_any (x : DLink) (F G : Addr → Prop) (w : World) :
    Calls Tryd.prog 55 #[.agg #[.int .u8 (x.In.toNat : Int), .int .u8 (x.Out.toNat : Int)], .agg #[.int .u8 (x.In.toNat : Int), .int .u8 (x.Out.toNat : Int)]] w fun e w' => e = .returned (.bool true) ∧ Below w.heap.size w w' := by
  generalize x.In = y0 at *
  generalize x.Out = y1 at *
  go_enter Tryd.func55, Tryd.ntmps55
  go_wp2
  go_ret
  exact ⟨rfl, ((Below.refl _ _).alloc (Nat.le_refl _) _).alloc (by simp) _⟩
end Go.Proofs.YtcgmlhlnkbjfnaaDoor

/- The laws' eqLinkS. -/
namespace Go.Proofs.YtcgmlhlnkbjfnaaDoor
set_option maxRecDepth 100000
open Go.RowKit Go.Sort
set_option linter.unusedVariables false
set_option linter.unusedSimpArgs false

set_option maxHeartbeats 1000000 in
theorem eqLinkS_any (v u : Value) (l : List DLink) (F G : Addr → Prop) (w : World) (hv : RowRd rLink false w v l F) (hu : RowRd rLink false w u l G) :
    Calls Tryd.prog 26 #[v, u] w fun e w' => e = .returned (.bool true) ∧ Below w.heap.size w w' := by
  obtain ⟨A, cap, rfl⟩ := hv.form
  obtain ⟨A2, cap2, rfl⟩ := hu.form
  have hmx := hv.max
  have HV := Lib.hid hv
  have HU := Lib.hid hu
  clear hv hu
  have HX : Hid (∀ k, k < l.length → ∃ x, l[k]? = some x) := fun k hk => ⟨_, List.getElem?_eq_getElem hk⟩
  generalize hll : l.length = n at *
  clear hll
  go_enter Tryd.func26, Tryd.ntmps26
  go_wp2
  go_loopw [5] (fun i wr => ∃ (k : Nat), k ≤ n ∧ i = .int .i64 k ∧ Below w.heap.size w wr) (fun i _ => n - (intOf i).toNat)
  case atStart => exact ⟨0, by omega, rfl, Below.refl _ _⟩
  case round =>
    obtain ⟨k, hk, rfl, hbe⟩ := hrel
    have HBE := Lib.hid hbe
    clear hbe
    by_cases hkl : k < n
    · obtain ⟨x, hx⟩ := HX.out k hkl
      obtain ⟨g, off, xs, Fk, rfl, _, rc, _, hc⟩ := (HV.out.kept HBE.out).get hx
      obtain ⟨g2, off2, ys, Gk, rfl, _, rd, _, hd⟩ := (HU.out.kept HBE.out).get hx
      have eec := rLink_rd rc
      subst eec
      have eed := rLink_rd rd
      subst eed
      rw [rLink_size] at hc hd
      have c0 := fun d os => cell_regrown (hc 0 _ rfl) d os
      have c1 := fun d os => cell_regrown (hc 1 _ rfl) d os
      have d0 := fun d os => cell_regrown (hd 0 _ rfl) d os
      have d1 := fun d os => cell_regrown (hd 1 _ rfl) d os
      clear hc hd
      simp only [Nat.add_zero] at c0 d0
      have cS : ∀ d os, Calls Tryd.prog 55 #[.agg #[.int .u8 (x.In.toNat : Int), .int .u8 (x.Out.toNat : Int)], .agg #[.int .u8 (x.In.toNat : Int), .int .u8 (x.Out.toNat : Int)]] (grow (redrawn wr d) os) fun e w'' => e = .returned (.bool true) ∧ ∃ p : Regrown, w'' = grow (redrawn wr p.d) p.os :=
        fun d os => Calls.regrown_of (eqLink_any x Fk Gk _)
      clear  hx
      generalize x.In = y0 at *
      generalize x.Out = y1 at *
      go_wp2
      refine wp_region_quiet_below (by kernel_rfl) (by kernel_rfl) ?_
      repeat (quiet_step (exact cS _ _))
      refine wpQuiet_nil ?_
      intro _ hw'
      obtain ⟨⟨dq, osq⟩, hw''⟩ := hw'
      subst hw''
      go_wp2
      go_roundw
      case rel => exact ⟨k + 1, by omega, by go_num, HBE.out.trans ((below_regrown wr dq osq).mono HBE.out.size)⟩
      case measure => simp [intOf]; omega
    · obtain rfl : k = n := by omega
      go_wp2
      go_ret
      exact ⟨rfl, HBE.out⟩
end Go.Proofs.YtcgmlhlnkbjfnaaDoor

/- The laws' eqCandidate. -/
namespace Go.Proofs.YtcgmlhlnkbjfnaaDoor
set_option maxRecDepth 100000
open Go.RowKit Go.Sort
set_option linter.unusedVariables false
set_option linter.unusedSimpArgs false

theorem eqCandidate_any (x : DCandidate) (F G : Addr → Prop) (w : World) (v0 u0 : Value) (hv0 : RowRd rLink false w v0 x.Links F) (hu0 : RowRd rLink false w u0 x.Links G) :
    Calls Tryd.prog 12 #[.agg #[v0], .agg #[u0]] w fun e w' => e = .returned (.bool true) ∧ Below w.heap.size w w' := by
  have HR0 : Hid (∀ W, Below w.heap.size w W → Calls Tryd.prog 26 #[v0, u0] W fun e w' => e = .returned (.bool true) ∧ Below W.heap.size W w') := fun W hW => eqLinkS_any v0 u0 _ F G W (hv0.kept hW) (hu0.kept hW)
  clear hv0 hu0
  go_enter Tryd.func12, Tryd.ntmps12
  go_wp2_with fail
  refine (HR0.out _ (((Below.refl _ _).alloc (Nat.le_refl _) _).alloc (by simp) _)).mono ?_
  rintro e w1 ⟨rfl, hb1⟩
  have HB1 : Hid (Below w.heap.size w w1) := (((Below.refl _ _).alloc (Nat.le_refl _) _).alloc (by simp) _).trans (hb1.mono (by simp; try omega))
  have hA1 : w1.heap[w.heap.size]? = some (.cells #[v0] 33 (0, 0)) := (hb1.block _ (by simp; try omega)).trans (box1 _ _ _)
  have hB1 : w1.heap[w.heap.size + 1]? = some (.cells #[u0] 33 (0, 0)) := (hb1.block _ (by simp; try omega)).trans (box2 _ _ _)
  clear hb1
  go_wp2
  go_ret
  exact ⟨rfl, HB1.out⟩
end Go.Proofs.YtcgmlhlnkbjfnaaDoor

/- The laws' markLinkS. -/
namespace Go.Proofs.YtcgmlhlnkbjfnaaDoor
set_option maxRecDepth 100000
open Go.RowKit Go.Sort
set_option linter.unusedVariables false
set_option linter.unusedSimpArgs false

set_option maxHeartbeats 2000000 in
theorem markLinkS_any (v : Value) (l : List DLink) (z : Int) (k0 : Nat) (hz : z = (k0 : Int)) (base : Nat) (F0 : Addr → Prop) (w : World) (hF0 : ∀ a, F0 a → base ≤ a.block) (hk : k0 + cntRow rLink l ≤ 1000000000) (h1k : 1 ≤ k0) (hv0 : RowRd rLink true w v l F0) :
    Calls Tryd.prog 28 #[v, .int .i64 z] w fun e w' => e = .returned (.int .i64 ((k0 + cntRow rLink l : Nat) : Int)) ∧ RowRd rLink true w' v (labRow rLink k0 l) F0 ∧ Unch F0 w w' ∧ Below base w w' := by
  subst hz
  have hv := hv0.tight
  have HG : Hid (∀ a, (F0 a ∧ a.block < w.heap.size) → F0 a) := fun _ h => h.1
  have HFS : Hid (∀ a, (F0 a ∧ a.block < w.heap.size) → a.block < w.heap.size) := fun _ h => h.2
  have HFB : Hid (∀ a, (F0 a ∧ a.block < w.heap.size) → base ≤ a.block) := fun a h => hF0 a h.1
  generalize hF : (fun a => F0 a ∧ a.block < w.heap.size) = F at hv
  have HG : Hid (∀ a, F a → F0 a) := by subst hF; exact HG
  have HFS : Hid (∀ a, F a → a.block < w.heap.size) := by subst hF; exact HFS
  have HFB : Hid (∀ a, F a → base ≤ a.block) := by subst hF; exact HFB
  clear hF hF0
  have hmx := hv.max
  have HMX := Lib.hid hmx
  obtain ⟨A, cap, rfl⟩ := hv.form
  have HV := Lib.hid hv
  clear hv hv0
  have HX : Hid (∀ k, k < l.length → ∃ x, l[k]? = some x) := fun k hk => ⟨_, List.getElem?_eq_getElem hk⟩
  have HEND : Hid (labTo rLink k0 l l.length = labRow rLink k0 l ∧ cntTo rLink l l.length = cntRow rLink l) := ⟨labTo_all _ _ _, cntTo_all _ _⟩
  have HLE := Lib.hid (cntTo_le rLink l)
  have H0 := Lib.hid (labTo_zero rLink k0 l)
  have H00 : Hid (cntTo rLink l 0 = 0) := rfl
  generalize hll : l.length = n at *
  clear hll
  generalize cntRow rLink l = cr at *
  go_enter Tryd.func28, Tryd.ntmps28
  go_wp2
  go_loopw [1, 5] (fun q i wr => ∃ (k : Nat), k ≤ n ∧ i = .int .i64 k ∧ q = .int .i64 ((k0 + cntTo rLink l k : Nat) : Int) ∧ RowRd rLink true wr (.slice A n cap) (labTo rLink k0 l k) F ∧ Unch F w wr ∧ Below base w wr) (fun _ i _ => n - (intOf i).toNat)
  case atStart => exact ⟨0, by omega, rfl, by rw [H00.out]; rfl, by rw [H0.out]; exact HV.out, Unch.refl _ _, Below.refl _ _⟩
  case round =>
    obtain ⟨k, hk, rfl, rfl, hrow, hun, hbe⟩ := hrel
    have HUN := Lib.hid hun
    have HBE := Lib.hid hbe
    clear hun hbe
    by_cases hkl : k < n
    · obtain ⟨x, hx⟩ := HX.out k hkl
      have hcs := cntTo_step rLink l k hx
      have hle := HLE.out (k + 1)
      have HLS := Lib.hid (labTo_step rLink k0 l k hx)
      obtain ⟨g, off, xs, Fk, rfl, hrd, hel, hFk, hcl, hput⟩ := hrow.open (labTo_at rLink k0 l k hx)
      rw [show rLink.size = 2 from rfl] at hel hcl hput
      rw [rLink_cnt] at hcs
      have HCL := Lib.hid hcl
      have HFK := Lib.hid hFk
      have HPUT := Lib.hid hput
      have HCS := Lib.hid hcs
      have hcb0 : k0 + cntTo rLink l k + (1 + (1)) ≤ 1000000000 := by omega
      clear hrow hcl hFk hput hcs
      generalize hc : k0 + cntTo rLink l k = c at *
      have hcb : c + 1 ≤ 1000000001 := by omega
      have HC := Lib.hid hc
      clear hc
      have eehrd := rLink_rd hrd
      subst eehrd
      clear hrd
      have c0 := hel.cell 0 rfl
      have f0 := hel.free 0 (by decide)
      have hs0 := hel.set 0 (by decide) (.int .u8 ((((c : Nat) : Int)) % 256))
      simp only [Nat.add_zero] at c0 f0 hs0
      simp only [List.set] at hs0
      have c1 := hs0.cell 1 rfl
      have f1 := hs0.free 1 (by decide)
      have hs1 := hs0.set 1 (by decide) (.int .u8 ((((c : Nat) : Int) + 1) % 256))
      simp only [List.set] at hs1
      have HUE := Lib.hid ((HUN.out.trans (Unch.set (p := ⟨g, off + k * 2, none⟩) (HCL.out 0 (by decide)).1 (.int .u8 ((((c : Nat) : Int)) % 256)))).trans (Unch.set (p := ⟨g, off + k * 2 + 1, none⟩) (HCL.out 1 (by decide)).1 (.int .u8 ((((c : Nat) : Int) + 1) % 256))))
      have HBB := Lib.hid ((HBE.out.setCell (p := ⟨g, off + k * 2, none⟩) (HFB.out _ (HCL.out 0 (by decide)).1) (.int .u8 ((((c : Nat) : Int)) % 256))).setCell (p := ⟨g, off + k * 2 + 1, none⟩) (HFB.out _ (HCL.out 1 (by decide)).1) (.int .u8 ((((c : Nat) : Int) + 1) % 256)))
      have HEE := Lib.hid hs1
      clear hs0 hs1 hel
      go_wp2
      go_roundw
      case rel =>
        refine ⟨k + 1, by omega, by go_num, ?_, ?_, HUE.out, HBB.out⟩
        · have e1 := HCS.out
          have e2 := HC.out
          congr 1
          omega
        · rw [← HLS.out]
          exact (HPUT.out _ _ (rLink.lab c x) Fk HEE.out (rLink_mk (x := rLink.lab c x) ) (fun a h => Or.inl h)).mono (fun a h => h.elim id (HFK.out a))
      case measure => simp [intOf]; omega
    · obtain rfl : k = n := by omega
      rw [HEND.out.1] at hrow
      have HR := Lib.hid (hrow.mono HG.out)
      have HCN := Lib.hid HEND.out.2
      clear hrow
      go_wp2
      go_ret
      exact ⟨ret_i64 (by rw [HCN.out]), HR.out, HUN.out.mono HG.out, HBE.out⟩
end Go.Proofs.YtcgmlhlnkbjfnaaDoor

/- The laws' markCandidate. -/
namespace Go.Proofs.YtcgmlhlnkbjfnaaDoor
set_option maxRecDepth 100000
open Go.RowKit Go.Sort
set_option linter.unusedVariables false
set_option linter.unusedSimpArgs false

theorem markCandidate_any (x : DCandidate) (v0 : Value) (z : Int) (k0 : Nat) (hz : z = (k0 : Int)) (base : Nat) (F0 : Addr → Prop) (w : World) (hbs : base ≤ w.heap.size) (hF0 : ∀ a, F0 a → base ≤ a.block) (hk : k0 + cntRow rLink x.Links ≤ 1000000000) (h1k : 1 ≤ k0) (hv : RowRd rLink true w v0 x.Links F0) :
    Calls Tryd.prog 14 #[.agg #[v0], .int .i64 z] w fun e w' => e = .returned (.int .i64 ((k0 + cntRow rLink x.Links : Nat) : Int)) ∧ RowRd rLink true w' v0 (labRow rLink k0 x.Links) F0 ∧ Unch F0 w w' ∧ Below base w w' := by
  subst hz
  have HM : Hid (∀ W, Below w.heap.size w W → Calls Tryd.prog 28 #[v0, .int .i64 (k0 : Int)] W fun e w' => e = .returned (.int .i64 ((k0 + cntRow rLink x.Links : Nat) : Int)) ∧ RowRd rLink true w' v0 (labRow rLink k0 x.Links) F0 ∧ Unch F0 W w' ∧ Below base W w') := fun W hW => markLinkS_any v0 x.Links _ k0 rfl base F0 W hF0 hk h1k (hv.kept hW)
  clear hv
  generalize k0 + cntRow rLink x.Links = c at *
  go_enter Tryd.func14, Tryd.ntmps14
  go_wp2_with fail
  refine (HM.out _ ((Below.refl _ _).alloc (Nat.le_refl _) _)).mono ?_
  rintro e w1 ⟨rfl, hq, hu, hb⟩
  have HQ := Lib.hid hq
  have HU := Lib.hid ((Unch.below (F := F0) ((Below.refl _ _).alloc (Nat.le_refl _) _)).trans hu)
  have HB := Lib.hid (((Below.refl base w).alloc hbs _).trans hb)
  clear hq hu hb
  go_wp2
  go_ret
  exact ⟨rfl, HQ.out, HU.out, HB.out⟩
end Go.Proofs.YtcgmlhlnkbjfnaaDoor

/- The laws' eqIntS. -/
namespace Go.Proofs.YtcgmlhlnkbjfnaaDoor
set_option maxRecDepth 100000
open Go.RowKit Go.Sort
set_option linter.unusedVariables false
set_option linter.unusedSimpArgs false

set_option maxHeartbeats 1000000 in
theorem eqIntS_any (v u : Value) (l : List Int) (F G : Addr → Prop) (w : World) (hv : RowRd Rep.int false w v l F) (hu : RowRd Rep.int false w u l G) :
    Calls Tryd.prog 10 #[v, u] w fun e w' => e = .returned (.bool true) ∧ Below w.heap.size w w' := by
  obtain ⟨A, cap, rfl⟩ := hv.form
  obtain ⟨A2, cap2, rfl⟩ := hu.form
  have hmx := hv.max
  have HV := Lib.hid hv
  have HU := Lib.hid hu
  clear hv hu
  have HX : Hid (∀ k, k < l.length → ∃ x, l[k]? = some x) := fun k hk => ⟨_, List.getElem?_eq_getElem hk⟩
  generalize hll : l.length = n at *
  clear hll
  go_enter Tryd.func10, Tryd.ntmps10
  go_wp2
  go_loopw [5] (fun i wr => ∃ (k : Nat), k ≤ n ∧ i = .int .i64 k ∧ Below w.heap.size w wr) (fun i _ => n - (intOf i).toNat)
  case atStart => exact ⟨0, by omega, rfl, Below.refl _ _⟩
  case round =>
    obtain ⟨k, hk, rfl, hbe⟩ := hrel
    have HBE := Lib.hid hbe
    clear hbe
    by_cases hkl : k < n
    · obtain ⟨x, hx⟩ := HX.out k hkl
      obtain ⟨g, off, xs, Fk, rfl, _, rc, _, hc⟩ := (HV.out.kept HBE.out).get hx
      obtain ⟨g2, off2, ys, Gk, rfl, _, rd, _, hd⟩ := (HU.out.kept HBE.out).get hx
      simp only [show Rep.int.size = 1 from rfl, Nat.mul_one] at hc hd
      obtain ⟨rfl, _⟩ := id rc
      obtain ⟨rfl, _⟩ := id rd
      have c0 := hc 0 _ rfl
      have d0 := hd 0 _ rfl
      simp only [Nat.add_zero] at c0 d0
      clear hc hd rc rd hx
      go_wp2
      go_quiet (fail)
      go_wp2
      go_roundw
      case rel => exact ⟨k + 1, by omega, by go_num, ⟨HBE.out.os, HBE.out.tape, HBE.out.output, HBE.out.size, HBE.out.block⟩⟩
      case measure => simp [intOf]; omega
    · obtain rfl : k = n := by omega
      go_wp2
      go_ret
      exact ⟨rfl, HBE.out⟩
end Go.Proofs.YtcgmlhlnkbjfnaaDoor

/- The laws' markIntS. -/
namespace Go.Proofs.YtcgmlhlnkbjfnaaDoor
set_option maxRecDepth 100000
open Go.RowKit Go.Sort
set_option linter.unusedVariables false
set_option linter.unusedSimpArgs false

set_option maxHeartbeats 2000000 in
theorem markIntS_any (v : Value) (l : List Int) (z : Int) (k0 : Nat) (hz : z = (k0 : Int)) (base : Nat) (F0 : Addr → Prop) (w : World) (hF0 : ∀ a, F0 a → base ≤ a.block) (hk : k0 + cntRow Rep.int l ≤ 1000000000) (h1k : 1 ≤ k0) (hv0 : RowRd Rep.int true w v l F0) :
    Calls Tryd.prog 15 #[v, .int .i64 z] w fun e w' => e = .returned (.int .i64 ((k0 + cntRow Rep.int l : Nat) : Int)) ∧ RowRd Rep.int true w' v (labRow Rep.int k0 l) F0 ∧ Unch F0 w w' ∧ Below base w w' := by
  subst hz
  have hv := hv0.tight
  have HG : Hid (∀ a, (F0 a ∧ a.block < w.heap.size) → F0 a) := fun _ h => h.1
  have HFS : Hid (∀ a, (F0 a ∧ a.block < w.heap.size) → a.block < w.heap.size) := fun _ h => h.2
  have HFB : Hid (∀ a, (F0 a ∧ a.block < w.heap.size) → base ≤ a.block) := fun a h => hF0 a h.1
  generalize hF : (fun a => F0 a ∧ a.block < w.heap.size) = F at hv
  have HG : Hid (∀ a, F a → F0 a) := by subst hF; exact HG
  have HFS : Hid (∀ a, F a → a.block < w.heap.size) := by subst hF; exact HFS
  have HFB : Hid (∀ a, F a → base ≤ a.block) := by subst hF; exact HFB
  clear hF hF0
  have hmx := hv.max
  have HMX := Lib.hid hmx
  obtain ⟨A, cap, rfl⟩ := hv.form
  have HV := Lib.hid hv
  clear hv hv0
  have HX : Hid (∀ k, k < l.length → ∃ x, l[k]? = some x) := fun k hk => ⟨_, List.getElem?_eq_getElem hk⟩
  have HEND : Hid (labTo Rep.int k0 l l.length = labRow Rep.int k0 l ∧ cntTo Rep.int l l.length = cntRow Rep.int l) := ⟨labTo_all _ _ _, cntTo_all _ _⟩
  have HLE := Lib.hid (cntTo_le Rep.int l)
  have H0 := Lib.hid (labTo_zero Rep.int k0 l)
  have H00 : Hid (cntTo Rep.int l 0 = 0) := rfl
  generalize hll : l.length = n at *
  clear hll
  generalize cntRow Rep.int l = cr at *
  go_enter Tryd.func15, Tryd.ntmps15
  go_wp2
  go_loopw [1, 5] (fun q i wr => ∃ (k : Nat), k ≤ n ∧ i = .int .i64 k ∧ q = .int .i64 ((k0 + cntTo Rep.int l k : Nat) : Int) ∧ RowRd Rep.int true wr (.slice A n cap) (labTo Rep.int k0 l k) F ∧ Unch F w wr ∧ Below base w wr) (fun _ i _ => n - (intOf i).toNat)
  case atStart => exact ⟨0, by omega, rfl, by rw [H00.out]; rfl, by rw [H0.out]; exact HV.out, Unch.refl _ _, Below.refl _ _⟩
  case round =>
    obtain ⟨k, hk, rfl, rfl, hrow, hun, hbe⟩ := hrel
    have HUN := Lib.hid hun
    have HBE := Lib.hid hbe
    clear hun hbe
    by_cases hkl : k < n
    · obtain ⟨x, hx⟩ := HX.out k hkl
      have hcs := cntTo_step Rep.int l k hx
      have hle := HLE.out (k + 1)
      have HLS := Lib.hid (labTo_step Rep.int k0 l k hx)
      obtain ⟨g, off, xs, Fk, rfl, hrd, hel, hFk, hcl, hput⟩ := hrow.open (labTo_at Rep.int k0 l k hx)
      simp only [show Rep.int.size = 1 from rfl, Nat.mul_one] at hel hcl hput
      rw [show Rep.int.cnt x = 1 from rfl] at hcs
      have HCL := Lib.hid hcl
      have HFK := Lib.hid hFk
      have HPUT := Lib.hid hput
      have HCS := Lib.hid hcs
      have hcb0 : k0 + cntTo Rep.int l k + (1) ≤ 1000000000 := by omega
      clear hrow hcl hFk hput hcs
      generalize hc : k0 + cntTo Rep.int l k = c at *
      have hcb : c + 1 ≤ 1000000001 := by omega
      have HC := Lib.hid hc
      clear hc
      obtain ⟨rfl, _⟩ := id hrd
      clear hrd
      have c0 := hel.cell 0 rfl
      have f0 := hel.free 0 (by decide)
      have hs0 := hel.set 0 (by decide) (.int .i64 (((c : Nat) : Int)))
      simp only [Nat.add_zero] at c0 f0 hs0
      simp only [List.set] at hs0
      have HUE := Lib.hid (HUN.out.trans (Unch.set (p := ⟨g, off + k, none⟩) (HCL.out 0 (by decide)).1 (.int .i64 (((c : Nat) : Int)))))
      have HBB := Lib.hid (HBE.out.setCell (p := ⟨g, off + k, none⟩) (HFB.out _ (HCL.out 0 (by decide)).1) (.int .i64 (((c : Nat) : Int))))
      have HEE := Lib.hid hs0
      clear hs0 hel
      go_wp2
      go_roundw
      case rel =>
        refine ⟨k + 1, by omega, by go_num, ?_, ?_, HUE.out, HBB.out⟩
        · have e1 := HCS.out
          have e2 := HC.out
          congr 1
          omega
        · rw [← HLS.out]
          exact (HPUT.out _ _ (Rep.int.lab c x) Fk HEE.out ⟨rfl, (by unfold I64; simp only [Rep.int]; omega)⟩ (fun a h => Or.inl h)).mono (fun a h => h.elim id (HFK.out a))
      case measure => simp [intOf]; omega
    · obtain rfl : k = n := by omega
      rw [HEND.out.1] at hrow
      have HR := Lib.hid (hrow.mono HG.out)
      have HCN := Lib.hid HEND.out.2
      clear hrow
      go_wp2
      go_ret
      exact ⟨ret_i64 (by rw [HCN.out]), HR.out, HUN.out.mono HG.out, HBE.out⟩
end Go.Proofs.YtcgmlhlnkbjfnaaDoor

/- The laws' heldIntS. -/
namespace Go.Proofs.YtcgmlhlnkbjfnaaDoor
set_option maxRecDepth 100000
open Go.RowKit Go.Sort
set_option linter.unusedVariables false
set_option linter.unusedSimpArgs false

set_option maxHeartbeats 1000000 in
theorem heldIntS_any (v : Value) (l : List Int) (z : Int) (k0 : Nat) (hz : z = (k0 : Int)) (F : Addr → Prop) (w : World) (hk : k0 + cntRow Rep.int l ≤ 1000000000) (h1k : 1 ≤ k0) (hv : RowRd Rep.int false w v (labRow Rep.int k0 l) F) :
    Calls Tryd.prog 16 #[v, .int .i64 z] w fun e w' => e = .returned (.int .i64 ((k0 + cntRow Rep.int l : Nat) : Int)) ∧ Below w.heap.size w w' := by
  subst hz
  have hmx := hv.max
  rw [labRow_len] at hmx
  obtain ⟨A, cap, rfl⟩ := hv.form
  rw [labRow_len]
  rw [labRow_len] at hv
  have HV := Lib.hid hv
  clear hv
  have HX : Hid (∀ k, k < l.length → ∃ x, l[k]? = some x) := fun k hk => ⟨_, List.getElem?_eq_getElem hk⟩
  have HEND : Hid (cntTo Rep.int l l.length = cntRow Rep.int l) := cntTo_all _ _
  have HLE := Lib.hid (cntTo_le Rep.int l)
  have H00 : Hid (cntTo Rep.int l 0 = 0) := rfl
  generalize hll : l.length = n at *
  clear hll
  generalize cntRow Rep.int l = cr at *
  go_enter Tryd.func16, Tryd.ntmps16
  go_wp2
  go_loopw [1, 5] (fun q i wr => ∃ (k : Nat), k ≤ n ∧ i = .int .i64 k ∧ q = .int .i64 ((k0 + cntTo Rep.int l k : Nat) : Int) ∧ Below w.heap.size w wr) (fun _ i _ => n - (intOf i).toNat)
  case atStart => exact ⟨0, by omega, rfl, by rw [H00.out]; rfl, Below.refl _ _⟩
  case round =>
    obtain ⟨k, hk, rfl, rfl, hbe⟩ := hrel
    have HBE := Lib.hid hbe
    clear hbe
    by_cases hkl : k < n
    · obtain ⟨x, hx⟩ := HX.out k hkl
      have hcs := cntTo_step Rep.int l k hx
      have hle := HLE.out (k + 1)
      obtain ⟨g, off, xs, Fk, rfl, _, hrd, _, hc⟩ := (HV.out.kept HBE.out).get (labRow_at Rep.int k0 l k hx)
      simp only [show Rep.int.size = 1 from rfl, Nat.mul_one] at hc
      rw [show Rep.int.cnt x = 1 from rfl] at hcs
      have HCS := Lib.hid hcs
      have hcb0 : k0 + cntTo Rep.int l k + (1) ≤ 1000000000 := by omega
      clear hcs
      generalize hcc : k0 + cntTo Rep.int l k = c at *
      have hcb : c + 1 ≤ 1000000001 := by omega
      have HC := Lib.hid hcc
      clear hcc
      obtain ⟨rfl, _⟩ := id hrd
      clear hrd hx
      have c0 : wr.cell? ⟨g, off + k, none⟩ = some (.int .i64 (((c : Nat) : Int))) := hc 0 _ rfl
      have HBB := Lib.hid HBE.out
      clear hc
      go_wp2
      go_roundw
      case rel =>
        refine ⟨k + 1, by omega, by go_num, ?_, HBB.out⟩
        have e1 := HCS.out
        have e2 := HC.out
        congr 1
        omega
      case measure => simp [intOf]; omega
    · obtain rfl : k = n := by omega
      have HCN := Lib.hid HEND.out
      go_wp2
      go_ret
      exact ⟨ret_i64 (by rw [HCN.out]), HBE.out⟩
end Go.Proofs.YtcgmlhlnkbjfnaaDoor
