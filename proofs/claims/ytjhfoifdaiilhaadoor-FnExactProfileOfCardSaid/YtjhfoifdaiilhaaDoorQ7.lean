/- Merged: Tt9 TzLinkS TzCandidate TeLink TeLinkS TeCandidate ViolationsOfWalk OpS AppS. -/
import Derived.Test.YtjhfoifdaiilhaaDoorQ6
import Derived.Test.YtjhfoifdaiilhaaDoorQ1
import Derived.WalkKit
import Derived.BigQuiet
import Derived.Lib.QuietBelow
import Derived.Test.YtjhfoifdaiilhaaDoorRows
import Derived.Test.YtjhfoifdaiilhaaDoorQ5
import Derived.Deep.RegionWith
import Derived.Deep.DeepCutAuto
import Derived.Outline
import Derived.Maps.AppendAt
import Derived.Lib.Hide
import Derived.Laws.Rows
/- The laws' toCandidate, with the capacity of the row that it lays. -/
namespace Go.Proofs.YtjhfoifdaiilhaaDoor
set_option maxRecDepth 100000
open Go.RowKit Go.Sort
set_option linter.unusedVariables false
set_option linter.unusedSimpArgs false

def OwnPostC {α : Type} (E : Rep α) (l : List α) (w : World) (e : Ending) (w' : World) : Prop := ∃ A, e = .returned (.slice A l.length l.length) ∧ RowRd E true w' (.slice A l.length l.length) l (fun a => w.heap.size ≤ a.block) ∧ Below w.heap.size w w'
set_option maxHeartbeats 2000000 in
theorem toLinkS_cap (v : Value) (l : List DLink) (F : Addr → Prop) (w : World) (hm : szRow rLink l ≤ 1048576) (hv : RowRd rLink false w v l F) :
    Calls Tryd.prog 37 #[v] w (OwnPostC rLink l w) := by
  have hml := Nat.le_trans (szRow_len rLink l) hm
  obtain ⟨A, cap, rfl⟩ := hv.form
  have HV := Lib.hid hv
  have HSZ : Hid (∀ k x, l[k]? = some x → rLink.sz x ≤ 1048576) := fun k x h => Nat.le_trans (szRow_at _ _ _ h) hm
  clear hv hm
  have HX : Hid (∀ k, k < l.length → ∃ x, l[k]? = some x) := fun k hk => ⟨_, List.getElem?_eq_getElem hk⟩
  have H0 := Lib.hid (cpTo_zero zLink l)
  have HA := Lib.hid (cpTo_all zLink l)
  have HAT := Lib.hid (cpTo_at zLink l)
  have HST : Hid (∀ k x, l[k]? = some x → (cpTo zLink l k).set k x = cpTo zLink l (k + 1)) := fun k x h => cpTo_step _ _ _ h
  have HP : Hid (∀ (A : Option Addr) (w' : World), RowRd rLink true w' (.slice A l.length l.length) l (fun a => w.heap.size ≤ a.block) → Below w.heap.size w w' → OwnPostC rLink l w (.returned (.slice A l.length l.length)) w') := fun u w' h1 h2 => ⟨u, rfl, h1, h2⟩
  generalize hll : l.length = n at *
  clear hll
  obtain ⟨i0, hi, hz0, hz1, hz2⟩ := info_parts Tryd.infoTLink
  go_enter Tryd.func37, Tryd.ntmps37
  go_wp2_with (at_make; refine wpList_make_full _ rfl _ _ 27 rfl w.heap.size 62 i0 (.agg #[.int .u8 0, .int .u8 0]) 2 Tryd.underlying27 hi hz0 hz1 .i64 .i64 _ _ n rfl rfl rfl rfl (by rw [hz2]; omega) (by unfold maxLen; omega) (Nat.le_refl _) ?_; intro w1 hown1 hgrow1)
  have hb1 : Below w.heap.size w w1 := (Below.refl _ _).grown hgrow1 (Nat.le_refl _) (fun _ h => by cases h)
  have HO1 : Hid (RowRd rLink true w1 (.slice (some ⟨w.heap.size, 0, none⟩) n n) (cpTo zLink l 0) (fun a => w.heap.size ≤ a.block)) := by
    unfold Hid
    rw [H0.out]
    rw [show (Value.cells (.agg #[.int .u8 0, .int .u8 0])) = #[.int .u8 0, .int .u8 0] from rfl] at hown1
    have hlr : (List.replicate n (zLink : DLink)).length = n := List.length_replicate
    refine (RowRd.of_flat (E := rLink) (l := List.replicate n zLink) (base := w.heap.size) (e := 62) (cells := (madeCells #[.int .u8 0, .int .u8 0] (n * 2)).toList) (by rw [hlr]; exact hown1) (by rw [hlr]; omega) ?_).mono (fun a ha => ha.1)
    intro k x hk
    rw [List.getElem?_replicate] at hk
    split at hk
    · cases hk
      refine ⟨[.int .u8 0, .int .u8 0], ?_, rLink_mk (x := zLink) ⟩
      intro j u hj
      have hjn : j < 2 := (List.getElem?_eq_some_iff.1 hj).1
      rw [show rLink.size = 2 from rfl, made_at _ _ _ (by omega) (by decide), show (#[.int .u8 0, .int .u8 0] : Array Value).size = 2 from rfl, show (k * 2 + j) % 2 = j by omega]
      simpa using hj
    · cases hk
  have HB1 := Lib.hid hb1
  clear hown1 hgrow1 hb1
  go_wp2
  go_loopw [4] (fun i wr => ∃ (k : Nat), k ≤ n ∧ i = .int .i64 k ∧ RowRd rLink true wr (.slice (some ⟨w.heap.size, 0, none⟩) n n) (cpTo zLink l k) (fun a => w.heap.size ≤ a.block) ∧ Below w.heap.size w wr) (fun i _ => n - (intOf i).toNat)
  case atStart => exact ⟨0, by omega, rfl, HO1.out, HB1.out⟩
  case round =>
    obtain ⟨k, hk, rfl, hrow, hbe⟩ := hrel
    have HBE := Lib.hid hbe
    clear hbe
    by_cases hkl : k < n
    · obtain ⟨x, hx⟩ := HX.out k hkl
      have HSX := Lib.hid (HST.out k x hx)
      have hszx := HSZ.out k x hx
      obtain ⟨sg, so, xs, Fs, rfl, _, hsr, _, hsc⟩ := (HV.out.kept HBE.out).get hx
      rw [show rLink.size = 2 from rfl] at hsc
      have ee := rLink_rd hsr
      subst ee
      have c0 := hsc 0 _ rfl
      have c1 := hsc 1 _ rfl
      simp only [Nat.add_zero] at c0
      clear hsc hsr
      have hrow2 := hrow.tight
      clear hrow
      have HC := Lib.hid (toLink_any x Fs wr hszx)
      have HR2 := Lib.hid hrow2
      clear hrow2
      go_wp2_with fail
      refine HC.out.mono ?_
      rintro e w2 ⟨rfl, hb2⟩
      have hrow2 := HR2.out.kept hb2
      obtain ⟨g, off, ys, Fk, hge, hrd, hel, hFk, hcl, hput⟩ := hrow2.open (HAT.out k hkl)
      cases hge
      rw [show rLink.size = 2 from rfl] at hel hcl hput
      simp only [Nat.zero_add] at hel hput
      have ee := rLink_rd hrd
      subst ee
      have d0 := hel.cell 0 rfl
      have f0 := hel.free 0 (by decide)
      have d1 := hel.cell 1 rfl
      have f1 := hel.free 1 (by decide)
      simp only [Nat.zero_add, Nat.add_zero] at d0 f0 d1 f1
      have hs0 := hel.set 0 (by decide) (.int .u8 (x.In.toNat : Int))
      simp only [List.set, Nat.zero_add, Nat.add_zero] at hs0
      have hs1 := hs0.set 1 (by decide) (.int .u8 (x.Out.toNat : Int))
      simp only [List.set, Nat.zero_add, Nat.add_zero] at hs1
      have HBB := Lib.hid (((HBE.out.trans (hb2.mono HBE.out.size)).setCell (p := ⟨w.heap.size, k * 2, none⟩) (Nat.le_refl _) (.int .u8 (x.In.toNat : Int))).setCell (p := ⟨w.heap.size, k * 2 + 1, none⟩) (Nat.le_refl _) (.int .u8 (x.Out.toNat : Int)))
      have HNEW := Lib.hid ((hput _ _ x (fun _ => False) hs1 (rLink_mk (x := x) ) (fun a h => h.elim)).mono (fun a h => h.elim (fun h => h.1) (fun h => h.elim)))
      rw [HSX.out] at HNEW
      clear hput hel hs0 hs1 hb2 hrd hFk hcl
      try clear hrow2
      go_wp2
      go_roundw
      case rel => exact ⟨k + 1, by omega, by go_num, HNEW.out, HBB.out⟩
      case measure => simp [intOf]; omega
    · obtain rfl : k = n := by omega
      rw [HA.out] at hrow
      have HRR := Lib.hid hrow
      clear hrow
      go_wp2
      go_ret
      exact HP.out _ _ HRR.out HBE.out
set_option maxHeartbeats 8000000 in
theorem toCandidate_cap (x : DCandidate) (F : Addr → Prop) (w : World) (v0 : Value) (hv0 : RowRd rLink false w v0 x.Links F) (hm : rCandidate.sz x ≤ 1048576) :
    Calls Tryd.prog 8 #[.agg #[v0]] w fun e w' => ∃ A0, e = .returned (.agg #[.slice A0 x.Links.length x.Links.length]) ∧ RowRd rLink true w' (.slice A0 x.Links.length x.Links.length) x.Links (fun a => w.heap.size ≤ a.block) ∧ Below w.heap.size w w' := by
  have HT0 : Hid (∀ W, Below w.heap.size w W → Calls Tryd.prog 37 #[v0] W (OwnPostC rLink x.Links W)) := fun W hW => toLinkS_cap v0 _ F W (Nat.le_trans (by rw [rCandidate_sz]; omega) hm) (hv0.kept hW)
  clear hv0
  clear hm
  generalize x.Links = y0 at *
  go_enter Tryd.func8, Tryd.ntmps8
  go_wp2_with fail
  refine (HT0.out _ ((((Below.refl _ _).alloc (Nat.le_refl _) _).alloc (by simp) _).alloc (by simp; omega) _)).mono ?_
  rintro e w1 ⟨A0, rfl, hq0, hb0⟩
  have HS : InC w1 w.heap.size #[v0] 24 := (hb0.block _ (by simp; omega)).trans ((Below.heap_alloc _ _ _ (by simp; omega)).trans (box1 _ _ _))
  have HR : InC w1 (w.heap.size + 1) #[.slice none 0 0] 29 := (hb0.block _ (by simp)).trans ((Below.heap_alloc _ _ _ (by simp)).trans (box2 _ _ _))
  have HO : InC w1 (w.heap.size + 1 + 1) #[.slice none 0 0] 29 := (hb0.block _ (by simp)).trans (by have := heap_alloc_new ((w.alloc (.cells #[v0] 24)).alloc (.cells #[.slice none 0 0] 29)) (.cells #[.slice none 0 0] 29); rwa [World.size_alloc, World.size_alloc] at this)
  have HB : Hid (Below w.heap.size w w1) := ((((Below.refl _ _).alloc (Nat.le_refl _) _).alloc (by simp) _).alloc (by simp; omega) _).trans (hb0.mono (by simp; omega))
  have HQ0 : Hid (RowRd rLink true w1 (.slice A0 y0.length y0.length) y0 (fun a => w.heap.size ≤ a.block ∧ w.heap.size + 1 + 1 < a.block)) := hq0.mono (fun a ha => by simp at ha; omega)
  clear hb0 hq0
  have c0 := InC.cell HO 0 rfl
  have f0 := InC.free HO 0
  replace HO : InC (World.setCell w1 ⟨w.heap.size + 1 + 1, 0, none⟩ ((.slice A0 y0.length y0.length))) (w.heap.size + 1 + 1) #[(.slice A0 y0.length y0.length)] 29 := heap_setCell_same _ _ _ _ _ _ HO
  replace HS := InC.other HS (p := ⟨w.heap.size + 1 + 1, 0, none⟩) (by simp; omega) ((.slice A0 y0.length y0.length))
  replace HR := InC.other HR (p := ⟨w.heap.size + 1 + 1, 0, none⟩) (by simp) ((.slice A0 y0.length y0.length))
  replace HB := Lib.hid (HB.out.setCell (p := ⟨w.heap.size + 1 + 1, 0, none⟩) (by simp; omega) ((.slice A0 y0.length y0.length)))
  replace HQ0 := Lib.hid (HQ0.out.apart (Unch.set (F := fun a => a = ⟨w.heap.size + 1 + 1, 0, none⟩) rfl ((.slice A0 y0.length y0.length))) (fun a ha e => by subst e; simp at ha))
  have o0 := InC.cell HO 0 rfl
  have r0 := InC.cell HR 0 rfl
  have q0 := InC.free HR 0
  replace HR : InC (World.setCell (World.setCell w1 ⟨w.heap.size + 1 + 1, 0, none⟩ ((.slice A0 y0.length y0.length))) ⟨w.heap.size + 1, 0, none⟩ ((.slice A0 y0.length y0.length))) (w.heap.size + 1) #[(.slice A0 y0.length y0.length)] 29 := heap_setCell_same _ _ _ _ _ _ HR
  replace HB := Lib.hid (HB.out.setCell (p := ⟨w.heap.size + 1, 0, none⟩) (by simp) ((.slice A0 y0.length y0.length)))
  replace HQ0 := Lib.hid (HQ0.out.apart (Unch.set (F := fun a => a = ⟨w.heap.size + 1, 0, none⟩) rfl ((.slice A0 y0.length y0.length))) (fun a ha e => by subst e; simp at ha; try omega))
  have HRR := Lib.hid HR
  clear HR HO HS
  go_wp2
  refine bodyPost_ret (v := .agg #[(.slice A0 y0.length y0.length)]) (results_cell_row rfl _ _ (w.heap.size + 1) 29 _ (0, 0) _ rfl HRR.out Tryd.underlying29 rfl (by kernel_rfl)) rfl ⟨A0, rfl, HQ0.out.mono (fun a ha => ha.1), HB.out⟩
end Go.Proofs.YtjhfoifdaiilhaaDoor

/- The laws' szLinkS. -/
namespace Go.Proofs.YtjhfoifdaiilhaaDoor
set_option maxRecDepth 100000
open Go.RowKit Go.Sort
set_option linter.unusedVariables false
set_option linter.unusedSimpArgs false

theorem szLinkS_any (v : Value) (l : List DLink) (left : Int) (F : Addr → Prop) (w : World) (h0 : 0 ≤ left) (h1 : left ≤ 1048576) (hv : RowRd rLink false w v l F) :
    Calls Tryd.prog 24 #[v, .int .i64 left] w fun e w' => (∃ z : Int, e = .returned (.int .i64 z) ∧ (z < 0 ∨ z + (szRow rLink l : Nat) = left ∧ 0 ≤ z)) ∧ Below w.heap.size w w' := by
  have HS : Hid (szRow rLink l = l.length) := szRow_flat _ (fun _ => rfl) l
  have hmx := hv.max
  obtain ⟨A, cap, rfl⟩ := hv.form
  clear hv
  generalize l.length = n at *
  go_enter Tryd.func24, Tryd.ntmps24
  by_cases h : left - (n : Int) < 0
  · go_wp2
    go_ret
    exact ⟨⟨-1, rfl, Or.inl (by omega)⟩, Below.refl _ _⟩
  · go_wp2
    go_ret
    exact ⟨⟨_, rfl, Or.inr ⟨by rw [HS.out]; omega, by omega⟩⟩, Below.refl _ _⟩
end Go.Proofs.YtjhfoifdaiilhaaDoor

/- The laws' szCandidate. -/
namespace Go.Proofs.YtjhfoifdaiilhaaDoor
set_option maxRecDepth 100000
open Go.RowKit Go.Sort
set_option linter.unusedVariables false
set_option linter.unusedSimpArgs false

theorem szCandidate_any (x : DCandidate) (v0 : Value) (left : Int) (F : Addr → Prop) (w : World) (h0 : 0 ≤ left) (h1 : left ≤ 1048576) (hv : RowRd rLink false w v0 x.Links F) :
    Calls Tryd.prog 6 #[.agg #[v0], .int .i64 left] w fun e w' => (∃ z : Int, e = .returned (.int .i64 z) ∧ (z < 0 ∨ z + (rCandidate.sz x : Nat) = left ∧ 0 ≤ z)) ∧ Below w.heap.size w w' := by
  have HS : Hid (rCandidate.sz x = szRow rLink x.Links) := by unfold Hid; rw [rCandidate_sz]; try omega
  have HC : Hid (∀ W, Below w.heap.size w W → Calls Tryd.prog 24 #[v0, .int .i64 left] W fun e w' => (∃ z : Int, e = .returned (.int .i64 z) ∧ (z < 0 ∨ z + (szRow rLink x.Links : Nat) = left ∧ 0 ≤ z)) ∧ Below W.heap.size W w') := fun W hW => szLinkS_any v0 _ left F W h0 h1 (hv.kept hW)
  clear hv
  generalize rCandidate.sz x = n at *
  generalize szRow rLink x.Links = m at *
  go_enter Tryd.func6, Tryd.ntmps6
  go_wp2_with fail
  refine (HC.out _ ((Below.refl _ _).alloc (Nat.le_refl _) _)).mono ?_
  rintro e w1 ⟨⟨z, rfl, hz⟩, hb⟩
  have HB := Lib.hid (((Below.refl w.heap.size w).alloc (Nat.le_refl _) _).trans (hb.mono (by simp)))
  clear hb
  by_cases h : z < 0
  · go_wp2
    go_ret
    exact ⟨⟨-1, rfl, Or.inl (by omega)⟩, HB.out⟩
  · have HZ := Lib.hid (hz.resolve_left h)
    clear hz
    go_wp2
    go_ret
    exact ⟨⟨z, rfl, Or.inr (by rw [HS.out]; exact HZ.out)⟩, HB.out⟩
end Go.Proofs.YtjhfoifdaiilhaaDoor

/- The laws' eqLink. -/
namespace Go.Proofs.YtjhfoifdaiilhaaDoor
set_option maxRecDepth 100000
open Go.RowKit Go.Sort
set_option linter.unusedVariables false
set_option linter.unusedSimpArgs false

theorem eqLink_any (x : DLink) (F G : Addr → Prop) (w : World) :
    Calls Tryd.prog 72 #[.agg #[.int .u8 (x.In.toNat : Int), .int .u8 (x.Out.toNat : Int)], .agg #[.int .u8 (x.In.toNat : Int), .int .u8 (x.Out.toNat : Int)]] w fun e w' => e = .returned (.bool true) ∧ Below w.heap.size w w' := by
  generalize x.In = y0 at *
  generalize x.Out = y1 at *
  go_enter Tryd.func72, Tryd.ntmps72
  go_wp2
  go_ret
  exact ⟨rfl, ((Below.refl _ _).alloc (Nat.le_refl _) _).alloc (by simp) _⟩
end Go.Proofs.YtjhfoifdaiilhaaDoor

/- The laws' eqLinkS. -/
namespace Go.Proofs.YtjhfoifdaiilhaaDoor
set_option maxRecDepth 100000
open Go.RowKit Go.Sort
set_option linter.unusedVariables false
set_option linter.unusedSimpArgs false

set_option maxHeartbeats 1000000 in
theorem eqLinkS_any (v u : Value) (l : List DLink) (F G : Addr → Prop) (w : World) (hv : RowRd rLink false w v l F) (hu : RowRd rLink false w u l G) :
    Calls Tryd.prog 40 #[v, u] w fun e w' => e = .returned (.bool true) ∧ Below w.heap.size w w' := by
  obtain ⟨A, cap, rfl⟩ := hv.form
  obtain ⟨A2, cap2, rfl⟩ := hu.form
  have hmx := hv.max
  have HV := Lib.hid hv
  have HU := Lib.hid hu
  clear hv hu
  have HX : Hid (∀ k, k < l.length → ∃ x, l[k]? = some x) := fun k hk => ⟨_, List.getElem?_eq_getElem hk⟩
  generalize hll : l.length = n at *
  clear hll
  go_enter Tryd.func40, Tryd.ntmps40
  go_wp2
  go_loopw [5] (fun i wr => ∃ (k : Nat), k ≤ n ∧ i = .int .i64 k ∧ Below w.heap.size w wr) (fun i _ => n - (intOf i).toNat)
  case atStart => exact ⟨0, by omega, rfl, Below.refl _ _⟩
  case round =>
    obtain ⟨k, hk, rfl, hbe⟩ := hrel
    have HBE := Lib.hid hbe
    clear hbe
    by_cases hkl : k < n
    · obtain ⟨x, hx⟩ := HX.out k hkl
      obtain ⟨g, off, xs, Fk, rfl, _, rc, _, hc⟩ := (HV.out.kept HBE.out).get hx
      obtain ⟨g2, off2, ys, Gk, rfl, _, rd, _, hd⟩ := (HU.out.kept HBE.out).get hx
      have eec := rLink_rd rc
      subst eec
      have eed := rLink_rd rd
      subst eed
      rw [rLink_size] at hc hd
      have c0 := fun d os => cell_regrown (hc 0 _ rfl) d os
      have c1 := fun d os => cell_regrown (hc 1 _ rfl) d os
      have d0 := fun d os => cell_regrown (hd 0 _ rfl) d os
      have d1 := fun d os => cell_regrown (hd 1 _ rfl) d os
      clear hc hd
      simp only [Nat.add_zero] at c0 d0
      have cS : ∀ d os, Calls Tryd.prog 72 #[.agg #[.int .u8 (x.In.toNat : Int), .int .u8 (x.Out.toNat : Int)], .agg #[.int .u8 (x.In.toNat : Int), .int .u8 (x.Out.toNat : Int)]] (grow (redrawn wr d) os) fun e w'' => e = .returned (.bool true) ∧ ∃ p : Regrown, w'' = grow (redrawn wr p.d) p.os :=
        fun d os => Calls.regrown_of (eqLink_any x Fk Gk _)
      clear  hx
      generalize x.In = y0 at *
      generalize x.Out = y1 at *
      go_wp2
      refine wp_region_quiet_below (by kernel_rfl) (by kernel_rfl) ?_
      repeat (quiet_step (exact cS _ _))
      refine wpQuiet_nil ?_
      intro _ hw'
      obtain ⟨⟨dq, osq⟩, hw''⟩ := hw'
      subst hw''
      go_wp2
      go_roundw
      case rel => exact ⟨k + 1, by omega, by go_num, HBE.out.trans ((below_regrown wr dq osq).mono HBE.out.size)⟩
      case measure => simp [intOf]; omega
    · obtain rfl : k = n := by omega
      go_wp2
      go_ret
      exact ⟨rfl, HBE.out⟩
end Go.Proofs.YtjhfoifdaiilhaaDoor

/- The laws' eqCandidate. -/
namespace Go.Proofs.YtjhfoifdaiilhaaDoor
set_option maxRecDepth 100000
open Go.RowKit Go.Sort
set_option linter.unusedVariables false
set_option linter.unusedSimpArgs false

theorem eqCandidate_any (x : DCandidate) (F G : Addr → Prop) (w : World) (v0 u0 : Value) (hv0 : RowRd rLink false w v0 x.Links F) (hu0 : RowRd rLink false w u0 x.Links G) :
    Calls Tryd.prog 10 #[.agg #[v0], .agg #[u0]] w fun e w' => e = .returned (.bool true) ∧ Below w.heap.size w w' := by
  have HR0 : Hid (∀ W, Below w.heap.size w W → Calls Tryd.prog 40 #[v0, u0] W fun e w' => e = .returned (.bool true) ∧ Below W.heap.size W w') := fun W hW => eqLinkS_any v0 u0 _ F G W (hv0.kept hW) (hu0.kept hW)
  clear hv0 hu0
  go_enter Tryd.func10, Tryd.ntmps10
  go_wp2_with fail
  refine (HR0.out _ (((Below.refl _ _).alloc (Nat.le_refl _) _).alloc (by simp) _)).mono ?_
  rintro e w1 ⟨rfl, hb1⟩
  have HB1 : Hid (Below w.heap.size w w1) := (((Below.refl _ _).alloc (Nat.le_refl _) _).alloc (by simp) _).trans (hb1.mono (by simp; try omega))
  have hA1 : w1.heap[w.heap.size]? = some (.cells #[v0] 29 (0, 0)) := (hb1.block _ (by simp; try omega)).trans (box1 _ _ _)
  have hB1 : w1.heap[w.heap.size + 1]? = some (.cells #[u0] 29 (0, 0)) := (hb1.block _ (by simp; try omega)).trans (box2 _ _ _)
  clear hb1
  go_wp2
  go_ret
  exact ⟨rfl, HB1.out⟩
end Go.Proofs.YtjhfoifdaiilhaaDoor

/- The walk of FnExactViolationsOf: it returns true at every argument. -/
namespace Go.Proofs.YtjhfoifdaiilhaaDoor.fnExactViolationsOf
set_option maxRecDepth 100000
open Go.RowKit Go.Proofs.YtjhfoifdaiilhaaDoor
set_option linter.unusedVariables false

set_option maxHeartbeats 8000000 in
theorem walk (w : World) (hT : FeatTab w) (s : ByteArray) (ws : s.size ≤ maxLen) (x : DCandidate) (F : Addr → Prop) (v : Value) (hv : RowRd rLink false w v x.Links F) :
    Calls Tryd.prog 3 #[.string s, .agg #[v]] w fun e w' => e = .returned (.bool true) ∧ Below w.heap.size w w' := by
  obtain ⟨A, cap, rfl⟩ := hv.form
  have HV := Lib.hid hv.tight
  have HTW := Lib.hid hT
  have HWS := Lib.hid ws
  have ws2 : s.size ≤ 9223372036854775807 := by unfold maxLen at ws; omega
  clear hv hT ws
  have HB := Lib.hid (Below.refl w.heap.size w)
  go_enter Tryd.func3, Tryd.ntmps3
  by_cases hbig : (1048576 : Int) < (s.size : Int)
  · go_wp2
    go_ret
    exact ⟨rfl, HB.out.alloc HB.out.size _⟩
  have HC : Hid (∀ W, Below w.heap.size w W → Calls Tryd.prog 6 #[.agg #[.slice A x.Links.length cap], .int .i64 1048576] W fun e w' => (∃ z : Int, e = .returned (.int .i64 z) ∧ (z < 0 ∨ z + (rCandidate.sz x : Nat) = 1048576 ∧ 0 ≤ z)) ∧ Below W.heap.size W w') := fun W hW => szCandidate_any x _ 1048576 _ W (by omega) (by omega) (HV.out.kept hW)
  go_wp2_with fail
  refine (HC.out _ (by first | exact Below.refl _ _ | exact (Below.refl _ _).alloc (Nat.le_refl _) _ | exact (Below.refl _ _).drew)).mono ?_
  rintro e w1 ⟨⟨z, rfl, hz⟩, hb⟩
  have hbn : Below w.heap.size w w1 := below_step (by first | exact Below.refl _ _ | exact (Below.refl _ _).alloc (Nat.le_refl _) _ | exact (Below.refl _ _).drew) hb
  have hs1 : Hid (w.heap.size ≤ w1.heap.size) := hbn.size
  replace HV := Lib.hid (HV.out.kept hbn)
  replace HB := Lib.hid (HB.out.trans (hbn.mono HB.out.size))
  have HA : Hid (InC w1 w.heap.size #[.slice A x.Links.length cap] 24) := (hb.block _ (by simp)).trans (heap_alloc_new _ _)
  have HA0 : Hid (w.heap.size < w1.heap.size) := (HA.out.lt : _ < _)
  clear hb hbn HC
  by_cases hneg : z < 0
  case pos =>
    go_wp2
    go_ret
    exact ⟨rfl, HB.out⟩
  have HSZ : Hid (rCandidate.sz x ≤ 1048576) := by unfold Hid; have := hz.resolve_left hneg; omega
  have HFL : Hid (x.Links.length ≤ 1048576) := by unfold Hid; have h1 := HSZ.out; rw [rCandidate_sz] at h1; have := szRow_len rLink x.Links; omega
  clear hz
  have HC : Hid (∀ W, Below w1.heap.size w1 W → Calls Tryd.prog 8 #[.agg #[.slice A x.Links.length cap]] W fun e w' => ∃ u, e = .returned (.agg #[u]) ∧ RowRd rLink true w' u x.Links (fun a => W.heap.size ≤ a.block) ∧ Below W.heap.size W w') := fun W hW => toCandidate_any x _ W _ (HV.out.kept hW) HSZ.out
  have bHA0 := HA.out.cell 0 rfl
  go_wp2_with fail
  refine (HC.out _ (by first | exact Below.refl _ _ | exact (Below.refl _ _).alloc (Nat.le_refl _) _ | exact (Below.refl _ _).drew)).mono ?_
  rintro e w2 ⟨u1, rfl, hq, hb⟩
  clear bHA0
  have hbn : Below w1.heap.size w1 w2 := below_step (by first | exact Below.refl _ _ | exact (Below.refl _ _).alloc (Nat.le_refl _) _ | exact (Below.refl _ _).drew) hb
  have hs2 : Hid (w1.heap.size ≤ w2.heap.size) := hbn.size
  replace HV := Lib.hid (HV.out.kept hbn)
  replace HA := Lib.hid (HA.out.kept hbn)
  replace HB := Lib.hid (HB.out.trans (hbn.mono HB.out.size))
  obtain ⟨Au1, qu1, rfl⟩ := hq.form
  have Hu1 := Lib.hid hq.tight
  clear hb hbn HC hq
  have HC : Hid (∀ W, Below w2.heap.size w2 W → Calls Tryd.prog 7 #[.string s, .agg #[.slice Au1 x.Links.length qu1]] W fun e w' => e = .returned (Value.int .i64 (vioN s x.Links)) ∧ Below W.heap.size W w') := fun W hW => specVio_any s x _ _ W HFL.out (Hu1.out.kept hW).weak
  have bHA0 := HA.out.cell 0 rfl
  go_wp2_with fail
  refine (HC.out _ (by first | exact Below.refl _ _ | exact (Below.refl _ _).alloc (Nat.le_refl _) _ | exact (Below.refl _ _).drew)).mono ?_
  rintro e w3 ⟨rfl, hb⟩
  clear bHA0
  have hbn : Below w2.heap.size w2 w3 := below_step (by first | exact Below.refl _ _ | exact (Below.refl _ _).alloc (Nat.le_refl _) _ | exact (Below.refl _ _).drew) hb
  have hs3 : Hid (w2.heap.size ≤ w3.heap.size) := hbn.size
  replace HV := Lib.hid (HV.out.kept hbn)
  replace HA := Lib.hid (HA.out.kept hbn)
  replace Hu1 := Lib.hid (Hu1.out.kept hbn)
  replace HB := Lib.hid (HB.out.trans (hbn.mono HB.out.size))
  clear hb hbn HC
  have HC : Hid (∀ W, Below w3.heap.size w3 W → Calls Tryd.prog 8 #[.agg #[.slice A x.Links.length cap]] W fun e w' => ∃ A0, e = .returned (.agg #[.slice A0 x.Links.length x.Links.length]) ∧ RowRd rLink true w' (.slice A0 x.Links.length x.Links.length) x.Links (fun a => W.heap.size ≤ a.block) ∧ Below W.heap.size W w') := fun W hW => toCandidate_cap x _ W _ (HV.out.kept hW) HSZ.out
  have bHA0 := HA.out.cell 0 rfl
  go_wp2_with fail
  refine (HC.out _ (by first | exact Below.refl _ _ | exact (Below.refl _ _).alloc (Nat.le_refl _) _ | exact (Below.refl _ _).drew)).mono ?_
  rintro e w4 ⟨Ax0, rfl, hq, hb⟩
  clear bHA0
  have hbn : Below w3.heap.size w3 w4 := below_step (by first | exact Below.refl _ _ | exact (Below.refl _ _).alloc (Nat.le_refl _) _ | exact (Below.refl _ _).drew) hb
  have hs4 : Hid (w3.heap.size ≤ w4.heap.size) := hbn.size
  replace HV := Lib.hid (HV.out.kept hbn)
  replace HA := Lib.hid (HA.out.kept hbn)
  replace Hu1 := Lib.hid (Hu1.out.kept hbn)
  replace HB := Lib.hid (HB.out.trans (hbn.mono HB.out.size))
  have Hx0 := Lib.hid hq.tight
  clear hb hbn HC hq
  have HC : Hid (∀ W, Below w4.heap.size w4 W → Calls Tryd.prog 9 #[.string s, .agg #[.slice Ax0 x.Links.length x.Links.length]] W fun e w' => e = .returned (Value.int .i64 (vioN s x.Links)) ∧ Below W.heap.size W w') := fun W hW => implVio_any s x _ _ _ W HWS.out HFL.out (Nat.le_refl _) (Hx0.out.kept hW).weak (feat_below (feat_below HTW.out HB.out) hW)
  have bHA0 := HA.out.cell 0 rfl
  go_wp2_with fail
  refine (HC.out _ (by first | exact Below.refl _ _ | exact (Below.refl _ _).alloc (Nat.le_refl _) _ | exact (Below.refl _ _).drew)).mono ?_
  rintro e w5 ⟨rfl, hb⟩
  clear bHA0
  have hbn : Below w4.heap.size w4 w5 := below_step (by first | exact Below.refl _ _ | exact (Below.refl _ _).alloc (Nat.le_refl _) _ | exact (Below.refl _ _).drew) hb
  have hs5 : Hid (w4.heap.size ≤ w5.heap.size) := hbn.size
  replace HV := Lib.hid (HV.out.kept hbn)
  replace HA := Lib.hid (HA.out.kept hbn)
  replace Hu1 := Lib.hid (Hu1.out.kept hbn)
  replace Hx0 := Lib.hid (Hx0.out.kept hbn)
  replace HB := Lib.hid (HB.out.trans (hbn.mono HB.out.size))
  have HX : Hid (InC w5 w4.heap.size #[.slice Ax0 x.Links.length x.Links.length] 29) := (hb.block _ (by simp)).trans (heap_alloc_new _ _)
  clear hb hbn HC
  generalize vioN s x.Links = bb at *
  have HT : Hid (∀ W, Below w5.heap.size w5 W → Calls Tryd.prog 8 #[.agg #[.slice A x.Links.length cap]] W fun e w' => ∃ u, e = .returned (.agg #[u]) ∧ RowRd rLink true w' u x.Links (fun a => W.heap.size ≤ a.block) ∧ Below W.heap.size W w') := fun W hW => toCandidate_any x _ W _ (HV.out.kept hW) HSZ.out
  have HE : Hid (∀ (W : World) (u : Value) (G : Addr → Prop), Below w5.heap.size w5 W → RowRd rLink true W u x.Links G → Calls Tryd.prog 10 #[.agg #[.slice Ax0 x.Links.length x.Links.length], .agg #[u]] W fun e w' => e = .returned (.bool true) ∧ Below W.heap.size W w') := fun W u G hW hu => eqCandidate_any x _ _ W _ _ (Hx0.out.kept hW).weak hu.weak
  have HXK : Hid (∀ W : World, Below w5.heap.size w5 W → InC W _ #[.slice Ax0 x.Links.length x.Links.length] 29) := fun W hW => HX.out.kept hW
  have bHA0 := HA.out.cell 0 rfl
  have bHX0 := HX.out.cell 0 rfl
  go_upto_region 12 with fail
  go_region_with (first | (go_simp; go_at_call 8; refine (HT.out _ ((Below.refl _ _).drew)).mono ?_; rintro e wt ⟨ut, rfl, hqt, hbt0⟩; have hbt : Below w5.heap.size w5 wt := below_step ((Below.refl _ _).drew) hbt0; obtain ⟨At, ct, rfl⟩ := hqt.form; have e0 := (HXK.out _ hbt).cell 0 rfl; have HBT := Lib.hid hbt; have HQT := Lib.hid hqt; clear hbt0 hqt hbt) | (go_simp; go_at_call 10; refine (HE.out _ _ _ HBT.out HQT.out).mono ?_; rintro e wz ⟨rfl, hbz0⟩; have HBZ := Lib.hid (below_step HBT.out hbz0); clear hbz0))
  all_goals
    go_wp2
    go_ret
    exact ⟨rfl, HB.out.trans (HBZ.out.mono HB.out.size)⟩
end Go.Proofs.YtjhfoifdaiilhaaDoor.fnExactViolationsOf

/- Texts and rows of texts among a call's arguments. -/
namespace Go.Proofs.YtjhfoifdaiilhaaDoor
set_option maxRecDepth 100000
open Go.ChangeShapes Go.WideShapes Go.RowKit Go.Deep
set_option linter.unusedVariables false

section
variable {H : Type} {enc : TypeId × Value → H} {W : World} {base : Nat} {spare : Nat → Bool} {held : Bool}
theorem opens_str (m : Nat → ByteArray) : Opens enc W base spare held (Rep.str m) 9 := fun fuel cs y h => by
  obtain ⟨s, rfl, _, hw⟩ := DataW.trod_string Tryd.underlying9 h
  exact ⟨[.string s], s, fun _ => False, fun j u h => h, rfl, by unfold maxLen at hw; omega⟩
/-- An argument that is a row of texts. -/
theorem arg_strs (m : Nat → ByteArray) {v : Value} {d : DataW H} {p : List MemPlace} {b0 : Nat} (hval : Value.okWide Tryd.prog W .any b0 33 v) (h : DataW.Trod enc Tryd.prog W 0 (fun _ => true) held 33 v d p) : ∃ (l : List ByteArray) (F : Addr → Prop), RowRd (Rep.str m) false W v l F :=
  arg_row (E := Rep.str m) (opens_str m) Tryd.underlying33 (by kernel_rfl) (Nat.one_pos) hval h
end
end Go.Proofs.YtjhfoifdaiilhaaDoor

/- Appending one text to a row of texts that the call made: a law for the walk; rows of texts read place by place. -/
namespace Go.Proofs.YtjhfoifdaiilhaaDoor
set_option maxRecDepth 100000
open Go.RowKit
def cellsS (l : List ByteArray) : List Value := l.map fun z => .string z
theorem cellsS_len (l : List ByteArray) : (cellsS l).length = l.length := by simp [cellsS]
theorem cellsS_append (a b : List ByteArray) : cellsS (a ++ b) = cellsS a ++ cellsS b := by simp [cellsS]
theorem cellsS_at (l : List ByteArray) (k : Nat) (h : k < l.length) : (cellsS l)[k]? = some (.string (l.getD k ByteArray.empty)) := by
  unfold cellsS; rw [List.getElem?_map, List.getElem?_eq_getElem h]; simp [h]
theorem Tryd.info9s : (Tryd.prog.info? 9).map (fun i => (i.zero, i.size, i.bytes)) = some (some (.string ⟨#[]⟩), 1, 16) := by kernel_rfl
theorem wpList_append_str {ops : Array Oper} {rest : List Oper} {o : Oper} {a : Act} {Q : Exit → Act → World → Prop} (w : World) (hgd : o.guard = none) (s x : Operand)
    (ho : o.op = .call { callee := .builtin .append, args := #[s, x], argTypes := #[33, 33] })
    (base : Nat) (v : Value) (n : Nat) (l : List ByteArray) (hs : a.eval s = v) (hown : w.ownsRow base 9 1 v n (cellsS l)) (b : ByteArray)
    (hx : a.eval x = .slice (some ⟨w.heap.size, 0, none⟩) 1 1) (hn : n ≤ 1000000000) (hbase : base ≤ w.heap.size)
    (h : ∀ v' w', w'.ownsRow base 9 1 v' (n + 1) (cellsS (l ++ [b])) → Below base w w' → wpList Tryd.prog ops Q rest (a.put o.dst v') w') :
    wpList Tryd.prog ops Q (o :: rest) a (w.alloc (.cells #[.string b] 9)) := by
  obtain ⟨i0, hi, hz0, hz1, hz2⟩ := info_parts Tryd.info9s
  refine wpList_append_own (w.alloc (.cells #[.string b] 9)) hgd s x 33 ho base 9 i0 (.string ⟨#[]⟩) 1 16 Tryd.underlying33 hi hz0 hz1 hz2 rfl (by decide) v n (cellsS l) hs (hown.alloc _) ⟨w.heap.size, 0, none⟩ 1 1 [.string b] hx rfl (cell_one_new _ _ _)
    (fun u hu => by simp at hu; subst hu; rfl) (by unfold maxLen; omega) (by omega) (by simp; omega) ?_
  intro v' w' h1 h2 _
  refine h v' w' (by rw [cellsS_append]; exact h1) ?_
  exact ((Below.refl base w).alloc hbase _).grown h2 (by simp; omega) (fun q hq => (hown.lt q hq).1)
/-- The same as one step of a region that draws its order. -/
theorem step_append_str {ops : Array Oper} {o : Oper} {a : Act} {K : Act → World → Prop} {Q : Exit → Act → World → Prop} {E : Prop} (w : World) (hgd : o.guard = none) (s x : Operand)
    (ho : o.op = .call { callee := .builtin .append, args := #[s, x], argTypes := #[33, 33] })
    (base : Nat) (v : Value) (n : Nat) (l : List ByteArray) (hs : a.eval s = v) (hown : w.ownsRow base 9 1 v n (cellsS l)) (b : ByteArray)
    (hx : a.eval x = .slice (some ⟨w.heap.size, 0, none⟩) 1 1) (hn : n ≤ 1000000000) (hbase : base ≤ w.heap.size)
    (h : ∀ v' w', w'.ownsRow base 9 1 v' (n + 1) (cellsS (l ++ [b])) → Below base w w' → K (a.put o.dst v') w') :
    if Region.wanted o (yielded ops a.tmps) = true then Oper.wp Tryd.prog o a (w.alloc (.cells #[.string b] 9)) K Q else E := by
  have hw : Region.wanted o (yielded ops a.tmps) = true := by simp [Region.wanted, hgd]
  rw [if_pos hw]
  obtain ⟨i0, hi, hz0, hz1, hz2⟩ := info_parts Tryd.info9s
  refine wp_append_own (w.alloc (.cells #[.string b] 9)) s x 33 ho base 9 i0 (.string ⟨#[]⟩) 1 16 Tryd.underlying33 hi hz0 hz1 hz2 rfl (by decide) v n (cellsS l) hs (hown.alloc _) ⟨w.heap.size, 0, none⟩ 1 1 [.string b] hx rfl (cell_one_new _ _ _)
    (fun u hu => by simp at hu; subst hu; rfl) (by unfold maxLen; omega) (by omega) (by simp; omega) ?_
  intro v' w' h1 h2 _
  refine h v' w' (by rw [cellsS_append]; exact h1) ?_
  exact ((Below.refl base w).alloc hbase _).grown h2 (by simp; omega) (fun q hq => (hown.lt q hq).1)
theorem step_append_str_drew {ops : Array Oper} {o : Oper} {a : Act} {K : Act → World → Prop} {Q : Exit → Act → World → Prop} {E : Prop} (w : World) (hgd : o.guard = none) (s x : Operand)
    (ho : o.op = .call { callee := .builtin .append, args := #[s, x], argTypes := #[33, 33] })
    (base : Nat) (v : Value) (n : Nat) (l : List ByteArray) (hown : w.ownsRow base 9 1 v n (cellsS l)) (b : ByteArray) (hn : n ≤ 1000000000) (hbase : base ≤ w.heap.size)
    (hs : a.eval s = v) (hx : a.eval x = .slice (some ⟨w.heap.size, 0, none⟩) 1 1)
    (h : ∀ v' w', w'.ownsRow base 9 1 v' (n + 1) (cellsS (l ++ [b])) → Below base w w' → K (a.put o.dst v') w') :
    if Region.wanted o (yielded ops a.tmps) = true then Oper.wp Tryd.prog o a ((w.alloc (.cells #[.string b] 9)).drew) K Q else E :=
  step_append_str w.drew hgd s x ho base v n l hs hown.drew b hx hn hbase fun v' w' h1 h2 => h v' w' h1 ⟨h2.os, h2.tape, h2.output, h2.size, h2.block⟩
theorem str_read {w : World} {base : Nat} {v : Value} {l : List ByteArray} (h : w.ownsRow base 9 1 v l.length (cellsS l)) :
    ∃ A cap, v = .slice A l.length cap ∧ ∀ k, k < l.length → ∃ g, A = some ⟨g, 0, none⟩ ∧ w.cell? ⟨g, k, none⟩ = some (.string (l.getD k ByteArray.empty)) := by
  have hh := h
  rcases h.2 with ⟨rfl, hn⟩ | ⟨g, cap, cur, rfl, _⟩
  · exact ⟨none, 0, by rw [hn], fun k hk => by omega⟩
  · refine ⟨some ⟨g, 0, none⟩, cap, rfl, fun k hk => ⟨g, rfl, ?_⟩⟩
    have hc : (cellsS l).length = l.length := cellsS_len l
    rw [hh.cellAt k (by omega), cellsS_at l k hk]
theorem str_form {w : World} {base : Nat} {v : Value} {n : Nat} {xs : List Value} (h : w.ownsRow base 9 1 v n xs) (hn : 0 < n) : ∃ g cap, v = .slice (some ⟨g, 0, none⟩) n cap ∧ base ≤ g := by
  rcases h.2 with ⟨rfl, h0⟩ | ⟨g, cap, cur, rfl, hb, _⟩
  · omega
  · exact ⟨g, cap, rfl, hb⟩
/-- A new empty row of texts. -/
theorem str_empty (w : World) : (w.alloc (.cells #[] 9)).ownsRow w.heap.size 9 1 (.slice (some ⟨w.heap.size, 0, none⟩) 0 0) ([] : List ByteArray).length (cellsS []) :=
  ⟨rfl, Or.inr ⟨w.heap.size, 0, #[], rfl, Nat.le_refl _, heap_alloc_new _ _, Nat.le_refl _, Nat.zero_le _, rfl, rfl⟩⟩
/-- A new row of one text. -/
theorem str_one (w : World) (b : ByteArray) : (w.alloc (.cells #[.string b] 9)).ownsRow w.heap.size 9 1 (.slice (some ⟨w.heap.size, 0, none⟩) 1 1) ([b] : List ByteArray).length (cellsS [b]) :=
  ⟨rfl, Or.inr ⟨w.heap.size, 1, #[.string b], rfl, Nat.le_refl _, heap_alloc_new _ _, Nat.le_refl _, by unfold maxLen; omega, rfl, rfl⟩⟩
/-- It answers with a row of its own that holds these texts. -/
def StrsPost (l : List ByteArray) (w : World) (e : Ending) (w' : World) : Prop := ∃ v, e = .returned v ∧ w'.ownsRow w.heap.size 9 1 v l.length (cellsS l) ∧ Below w.heap.size w w'
end Go.Proofs.YtjhfoifdaiilhaaDoor
