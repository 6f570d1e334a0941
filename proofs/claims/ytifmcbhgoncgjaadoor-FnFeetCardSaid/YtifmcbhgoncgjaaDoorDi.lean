/- The draw of two footings. -/
import Derived.Test.YtifmcbhgoncgjaaDoorDh
namespace Go.Proofs.YtifmcbhgoncgjaaDoor
open Go.RowKit M
set_option linter.unusedVariables false
set_option linter.unusedSimpArgs false

def DTwoPost (w : World) (e : Ending) (w' : World) : Prop := ∃ (x y : DFooting) (u v : Value), e = .returned (.tuple #[.agg #[.int .i64 x.Syllables, u, .int .i64 x.Main], .agg #[.int .i64 y.Syllables, v, .int .i64 y.Main]]) ∧
  RowRd rFoot false w' u x.Feet (fun a => w.heap.size ≤ a.block) ∧ RowRd rFoot false w' v y.Feet (fun a => w.heap.size ≤ a.block) ∧ x.Feet.length ≤ 4 ∧ y.Feet.length ≤ 4 ∧ Below w.heap.size w w'
theorem results_two {P : Program} {fn : Func} {p q : Tmp} {ty : TypeId} (h : fn.results = #[.cell p ty, .cell q ty]) (tmps : Array Value) (w : World) (g k : Nat) (t : TypeId) (cs ds : Array Value) (fr : Nat × Nat) (d : TypeDesc)
    (hp : tmps.getD p undef = .pointer (some ⟨g, 0, none⟩)) (hq : tmps.getD q undef = .pointer (some ⟨k, 0, none⟩)) (hg : w.heap[g]? = some (.cells cs t fr)) (hk : w.heap[k]? = some (.cells ds t fr))
    (hu : P.underlying ty = some d) (hd : (match d with | .struct _ | .array _ _ => true | _ => false) = true) (hi : (P.info? ty).map (·.size) = some cs.size) (hj : (P.info? ty).map (·.size) = some ds.size) :
    (results fn tmps).run P w = .ok (.tuple #[.agg cs, .agg ds]) w := by
  have hp' : tmps[p]?.getD undef = .pointer (some ⟨g, 0, none⟩) := by simpa using hp
  have hq' : tmps[q]?.getD undef = .pointer (some ⟨k, 0, none⟩) := by simpa using hq
  simp [results, h, hp', hq', asAddr, run_loadVar_row w g t ty cs fr d hg hu hd hi, run_loadVar_row w k t ty ds fr d hk hu hd hj, Sem.run_bind, Result.andThen]
/-- Feet copied onto a new row, as an operation of a region that draws. -/
theorem step_copyF {w : World} {l : List DFoot} {F : Addr → Prop} {s : Bool} {A : Option Addr} {n cap : Nat} (hv : RowRd rFoot s w (.slice A n cap) l F) (hl : l.length ≤ 1000) {ops : Array Oper} {o : Oper} {a : Act} {K : Act → World → Prop} {Q : Exit → Act → World → Prop} {Z : Prop} (W : World) (hgd : o.guard = none) (sl y : Operand)
    (ho : o.op = .call { callee := .builtin .append, args := #[sl, y], argTypes := #[29, 29] }) (hW : Below (w.heap.size + 1) (w.alloc (.cells #[] 53)) W) (hs : a.eval sl = .slice (some ⟨w.heap.size, 0, none⟩) 0 0) (hy : a.eval y = .slice A n cap)
    (h : ∀ v' w', RowRd rFoot true w' v' l (fun a => w.heap.size ≤ a.block) → (∃ A' c', v' = .slice A' l.length c') → Below w.heap.size w w' → K (a.put o.dst v') w') :
    if Region.wanted o (yielded ops a.tmps) = true then Oper.wp Tryd.prog o a W K Q else Z := by
  obtain ⟨i3, hi3, qz3, qz4, qz5⟩ := info_parts Tryd.infoFo
  have hba : Below w.heap.size w (w.alloc (.cells #[] 53)) := (Below.refl _ _).alloc (Nat.le_refl _) _
  have hbw : Below w.heap.size w W := hba.trans (hW.mono (by omega))
  have ho0 : OwnRd rFoot 53 false w.heap.size (w.alloc (.cells #[] 53)) (.slice (some ⟨w.heap.size, 0, none⟩) 0 0) ([] : List DFoot) (fun _ => False) := OwnRd.empty w (Nat.le_refl _) _
  have hsz : w.heap.size + 1 ≤ W.heap.size := Nat.le_trans (by simp) hW.size
  have hvw := (hv.weak.tight).kept hbw
  refine step_append_rows rFoot W hgd sl y 29 53 i3 (.agg #[.int .i64 0, .int .i64 0, .int .i64 0]) 24 ho Tryd.underlying29 hi3 qz3 qz4 qz5 rfl (by decide) flatFoot.one false w.heap.size _ [] _ (OwnRd.kept ho0 (by simpa using hW)) A n cap l _ hvw (fun a ha => ⟨Nat.lt_of_lt_of_le ha.2 hbw.size, by simp [Value.ownBlock]; omega⟩) (fun hs => by cases hs) (by simp) (by omega) (by omega) (by omega) hs hy ?_
  intro v' w' h1 _ h3 h4 h5
  rw [List.nil_append] at h1
  have hr := (OwnRd.row (h1.flat flatFoot) (by omega)).mono (G := fun a => w.heap.size ≤ a.block) fun a ha => ha.resolve_right id
  exact h v' w' hr hr.form (hbw.trans h3)
theorem set3_below {w W : World} {base B : Nat} (h : Below base w W) (hB : base ≤ B) (a b c : Value) : Below base w (set3 W B a b c) := ((h.setCell (p := ⟨B, 0, none⟩) hB a).setCell (p := ⟨B, 1, none⟩) hB b).setCell (p := ⟨B, 2, none⟩) hB c
theorem set3_row {α : Type} {E : Rep α} {s : Bool} {W : World} {v : Value} {l : List α} {F : Addr → Prop} (h : RowRd E s W v l F) (B : Nat) (hF : ∀ a, F a → a.block ≠ B) (a b c : Value) : RowRd E s (set3 W B a b c) v l F := ((h.setOther ⟨B, 0, none⟩ hF a).setOther ⟨B, 1, none⟩ hF b).setOther ⟨B, 2, none⟩ hF c
theorem set3_other {W : World} {k B : Nat} {cs : Array Value} {t : TypeId} (h : InC W k cs t) (hk : k ≠ B) (a b c : Value) : InC (set3 W B a b c) k cs t := ((h.other (p := ⟨B, 0, none⟩) hk a).other (p := ⟨B, 1, none⟩) hk b).other (p := ⟨B, 2, none⟩) hk c
theorem cell_set3 {W : World} {k B j : Nat} (hk : ¬ k = B) (a b c : Value) : (((W.setCell ⟨B, 0, none⟩ a).setCell ⟨B, 1, none⟩ b).setCell ⟨B, 2, none⟩ c).cell? ⟨k, j, none⟩ = W.cell? ⟨k, j, none⟩ := by
  rw [cs_other (by intro e; injection e with e1 _ _; exact hk e1.symm), cs_other (by intro e; injection e with e1 _ _; exact hk e1.symm), cs_other (by intro e; injection e with e1 _ _; exact hk e1.symm)]
theorem two_fin {w W : World} {f h : DFooting} {u v : Value} {F G : Addr → Prop} {x y z x' y' z' : Value} {t : TypeId} (hb : Below w.heap.size w W) (h1 : InC W w.heap.size #[x, y, z] t) (h2 : InC W (w.heap.size + 1) #[x', y', z'] t)
    (hx : RowRd rFoot false W u f.Feet F) (hF : ∀ a, F a → w.heap.size + 1 < a.block) (hy : RowRd rFoot false W v h.Feet G) (hG : ∀ a, G a → w.heap.size + 1 < a.block) (hl : f.Feet.length ≤ 4) (hm : h.Feet.length ≤ 4) :
    InC (set3 (set3 W w.heap.size (.int .i64 f.Syllables) u (.int .i64 f.Main)) (w.heap.size + 1) (.int .i64 h.Syllables) v (.int .i64 h.Main)) w.heap.size #[.int .i64 f.Syllables, u, .int .i64 f.Main] t ∧
    InC (set3 (set3 W w.heap.size (.int .i64 f.Syllables) u (.int .i64 f.Main)) (w.heap.size + 1) (.int .i64 h.Syllables) v (.int .i64 h.Main)) (w.heap.size + 1) #[.int .i64 h.Syllables, v, .int .i64 h.Main] t ∧
    DTwoPost w (.returned (.tuple #[.agg #[.int .i64 f.Syllables, u, .int .i64 f.Main], .agg #[.int .i64 h.Syllables, v, .int .i64 h.Main]])) (set3 (set3 W w.heap.size (.int .i64 f.Syllables) u (.int .i64 f.Main)) (w.heap.size + 1) (.int .i64 h.Syllables) v (.int .i64 h.Main)) :=
  ⟨set3_other (h1.set3 _ _ _) (by omega) _ _ _, (set3_other h2 (by omega) _ _ _).set3 _ _ _, f, h, u, v, rfl,
    (set3_row (set3_row hx _ (fun a ha => by have := hF a ha; omega) _ _ _) _ (fun a ha => by have := hF a ha; omega) _ _ _).mono (fun a ha => by have := hF a ha; omega),
    (set3_row (set3_row hy _ (fun a ha => by have := hG a ha; omega) _ _ _) _ (fun a ha => by have := hG a ha; omega) _ _ _).mono (fun a ha => by have := hG a ha; omega), hl, hm, set3_below (set3_below hb (Nat.le_refl _) _ _ _) (by omega) _ _ _⟩
set_option maxHeartbeats 8000000 in
theorem drawEq_ok (w : World) (A : Option Addr) (len cap : Nat) (hl : len ≤ 1048576) (hcode : CodeArg w A len) : Calls Tryd.prog 18 #[.slice A len cap] w (DTwoPost w) := by
  have hb0 : Below w.heap.size w ((w.alloc (.cells #[.int .i64 0, .slice none 0 0, .int .i64 0] 31)).alloc (.cells #[.int .i64 0, .slice none 0 0, .int .i64 0] 31)) := ((Below.refl _ _).alloc (Nat.le_refl _) _).alloc (by simp) _
  have HS : Hid (((w.alloc (.cells #[.int .i64 0, .slice none 0 0, .int .i64 0] 31)).alloc (.cells #[.int .i64 0, .slice none 0 0, .int .i64 0] 31)).heap.size = w.heap.size + 1 + 1) := by simp [Hid]
  have HI1 : Hid (InC ((w.alloc (.cells #[.int .i64 0, .slice none 0 0, .int .i64 0] 31)).alloc (.cells #[.int .i64 0, .slice none 0 0, .int .i64 0] 31)) w.heap.size #[.int .i64 0, .slice none 0 0, .int .i64 0] 31) := box1 _ _ _
  have HI2 : Hid (InC ((w.alloc (.cells #[.int .i64 0, .slice none 0 0, .int .i64 0] 31)).alloc (.cells #[.int .i64 0, .slice none 0 0, .int .i64 0] 31)) (w.heap.size + 1) #[.int .i64 0, .slice none 0 0, .int .i64 0] 31) := box2 _ _ _
  have HCD := Lib.hid (hcode.below hb0)
  have HB0 := Lib.hid hb0
  clear hb0 hcode
  go_enter Tryd.func18, Tryd.ntmps18
  go_wp2_with fail
  refine (new_ok _ A len cap hl HCD.out).mono ?_
  rintro e w1 ⟨rfl, hc1, hb1⟩
  rw [HS.out] at hc1
  have HC1 := Lib.hid hc1
  have HB1 := Lib.hid (HB0.out.trans (hb1.mono (by rw [HS.out]; omega)))
  have HI11 := Lib.hid (HI1.out.kept hb1)
  have HI21 := Lib.hid (HI2.out.kept hb1)
  have hs1 : w.heap.size + 1 + 1 < w1.heap.size := hc1.lt
  clear hc1 hb1 HI1 HI2 HB0 HCD
  go_wp2_with fail
  refine (l5Ft_ok _ _ A len cap HC1.out).mono ?_
  rintro e w2 ⟨f, u, rfl, hq, q4, i0, i2, hc2, hg2⟩
  obtain ⟨A2, c2, rfl⟩ := hq.form
  have hs2 := hg2.size
  have hba : Below w2.heap.size w2 (w2.alloc (.cells #[.int .i64 f.Syllables, .slice A2 f.Feet.length c2, .int .i64 f.Main] 31)) := (Below.refl _ _).alloc (Nat.le_refl _) _
  have HBX : Hid (InC (w2.alloc (.cells #[.int .i64 f.Syllables, .slice A2 f.Feet.length c2, .int .i64 f.Main] 31)) w2.heap.size #[.int .i64 f.Syllables, .slice A2 f.Feet.length c2, .int .i64 f.Main] 31) := heap_alloc_new _ _
  have HBA := Lib.hid hba
  have hsa : (w2.alloc (.cells #[.int .i64 f.Syllables, .slice A2 f.Feet.length c2, .int .i64 f.Main] 31)).heap.size = w2.heap.size + 1 := by simp
  have HB2 := Lib.hid (below_of_grown HB1.out hg2 (by omega))
  have HI12 := Lib.hid (HI11.out.grown hg2 (by omega))
  have HI22 := Lib.hid (HI21.out.grown hg2 (by omega))
  have HQ2 := Lib.hid hq.tight
  have HC2 := Lib.hid (hc2.below hba)
  clear hq hc2 hg2 hba HI11 HI21 HB1 HC1 i0 i2
  generalize f.Syllables = fS at *
  generalize f.Main = fM at *
  generalize f.Feet = l at *
  go_wp2_with fail
  refine (once_ok _ _ A len cap 2 HC2.out (by omega) (by omega)).mono ?_
  rintro e w3 ⟨b, rfl, hc3, hg3⟩
  have hs3 := hg3.size
  rw [hsa] at hs3
  have HB3 := Lib.hid (below_of_grown (HB2.out.trans (HBA.out.mono HB2.out.size)) hg3 (by omega))
  have HI13 := Lib.hid ((HI12.out.kept HBA.out).grown hg3 (by omega))
  have HI23 := Lib.hid ((HI22.out.kept HBA.out).grown hg3 (by omega))
  have HQ3 := Lib.hid ((HQ2.out.kept HBA.out).grown hg3 (fun a ha => by omega))
  have HBX3 := Lib.hid (HBX.out.grown hg3 (by omega))
  have HC3 := Lib.hid hc3
  clear hc3 hg3 HI12 HI22 HQ2 HBX HB2 HBA HC2 hsa
  have hb5 : w.heap.size + 1 + 1 ≤ w2.heap.size := by omega
  generalize hb5g : w2.heap.size = b5 at *
  have d0 := HBX3.out.cell 0 rfl
  have d1 := HBX3.out.cell 1 rfl
  have d2 := HBX3.out.cell 2 rfl
  cases b with
  | true =>
    have HL4 : Hid (l.length ≤ 1000) := by unfold Hid; omega
    have HB3K : Hid (∀ W, Below w3.heap.size w3 W → InC W b5 #[.int .i64 fS, .slice A2 l.length c2, .int .i64 fM] 31 ∧ InC W w.heap.size #[.int .i64 0, .slice none 0 0, .int .i64 0] 31 ∧ InC W (w.heap.size + 1) #[.int .i64 0, .slice none 0 0, .int .i64 0] 31) := fun W hW => ⟨HBX3.out.kept hW, HI13.out.kept hW, HI23.out.kept hW⟩
    have hne1 : ¬ b5 = w.heap.size := by omega
    have hne2 : ¬ b5 = w.heap.size + 1 := by omega
    go_wp2_with fail
    go_region_held3 (fun w' => w'.cell? ⟨b5, 0, none⟩ = some (.int .i64 fS) ∧ w'.cell? ⟨b5, 1, none⟩ = some (.slice A2 l.length c2) ∧ w'.cell? ⟨b5, 2, none⟩ = some (.int .i64 fM))
      (first
        | with_reducible exact ⟨k0, k1, k2⟩
        | with_reducible exact ⟨(cell_set3 hne1 _ _ _).trans k0, (cell_set3 hne1 _ _ _).trans k1, (cell_set3 hne1 _ _ _).trans k2⟩
        | with_reducible exact ⟨(cell_set3 hne2 _ _ _).trans ((cell_set3 hne1 _ _ _).trans k0), (cell_set3 hne2 _ _ _).trans ((cell_set3 hne1 _ _ _).trans k1), (cell_set3 hne2 _ _ _).trans ((cell_set3 hne1 _ _ _).trans k2)⟩
        | go_keep)
      ((refine step_copyF HQ3.out HL4.out _ (by rfl) (.tmp 15) (.tmp 17) (by rfl) ?_ (by rfl) (by rfl) ?_; exact ⟨rfl, rfl, rfl, Nat.le_refl _, fun _ _ => rfl⟩; intro v9 w9 hr9 hf9 hb9; obtain ⟨A9, c9, rfl⟩ := hf9; have HB9 := Lib.hid hb9; have HR9 := Lib.hid hr9; obtain ⟨hbx9, hi19, hi29⟩ := HB3K.out _ hb9; have k0 : w9.cell? ⟨b5, 0, none⟩ = some (.int .i64 fS) := hbx9.cell 0 rfl; have k1 : w9.cell? ⟨b5, 1, none⟩ = some (.slice A2 l.length c2) := hbx9.cell 1 rfl; have k2 : w9.cell? ⟨b5, 2, none⟩ = some (.int .i64 fM) := hbx9.cell 2 rfl; have e0 := hi19.cell 0 rfl; have e1 := hi19.cell 1 rfl; have e2 := hi19.cell 2 rfl; have f0 := hi19.free 0; have f1 := hi19.free 1; have f2 := hi19.free 2; have e0' := hi29.cell 0 rfl; have e1' := hi29.cell 1 rfl; have e2' := hi29.cell 2 rfl; have f0' := hi29.free 0; have f1' := hi29.free 1; have f2' := hi29.free 2; have HI19 := Lib.hid hi19; have HI29 := Lib.hid hi29; clear hr9 hb9 hbx9 hi19 hi29))
    have HFIN := Lib.hid (two_fin (f := ⟨fS, l, fM⟩) (h := ⟨fS, l, fM⟩) (HB3.out.trans (HB9.out.mono HB3.out.size)) HI19.out HI29.out (HQ3.out.weak.kept HB9.out) (fun a ha => by omega) HR9.out.weak (fun a ha => by have : w3.heap.size ≤ a.block := ha; omega) q4 q4)
    go_wp2
    exact bodyPost_ret (results_two rfl _ _ w.heap.size (w.heap.size + 1) _ _ _ _ _ rfl rfl HFIN.out.1 HFIN.out.2.1 Tryd.underlying31 rfl infoFt31 infoFt31) rfl HFIN.out.2.2
  | false =>
    have HL5 := Lib.hid (fun W (hW : CurOk W (w.heap.size + 1 + 1) A len cap) => l5Ft_ok W (w.heap.size + 1 + 1) A len cap hW)
    have HCW : Hid (∀ W, Below w3.heap.size w3 W → CurOk W (w.heap.size + 1 + 1) A len cap) := fun W hW => HC3.out.below hW
    go_wp2_with fail
    go_region_law ((go_simp; go_at_call 29; refine (HL5.out _ (HCW.out _ ?_)).mono ?_; (first | exact (Below.refl _ w3).drew.drew | exact (Below.refl _ w3).drew | exact Below.refl _ w3); rintro e w5 ⟨f5, u5, rfl, hq5, r4, j0, j2, hc5, hg5⟩; obtain ⟨A5, c5, rfl⟩ := hq5.form; have HG5 : Hid (w3.grownBy w5 (some (w.heap.size + 1 + 1))) := (by exact ⟨hg5.os, hg5.tape, hg5.output, hg5.size, hg5.block⟩); have hbx5 := HBX3.out.grown HG5.out (by omega); have hi15 := HI13.out.grown HG5.out (by omega); have hi25 := HI23.out.grown HG5.out (by omega); have k0 := hbx5.cell 0 rfl; have k1 := hbx5.cell 1 rfl; have k2 := hbx5.cell 2 rfl; have e0 := hi15.cell 0 rfl; have e1 := hi15.cell 1 rfl; have e2 := hi15.cell 2 rfl; have f0 := hi15.free 0; have f1 := hi15.free 1; have f2 := hi15.free 2; have e0' := hi25.cell 0 rfl; have e1' := hi25.cell 1 rfl; have e2' := hi25.cell 2 rfl; have f0' := hi25.free 0; have f1' := hi25.free 1; have f2' := hi25.free 2; have HI15 := Lib.hid hi15; have HI25 := Lib.hid hi25; have HQ5 := Lib.hid hq5; clear hq5 hc5 hg5 hbx5 hi15 hi25 j0 j2))
    all_goals
      have HFIN := Lib.hid (two_fin (f := ⟨fS, l, fM⟩) (h := f5) (below_of_grown HB3.out HG5.out (by omega)) HI15.out HI25.out (HQ3.out.weak.grown HG5.out (fun a ha => by omega)) (fun a ha => by omega) HQ5.out.weak (fun a ha => by have : w3.heap.size ≤ a.block := ha; omega) q4 r4)
      go_wp2
      exact bodyPost_ret (results_two rfl _ _ w.heap.size (w.heap.size + 1) _ _ _ _ _ rfl rfl HFIN.out.1 HFIN.out.2.1 Tryd.underlying31 rfl infoFt31 infoFt31) rfl HFIN.out.2.2
end Go.Proofs.YtifmcbhgoncgjaaDoor
