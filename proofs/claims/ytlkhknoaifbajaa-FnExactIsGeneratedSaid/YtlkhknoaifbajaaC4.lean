/- Merged: Rc17. -/
import Derived.Test.YtlkhknoaifbajaaC1
import Derived.Test.YtlkhknoaifbajaaC2
import Derived.Test.YtlkhknoaifbajaaB9
import Derived.Test.YtlkhknoaifbajaaC3
import Derived.Test.YtlkhknoaifbajaaB5
import Derived.Deep.RegionWith
/- GOROUTINE 0: FnExactIsGenerated, whole. -/
namespace Go.Proofs.Ytlkhknoaifbajaa
open Go.Conc Go.RowKit M
set_option linter.unusedVariables false
set_option linter.unusedSimpArgs false
set_option maxRecDepth 100000

theorem isg_mdl (s : ByteArray) (m : List DLink) : isg s m = mdl s m := mdl_isg s m
theorem re_size (w : World) (τ : Ans) (d : Nat) (o : Array (Nat × ByteArray)) : (re w τ d o).heap.size = w.heap.size := rfl
/-- Old memory and the argument's box. -/
structure IG (W0 w : World) (v : Value) : Prop where
  out : Below W0.heap.size W0 w
  bx : w.heap[W0.heap.size]? = some (.cells #[v] 55 (0, 0))
theorem IG.rely {W0 w w' : World} {v : Value} (h : IG W0 w v) (x : AtRel w w') : IG W0 w' v := by
  obtain ⟨d, rfl⟩ := x
  exact ⟨⟨h.out.os, h.out.tape, h.out.output, h.out.size, h.out.block⟩, h.bx⟩
theorem IG.kept {W0 w w' : World} {v : Value} (h : IG W0 w v) (hb : Below w.heap.size w w') : IG W0 w' v :=
  ⟨h.out.trans (hb.mono h.out.size), (hb.block _ (heap_low h.bx)).trans h.bx⟩
/-- The same and the program's argument: its row, its box. -/
structure IG2 (W0 w : World) (v : Value) (g : Nat) (u : Value) (m : List DLink) : Prop where
  out : IG W0 w v
  row : RowRd rLink true w u m (fun a => W0.heap.size ≤ a.block ∧ a.block < w.heap.size)
  box : w.heap[g]? = some (.cells #[u] 26 (0, 0))
  lo : W0.heap.size ≤ g
theorem IG2.rely {W0 w w' : World} {v u : Value} {g : Nat} {m : List DLink} (h : IG2 W0 w v g u m) (x : AtRel w w') : IG2 W0 w' v g u m := by
  have h1 := h.out.rely x
  obtain ⟨d, rfl⟩ := x
  exact ⟨h1, h.row.frame fun _ _ => ⟨rfl, rfl⟩, h.box, h.lo⟩
theorem IG2.kept {W0 w w' : World} {v u : Value} {g : Nat} {m : List DLink} (h : IG2 W0 w v g u m) (hb : Below w.heap.size w w') : IG2 W0 w' v g u m :=
  ⟨h.out.kept hb, (h.row.kept hb).mono fun a ha => ⟨ha.1, Nat.lt_of_lt_of_le ha.2 hb.size⟩, (hb.block _ (heap_low h.box)).trans h.box, h.lo⟩
theorem inC_put4 {w : World} {g : Nat} {v : Value} {t : TypeId} (h : InC w g #[v] t) (u : Value) : InC (w.setCell ⟨g, 0, none⟩ u) g #[u] t := heap_setCell_same w g 0 _ _ _ h
theorem okSzC : okF 53 = true := by rfl
theorem okToC : okF 54 = true := by rfl
theorem okIsg : okF 36 = true := by rfl
noncomputable def bodyIsg : Code := Try.f6.body.getD .skip
set_option maxHeartbeats 16000000 in
theorem law_Isg {s : ByteArray} (W0 : World) (hs : s.size ≤ maxLen) (x : DCandidate) (F0 : Addr → Prop) (v : Value) (hv : RowRd rLink false W0 v x.Links F0) :
    GoG Try.prog (sideM Try.prog (EndPost W0)) [] () (G ((base 6).at { tmps := #[.string s, .agg #[v], undef, undef, undef, undef, undef, undef, undef, undef, undef, undef, undef, undef, undef, undef, undef, undef, undef, undef, undef, undef, undef, undef, undef, undef, undef, undef, undef, undef, undef, undef, undef, undef], defers := [] } [.code bodyIsg]) []) W0 := by
  obtain ⟨A, cap, rfl⟩ := hv.form
  have HV : Hid (∀ W, Below W0.heap.size W0 W → RowRd rLink false W (.slice A x.Links.length cap) x.Links F0) := fun W hW => hv.kept hW
  clear hv
  dsimp only [bodyIsg, Try.f6, Option.getD_some]
  have hF := HM.of_below (Below.refl W0.heap.size W0)
  repeat (refine goG_seq sideM_ok ?_)
  refine goG_region sideM_ok ?_
  simp only [List.size_toArray, List.length_cons, List.length_nil, Nat.reduceAdd, Nat.zero_add, List.range, List.range.loop]
  refine goG_op rfl (by rfl) (by simp [base]) ?_
  intro wO hR K hK2
  have hsz : wO.heap.size = W0.heap.size := by
    obtain ⟨d, hd⟩ := hR
    rw [hd]
    rfl
  replace hF := hF.rely hR
  clear hR
  go_simp
  refine hK2 _ _ ⟨?_, ?_⟩
  · rw [listed_nil (by simp [go_sem])]
    exact dmain_alloc _ _
  clear hK2 K
  try walk_nrm
  have hX : IG W0 (wO.alloc (.cells #[.slice A x.Links.length cap] 55)) (.slice A x.Links.length cap) := ⟨hF.out.alloc hF.out.size _, by rw [← hsz]; exact heap_alloc_new wO _⟩
  try rw [hsz]
  clear hF hsz
  have hF := hX
  clear hX
  generalize wO.alloc _ = wB at *
  refine goG_op rfl (by rfl) (by simp [base]) ?_
  intro wO hR K hK2
  replace hF := hF.rely hR
  clear hR
  go_simp
  refine hK2 _ _ ⟨?_, ?_⟩
  · rw [listed_nil (by simp [go_sem])]
    exact dmain_same (by simp)
  clear hK2 K
  try walk_nrm
  refine goG_nil sideM_ok ?_
  repeat (refine goG_seq sideM_ok ?_)
  refine goG_region sideM_ok ?_
  simp only [List.size_toArray, List.length_cons, List.length_nil, Nat.reduceAdd, Nat.zero_add, List.range, List.range.loop]
  refine goG_op rfl (by rfl) (by simp [base]) ?_
  intro wO hR K hK2
  replace hF := hF.rely hR
  clear hR
  go_simp
  refine hK2 _ _ ⟨?_, ?_⟩
  · rw [listed_nil (by simp [go_sem])]
    exact dmain_same (by simp)
  clear hK2 K
  try walk_nrm
  have hln := events_len_str
  refine goG_op rfl (by rfl) (by simp [base]) ?_
  intro wO hR K hK2
  replace hF := hF.rely hR
  clear hR
  go_simp
  refine hK2 _ _ ⟨?_, ?_⟩
  · rw [listed_nil (by simp [go_sem, *])]
    exact dmain_same (by simp)
  clear hK2 K
  try walk_nrm
  clear hln
  refine goG_op rfl (by rfl) (by simp [base]) ?_
  intro wO hR K hK2
  replace hF := hF.rely hR
  clear hR
  go_simp
  refine hK2 _ _ ⟨?_, ?_⟩
  · rw [listed_nil (by simp [go_sem])]
    exact dmain_same (by simp)
  clear hK2 K
  try walk_nrm
  refine goG_nil sideM_ok ?_
  by_cases hbig : (1048576 : Int) < (s.size : Int)
  · refine goG_cond sideM_ok (t := true) (by simp [Act.eval, hbig]) ?_
    simp only [if_true]
    repeat (refine goG_seq sideM_ok ?_)
    refine goG_region sideM_ok ?_
    simp only [List.size_toArray, List.length_cons, List.length_nil, Nat.reduceAdd, Nat.zero_add, List.range, List.range.loop]
    refine goG_op rfl (by rfl) (by simp [base]) ?_
    intro wO hR K hK2
    replace hF := hF.rely hR
    clear hR
    go_simp
    refine hK2 _ _ ⟨?_, ?_⟩
    · rw [listed_nil (by simp [go_sem])]
      exact dmain_same (by simp)
    clear hK2 K
    try walk_nrm
    refine goG_nil sideM_ok ?_
    refine goG_ret sideM_ok (by simp [base]) fun todo => ?_
    exact law_end Try.func6 (by rfl) (by decide) rfl (by simp) (HM.of_below hF.out)
  have hle : s.size ≤ 1048576 := by omega
  refine goG_cond sideM_ok (t := false) (by simp [Act.eval, hbig]) ?_
  simp only [Bool.false_eq_true, if_false]
  refine goG_skip sideM_ok (by simp [base]) ?_
  clear hbig
  repeat (refine goG_seq sideM_ok ?_)
  refine goG_region sideM_ok ?_
  simp only [List.size_toArray, List.length_cons, List.length_nil, Nat.reduceAdd, Nat.zero_add, List.range, List.range.loop]
  refine goG_op rfl (by rfl) (by simp [base]) ?_
  intro wO hR K hK2
  replace hF := hF.rely hR
  clear hR
  go_simp
  refine hK2 _ _ ⟨?_, ?_⟩
  · rw [listed_nil (by simp [go_sem])]
    exact dmain_same (by simp)
  clear hK2 K
  try walk_nrm
  refine goG_nil sideM_ok ?_
  repeat (refine goG_seq sideM_ok ?_)
  refine goG_region sideM_ok ?_
  simp only [List.size_toArray, List.length_cons, List.length_nil, Nat.reduceAdd, Nat.zero_add, List.range, List.range.loop]
  refine goG_op rfl (by rfl) (by simp [base]) ?_
  intro wO hR K hK2
  replace hF := hF.rely hR
  clear hR
  have e0 : wO.cell? ⟨W0.heap.size, 0, none⟩ = some (.slice A x.Links.length cap) := InC.cell hF.bx 0 rfl
  go_simp
  refine hK2 _ _ ⟨?_, ?_⟩
  · refine dmain_same fun e he => ?_
    have hm2 := mem_listed he
    simp [go_sem, *] at hm2
    subst hm2
    exact evF_cell _ _ (cell_lw e0)
  clear hK2 K
  try walk_nrm
  clear e0
  refine goG_op rfl (by rfl) (by simp [base]) ?_
  intro wO hR K hK2
  replace hF := hF.rely hR
  clear hR
  go_simp
  refine hK2 _ _ ⟨?_, ?_⟩
  · rw [listed_nil (by simp [go_sem])]
    exact dmain_same (by simp)
  clear hK2 K
  try walk_nrm
  refine goG_lone2 (Rr := fun r w' => (∃ z : Int, r = .int .i64 z ∧ (z < 0 ∨ z + (rCandidate.sz x : Nat) = 1048576 ∧ 0 ≤ z)) ∧ Hp wO.heap.size wO w') goodP okSzC Try.func53 (by rfl) (by rfl) (by rfl) (by rfl) (by simp [base]) rfl ?_ ?_ ?_
  · rintro r W τ d o τ' d' o' ⟨h1, h2⟩
    exact ⟨h1, h2.re⟩
  · intro τ d o
    walk_nrm
    refine (szCandidate_any x _ 1048576 _ _ (by omega) (by omega) (HV.out wO hF.out |> rowRd_to τ d o)).mono ?_
    rintro e w2 ⟨⟨z, rfl, hz⟩, hb⟩
    exact ⟨_, rfl, ⟨z, rfl, hz⟩, Hp.of hb⟩
  rintro r w2 ht ho ⟨⟨z, rfl, hz⟩, hh⟩
  replace hF := hF.kept (hh.below ht ho)
  clear ht ho hh
  walk_nrm
  refine goG_op rfl (by rfl) (by simp [base]) ?_
  intro wO hR K hK2
  replace hF := hF.rely hR
  clear hR
  go_simp
  refine hK2 _ _ ⟨?_, ?_⟩
  · rw [listed_nil (by simp [go_sem])]
    exact dmain_same (by simp)
  clear hK2 K
  try walk_nrm
  refine goG_nil sideM_ok ?_
  repeat (refine goG_seq sideM_ok ?_)
  refine goG_region sideM_ok ?_
  simp only [List.size_toArray, List.length_cons, List.length_nil, Nat.reduceAdd, Nat.zero_add, List.range, List.range.loop]
  refine goG_op rfl (by rfl) (by simp [base]) ?_
  intro wO hR K hK2
  replace hF := hF.rely hR
  clear hR
  go_simp
  refine hK2 _ _ ⟨?_, ?_⟩
  · rw [listed_nil (by simp [go_sem])]
    exact dmain_same (by simp)
  clear hK2 K
  try walk_nrm
  refine goG_op rfl (by rfl) (by simp [base]) ?_
  intro wO hR K hK2
  replace hF := hF.rely hR
  clear hR
  go_simp
  refine hK2 _ _ ⟨?_, ?_⟩
  · rw [listed_nil (by simp [go_sem])]
    exact dmain_same (by simp)
  clear hK2 K
  try walk_nrm
  refine goG_nil sideM_ok ?_
  by_cases hneg : z < 0
  · refine goG_cond sideM_ok (t := true) (by simp [Act.eval, hneg]) ?_
    simp only [if_true]
    repeat (refine goG_seq sideM_ok ?_)
    refine goG_region sideM_ok ?_
    simp only [List.size_toArray, List.length_cons, List.length_nil, Nat.reduceAdd, Nat.zero_add, List.range, List.range.loop]
    refine goG_op rfl (by rfl) (by simp [base]) ?_
    intro wO hR K hK2
    replace hF := hF.rely hR
    clear hR
    go_simp
    refine hK2 _ _ ⟨?_, ?_⟩
    · rw [listed_nil (by simp [go_sem])]
      exact dmain_same (by simp)
    clear hK2 K
    try walk_nrm
    refine goG_nil sideM_ok ?_
    refine goG_ret sideM_ok (by simp [base]) fun todo => ?_
    exact law_end Try.func6 (by rfl) (by decide) rfl (by simp) (HM.of_below hF.out)
  have HSZ : rCandidate.sz x ≤ 1048576 := by have := hz.resolve_left hneg; omega
  have HFL : x.Links.length ≤ 1048576 := by have h1 := HSZ; rw [rCandidate_sz] at h1; have := szRow_len rLink x.Links; omega
  refine goG_cond sideM_ok (t := false) (by simp [Act.eval, hneg]) ?_
  simp only [Bool.false_eq_true, if_false]
  refine goG_skip sideM_ok (by simp [base]) ?_
  clear hz hneg
  repeat (refine goG_seq sideM_ok ?_)
  refine goG_region sideM_ok ?_
  simp only [List.size_toArray, List.length_cons, List.length_nil, Nat.reduceAdd, Nat.zero_add, List.range, List.range.loop]
  refine goG_op rfl (by rfl) (by simp [base]) ?_
  intro wO hR K hK2
  replace hF := hF.rely hR
  clear hR
  go_simp
  refine hK2 _ _ ⟨?_, ?_⟩
  · rw [listed_nil (by simp [go_sem])]
    exact dmain_same (by simp)
  clear hK2 K
  try walk_nrm
  refine goG_op rfl (by rfl) (by simp [base]) ?_
  intro wO hR K hK2
  replace hF := hF.rely hR
  clear hR
  have e0 : wO.cell? ⟨W0.heap.size, 0, none⟩ = some (.slice A x.Links.length cap) := InC.cell hF.bx 0 rfl
  go_simp
  refine hK2 _ _ ⟨?_, ?_⟩
  · refine dmain_same fun e he => ?_
    have hm2 := mem_listed he
    simp [go_sem, *] at hm2
    subst hm2
    exact evF_cell _ _ (cell_lw e0)
  clear hK2 K
  try walk_nrm
  clear e0
  refine goG_lone2 (Rr := fun r w' => (∃ u, r = .agg #[u] ∧ RowRd rLink true w' u x.Links (fun a => wO.heap.size ≤ a.block)) ∧ Hp wO.heap.size wO w') goodP okToC Try.func54 (by rfl) (by rfl) (by rfl) (by rfl) (by simp [base]) rfl ?_ ?_ ?_
  · rintro r W τ d o τ' d' o' ⟨⟨u, h1, h2⟩, h3⟩
    exact ⟨⟨u, h1, rowRd_re h2⟩, h3.re⟩
  · intro τ d o
    walk_nrm
    refine (toCandidate_any x _ _ _ (HV.out wO hF.out |> rowRd_to τ d o) HSZ).mono ?_
    rintro e w2 ⟨u, rfl, h1, hb⟩
    exact ⟨_, rfl, ⟨u, rfl, h1⟩, Hp.of hb⟩
  rintro r w2 ht ho ⟨⟨u, rfl, hu⟩, hh⟩
  replace hF := hF.kept (hh.below ht ho)
  clear ht ho hh
  walk_nrm
  generalize wO.heap.size = k1 at hu
  refine goG_lone2 (Rr := fun r w' => r = .bool (mdl s x.Links) ∧ Hp w2.heap.size w2 w') goodP okIsg Try.func36 (by rfl) (by rfl) (by rfl) (by rfl) (by simp [base]) rfl ?_ ?_ ?_
  · rintro r W τ d o τ' d' o' ⟨h1, h2⟩
    exact ⟨h1, h2.re⟩
  · intro τ d o
    walk_nrm
    refine (specIsg_any s x u _ _ hle HFL (rowRd_to τ d o hu.weak)).mono ?_
    rintro e w3 ⟨rfl, hb⟩
    exact ⟨_, rfl, rfl, Hp.of hb⟩
  rintro r w2 ht ho ⟨rfl, hh⟩
  replace hF := hF.kept (hh.below ht ho)
  clear ht ho hh
  walk_nrm
  clear hu
  refine goG_op rfl (by rfl) (by simp [base]) ?_
  intro wO hR K hK2
  replace hF := hF.rely hR
  clear hR
  go_simp
  refine hK2 _ _ ⟨?_, ?_⟩
  · rw [listed_nil (by simp [go_sem])]
    exact dmain_same (by simp)
  clear hK2 K
  try walk_nrm
  refine goG_nil sideM_ok ?_
  repeat (refine goG_seq sideM_ok ?_)
  refine goG_region sideM_ok ?_
  simp only [List.size_toArray, List.length_cons, List.length_nil, Nat.reduceAdd, Nat.zero_add, List.range, List.range.loop]
  refine goG_op rfl (by rfl) (by simp [base]) ?_
  intro wO hR K hK2
  replace hF := hF.rely hR
  clear hR
  have e0 : wO.cell? ⟨W0.heap.size, 0, none⟩ = some (.slice A x.Links.length cap) := InC.cell hF.bx 0 rfl
  go_simp
  refine hK2 _ _ ⟨?_, ?_⟩
  · refine dmain_same fun e he => ?_
    have hm2 := mem_listed he
    simp [go_sem, *] at hm2
    subst hm2
    exact evF_cell _ _ (cell_lw e0)
  clear hK2 K
  try walk_nrm
  clear e0
  refine goG_lone2 (Rr := fun r w' => (∃ u, r = .agg #[u] ∧ RowRd rLink true w' u x.Links (fun a => wO.heap.size ≤ a.block)) ∧ Hp wO.heap.size wO w') goodP okToC Try.func54 (by rfl) (by rfl) (by rfl) (by rfl) (by simp [base]) rfl ?_ ?_ ?_
  · rintro r W τ d o τ' d' o' ⟨⟨u, h1, h2⟩, h3⟩
    exact ⟨⟨u, h1, rowRd_re h2⟩, h3.re⟩
  · intro τ d o
    walk_nrm
    refine (toCandidate_any x _ _ _ (HV.out wO hF.out |> rowRd_to τ d o) HSZ).mono ?_
    rintro e w2 ⟨u, rfl, h1, hb⟩
    exact ⟨_, rfl, ⟨u, rfl, h1⟩, Hp.of hb⟩
  rintro r w2 ht ho ⟨⟨u, rfl, hu⟩, hh⟩
  have hF2 := hF.kept (hh.below ht ho)
  have hu2 : RowRd rLink true w2 u x.Links (fun a => W0.heap.size ≤ a.block ∧ a.block < w2.heap.size) := hu.tight.mono fun a ha => ⟨Nat.le_trans hF.out.size ha.1, ha.2⟩
  clear hF hu
  have hF := hF2
  clear hF2
  clear ht ho hh
  walk_nrm
  obtain ⟨A1, c1, rfl⟩ := hu2.form
  refine goG_op rfl (by rfl) (by simp [base]) ?_
  intro wO hR K hK2
  replace hF := hF.rely hR
  have hu3 : RowRd rLink true wO (.slice A1 x.Links.length c1) x.Links (fun a => W0.heap.size ≤ a.block ∧ a.block < wO.heap.size) := by
    obtain ⟨d, rfl⟩ := hR
    exact hu2.frame fun _ _ => ⟨rfl, rfl⟩
  clear hR hu2
  go_simp
  refine hK2 _ _ ⟨?_, ?_⟩
  · rw [listed_nil (by simp [go_sem])]
    exact dmain_alloc _ _
  clear hK2 K
  try walk_nrm
  have hgl : W0.heap.size < wO.heap.size := heap_low hF.bx
  have hF2 := hF.kept ((Below.refl _ _).alloc (Nat.le_refl _) (.cells #[.slice none 0 0] 26))
  have hbx : (wO.alloc (.cells #[.slice none 0 0] 26)).heap[wO.heap.size]? = some (.cells #[.slice none 0 0] 26 (0, 0)) := heap_alloc_new wO _
  have hu4 := hu3.kept ((Below.refl _ _).alloc (Nat.le_refl _) (.cells #[.slice none 0 0] 26))
  clear hF hu3
  have hF := hF2
  clear hF2
  generalize wO.heap.size = g at *
  generalize wO.alloc _ = wB at *
  refine goG_op rfl (by rfl) (by simp [base]) ?_
  intro wO hR K hK2
  replace hF := hF.rely hR
  have hbx2 : InC wO g #[.slice none 0 0] 26 := by
    obtain ⟨d, rfl⟩ := hR
    exact hbx
  have hu5 : RowRd rLink true wO (.slice A1 x.Links.length c1) x.Links (fun a => W0.heap.size ≤ a.block ∧ a.block < g) := by
    obtain ⟨d, rfl⟩ := hR
    exact hu4.frame fun _ _ => ⟨rfl, rfl⟩
  clear hR hbx hu4
  have e0 := hbx2.cell 0 rfl
  have f0 := hbx2.free 0
  go_simp
  refine hK2 _ _ ⟨?_, ?_⟩
  · refine dmain_cell fun e he => ?_
    have hm2 := mem_listed he
    simp [go_sem, *] at hm2
    rw [events_store (P := Try.prog) (w := wO) (es := #[]) ⟨g, 0, none⟩ (.slice A1 x.Links.length c1) .plain rfl, e0, f0] at hm2
    simp at hm2
    subst hm2
    exact evF_cell _ _ (cell_lw e0)
  clear hK2 K e0 f0
  try walk_nrm
  have hG : IG2 W0 (wO.setCell ⟨g, 0, none⟩ (.slice A1 x.Links.length c1)) (.slice A x.Links.length cap) g (.slice A1 x.Links.length c1) x.Links :=
    ⟨⟨hF.out.setCell (p := ⟨g, 0, none⟩) (Nat.le_of_lt hgl) _, (InC.other (show InC wO W0.heap.size _ _ from hF.bx) (by show W0.heap.size ≠ g; omega) _)⟩, (hu5.apart (Unch.set (F := fun a => a.block = g) rfl _) (fun a ha => by have h1 := ha.2; show ¬ a.block = g; omega)).mono (fun a ha => ⟨ha.1, by have h1 := ha.2; have h2 := hbx2.lt; simp [World.setCell]; omega⟩), inC_put4 hbx2 _, Nat.le_of_lt hgl⟩
  clear hF hu5 hbx2
  have hF := hG
  clear hG
  generalize wO.setCell _ _ = wB at *
  refine goG_nil sideM_ok ?_
  repeat (refine goG_seq sideM_ok ?_)
  refine goG_region sideM_ok ?_
  simp only [List.size_toArray, List.length_cons, List.length_nil, Nat.reduceAdd, Nat.zero_add, List.range, List.range.loop]
  refine goG_op rfl (by rfl) (by simp [base]) ?_
  intro wO hR K hK2
  replace hF := hF.rely hR
  clear hR
  go_simp
  refine hK2 _ _ ⟨?_, ?_⟩
  · rw [listed_nil (by simp [go_sem])]
    exact dmain_same (by simp)
  clear hK2 K
  try walk_nrm
  refine goG_op rfl (by rfl) (by simp [base]) ?_
  intro wO hR K hK2
  replace hF := hF.rely hR
  clear hR
  have e0 : wO.cell? ⟨g, 0, none⟩ = some (.slice A1 x.Links.length c1) := InC.cell hF.box 0 rfl
  go_simp
  refine hK2 _ _ ⟨?_, ?_⟩
  · refine dmain_same fun e he => ?_
    have hm2 := mem_listed he
    simp [go_sem, *] at hm2
    subst hm2
    exact evF_cell _ _ (cell_lw e0)
  clear hK2 K
  try walk_nrm
  clear e0
  refine goG_call (x := body33) sideM_ok rfl (by rfl) (by simp [base]) rfl Try.func33 (by rfl) (by rfl) ?_
  walk_nrm
  simp only [Try.ntmps33, List.size_toArray, List.length_cons, List.length_nil, Nat.reduceAdd, Nat.reduceSub, Array.replicate_succ, Array.replicate_zero, List.push_toArray, List.append_toArray, List.nil_append, List.cons_append]
  have hv0 : RowRd rLink false wO (.slice A1 x.Links.length c1) x.Links (fun a => a.block < wO.heap.size) := hF.row.weak.mono fun a ha => ha.2
  apply isgen_main (Post := EndPost W0) (s := s) hs wO (.slice A1 x.Links.length c1) x.Links hv0
  intro w3 hb3
  rw [fin29 _ _ _ _ _ _ _ _ rfl, isg_mdl]
  have hF3 := hF.kept hb3
  clear hF hv0 hb3
  have hF := hF3
  clear hF3
  walk_nrm
  refine goG_op rfl (by rfl) (by simp [base]) ?_
  intro wO hR K hK2
  replace hF := hF.rely hR
  clear hR
  go_simp
  refine hK2 _ _ ⟨?_, ?_⟩
  · rw [listed_nil (by simp [go_sem])]
    exact dmain_same (by simp)
  clear hK2 K
  try walk_nrm
  refine goG_nil sideM_ok ?_
  rename_i w0 
  refine goG_tail goodP (by kernel_rfl) rfl Try.func6 (by rfl) (by decide) (HM.of_below hF.out.out) ?_
  intro τ d o
  have HA : Hid (InC (re wO τ d o) W0.heap.size #[.slice A x.Links.length cap] 55) := hF.out.bx
  have HX : Hid (InC (re wO τ d o) g #[.slice A1 x.Links.length c1] 26) := hF.box
  have Hx0 := Lib.hid (rowRd_to τ d o hF.row)
  have HVW : Hid (∀ W', Below (re wO τ d o).heap.size (re wO τ d o) W' → RowRd rLink false W' (.slice A x.Links.length cap) x.Links F0) := fun W' hW => (rowRd_to τ d o (HV.out wO hF.out.out)).kept hW
  clear hF HV
  generalize re wO τ d o = W at *
  generalize mdl s x.Links = mb at *
  have HT : Hid (∀ W', Below W.heap.size W W' → Calls Try.prog 54 #[.agg #[.slice A x.Links.length cap]] W' fun e w' => ∃ u, e = .returned (.agg #[u]) ∧ RowRd rLink true w' u x.Links (fun a => W'.heap.size ≤ a.block) ∧ Below W'.heap.size W' w') := fun W' hW => toCandidate_any x _ W' _ (HVW.out W' hW) HSZ
  have HE : Hid (∀ (W' : World) (u : Value) (G : Addr → Prop), Below W.heap.size W W' → RowRd rLink true W' u x.Links G → Calls Try.prog 55 #[.agg #[.slice A1 x.Links.length c1], .agg #[u]] W' fun e w' => e = .returned (.bool true) ∧ Below W'.heap.size W' w') := fun W' u G hW hu => eqCandidate_any x _ _ W' _ _ (Hx0.out.kept hW).weak hu.weak
  have HXK : Hid (∀ W' : World, Below W.heap.size W W' → InC W' g #[.slice A1 x.Links.length c1] 26) := fun W' hW => HX.out.kept hW
  have bHA0 := HA.out.cell 0 rfl
  have bHX0 := HX.out.cell 0 rfl
  go_upto_region 12 with fail
  go_region_with (first | (go_simp; go_at_call 54; refine (HT.out _ ((Below.refl _ _).drew)).mono ?_; rintro e wt ⟨ut, rfl, hqt, hbt0⟩; have hbt : Below W.heap.size W wt := below_step ((Below.refl _ _).drew) hbt0; obtain ⟨At, ct, rfl⟩ := hqt.form; have e0 := (HXK.out _ hbt).cell 0 rfl; have HBT := Lib.hid hbt; have HQT := Lib.hid hqt; clear hbt0 hqt hbt) | (go_simp; go_at_call 55; refine (HE.out _ _ _ HBT.out HQT.out).mono ?_; rintro e wz ⟨rfl, hbz0⟩; have HBZ := Lib.hid (below_step HBT.out hbz0); clear hbz0))
  all_goals
    go_wp2
    go_ret
    exact ⟨rfl, HBZ.out⟩
end Go.Proofs.Ytlkhknoaifbajaa
