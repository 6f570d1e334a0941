/- Merged: Rc9. -/
import Derived.Test.YtlkhknoaifbajaaB6
/- GOROUTINE 0: FnExactOneEdit, whole. -/
namespace Go.Proofs.Ytlkhknoaifbajaa
set_option maxRecDepth 100000
open Go.Conc Go.RowKit M
set_option linter.unusedVariables false
set_option linter.unusedSimpArgs false
set_option maxRecDepth 100000

/-- The second answer beside the first. -/
structure Ls5OneEdit (W0 w : World) (B1 : Nat) (u v h : Value) (L lv : List DCandidate) : Prop where
  out : Ls4 W0 w B1 u v L lv
  rh : RowRd rCandidate true w h L (fun _ => True)
section
variable {W0 w w' : World} {B1 : Nat} {u v h : Value} {L lv : List DCandidate}
theorem Ls5OneEdit.rely (x : Ls5OneEdit W0 w B1 u v h L lv) (r : AtRel w w') : Ls5OneEdit W0 w' B1 u v h L lv := ⟨x.out.rely r, by obtain ⟨d, rfl⟩ := r; exact x.rh.frame fun _ _ => ⟨rfl, rfl⟩⟩
theorem Ls5OneEdit.kept (x : Ls5OneEdit W0 w B1 u v h L lv) (hb : Below w.heap.size w w') : Ls5OneEdit W0 w' B1 u v h L lv := ⟨x.out.kept hb, x.rh.kept hb⟩
theorem Ls5OneEdit.first {G : List (List DLink)} (x : Ls4 W0 w B1 u v (cdL G) lv) (y : BMR w w' h G) : Ls5OneEdit W0 w' B1 u v h (cdL G) lv := ⟨x.kept y.out, y.row.mono fun _ _ => trivial⟩
theorem Ls5OneEdit.rv (x : Ls5OneEdit W0 w B1 u v h L lv) : RowRd rCandidate true w v lv (fun a => B1 ≤ a.block) := x.out.rv
end
theorem okOneEdit : okF 47 = true := by rfl
noncomputable def bodyLOneEdit : Code := Try.f8.body.getD .skip
set_option maxHeartbeats 8000000 in
theorem law_OneEdit {s : ByteArray} (W0 : World) (hs : s.size ≤ maxLen) :
    GoG Try.prog (sideM Try.prog (EndPost W0)) [] () (G ((base 8).at { tmps := #[.string s, undef, undef, undef, undef, undef, undef, undef, undef, undef, undef, undef, undef, undef, undef, undef, undef, undef, undef, undef, undef, undef, undef, undef, undef, undef, undef, undef, undef, undef, undef, undef, undef, undef, undef, undef, undef, undef, undef, undef, undef, undef, undef, undef], defers := [] } [.code bodyLOneEdit]) []) W0 := by
  dsimp only [bodyLOneEdit, Try.f8, Option.getD_some]
  have hF := HM.of_below (Below.refl W0.heap.size W0)
  repeat (refine goG_seq sideM_ok ?_)
  refine goG_region sideM_ok ?_
  simp only [List.size_toArray, List.length_cons, List.length_nil, Nat.reduceAdd, Nat.zero_add, List.range, List.range.loop]
  refine goG_op rfl (by rfl) (by simp [base]) ?_
  intro wO hR K hK2
  replace hF := hF.rely hR
  clear hR
  go_simp
  refine hK2 _ _ ⟨?_, ?_⟩
  · rw [listed_nil (by simp [go_sem])]
    exact dmain_same (by simp)
  clear hK2 K
  try walk_nrm
  refine goG_nil sideM_ok ?_
  repeat (refine goG_seq sideM_ok ?_)
  refine goG_region sideM_ok ?_
  simp only [List.size_toArray, List.length_cons, List.length_nil, Nat.reduceAdd, Nat.zero_add, List.range, List.range.loop]
  refine goG_op rfl (by rfl) (by simp [base]) ?_
  intro wO hR K hK2
  replace hF := hF.rely hR
  clear hR
  go_simp
  refine hK2 _ _ ⟨?_, ?_⟩
  · rw [listed_nil (by simp [go_sem])]
    exact dmain_same (by simp)
  clear hK2 K
  try walk_nrm
  have hln := events_len_str
  refine goG_op rfl (by rfl) (by simp [base]) ?_
  intro wO hR K hK2
  replace hF := hF.rely hR
  clear hR
  go_simp
  refine hK2 _ _ ⟨?_, ?_⟩
  · rw [listed_nil (by simp [go_sem, *])]
    exact dmain_same (by simp)
  clear hK2 K
  try walk_nrm
  clear hln
  refine goG_op rfl (by rfl) (by simp [base]) ?_
  intro wO hR K hK2
  replace hF := hF.rely hR
  clear hR
  go_simp
  refine hK2 _ _ ⟨?_, ?_⟩
  · rw [listed_nil (by simp [go_sem])]
    exact dmain_same (by simp)
  clear hK2 K
  try walk_nrm
  refine goG_nil sideM_ok ?_
  by_cases hbig : (1048576 : Int) < (s.size : Int)
  · refine goG_cond sideM_ok (t := true) (by simp [Act.eval, hbig]) ?_
    simp only [if_true]
    repeat (refine goG_seq sideM_ok ?_)
    refine goG_region sideM_ok ?_
    simp only [List.size_toArray, List.length_cons, List.length_nil, Nat.reduceAdd, Nat.zero_add, List.range, List.range.loop]
    refine goG_op rfl (by rfl) (by simp [base]) ?_
    intro wO hR K hK2
    replace hF := hF.rely hR
    clear hR
    go_simp
    refine hK2 _ _ ⟨?_, ?_⟩
    · rw [listed_nil (by simp [go_sem])]
      exact dmain_same (by simp)
    clear hK2 K
    try walk_nrm
    refine goG_nil sideM_ok ?_
    refine goG_ret sideM_ok (by simp [base]) fun todo => ?_
    exact law_end Try.func8 (by rfl) (by decide) rfl (by simp) hF
  have hle : s.size ≤ 1048576 := by omega
  refine goG_cond sideM_ok (t := false) (by simp [Act.eval, hbig]) ?_
  simp only [Bool.false_eq_true, if_false]
  refine goG_skip sideM_ok (by simp [base]) ?_
  clear hbig
  repeat (refine goG_seq sideM_ok ?_)
  refine goG_region sideM_ok ?_
  simp only [List.size_toArray, List.length_cons, List.length_nil, Nat.reduceAdd, Nat.zero_add, List.range, List.range.loop]
  refine goG_op rfl (by rfl) (by simp [base]) ?_
  intro wO hR K hK2
  replace hF := hF.rely hR
  clear hR
  go_simp
  refine hK2 _ _ ⟨?_, ?_⟩
  · rw [listed_nil (by simp [go_sem])]
    exact dmain_same (by simp)
  clear hK2 K
  try walk_nrm
  refine goG_lone (Rr := fun r w' => RowRd rCandidate true w' r (cdL (genS1 s)) (fun a => wO.heap.size ≤ a.block) ∧ Hp wO.heap.size wO w') goodP okOneEdit Try.func47 (by rfl) (by rfl) (by rfl) rfl (by rfl) (by simp [base]) rfl ?_ ?_ ?_
  · rintro r W τ d o τ' d' o' ⟨h1, h2⟩
    exact ⟨rowRd_re h1, h2.re⟩
  · intro τ d o
    walk_nrm
    refine (specOneEdit_any s _ hle).mono ?_
    rintro e w2 ⟨r, rfl, h1, h2⟩
    exact ⟨r, rfl, h1, Hp.of h2⟩
  rintro u w2 ht ho ⟨h1, hh⟩
  have hF2 : BMR W0 w2 u (genS1 s) := ⟨hF.out.trans ((hh.below ht ho).mono hF.out.size), h1.mono fun a ha => Nat.le_trans hF.out.size ha⟩
  clear ht ho hh h1 hF
  have hF := hF2
  clear hF2
  walk_nrm
  refine goG_op rfl (by rfl) (by simp [base]) ?_
  intro wO hR K hK2
  replace hF := hF.rely hR
  clear hR
  go_simp
  refine hK2 _ _ ⟨?_, ?_⟩
  · rw [listed_nil (by simp [go_sem])]
    exact dmain_same (by simp)
  clear hK2 K
  try walk_nrm
  refine goG_nil sideM_ok ?_
  obtain ⟨M, HM⟩ : ∃ M, Hid (1 + cntRow rCandidate (cdL (genS1 s)) = M) := ⟨_, rfl⟩
  have hM1 : 1 ≤ M := by rw [← HM.out]; omega
  have hM2 : M ≤ 1000000000 := by
    have := cntRow_cd (genS1 s) (genS1_rows s)
    have := genS1_len' s
    rw [← HM.out]
    omega
  have hHF : ∀ {v : Value} {w3 w4 : World}, True := fun {_ _ _} => trivial
  clear hHF
  repeat (refine goG_seq sideM_ok ?_)
  refine goG_region sideM_ok ?_
  simp only [List.size_toArray, List.length_cons, List.length_nil, Nat.reduceAdd, Nat.zero_add, List.range, List.range.loop]
  refine goG_op rfl (by rfl) (by simp [base]) ?_
  intro wO hR K hK2
  replace hF := hF.rely hR
  clear hR
  go_simp
  refine hK2 _ _ ⟨?_, ?_⟩
  · rw [listed_nil (by simp [go_sem])]
    exact dmain_same (by simp)
  clear hK2 K
  try walk_nrm
  have hF0 := hF
  refine goG_call (x := bodyOne) sideM_ok rfl (by rfl) (by simp [base]) rfl Try.func46 (by rfl) (by rfl) ?_
  walk_nrm
  simp only [Try.ntmps46, List.size_toArray, List.length_cons, List.length_nil, Nat.reduceAdd, Nat.reduceSub, Array.replicate_succ, Array.replicate_zero, List.push_toArray, List.append_toArray, List.nil_append, List.cons_append]
  apply OneEdit_main (Post := EndPost W0) (s := s) hs
  clear hF
  intro v w3 hb3
  rw [fin29 _ _ _ _ _ _ _ _ rfl]
  have hF := Ls4.first hF0 hb3
  have hB1 := Nat.le_refl wO.heap.size
  clear hF0 hb3
  generalize wO.heap.size = B1 at hF
  clear hB1
  walk_nrm
  generalize hGG : genS1 s = GG at *
  replace hGG := Lib.hid hGG
  refine goG_op rfl (by rfl) (by simp [base]) ?_
  intro wO hR K hK2
  replace hF := hF.rely hR
  clear hR
  go_simp
  refine hK2 _ _ ⟨?_, ?_⟩
  · rw [listed_nil (by simp [go_sem])]
    exact dmain_same (by simp)
  clear hK2 K
  try walk_nrm
  refine goG_nil sideM_ok ?_
  repeat (refine goG_seq sideM_ok ?_)
  refine goG_region sideM_ok ?_
  simp only [List.size_toArray, List.length_cons, List.length_nil, Nat.reduceAdd, Nat.zero_add, List.range, List.range.loop]
  refine goG_op rfl (by rfl) (by simp [base]) ?_
  intro wO hR K hK2
  replace hF := hF.rely hR
  clear hR
  go_simp
  refine hK2 _ _ ⟨?_, ?_⟩
  · rw [listed_nil (by simp [go_sem])]
    exact dmain_same (by simp)
  clear hK2 K
  try walk_nrm
  refine goG_op rfl (by rfl) (by simp [base]) ?_
  intro wO hR K hK2
  replace hF := hF.rely hR
  clear hR
  go_simp
  refine hK2 _ _ ⟨?_, ?_⟩
  · rw [listed_nil (by simp [go_sem])]
    exact dmain_same (by simp)
  clear hK2 K
  try walk_nrm
  refine goG_lone (Rr := fun r w' => r = .bool true ∧ Hp wO.heap.size wO w') goodP okEqCd Try.func49 (by rfl) (by rfl) (by rfl) rfl (by rfl) (by simp [base]) rfl ?_ ?_ ?_
  · rintro r W τ d o τ' d' o' ⟨h1, h2⟩
    exact ⟨h1, h2.re⟩
  · intro τ d o
    walk_nrm
    refine (eqCandidateS_any _ _ _ _ _ _ (rowRd_to τ d o hF.rv.weak) (rowRd_to τ d o hF.ru.weak)).mono ?_
    rintro e w2 ⟨rfl, hb⟩
    exact ⟨_, rfl, rfl, Hp.of hb⟩
  rintro r w2 ht ho ⟨rfl, hh⟩
  replace hF := hF.kept (hh.below ht ho)
  clear ht ho hh
  walk_nrm
  refine goG_op rfl (by rfl) (by simp [base]) ?_
  intro wO hR K hK2
  replace hF := hF.rely hR
  clear hR
  go_simp
  refine hK2 _ _ ⟨?_, ?_⟩
  · rw [listed_nil (by simp [go_sem])]
    exact dmain_same (by simp)
  clear hK2 K
  try walk_nrm
  refine goG_nil sideM_ok ?_
  refine goG_cond sideM_ok (t := false) (by simp [Act.eval]; try omega) ?_
  simp only [Bool.false_eq_true, if_false]
  refine goG_skip sideM_ok (by simp [base]) ?_
  repeat (refine goG_seq sideM_ok ?_)
  refine goG_region sideM_ok ?_
  simp only [List.size_toArray, List.length_cons, List.length_nil, Nat.reduceAdd, Nat.zero_add, List.range, List.range.loop]
  refine goG_op rfl (by rfl) (by simp [base]) ?_
  intro wO hR K hK2
  replace hF := hF.rely hR
  clear hR
  go_simp
  refine hK2 _ _ ⟨?_, ?_⟩
  · rw [listed_nil (by simp [go_sem])]
    exact dmain_same (by simp)
  clear hK2 K
  try walk_nrm
  refine goG_nil sideM_ok ?_
  repeat (refine goG_seq sideM_ok ?_)
  refine goG_region sideM_ok ?_
  simp only [List.size_toArray, List.length_cons, List.length_nil, Nat.reduceAdd, Nat.zero_add, List.range, List.range.loop]
  refine goG_op rfl (by rfl) (by simp [base]) ?_
  intro wO hR K hK2
  replace hF := hF.rely hR
  clear hR
  go_simp
  refine hK2 _ _ ⟨?_, ?_⟩
  · rw [listed_nil (by simp [go_sem])]
    exact dmain_same (by simp)
  clear hK2 K
  try walk_nrm
  refine goG_op rfl (by rfl) (by simp [base]) ?_
  intro wO hR K hK2
  replace hF := hF.rely hR
  clear hR
  go_simp
  refine hK2 _ _ ⟨?_, ?_⟩
  · rw [listed_nil (by simp [go_sem])]
    exact dmain_same (by simp)
  clear hK2 K
  try walk_nrm
  refine goG_lone (Rr := fun r w' => r = .int .i64 ((M : Nat) : Int) ∧ RowRd rCandidate true w' v (labRow rCandidate 1 (cdL GG)) (fun a => B1 ≤ a.block) ∧ Hp B1 wO w') goodP okMarkCd Try.func50 (by rfl) (by rfl) (by rfl) rfl (by rfl) (by simp [base]) rfl ?_ ?_ ?_
  · rintro r W τ d o τ' d' o' ⟨h1, h2, h3⟩
    exact ⟨h1, rowRd_re h2, h3.re⟩
  · intro τ d o
    walk_nrm
    refine (markCandidateS_any v (cdL GG) 1 1 rfl B1 (fun a => B1 ≤ a.block) _ (fun _ h => h) (by rw [HM.out]; exact hM2) (by omega) (rowRd_to τ d o hF.rv)).mono ?_
    rintro e w2 ⟨rfl, h1, _, hb⟩
    exact ⟨_, rfl, by rw [HM.out], h1, Hp.of hb⟩
  rintro r w2 ht ho ⟨rfl, h1, hh⟩
  replace hF := hF.mark (hh.below ht ho) h1
  clear ht ho hh h1
  walk_nrm
  refine goG_op rfl (by rfl) (by simp [base]) ?_
  intro wO hR K hK2
  replace hF := hF.rely hR
  clear hR
  go_simp
  refine hK2 _ _ ⟨?_, ?_⟩
  · rw [listed_nil (by simp [go_sem])]
    exact dmain_same (by simp)
  clear hK2 K
  try walk_nrm
  refine goG_nil sideM_ok ?_
  repeat (refine goG_seq sideM_ok ?_)
  refine goG_region sideM_ok ?_
  simp only [List.size_toArray, List.length_cons, List.length_nil, Nat.reduceAdd, Nat.zero_add, List.range, List.range.loop]
  refine goG_op rfl (by rfl) (by simp [base]) ?_
  intro wO hR K hK2
  replace hF := hF.rely hR
  clear hR
  go_simp
  refine hK2 _ _ ⟨?_, ?_⟩
  · rw [listed_nil (by simp [go_sem])]
    exact dmain_same (by simp)
  clear hK2 K
  try walk_nrm
  refine goG_nil sideM_ok ?_
  repeat (refine goG_seq sideM_ok ?_)
  refine goG_region sideM_ok ?_
  simp only [List.size_toArray, List.length_cons, List.length_nil, Nat.reduceAdd, Nat.zero_add, List.range, List.range.loop]
  refine goG_op rfl (by rfl) (by simp [base]) ?_
  intro wO hR K hK2
  replace hF := hF.rely hR
  clear hR
  go_simp
  refine hK2 _ _ ⟨?_, ?_⟩
  · rw [listed_nil (by simp [go_sem])]
    exact dmain_same (by simp)
  clear hK2 K
  try walk_nrm
  refine goG_op rfl (by rfl) (by simp [base]) ?_
  intro wO hR K hK2
  replace hF := hF.rely hR
  clear hR
  go_simp
  refine hK2 _ _ ⟨?_, ?_⟩
  · rw [listed_nil (by simp [go_sem])]
    exact dmain_same (by simp)
  clear hK2 K
  try walk_nrm
  refine goG_lone (Rr := fun r w' => r = .int .i64 ((M : Nat) : Int) ∧ Hp wO.heap.size wO w') goodP okHeldCd Try.func51 (by rfl) (by rfl) (by rfl) rfl (by rfl) (by simp [base]) rfl ?_ ?_ ?_
  · rintro r W τ d o τ' d' o' ⟨h1, h2⟩
    exact ⟨h1, h2.re⟩
  · intro τ d o
    walk_nrm
    refine (heldCandidateS_any _ _ 1 1 rfl _ _ (by rw [HM.out]; exact hM2) (by omega) (rowRd_to τ d o hF.rv.weak)).mono ?_
    rintro e w2 ⟨rfl, hb⟩
    exact ⟨_, rfl, by rw [HM.out], Hp.of hb⟩
  rintro r w2 ht ho ⟨rfl, hh⟩
  replace hF := hF.kept (hh.below ht ho)
  clear ht ho hh
  walk_nrm
  refine goG_op rfl (by rfl) (by simp [base]) ?_
  intro wO hR K hK2
  replace hF := hF.rely hR
  clear hR
  go_simp
  refine hK2 _ _ ⟨?_, ?_⟩
  · rw [listed_nil (by simp [go_sem])]
    exact dmain_same (by simp)
  clear hK2 K
  try walk_nrm
  refine goG_nil sideM_ok ?_
  repeat (refine goG_seq sideM_ok ?_)
  refine goG_region sideM_ok ?_
  simp only [List.size_toArray, List.length_cons, List.length_nil, Nat.reduceAdd, Nat.zero_add, List.range, List.range.loop]
  refine goG_op rfl (by rfl) (by simp [base]) ?_
  intro wO hR K hK2
  replace hF := hF.rely hR
  clear hR
  go_simp
  refine hK2 _ _ ⟨?_, ?_⟩
  · rw [listed_nil (by simp [go_sem])]
    exact dmain_same (by simp)
  clear hK2 K
  try walk_nrm
  refine goG_op rfl (by rfl) (by simp [base]) ?_
  intro wO hR K hK2
  replace hF := hF.rely hR
  clear hR
  go_simp
  refine hK2 _ _ ⟨?_, ?_⟩
  · rw [listed_nil (by simp [go_sem])]
    exact dmain_same (by simp)
  clear hK2 K
  try walk_nrm
  refine goG_nil sideM_ok ?_
  refine goG_cond sideM_ok (t := false) (by simp [Act.eval]; try omega) ?_
  simp only [Bool.false_eq_true, if_false]
  refine goG_skip sideM_ok (by simp [base]) ?_
  repeat (refine goG_seq sideM_ok ?_)
  refine goG_region sideM_ok ?_
  simp only [List.size_toArray, List.length_cons, List.length_nil, Nat.reduceAdd, Nat.zero_add, List.range, List.range.loop]
  refine goG_op rfl (by rfl) (by simp [base]) ?_
  intro wO hR K hK2
  replace hF := hF.rely hR
  clear hR
  go_simp
  refine hK2 _ _ ⟨?_, ?_⟩
  · rw [listed_nil (by simp [go_sem])]
    exact dmain_same (by simp)
  clear hK2 K
  try walk_nrm
  refine goG_op rfl (by rfl) (by simp [base]) ?_
  intro wO hR K hK2
  replace hF := hF.rely hR
  clear hR
  go_simp
  refine hK2 _ _ ⟨?_, ?_⟩
  · rw [listed_nil (by simp [go_sem])]
    exact dmain_same (by simp)
  clear hK2 K
  try walk_nrm
  refine goG_op rfl (by rfl) (by simp [base]) ?_
  intro wO hR K hK2
  replace hF := hF.rely hR
  clear hR
  go_simp
  refine hK2 _ _ ⟨?_, ?_⟩
  · rw [listed_nil (by simp [go_sem])]
    exact dmain_same (by simp)
  clear hK2 K
  try walk_nrm
  refine goG_nil sideM_ok ?_
  refine goG_cond sideM_ok (t := false) (by simp [Act.eval]; try omega) ?_
  simp only [Bool.false_eq_true, if_false]
  refine goG_skip sideM_ok (by simp [base]) ?_
  repeat (refine goG_seq sideM_ok ?_)
  refine goG_region sideM_ok ?_
  simp only [List.size_toArray, List.length_cons, List.length_nil, Nat.reduceAdd, Nat.zero_add, List.range, List.range.loop]
  refine goG_op rfl (by rfl) (by simp [base]) ?_
  intro wO hR K hK2
  replace hF := hF.rely hR
  clear hR
  go_simp
  refine hK2 _ _ ⟨?_, ?_⟩
  · rw [listed_nil (by simp [go_sem])]
    exact dmain_same (by simp)
  clear hK2 K
  try walk_nrm
  have hF0 := hF
  refine goG_call (x := bodyOne) sideM_ok rfl (by rfl) (by simp [base]) rfl Try.func46 (by rfl) (by rfl) ?_
  walk_nrm
  simp only [Try.ntmps46, List.size_toArray, List.length_cons, List.length_nil, Nat.reduceAdd, Nat.reduceSub, Array.replicate_succ, Array.replicate_zero, List.push_toArray, List.append_toArray, List.nil_append, List.cons_append]
  apply OneEdit_main (Post := EndPost W0) (s := s) hs
  clear hF
  intro h w3 hb3
  rw [fin29 _ _ _ _ _ _ _ _ rfl]
  rw [hGG.out] at hb3
  have hF := Ls5OneEdit.first hF0 hb3
  clear hF0 hb3
  walk_nrm
  refine goG_op rfl (by rfl) (by simp [base]) ?_
  intro wO hR K hK2
  replace hF := hF.rely hR
  clear hR
  go_simp
  refine hK2 _ _ ⟨?_, ?_⟩
  · rw [listed_nil (by simp [go_sem])]
    exact dmain_same (by simp)
  clear hK2 K
  try walk_nrm
  refine goG_nil sideM_ok ?_
  repeat (refine goG_seq sideM_ok ?_)
  refine goG_region sideM_ok ?_
  simp only [List.size_toArray, List.length_cons, List.length_nil, Nat.reduceAdd, Nat.zero_add, List.range, List.range.loop]
  refine goG_op rfl (by rfl) (by simp [base]) ?_
  intro wO hR K hK2
  replace hF := hF.rely hR
  clear hR
  go_simp
  refine hK2 _ _ ⟨?_, ?_⟩
  · rw [listed_nil (by simp [go_sem])]
    exact dmain_same (by simp)
  clear hK2 K
  try walk_nrm
  refine goG_op rfl (by rfl) (by simp [base]) ?_
  intro wO hR K hK2
  replace hF := hF.rely hR
  clear hR
  go_simp
  refine hK2 _ _ ⟨?_, ?_⟩
  · rw [listed_nil (by simp [go_sem])]
    exact dmain_same (by simp)
  clear hK2 K
  try walk_nrm
  refine goG_lone (Rr := fun r w' => r = .bool true ∧ Hp wO.heap.size wO w') goodP okEqCd Try.func49 (by rfl) (by rfl) (by rfl) rfl (by rfl) (by simp [base]) rfl ?_ ?_ ?_
  · rintro r W τ d o τ' d' o' ⟨h1, h2⟩
    exact ⟨h1, h2.re⟩
  · intro τ d o
    walk_nrm
    refine (eqCandidateS_any _ _ _ _ _ _ (rowRd_to τ d o hF.rh.weak) (rowRd_to τ d o hF.out.ru.weak)).mono ?_
    rintro e w2 ⟨rfl, hb⟩
    exact ⟨_, rfl, rfl, Hp.of hb⟩
  rintro r w2 ht ho ⟨rfl, hh⟩
  replace hF := hF.kept (hh.below ht ho)
  clear ht ho hh
  walk_nrm
  refine goG_op rfl (by rfl) (by simp [base]) ?_
  intro wO hR K hK2
  replace hF := hF.rely hR
  clear hR
  go_simp
  refine hK2 _ _ ⟨?_, ?_⟩
  · rw [listed_nil (by simp [go_sem])]
    exact dmain_same (by simp)
  clear hK2 K
  try walk_nrm
  refine goG_nil sideM_ok ?_
  refine goG_cond sideM_ok (t := false) (by simp [Act.eval]; try omega) ?_
  simp only [Bool.false_eq_true, if_false]
  refine goG_skip sideM_ok (by simp [base]) ?_
  repeat (refine goG_seq sideM_ok ?_)
  refine goG_region sideM_ok ?_
  simp only [List.size_toArray, List.length_cons, List.length_nil, Nat.reduceAdd, Nat.zero_add, List.range, List.range.loop]
  refine goG_op rfl (by rfl) (by simp [base]) ?_
  intro wO hR K hK2
  replace hF := hF.rely hR
  clear hR
  go_simp
  refine hK2 _ _ ⟨?_, ?_⟩
  · rw [listed_nil (by simp [go_sem])]
    exact dmain_same (by simp)
  clear hK2 K
  try walk_nrm
  refine goG_nil sideM_ok ?_
  repeat (refine goG_seq sideM_ok ?_)
  refine goG_region sideM_ok ?_
  simp only [List.size_toArray, List.length_cons, List.length_nil, Nat.reduceAdd, Nat.zero_add, List.range, List.range.loop]
  refine goG_op rfl (by rfl) (by simp [base]) ?_
  intro wO hR K hK2
  replace hF := hF.rely hR
  clear hR
  go_simp
  refine hK2 _ _ ⟨?_, ?_⟩
  · rw [listed_nil (by simp [go_sem])]
    exact dmain_same (by simp)
  clear hK2 K
  try walk_nrm
  refine goG_op rfl (by rfl) (by simp [base]) ?_
  intro wO hR K hK2
  replace hF := hF.rely hR
  clear hR
  go_simp
  refine hK2 _ _ ⟨?_, ?_⟩
  · rw [listed_nil (by simp [go_sem])]
    exact dmain_same (by simp)
  clear hK2 K
  try walk_nrm
  refine goG_lone (Rr := fun r w' => r = .int .i64 ((M : Nat) : Int) ∧ Hp wO.heap.size wO w') goodP okHeldCd Try.func51 (by rfl) (by rfl) (by rfl) rfl (by rfl) (by simp [base]) rfl ?_ ?_ ?_
  · rintro r W τ d o τ' d' o' ⟨h1, h2⟩
    exact ⟨h1, h2.re⟩
  · intro τ d o
    walk_nrm
    refine (heldCandidateS_any _ _ 1 1 rfl _ _ (by rw [HM.out]; exact hM2) (by omega) (rowRd_to τ d o hF.rv.weak)).mono ?_
    rintro e w2 ⟨rfl, hb⟩
    exact ⟨_, rfl, by rw [HM.out], Hp.of hb⟩
  rintro r w2 ht ho ⟨rfl, hh⟩
  replace hF := hF.kept (hh.below ht ho)
  clear ht ho hh
  walk_nrm
  refine goG_op rfl (by rfl) (by simp [base]) ?_
  intro wO hR K hK2
  replace hF := hF.rely hR
  clear hR
  go_simp
  refine hK2 _ _ ⟨?_, ?_⟩
  · rw [listed_nil (by simp [go_sem])]
    exact dmain_same (by simp)
  clear hK2 K
  try walk_nrm
  refine goG_nil sideM_ok ?_
  repeat (refine goG_seq sideM_ok ?_)
  refine goG_region sideM_ok ?_
  simp only [List.size_toArray, List.length_cons, List.length_nil, Nat.reduceAdd, Nat.zero_add, List.range, List.range.loop]
  refine goG_op rfl (by rfl) (by simp [base]) ?_
  intro wO hR K hK2
  replace hF := hF.rely hR
  clear hR
  go_simp
  refine hK2 _ _ ⟨?_, ?_⟩
  · rw [listed_nil (by simp [go_sem])]
    exact dmain_same (by simp)
  clear hK2 K
  try walk_nrm
  refine goG_op rfl (by rfl) (by simp [base]) ?_
  intro wO hR K hK2
  replace hF := hF.rely hR
  clear hR
  go_simp
  refine hK2 _ _ ⟨?_, ?_⟩
  · rw [listed_nil (by simp [go_sem])]
    exact dmain_same (by simp)
  clear hK2 K
  try walk_nrm
  refine goG_nil sideM_ok ?_
  refine goG_cond sideM_ok (t := false) (by simp [Act.eval]; try omega) ?_
  simp only [Bool.false_eq_true, if_false]
  refine goG_skip sideM_ok (by simp [base]) ?_
  repeat (refine goG_seq sideM_ok ?_)
  refine goG_region sideM_ok ?_
  simp only [List.size_toArray, List.length_cons, List.length_nil, Nat.reduceAdd, Nat.zero_add, List.range, List.range.loop]
  refine goG_op rfl (by rfl) (by simp [base]) ?_
  intro wO hR K hK2
  replace hF := hF.rely hR
  clear hR
  go_simp
  refine hK2 _ _ ⟨?_, ?_⟩
  · rw [listed_nil (by simp [go_sem])]
    exact dmain_same (by simp)
  clear hK2 K
  try walk_nrm
  refine goG_op rfl (by rfl) (by simp [base]) ?_
  intro wO hR K hK2
  replace hF := hF.rely hR
  clear hR
  go_simp
  refine hK2 _ _ ⟨?_, ?_⟩
  · rw [listed_nil (by simp [go_sem])]
    exact dmain_same (by simp)
  clear hK2 K
  try walk_nrm
  refine goG_op rfl (by rfl) (by simp [base]) ?_
  intro wO hR K hK2
  replace hF := hF.rely hR
  clear hR
  go_simp
  refine hK2 _ _ ⟨?_, ?_⟩
  · rw [listed_nil (by simp [go_sem])]
    exact dmain_same (by simp)
  clear hK2 K
  try walk_nrm
  refine goG_nil sideM_ok ?_
  refine goG_cond sideM_ok (t := false) (by simp [Act.eval]; try omega) ?_
  simp only [Bool.false_eq_true, if_false]
  refine goG_skip sideM_ok (by simp [base]) ?_
  repeat (refine goG_seq sideM_ok ?_)
  refine goG_region sideM_ok ?_
  simp only [List.size_toArray, List.length_cons, List.length_nil, Nat.reduceAdd, Nat.zero_add, List.range, List.range.loop]
  refine goG_op rfl (by rfl) (by simp [base]) ?_
  intro wO hR K hK2
  replace hF := hF.rely hR
  clear hR
  go_simp
  refine hK2 _ _ ⟨?_, ?_⟩
  · rw [listed_nil (by simp [go_sem])]
    exact dmain_same (by simp)
  clear hK2 K
  try walk_nrm
  refine goG_nil sideM_ok ?_
  refine goG_ret sideM_ok (by simp [base]) fun todo => ?_
  exact law_end Try.func8 (by rfl) (by decide) rfl (by simp) hF.out.bm
end Go.Proofs.Ytlkhknoaifbajaa
