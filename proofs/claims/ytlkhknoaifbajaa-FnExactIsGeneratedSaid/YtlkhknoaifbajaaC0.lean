/- Merged: Lt10. -/
import Derived.Test.YtlkhknoaifbajaaA7
/- From a lone run, at every tape, of any frame of plain text: the same beside others. -/
namespace Go.Proofs.Ytlkhknoaifbajaa
open Go Go.Conc
set_option linter.unusedVariables false
set_option linter.unusedSimpArgs false
set_option maxRecDepth 4000

section
variable {p : Program} {ok : FuncId → Bool} {Q : Frame → World → Prop}
/-- ████ FROM THE RUN OF ONE GOROUTINE ALONE, AT EVERY TAPE, OF WHATEVER FRAME. ████ -/
theorem safe_of_run (hp : GoodP ok p) {fr0 : Frame} {w : World} {R : Frame → World → Prop} (hg0 : GoodF ok fr0)
    (hc : ∀ (τ : Ans) (d : Nat) (o : Array (Nat × ByteArray)), ∃ fr' w', R fr' w' ∧ (∃ N, runN p N (lone fr0 [trap] (re w τ d o)) = .next (lone fr' [trap] w')) ∧ fr'.mode = .returning)
    (hQ : ∀ fr W τ d o, fr.mode = .returning → R fr (re W τ d o) → Q fr W) : Safe p Q fr0 [] w := by
  refine Classical.byContradiction fun hn => ?_
  let s0 : BadSt p ok Q := ⟨⟨fr0, [], w⟩, ⟨hg0, ⟨(fun c hc => absurd hc List.not_mem_nil), hn⟩⟩⟩
  let S := path s0
  let K : Nat → Nat := fun n => (nxt (S n)).2.1
  let F : Nat → Ans := fun n => (nxt (S n)).1
  let τ := tapeOf K F
  let Live : Nat → Prop := fun n => ∃ f k s', Move ok p Q (S n).1 f k s'
  have hmv : ∀ n, Live n → step p (lone (S n).1.fr ((S n).1.l ++ [trap]) (re (S n).1.w τ (V K n) #[])) = .next (lone (S (n + 1)).1.fr ((S (n + 1)).1.l ++ [trap]) (re (S (n + 1)).1.w τ (V K (n + 1)) #[])) := by
    intro n hl
    obtain ⟨u, hs⟩ := nxt_move hl
    exact step_solo_go rfl (hs [trap] true τ (V K n) #[] (tapeOf_agree K F n))
  have hrun : ∀ n, (∀ m, m < n → Live m) → runN p n (lone (S 0).1.fr ((S 0).1.l ++ [trap]) (re (S 0).1.w τ (V K 0) #[])) = .next (lone (S n).1.fr ((S n).1.l ++ [trap]) (re (S n).1.w τ (V K n) #[])) := by
    intro n
    induction n with
    | zero => exact fun _ => rfl
    | succ n ih =>
      intro hl
      rw [runN_add, ih fun m hm => hl m (by omega)]
      simp only [runN, hmv n (hl n (by omega))]
  obtain ⟨fr', w', hR, ⟨N, hN⟩, hmode⟩ := hc τ 0 #[]
  have hN' : runN p N (lone (S 0).1.fr ((S 0).1.l ++ [trap]) (re (S 0).1.w τ (V K 0) #[])) = .next (lone fr' [trap] w') := hN
  -- nothing stops ahead of N
  have hlive : ∀ m, m < N → Live m := by
    intro m
    induction m using Nat.strongRecOn with
    | ind m ih =>
      intro hm
      have hpre : ∀ j, j < m → Live j := fun j hj => ih j hj (by omega)
      have hat := hrun m hpre
      obtain ⟨r, rfl⟩ : ∃ r, N = m + (r + 1) := ⟨N - m - 1, by omega⟩
      rw [runN_add, hat] at hN'
      dsimp only at hN'
      refine Classical.byContradiction fun hnl => ?_
      rcases bad_next hp (S m).2 with ⟨hl0, hm0, _⟩ | ⟨g, k, hfall⟩ | hlv'
      · -- it has come to the end of the call: behind it stands the trap
        rw [hl0] at hN'
        have hout := out_trap (p := p) (w := re (S m).1.w τ (V K m) #[]) (S m).2.1 hm0
        rcases hout with ⟨oc, w1, he⟩ | ⟨w1, he⟩
        · exact Over.of_ended he r _ hN'
        · have hN2 : runN p r (solo (G trap []) w1) = .next (lone fr' [trap] w') := by
            rw [← hN']
            show _ = runN p (r + 1) (solo (G (S m).1.fr [trap]) (re (S m).1.w τ (V K m) #[]))
            simp [runN, he]
          cases r with
          | zero =>
            have := congrArg (fun m => (m.gs[0]?).map (·.callers)) (Stepped.next.inj hN2)
            simp [solo, lone, G] at this
          | succ r =>
            obtain ⟨oc, w2, he2⟩ := trap_ends (P := p) (w := w1)
            exact Over.of_ended he2 r _ hN2
      · have hf := nxt_falls hnl ⟨g, k, hfall⟩
        rcases hf [trap] true τ (V K m) #[] (tapeOf_agree K F m) with ⟨oc, W, u, he⟩ | ⟨chain, W, u, he⟩
        · exact Over.of_ended (step_solo_ended rfl he) r _ hN'
        · have hs := step_solo_go (P := p) rfl he
          have hN2 : runN p r (solo (G { (S m).1.fr with mode := .panicking chain } ((S m).1.l ++ [trap])) W) = .next (lone fr' [trap] w') := by
            rw [← hN']
            show _ = runN p (r + 1) (solo (G (S m).1.fr ((S m).1.l ++ [trap])) (re (S m).1.w τ (V K m) #[]))
            simp [runN, hs]
          exact unw_over r (.mid { (S m).1.fr with mode := .panicking chain } _ chain rfl (S m).2.1.defers fun c hc => ⟨((S m).2.2.1 c hc).1.defers, ((S m).2.2.1 c hc).2⟩) hN2 fr' w' rfl hmode
      · exact hnl hlv'
  have hat := hrun N hlive
  rw [hat] at hN'
  have he := Stepped.next.inj hN'
  have h1 : (S N).1.fr = fr' := by
    have := congrArg (fun m => (m.gs[0]?).map (·.frame)) he
    simpa [lone] using this
  have h2 : (S N).1.l ++ [trap] = [trap] := by
    have := congrArg (fun m => (m.gs[0]?).map (·.callers)) he
    simpa [lone] using this
  have h3 : re (S N).1.w τ (V K N) #[] = w' := congrArg (·.world) he
  have h4 : (S N).1.l = [] := by simpa using h2
  have hbad := (S N).2.2.2
  rw [h4] at hbad
  refine hbad (.exit _ _ (h1 ▸ hmode) ?_)
  rw [h1]
  subst h3
  exact hQ _ _ _ _ _ hmode hR
end
end Go.Proofs.Ytlkhknoaifbajaa
