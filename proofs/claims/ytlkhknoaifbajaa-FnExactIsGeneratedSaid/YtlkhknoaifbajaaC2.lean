/- Merged: Rc10 Rc11 Rc12 Rc13 Rc14. -/
import Derived.Test.YtlkhknoaifbajaaB6
import Derived.Laws.StructEq
import Derived.Conc.EventLaws2
/- GOROUTINE 0: two rows of links compared, in company: nothing is made, nothing written. -/
namespace Go.Proofs.Ytlkhknoaifbajaa
open Go.Conc Go.RowKit M
set_option linter.unusedVariables false
set_option linter.unusedSimpArgs false
set_option maxRecDepth 100000

/-- Places that the others leave alone: old memory, and what has been received. -/
def StF (B0 c : Nat) (Got : Nat → Prop) (a : Addr) : Prop := a.block ≠ c ∧ (a.block < B0 ∨ Got a.block)
section
variable {B0 c : Nat} {T : Cls} {O Got : Nat → Prop} {w w' : World} {a : Addr} {u : Value}
theorem cell_lw (h : w.cell? a = some u) : a.block < w.heap.size := by
  cases hb : w.heap[a.block]? with
  | none => simp [World.cell?, hb] at h
  | some o => exact heap_low hb
theorem cell_rely (h : w.cell? a = some u) (hS : StF B0 c Got a) (r : RelyC B0 c T Got w w') : w'.cell? a = some u := by
  rw [World.cell?_of_block (r.2 a.block (cell_lw h) hS.1 (hS.2.imp id .inr))]
  exact h
theorem evC_read (h : w.cell? a = some u) (hS : StF B0 c Got a) : EvF w.heap.size ⟨.cell a, false, false⟩ ∧ ∀ x, (MemAct.ofEvent ⟨.cell a, false, false⟩).touch? = some x → x.loc.isMemory = true → MayC B0 (isC T w) Got x := by
  refine ⟨evF_cell _ _ (cell_lw h), fun x hx _ => ?_⟩
  rw [ofEvent_cell0] at hx
  simp only [MemAct.touch?, Option.some.injEq] at hx
  subst hx
  by_cases hb : a.block < B0
  · exact ⟨a.block, rfl, .inl ⟨rfl, hb⟩⟩
  · exact ⟨a.block, rfl, .inr ⟨by omega, .inr (hS.2.resolve_left hb)⟩⟩
theorem ldC : LetsDraw (DC B0 T Got) := fun w => ⟨⟨rfl, rfl, rfl, Nat.le_refl _, fun _ _ => Iff.rfl⟩, fun _ _ _ => rfl, by simp⟩
theorem odC (w : World) : RelyC B0 c T Got w { w with drawn := w.drawn + 1 } := ⟨⟨rfl, rfl, rfl, Nat.le_refl _, fun _ _ => Iff.rfl⟩, fun _ _ _ _ => rfl⟩
theorem link_at {A : Option Addr} {n cap k : Nat} {l : List DLink} {x : DLink} {F : Addr → Prop} (h : RowRd rLink false w (.slice A n cap) l F) (hk : l[k]? = some x) :
    ∃ g off, A = some ⟨g, off, none⟩ ∧ (w.cell? ⟨g, off + k * 2, none⟩ = some (.int .u8 (x.In.toNat : Int)) ∧ F ⟨g, off + k * 2, none⟩) ∧ (w.cell? ⟨g, off + k * 2 + 1, none⟩ = some (.int .u8 (x.Out.toNat : Int)) ∧ F ⟨g, off + k * 2 + 1, none⟩) := by
  obtain ⟨A', cap', Fk, hv, _, hr⟩ := h
  cases hv
  obtain ⟨g, off, xs, ha, h1, _, h3, _⟩ := hr k x hk
  obtain rfl := rLink_rd h1
  have c0 := h3 0 _ rfl
  have c1 := h3 1 _ rfl
  rw [rLink_size] at c0 c1
  exact ⟨g, off, ha, ⟨c0.1, c0.2.1⟩, ⟨c1.1, c1.2.1⟩⟩
end
theorem eqGuardL4 : Try.prog.eqGuardType Try.prog.depth 65 = false := by kernel_rfl
theorem equalL4 (a b a' b' : Int) (w : World) (es : Array Event) : (Op.equalIn 10000 65 (.agg #[.int .u8 a, .int .u8 b]) (.agg #[.int .u8 a', .int .u8 b'])).run Try.prog w = .ok (decide (a = a' ∧ b = b')) w ∧ (Op.equalIn 10000 65 (.agg #[.int .u8 a, .int .u8 b]) (.agg #[.int .u8 a', .int .u8 b'])).events Try.prog w es = es := by
  have hrun := run_equalIn_struct (P := Try.prog) w 9999 65 #[.int .u8 a, .int .u8 b] #[.int .u8 a', .int .u8 b'] (by kernel_rfl) (by kernel_rfl)
  unfold Program.fieldsOf at hrun
  rw [Try.underlying65] at hrun
  have he : ∀ (d : Nat) (a b : Int) (w : World), (Op.equalIn (d + 1) 5 (.int .u8 a) (.int .u8 b)).run Try.prog w = .ok (decide (a = b)) w := fun d a b w => by
    rw [run_equalIn_int w d 5 .u8 .u8 a b Try.underlying5]
    congr 1
  refine ⟨?_, ?_⟩
  · rw [hrun]
    by_cases h1 : a = a'
    · by_cases h2 : b = b'
      · simp [Op.eqFields, part, Sem.run_bind, Try.isAgg5, he 9998, h1, h2]
      · simp [Op.eqFields, part, Sem.run_bind, Try.isAgg5, he 9998, h1, h2]
    · simp [Op.eqFields, part, Sem.run_bind, Try.isAgg5, he 9998, h1]
  · have hp : Try.prog.stoodInHeld 65 = false := by kernel_rfl
    have hv : ∀ (d : Nat) (a b : Int) (w : World) (es : Array Event), (Op.equalIn (d + 1) 5 (.int .u8 a) (.int .u8 b)).events Try.prog w es = es := fun d a b w es => by
      simp [Op.equalIn, Sem.events_bind, run_underlying Try.underlying5]
    rw [show (10000 : Nat) = 9999 + 1 from rfl]
    unfold Op.equalIn
    by_cases h1 : a = a'
    · by_cases h2 : b = b'
      · simp [Sem.events_bind, run_underlying Try.underlying65, hp, part, Sem.run_bind, Try.isAgg5, he 9998, hv 9998, h1, h2]
      · simp [Sem.events_bind, run_underlying Try.underlying65, hp, part, Sem.run_bind, Try.isAgg5, he 9998, hv 9998, h1, h2]
    · simp [Sem.events_bind, run_underlying Try.underlying65, hp, part, Sem.run_bind, Try.isAgg5, he 9998, hv 9998, h1]
noncomputable def R86 : Code := match Try.f86.body with | some (.seq _ (.seq _ (.seq (.seq _ (.block _ (.loop (.seq _ (.seq _ (.seq (.block _ (.seq _ (.seq r _))) _)))))) _))) => r | _ => .skip
def T86 (v u : Value) (n : Nat) (i k : Int) (t : Value) (x : Array Value) : Array Value := #[v, u, undef, undef, .bool false, .int .i64 i, v, .int .i64 (n : Int), u, .int .i64 (n : Int), .bool false, v, .int .i64 (n : Int), .int .i64 k, .bool true, .int .i64 k, x.getD 0 undef, x.getD 1 undef, x.getD 2 undef, x.getD 3 undef, x.getD 4 undef, x.getD 5 undef, x.getD 6 undef, x.getD 7 undef, t, x.getD 8 undef]
set_option maxHeartbeats 4000000 in
theorem r86_c {B0 c : Nat} {O : Nat → Prop} {Got : Nat → Prop} (w0 w : World) (l m : List DLink) (A A2 : Option Addr) (cap cap2 k : Nat) (a b : DLink) (t : Value) (x : Array Value) (hl : RowRd rLink false w0 (.slice A l.length cap) l (StF B0 c Got)) (hm : RowRd rLink false w0 (.slice A2 l.length cap2) m (StF B0 c Got)) (ha : l[k]? = some a) (hb : m[k]? = some b) (hk : k < l.length)
    (hF : RelyC B0 c (TO O) Got w0 w) :
    ∃ n, R86.wpC Try.prog true (RelyC B0 c (TO O) Got) (DC B0 (TO O) Got) 86 n (fun e a' w' => Got = Got ∧ e = .normal ∧ (∃ x', a' = { tmps := T86 (.slice A l.length cap) (.slice A2 l.length cap2) l.length k k (.bool (!decide (a = b))) x', defers := [] }) ∧ RelyC B0 c (TO O) Got w0 w')
      { tmps := T86 (.slice A l.length cap) (.slice A2 l.length cap2) l.length k k t x, defers := [] } w := by
  obtain ⟨g, off, rfl, c0, c1⟩ := link_at hl ha
  obtain ⟨g2, off2, rfl, d0, d1⟩ := link_at hm hb
  have hq := fun w es => equalL4 (a.In.toNat : Int) (a.Out.toNat : Int) (b.In.toNat : Int) (b.Out.toNat : Int) w es
  have hab : decide ((a.In.toNat : Int) = (b.In.toNat : Int) ∧ (a.Out.toNat : Int) = (b.Out.toNat : Int)) = decide (a = b) := by
    obtain ⟨a, b'⟩ := a
    obtain ⟨x, y⟩ := b
    simp [DLink.mk.injEq, u8_eq]
  rw [hab] at hq
  clear hl hm hab
  generalize (a.In.toNat : Int) = a0 at *
  generalize (a.Out.toNat : Int) = a1 at *
  generalize (b.In.toNat : Int) = b0 at *
  generalize (b.Out.toNat : Int) = b1 at *
  generalize decide (a = b) = r at *
  have heq := eqGuardL4
  have hki : (0 : Int) ≤ (k : Int) ∧ (k : Int) < (l.length : Nat) := ⟨by omega, by omega⟩
  have Tm := termsC B0 c (TO O) Got
  co_apply Exists.intro
  dsimp only [R86, Try.f86, T86]
  co_held Tm ldC odC (fun w' => RelyC B0 c (TO O) Got w0 w') RelyC.trans hF
  co_applyP anyCH_take Tm (fun _ _ h r => RelyC.trans h r) (fun _ _ _ h r => ⟨h.1, h.2.1, h.2.2.1, RelyC.trans h.2.2.2 r⟩) (i := 0) rfl (by first | kernel_rfl | decide +kernel) (by first | kernel_rfl | decide +kernel) (by first | kernel_rfl | decide +kernel) (.inl ⟨by rfl, fun _ hw => ⟨run_eq_of ?run0, ?guar0⟩⟩) hF ?rest0
  case run0 =>
    intro K hK
    go_simp
    exact hK
  case guar0 =>
    co_quiet Tm
  try walk_nrm
  co_applyP anyCH_take Tm (fun _ _ h r => RelyC.trans h r) (fun _ _ _ h r => ⟨h.1, h.2.1, h.2.2.1, RelyC.trans h.2.2.2 r⟩) (i := 1) rfl (by first | kernel_rfl | decide +kernel) (by first | kernel_rfl | decide +kernel) (by first | kernel_rfl | decide +kernel) (.inl ⟨by rfl, fun _ hw => ⟨run_eq_of ?run1, ?guar1⟩⟩) hF ?rest1
  case run1 =>
    intro K hK
    go_simp
    exact hK
  case guar1 =>
    co_quiet Tm
  try walk_nrm
  co_applyP anyCH_take Tm (fun _ _ h r => RelyC.trans h r) (fun _ _ _ h r => ⟨h.1, h.2.1, h.2.2.1, RelyC.trans h.2.2.2 r⟩) (i := 2) rfl (by first | kernel_rfl | decide +kernel) (by first | kernel_rfl | decide +kernel) (by first | kernel_rfl | decide +kernel) (.inl ⟨by rfl, fun _ hw => ⟨run_eq_of ?run2, ?guar2⟩⟩) hF ?rest2
  case run2 =>
    intro K hK
    go_simp
    exact hK
  case guar2 =>
    co_still Tm
  try walk_nrm
  co_applyP anyCH_take Tm (fun _ _ h r => RelyC.trans h r) (fun _ _ _ h r => ⟨h.1, h.2.1, h.2.2.1, RelyC.trans h.2.2.2 r⟩) (i := 3) rfl (by first | kernel_rfl | decide +kernel) (by first | kernel_rfl | decide +kernel) (by first | kernel_rfl | decide +kernel) (.inl ⟨by rfl, fun _ hw => ⟨run_eq_of ?run3, ?guar3⟩⟩) hF ?rest3
  case run3 =>
    intro K hK
    have e0 := cell_rely c0.1 c0.2 hw; have e1 := cell_rely c1.1 c1.2 hw
    go_simp
    exact hK
  case guar3 =>
    have e0 := cell_rely c0.1 c0.2 hw; have e1 := cell_rely c1.1 c1.2 hw
    refine ⟨Grow.refl _ _, fun _ _ _ => rfl, fun e he => ?_⟩; have hm2 := mem_listed he; simp [go_sem, *] at hm2; rcases hm2 with rfl | rfl; exact evC_read e0 c0.2; exact evC_read e1 c1.2
  try walk_nrm
  co_applyP anyCH_take Tm (fun _ _ h r => RelyC.trans h r) (fun _ _ _ h r => ⟨h.1, h.2.1, h.2.2.1, RelyC.trans h.2.2.2 r⟩) (i := 4) rfl (by first | kernel_rfl | decide +kernel) (by first | kernel_rfl | decide +kernel) (by first | kernel_rfl | decide +kernel) (.inl ⟨by rfl, fun _ hw => ⟨run_eq_of ?run4, ?guar4⟩⟩) hF ?rest4
  case run4 =>
    intro K hK
    go_simp
    exact hK
  case guar4 =>
    co_quiet Tm
  try walk_nrm
  co_applyP anyCH_take Tm (fun _ _ h r => RelyC.trans h r) (fun _ _ _ h r => ⟨h.1, h.2.1, h.2.2.1, RelyC.trans h.2.2.2 r⟩) (i := 5) rfl (by first | kernel_rfl | decide +kernel) (by first | kernel_rfl | decide +kernel) (by first | kernel_rfl | decide +kernel) (.inl ⟨by rfl, fun _ hw => ⟨run_eq_of ?run5, ?guar5⟩⟩) hF ?rest5
  case run5 =>
    intro K hK
    go_simp
    exact hK
  case guar5 =>
    co_quiet Tm
  try walk_nrm
  co_applyP anyCH_take Tm (fun _ _ h r => RelyC.trans h r) (fun _ _ _ h r => ⟨h.1, h.2.1, h.2.2.1, RelyC.trans h.2.2.2 r⟩) (i := 6) rfl (by first | kernel_rfl | decide +kernel) (by first | kernel_rfl | decide +kernel) (by first | kernel_rfl | decide +kernel) (.inl ⟨by rfl, fun _ hw => ⟨run_eq_of ?run6, ?guar6⟩⟩) hF ?rest6
  case run6 =>
    intro K hK
    go_simp
    exact hK
  case guar6 =>
    co_still Tm
  try walk_nrm
  co_applyP anyCH_take Tm (fun _ _ h r => RelyC.trans h r) (fun _ _ _ h r => ⟨h.1, h.2.1, h.2.2.1, RelyC.trans h.2.2.2 r⟩) (i := 7) rfl (by first | kernel_rfl | decide +kernel) (by first | kernel_rfl | decide +kernel) (by first | kernel_rfl | decide +kernel) (.inl ⟨by rfl, fun _ hw => ⟨run_eq_of ?run7, ?guar7⟩⟩) hF ?rest7
  case run7 =>
    intro K hK
    have e0 := cell_rely d0.1 d0.2 hw; have e1 := cell_rely d1.1 d1.2 hw
    go_simp
    exact hK
  case guar7 =>
    have e0 := cell_rely d0.1 d0.2 hw; have e1 := cell_rely d1.1 d1.2 hw
    refine ⟨Grow.refl _ _, fun _ _ _ => rfl, fun e he => ?_⟩; have hm2 := mem_listed he; simp [go_sem, *] at hm2; rcases hm2 with rfl | rfl; exact evC_read e0 d0.2; exact evC_read e1 d1.2
  try walk_nrm
  co_applyP anyCH_take Tm (fun _ _ h r => RelyC.trans h r) (fun _ _ _ h r => ⟨h.1, h.2.1, h.2.2.1, RelyC.trans h.2.2.2 r⟩) (i := 8) rfl (by first | kernel_rfl | decide +kernel) (by first | kernel_rfl | decide +kernel) (by first | kernel_rfl | decide +kernel) (.inl ⟨by rfl, fun _ hw => ⟨run_eq_of ?run8, ?guar8⟩⟩) hF ?rest8
  case run8 =>
    intro K hK
    have hq1 := fun w => (hq w #[]).1; have hq2 : ∀ w es, (Op.equalIn Op.maxDepth 65 (.agg #[.int .u8 a0, .int .u8 a1]) (.agg #[.int .u8 b0, .int .u8 b1])).events Try.prog w es = es := fun w es => (hq w es).2
    go_simp
    exact hK
  case guar8 =>
    have hq1 := fun w => (hq w #[]).1; have hq2 : ∀ w es, (Op.equalIn Op.maxDepth 65 (.agg #[.int .u8 a0, .int .u8 a1]) (.agg #[.int .u8 b0, .int .u8 b1])).events Try.prog w es = es := fun w es => (hq w es).2
    rw [listed_nil (by simp [go_sem, binOp, eqGuard, Op.equal, Sem.events_bind, *])]; exact Tm.idle _
  try walk_nrm
  refine anyCH_done (by first | kernel_rfl | decide +kernel) ?_ _
  exact ⟨trivial, rfl, ⟨#[_, _, _, _, _, _, _, _, _], rfl⟩, hF⟩
theorem r86_g {B0 c : Nat} {O : Nat → Prop} {Got : Nat → Prop} {Fin : Goroutine → World → Prop} (w0 w : World) (l m : List DLink) (A A2 : Option Addr) (cap cap2 k : Nat) (a b : DLink) (t : Value) (x : Array Value) (hl : RowRd rLink false w0 (.slice A l.length cap) l (StF B0 c Got)) (hm : RowRd rLink false w0 (.slice A2 l.length cap2) m (StF B0 c Got)) (ha : l[k]? = some a) (hb : m[k]? = some b) (hk : k < l.length)
    (hF : RelyC B0 c (TO O) Got w0 w) :
    WG Try.prog (sideC Try.prog B0 c (TO O) O PayL zC Fin) 86 R86 [] Got (fun e a' w' G' => G' = Got ∧ e = .normal ∧ (∃ x', a' = { tmps := T86 (.slice A l.length cap) (.slice A2 l.length cap2) l.length k k (.bool (!decide (a = b))) x', defers := [] }) ∧ RelyC B0 c (TO O) Got w0 w')
      { tmps := T86 (.slice A l.length cap) (.slice A2 l.length cap2) l.length k k t x, defers := [] } w := by
  obtain ⟨N, h⟩ := r86_c w0 w l m A A2 cap cap2 k a b t x hl hm ha hb hk hF
  exact g_of_wpC (S := sideC Try.prog B0 c (TO O) O PayL zC Fin) (γ := Got) sideC_ok (Q := fun e a' w' G' => G' = Got ∧ e = .normal ∧ (∃ x', a' = { tmps := T86 (.slice A l.length cap) (.slice A2 l.length cap2) l.length k k (.bool (!decide (a = b))) x', defers := [] }) ∧ RelyC B0 c (TO O) Got w0 w') h
end Go.Proofs.Ytlkhknoaifbajaa

/- GOROUTINE 0: slices.Equal over rows of links, in company, whole. -/
namespace Go.Proofs.Ytlkhknoaifbajaa
open Go.Conc Go.RowKit M
set_option linter.unusedVariables false
set_option linter.unusedSimpArgs false
set_option maxRecDepth 100000

theorem runX_nil {α : Type} : ∀ (j r : Nat), runX (fun _ => ([] : List α)) j r = []
  | _, 0 => rfl
  | j, r + 1 => by simp only [runX, List.nil_append]; exact runX_nil (j + 1) r
/-- Where two rows of one length first differ. -/
theorem first_diff {α : Type} [DecidableEq α] (l m : List α) : ∃ d, d ≤ l.length ∧ (∀ j, j < d → l[j]? = m[j]?) ∧ (d = l.length ∨ ¬ l[d]? = m[d]?) := by
  have key : ∀ r d, d + r = l.length → (∀ j, j < d → l[j]? = m[j]?) → ∃ d, d ≤ l.length ∧ (∀ j, j < d → l[j]? = m[j]?) ∧ (d = l.length ∨ ¬ l[d]? = m[d]?) := by
    intro r
    induction r with
    | zero => exact fun d hd h => ⟨d, by omega, h, .inl (by omega)⟩
    | succ r ih =>
      intro d hd h
      by_cases e : l[d]? = m[d]?
      · refine ih (d + 1) (by omega) fun j hj => ?_
        by_cases hjd : j = d
        · subst hjd; exact e
        · exact h j (by omega)
      · exact ⟨d, by omega, h, .inr e⟩
  exact key l.length 0 (by omega) fun j hj => by omega
theorem g_loop0 {P : Program} {α σ : Type} {S : Side α σ} {fn : FuncId} {γ : σ} {Q : Exit → Act → World → σ → Prop} {a : Act} {w : World} (ok : SideOk S) {x : Code} (n : Nat) (I : Nat → Act → World → σ → Prop)
    (round : ∀ j a w γ, j < n → I j a w γ → WG P S fn x [] γ (fun e a' w' γ' => e = .normal ∧ I (j + 1) a' w' γ') a w)
    (last : ∀ a w γ, I n a w γ → WG P S fn x [] γ (fun e a' w' γ' => e ≠ .normal ∧ Q e a' w' γ') a w)
    (h0 : I 0 a w γ) : WG P S fn (.loop x) [] γ Q a w := by
  have := g_loop ok n (fun _ => ([] : List α)) I round last h0
  rwa [runX_nil] at this
def L86 (v u : Value) (n k : Nat) (x : Array Value) : Array Value := #[v, u, undef, undef, .bool false, x.getD 0 undef, v, .int .i64 (n : Int), u, .int .i64 (n : Int), .bool false, v, .int .i64 (n : Int), .int .i64 (k : Int), x.getD 1 undef, x.getD 2 undef, x.getD 3 undef, x.getD 4 undef, x.getD 5 undef, x.getD 6 undef, x.getD 7 undef, x.getD 8 undef, x.getD 9 undef, x.getD 10 undef, x.getD 11 undef, x.getD 12 undef]
noncomputable def X86 : Code := match Try.f86.body with | some (.seq _ (.seq _ (.seq (.seq _ (.block _ (.loop x))) _))) => x | _ => .skip
section
variable {B0 c : Nat} {O Got : Nat → Prop} {Fin : Goroutine → World → Prop} (w0 : World) (l m : List DLink) (A A2 : Option Addr) (cap cap2 : Nat)
/-- One round: both places read and compared. -/
theorem r86_step (w : World) (k : Nat) (x : Array Value) (a b : DLink) (hl : RowRd rLink false w0 (.slice A l.length cap) l (StF B0 c Got)) (hm : RowRd rLink false w0 (.slice A2 l.length cap2) m (StF B0 c Got)) (ha : l[k]? = some a) (hb : m[k]? = some b) (hk : k < l.length) (hmx : l.length ≤ 1000) (hF : RelyC B0 c (TO O) Got w0 w) :
    WG Try.prog (sideC Try.prog B0 c (TO O) O PayL zC Fin) 86 X86 [] Got (fun e a' w' Got' => Got' = Got ∧ RelyC B0 c (TO O) Got w0 w' ∧ (if a = b then e = .normal ∧ ∃ x', a' = { tmps := L86 (.slice A l.length cap) (.slice A2 l.length cap2) l.length (k + 1) x', defers := [] } else e = .ret ∧ a'.defers = [] ∧ a'.tmps.getD 4 undef = .bool false))
      { tmps := L86 (.slice A l.length cap) (.slice A2 l.length cap2) l.length k x, defers := [] } w := by
  have hlt : (k : Int) < (l.length : Int) := by omega
  dsimp only [X86, Try.f86, L86]
  refine g_seq (xs := []) (xs' := []) sideC_ok ?_
  refine g_region sideC_ok ?_
  simp only [List.size_toArray, List.length_cons, List.length_nil, Nat.reduceAdd, Nat.zero_add, List.range, List.range.loop]
  refine g_cons_k rfl (by rfl) ?_
  intro wO hR K hK
  replace hF := hF.trans hR
  clear hR
  go_simp
  refine hK _ _ ⟨?_, ?_⟩
  · rw [listed_nil (by simp [go_sem, *])]
    exact (sideC_ok.terms _).idle _
  clear hK K
  try walk_nrm
  refine g_nil sideC_ok ?_
  simp only [ThenS]
  refine g_seq (xs := []) (xs' := []) sideC_ok ?_
  refine g_cond sideC_ok (t := true) (by simp [Act.eval, hlt]) ?_
  simp only [if_true]
  refine g_skip sideC_ok ?_
  simp only [ThenS]
  refine g_seq (xs := []) (xs' := []) sideC_ok ?_
  refine g_block sideC_ok ?_
  refine g_seq (xs := []) (xs' := []) sideC_ok ?_
  refine g_region sideC_ok ?_
  simp only [List.size_toArray, List.length_cons, List.length_nil, Nat.reduceAdd, Nat.zero_add, List.range, List.range.loop]
  refine g_cons_k rfl (by rfl) ?_
  intro wO hR K hK
  replace hF := hF.trans hR
  clear hR
  go_simp
  refine hK _ _ ⟨?_, ?_⟩
  · rw [listed_nil (by simp [go_sem])]
    exact (sideC_ok.terms _).idle _
  clear hK K
  try walk_nrm
  refine g_cons_k rfl (by rfl) ?_
  intro wO hR K hK
  replace hF := hF.trans hR
  clear hR
  go_simp
  refine hK _ _ ⟨?_, ?_⟩
  · rw [listed_nil (by simp [go_sem])]
    exact (sideC_ok.terms _).idle _
  clear hK K
  try walk_nrm
  refine g_nil sideC_ok ?_
  simp only [ThenS]
  refine g_seq (xs := []) (xs' := []) sideC_ok ?_
  refine ItG.mono (r86_g w0 wO l m A A2 cap cap2 k a b (x[11]?.getD undef) #[x[3]?.getD undef, x[4]?.getD undef, x[5]?.getD undef, x[6]?.getD undef, x[7]?.getD undef, x[8]?.getD undef, x[9]?.getD undef, x[10]?.getD undef, x[12]?.getD undef] hl hm ha hb hk hF) ?_
  clear hF
  rintro e a' w' G' ⟨rfl, rfl, ⟨x', rfl⟩, hF⟩
  simp only [ThenS]
  dsimp only [T86]
  by_cases hab : a = b
  · simp only [hab, decide_true, Bool.not_true, if_true]
    refine g_cond sideC_ok (t := false) (by rfl) ?_
    simp only [Bool.false_eq_true, if_false]
    refine g_skip sideC_ok ?_
    simp only [InBlockS, ThenS]
    have hwr : IntKind.i64.wrap ((k : Int) + 1) = ((k + 1 : Nat) : Int) := by rw [IntWalk.i64_in _ (by omega)]; omega
    refine g_region sideC_ok ?_
    simp only [List.size_toArray, List.length_cons, List.length_nil, Nat.reduceAdd, Nat.zero_add, List.range, List.range.loop]
    refine g_cons_k rfl (by rfl) ?_
    intro wO hR K hK
    replace hF := hF.trans hR
    clear hR
    go_simp
    refine hK _ _ ⟨?_, ?_⟩
    · rw [listed_nil (by simp [go_sem, *])]
      exact (sideC_ok.terms _).idle _
    clear hK K
    try walk_nrm
    refine g_cons_k rfl (by rfl) ?_
    intro wO hR K hK
    replace hF := hF.trans hR
    clear hR
    go_simp
    refine hK _ _ ⟨?_, ?_⟩
    · rw [listed_nil (by simp [go_sem])]
      exact (sideC_ok.terms _).idle _
    clear hK K
    try walk_nrm
    exact g_nil sideC_ok ⟨rfl, hF, rfl, #[_, _, _, _, _, _, _, _, _, _, _, _, _], rfl⟩
  · simp only [hab, decide_false, Bool.not_false, if_false]
    refine g_cond sideC_ok (t := true) (by rfl) ?_
    simp only [if_true]
    refine g_seq (xs := []) (xs' := []) sideC_ok ?_
    refine g_region sideC_ok ?_
    simp only [List.size_toArray, List.length_cons, List.length_nil, Nat.reduceAdd, Nat.zero_add, List.range, List.range.loop]
    refine g_cons_k rfl (by rfl) ?_
    intro wO hR K hK
    replace hF := hF.trans hR
    clear hR
    go_simp
    refine hK _ _ ⟨?_, ?_⟩
    · rw [listed_nil (by simp [go_sem])]
      exact (sideC_ok.terms _).idle _
    clear hK K
    try walk_nrm
    refine g_nil sideC_ok ?_
    simp only [ThenS]
    refine g_ret sideC_ok ?_
    simp only [InBlockS, ThenS]
    refine ⟨?_, ?_, hF, ?_, ?_, ?_⟩ <;> first | trivial | rfl
set_option maxHeartbeats 4000000 in
/-- slices.Equal, whole. -/
theorem equal_c (w : World) (v u : Value) (hv : RowRd rLink false w0 v l (StF B0 c Got)) (hu : RowRd rLink false w0 u m (StF B0 c Got)) (hmx : l.length ≤ 1000) (hF : RelyC B0 c (TO O) Got w0 w) :
    CallsG Try.prog (sideC Try.prog B0 c (TO O) O PayL zC Fin) 86 #[v, u] [] Got (fun r w' Got' => r = .bool (decide (l = m)) ∧ Got' = Got ∧ RelyC B0 c (TO O) Got w0 w') w := by
  obtain ⟨A, cap, rfl⟩ := hv.form
  obtain ⟨A2, cap2, rfl⟩ := hu.form
  refine callsG_of_wg Try.func86 (by rfl) rfl ?_
  simp only [Try.ntmps86, List.size_toArray, List.length_cons, List.length_nil, Nat.reduceAdd, Nat.reduceSub, Array.replicate_succ, Array.replicate_zero, List.push_toArray, List.append_toArray, List.nil_append, List.cons_append]
  have hlr : ∀ (v : Option Addr) (l k : Nat) (w : World) (es : Array Event), (Builtin.len_ #[24] 3 #[.slice v l k]).events Try.prog w es = es := fun v l k w es => by simp [Builtin.len_, Builtin.lenOf, run_underlying Try.underlying24]
  have hN : ∀ {tmps : Array Value} {r : Bool} {w' : World}, tmps.getD 4 undef = .bool r → r = decide (l = m) → RelyC B0 c (TO O) Got w0 w' → bodyPostG Try.prog (sideC Try.prog B0 c (TO O) O PayL zC Fin) 86 Try.f86 (fun r w' Got' => r = .bool (decide (l = m)) ∧ Got' = Got ∧ RelyC B0 c (TO O) Got w0 w') .ret { tmps, defers := [] } w' Got := fun {tmps r w'} h1 h2 h3 =>
    ⟨rfl, _, resultsM_of_C (sideC_ok.terms _).idle (resultsC_tmp (by rfl) _), by rw [h1, h2], rfl, h3⟩
  refine g_seq (xs := []) (xs' := []) sideC_ok ?_
  refine g_region sideC_ok ?_
  simp only [List.size_toArray, List.length_cons, List.length_nil, Nat.reduceAdd, Nat.zero_add, List.range, List.range.loop]
  refine g_cons_k rfl (by rfl) ?_
  intro wO hR K hK
  replace hF := hF.trans hR
  clear hR
  go_simp
  refine hK _ _ ⟨?_, ?_⟩
  · rw [listed_nil (by simp [go_sem])]
    exact (sideC_ok.terms _).idle _
  clear hK K
  try walk_nrm
  refine g_nil sideC_ok ?_
  simp only [ThenS]
  refine g_seq (xs := []) (xs' := []) sideC_ok ?_
  refine g_seq (xs := []) (xs' := []) sideC_ok ?_
  refine g_region sideC_ok ?_
  simp only [List.size_toArray, List.length_cons, List.length_nil, Nat.reduceAdd, Nat.zero_add, List.range, List.range.loop]
  refine g_cons_k rfl (by rfl) ?_
  intro wO hR K hK
  replace hF := hF.trans hR
  clear hR
  go_simp
  refine hK _ _ ⟨?_, ?_⟩
  · rw [listed_nil (by simp [go_sem])]
    exact (sideC_ok.terms _).idle _
  clear hK K
  try walk_nrm
  refine g_cons_k rfl (by rfl) ?_
  intro wO hR K hK
  replace hF := hF.trans hR
  clear hR
  go_simp
  refine hK _ _ ⟨?_, ?_⟩
  · rw [listed_nil (by simp [go_sem, *])]
    exact (sideC_ok.terms _).idle _
  clear hK K
  try walk_nrm
  refine g_cons_k rfl (by rfl) ?_
  intro wO hR K hK
  replace hF := hF.trans hR
  clear hR
  go_simp
  refine hK _ _ ⟨?_, ?_⟩
  · rw [listed_nil (by simp [go_sem])]
    exact (sideC_ok.terms _).idle _
  clear hK K
  try walk_nrm
  refine g_cons_k rfl (by rfl) ?_
  intro wO hR K hK
  replace hF := hF.trans hR
  clear hR
  go_simp
  refine hK _ _ ⟨?_, ?_⟩
  · rw [listed_nil (by simp [go_sem, *])]
    exact (sideC_ok.terms _).idle _
  clear hK K
  try walk_nrm
  refine g_cons_k rfl (by rfl) ?_
  intro wO hR K hK
  replace hF := hF.trans hR
  clear hR
  go_simp
  refine hK _ _ ⟨?_, ?_⟩
  · rw [listed_nil (by simp [go_sem, *])]
    exact (sideC_ok.terms _).idle _
  clear hK K
  try walk_nrm
  refine g_nil sideC_ok ?_
  simp only [ThenS]
  by_cases hlm : l.length = m.length
  case neg =>
    have hne : ¬ l = m := fun e => hlm (by rw [e])
    refine g_cond sideC_ok (t := true) (by simp [Act.eval]; omega) ?_
    simp only [if_true]
    refine g_seq (xs := []) (xs' := []) sideC_ok ?_
    refine g_region sideC_ok ?_
    simp only [List.size_toArray, List.length_cons, List.length_nil, Nat.reduceAdd, Nat.zero_add, List.range, List.range.loop]
    refine g_cons_k rfl (by rfl) ?_
    intro wO hR K hK
    replace hF := hF.trans hR
    clear hR
    go_simp
    refine hK _ _ ⟨?_, ?_⟩
    · rw [listed_nil (by simp [go_sem])]
      exact (sideC_ok.terms _).idle _
    clear hK K
    try walk_nrm
    refine g_nil sideC_ok ?_
    simp only [ThenS]
    refine g_ret sideC_ok ?_
    exact ⟨rfl, hN (r := false) rfl (by simp [hne]) hF⟩
  refine g_cond sideC_ok (t := false) (by simp [Act.eval]; omega) ?_
  simp only [Bool.false_eq_true, if_false]
  refine g_skip sideC_ok ?_
  simp only [ThenS]
  refine g_seq (xs := []) (xs' := []) sideC_ok ?_
  refine g_seq (xs := []) (xs' := []) sideC_ok ?_
  refine g_region sideC_ok ?_
  simp only [List.size_toArray, List.length_cons, List.length_nil, Nat.reduceAdd, Nat.zero_add, List.range, List.range.loop]
  refine g_cons_k rfl (by rfl) ?_
  intro wO hR K hK
  replace hF := hF.trans hR
  clear hR
  go_simp
  refine hK _ _ ⟨?_, ?_⟩
  · rw [listed_nil (by simp [go_sem])]
    exact (sideC_ok.terms _).idle _
  clear hK K
  try walk_nrm
  refine g_cons_k rfl (by rfl) ?_
  intro wO hR K hK
  replace hF := hF.trans hR
  clear hR
  go_simp
  refine hK _ _ ⟨?_, ?_⟩
  · rw [listed_nil (by simp [go_sem, *])]
    exact (sideC_ok.terms _).idle _
  clear hK K
  try walk_nrm
  refine g_cons_k rfl (by rfl) ?_
  intro wO hR K hK
  replace hF := hF.trans hR
  clear hR
  go_simp
  refine hK _ _ ⟨?_, ?_⟩
  · rw [listed_nil (by simp [go_sem])]
    exact (sideC_ok.terms _).idle _
  clear hK K
  try walk_nrm
  refine g_nil sideC_ok ?_
  simp only [ThenS]
  refine g_block sideC_ok ?_
  rw [← hlm] at hu ⊢
  obtain ⟨d, hd1, hd2, hd3⟩ := first_diff l m
  refine g_loop0 sideC_ok d (fun j a' w' G' => G' = Got ∧ RelyC B0 c (TO O) Got w0 w' ∧ ∃ x, a' = { tmps := L86 (.slice A l.length cap) (.slice A2 l.length cap2) l.length j x, defers := [] }) ?round ?last ?start
  case start => exact ⟨rfl, hF, #[_, _, _, _, _, _, _, _, _, _, _, _, _], rfl⟩
  case round =>
    clear hF
    rintro j a' w' G' hj ⟨rfl, hF, x, rfl⟩
    have hjl : j < l.length := by omega
    have ha := List.getElem?_eq_getElem hjl
    have hb := (hd2 j hj).symm.trans ha
    refine ItG.mono (r86_step (Fin := Fin) w0 l m A A2 cap cap2 w' j x _ _ hv hu ha hb hjl hmx hF) ?_
    rintro e a2 w2 G2 ⟨rfl, hF2, h⟩
    rw [if_pos rfl] at h
    obtain ⟨rfl, x', rfl⟩ := h
    exact ⟨rfl, rfl, hF2, x', rfl⟩
  case last =>
    clear hF
    rintro a' w' G' ⟨rfl, hF, x, rfl⟩
    rcases hd3 with hd3 | hd3
    · subst hd3
      have heq : l = m := List.ext_getElem? fun j => by
        by_cases hj : j < l.length
        · exact hd2 j hj
        · rw [List.getElem?_eq_none (by omega), List.getElem?_eq_none (by omega)]
      dsimp only [L86]
      refine g_seq (xs := []) (xs' := []) sideC_ok ?_
      refine g_region sideC_ok ?_
      simp only [List.size_toArray, List.length_cons, List.length_nil, Nat.reduceAdd, Nat.zero_add, List.range, List.range.loop]
      refine g_cons_k rfl (by rfl) ?_
      intro wO hR K hK
      replace hF := hF.trans hR
      clear hR
      go_simp
      refine hK _ _ ⟨?_, ?_⟩
      · rw [listed_nil (by simp [go_sem, *])]
        exact (sideC_ok.terms _).idle _
      clear hK K
      try walk_nrm
      refine g_nil sideC_ok ?_
      simp only [ThenS]
      refine g_seq (xs := []) (xs' := []) sideC_ok ?_
      refine g_cond sideC_ok (t := false) (by simp [Act.eval]) ?_
      simp only [Bool.false_eq_true, if_false]
      refine g_exit sideC_ok ?_
      refine ⟨rfl, by simp, ?_⟩
      simp only [InBlockS, if_true, ThenS]
      refine g_seq (xs := []) (xs' := []) sideC_ok ?_
      refine g_region sideC_ok ?_
      simp only [List.size_toArray, List.length_cons, List.length_nil, Nat.reduceAdd, Nat.zero_add, List.range, List.range.loop]
      refine g_cons_k rfl (by rfl) ?_
      intro wO hR K hK
      replace hF := hF.trans hR
      clear hR
      go_simp
      refine hK _ _ ⟨?_, ?_⟩
      · rw [listed_nil (by simp [go_sem])]
        exact (sideC_ok.terms _).idle _
      clear hK K
      try walk_nrm
      refine g_nil sideC_ok ?_
      simp only [ThenS]
      refine g_ret sideC_ok ?_
      exact hN (r := true) rfl (by simp [heq]) hF
    · have hdl : d < l.length := by
        rcases Nat.lt_or_ge d l.length with h | h
        · exact h
        · exact absurd (by rw [List.getElem?_eq_none h, List.getElem?_eq_none (by omega)]) hd3
      have ha := List.getElem?_eq_getElem hdl
      have hb := List.getElem?_eq_getElem (show d < m.length by omega)
      have hab : ¬ l[d] = m[d] := fun e => hd3 (by rw [ha, hb, e])
      have hne : ¬ l = m := fun e => hd3 (by rw [e])
      refine ItG.mono (r86_step (Fin := Fin) w0 l m A A2 cap cap2 w' d x _ _ hv hu ha hb hdl hmx hF) ?_
      rintro e a2 w2 G2 ⟨rfl, hF2, h⟩
      rw [if_neg hab] at h
      obtain ⟨rfl, h1, h2⟩ := h
      obtain ⟨tm, df⟩ := a2
      dsimp only at h1 h2
      subst h1
      exact ⟨by simp, rfl, hN (r := false) h2 (by simp [hne]) hF2⟩
end
end Go.Proofs.Ytlkhknoaifbajaa

/- GOROUTINE 0: EqualCandidates, in company. -/
namespace Go.Proofs.Ytlkhknoaifbajaa
open Go.Conc Go.RowKit M
set_option linter.unusedVariables false
set_option linter.unusedSimpArgs false
set_option maxRecDepth 100000

theorem rely_alloc {B0 c : Nat} {O Got : Nat → Prop} (w : World) (o : Obj) : RelyC B0 c (TO O) Got w (w.alloc o) :=
  ⟨(dc_alloc (B0 := B0) (T := TO O) (Got := Got) (w := w) o (es := #[]) (by simp)).1, fun b hb _ _ => heap_alloc_old w o hb⟩
set_option maxHeartbeats 4000000 in
theorem equalC_c {B0 c : Nat} {O Got : Nat → Prop} {Fin : Goroutine → World → Prop} (w0 : World) (l m : List DLink) (w : World) (v u : Value) (hc : c < B0) (hB : B0 ≤ w0.heap.size) (hv : RowRd rLink false w0 v l (StF B0 c Got)) (hu : RowRd rLink false w0 u m (StF B0 c Got)) (hmx : l.length ≤ 1000) (hF : RelyC B0 c (TO O) Got w0 w) :
    CallsG Try.prog (sideC Try.prog B0 c (TO O) O PayL zC Fin) 48 #[.agg #[v], .agg #[u]] [] Got (fun r w' Got' => r = .bool (decide (l = m)) ∧ Got' = Got ∧ RelyC B0 c (TO O) Got w0 w') w := by
  have HE : ∀ w, RelyC B0 c (TO O) Got w0 w → CallsG Try.prog (sideC Try.prog B0 c (TO O) O PayL zC Fin) 86 #[v, u] [] Got (fun r w' Got' => r = .bool (decide (l = m)) ∧ Got' = Got ∧ RelyC B0 c (TO O) Got w0 w') w := fun w h => equal_c w0 l m w v u hv hu hmx h
  obtain ⟨A, cap, rfl⟩ := hv.form
  obtain ⟨A2, cap2, rfl⟩ := hu.form
  clear hv hu
  refine callsG_of_wg Try.func48 (by rfl) rfl ?_
  simp only [Try.ntmps48, List.size_toArray, List.length_cons, List.length_nil, Nat.reduceAdd, Nat.reduceSub, Array.replicate_succ, Array.replicate_zero, List.push_toArray, List.append_toArray, List.nil_append, List.cons_append]
  generalize decide (l = m) = r at *
  refine g_seq (xs := []) (xs' := []) sideC_ok ?_
  refine g_region sideC_ok ?_
  simp only [List.size_toArray, List.length_cons, List.length_nil, Nat.reduceAdd, Nat.zero_add, List.range, List.range.loop]
  refine g_make rfl (by rfl) ?_
  intro wO hR K hK
  replace hF := hF.trans hR
  clear hR
  go_simp
  refine hK _ _ (by simp) fun hO => ⟨?_, ?_⟩
  · rw [listed_nil (by simp [go_sem])]
    exact dc_alloc _ (by simp)
  clear hK K
  try walk_nrm
  have hBO : B0 ≤ wO.heap.size := Nat.le_trans hB hF.1.size
  have hb1 : RB B0 O (wO.alloc (.cells #[.slice A l.length cap] 26)) wO.heap.size [.slice A l.length cap] 26 := RB.new hBO (by decide) hO
  replace hF := hF.trans (rely_alloc (O := O) wO (.cells #[.slice A l.length cap] 26))
  clear hO hBO
  generalize wO.alloc _ = wB at *
  generalize wO.heap.size = b1 at *
  refine g_make rfl (by rfl) ?_
  intro wO hR K hK
  replace hF := hF.trans hR
  replace hb1 := hb1.rely hc hR
  clear hR
  go_simp
  refine hK _ _ (by simp) fun hO => ⟨?_, ?_⟩
  · rw [listed_nil (by simp [go_sem])]
    exact dc_alloc _ (by simp)
  clear hK K
  try walk_nrm
  have hBO : B0 ≤ wO.heap.size := Nat.le_trans hB hF.1.size
  have hb2 : RB B0 O (wO.alloc (.cells #[.slice A2 m.length cap2] 26)) wO.heap.size [.slice A2 m.length cap2] 26 := RB.new hBO (by decide) hO
  replace hb1 := hb1.keep (heap_alloc_old wO (.cells #[.slice A2 m.length cap2] 26) hb1.lt)
  replace hF := hF.trans (rely_alloc (O := O) wO (.cells #[.slice A2 m.length cap2] 26))
  clear hO hBO
  generalize wO.alloc _ = wB at *
  generalize wO.heap.size = b2 at *
  refine g_cons_k rfl (by rfl) ?_
  intro wO hR K hK
  replace hF := hF.trans hR
  replace hb1 := hb1.rely hc hR
  replace hb2 := hb2.rely hc hR
  clear hR
  go_simp
  refine hK _ _ ⟨?_, ?_⟩
  · rw [listed_nil (by simp [go_sem])]
    exact (sideC_ok.terms _).idle _
  clear hK K
  try walk_nrm
  refine g_nil sideC_ok ?_
  simp only [ThenS]
  refine g_seq (xs := []) (xs' := []) sideC_ok ?_
  refine g_region sideC_ok ?_
  simp only [List.size_toArray, List.length_cons, List.length_nil, Nat.reduceAdd, Nat.zero_add, List.range, List.range.loop]
  refine g_cons_k rfl (by rfl) ?_
  intro wO hR K hK
  replace hF := hF.trans hR
  replace hb1 := hb1.rely hc hR
  replace hb2 := hb2.rely hc hR
  clear hR
  go_simp
  refine hK _ _ ⟨?_, ?_⟩
  · rw [listed_nil (by simp [go_sem])]
    exact (sideC_ok.terms _).idle _
  clear hK K
  try walk_nrm
  refine g_cons_k rfl (by rfl) ?_
  intro wO hR K hK
  replace hF := hF.trans hR
  replace hb1 := hb1.rely hc hR
  replace hb2 := hb2.rely hc hR
  clear hR
  have hcl := hb1.cell 0 rfl
  go_simp
  refine hK _ _ ⟨?_, ?_⟩
  · refine dc_same ?_
    co_evs (exact hb1.ev rfl rfl)
  clear hK K
  try walk_nrm
  clear hcl
  refine g_cons_k rfl (by rfl) ?_
  intro wO hR K hK
  replace hF := hF.trans hR
  replace hb1 := hb1.rely hc hR
  replace hb2 := hb2.rely hc hR
  clear hR
  go_simp
  refine hK _ _ ⟨?_, ?_⟩
  · rw [listed_nil (by simp [go_sem])]
    exact (sideC_ok.terms _).idle _
  clear hK K
  try walk_nrm
  refine g_cons_k rfl (by rfl) ?_
  intro wO hR K hK
  replace hF := hF.trans hR
  replace hb1 := hb1.rely hc hR
  replace hb2 := hb2.rely hc hR
  clear hR
  have hcl := hb2.cell 0 rfl
  go_simp
  refine hK _ _ ⟨?_, ?_⟩
  · refine dc_same ?_
    co_evs (exact hb2.ev rfl rfl)
  clear hK K
  try walk_nrm
  clear hcl
  refine g_call (xs := []) (xs' := []) sideC_ok (Post := fun r_1 w' Got' => r_1 = .bool r ∧ Got' = Got ∧ RelyC B0 c (TO O) Got w0 w') rfl (by rfl) rfl ?call ?next
  case call =>
    have h := HE _ hF
    walk_nrm
    exact h
  clear hF hb1 hb2
  rintro rv w' G' ⟨rfl, rfl, hF⟩
  try walk_nrm
  refine g_cons_k rfl (by rfl) ?_
  intro wO hR K hK
  replace hF := hF.trans hR
  clear hR
  go_simp
  refine hK _ _ ⟨?_, ?_⟩
  · rw [listed_nil (by simp [go_sem])]
    exact (sideC_ok.terms _).idle _
  clear hK K
  try walk_nrm
  refine g_nil sideC_ok ?_
  simp only [ThenS]
  refine g_ret sideC_ok ?_
  exact ⟨rfl, _, resultsM_of_C (sideC_ok.terms _).idle (resultsC_tmp (by rfl) _), rfl, rfl, hF⟩
end Go.Proofs.Ytlkhknoaifbajaa

/- GOROUTINE 0: a round of IsGenerated. -/
namespace Go.Proofs.Ytlkhknoaifbajaa
open Go.Conc Go.RowKit M
set_option linter.unusedVariables false
set_option linter.unusedSimpArgs false
set_option maxRecDepth 100000

noncomputable def X33 : Code := match Try.f33.body with | some (.seq _ (.seq _ (.seq (.seq _ (.block _ (.loop x))) _))) => x | _ => .skip
def T33 (s : ByteArray) (c bx : Nat) (v : Value) (g : Bool) (x : Array Value) : Array Value := #[.string s, .agg #[v], undef, .pointer (some ⟨bx, 0, none⟩), .bool false, .bool g, x.getD 0 undef, .string s, .chan (some c), x.getD 1 undef, x.getD 2 undef, x.getD 3 undef, x.getD 4 undef, x.getD 5 undef, x.getD 6 undef, x.getD 7 undef, x.getD 8 undef, x.getD 9 undef, undef]
set_option maxHeartbeats 4000000 in
theorem round33 {B0 c bx : Nat} {O : Nat → Prop} {Fin : Goroutine → World → Prop} (s : ByteArray) (y m : List DLink) (w2 w : World) (Got : Nat → Prop) (v : Value) (g : Bool) (x : Array Value) (hc : c < B0) (hy : y.length ≤ 1000) (hF : OldC B0 c w2 w)
    (hbx : bx < B0 ∧ bx ≠ c ∧ w2.cell? ⟨bx, 0, none⟩ = some v) (hm : RowRd rLink false w2 v m (fun a => a.block < B0 ∧ a.block ≠ c)) :
    WG Try.prog (sideC Try.prog B0 c (TO O) O PayL zC Fin) 33 X33 [y] Got (fun ex a' w' Got' => ex = .normal ∧ ∃ x', a' = { tmps := T33 s c bx v (g || decide (y = m)) x', defers := [] } ∧ OldC B0 c w2 w') { tmps := T33 s c bx v g x, defers := [] } w := by
  obtain ⟨A0, cap0, rfl⟩ := hm.form
  have hcell : ∀ {w}, OldC B0 c w2 w → w.cell? ⟨bx, 0, none⟩ = some (.slice A0 m.length cap0) := fun h => by
    rw [World.cell?_of_block (h.blk bx hbx.1 hbx.2.1)]; exact hbx.2.2
  have hrow : ∀ {w} {Got : Nat → Prop}, OldC B0 c w2 w → RowRd rLink false w (.slice A0 m.length cap0) m (StF B0 c Got) := fun h =>
    (hm.frame fun a ha => ⟨World.cell?_of_block (h.blk _ ha.1 ha.2), World.frozen?_of_block (h.blk _ ha.1 ha.2)⟩).mono fun a ha => ⟨ha.2, .inl ha.1⟩
  have hRB : ∀ {Got : Nat → Prop} {wX wY : World} {b : Nat} {cs : List Value} {t : TypeId}, RB B0 O wX b cs t → RelyC B0 c (TO O) Got wX wY → RB B0 O wY b cs t := fun h r => h.rely hc r
  dsimp only [X33, Try.f33, T33]
  refine g_seq (xs := [y]) (xs' := []) sideC_ok ?_
  refine g_region sideC_ok ?_
  simp only [List.size_toArray, List.length_cons, List.length_nil, Nat.reduceAdd, Nat.zero_add, List.range, List.range.loop]
  refine g_recv (x := y) (xs := []) rfl (by rfl) (fun w₁ h₁ d => ⟨?_, ?_⟩) fun wA hA vr rows hp hr => ?_
  · rfl
  · rfl
  replace hF := hF.rely hA
  clear hA
  obtain ⟨p, rfl, rfl, hpI⟩ := hp
  obtain ⟨hpB, hpl, _, hpn⟩ := hr p rfl
  clear hr hpn hpl
  obtain ⟨Got2, e2⟩ : ∃ G2 : Nat → Prop, (fun b => Got b ∨ b = p) = G2 := ⟨_, rfl⟩
  have hpG : Got2 p := by rw [← e2]; exact .inr rfl
  simp only [e2]
  clear e2
  have hPI : ∀ {wX wY : World}, InC wX p (y.flatMap lkV).toArray 65 → RelyC B0 c (TO O) Got2 wX wY → InC wY p (y.flatMap lkV).toArray 65 := fun h r => (r.2 p (heap_low h) (by omega) (.inr (.inr hpG))).trans h
  walk_nrm
  refine g_cons_k rfl (by rfl) ?_
  intro wO hR K hK
  replace hF := OldC.rely hF hR
  replace hpI := hPI hpI hR
  clear hR
  go_simp
  refine hK _ _ ⟨?_, ?_⟩
  · rw [listed_nil (by simp [go_sem])]
    exact (sideC_ok.terms _).idle _
  clear hK K
  try walk_nrm
  refine g_nil sideC_ok ?_
  simp only [ThenS]
  refine g_seq (xs := []) (xs' := []) sideC_ok ?_
  refine g_cond sideC_ok (t := true) (by rfl) ?_
  simp only [if_true]
  refine g_skip sideC_ok ?_
  simp only [ThenS]
  refine g_block sideC_ok ?_
  refine g_seq (xs := []) (xs' := []) sideC_ok ?_
  refine g_region sideC_ok ?_
  simp only [List.size_toArray, List.length_cons, List.length_nil, Nat.reduceAdd, Nat.zero_add, List.range, List.range.loop]
  refine g_cons_k rfl (by rfl) ?_
  intro wO hR K hK
  replace hF := OldC.rely hF hR
  replace hpI := hPI hpI hR
  clear hR
  go_simp
  refine hK _ _ ⟨?_, ?_⟩
  · rw [listed_nil (by simp [go_sem])]
    exact (sideC_ok.terms _).idle _
  clear hK K
  try walk_nrm
  refine g_make rfl (by rfl) ?_
  intro wO hR K hK
  replace hF := hF.rely hR
  replace hpI := hPI hpI hR
  clear hR
  go_simp
  refine hK _ _ (by simp) fun hO => ⟨?_, ?_⟩
  · rw [listed_nil (by simp [go_sem])]
    exact dc_alloc _ (by simp)
  clear hK K
  try walk_nrm
  have hb : RB B0 O (wO.alloc (.cells #[.slice none 0 0] 26)) wO.heap.size [.slice none 0 0] 26 := RB.new (Nat.le_trans hF.b0 hF.size) (by decide) hO
  have hpb : p ≠ wO.heap.size := by have := heap_low hpI; omega
  replace hF := hF.rely (rely_alloc (O := O) (Got := Got2) wO (.cells #[.slice none 0 0] 26))
  replace hpI : InC (wO.alloc (.cells #[.slice none 0 0] 26)) p (y.flatMap lkV).toArray 65 := (heap_alloc_old wO _ (heap_low hpI)).trans hpI
  clear hO
  generalize wO.alloc _ = wB at *
  generalize wO.heap.size = b at *
  refine g_cons_k rfl (by rfl) ?_
  intro wO hR K hK
  replace hF := hF.rely hR
  replace hpI := hPI hpI hR
  replace hb := hb.rely hc hR
  clear hR
  have hrun := run_storeRow (P := Try.prog) wO b 26 26 #[.slice none 0 0] #[.slice (some ⟨p, 0, none⟩) y.length y.length] hb.blk infoCdS rfl (by intro u hu; simp at hu; subst hu; rfl)
  refine uponK_store 26 (.tmp 6) (.tmp 11) rfl hrun.1 ?_
  have hset := setRow_heap wO b _ #[.slice (some ⟨p, 0, none⟩) y.length y.length] _ _ hb.blk
  have hD := fun es he => dc_row (Got := Got2) (T := TO O) (es := es) hb.blk hb.low hb.cl (cs' := #[.slice (some ⟨p, 0, none⟩) y.length y.length]) hb.cl he
  refine hK _ _ ⟨?_, ?_⟩
  · refine hD _ fun e he => ?_
    have hm := mem_listed he
    rw [events_store_op 26 (.tmp 6) (.tmp 11) rfl hrun.1] at hm
    obtain ⟨ad, h1, h2⟩ := hrun.2 e hm
    exact RB.ev (b := b) (cs := [.slice (some ⟨p, 0, none⟩) y.length y.length]) ⟨hset, hb.cl, hb.low⟩ h1 h2
  clear hK K
  replace hF := hF.dc (hD #[] (by simp))
  replace hpI : InC (wO.setRow b #[.slice (some ⟨p, 0, none⟩) y.length y.length]) p (y.flatMap lkV).toArray 65 := (setRow_other wO b p _ hpb).trans hpI
  replace hb : RB B0 O (wO.setRow b #[.slice (some ⟨p, 0, none⟩) y.length y.length]) b [.slice (some ⟨p, 0, none⟩) y.length y.length] 26 := ⟨hset, hb.cl, hb.low⟩
  clear hset hrun hD
  generalize wO.setRow b _ = wB at *
  try walk_nrm
  refine g_nil sideC_ok ?_
  simp only [ThenS]
  refine g_region sideC_ok ?_
  simp only [List.size_toArray, List.length_cons, List.length_nil, Nat.reduceAdd, Nat.zero_add, List.range, List.range.loop]
  refine g_cons_k rfl (by rfl) ?_
  intro wO hR K hK
  replace hF := OldC.rely hF hR
  replace hpI := hPI hpI hR
  replace hb := hRB hb hR
  clear hR
  go_simp
  refine hK _ _ ⟨?_, ?_⟩
  · rw [listed_nil (by simp [go_sem])]
    exact (sideC_ok.terms _).idle _
  clear hK K
  try walk_nrm
  cases g with
  | true =>
    refine g_cons_k rfl (by rfl) ?_
    intro wO hR K hK
    replace hF := OldC.rely hF hR
    replace hpI := hPI hpI hR
    replace hb := hRB hb hR
    clear hR
    go_simp
    refine hK _ _ ⟨?_, ?_⟩
    · rw [listed_nil (by simp [go_sem])]
      exact (sideC_ok.terms _).idle _
    clear hK K
    try walk_nrm
    refine g_pass sideC_ok rfl (by rfl) ?_
    try walk_nrm
    refine g_pass sideC_ok rfl (by rfl) ?_
    try walk_nrm
    refine g_pass sideC_ok rfl (by rfl) ?_
    try walk_nrm
    refine g_cons_k rfl (by rfl) ?_
    intro wO hR K hK
    replace hF := OldC.rely hF hR
    replace hpI := hPI hpI hR
    replace hb := hRB hb hR
    clear hR
    go_simp
    refine hK _ _ ⟨?_, ?_⟩
    · rw [listed_nil (by simp [go_sem])]
      exact (sideC_ok.terms _).idle _
    clear hK K
    try walk_nrm
    refine g_cons_k rfl (by rfl) ?_
    intro wO hR K hK
    replace hF := OldC.rely hF hR
    replace hpI := hPI hpI hR
    replace hb := hRB hb hR
    clear hR
    go_simp
    refine hK _ _ ⟨?_, ?_⟩
    · rw [listed_nil (by simp [go_sem])]
      exact (sideC_ok.terms _).idle _
    clear hK K
    try walk_nrm
    exact g_nil sideC_ok ⟨rfl, #[_, _, _, _, _, _, _, _, _, _], rfl, hF⟩
  | false =>
    refine g_cons_k rfl (by rfl) ?_
    intro wO hR K hK
    replace hF := OldC.rely hF hR
    replace hpI := hPI hpI hR
    replace hb := hRB hb hR
    clear hR
    go_simp
    refine hK _ _ ⟨?_, ?_⟩
    · rw [listed_nil (by simp [go_sem])]
      exact (sideC_ok.terms _).idle _
    clear hK K
    try walk_nrm
    refine g_cons_k rfl (by rfl) ?_
    intro wO hR K hK
    replace hF := OldC.rely hF hR
    replace hpI := hPI hpI hR
    replace hb := hRB hb hR
    clear hR
    have hcl := hb.cell 0 rfl
    go_simp
    refine hK _ _ ⟨?_, ?_⟩
    · refine ⟨Grow.refl _ _, fun _ _ _ => rfl, ?_⟩
      co_evs (exact evO_ok (hb.ev rfl rfl))
    clear hK K
    try walk_nrm
    clear hcl
    refine g_cons_k rfl (by rfl) ?_
    intro wO hR K hK
    replace hF := OldC.rely hF hR
    replace hpI := hPI hpI hR
    replace hb := hRB hb hR
    clear hR
    have hcl := hcell hF
    go_simp
    refine hK _ _ ⟨?_, ?_⟩
    · refine ⟨Grow.refl _ _, fun _ _ _ => rfl, ?_⟩
      co_evs (exact evC_old hbx.1 (cell_lw hcl))
    clear hK K
    try walk_nrm
    clear hcl
    refine g_call (xs := []) (xs' := []) sideC_ok (Post := fun r_1 w' Got' => r_1 = .bool (decide (y = m)) ∧ Got' = Got2 ∧ RelyC B0 c (TO O) Got2 wO w') rfl (by rfl) rfl ?call ?next
    case call =>
      have h := equalC_c (O := O) (Fin := Fin) (Got := Got2) wO y m wO (.slice (some ⟨p, 0, none⟩) y.length y.length) (.slice A0 m.length cap0) hc (Nat.le_trans hF.b0 hF.size) ((row_links hpI hy).weak.mono fun a ha => by
        have ha' : a.block = p := ha
        exact ⟨by omega, .inr (by rw [ha']; exact hpG)⟩) (hrow hF) hy (RelyC.refl _)
      walk_nrm
      exact h
    rintro rv w' G' ⟨rfl, rfl, hR2⟩
    replace hF := hF.rely hR2
    clear hR2 hpI hb
    try walk_nrm
    refine g_cons_k rfl (by rfl) ?_
    intro wO hR K hK
    replace hF := OldC.rely hF hR
    clear hR
    go_simp
    refine hK _ _ ⟨?_, ?_⟩
    · rw [listed_nil (by simp [go_sem])]
      exact (sideC_ok.terms _).idle _
    clear hK K
    try walk_nrm
    refine g_cons_k rfl (by rfl) ?_
    intro wO hR K hK
    replace hF := OldC.rely hF hR
    clear hR
    go_simp
    refine hK _ _ ⟨?_, ?_⟩
    · rw [listed_nil (by simp [go_sem])]
      exact (sideC_ok.terms _).idle _
    clear hK K
    try walk_nrm
    exact g_nil sideC_ok ⟨rfl, #[_, _, _, _, _, _, _, _, _, _], rfl, hF⟩
end Go.Proofs.Ytlkhknoaifbajaa

/- GOROUTINE 0: IsGenerated, whole. -/
namespace Go.Proofs.Ytlkhknoaifbajaa
open Go.Conc Go.RowKit M
set_option linter.unusedVariables false
set_option linter.unusedSimpArgs false
set_option maxRecDepth 100000

/-- Old memory and the argument's box, beside leavers. -/
structure BX (w0 w : World) (v : Value) : Prop where
  out : Below w0.heap.size w0 w
  bx : w.heap[w0.heap.size]? = some (.cells #[v] 26 (0, 0))
theorem BX.rely {w0 w w' : World} {v : Value} (h : BX w0 w v) (x : AtRel w w') : BX w0 w' v := by
  obtain ⟨d, rfl⟩ := x
  exact ⟨⟨h.out.os, h.out.tape, h.out.output, h.out.size, h.out.block⟩, h.bx⟩
def isg (s : ByteArray) (m : List DLink) : Bool := (genS2 s).any fun y => decide (y = m)
noncomputable def body33 : Code := Try.f33.body.getD .skip
section
variable {Post : Goroutine → World → Prop} {s : ByteArray}
set_option maxHeartbeats 4000000 in
theorem isgen_main (hs : s.size ≤ maxLen) (w0 : World) (v : Value) (m : List DLink) (hv0 : RowRd rLink false w0 v m (fun a => a.block < w0.heap.size)) (cfr : Frame) (cs : List Frame) (hK : ∀ w', Below w0.heap.size w0 w' → GoG Try.prog (sideM Try.prog Post) [] () (G (cfr.finish (.bool (isg s m))) cs) w') :
    GoG Try.prog (sideM Try.prog Post) [] () (G ((base 33).at { tmps := #[.string s, .agg #[v], undef, undef, undef, undef, undef, undef, undef, undef, undef, undef, undef, undef, undef, undef, undef, undef, undef], defers := [] } [.code body33]) (cfr :: cs)) w0 := by
  obtain ⟨A0, cap0, rfl⟩ := hv0.form
  dsimp only [body33, Try.f33, Option.getD_some]
  have hF := HM.of_below (Below.refl w0.heap.size w0)
  refine goG_seq sideM_ok ?_
  refine goG_region sideM_ok ?_
  simp only [List.size_toArray, List.length_cons, List.length_nil, Nat.reduceAdd, Nat.zero_add, List.range, List.range.loop]
  refine goG_op rfl (by rfl) (by simp [base]) ?_
  intro wO hR K hK2
  have hsz : wO.heap.size = w0.heap.size := by
    obtain ⟨d, hd⟩ := hR
    rw [hd]
    rfl
  replace hF := hF.rely hR
  clear hR
  go_simp
  refine hK2 _ _ ⟨?_, ?_⟩
  · rw [listed_nil (by simp [go_sem])]
    exact dmain_alloc _ _
  clear hK2 K
  try walk_nrm
  have hX : BX w0 (wO.alloc (.cells #[.slice A0 m.length cap0] 26)) (.slice A0 m.length cap0) := ⟨hF.out.alloc hF.out.size _, by rw [← hsz]; exact heap_alloc_new wO _⟩
  try rw [hsz]
  clear hF hsz
  have hF := hX
  clear hX
  generalize wO.alloc _ = wB at *
  refine goG_op rfl (by rfl) (by simp [base]) ?_
  intro wO hR K hK2
  replace hF := hF.rely hR
  clear hR
  go_simp
  refine hK2 _ _ ⟨?_, ?_⟩
  · rw [listed_nil (by simp [go_sem])]
    exact (sideM_ok.terms _).idle _
  clear hK2 K
  try walk_nrm
  refine goG_nil sideM_ok ?_
  refine goG_seq sideM_ok ?_
  refine goG_region sideM_ok ?_
  simp only [List.size_toArray, List.length_cons, List.length_nil, Nat.reduceAdd, Nat.zero_add, List.range, List.range.loop]
  refine goG_op rfl (by rfl) (by simp [base]) ?_
  intro wO hR K hK2
  replace hF := hF.rely hR
  clear hR
  go_simp
  refine hK2 _ _ ⟨?_, ?_⟩
  · rw [listed_nil (by simp [go_sem])]
    exact (sideM_ok.terms _).idle _
  clear hK2 K
  try walk_nrm
  refine goG_nil sideM_ok ?_
  refine goG_seq sideM_ok ?_
  refine goG_seq sideM_ok ?_
  refine goG_region sideM_ok ?_
  simp only [List.size_toArray, List.length_cons, List.length_nil, Nat.reduceAdd, Nat.zero_add, List.range, List.range.loop]
  refine goG_op rfl (by rfl) (by simp [base]) ?_
  intro wO hR K hK2
  replace hF := hF.rely hR
  clear hR
  go_simp
  refine hK2 _ _ ⟨?_, ?_⟩
  · rw [listed_nil (by simp [go_sem])]
    exact (sideM_ok.terms _).idle _
  clear hK2 K
  try walk_nrm
  refine goG_call (x := body76) sideM_ok rfl (by rfl) (by simp [base]) rfl Try.func76 (by rfl) (by rfl) ?_
  walk_nrm
  simp only [Try.ntmps76, List.size_toArray, List.length_cons, List.length_nil, Nat.reduceAdd, Nat.reduceSub, Array.replicate_succ, Array.replicate_zero, List.push_toArray, List.append_toArray, List.nil_append, List.cons_append]
  rw [show (Value.int .i64 2) = Value.int .i64 ((2 : Nat) : Int) from rfl]
  have hlt := heap_low hF.bx
  by_cases hv : isFm s = true ∧ s.size ≤ 4
  · have hG : genS2 s = genL 2 s.data.toList := by unfold genS2; rw [if_pos hv]
    have hML : ∀ y ∈ genL 2 s.data.toList, y.length ≤ 1000 := by simpa using gen_row (s := s) (fm_nz hv.1) (by omega) 2 0 (by omega)
    have hvi : (s.size : Int) ≤ 4 := by omega
    have h2 := cand_fork (Post := Post) (s := s) (ℓ := 4) hs hv.1 hvi 2 (by omega)
    dsimp only [SC] at h2
    apply h2
    intro O w2 hm
    rw [fin29 _ _ _ _ _ _ _ _ rfl]
    have hO : OldC (wO.heap.size + 4) (wO.heap.size + 2) w2 w2 := OldC.refl (by rw [hm.siz]; exact Nat.le_refl _)
    have hbel : Below w0.heap.size w0 w2 := hF.out.trans (hm.bel.mono hF.out.size)
    have hbx : w0.heap.size < wO.heap.size + 4 ∧ w0.heap.size ≠ wO.heap.size + 2 ∧ w2.cell? ⟨w0.heap.size, 0, none⟩ = some (.slice A0 m.length cap0) :=
      ⟨by omega, by omega, InC.cell ((hm.bel.block _ hlt).trans hF.bx) 0 rfl⟩
    have hrow : RowRd rLink false w2 (.slice A0 m.length cap0) m (fun a => a.block < wO.heap.size + 4 ∧ a.block ≠ wO.heap.size + 2) := (hv0.kept hbel).mono fun a ha => ⟨by omega, by omega⟩
    have hF0 := hF.out
    walk_nrm
    refine goG_nil sideC_ok ?_
    refine goG_block sideC_ok ?_
    refine goG_loop sideC_ok (genL 2 s.data.toList) (fun j a w' Got => ∃ x, a = { tmps := T33 s (wO.heap.size + 2) w0.heap.size (.slice A0 m.length cap0) (((genL 2 s.data.toList).take j).any fun y => decide (y = m)) x, defers := [] } ∧ OldC (wO.heap.size + 4) (wO.heap.size + 2) w2 w') (by simp [base]) ?round ?last ?start
    case round =>
      rintro j y a w' Got hy ⟨x, rfl, hF'⟩
      have hjl := (List.getElem?_eq_some_iff.1 hy).1
      refine ItG.mono (round33 s y m w2 w' Got _ _ x (by omega) (hML y (List.mem_of_getElem? hy)) hF' hbx hrow) ?_
      rintro e a w γ ⟨rfl, x', rfl, h'⟩
      refine ⟨rfl, x', ?_, h'⟩
      have : (genL 2 s.data.toList).take (j + 1) = (genL 2 s.data.toList).take j ++ [y] := by rw [List.take_add_one, hy]; rfl
      rw [this, List.any_append]
      simp
    case start => exact ⟨#[], rfl, hO⟩
    case last =>
      rintro a w' Got ⟨x, rfl, hF'⟩
      rw [List.take_length, ← hG]
      dsimp only [T33]
      have hi : ((genS2 s).any fun y => decide (y = m)) = isg s m := rfl
      rw [hi]
      refine goG_seq sideC_ok ?_
      refine goG_region sideC_ok ?_
      simp only [List.size_toArray, List.length_cons, List.length_nil, Nat.reduceAdd, Nat.zero_add, List.range, List.range.loop]
      refine goG_last rfl (by rfl) (by simp [base]) (fun w₁ h₁ d => ⟨rfl, rfl⟩) fun w3 h3 d => toM_of_goG (ys := []) ?_
      have hB : BM w0 (w3.at d) := BM.rely (HM.of_below (hF0.trans ((hF'.rely h3).below hm |>.mono hF0.size))) ⟨d, rfl⟩
      generalize w3.at d = w4 at hB
      clear hF hF' h3
      have hF := hB
      clear hB
      walk_nrm
      refine goG_op rfl (by rfl) (by simp [base]) ?_
      intro wO hR K hK2
      replace hF := hF.rely hR
      clear hR
      go_simp
      refine hK2 _ _ ⟨?_, ?_⟩
      · rw [listed_nil (by simp [go_sem])]
        exact (sideM_ok.terms _).idle _
      clear hK2 K
      try walk_nrm
      refine goG_nil sideM_ok ?_
      refine goG_seq sideM_ok ?_
      refine goG_cond sideM_ok (t := false) (by rfl) ?_
      simp only [Bool.false_eq_true, if_false]
      refine goG_exit sideM_ok (by simp [base]) (by rfl) ?_
      refine goG_seq sideM_ok ?_
      refine goG_region sideM_ok ?_
      simp only [List.size_toArray, List.length_cons, List.length_nil, Nat.reduceAdd, Nat.zero_add, List.range, List.range.loop]
      refine goG_op rfl (by rfl) (by simp [base]) ?_
      intro wO hR K hK2
      replace hF := hF.rely hR
      clear hR
      go_simp
      refine hK2 _ _ ⟨?_, ?_⟩
      · rw [listed_nil (by simp [go_sem])]
        exact (sideM_ok.terms _).idle _
      clear hK2 K
      try walk_nrm
      refine goG_op rfl (by rfl) (by simp [base]) ?_
      intro wO hR K hK2
      replace hF := hF.rely hR
      clear hR
      go_simp
      refine hK2 _ _ ⟨?_, ?_⟩
      · rw [listed_nil (by simp [go_sem])]
        exact (sideM_ok.terms _).idle _
      clear hK2 K
      try walk_nrm
      refine goG_nil sideM_ok ?_
      refine goG_ret sideM_ok (by simp [base]) fun todo => ?_
      refine goG_leave sideM_ok rfl rfl Try.func33 (resultsM_of_C (sideM_ok.terms _).idle (resultsC_tmp (by rfl) _)) ?_
      walk_nrm
      exact hK _ hF.out
  · have hG : genS2 s = [] := by unfold genS2; rw [if_neg hv]
    have hvi : (isFm s && decide ((s.size : Int) ≤ 4)) = false := by
      cases h : isFm s with
      | false => rfl
      | true =>
        have : ¬ (s.size : Int) ≤ 4 := fun h4 => hv ⟨h, by omega⟩
        simp [this]
    have h2 := cand_closed (Post := Post) (s := s) (ℓ := 4) hs hvi 2
    apply h2
    intro w2 hm
    rw [fin29 _ _ _ _ _ _ _ _ rfl]
    have hc : w2.heap[wO.heap.size + 2]? = some (.chan 32 #[] true 0 0 false) := hm.obj (wO.heap.size + 2, .chan 32 #[] true 0 0 false) (by simp)
    have hB : BM w0 w2 := HM.of_below (hF.out.trans (hm.bel.mono hF.out.size))
    have hi : isg s m = false := by unfold isg; rw [hG]; rfl
    rw [hi] at hK
    clear hF
    have hF := hB
    clear hB
    walk_nrm
    refine goG_nil sideM_ok ?_
    refine goG_block sideM_ok ?_
    refine goG_loop1 sideM_ok ?_
    refine goG_seq sideM_ok ?_
    refine goG_region sideM_ok ?_
    simp only [List.size_toArray, List.length_cons, List.length_nil, Nat.reduceAdd, Nat.zero_add, List.range, List.range.loop]
    refine goG_recv_closed (c := wO.heap.size + 2) (z := zC) rfl (by rfl) (by simp [base]) hc (fun d => ⟨rfl, rfl⟩) ?_
    walk_nrm
    refine goG_op rfl (by rfl) (by simp [base]) ?_
    intro wO hR K hK2
    replace hF := hF.rely hR
    clear hR
    go_simp
    refine hK2 _ _ ⟨?_, ?_⟩
    · rw [listed_nil (by simp [go_sem])]
      exact (sideM_ok.terms _).idle _
    clear hK2 K
    try walk_nrm
    refine goG_nil sideM_ok ?_
    refine goG_seq sideM_ok ?_
    refine goG_cond sideM_ok (t := false) (by rfl) ?_
    simp only [Bool.false_eq_true, if_false]
    refine goG_exit sideM_ok (by simp [base]) (by rfl) ?_
    refine goG_seq sideM_ok ?_
    refine goG_region sideM_ok ?_
    simp only [List.size_toArray, List.length_cons, List.length_nil, Nat.reduceAdd, Nat.zero_add, List.range, List.range.loop]
    refine goG_op rfl (by rfl) (by simp [base]) ?_
    intro wO hR K hK2
    replace hF := hF.rely hR
    clear hR
    go_simp
    refine hK2 _ _ ⟨?_, ?_⟩
    · rw [listed_nil (by simp [go_sem])]
      exact (sideM_ok.terms _).idle _
    clear hK2 K
    try walk_nrm
    refine goG_op rfl (by rfl) (by simp [base]) ?_
    intro wO hR K hK2
    replace hF := hF.rely hR
    clear hR
    go_simp
    refine hK2 _ _ ⟨?_, ?_⟩
    · rw [listed_nil (by simp [go_sem])]
      exact (sideM_ok.terms _).idle _
    clear hK2 K
    try walk_nrm
    refine goG_nil sideM_ok ?_
    refine goG_ret sideM_ok (by simp [base]) fun todo => ?_
    refine goG_leave sideM_ok rfl rfl Try.func33 (resultsM_of_C (sideM_ok.terms _).idle (resultsC_tmp (by rfl) _)) ?_
    walk_nrm
    exact hK _ hF.out
end
end Go.Proofs.Ytlkhknoaifbajaa
