/- Merged: Rc1 Rc2. -/
import Derived.Test.YtlkhknoaifbajaaB2
import Derived.Test.YtlkhknoaifbajaaA1
import Derived.Test.YtlkhknoaifbajaaA8
import Derived.Conc.SmallLaws
import Derived.Test.YtlkhknoaifbajaaA2
/- GOROUTINE 0: candidatesOf: the channel is made; where the input is valid the sender is started. -/
namespace Go.Proofs.Ytlkhknoaifbajaa
open Go.Conc Go.RowKit M
set_option linter.unusedVariables false
set_option linter.unusedSimpArgs false
set_option maxRecDepth 100000

/-- What is held of the world ahead of the go statement: old memory as it was; n blocks made, of which some hold this. -/
structure HM (W0 : World) (n : Nat) (fs : List (Nat × Obj)) (w : World) : Prop where
  bel : Below W0.heap.size W0 w
  siz : w.heap.size = W0.heap.size + n
  obj : ∀ x ∈ fs, w.heap[x.1]? = some x.2
section
variable {W0 w w' : World} {n : Nat} {fs : List (Nat × Obj)}
theorem HM.start (w : World) : HM w 0 [] w := ⟨Below.refl _ _, rfl, fun x hx => by cases hx⟩
theorem HM.same (h : HM W0 n fs w) (hh : w'.heap = w.heap) (ht : w'.tape = w.tape) (ho : w'.os = w.os) (hu : w'.output = w.output) : HM W0 n fs w' :=
  ⟨⟨ho.trans h.bel.os, ht.trans h.bel.tape, hu.trans h.bel.output, by rw [hh]; exact h.bel.size, fun k hk => by rw [hh]; exact h.bel.block k hk⟩, by rw [hh]; exact h.siz, fun x hx => by rw [hh]; exact h.obj x hx⟩
theorem HM.rely (h : HM W0 n fs w) (x : AtRel w w') : HM W0 n fs w' := by
  obtain ⟨d, rfl⟩ := x
  exact h.same rfl rfl rfl rfl
theorem HM.alloc (h : HM W0 n fs w) (o : Obj) : HM W0 (n + 1) ((W0.heap.size + n, o) :: fs) (w.alloc o) :=
  ⟨h.bel.alloc h.bel.size o, by simp [h.siz]; omega, fun x hx => by
    rcases List.mem_cons.1 hx with rfl | hx
    · rw [← h.siz]; exact heap_alloc_new w o
    · exact (heap_alloc_old w o (heap_low (h.obj x hx))).trans (h.obj x hx)⟩
theorem HM.cell {b : Nat} {cs : Array Value} {t : TypeId} {fz : Nat × Nat} (h : HM W0 n fs w) (hb : (b, Obj.cells cs t fz) ∈ fs) (j : Nat) {v : Value} (hv : cs[j]? = some v) : w.cell? ⟨b, j, none⟩ = some v := by
  have := h.obj _ hb
  unfold World.cell?
  simp only [this]
  exact hv
theorem HM.free {b : Nat} {cs : Array Value} {t : TypeId} (h : HM W0 n fs w) (hb : (b, Obj.cells cs t (0, 0)) ∈ fs) (j : Nat) : w.frozen? ⟨b, j, none⟩ = false := by
  have := h.obj _ hb
  unfold World.frozen?
  simp [this]
theorem HM.lt {b : Nat} {o : Obj} (h : HM W0 n fs w) (hb : (b, o) ∈ fs) : b < w.heap.size := heap_low (h.obj _ hb)
theorem HM.less {gs : List (Nat × Obj)} (h : HM W0 n fs w) (hs : ∀ x ∈ gs, x ∈ fs) : HM W0 n gs w := ⟨h.bel, h.siz, fun x hx => h.obj x (hs x hx)⟩
/-- A box that is the call's own is written. -/
theorem HM.put {b : Nat} {v v' : Value} {t : TypeId} (h : HM W0 n ((b, .cells #[v] t (0, 0)) :: fs) w) (hB : W0.heap.size ≤ b) (hd : ∀ x ∈ fs, x.1 ≠ b) : HM W0 n ((b, .cells #[v'] t (0, 0)) :: fs) (w.setCell ⟨b, 0, none⟩ v') := by
  refine ⟨h.bel.setCell (p := ⟨b, 0, none⟩) hB v', by rw [← h.siz]; simp [World.setCell], fun x hx => ?_⟩
  rcases List.mem_cons.1 hx with rfl | hx
  · have h0 : w.heap[b]? = some (.cells #[v] t (0, 0)) := h.obj (b, .cells #[v] t (0, 0)) (by simp)
    have := heap_setCell_same w b 0 _ _ v' h0
    simpa using this
  · exact (heap_setCell_other w ⟨b, 0, none⟩ x.1 v' (hd x hx)).trans (h.obj x (by simp [hx]))
theorem HM.chan {c cap : Nat} {buf : Array Value} {cl cl' tm : Bool} {s r : Nat} (h : HM W0 n ((c, .chan cap buf cl s r tm) :: fs) w) (hB : W0.heap.size ≤ c) (hd : ∀ x ∈ fs, x.1 ≠ c) : HM W0 n ((c, .chan cap buf cl' s r tm) :: fs) (w.setChan c cap buf cl' s r tm) := by
  refine ⟨⟨h.bel.os, h.bel.tape, h.bel.output, by rw [setChan_size]; exact h.bel.size, fun k hk => (chan_other w (by omega)).trans (h.bel.block k hk)⟩, by rw [setChan_size]; exact h.siz, fun x hx => ?_⟩
  rcases List.mem_cons.1 hx with rfl | hx
  · exact chan_self w (h.lt (List.mem_cons_self ..))
  · exact (chan_other w (hd x hx)).trans (h.obj x (by simp [hx]))
theorem dmain_alloc (w : World) (o : Obj) : DMain w (w.alloc o) #[] := ⟨by simp, by simp⟩
theorem dmain_same {es : Array Event} (h : ∀ e ∈ es, EvF w.heap.size e) : DMain w w es := ⟨Nat.le_refl _, h⟩
theorem dmain_cell {b j : Nat} {v : Value} {es : Array Event} (h : ∀ e ∈ es, EvF w.heap.size e) : DMain w (w.setCell ⟨b, j, none⟩ v) es := by
  have hz : (w.setCell ⟨b, j, none⟩ v).heap.size = w.heap.size := by simp [World.setCell]
  exact ⟨Nat.le_of_eq hz.symm, by rw [hz]; exact h⟩
end
section
variable {Post : Goroutine → World → Prop} {s : ByteArray} {ℓ e : Int} {w w1 : World}
def T76 (s : ByteArray) (ℓ e : Int) (n : Nat) : Array Value := #[.string s, .int .i64 ℓ, .int .i64 e, .pointer (some ⟨n, 0, none⟩), undef, .pointer (some ⟨n + 1, 0, none⟩), .chan none, .pointer (some ⟨n + 3, 0, none⟩), .chan (some (n + 2)), undef, undef, undef, undef, undef, undef, undef, undef, undef, undef, undef, undef, undef]
def F76 (s : ByteArray) (e : Int) (n : Nat) : List (Nat × Obj) := [(n + 3, .cells #[.chan (some (n + 2))] 102 (0, 0)), (n + 2, .chan 32 #[] false 0 0 false), (n + 1, .cells #[.int .i64 e] 3 (0, 0)), (n, .cells #[.string s] 9 (0, 0))]
def T76a (s : ByteArray) (ℓ e : Int) (n : Nat) : Array Value := #[.string s, .int .i64 ℓ, .int .i64 e, .pointer (some ⟨n, 0, none⟩), undef, .pointer (some ⟨n + 1, 0, none⟩), .chan none, undef, undef, undef, undef, undef, undef, undef, undef, undef, undef, undef, undef, undef, undef, undef]
def F76a (s : ByteArray) (e : Int) (n : Nat) : List (Nat × Obj) := [(n + 1, .cells #[.int .i64 e] 3 (0, 0)), (n, .cells #[.string s] 9 (0, 0))]
noncomputable def c76a : Code := match Try.f76.body with | some (.seq r0 _) => r0 | _ => .skip
noncomputable def c76m : Code := match Try.f76.body with | some (.seq _ (.seq r1 _)) => r1 | _ => .skip
theorem infoCdB : (Try.prog.info? 26).map (·.bytes) = some 24 := by kernel_rfl
theorem events_mk (w : World) (es : Array Event) : (Instr.makeChan 102 (.int .i64 32)).events Try.prog w es = es := by
  cases hi : Try.prog.info? 26 with
  | none => have := infoCdB; rw [hi] at this; cases this
  | some i =>
    have hb : i.bytes = 24 := by have := infoCdB; rw [hi] at this; simpa using this
    exact events_makeChan Try.underlying102 hi .i64 32 (by omega) (by rw [hb]; omega) es
set_option maxHeartbeats 4000000 in
theorem p76_made (w : World) : WG Try.prog (sideM Try.prog Post) 76 c76a [] () (fun ex a' w' _ => ex = .normal ∧ a' = { tmps := T76a s ℓ e w.heap.size, defers := [] } ∧ HM w 2 (F76a s e w.heap.size) w')
    { tmps := #[.string s, .int .i64 ℓ, .int .i64 e, undef, undef, undef, undef, undef, undef, undef, undef, undef, undef, undef, undef, undef, undef, undef, undef, undef, undef, undef], defers := [] } w := by
  dsimp only [c76a, Try.f76]
  have hF := HM.start w
  refine g_region sideM_ok ?_
  simp only [List.size_toArray, List.length_cons, List.length_nil, Nat.reduceAdd, Nat.zero_add, List.range, List.range.loop]
  refine g_cons_k rfl (by rfl) ?_
  intro wO hR K hK
  replace hF := hF.rely hR
  clear hR
  go_simp
  refine hK _ _ ⟨?_, ?_⟩
  · rw [listed_nil (by simp [go_sem])]
    exact dmain_alloc _ _
  clear hK K
  try walk_nrm
  rw [hF.siz]
  replace hF := hF.alloc (.cells #[.string s] 9 (0, 0))
  simp only [Nat.add_zero] at hF ⊢
  generalize wO.alloc _ = wA at hF ⊢
  refine g_cons_k rfl (by rfl) ?_
  intro wO hR K hK
  replace hF := hF.rely hR
  clear hR
  go_simp
  refine hK _ _ ⟨?_, ?_⟩
  · rw [listed_nil (by simp [go_sem])]
    exact dmain_alloc _ _
  clear hK K
  try walk_nrm
  rw [hF.siz]
  replace hF := hF.alloc (.cells #[.int .i64 e] 3 (0, 0))
  simp only [Nat.zero_add] at hF ⊢
  generalize wO.alloc _ = wA at hF ⊢
  refine g_cons_k rfl (by rfl) ?_
  intro wO hR K hK
  replace hF := hF.rely hR
  clear hR
  go_simp
  refine hK _ _ ⟨?_, ?_⟩
  · rw [listed_nil (by simp [go_sem])]
    exact dmain_same (by simp)
  clear hK K
  try walk_nrm
  exact g_nil sideM_ok ⟨rfl, rfl, hF⟩
set_option maxHeartbeats 4000000 in
theorem p76_chan (w w1 : World) (hF : HM w 2 (F76a s e w.heap.size) w1) : WG Try.prog (sideM Try.prog Post) 76 c76m [] () (fun ex a' w' _ => ex = .normal ∧ a' = { tmps := T76 s ℓ e w.heap.size, defers := [] } ∧ HM w 4 (F76 s e w.heap.size) w')
    { tmps := T76a s ℓ e w.heap.size, defers := [] } w1 := by
  dsimp only [c76m, Try.f76, T76a]
  refine g_region sideM_ok ?_
  simp only [List.size_toArray, List.length_cons, List.length_nil, Nat.reduceAdd, Nat.zero_add, List.range, List.range.loop]
  refine g_cons_k rfl (by rfl) ?_
  intro wO hR K hK
  replace hF := hF.rely hR
  clear hR
  have hme := events_mk wO #[]
  go_simp
  refine hK _ _ ⟨?_, ?_⟩
  · rw [listed_nil (by simp [go_sem, hme])]
    exact dmain_alloc wO (.chan 32 #[] false 0 0 false)
  clear hK K
  try walk_nrm
  rw [hF.siz]
  clear hme
  change OG _ _ _ _ _ _ _ _ _ (wO.alloc (.chan 32 #[] false 0 0 false))
  replace hF := hF.alloc (.chan 32 #[] false 0 0 false)
  simp only [Nat.reduceAdd] at hF ⊢
  generalize wO.alloc _ = wA at hF ⊢
  refine g_cons_k rfl (by rfl) ?_
  intro wO hR K hK
  replace hF := hF.rely hR
  clear hR
  go_simp
  refine hK _ _ ⟨?_, ?_⟩
  · rw [listed_nil (by simp [go_sem])]
    exact dmain_alloc _ _
  clear hK K
  try walk_nrm
  rw [hF.siz]
  replace hF := hF.alloc (.cells #[.chan none] 102 (0, 0))
  simp only [Nat.reduceAdd] at hF ⊢
  generalize wO.alloc _ = wA at hF ⊢
  refine g_cons_k rfl (by rfl) ?_
  intro wO hR K hK
  replace hF := hF.rely hR
  clear hR
  have hc := hF.cell (List.mem_cons_self ..) 0 (v := .chan none) rfl
  have hz := hF.free (List.mem_cons_self ..) 0
  go_simp
  refine hK _ _ ⟨?_, ?_⟩
  · refine dmain_cell ?_
    co_evs (exact evF_cell _ _ (hF.lt (List.mem_cons_self ..)))
  clear hK K
  try walk_nrm
  clear hc hz
  replace hF := hF.put (v' := .chan (some (w.heap.size + 2))) (by omega) (by simp [F76a])
  exact g_nil sideM_ok ⟨rfl, rfl, hF⟩
section
variable {P : Program} {α σ : Type} {S : Side α σ} {fn : FuncId} {xs : List α} {γ : σ} {Q : Exit → Act → World → σ → Prop} {a : Act} {w : World}
/-- An operation that its guard passes over. -/
theorem g_pass (ok : SideOk S) {ops : Array Oper} {i : Nat} {rest : List Nat} {o : Oper} (ho : ops[i]? = some o) (hw : Region.wanted o (yielded ops a.tmps) = false) (h : OG P S fn ops rest xs γ Q (a.put o.dst undef) w) : OG P S fn ops (i :: rest) xs γ Q a w := by
  intro b k cs ys hb hk hq
  exact GoI.stepG rfl fun w₁ h₁ => by simp only [List.cons_append, List.nil_append]; rw [stepG_unwanted ho hw]; exact ⟨(ok.terms γ).idle _, GoG.rely ok (h b k cs ys hb hk hq) h₁⟩
end
section
variable {P : Program} {α σ : Type} {S : Side α σ} {xs : List α} {γ : σ} {a : Act} {w : World} {b cf : Frame} {cs : List Frame}
/-- Out of a function, into whoever called it. -/
theorem goG_leave (ok : SideOk S) {fn' : Func} {v : Value} {todo : List Item} (hn : b.kind = .normal) (hd : a.defers = []) (hf : P.funcs[b.fn]? = some fn') (hr : ResultsM P (S.R γ) (S.D γ) b.fn fn' a.tmps v w) (h : GoG P S xs γ (G (cf.finish v) cs) w) : GoG P S xs γ (G { b.at a todo with mode := .returning } (cf :: cs)) w :=
  GoI.stepG rfl fun w₁ h₁ => by rw [stepG_leaveM hn hd hf (hr w₁ h₁).1]; exact ⟨(hr w₁ h₁).2, GoG.rely ok h h₁⟩
end
section
variable {P : Program}
/-- The go statement, at a frame. -/
theorem toM_go {c : Nat} {T : (Nat → Prop) → Cls} {α : Type} {Pay : α → Value → (Nat → Prop) → World → Prop} {z : Value} {Fin : Goroutine → World → Prop} {w : World} {cap : Nat} {xs : List α} {ops : Array Oper} {i : Nat} {rest : List Nat} {o : Oper} {b : Frame} {a : Act} {k : List Item} {cs : List Frame} (dd : Deferred) {f : Fn} {cc : Array Value}
    (ho : ops[i]? = some o) (hw : Region.wanted o (yielded ops a.tmps) = true) (hk : b.kind ≠ .early) (hr : ∀ d, (execOp a.eval o).run P (w.at d) = .ok (.spawn dd) (w.at d) ∧ (execOp a.eval o).events P (w.at d) #[] = #[]) (hd : dd.target = .fn f cc)
    (hPay : PayOk Pay) (hcap : 0 < cap) (hc : w.heap[c]? = some (.chan cap #[] false 0 0 false))
    (hA : ∀ O d, Recvs P w.heap.size c (T O) O Pay z Fin xs (fun _ => False) (G (b.at (a.put o.dst undef) (.inRegion ops rest :: k)) cs) (w.at d)) (hB : ∀ O d, Sends P w.heap.size c (T O) O Pay xs (fun _ => False) (born P dd) (w.at d)) : ToM P (G (b.at a (.inRegion ops (i :: rest) :: k)) cs) w Fin :=
  toM_fork hPay rfl hcap (fun d => by rw [stepG_spawn ho hw hk (hr d).1 hd, listed_nil (hr d).2]) hc hA hB
end
noncomputable def c76b : Code := match Try.f76.body with | some (.seq _ (.seq _ (.seq (.seq r2 _) _))) => r2 | _ => .skip
def T76b (s : ByteArray) (ℓ e : Int) (n : Nat) (x : Array Value) (v : Bool) : Array Value := #[.string s, .int .i64 ℓ, .int .i64 e, .pointer (some ⟨n, 0, none⟩), undef, .pointer (some ⟨n + 1, 0, none⟩), .chan none, .pointer (some ⟨n + 3, 0, none⟩), .chan (some (n + 2)), x.getD 0 undef, x.getD 1 undef, x.getD 2 undef, x.getD 3 undef, x.getD 4 undef, x.getD 5 undef, x.getD 6 undef, x.getD 7 undef, .bool v, undef, undef, undef, undef]
theorem okIsForm : okF 84 = true := by rfl
theorem body_some {f : FuncId} {fn : Func} (h : fn.body.isSome = true) : fn.body.isNone = false := by cases hb : fn.body <;> simp_all
set_option maxHeartbeats 4000000 in
theorem p76_test (hs : s.size ≤ maxLen) (n W0n : Nat) (hF : HM w 4 (F76 s e w.heap.size) w1) : WG Try.prog (sideM Try.prog Post) 76 c76b [] () (fun ex a' w' _ => ex = .normal ∧ ∃ x, a' = { tmps := T76b s ℓ e w.heap.size x (!(isFm s && decide ((s.size : Int) ≤ ℓ))), defers := [] } ∧ HM w 4 (F76 s e w.heap.size) w')
    { tmps := T76 s ℓ e w.heap.size, defers := [] } w1 := by
  have HS := Lib.hid hs
  clear hs
  dsimp only [c76b, Try.f76, T76]
  refine g_region sideM_ok ?_
  simp only [List.size_toArray, List.length_cons, List.length_nil, Nat.reduceAdd, Nat.zero_add, List.range, List.range.loop]
  refine g_cons_k rfl (by rfl) ?_
  intro wO hR K hK
  replace hF := hF.rely hR
  clear hR
  have hc := hF.cell (b := w.heap.size) (cs := #[.string s]) (t := 9) (fz := (0, 0)) (by simp [F76]) 0 rfl
  go_simp
  refine hK _ _ ⟨?_, ?_⟩
  · refine dmain_same ?_
    co_evs (exact evF_cell _ _ (hF.lt (b := w.heap.size) (o := .cells #[.string s] 9 (0, 0)) (by simp [F76])))
  clear hK K
  try walk_nrm
  clear hc
  refine m_lone (w := wO) (Rr := fun v w' => v = .bool (isFm s) ∧ w'.heap = wO.heap ∧ w'.os = wO.os) goodP okIsForm Try.func84 (by rfl) (by rfl) (by rfl) rfl (by rfl) rfl ?_ ?_ ?_
  · rintro v W τ d o τ' d' o' ⟨h1, h2, h3⟩
    exact ⟨h1, h2, h3⟩
  · intro τ d o
    walk_nrm
    refine (implFmS_any s _ HS.out).mono ?_
    rintro e w2 ⟨rfl, rfl⟩
    exact ⟨_, rfl, rfl, rfl, rfl⟩
  rintro v w2 ht ho ⟨rfl, hh, hos⟩
  replace hF := hF.same hh ht hos ho
  clear ht ho hh hos
  walk_nrm
  cases hv : isFm s with
  | false =>
    refine g_cons_k rfl (by rfl) ?_
    intro wO hR K hK
    replace hF := hF.rely hR
    clear hR
    go_simp
    refine hK _ _ ⟨?_, ?_⟩
    · rw [listed_nil (by simp [go_sem, *])]
      exact dmain_same (by simp)
    clear hK K
    try walk_nrm
    refine g_cons_k rfl (by rfl) ?_
    intro wO hR K hK
    replace hF := hF.rely hR
    clear hR
    go_simp
    refine hK _ _ ⟨?_, ?_⟩
    · rw [listed_nil (by simp [go_sem])]
      exact dmain_same (by simp)
    clear hK K
    try walk_nrm
    refine g_pass sideM_ok rfl (by rfl) ?_
    try walk_nrm
    refine g_pass sideM_ok rfl (by rfl) ?_
    try walk_nrm
    refine g_pass sideM_ok rfl (by rfl) ?_
    try walk_nrm
    refine g_pass sideM_ok rfl (by rfl) ?_
    try walk_nrm
    refine g_cons_k rfl (by rfl) ?_
    intro wO hR K hK
    replace hF := hF.rely hR
    clear hR
    go_simp
    refine hK _ _ ⟨?_, ?_⟩
    · rw [listed_nil (by simp [go_sem])]
      exact dmain_same (by simp)
    clear hK K
    try walk_nrm
    exact g_nil sideM_ok ⟨rfl, #[.string s, .bool false, .bool true, .bool true, undef, undef, undef, undef], by simp [T76b], hF⟩
  | true =>
    refine g_cons_k rfl (by rfl) ?_
    intro wO hR K hK
    replace hF := hF.rely hR
    clear hR
    go_simp
    refine hK _ _ ⟨?_, ?_⟩
    · rw [listed_nil (by simp [go_sem, *])]
      exact dmain_same (by simp)
    clear hK K
    try walk_nrm
    refine g_cons_k rfl (by rfl) ?_
    intro wO hR K hK
    replace hF := hF.rely hR
    clear hR
    go_simp
    refine hK _ _ ⟨?_, ?_⟩
    · rw [listed_nil (by simp [go_sem])]
      exact dmain_same (by simp)
    clear hK K
    try walk_nrm
    refine g_cons_k rfl (by rfl) ?_
    intro wO hR K hK
    replace hF := hF.rely hR
    clear hR
    have hc := hF.cell (b := w.heap.size) (cs := #[.string s]) (t := 9) (fz := (0, 0)) (by simp [F76]) 0 rfl
    go_simp
    refine hK _ _ ⟨?_, ?_⟩
    · refine dmain_same ?_
      co_evs (exact evF_cell _ _ (hF.lt (b := w.heap.size) (o := .cells #[.string s] 9 (0, 0)) (by simp [F76])))
    clear hK K
    try walk_nrm
    clear hc
    have hln := events_len_str
    refine g_cons_k rfl (by rfl) ?_
    intro wO hR K hK
    replace hF := hF.rely hR
    clear hR
    go_simp
    refine hK _ _ ⟨?_, ?_⟩
    · rw [listed_nil (by simp [go_sem, *])]
      exact dmain_same (by simp)
    clear hK K
    try walk_nrm
    clear hln
    refine g_cons_k rfl (by rfl) ?_
    intro wO hR K hK
    replace hF := hF.rely hR
    clear hR
    go_simp
    refine hK _ _ ⟨?_, ?_⟩
    · rw [listed_nil (by simp [go_sem])]
      exact dmain_same (by simp)
    clear hK K
    try walk_nrm
    refine g_cons_k rfl (by rfl) ?_
    intro wO hR K hK
    replace hF := hF.rely hR
    clear hR
    go_simp
    refine hK _ _ ⟨?_, ?_⟩
    · rw [listed_nil (by simp [go_sem, *])]
      exact dmain_same (by simp)
    clear hK K
    try walk_nrm
    refine g_cons_k rfl (by rfl) ?_
    intro wO hR K hK
    replace hF := hF.rely hR
    clear hR
    go_simp
    refine hK _ _ ⟨?_, ?_⟩
    · rw [listed_nil (by simp [go_sem, *])]
      exact dmain_same (by simp)
    clear hK K
    try walk_nrm
    refine g_nil sideM_ok ⟨rfl, #[.string s, .bool true, .bool false, .bool false, .string s, .int .i64 (s.size : Int), .int .i64 ℓ, .bool (decide (ℓ < (s.size : Int)))], ?_, hF⟩
    have hd : decide (ℓ < (s.size : Int)) = !decide ((s.size : Int) ≤ ℓ) := by by_cases h : (s.size : Int) ≤ ℓ <;> simp [h] <;> omega
    simp [T76b, hd]
/-- Which rows are the receiver's. -/
def TO (O : Nat → Prop) : Cls := fun _ t b => t ≠ 105 ∧ t ≠ 65 ∧ O b
theorem okT (O : Nat → Prop) : OkT O (TO O) := ⟨fun _ _ h => h.1 rfl, fun _ _ h => h.2.1 rfl, fun _ _ _ ho h => ho h.2.2⟩
/-- The channel's zero value. -/
def zC : Value := .agg #[.slice none 0 0]
def FinM (Post : Goroutine → World → Prop) (g : Goroutine) (w : World) : Prop := ∀ d, ToM Try.prog g (w.at d) Post
abbrev SC (B0 c : Nat) (O : Nat → Prop) (Post : Goroutine → World → Prop) := sideC Try.prog B0 c (TO O) O PayL zC (FinM Post)
noncomputable def body76 : Code := Try.f76.body.getD .skip
theorem evC_old {B0 b j : Nat} {T : Cls} {Got : Nat → Prop} {w : World} (hB : b < B0) (hlt : b < w.heap.size) :
    EvF w.heap.size ⟨.cell ⟨b, j, none⟩, false, false⟩ ∧ ∀ x, (MemAct.ofEvent ⟨.cell ⟨b, j, none⟩, false, false⟩).touch? = some x → x.loc.isMemory = true → MayC B0 (isC T w) Got x := by
  refine ⟨evF_cell _ _ hlt, fun x hx _ => ?_⟩
  rw [ofEvent_cell0] at hx
  simp only [MemAct.touch?, Option.some.injEq] at hx
  subst hx
  exact ⟨b, rfl, .inl ⟨rfl, hB⟩⟩
set_option maxHeartbeats 4000000 in
theorem cand_closed (hs : s.size ≤ maxLen) (hv : (isFm s && decide ((s.size : Int) ≤ ℓ)) = false) (n : Nat) (cfr : Frame) (cs : List Frame) (w0 : World)
    (hK : ∀ w2, HM w0 4 [(w0.heap.size + 2, .chan 32 #[] true 0 0 false)] w2 → GoG Try.prog (sideM Try.prog Post) [] () (G (cfr.finish (.chan (some (w0.heap.size + 2)))) cs) w2) :
    GoG Try.prog (sideM Try.prog Post) [] () (G ((base 76).at { tmps := #[.string s, .int .i64 ℓ, .int .i64 (n : Int), undef, undef, undef, undef, undef, undef, undef, undef, undef, undef, undef, undef, undef, undef, undef, undef, undef, undef, undef], defers := [] } [.code body76]) (cfr :: cs)) w0 := by
  dsimp only [body76, Try.f76, Option.getD_some]
  refine goG_seq sideM_ok ?_
  refine goG_piece (xs := []) (ys := []) (fn := 76) rfl (by simp [base]) (p76_made (s := s) (ℓ := ℓ) (e := (n : Int)) w0) ?_
  rintro ex a' w' γ' ⟨rfl, rfl, hF⟩
  show GoG Try.prog (sideM Try.prog Post) [] () _ _
  refine goG_seq sideM_ok ?_
  refine goG_piece (xs := []) (ys := []) (fn := 76) rfl (by simp [base]) (p76_chan (s := s) (ℓ := ℓ) (e := (n : Int)) w0 w' hF) ?_
  clear hF
  rintro ex a' w' γ' ⟨rfl, rfl, hF⟩
  show GoG Try.prog (sideM Try.prog Post) [] () _ _
  refine goG_seq sideM_ok ?_
  refine goG_seq sideM_ok ?_
  refine goG_piece (xs := []) (ys := []) (fn := 76) rfl (by simp [base]) (p76_test (s := s) (ℓ := ℓ) (e := (n : Int)) (w := w0) hs 0 0 hF) ?_
  clear hF
  rintro ex a' w' γ' ⟨rfl, x, rfl, hF⟩
  show GoG Try.prog (sideM Try.prog Post) [] () _ _
  rw [hv]
  dsimp only [T76b]
  refine goG_cond sideM_ok (t := true) (by rfl) ?_
  simp only [if_true]
  refine goG_seq sideM_ok ?_
  refine goG_region sideM_ok ?_
  simp only [List.size_toArray, List.length_cons, List.length_nil, Nat.reduceAdd, Nat.zero_add, List.range, List.range.loop]
  refine goG_op rfl (by rfl) (by simp [base]) ?_
  intro wO hR K hK2
  replace hF := hF.rely hR
  clear hR
  have hc := hF.cell (b := w0.heap.size + 3) (cs := #[.chan (some (w0.heap.size + 2))]) (t := 102) (fz := (0, 0)) (by simp [F76]) 0 rfl
  have hlt := hF.lt (b := w0.heap.size + 3) (o := .cells #[.chan (some (w0.heap.size + 2))] 102 (0, 0)) (by simp [F76])
  go_simp
  refine hK2 _ _ ⟨?_, ?_⟩
  · refine dmain_same ?_
    co_evs (exact evF_cell _ _ hlt)
  clear hK2 K hc hlt
  try walk_nrm
  refine goG_op rfl (by rfl) (by simp [base]) ?_
  intro wO hR K hK2
  replace hF := hF.rely hR
  clear hR
  have hob : wO.heap[w0.heap.size + 2]? = some (.chan 32 #[] false 0 0 false) := hF.obj (w0.heap.size + 2, .chan 32 #[] false 0 0 false) (by simp [F76])
  have hrc := run_close_open (P := Try.prog) (w := wO) #[102] 0 hob
  have hec := events_close_open (P := Try.prog) (w := wO) (es := #[]) #[102] 0 hob
  have hlt := heap_low hob
  go_simp
  refine hK2 _ (wO.setChan (w0.heap.size + 2) 32 #[] true 0 0 false) ⟨⟨by rw [setChan_size]; exact Nat.le_refl _, ?_⟩, ?_⟩
  · intro ev hev
    have hm := mem_listed hev
    simp [go_sem, hec] at hm
    rw [setChan_size]
    rcases hm with rfl | rfl <;> exact evF_obj _ _ hlt
  clear hK2 K hrc hec hlt hob
  replace hF : HM w0 4 (F76 s (n : Int) w0.heap.size) wO := hF
  have hF3 : HM w0 4 [(w0.heap.size + 2, .chan 32 #[] true 0 0 false), (w0.heap.size + 3, .cells #[.chan (some (w0.heap.size + 2))] 102 (0, 0))] (wO.setChan (w0.heap.size + 2) 32 #[] true 0 0 false) :=
    HM.chan (hF.less (gs := [(w0.heap.size + 2, .chan 32 #[] false 0 0 false), (w0.heap.size + 3, .cells #[.chan (some (w0.heap.size + 2))] 102 (0, 0))]) (by simp [F76])) (by omega) (by simp)
  clear hF
  have hF := hF3
  clear hF3
  generalize wO.setChan (w0.heap.size + 2) 32 #[] true 0 0 false = w5 at hF ⊢
  try walk_nrm
  refine goG_nil sideM_ok ?_
  refine goG_seq sideM_ok ?_
  refine goG_region sideM_ok ?_
  simp only [List.size_toArray, List.length_cons, List.length_nil, Nat.reduceAdd, Nat.zero_add, List.range, List.range.loop]
  refine goG_op rfl (by rfl) (by simp [base]) ?_
  intro wO hR K hK2
  replace hF := hF.rely hR
  clear hR
  have hc := hF.cell (b := w0.heap.size + 3) (cs := #[.chan (some (w0.heap.size + 2))]) (t := 102) (fz := (0, 0)) (by simp) 0 rfl
  have hlt := hF.lt (b := w0.heap.size + 3) (o := .cells #[.chan (some (w0.heap.size + 2))] 102 (0, 0)) (by simp)
  go_simp
  refine hK2 _ _ ⟨?_, ?_⟩
  · refine dmain_same ?_
    co_evs (exact evF_cell _ _ hlt)
  clear hK2 K hc hlt
  try walk_nrm
  refine goG_op rfl (by rfl) (by simp [base]) ?_
  intro wO hR K hK2
  replace hF := hF.rely hR
  clear hR
  go_simp
  refine hK2 _ _ ⟨?_, ?_⟩
  · rw [listed_nil (by simp [go_sem])]
    exact dmain_same (by simp)
  clear hK2 K
  try walk_nrm
  refine goG_nil sideM_ok ?_
  refine goG_ret sideM_ok (by simp [base]) fun todo => ?_
  refine goG_leave sideM_ok rfl rfl Try.func76 (resultsM_of_C (sideM_ok.terms _).idle (resultsC_tmp (by rfl) _)) ?_
  exact hK _ (hF.less (by simp))
set_option maxHeartbeats 4000000 in
theorem cand_fork (hs : s.size ≤ maxLen) (hv : isFm s = true) (hℓ : (s.size : Int) ≤ ℓ) (n : Nat) (hn : n ≤ 8) (cfr : Frame) (cs : List Frame) (w0 : World)
    (hK : ∀ O w2, HM w0 4 (F76 s (n : Int) w0.heap.size) w2 → GoG Try.prog (SC (w0.heap.size + 4) (w0.heap.size + 2) O Post) (genL n s.data.toList) (fun _ => False) (G (cfr.finish (.chan (some (w0.heap.size + 2)))) cs) w2) :
    GoG Try.prog (sideM Try.prog Post) [] () (G ((base 76).at { tmps := #[.string s, .int .i64 ℓ, .int .i64 (n : Int), undef, undef, undef, undef, undef, undef, undef, undef, undef, undef, undef, undef, undef, undef, undef, undef, undef, undef, undef], defers := [] } [.code body76]) (cfr :: cs)) w0 := by
  dsimp only [body76, Try.f76, Option.getD_some]
  refine goG_seq sideM_ok ?_
  refine goG_piece (xs := []) (ys := []) (fn := 76) rfl (by simp [base]) (p76_made (s := s) (ℓ := ℓ) (e := (n : Int)) w0) ?_
  rintro ex a' w' γ' ⟨rfl, rfl, hF⟩
  show GoG Try.prog (sideM Try.prog Post) [] () _ _
  refine goG_seq sideM_ok ?_
  refine goG_piece (xs := []) (ys := []) (fn := 76) rfl (by simp [base]) (p76_chan (s := s) (ℓ := ℓ) (e := (n : Int)) w0 w' hF) ?_
  clear hF
  rintro ex a' w' γ' ⟨rfl, rfl, hF⟩
  show GoG Try.prog (sideM Try.prog Post) [] () _ _
  refine goG_seq sideM_ok ?_
  refine goG_seq sideM_ok ?_
  refine goG_piece (xs := []) (ys := []) (fn := 76) rfl (by simp [base]) (p76_test (s := s) (ℓ := ℓ) (e := (n : Int)) (w := w0) hs 0 0 hF) ?_
  clear hF
  rintro ex a' w' γ' ⟨rfl, x, rfl, hF⟩
  show GoG Try.prog (sideM Try.prog Post) [] () _ _
  have hd : (!(isFm s && decide ((s.size : Int) ≤ ℓ))) = false := by rw [hv]; simp [hℓ]
  rw [hd]
  refine goG_cond sideM_ok (t := false) (by rfl) ?_
  simp only [Bool.false_eq_true, if_false]
  refine goG_piece (xs := []) (ys := []) (fn := 76) rfl (by simp [base]) (g_skip sideM_ok (Q := fun ex a2 w2 _ => ex = .normal ∧ a2 = { tmps := T76b s ℓ (n : Int) w0.heap.size x false, defers := [] } ∧ w2 = w') ⟨rfl, rfl, rfl⟩) ?_
  rintro ex a2 w2 γ' ⟨rfl, rfl, rfl⟩
  show GoG Try.prog (sideM Try.prog Post) [] () _ _
  dsimp only [T76b]
  refine goG_seq sideM_ok ?_
  refine goG_region sideM_ok ?_
  simp only [List.size_toArray, List.length_cons, List.length_nil, Nat.reduceAdd, Nat.zero_add, List.range, List.range.loop]
  refine goG_op rfl (by rfl) (by simp [base]) ?_
  intro wO hR K hK
  replace hF := hF.rely hR
  clear hR
  go_simp
  refine hK _ _ ⟨?_, ?_⟩
  · rw [listed_nil (by simp [go_sem])]
    exact dmain_same (by simp)
  clear hK K
  try walk_nrm
  -- the go statement
  refine goG_of_toM fun d => ?_
  have hF2 : HM w0 4 (F76 s (n : Int) w0.heap.size) (wO.at d) := hF.rely ⟨d, rfl⟩
  generalize wO.at d = w3 at hF2
  refine ToM.trans (Mid := FinM Post) ?_ (fun a' w' h => h w'.drawn)
  have hc : w3.heap[w0.heap.size + 2]? = some (.chan 32 #[] false 0 0 false) := hF2.obj (w0.heap.size + 2, .chan 32 #[] false 0 0 false) (by simp [F76])
  refine toM_go (c := w0.heap.size + 2) (T := TO) (Pay := PayL) (z := zC) (cap := 32) (xs := genL n s.data.toList) (call101 w0.heap.size (w0.heap.size + 3) (w0.heap.size + 1)) rfl (by rfl) (by simp [base]) (fun d => ⟨?_, ?_⟩) rfl payL_ok (by omega) hc (fun O d => ?_) fun O d => ?_
  · simp [go_sem, call101]
  · simp [go_sem]
  · refine (recvs_iff _ _ _ _ _ _ _ _ _ _ _ _).2 ?_
    have hF3 : HM w0 4 (F76 s (n : Int) w0.heap.size) (w3.at d) := hF2.rely ⟨d, rfl⟩
    rw [hF2.siz]
    change GoG Try.prog (SC (w0.heap.size + 4) (w0.heap.size + 2) O Post) (genL n s.data.toList) (fun _ => False) _ _
    have hgo := hK O (w3.at d) hF3
    generalize w3.at d = w4 at *
    walk_nrm
    refine goG_nil sideC_ok ?_
    refine goG_seq sideC_ok ?_
    refine goG_region sideC_ok ?_
    simp only [List.size_toArray, List.length_cons, List.length_nil, Nat.reduceAdd, Nat.zero_add, List.range, List.range.loop]
    refine goG_op rfl (by rfl) (by simp [base]) ?_
    intro w5 hR K hK2
    have hg5 := GoG.rely sideC_ok hgo hR
    have hlt : w0.heap.size + 3 < w4.heap.size := by rw [hF3.siz]; omega
    have hob : w5.heap[w0.heap.size + 3]? = some (.cells #[.chan (some (w0.heap.size + 2))] 102 (0, 0)) := (hR.2 (w0.heap.size + 3) hlt (by omega) (.inl (by omega))).trans (hF3.obj (w0.heap.size + 3, .cells #[.chan (some (w0.heap.size + 2))] 102 (0, 0)) (by simp [F76]))
    have hc : w5.cell? ⟨w0.heap.size + 3, 0, none⟩ = some (.chan (some (w0.heap.size + 2))) := by unfold World.cell?; simp only [hob]; rfl
    have hlt5 := heap_low hob
    go_simp
    refine hK2 _ _ ⟨?_, ?_⟩
    · refine ⟨Grow.refl _ _, fun _ _ _ => rfl, ?_⟩
      intro ev hev
      have hm := mem_listed hev
      simp [go_sem, hc] at hm
      subst hm
      exact evC_old (by omega) hlt5
    clear hK2 K hc hob hR hlt hlt5
    try walk_nrm
    refine goG_op rfl (by rfl) (by simp [base]) ?_
    intro w6 hR K hK2
    have hg6 := GoG.rely sideC_ok hg5 hR
    go_simp
    refine hK2 _ _ ⟨?_, ?_⟩
    · rw [listed_nil (by simp [go_sem])]
      exact (sideC_ok.terms _).idle _
    clear hK2 K hR
    try walk_nrm
    refine goG_nil sideC_ok ?_
    refine goG_ret sideC_ok (by simp [base]) fun todo => ?_
    refine goG_leave sideC_ok rfl rfl Try.func76 (resultsM_of_C (sideC_ok.terms _).idle (resultsC_tmp (by rfl) _)) ?_
    exact hg6
  · have hsz : s.size ≤ 8 := isFm_size hv
    have hF3 : HM w0 4 (F76 s (n : Int) w0.heap.size) (w3.at d) := hF2.rely ⟨d, rfl⟩
    refine child_sends (okT O) ⟨?_⟩ (by rw [hF2.siz]; omega) (by omega) n (by omega) (by omega) _ (Nat.le_refl _) ⟨?_, ?_, ?_⟩
    · rintro b (rfl | rfl | rfl) <;> (rw [hF2.siz]; omega)
    · exact hF3.cell (b := w0.heap.size) (cs := #[.string s]) (t := 9) (fz := (0, 0)) (by simp [F76]) 0 rfl
    · exact hF3.cell (b := w0.heap.size + 3) (cs := #[.chan (some (w0.heap.size + 2))]) (t := 102) (fz := (0, 0)) (by simp [F76]) 0 rfl
    · exact hF3.cell (b := w0.heap.size + 1) (cs := #[.int .i64 (n : Int)]) (t := 3) (fz := (0, 0)) (by simp [F76]) 0 rfl
end
end Go.Proofs.Ytlkhknoaifbajaa

/- GOROUTINE 0: a loop that receives till the channel is closed; CountCandidates. -/
namespace Go.Proofs.Ytlkhknoaifbajaa
open Go.Conc Go.RowKit M
set_option linter.unusedVariables false
set_option linter.unusedSimpArgs false
set_option maxRecDepth 100000

/-- Since the go statement old memory is as it was. -/
structure OldC (B0 c : Nat) (w2 w : World) : Prop where
  b0 : B0 ≤ w2.heap.size
  tape : w.tape = w2.tape
  os : w.os = w2.os
  output : w.output = w2.output
  size : w2.heap.size ≤ w.heap.size
  blk : ∀ b, b < B0 → b ≠ c → w.heap[b]? = w2.heap[b]?
section
variable {B0 c : Nat} {T : Cls} {Got : Nat → Prop} {w2 w w' : World}
theorem OldC.refl (h : B0 ≤ w.heap.size) : OldC B0 c w w := ⟨h, rfl, rfl, rfl, Nat.le_refl _, fun _ _ _ => rfl⟩
theorem OldC.rely (h : OldC B0 c w2 w) (r : RelyC B0 c T Got w w') : OldC B0 c w2 w' :=
  ⟨h.b0, r.1.tape.trans h.tape, r.1.os.trans h.os, r.1.output.trans h.output, Nat.le_trans h.size r.1.size, fun b hb hc => (r.2 b (by have := h.b0; have := h.size; omega) hc (.inl hb)).trans (h.blk b hb hc)⟩
theorem OldC.dc {es : Array Event} (h : OldC B0 c w2 w) (r : DC B0 T Got w w' es) : OldC B0 c w2 w' :=
  ⟨h.b0, r.1.tape.trans h.tape, r.1.os.trans h.os, r.1.output.trans h.output, Nat.le_trans h.size r.1.size, fun b hb hc => (r.2.1 b (by have := h.b0; have := h.size; omega) (.inl hb)).trans (h.blk b hb hc)⟩
theorem OldC.below {w0 : World} {fs : List (Nat × Obj)} (h : OldC (w0.heap.size + 4) (w0.heap.size + 2) w2 w) (hm : HM w0 4 fs w2) : Below w0.heap.size w0 w :=
  ⟨h.os.trans hm.bel.os, h.tape.trans hm.bel.tape, h.output.trans hm.bel.output, Nat.le_trans hm.bel.size h.size, fun k hk => (h.blk k (by omega) (by omega)).trans (hm.bel.block k hk)⟩
end
/-- Old memory, beside leavers. -/
structure BM (w0 w : World) : Prop where
  out : Below w0.heap.size w0 w
theorem HM.of_below {w0 w : World} (h : Below w0.heap.size w0 w) : BM w0 w := ⟨h⟩
theorem BM.rely {w0 w w' : World} (h : BM w0 w) (x : AtRel w w') : BM w0 w' := by
  obtain ⟨d, rfl⟩ := x
  exact ⟨⟨h.out.os, h.out.tape, h.out.output, h.out.size, h.out.block⟩⟩
section
variable {P : Program} {α σ : Type} {S : Side α σ} {a : Act} {w : World} {γ : σ} {b : Frame} {k : List Item} {cs : List Frame}
theorem goG_exit (ok : SideOk S) {id : Nat} {xs : List α} {k' : List Item} (hk : b.kind ≠ .early) (he : exitTo id k = some k') (h : GoG P S xs γ (G (b.at a k') cs) w) : GoG P S xs γ (G (b.at a (.code (.exit id) :: k)) cs) w :=
  (g_exit ok (fn := b.fn) (Q := fun e a' w' γ' => e = .exit id ∧ a' = a ∧ w' = w ∧ γ' = γ) ⟨rfl, rfl, rfl, rfl⟩) b k cs xs rfl hk fun e a' w' γ' q => by
    obtain ⟨rfl, rfl, rfl, rfl⟩ := q
    exact ⟨k', he, h⟩
theorem goG_skip (ok : SideOk S) {xs : List α} (hk : b.kind ≠ .early) (h : GoG P S xs γ (G (b.at a k) cs) w) : GoG P S xs γ (G (b.at a (.code .skip :: k)) cs) w :=
  (g_skip ok (fn := b.fn) (Q := fun e a' w' γ' => e = .normal ∧ a' = a ∧ w' = w ∧ γ' = γ) ⟨rfl, rfl, rfl, rfl⟩) b k cs xs rfl hk fun e a' w' γ' q => by
    obtain ⟨rfl, rfl, rfl, rfl⟩ := q
    exact h
theorem goG_inBlock (ok : SideOk S) {id : Nat} {xs : List α} (h : GoG P S xs γ (G (b.at a k) cs) w) : GoG P S xs γ (G (b.at a (.inBlock id :: k)) cs) w :=
  GoI.stepG rfl fun w₁ h₁ => by rw [stepG_inBlock]; exact ⟨(ok.terms γ).idle _, GoG.rely ok h h₁⟩
theorem goG_loop1 (ok : SideOk S) {xs : List α} {x : Code} (h : GoG P S xs γ (G (b.at a (.code x :: .inLoop x :: k)) cs) w) : GoG P S xs γ (G (b.at a (.code (.loop x) :: k)) cs) w :=
  GoI.stepG rfl fun w₁ h₁ => by rw [stepG_loop]; exact ⟨(ok.terms γ).idle _, GoG.rely ok h h₁⟩
theorem goG_call (ok : SideOk S) {xs : List α} {ops : Array Oper} {i : Nat} {rest : List Nat} {o : Oper} {f : FuncId} {fn' : Func} {x : Code} {args : Array Operand} {ats : Array TypeId} (ho : ops[i]? = some o) (hw : Region.wanted o (yielded ops a.tmps) = true) (hk : b.kind ≠ .early) (hop : o.op = .call { callee := .value (.func f), args, argTypes := ats })
    (hf : P.funcs[f]? = some fn') (hname : (fn'.name == "runtime.NumGoroutine") = false) (hb : fn'.body = some x)
    (h : GoG P S xs γ (G ((base f).at { tmps := args.map a.eval ++ Array.replicate (fn'.ntmps - (args.map a.eval).size) undef, defers := [] } [.code x]) (b.at a (.inRegion ops (i :: rest) :: k) :: cs)) w) : GoG P S xs γ (G (b.at a (.inRegion ops (i :: rest) :: k)) cs) w :=
  GoI.stepG rfl fun w₁ h₁ => goes_call ho hw hk hop hf hname hb ⟨(ok.terms γ).idle _, GoG.rely ok h h₁⟩
/-- A receive from a closed, empty channel, beside leavers. -/
theorem goG_recv_closed {Post : Goroutine → World → Prop} {c cap s r : Nat} {z : Value} {ys : List Unit} {ops : Array Oper} {i : Nat} {rest : List Nat} {o : Oper} (ho : ops[i]? = some o) (hw : Region.wanted o (yielded ops a.tmps) = true) (hk : b.kind ≠ .early) (hc : w.heap[c]? = some (.chan cap #[] true s r false))
    (hrun : ∀ d, (execOp a.eval o).run P (w.at d) = .ok (.comm #[rcase c z] true (.recv true)) (w.at d) ∧ (execOp a.eval o).events P (w.at d) #[] = #[])
    (h : GoG P (sideM P Post) [] () (G (b.at (a.put o.dst (.tuple #[z, .bool false])) (.inRegion ops rest :: k)) cs) w) : GoG P (sideM P Post) ys () (G (b.at a (.inRegion ops (i :: rest) :: k)) cs) w := by
  refine goG_of_toM fun d => toM_recv_closed (c := c) (z := z) (cap := cap) (s := s) (r := r) rfl (fun d2 => ?_) hc fun d2 => ?_
  · have h3 := stepG_comm (main := true) (b := b) (k := k) (cs := cs) (rest := rest) ho hw hk (hrun d2).1
    rw [listed_nil (hrun d2).2] at h3
    rw [core_G]
    exact h3
  · rw [core_G, served_G, ho]
    exact toM_of_goG (GoG.rely sideM_ok h ⟨d2, rfl⟩)
/-- A LOOP THAT RECEIVES, one message a round, till the channel is closed. -/
theorem goG_loop (ok : SideOk S) {x : Code} (L : List α) (I : Nat → Act → World → σ → Prop) (hk : b.kind ≠ .early)
    (round : ∀ j y a w γ, L[j]? = some y → I j a w γ → WG P S b.fn x [y] γ (fun e a' w' γ' => e = .normal ∧ I (j + 1) a' w' γ') a w)
    (last : ∀ a w γ, I L.length a w γ → GoG P S [] γ (G (b.at a (.code x :: .inLoop x :: k)) cs) w)
    (h0 : I 0 a w γ) : GoG P S L γ (G (b.at a (.code (.loop x) :: k)) cs) w := by
  have key : ∀ r j a w γ, j + r = L.length → I j a w γ → GoG P S (L.drop j) γ (G (b.at a (.code x :: .inLoop x :: k)) cs) w := by
    intro r
    induction r with
    | zero =>
      intro j a w γ hj hI
      obtain rfl : j = L.length := by omega
      rw [List.drop_length]
      exact last a w γ hI
    | succ r ih =>
      intro j a w γ hj hI
      have hl : j < L.length := by omega
      rw [List.drop_eq_getElem_cons hl]
      refine round j L[j] a w γ (List.getElem?_eq_getElem hl) hI b (.inLoop x :: k) cs (L.drop (j + 1)) rfl hk fun e a' w' γ' q => ?_
      obtain ⟨rfl, q⟩ := q
      exact GoI.stepG rfl fun w₁ h₁ => by rw [stepG_inLoop]; exact ⟨(ok.terms γ').idle _, GoG.rely ok (ih (j + 1) a' w' γ' (by omega) q) h₁⟩
  have := key L.length 0 a w γ (by omega) h0
  exact GoI.stepG rfl fun w₁ h₁ => by rw [stepG_loop]; exact ⟨(ok.terms γ).idle _, GoG.rely ok this h₁⟩
end
section
variable {Post : Goroutine → World → Prop} {s : ByteArray} {w : World}
noncomputable def body29 : Code := Try.f29.body.getD .skip
noncomputable def X29 : Code := match Try.f29.body with | some (.seq _ (.seq _ (.seq (.seq _ (.block _ (.loop x))) _))) => x | _ => .skip
def T29 (s : ByteArray) (c : Nat) (j : Int) (x : Array Value) : Array Value := #[.string s, undef, .int .i64 0, .int .i64 j, .string s, .chan (some c), x.getD 0 undef, x.getD 1 undef, x.getD 2 undef, x.getD 3 undef, undef]
set_option maxHeartbeats 4000000 in
theorem round29 {B0 c : Nat} {T : Cls} {O : Nat → Prop} {Fin : Goroutine → World → Prop} (y : List DLink) (w2 w : World) (Got : Nat → Prop) (j : Nat) (hj : j ≤ 4000) (x : Array Value) (hF : OldC B0 c w2 w) :
    WG Try.prog (sideC Try.prog B0 c T O PayL zC Fin) 29 X29 [y] Got (fun ex a' w' _ => ex = .normal ∧ ∃ x', a' = { tmps := T29 s c (j + 1 : Nat) x', defers := [] } ∧ OldC B0 c w2 w') { tmps := T29 s c (j : Nat) x, defers := [] } w := by
  dsimp only [X29, Try.f29, T29]
  refine g_seq (xs := [y]) (xs' := []) sideC_ok ?_
  refine g_region sideC_ok ?_
  simp only [List.size_toArray, List.length_cons, List.length_nil, Nat.reduceAdd, Nat.zero_add, List.range, List.range.loop]
  refine g_recv (x := y) (xs := []) rfl (by rfl) (fun w₁ h₁ d => ⟨?_, ?_⟩) fun wA hA v rows hp hr => ?_
  · rfl
  · rfl
  replace hF := hF.rely hA
  clear hA
  walk_nrm
  refine g_cons_k rfl (by rfl) ?_
  intro wO hR K hK
  replace hF := hF.rely hR
  clear hR
  go_simp
  refine hK _ _ ⟨?_, ?_⟩
  · rw [listed_nil (by simp [go_sem])]
    exact (sideC_ok.terms _).idle _
  clear hK K
  try walk_nrm
  refine g_nil sideC_ok ?_
  simp only [ThenS]
  refine g_seq (xs := []) (xs' := []) sideC_ok ?_
  refine g_cond sideC_ok (t := true) (by rfl) ?_
  simp only [if_true]
  refine g_skip sideC_ok ?_
  simp only [ThenS]
  refine g_block sideC_ok ?_
  refine g_region sideC_ok ?_
  simp only [List.size_toArray, List.length_cons, List.length_nil, Nat.reduceAdd, Nat.zero_add, List.range, List.range.loop]
  refine g_cons_k rfl (by rfl) ?_
  intro wO hR K hK
  replace hF := hF.rely hR
  clear hR
  go_simp
  refine hK _ _ ⟨?_, ?_⟩
  · rw [listed_nil (by simp [go_sem])]
    exact (sideC_ok.terms _).idle _
  clear hK K
  try walk_nrm
  have hwr : IntKind.i64.wrap ((j : Int) + 1) = ((j + 1 : Nat) : Int) := by rw [IntWalk.i64_in _ (by omega)]; omega
  refine g_cons_k rfl (by rfl) ?_
  intro wO hR K hK
  replace hF := hF.rely hR
  clear hR
  go_simp
  refine hK _ _ ⟨?_, ?_⟩
  · rw [listed_nil (by simp [go_sem, *])]
    exact (sideC_ok.terms _).idle _
  clear hK K
  try walk_nrm
  refine g_cons_k rfl (by rfl) ?_
  intro wO hR K hK
  replace hF := hF.rely hR
  clear hR
  go_simp
  refine hK _ _ ⟨?_, ?_⟩
  · rw [listed_nil (by simp [go_sem])]
    exact (sideC_ok.terms _).idle _
  clear hK K
  try walk_nrm
  exact g_nil sideC_ok ⟨rfl, #[.tuple #[v, .bool true], .bool true, .int .i64 (j : Int), .int .i64 ((j : Int) + 1)], by simp [T29], hF⟩
/-- What CountCandidates answers. -/
def cntG (s : ByteArray) : Nat := (genS2 s).length
theorem fin29 (a : Act) (k : List Item) (ops : Array Oper) (i : Nat) (rest : List Nat) (o : Oper) (b : Frame) (v : Value) (ho : ops[i]? = some o) : (b.at a (.inRegion ops (i :: rest) :: k)).finish v = b.at (a.put o.dst v) (.inRegion ops rest :: k) := by rw [Frame.finish_at, ho]; rfl
set_option maxHeartbeats 4000000 in
theorem count_main (hs : s.size ≤ maxLen) (w0 : World) (cfr : Frame) (cs : List Frame) (hK : ∀ w', Below w0.heap.size w0 w' → GoG Try.prog (sideM Try.prog Post) [] () (G (cfr.finish (.int .i64 (cntG s : Nat))) cs) w') :
    GoG Try.prog (sideM Try.prog Post) [] () (G ((base 29).at { tmps := #[.string s, undef, undef, undef, undef, undef, undef, undef, undef, undef, undef], defers := [] } [.code body29]) (cfr :: cs)) w0 := by
  dsimp only [body29, Try.f29, Option.getD_some]
  have hF := HM.of_below (Below.refl w0.heap.size w0)
  refine goG_seq sideM_ok ?_
  refine goG_region sideM_ok ?_
  simp only [List.size_toArray, List.length_cons, List.length_nil, Nat.reduceAdd, Nat.zero_add, List.range, List.range.loop]
  refine goG_op rfl (by rfl) (by simp [base]) ?_
  intro wO hR K hK2
  replace hF := hF.rely hR
  clear hR
  go_simp
  refine hK2 _ _ ⟨?_, ?_⟩
  · rw [listed_nil (by simp [go_sem])]
    exact dmain_same (by simp)
  clear hK2 K
  try walk_nrm
  refine goG_nil sideM_ok ?_
  refine goG_seq sideM_ok ?_
  refine goG_region sideM_ok ?_
  simp only [List.size_toArray, List.length_cons, List.length_nil, Nat.reduceAdd, Nat.zero_add, List.range, List.range.loop]
  refine goG_op rfl (by rfl) (by simp [base]) ?_
  intro wO hR K hK2
  replace hF := hF.rely hR
  clear hR
  go_simp
  refine hK2 _ _ ⟨?_, ?_⟩
  · rw [listed_nil (by simp [go_sem])]
    exact dmain_same (by simp)
  clear hK2 K
  try walk_nrm
  refine goG_nil sideM_ok ?_
  refine goG_seq sideM_ok ?_
  refine goG_seq sideM_ok ?_
  refine goG_region sideM_ok ?_
  simp only [List.size_toArray, List.length_cons, List.length_nil, Nat.reduceAdd, Nat.zero_add, List.range, List.range.loop]
  refine goG_op rfl (by rfl) (by simp [base]) ?_
  intro wO hR K hK2
  replace hF := hF.rely hR
  clear hR
  go_simp
  refine hK2 _ _ ⟨?_, ?_⟩
  · rw [listed_nil (by simp [go_sem])]
    exact dmain_same (by simp)
  clear hK2 K
  try walk_nrm
  refine goG_call (x := body76) sideM_ok rfl (by rfl) (by simp [base]) rfl Try.func76 (by rfl) (by rfl) ?_
  walk_nrm
  simp only [Try.ntmps76, List.size_toArray, List.length_cons, List.length_nil, Nat.reduceAdd, Nat.reduceSub, Array.replicate_succ, Array.replicate_zero, List.push_toArray, List.append_toArray, List.nil_append, List.cons_append]
  rw [show (Value.int .i64 2) = Value.int .i64 ((2 : Nat) : Int) from rfl]
  by_cases hv : isFm s = true ∧ s.size ≤ 4
  · have hG : cntG s = (genL 2 s.data.toList).length := by unfold cntG genS2; rw [if_pos hv]
    have hlen := gen_len 2 (by omega) s.data.toList (by rw [Array.length_toList]; show s.size ≤ 8; omega)
    have hvi : (s.size : Int) ≤ 4 := by omega
    have h2 := cand_fork (Post := Post) (s := s) (ℓ := 4) hs hv.1 hvi 2 (by omega)
    dsimp only [SC] at h2
    apply h2
    intro O w2 hm
    rw [fin29 _ _ _ _ _ _ _ _ rfl]
    have hO : OldC (wO.heap.size + 4) (wO.heap.size + 2) w2 w2 := OldC.refl (by rw [hm.siz]; exact Nat.le_refl _)
    walk_nrm
    refine goG_nil sideC_ok ?_
    refine goG_block sideC_ok ?_
    refine goG_loop sideC_ok (genL 2 s.data.toList) (fun j a w' Got => ∃ x, a = { tmps := T29 s (wO.heap.size + 2) (j : Nat) x, defers := [] } ∧ OldC (wO.heap.size + 4) (wO.heap.size + 2) w2 w') (by simp [base]) ?round ?last ?start
    case round =>
      rintro j y a w' Got hy ⟨x, rfl, hF'⟩
      have hjl := (List.getElem?_eq_some_iff.1 hy).1
      refine ItG.mono (round29 y w2 w' Got j (by omega) x hF') ?_
      rintro e a w γ ⟨rfl, x', rfl, h'⟩
      exact ⟨rfl, x', rfl, h'⟩
    case start => exact ⟨#[], rfl, hO⟩
    case last =>
      rintro a w' Got ⟨x, rfl, hF'⟩
      dsimp only [T29]
      refine goG_seq sideC_ok ?_
      refine goG_region sideC_ok ?_
      simp only [List.size_toArray, List.length_cons, List.length_nil, Nat.reduceAdd, Nat.zero_add, List.range, List.range.loop]
      refine goG_last rfl (by rfl) (by simp [base]) (fun w₁ h₁ d => ⟨rfl, rfl⟩) fun w3 h3 d => toM_of_goG (ys := []) ?_
      have hB : BM w0 (w3.at d) := BM.rely (HM.of_below (hF.out.trans ((hF'.rely h3).below hm |>.mono hF.out.size))) ⟨d, rfl⟩
      generalize w3.at d = w4 at hB
      clear hF hF' h3
      have hF := hB
      clear hB
      walk_nrm
      refine goG_op rfl (by rfl) (by simp [base]) ?_
      intro wO hR K hK2
      replace hF := hF.rely hR
      clear hR
      go_simp
      refine hK2 _ _ ⟨?_, ?_⟩
      · rw [listed_nil (by simp [go_sem])]
        exact dmain_same (by simp)
      clear hK2 K
      try walk_nrm
      refine goG_nil sideM_ok ?_
      refine goG_seq sideM_ok ?_
      refine goG_cond sideM_ok (t := false) (by rfl) ?_
      simp only [Bool.false_eq_true, if_false]
      refine goG_exit sideM_ok (by simp [base]) (by rfl) ?_
      refine goG_seq sideM_ok ?_
      refine goG_region sideM_ok ?_
      simp only [List.size_toArray, List.length_cons, List.length_nil, Nat.reduceAdd, Nat.zero_add, List.range, List.range.loop]
      refine goG_op rfl (by rfl) (by simp [base]) ?_
      intro wO hR K hK2
      replace hF := hF.rely hR
      clear hR
      go_simp
      refine hK2 _ _ ⟨?_, ?_⟩
      · rw [listed_nil (by simp [go_sem])]
        exact dmain_same (by simp)
      clear hK2 K
      try walk_nrm
      refine goG_op rfl (by rfl) (by simp [base]) ?_
      intro wO hR K hK2
      replace hF := hF.rely hR
      clear hR
      go_simp
      refine hK2 _ _ ⟨?_, ?_⟩
      · rw [listed_nil (by simp [go_sem])]
        exact dmain_same (by simp)
      clear hK2 K
      try walk_nrm
      refine goG_nil sideM_ok ?_
      refine goG_ret sideM_ok (by simp [base]) fun todo => ?_
      refine goG_leave sideM_ok rfl rfl Try.func29 (resultsM_of_C (sideM_ok.terms _).idle (resultsC_tmp (by rfl) _)) ?_
      walk_nrm
      rw [← hG]
      exact hK _ hF.out
  · have hG : cntG s = 0 := by unfold cntG genS2; rw [if_neg hv]; rfl
    have hvi : (isFm s && decide ((s.size : Int) ≤ 4)) = false := by
      cases h : isFm s with
      | false => rfl
      | true =>
        have : ¬ (s.size : Int) ≤ 4 := fun h4 => hv ⟨h, by omega⟩
        simp [this]
    have h2 := cand_closed (Post := Post) (s := s) (ℓ := 4) hs hvi 2
    apply h2
    intro w2 hm
    rw [fin29 _ _ _ _ _ _ _ _ rfl]
    have hc : w2.heap[wO.heap.size + 2]? = some (.chan 32 #[] true 0 0 false) := hm.obj (wO.heap.size + 2, .chan 32 #[] true 0 0 false) (by simp)
    have hB : BM w0 w2 := HM.of_below (hF.out.trans (hm.bel.mono hF.out.size))
    clear hF
    have hF := hB
    clear hB
    walk_nrm
    refine goG_nil sideM_ok ?_
    refine goG_block sideM_ok ?_
    refine goG_loop1 sideM_ok ?_
    refine goG_seq sideM_ok ?_
    refine goG_region sideM_ok ?_
    simp only [List.size_toArray, List.length_cons, List.length_nil, Nat.reduceAdd, Nat.zero_add, List.range, List.range.loop]
    refine goG_recv_closed (c := wO.heap.size + 2) (z := zC) rfl (by rfl) (by simp [base]) hc (fun d => ⟨rfl, rfl⟩) ?_
    walk_nrm
    refine goG_op rfl (by rfl) (by simp [base]) ?_
    intro wO hR K hK2
    replace hF := hF.rely hR
    clear hR
    go_simp
    refine hK2 _ _ ⟨?_, ?_⟩
    · rw [listed_nil (by simp [go_sem])]
      exact dmain_same (by simp)
    clear hK2 K
    try walk_nrm
    refine goG_nil sideM_ok ?_
    refine goG_seq sideM_ok ?_
    refine goG_cond sideM_ok (t := false) (by rfl) ?_
    simp only [Bool.false_eq_true, if_false]
    refine goG_exit sideM_ok (by simp [base]) (by rfl) ?_
    refine goG_seq sideM_ok ?_
    refine goG_region sideM_ok ?_
    simp only [List.size_toArray, List.length_cons, List.length_nil, Nat.reduceAdd, Nat.zero_add, List.range, List.range.loop]
    refine goG_op rfl (by rfl) (by simp [base]) ?_
    intro wO hR K hK2
    replace hF := hF.rely hR
    clear hR
    go_simp
    refine hK2 _ _ ⟨?_, ?_⟩
    · rw [listed_nil (by simp [go_sem])]
      exact dmain_same (by simp)
    clear hK2 K
    try walk_nrm
    refine goG_op rfl (by rfl) (by simp [base]) ?_
    intro wO hR K hK2
    replace hF := hF.rely hR
    clear hR
    go_simp
    refine hK2 _ _ ⟨?_, ?_⟩
    · rw [listed_nil (by simp [go_sem])]
      exact dmain_same (by simp)
    clear hK2 K
    try walk_nrm
    refine goG_nil sideM_ok ?_
    refine goG_ret sideM_ok (by simp [base]) fun todo => ?_
    refine goG_leave sideM_ok rfl rfl Try.func29 (resultsM_of_C (sideM_ok.terms _).idle (resultsC_tmp (by rfl) _)) ?_
    walk_nrm
    rw [hG] at hK
    exact hK _ hF.out
end
end Go.Proofs.Ytlkhknoaifbajaa
