/- Appending links to a row of the call's own; answers that lie in a cell; boxes. -/
import Derived.Test.YtfcmhbbeohhjmaaIc1
import Derived.Test.YtfcmhbbeohhjmaaRa
import Derived.Test.YtfcmhbbeohhjmaaTtLinkS
import Derived.Test.YtfcmhbbeohhjmaaCd
import Derived.Laws.Rows
import Derived.Laws.CopyRow
import Derived.Laws.CopyOwn
import Derived.Laws.ResultCell
import Derived.Deep.RegionLaw
import Derived.Deep.RegionWith
namespace Go.Proofs.Ytfcmhbbeohhjmaa
set_option maxRecDepth 100000
open Go.RowKit M
set_option linter.unusedVariables false
set_option linter.unusedSimpArgs false

theorem drewN_heap (w : World) (n : Nat) : (w.drewN n).heap = w.heap := by
  induction n generalizing w with
  | zero => rfl
  | succ n ih => exact (ih w.drew)
theorem inC_drewN {w : World} {g n : Nat} {cs : Array Value} {t : TypeId} (h : InC w g cs t) : InC (w.drewN n) g cs t := by
  unfold InC; rw [drewN_heap]; exact h
theorem Below6.drew {B : Nat} {w w' : World} (h : Below B w w') : Below B w w'.drew := h.drew
theorem Below6.drewN {B n : Nat} {w w' : World} (h : Below B w w') : Below B w (w'.drewN n) := drewN_below h
theorem InC.put {w : World} {B : Nat} {cs : Array Value} {t : TypeId} (h : InC w B cs t) (j : Nat) (u : Value) : InC (w.setCell ⟨B, j, none⟩ u) B (cs.setIfInBounds j u) t := heap_setCell_same w B j cs t u h
def lkC (x : DLink) : List Value := [.int .u8 (x.In.toNat : Int), .int .u8 (x.Out.toNat : Int)]
theorem lkC_len (ls : List DLink) : (ls.flatMap lkC).length = 2 * ls.length := by
  induction ls with
  | nil => rfl
  | cons x l ih => rw [List.flatMap_cons, List.length_append, ih, List.length_cons]; simp [lkC]; omega
theorem results_cell_rt {P : Program} {fn : Func} {p u : Tmp} {ty : TypeId} (h : fn.results = #[.cell p ty, .tmp u]) (tmps : Array Value) (w : World) (g : Nat) (t : TypeId) (cs : Array Value) (fr : Nat × Nat) (d : TypeDesc)
    (hp : tmps.getD p undef = .pointer (some ⟨g, 0, none⟩)) (hg : w.heap[g]? = some (.cells cs t fr))
    (hu : P.underlying ty = some d) (hd : (match d with | .struct _ | .array _ _ => true | _ => false) = true) (hi : (P.info? ty).map (·.size) = some cs.size) :
    (results fn tmps).run P w = .ok (.tuple #[.agg cs, tmps.getD u undef]) w := by
  have hp' : tmps[p]?.getD undef = .pointer (some ⟨g, 0, none⟩) := by simpa using hp
  rw [results_cell_tmp h]
  simp [hp', asAddr, run_loadVar_row w g t ty cs fr d hg hu hd hi, Result.andThen]
theorem infoCd1 : (Try.prog.info? 29).map (·.size) = some 1 := by kernel_rfl
theorem lkC_one (ls : List DLink) : ∀ v ∈ ls.flatMap lkC, v.oneCell' = true := by
  intro v hv
  rw [List.mem_flatMap] at hv
  obtain ⟨x, _, hx⟩ := hv
  simp [lkC] at hx
  rcases hx with rfl | rfl <;> rfl
theorem lkC_at : ∀ (ls : List DLink) (k : Nat) {x : DLink}, ls[k]? = some x → ∀ j u, (lkC x)[j]? = some u → (ls.flatMap lkC)[k * 2 + j]? = some u
  | [], k, x, h, j, u, hu => by simp at h
  | y :: ls, 0, x, h, j, u, hu => by
    simp at h; subst h
    rw [List.flatMap_cons, List.getElem?_append_left (by have := (List.getElem?_eq_some_iff.1 hu).1; simpa using this)]
    simpa using hu
  | y :: ls, k + 1, x, h, j, u, hu => by
    rw [List.flatMap_cons, List.getElem?_append_right (by simp [lkC]; omega)]
    have := lkC_at ls k (by simpa using h) j u hu
    rw [show (k + 1) * 2 + j - (lkC y).length = k * 2 + j by simp [lkC]; omega]
    exact this
def CdPost (ls : List DLink) (b : Bool) (w : World) (e : Ending) (w' : World) : Prop := ∃ u, e = .returned (.tuple #[.agg #[u], .bool b]) ∧ RowRd rLink true w' u ls (fun a => w.heap.size ≤ a.block) ∧ Below w.heap.size w w'
theorem own_not {w : World} {base n z : Nat} {e : TypeId} {u : Value} {c : List Value} (h : w.ownsRow base e z u n c) {g : Nat} {cs : Array Value} {t : TypeId} (hg : InC w g cs t) (ht : t ≠ e) : u.ownBlock ≠ some g := by
  rcases h.2 with ⟨rfl, _⟩ | ⟨g', cap, cur, rfl, _, hg', _⟩
  · simp [Value.ownBlock]
  · intro e
    have : g' = g := by simpa [Value.ownBlock] using e
    subst this
    unfold InC at hg
    rw [hg'] at hg
    injection (Option.some.inj hg) with _ e2 _
    exact ht e2.symm
theorem own_form {w : World} {base n z : Nat} {e : TypeId} {u : Value} {c : List Value} (h : w.ownsRow base e z u n c) : ∃ A cap, u = .slice A n cap := by
  rcases h.2 with ⟨rfl, rfl⟩ | ⟨g', cap, cur, rfl, _⟩
  · exact ⟨_, _, rfl⟩
  · exact ⟨_, _, rfl⟩
theorem own_keep {w w' : World} {base n z : Nat} {e : TypeId} {u : Value} {c : List Value} (h : w.ownsRow base e z u n c) (hb : Below w.heap.size w w') : w'.ownsRow base e z u n c := by
  refine ⟨h.1, ?_⟩
  rcases h.2 with hn | ⟨g, cap, cur, e, hg0, hg, rest⟩
  · exact Or.inl hn
  · exact Or.inr ⟨g, cap, cur, e, hg0, (hb.block g (lt_of_block hg)).trans hg, rest⟩
theorem own_set {w : World} {base n z : Nat} {e : TypeId} {u : Value} {c : List Value} (h : w.ownsRow base e z u n c) {p : Addr} (hp : p.block < base) (x : Value) : (w.setCell p x).ownsRow base e z u n c := by
  refine ⟨h.1, ?_⟩
  rcases h.2 with hn | ⟨g, cap, cur, e, hg0, hg, rest⟩
  · exact Or.inl hn
  · exact Or.inr ⟨g, cap, cur, e, hg0, (heap_setCell_other w p g x (by omega)).trans hg, rest⟩
theorem cell_pair_new (w : World) (x y : Value) (t : TypeId) : ∀ j u, [x, y][j]? = some u → (w.alloc (.cells #[x, y] t)).cell? ((⟨w.heap.size, 0, none⟩ : Addr).add j) = some u := cells_new w [x, y] t
theorem run_append_link (w : World) (ty : TypeId) (base : Nat) (v : Value) (n : Nat) (l : List Value) (hown : w.ownsRow base 40 2 v n l) (a b : Int) (hn : n ≤ 2000000) (hbase : base ≤ w.heap.size) :
    ∃ v' w', (Builtin.append_ #[27, 27] ty #[v, .slice (some ⟨w.heap.size, 0, none⟩) 1 1]).run Try.prog (w.alloc (.cells #[.int .u8 a, .int .u8 b] 40)) = .ok v' w' ∧
      w'.ownsRow base 40 2 v' (n + 1) (l ++ [.int .u8 a, .int .u8 b]) ∧ Below base w w' ∧ (∀ g cs t, t ≠ 40 → InC w g cs t → InC w' g cs t) := by
  obtain ⟨i0, hi, hz0, hz1, hz2⟩ := info_parts Try.infoTLink
  obtain ⟨v', w', hr, h1, h2, _, h4⟩ := run_append_own_at (P := Try.prog) (w.alloc (.cells #[.int .u8 a, .int .u8 b] 40)) base 27 ty 40 i0 (.agg #[.int .u8 0, .int .u8 0]) 2 2 Try.underlying27 hi hz0 hz1 hz2 rfl (by decide) v n l (hown.alloc _) ⟨w.heap.size, 0, none⟩ 1 1 [.int .u8 a, .int .u8 b] rfl (cell_pair_new _ _ _ _)
    (fun u hu => by simp at hu; rcases hu with rfl | rfl <;> rfl) (by unfold maxLen; omega) (by omega) (by simp; omega)
  refine ⟨v', w', hr, h1, ((Below.refl base w).alloc hbase _).grown h2 (by simp; omega) (fun q hq => (hown.lt q hq).1), fun g cs t ht hg => ?_⟩
  exact ((h2.block g (by simp; have := hg.lt; omega) (fun e => own_not hown hg ht e.symm)).trans (Below.heap_alloc w _ g hg.lt)).trans hg
theorem step_append_link {ops : Array Oper} {o : Oper} {act : Act} {K : Act → World → Prop} {Q : Exit → Act → World → Prop} {E : Prop} (w : World) (hgd : o.guard = none) (s x : Operand)
    (ho : o.op = .call { callee := .builtin .append, args := #[s, x], argTypes := #[27, 27] })
    (base : Nat) (v : Value) (n : Nat) (l : List Value) (hown : w.ownsRow base 40 2 v n l) (a b : Int)
    (nb : Nat) (hnb : nb = w.heap.size) (hn : n ≤ 2000000) (hbase : base ≤ w.heap.size) (hs : act.eval s = v) (hx : act.eval x = .slice (some ⟨nb, 0, none⟩) 1 1)
    (h : ∀ v' w', w'.ownsRow base 40 2 v' (n + 1) (l ++ [.int .u8 a, .int .u8 b]) → Below base w w' → (∀ g cs t, t ≠ 40 → InC w g cs t → InC w' g cs t) → K (act.put o.dst v') w') :
    if Region.wanted o (yielded ops act.tmps) = true then Oper.wp Try.prog o act (w.alloc (.cells #[.int .u8 a, .int .u8 b] 40)) K Q else E := by
  have hw : Region.wanted o (yielded ops act.tmps) = true := by simp [Region.wanted, hgd]
  rw [if_pos hw]
  subst hnb
  obtain ⟨v', w', hr, h1, h2, h3⟩ := run_append_link w o.type base v n l hown a b hn hbase
  unfold Oper.wp execOp
  simp only [ho, resolve, invoke, builtin, Sem.run_bind, Sem.run_pure, Result.andThen_ok, List.map_toArray, List.map_cons, List.map_nil, hs, hx, hr]
  exact h v' w' h1 h2 h3
theorem step_append_link_drew {ops : Array Oper} {o : Oper} {act : Act} {K : Act → World → Prop} {Q : Exit → Act → World → Prop} {E : Prop} (w : World) (hgd : o.guard = none) (s x : Operand)
    (ho : o.op = .call { callee := .builtin .append, args := #[s, x], argTypes := #[27, 27] })
    (base : Nat) (v : Value) (n : Nat) (l : List Value) (hown : w.ownsRow base 40 2 v n l) (a b : Int)
    (nb : Nat) (hnb : nb = w.heap.size) (hn : n ≤ 2000000) (hbase : base ≤ w.heap.size) (hs : act.eval s = v) (hx : act.eval x = .slice (some ⟨nb, 0, none⟩) 1 1)
    (h : ∀ v' w', w'.ownsRow base 40 2 v' (n + 1) (l ++ [.int .u8 a, .int .u8 b]) → Below base w w' → (∀ g cs t, t ≠ 40 → InC w g cs t → InC w' g cs t) → K (act.put o.dst v') w') :
    if Region.wanted o (yielded ops act.tmps) = true then Oper.wp Try.prog o act ((w.alloc (.cells #[.int .u8 a, .int .u8 b] 40)).drew) K Q else E :=
  step_append_link w.drew hgd s x ho base v n l (own_keep hown ⟨rfl, rfl, rfl, Nat.le_refl _, fun _ _ => rfl⟩) a b nb hnb hn hbase hs hx fun v' w' h1 h2 h3 => h v' w' h1 ⟨h2.os, h2.tape, h2.output, h2.size, h2.block⟩ h3
theorem wpList_append_link {ops : Array Oper} {rest : List Oper} {o : Oper} {act : Act} {Q : Exit → Act → World → Prop} (w : World) (hgd : o.guard = none) (s x : Operand)
    (ho : o.op = .call { callee := .builtin .append, args := #[s, x], argTypes := #[27, 27] })
    (base : Nat) (v : Value) (n : Nat) (l : List Value) (hown : w.ownsRow base 40 2 v n l) (a b : Int)
    (nb : Nat) (hnb : nb = w.heap.size) (hn : n ≤ 2000000) (hbase : base ≤ w.heap.size) (hs : act.eval s = v) (hx : act.eval x = .slice (some ⟨nb, 0, none⟩) 1 1)
    (h : ∀ v' w', w'.ownsRow base 40 2 v' (n + 1) (l ++ [.int .u8 a, .int .u8 b]) → Below base w w' → (∀ g cs t, t ≠ 40 → InC w g cs t → InC w' g cs t) → wpList Try.prog ops Q rest (act.put o.dst v') w') :
    wpList Try.prog ops Q (o :: rest) act (w.alloc (.cells #[.int .u8 a, .int .u8 b] 40)) := by
  refine wpList_plain hgd fun K hK => ?_
  subst hnb
  obtain ⟨v', w', hr, h1, h2, h3⟩ := run_append_link w o.type base v n l hown a b hn hbase
  unfold Oper.wp execOp
  simp only [ho, resolve, invoke, builtin, Sem.run_bind, Sem.run_pure, Result.andThen_ok, List.map_toArray, List.map_cons, List.map_nil, hs, hx, hr]
  exact hK _ _ (h v' w' h1 h2 h3)
theorem own_links {w : World} {base : Nat} {v : Value} {ls : List DLink} (h : w.ownsRow base 40 2 v ls.length (ls.flatMap lkC)) (hm : ls.length ≤ 2000000) : RowRd rLink true w v ls (fun a => base ≤ a.block) :=
  (RowRd.of_flat (E := rLink) h (by omega) (fun k x hk => ⟨lkC x, fun j u hj => by rw [rLink_size]; exact lkC_at ls k hk j u hj, rLink_mk⟩)).mono (fun a ha => ha.1)
theorem lk_more (ls : List DLink) (x : DLink) : (ls ++ [x]).flatMap lkC = ls.flatMap lkC ++ [.int .u8 (x.In.toNat : Int), .int .u8 (x.Out.toNat : Int)] := by
  rw [List.flatMap_append]; rfl
theorem own_more {w : World} {base : Nat} {v : Value} {ls : List DLink} (x : DLink) (h : w.ownsRow base 40 2 v (ls.length + 1) (ls.flatMap lkC ++ [.int .u8 (x.In.toNat : Int), .int .u8 (x.Out.toNat : Int)])) : w.ownsRow base 40 2 v (ls ++ [x]).length ((ls ++ [x]).flatMap lkC) := by
  rw [List.length_append, lk_more]; exact h
def BoxC (w : World) (g : Nat) (v : Value) : Prop := w.cell? ⟨g, 0, none⟩ = some v ∧ g < w.heap.size
theorem BoxC.kept {w w' : World} {g : Nat} {v : Value} (h : BoxC w g v) (hb : Below w.heap.size w w') : BoxC w' g v := ⟨(hb.cell (show (⟨g, 0, none⟩ : Addr).block < _ from h.2)).trans h.1, Nat.lt_of_lt_of_le h.2 hb.size⟩
theorem BoxC.apart {w w' : World} {g : Nat} {v : Value} {F : Addr → Prop} (h : BoxC w g v) (hu : Unch F w w') (hd : ¬ F ⟨g, 0, none⟩) : BoxC w' g v := ⟨(hu.same ⟨g, 0, none⟩ h.2 hd).1.trans h.1, Nat.lt_of_lt_of_le h.2 hu.size⟩
theorem BoxC.new (w : World) (v : Value) (t : TypeId) : BoxC (w.alloc (.cells #[v] t)) w.heap.size v := ⟨InC.cell (heap_alloc_new w _) 0 rfl, by simp⟩
theorem cnt_links (l : List DLink) : cntRow rLink l = 2 * l.length := by
  unfold cntRow
  induction l with
  | nil => rfl
  | cons x l ih => rw [List.map_cons, List.sum_cons, ih, rLink_cnt, List.length_cons]; omega
end Go.Proofs.Ytfcmhbbeohhjmaa
