/- Merged: Si Ic1 Tl0 Ap9 Mb9 Vm10 Vp10 Ft S2. -/
import Derived.Test.YtkaihnlknncfdaaGreatDoorQ1
import Derived.Laws.Externs
import Derived.Test.YtkaihnlknncfdaaGreatDoorQ3
import Derived.BigRegion
import Derived.BigQuiet
import Derived.Test.YtkaihnlknncfdaaGreatDoorRows
import Derived.WalkKit
import Derived.Test.YtkaihnlknncfdaaGreatDoorQ4
import Derived.Laws.Rows
import Derived.Laws.CopyRow
import Derived.Laws.CopyOwn
import Derived.Laws.ResultCell
import Derived.Deep.RegionLaw
import Derived.Deep.RegionWith
import Derived.Test.YtkaihnlknncfdaaGreatDoorQ6
import Derived.Maps.OwnSet
import Derived.Test.YtkaihnlknncfdaaGreatDoorCards
import Derived.ChangeVars
import Derived.WalkSmall
import Derived.ChangeArms
import Derived.Below
import Derived.Lib.LaidTab
import Derived.Laws.IdiomStrings
import Derived.Lib.Slices
/- strings.IndexByte and the program's IsSound: what they answer. -/
namespace Go.Proofs.YtkaihnlknncfdaaGreatDoor
set_option maxRecDepth 100000
open Go.RowKit

set_option maxRecDepth 100000 in
/-- strings.IndexByte. -/
theorem idxByte (s : ByteArray) (c : Int) (w : World) :
    Calls Tryz.prog 157 #[.string s, .int .u8 c] w fun e w' => e = .returned (.int .i64 (Lib.indexByte s.data.toList c.toNat.toUInt8)) ∧ w = w' := by
  go_enter Tryz.func157, Tryz.ntmps157
  go_wp2
  rw [run_callFunc_extern Tryz.func187 (by kernel_rfl) (by kernel_rfl) (by kernel_rfl) (e := Extern.BytealgIndexByte.indexByte) (by kernel_rfl), Lib.run_indexByteString]
  simp only [Result.andThen]
  rw [Oper.upon_value]
  go_wp2
  go_ret
  exact ⟨rfl, rfl⟩
theorem implIsSound_any (x : Int) (w : World) (h0 : 0 ≤ x) (h1 : x < 256) :
    Calls Tryz.prog 132 #[.int .u8 x] w fun e w' => e = .returned (.bool (isSnd x)) ∧ w = w' := by
  have H := Lib.hid (snd_index x h0 h1)
  clear h0 h1
  go_enter Tryz.func132, Tryz.ntmps132
  go_wp2_with fail
  refine (idxByte _ _ _).mono ?_
  rintro e w1 ⟨rfl, rfl⟩
  go_wp2
  go_ret
  exact ⟨ret_bool H.out, rfl⟩
end Go.Proofs.YtkaihnlknncfdaaGreatDoor

/- The program's isValid: what it answers. -/
namespace Go.Proofs.YtkaihnlknncfdaaGreatDoor
set_option maxRecDepth 100000
open Go.RowKit
set_option linter.unusedVariables false
set_option linter.unusedSimpArgs false

theorem drewN_below {B n : Nat} {w w' : World} (h : Below B w w') : Below B w (w'.drewN n) := ⟨h.os, h.tape, h.output, h.size, h.block⟩
set_option maxHeartbeats 4000000 in
theorem implValid_any (a b : Int) (g : Nat) (w : World) (ha : 0 ≤ a ∧ a < 256) (hb : 0 ≤ b ∧ b < 256) (h : InC w g #[.int .u8 a, .int .u8 b] 118) :
    Calls Tryz.prog 127 #[.pointer (some ⟨g, 0, none⟩)] w fun e w' => e = .returned (.bool (okI a b)) ∧ Below w.heap.size w w' := by
  have c0 := h.cell 0 rfl
  have c1 := h.cell 1 rfl
  have HA := Lib.hid ha
  have HB := Lib.hid hb
  clear h ha hb
  go_enter Tryz.func127, Tryz.ntmps127
  by_cases h0 : a = 0
  case pos =>
    have HE : Hid (okI a b = isSnd b) := by unfold Hid okI; rw [if_pos h0]
    go_wp2_with fail
    refine (implIsSound_any b _ HB.out.1 HB.out.2).mono ?_
    rintro e w2 ⟨rfl, rfl⟩
    go_wp2
    go_ret
    exact ⟨ret_bool HE.out.symm, Below.refl _ _⟩
  by_cases h1 : b = 0
  case pos =>
    have HE : Hid (okI a b = isSnd a) := by unfold Hid okI; rw [if_neg h0, if_pos (Or.inl h1)]
    go_wp2_with fail
    refine (implIsSound_any a _ HA.out.1 HA.out.2).mono ?_
    rintro e w2 ⟨rfl, rfl⟩
    go_wp2
    go_ret
    exact ⟨ret_bool HE.out.symm, Below.refl _ _⟩
  by_cases h2 : b = a
  case pos =>
    have HE : Hid (okI a b = isSnd a) := by unfold Hid okI; rw [if_neg h0, if_pos (Or.inr h2)]
    go_wp2
    go_quiet (fail)
    go_wp2_with fail
    refine (implIsSound_any a _ HA.out.1 HA.out.2).mono ?_
    rintro e w2 ⟨rfl, rfl⟩
    go_wp2
    go_ret
    exact ⟨ret_bool HE.out.symm, drewN_below (Below.refl _ _)⟩
  have HE : Hid (okI a b = (isObs a && decide (b = swapV a))) := by unfold Hid okI; rw [if_neg h0, if_neg (by rintro (e | e); exact h1 e; exact h2 e)]
  go_wp2
  go_quiet (fail)
  go_wp2_with fail
  refine (implSwap_any a _).mono ?_
  rintro e w2 ⟨rfl, rfl⟩
  generalize hsw : swapV a = s at *
  generalize hob : isObs a = o at *
  cases o
  · have HR : Hid (okI a b = false) := by unfold Hid; rw [HE.out, Bool.false_and]
    go_wp2
    go_ret
    exact ⟨ret_bool HR.out.symm, drewN_below (Below.refl _ _)⟩
  · by_cases hs : b = s
    · have HR : Hid (okI a b = true) := by unfold Hid; rw [HE.out]; simp [hs]
      go_wp2
      go_ret
      exact ⟨ret_bool (by rw [HR.out] <;> simp [hs]), drewN_below (Below.refl _ _)⟩
    · have HR : Hid (okI a b = false) := by unfold Hid; rw [HE.out]; simp [hs]
      have hs' : ¬ s = b := fun e => hs e.symm
      go_wp2
      go_ret
      exact ⟨ret_bool (by rw [HR.out]; simp [hs']), drewN_below (Below.refl _ _)⟩
end Go.Proofs.YtkaihnlknncfdaaGreatDoor

/- The type of links: its row in the program's table. -/
namespace Go.Proofs.YtkaihnlknncfdaaGreatDoor
set_option maxRecDepth 100000
open Go.RowKit
theorem Tryz.infoTLink : (Tryz.prog.info? 118).map (fun i => (i.zero, i.size, i.bytes)) = some (some (.agg #[.int .u8 0, .int .u8 0]), 2, 2) := by kernel_rfl
end Go.Proofs.YtkaihnlknncfdaaGreatDoor

/- Appending links to a row of the call's own; answers that lie in a cell; boxes. -/
namespace Go.Proofs.YtkaihnlknncfdaaGreatDoor
set_option maxRecDepth 100000
open Go.RowKit M
set_option linter.unusedVariables false
set_option linter.unusedSimpArgs false

theorem drewN_heap (w : World) (n : Nat) : (w.drewN n).heap = w.heap := by
  induction n generalizing w with
  | zero => rfl
  | succ n ih => exact (ih w.drew)
theorem inC_drewN {w : World} {g n : Nat} {cs : Array Value} {t : TypeId} (h : InC w g cs t) : InC (w.drewN n) g cs t := by
  unfold InC; rw [drewN_heap]; exact h
theorem Below6.drew {B : Nat} {w w' : World} (h : Below B w w') : Below B w w'.drew := h.drew
theorem Below6.drewN {B n : Nat} {w w' : World} (h : Below B w w') : Below B w (w'.drewN n) := drewN_below h
theorem InC.put {w : World} {B : Nat} {cs : Array Value} {t : TypeId} (h : InC w B cs t) (j : Nat) (u : Value) : InC (w.setCell ⟨B, j, none⟩ u) B (cs.setIfInBounds j u) t := heap_setCell_same w B j cs t u h
def lkC (x : DLink) : List Value := [.int .u8 (x.In.toNat : Int), .int .u8 (x.Out.toNat : Int)]
theorem lkC_len (ls : List DLink) : (ls.flatMap lkC).length = 2 * ls.length := by
  induction ls with
  | nil => rfl
  | cons x l ih => rw [List.flatMap_cons, List.length_append, ih, List.length_cons]; simp [lkC]; omega
theorem results_cell_rt {P : Program} {fn : Func} {p u : Tmp} {ty : TypeId} (h : fn.results = #[.cell p ty, .tmp u]) (tmps : Array Value) (w : World) (g : Nat) (t : TypeId) (cs : Array Value) (fr : Nat × Nat) (d : TypeDesc)
    (hp : tmps.getD p undef = .pointer (some ⟨g, 0, none⟩)) (hg : w.heap[g]? = some (.cells cs t fr))
    (hu : P.underlying ty = some d) (hd : (match d with | .struct _ | .array _ _ => true | _ => false) = true) (hi : (P.info? ty).map (·.size) = some cs.size) :
    (results fn tmps).run P w = .ok (.tuple #[.agg cs, tmps.getD u undef]) w := by
  have hp' : tmps[p]?.getD undef = .pointer (some ⟨g, 0, none⟩) := by simpa using hp
  rw [results_cell_tmp h]
  simp [hp', asAddr, run_loadVar_row w g t ty cs fr d hg hu hd hi, Result.andThen]
theorem infoCd1 : (Tryz.prog.info? 55).map (·.size) = some 1 := by kernel_rfl
theorem lkC_one (ls : List DLink) : ∀ v ∈ ls.flatMap lkC, v.oneCell' = true := by
  intro v hv
  rw [List.mem_flatMap] at hv
  obtain ⟨x, _, hx⟩ := hv
  simp [lkC] at hx
  rcases hx with rfl | rfl <;> rfl
theorem lkC_at : ∀ (ls : List DLink) (k : Nat) {x : DLink}, ls[k]? = some x → ∀ j u, (lkC x)[j]? = some u → (ls.flatMap lkC)[k * 2 + j]? = some u
  | [], k, x, h, j, u, hu => by simp at h
  | y :: ls, 0, x, h, j, u, hu => by
    simp at h; subst h
    rw [List.flatMap_cons, List.getElem?_append_left (by have := (List.getElem?_eq_some_iff.1 hu).1; simpa using this)]
    simpa using hu
  | y :: ls, k + 1, x, h, j, u, hu => by
    rw [List.flatMap_cons, List.getElem?_append_right (by simp [lkC]; omega)]
    have := lkC_at ls k (by simpa using h) j u hu
    rw [show (k + 1) * 2 + j - (lkC y).length = k * 2 + j by simp [lkC]; omega]
    exact this
def CdPost (ls : List DLink) (b : Bool) (w : World) (e : Ending) (w' : World) : Prop := ∃ u, e = .returned (.tuple #[.agg #[u], .bool b]) ∧ RowRd rLink true w' u ls (fun a => w.heap.size ≤ a.block) ∧ Below w.heap.size w w'
theorem own_not {w : World} {base n z : Nat} {e : TypeId} {u : Value} {c : List Value} (h : w.ownsRow base e z u n c) {g : Nat} {cs : Array Value} {t : TypeId} (hg : InC w g cs t) (ht : t ≠ e) : u.ownBlock ≠ some g := by
  rcases h.2 with ⟨rfl, _⟩ | ⟨g', cap, cur, rfl, _, hg', _⟩
  · simp [Value.ownBlock]
  · intro e
    have : g' = g := by simpa [Value.ownBlock] using e
    subst this
    unfold InC at hg
    rw [hg'] at hg
    injection (Option.some.inj hg) with _ e2 _
    exact ht e2.symm
theorem own_form {w : World} {base n z : Nat} {e : TypeId} {u : Value} {c : List Value} (h : w.ownsRow base e z u n c) : ∃ A cap, u = .slice A n cap := by
  rcases h.2 with ⟨rfl, rfl⟩ | ⟨g', cap, cur, rfl, _⟩
  · exact ⟨_, _, rfl⟩
  · exact ⟨_, _, rfl⟩
theorem own_keep {w w' : World} {base n z : Nat} {e : TypeId} {u : Value} {c : List Value} (h : w.ownsRow base e z u n c) (hb : Below w.heap.size w w') : w'.ownsRow base e z u n c := by
  refine ⟨h.1, ?_⟩
  rcases h.2 with hn | ⟨g, cap, cur, e, hg0, hg, rest⟩
  · exact Or.inl hn
  · exact Or.inr ⟨g, cap, cur, e, hg0, (hb.block g (lt_of_block hg)).trans hg, rest⟩
theorem own_set {w : World} {base n z : Nat} {e : TypeId} {u : Value} {c : List Value} (h : w.ownsRow base e z u n c) {p : Addr} (hp : p.block < base) (x : Value) : (w.setCell p x).ownsRow base e z u n c := by
  refine ⟨h.1, ?_⟩
  rcases h.2 with hn | ⟨g, cap, cur, e, hg0, hg, rest⟩
  · exact Or.inl hn
  · exact Or.inr ⟨g, cap, cur, e, hg0, (heap_setCell_other w p g x (by omega)).trans hg, rest⟩
theorem cell_pair_new (w : World) (x y : Value) (t : TypeId) : ∀ j u, [x, y][j]? = some u → (w.alloc (.cells #[x, y] t)).cell? ((⟨w.heap.size, 0, none⟩ : Addr).add j) = some u := cells_new w [x, y] t
theorem run_append_link (w : World) (ty : TypeId) (base : Nat) (v : Value) (n : Nat) (l : List Value) (hown : w.ownsRow base 118 2 v n l) (a b : Int) (hn : n ≤ 2000000) (hbase : base ≤ w.heap.size) :
    ∃ v' w', (Builtin.append_ #[53, 53] ty #[v, .slice (some ⟨w.heap.size, 0, none⟩) 1 1]).run Tryz.prog (w.alloc (.cells #[.int .u8 a, .int .u8 b] 118)) = .ok v' w' ∧
      w'.ownsRow base 118 2 v' (n + 1) (l ++ [.int .u8 a, .int .u8 b]) ∧ Below base w w' ∧ (∀ g cs t, t ≠ 118 → InC w g cs t → InC w' g cs t) := by
  obtain ⟨i0, hi, hz0, hz1, hz2⟩ := info_parts Tryz.infoTLink
  obtain ⟨v', w', hr, h1, h2, _, h4⟩ := run_append_own_at (P := Tryz.prog) (w.alloc (.cells #[.int .u8 a, .int .u8 b] 118)) base 53 ty 118 i0 (.agg #[.int .u8 0, .int .u8 0]) 2 2 Tryz.underlying53 hi hz0 hz1 hz2 rfl (by decide) v n l (hown.alloc _) ⟨w.heap.size, 0, none⟩ 1 1 [.int .u8 a, .int .u8 b] rfl (cell_pair_new _ _ _ _)
    (fun u hu => by simp at hu; rcases hu with rfl | rfl <;> rfl) (by unfold maxLen; omega) (by omega) (by simp; omega)
  refine ⟨v', w', hr, h1, ((Below.refl base w).alloc hbase _).grown h2 (by simp; omega) (fun q hq => (hown.lt q hq).1), fun g cs t ht hg => ?_⟩
  exact ((h2.block g (by simp; have := hg.lt; omega) (fun e => own_not hown hg ht e.symm)).trans (Below.heap_alloc w _ g hg.lt)).trans hg
theorem step_append_link {ops : Array Oper} {o : Oper} {act : Act} {K : Act → World → Prop} {Q : Exit → Act → World → Prop} {E : Prop} (w : World) (hgd : o.guard = none) (s x : Operand)
    (ho : o.op = .call { callee := .builtin .append, args := #[s, x], argTypes := #[53, 53] })
    (base : Nat) (v : Value) (n : Nat) (l : List Value) (hown : w.ownsRow base 118 2 v n l) (a b : Int)
    (nb : Nat) (hnb : nb = w.heap.size) (hn : n ≤ 2000000) (hbase : base ≤ w.heap.size) (hs : act.eval s = v) (hx : act.eval x = .slice (some ⟨nb, 0, none⟩) 1 1)
    (h : ∀ v' w', w'.ownsRow base 118 2 v' (n + 1) (l ++ [.int .u8 a, .int .u8 b]) → Below base w w' → (∀ g cs t, t ≠ 118 → InC w g cs t → InC w' g cs t) → K (act.put o.dst v') w') :
    if Region.wanted o (yielded ops act.tmps) = true then Oper.wp Tryz.prog o act (w.alloc (.cells #[.int .u8 a, .int .u8 b] 118)) K Q else E := by
  have hw : Region.wanted o (yielded ops act.tmps) = true := by simp [Region.wanted, hgd]
  rw [if_pos hw]
  subst hnb
  obtain ⟨v', w', hr, h1, h2, h3⟩ := run_append_link w o.type base v n l hown a b hn hbase
  unfold Oper.wp execOp
  simp only [ho, resolve, invoke, builtin, Sem.run_bind, Sem.run_pure, Result.andThen_ok, List.map_toArray, List.map_cons, List.map_nil, hs, hx, hr]
  exact h v' w' h1 h2 h3
theorem step_append_link_drew {ops : Array Oper} {o : Oper} {act : Act} {K : Act → World → Prop} {Q : Exit → Act → World → Prop} {E : Prop} (w : World) (hgd : o.guard = none) (s x : Operand)
    (ho : o.op = .call { callee := .builtin .append, args := #[s, x], argTypes := #[53, 53] })
    (base : Nat) (v : Value) (n : Nat) (l : List Value) (hown : w.ownsRow base 118 2 v n l) (a b : Int)
    (nb : Nat) (hnb : nb = w.heap.size) (hn : n ≤ 2000000) (hbase : base ≤ w.heap.size) (hs : act.eval s = v) (hx : act.eval x = .slice (some ⟨nb, 0, none⟩) 1 1)
    (h : ∀ v' w', w'.ownsRow base 118 2 v' (n + 1) (l ++ [.int .u8 a, .int .u8 b]) → Below base w w' → (∀ g cs t, t ≠ 118 → InC w g cs t → InC w' g cs t) → K (act.put o.dst v') w') :
    if Region.wanted o (yielded ops act.tmps) = true then Oper.wp Tryz.prog o act ((w.alloc (.cells #[.int .u8 a, .int .u8 b] 118)).drew) K Q else E :=
  step_append_link w.drew hgd s x ho base v n l (own_keep hown ⟨rfl, rfl, rfl, Nat.le_refl _, fun _ _ => rfl⟩) a b nb hnb hn hbase hs hx fun v' w' h1 h2 h3 => h v' w' h1 ⟨h2.os, h2.tape, h2.output, h2.size, h2.block⟩ h3
theorem wpList_append_link {ops : Array Oper} {rest : List Oper} {o : Oper} {act : Act} {Q : Exit → Act → World → Prop} (w : World) (hgd : o.guard = none) (s x : Operand)
    (ho : o.op = .call { callee := .builtin .append, args := #[s, x], argTypes := #[53, 53] })
    (base : Nat) (v : Value) (n : Nat) (l : List Value) (hown : w.ownsRow base 118 2 v n l) (a b : Int)
    (nb : Nat) (hnb : nb = w.heap.size) (hn : n ≤ 2000000) (hbase : base ≤ w.heap.size) (hs : act.eval s = v) (hx : act.eval x = .slice (some ⟨nb, 0, none⟩) 1 1)
    (h : ∀ v' w', w'.ownsRow base 118 2 v' (n + 1) (l ++ [.int .u8 a, .int .u8 b]) → Below base w w' → (∀ g cs t, t ≠ 118 → InC w g cs t → InC w' g cs t) → wpList Tryz.prog ops Q rest (act.put o.dst v') w') :
    wpList Tryz.prog ops Q (o :: rest) act (w.alloc (.cells #[.int .u8 a, .int .u8 b] 118)) := by
  refine wpList_plain hgd fun K hK => ?_
  subst hnb
  obtain ⟨v', w', hr, h1, h2, h3⟩ := run_append_link w o.type base v n l hown a b hn hbase
  unfold Oper.wp execOp
  simp only [ho, resolve, invoke, builtin, Sem.run_bind, Sem.run_pure, Result.andThen_ok, List.map_toArray, List.map_cons, List.map_nil, hs, hx, hr]
  exact hK _ _ (h v' w' h1 h2 h3)
theorem own_links {w : World} {base : Nat} {v : Value} {ls : List DLink} (h : w.ownsRow base 118 2 v ls.length (ls.flatMap lkC)) (hm : ls.length ≤ 2000000) : RowRd rLink true w v ls (fun a => base ≤ a.block) :=
  (RowRd.of_flat (E := rLink) h (by omega) (fun k x hk => ⟨lkC x, fun j u hj => by rw [rLink_size]; exact lkC_at ls k hk j u hj, rLink_mk⟩)).mono (fun a ha => ha.1)
theorem lk_more (ls : List DLink) (x : DLink) : (ls ++ [x]).flatMap lkC = ls.flatMap lkC ++ [.int .u8 (x.In.toNat : Int), .int .u8 (x.Out.toNat : Int)] := by
  rw [List.flatMap_append]; rfl
theorem own_more {w : World} {base : Nat} {v : Value} {ls : List DLink} (x : DLink) (h : w.ownsRow base 118 2 v (ls.length + 1) (ls.flatMap lkC ++ [.int .u8 (x.In.toNat : Int), .int .u8 (x.Out.toNat : Int)])) : w.ownsRow base 118 2 v (ls ++ [x]).length ((ls ++ [x]).flatMap lkC) := by
  rw [List.length_append, lk_more]; exact h
def BoxC (w : World) (g : Nat) (v : Value) : Prop := w.cell? ⟨g, 0, none⟩ = some v ∧ g < w.heap.size
theorem BoxC.kept {w w' : World} {g : Nat} {v : Value} (h : BoxC w g v) (hb : Below w.heap.size w w') : BoxC w' g v := ⟨(hb.cell (show (⟨g, 0, none⟩ : Addr).block < _ from h.2)).trans h.1, Nat.lt_of_lt_of_le h.2 hb.size⟩
theorem BoxC.apart {w w' : World} {g : Nat} {v : Value} {F : Addr → Prop} (h : BoxC w g v) (hu : Unch F w w') (hd : ¬ F ⟨g, 0, none⟩) : BoxC w' g v := ⟨(hu.same ⟨g, 0, none⟩ h.2 hd).1.trans h.1, Nat.lt_of_lt_of_le h.2 hu.size⟩
theorem BoxC.new (w : World) (v : Value) (t : TypeId) : BoxC (w.alloc (.cells #[v] t)) w.heap.size v := ⟨InC.cell (heap_alloc_new w _) 0 rfl, by simp⟩
theorem cnt_links (l : List DLink) : cntRow rLink l = 2 * l.length := by
  unfold cntRow
  induction l with
  | nil => rfl
  | cons x l ih => rw [List.map_cons, List.sum_cons, ih, rLink_cnt, List.length_cons]; omega
end Go.Proofs.YtkaihnlknncfdaaGreatDoor

/- The model's CountBreaks: what it answers. -/
namespace Go.Proofs.YtkaihnlknncfdaaGreatDoor
set_option maxRecDepth 100000
open Go.RowKit M
set_option linter.unusedVariables false
set_option linter.unusedSimpArgs false
set_option maxRecDepth 100000

/-- The places of the first and the last kept link so far. -/
def P9 (l : List DLink) (k : Nat) (f e : Int) : Prop :=
  (f = -1 ∧ e = -1 ∧ ∀ (j : Nat) (y : DLink), j < k → l[j]? = some y → kepK y = false) ∨
  ∃ (a b : Nat) (x y : DLink), f = a ∧ e = b ∧ a ≤ b ∧ b < k ∧ l[a]? = some x ∧ kepK x = true ∧ (∀ (j : Nat) (z : DLink), j < a → l[j]? = some z → kepK z = false) ∧ l[b]? = some y ∧ kepK y = true ∧ (∀ (j : Nat) (z : DLink), b < j → j < k → l[j]? = some z → kepK z = false)
theorem P9.zero (l : List DLink) : P9 l 0 (-1) (-1) := .inl ⟨rfl, rfl, fun j y hj => by omega⟩
theorem P9.no {l : List DLink} {k : Nat} {f e : Int} {y : DLink} (h : P9 l k f e) (hy : l[k]? = some y) (hk : kepK y = false) : P9 l (k + 1) f e := by
  rcases h with ⟨h1, h2, h3⟩ | ⟨a, b, x, z, h1, h2, h3, h4, h5, h6, h7, h8, h9, h10⟩
  · refine .inl ⟨h1, h2, fun j z hj hz => ?_⟩
    by_cases hjk : j = k
    · subst hjk; rw [hy] at hz; cases hz; exact hk
    · exact h3 j z (by omega) hz
  · refine .inr ⟨a, b, x, z, h1, h2, h3, by omega, h5, h6, h7, h8, h9, fun j z' hj hj2 hz => ?_⟩
    by_cases hjk : j = k
    · subst hjk; rw [hy] at hz; cases hz; exact hk
    · exact h10 j z' hj (by omega) hz
theorem P9.first {l : List DLink} {k : Nat} {f e : Int} {y : DLink} (h : P9 l k f e) (hf : f < 0) (hy : l[k]? = some y) (hk : kepK y = true) : P9 l (k + 1) k k := by
  rcases h with ⟨h1, h2, h3⟩ | ⟨a, b, x, z, h1, h2, h3, h4, h5, h6, h7, h8, h9, h10⟩
  · exact .inr ⟨k, k, y, y, rfl, rfl, Nat.le_refl _, Nat.lt_succ_self _, hy, hk, h3, hy, hk, fun j z hj hj2 => by omega⟩
  · omega
theorem P9.more {l : List DLink} {k : Nat} {f e : Int} {y : DLink} (h : P9 l k f e) (hf : ¬ f < 0) (hy : l[k]? = some y) (hk : kepK y = true) : P9 l (k + 1) f k := by
  rcases h with ⟨h1, h2, h3⟩ | ⟨a, b, x, z, h1, h2, h3, h4, h5, h6, h7, h8, h9, h10⟩
  · omega
  · exact .inr ⟨a, k, x, y, h1, rfl, by omega, Nat.lt_succ_self _, h5, h6, h7, hy, hk, fun j z hj hj2 => by omega⟩
/-- What the second loop counts. -/
theorem P9.done {l : List DLink} {f e : Int} (h : P9 l l.length f e) : (f = -1 ∧ e = -1 ∧ brkL l = 0) ∨ ∃ a b : Nat, f = a ∧ e = b ∧ a ≤ b ∧ b < l.length ∧ brkL l = spanN l a b := by
  rcases h with ⟨h1, h2, h3⟩ | ⟨a, b, x, z, h1, h2, h3, h4, h5, h6, h7, h8, h9, h10⟩
  · exact .inl ⟨h1, h2, brk_none fun j y hy => h3 j y (List.getElem?_eq_some_iff.1 hy).1 hy⟩
  · exact .inr ⟨a, b, h1, h2, h3, h4, brk_is h5 h6 h7 h8 h9 (fun j z hj hz => h10 j z hj (List.getElem?_eq_some_iff.1 hz).1 hz) h3⟩
theorem P9.rng {l : List DLink} {k : Nat} {f e : Int} (h : P9 l k f e) : -1 ≤ f ∧ f ≤ k ∧ -1 ≤ e ∧ e ≤ k := by
  rcases h with ⟨h1, h2, _⟩ | ⟨a, b, x, z, h1, h2, h3, h4, _⟩ <;> omega
theorem keptM_any (a b : Int) (w : World) :
    Calls Tryz.prog 144 #[.agg #[.int .u8 a, .int .u8 b]] w fun e w' => e = .returned (.bool (!decide (b = 0) && !decide (a = 0))) ∧ Below w.heap.size w w' := by
  go_enter Tryz.func144, Tryz.ntmps144
  by_cases ha : a = 0
  · have qa : (a == 0) = true := by simp [ha]
    go_wp2
    go_ret
    exact ⟨ret_bool (by simp [ha]), by first | exact (Below.refl _ _).alloc (Nat.le_refl _) _ | exact drewN_below ((Below.refl _ _).alloc (Nat.le_refl _) _)⟩
  · have qa : (a == 0) = false := by simp [ha]
    by_cases hb : b = 0
    · have qb : (b == 0) = true := by simp [hb]
      go_wp2
      go_ret
      exact ⟨ret_bool (by simp [ha, hb]), by first | exact (Below.refl _ _).alloc (Nat.le_refl _) _ | exact drewN_below ((Below.refl _ _).alloc (Nat.le_refl _) _)⟩
    · have qb : (b == 0) = false := by simp [hb]
      go_wp2
      go_ret
      exact ⟨ret_bool (by simp [ha, hb]), by first | exact (Below.refl _ _).alloc (Nat.le_refl _) _ | exact drewN_below ((Below.refl _ _).alloc (Nat.le_refl _) _)⟩
set_option maxHeartbeats 8000000 in
theorem specBreaks_any (x : DCandidate) (v : Value) (F : Addr → Prop) (w : World) (hl : x.Links.length ≤ 1048576) (hv : RowRd rLink false w v x.Links F) :
    Calls Tryz.prog 124 #[.agg #[v]] w fun e w' => e = .returned (.int .i64 (brkC x.Links : Nat)) ∧ Below w.heap.size w w' := by
  obtain ⟨A, cap, rfl⟩ := hv.form
  have HIS : Hid (∀ W, Below w.heap.size w W → Calls Tryz.prog 76 #[.agg #[.slice A x.Links.length cap]] W fun e w' => e = .returned (.bool (isCd x.Links)) ∧ Below W.heap.size W w') := fun W hW => specIsCd_any x _ F W hl (hv.kept hW)
  have HKM : Hid (∀ a b W, Calls Tryz.prog 144 #[.agg #[.int .u8 a, .int .u8 b]] W fun e w' => e = .returned (.bool (!decide (b = 0) && !decide (a = 0))) ∧ Below W.heap.size W w') := keptM_any
  have HV := Lib.hid hv
  clear hv
  have HX : Hid (∀ k, k < x.Links.length → ∃ y, x.Links[k]? = some y) := fun k hk => ⟨_, List.getElem?_eq_getElem hk⟩
  have HC : Hid (brkC x.Links = if isCd x.Links then brkL x.Links else 0) := rfl
  generalize x.Links = l at *
  generalize isCd l = cd at *
  generalize brkC l = r at *
  go_enter Tryz.func124, Tryz.ntmps124
  go_wp2
  go_loopw [3, 4, 5] (fun f e i wr => ∃ (k : Nat) (fi ei : Int), k ≤ l.length ∧ i = .int .i64 k ∧ f = .int .i64 fi ∧ e = .int .i64 ei ∧ Hid (P9 l k fi ei) ∧ Hid (cd = false → k = 0) ∧ Below w.heap.size w wr ∧ InC wr w.heap.size #[.slice A l.length cap] 55) (fun _ _ i _ => l.length - (intOf i).toNat)
  case atStart => exact ⟨0, -1, -1, by omega, rfl, rfl, rfl, P9.zero l, fun _ => rfl, (Below.refl _ _).alloc (Nat.le_refl _) _, heap_alloc_new _ _⟩
  case round =>
    obtain ⟨k, fi, ei, hk, rfl, rfl, rfl, hp, hcd, hbe, hi1⟩ := hrel
    have b1 := hi1.cell 0 rfl
    have HBE := Lib.hid hbe
    have HI1 := Lib.hid hi1
    clear hbe hi1
    have hrg := hp.out.rng
    by_cases hgo : k < l.length ∧ cd = true
    · obtain ⟨hkl, rfl⟩ := hgo
      obtain ⟨y, hy⟩ := HX.out k hkl
      go_wp2_with fail
      refine (HIS.out _ HBE.out).mono ?_
      rintro e w2 ⟨rfl, hb2⟩
      have HBE2 : Hid (Below w.heap.size w w2) := below_step HBE.out hb2
      have HI2 := Lib.hid (HI1.out.kept hb2)
      have b2 := HI2.out.cell 0 rfl
      clear hb2 b1
      obtain ⟨g, off, xs, Fk, rfl, _, hra, _, hca⟩ := (HV.out.kept HBE2.out).get hy
      obtain rfl := rLink_rd hra
      rw [rLink_size] at hca
      have c0 := hca 0 _ rfl
      have c1 := hca 1 _ rfl
      simp only [Nat.add_zero] at c0
      have HK1 : Hid ((!decide ((y.Out.toNat : Int) = 0) && !decide ((y.In.toNat : Int) = 0)) = false → P9 l (k + 1) fi ei) := fun h => hp.out.no hy h
      have HK2 : Hid ((!decide ((y.Out.toNat : Int) = 0) && !decide ((y.In.toNat : Int) = 0)) = true → fi < 0 → P9 l (k + 1) k k) := fun h hf => hp.out.first hf hy h
      have HK3 : Hid ((!decide ((y.Out.toNat : Int) = 0) && !decide ((y.In.toNat : Int) = 0)) = true → ¬ fi < 0 → P9 l (k + 1) fi k) := fun h hf => hp.out.more hf hy h
      have HKC := Lib.hid (HKM.out (y.In.toNat : Int) (y.Out.toNat : Int))
      clear hca hra hy
      generalize (!decide ((y.Out.toNat : Int) = 0) && !decide ((y.In.toNat : Int) = 0)) = kp at *
      generalize (y.In.toNat : Int) = a at *
      generalize (y.Out.toNat : Int) = b at *
      go_wp2_with fail
      refine (HKC.out _).mono ?_
      rintro e w3 ⟨rfl, hb3⟩
      have HBE3 : Hid (Below w.heap.size w w3) := below_step HBE2.out hb3
      have HI3 := Lib.hid (HI2.out.kept hb3)
      have b3 := HI3.out.cell 0 rfl
      clear hb3 b2
      cases kp
      · have HE := Lib.hid (HK1.out rfl)
        go_wp2
        go_roundw
        case rel => exact ⟨k + 1, fi, ei, by omega, by go_num, rfl, rfl, HE, fun h => (by cases h), HBE3.out, HI3.out⟩
        case measure => simp [intOf]; omega
      · by_cases hf : fi < 0
        · have HE := Lib.hid (HK2.out rfl hf)
          go_wp2
          go_roundw
          case rel => exact ⟨k + 1, k, k, by omega, by go_num, rfl, rfl, HE, fun h => (by cases h), HBE3.out, HI3.out⟩
          case measure => simp [intOf]; omega
        · have HE := Lib.hid (HK3.out rfl (by omega))
          go_wp2
          go_roundw
          case rel => exact ⟨k + 1, fi, k, by omega, by go_num, rfl, rfl, HE, fun h => (by cases h), HBE3.out, HI3.out⟩
          case measure => simp [intOf]; omega
    · -- the loop's end: by the length, or since the candidate is not valid
      have HD : Hid ((fi = -1 ∧ ei = -1 ∧ r = 0) ∨ ∃ a b : Nat, fi = a ∧ ei = b ∧ a ≤ b ∧ b < l.length ∧ r = spanN l a b) := by
        unfold Hid
        rw [HC.out]
        cases cd
        · have hk0 := hcd.out rfl
          subst hk0
          rcases hp.out with ⟨h1, h2, _⟩ | ⟨a, b, x, z, h1, h2, h3, h4, _⟩
          · exact .inl ⟨h1, h2, rfl⟩
          · omega
        · have hkl : k = l.length := by
            rcases Nat.lt_or_ge k l.length with h | h
            · exact absurd ⟨h, rfl⟩ hgo
            · omega
          subst hkl
          exact hp.out.done
      have HFIN : Hid (∀ wr', Below w.heap.size w wr' → InC wr' w.heap.size #[.slice A l.length cap] 55 → True) := fun _ _ _ => trivial
      clear HFIN
      obtain ⟨m, hm⟩ : ∃ m : Nat, (max 0 fi) = (m : Int) := ⟨(max 0 fi).toNat, by omega⟩
      by_cases hkl : k < l.length
      · have hcf : cd = false := by cases cd; rfl; exact absurd ⟨hkl, rfl⟩ hgo
        subst hcf
        have hk0 := hcd.out rfl
        subst hk0
        obtain ⟨rfl, rfl, hr0⟩ : fi = -1 ∧ ei = -1 ∧ r = 0 := by
          rcases hp.out with ⟨h1, h2, _⟩ | ⟨a, b, x, z, h1, h2, h3, h4, _⟩
          · exact ⟨h1, h2, HC.out⟩
          · omega
        subst hr0
        go_wp2_with fail
        refine (HIS.out _ HBE.out).mono ?_
        rintro e w2 ⟨rfl, hb2⟩
        have HBE2 : Hid (Below w.heap.size w w2) := below_step HBE.out hb2
        clear hb2
        go_wp2
        go_loopw [6, 7] (fun n i wr => n = .int .i64 0 ∧ i = .int .i64 0 ∧ Below w.heap.size w wr) (fun _ _ _ => 0)
        case atStart => exact ⟨rfl, rfl, HBE2.out⟩
        case round =>
          obtain ⟨rfl, rfl, hb3⟩ := hrel
          have HB3 := Lib.hid hb3
          clear hb3
          go_wp2
          go_ret
          exact ⟨rfl, HB3.out⟩
      · have hkl' : k = l.length := by omega
        subst hkl'
        clear hm m
        rcases HD.out with ⟨rfl, rfl, hr0⟩ | ⟨a, b, rfl, rfl, hab, hbl, hr⟩
        · subst hr0
          go_wp2
          go_loopw [6, 7] (fun n i wr => n = .int .i64 0 ∧ i = .int .i64 0 ∧ Below w.heap.size w wr) (fun _ _ _ => 0)
          case atStart => exact ⟨rfl, rfl, HBE.out⟩
          case round =>
            obtain ⟨rfl, rfl, hb3⟩ := hrel
            have HB3 := Lib.hid hb3
            clear hb3
            go_wp2
            go_ret
            exact ⟨rfl, HB3.out⟩
        · have HR := Lib.hid hr
          clear hr HD
          have hmx : max (0 : Int) (a : Int) = (a : Int) := by omega
          go_wp2
          all_goals
            go_loopw [6, 7] (fun n i wr => ∃ q : Nat, a ≤ q ∧ q ≤ b ∧ i = .int .i64 q ∧ n = .int .i64 (spanN l a q : Nat) ∧ Below w.heap.size w wr ∧ InC wr w.heap.size #[.slice A l.length cap] 55) (fun _ i _ => b - (intOf i).toNat)
            case atStart => exact ⟨a, Nat.le_refl _, hab, by first | rfl | (have h0 : a = 0 := by omega); rw [h0]; rfl, by rw [span_zero]; rfl, HBE.out, HI1.out⟩
            case round =>
              obtain ⟨q, hq1, hq2, rfl, rfl, hb3, hi3⟩ := hrel
              have b3 := hi3.cell 0 rfl
              have HB3 := Lib.hid hb3
              have HI3 := Lib.hid hi3
              clear hb3 hi3
              have hsl := span_le l a q
              by_cases hqb : q < b
              · obtain ⟨y, hy⟩ := HX.out q (by omega)
                obtain ⟨g, off, xs, Fk, rfl, _, hra, _, hca⟩ := (HV.out.kept HB3.out).get hy
                obtain rfl := rLink_rd hra
                rw [rLink_size] at hca
                have c0 := hca 0 _ rfl
                have c1 := hca 1 _ rfl
                simp only [Nat.add_zero] at c0
                have HSP : Hid (spanN l a (q + 1) = spanN l a q + (if (!decide ((y.Out.toNat : Int) = 0) && !decide ((y.In.toNat : Int) = 0)) then 0 else 1)) := span_step hy hq1
                have HKC := Lib.hid (HKM.out (y.In.toNat : Int) (y.Out.toNat : Int))
                clear hca hra hy
                generalize (!decide ((y.Out.toNat : Int) = 0) && !decide ((y.In.toNat : Int) = 0)) = kp at *
                generalize (y.In.toNat : Int) = a1 at *
                generalize (y.Out.toNat : Int) = b1' at *
                generalize spanN l a q = E0 at *
                go_wp2_with fail
                refine (HKC.out _).mono ?_
                rintro e w4 ⟨rfl, hb4⟩
                have HB4 : Hid (Below w.heap.size w w4) := below_step HB3.out hb4
                have HI4 := Lib.hid (HI3.out.kept hb4)
                clear hb4
                cases kp
                · have HE : Hid (spanN l a (q + 1) = E0 + 1) := HSP.out
                  go_wp2
                  go_roundw
                  case rel => exact ⟨q + 1, by omega, by omega, by go_num, by rw [HE.out]; go_num, HB4.out, HI4.out⟩
                  case measure => simp [intOf]; omega
                · have HE : Hid (spanN l a (q + 1) = E0) := HSP.out
                  go_wp2
                  go_roundw
                  case rel => exact ⟨q + 1, by omega, by omega, by go_num, by rw [HE.out], HB4.out, HI4.out⟩
                  case measure => simp [intOf]; omega
              · obtain rfl : q = b := by omega
                rw [← HR.out] at *
                go_wp2
                go_ret
                exact ⟨rfl, HB3.out⟩
end Go.Proofs.YtkaihnlknncfdaaGreatDoor

/- The model's ViolationsOf: what it answers. -/
namespace Go.Proofs.YtkaihnlknncfdaaGreatDoor
set_option maxRecDepth 100000
open Go.RowKit M
set_option linter.unusedVariables false
set_option linter.unusedSimpArgs false

set_option maxHeartbeats 8000000 in
theorem specVio_any (nm : ByteArray) (x : DCandidate) (v : Value) (F : Addr → Prop) (w : World) (hl : x.Links.length ≤ 1048576) (hv : RowRd rLink false w v x.Links F) :
    Calls Tryz.prog 77 #[.string nm, .agg #[v]] w fun e w' => e = .returned (.int .i64 (vioN nm x.Links)) ∧ Below w.heap.size w w' := by
  have hsz := outT_size x.Links
  have hmx : (outT x.Links).size ≤ maxLen := by unfold maxLen; omega
  have HS0 : Hid (∀ W, Below w.heap.size w W → Calls Tryz.prog 76 #[.agg #[v]] W fun e w' => e = .returned (.bool (isCd x.Links)) ∧ Below W.heap.size W w') := fun W hW => specIsCd_any x _ F W hl (hv.kept hW)
  have HS1 : Hid (∀ W, Below w.heap.size w W → Calls Tryz.prog 61 #[.agg #[v]] W fun e w' => e = .returned (.string (outT x.Links)) ∧ Below W.heap.size W w') := fun W hW => specOutput_any x _ F W hl (hv.kept hW)
  have HC0 : Hid (∀ W : World, Calls Tryz.prog 115 #[.string (outT x.Links)] W fun e w' => e = .returned (.int .i64 (mkC nconsB vowB (outT x.Links) : Nat)) ∧ W = w') := fun W => specOns_any _ W hmx
  have HC1 : Hid (∀ W : World, Calls Tryz.prog 116 #[.string (outT x.Links)] W fun e w' => e = .returned (.int .i64 (mkC consB nvowB (outT x.Links) : Nat)) ∧ W = w') := fun W => specCod_any _ W hmx
  have HC2 : Hid (∀ W : World, Calls Tryz.prog 117 #[.string (outT x.Links)] W fun e w' => e = .returned (.int .i64 (mkC consB consB (outT x.Links) : Nat)) ∧ W = w') := fun W => specClu_any _ W hmx
  have HC3 : Hid (∀ W : World, Calls Tryz.prog 118 #[.string (outT x.Links)] W fun e w' => e = .returned (.int .i64 (mkC anyB vobB (outT x.Links) : Nat)) ∧ W = w') := fun W => specVoi_any _ W hmx
  have HC4 : Hid (∀ W : World, Calls Tryz.prog 119 #[.string (outT x.Links)] W fun e w' => e = .returned (.int .i64 (mkC vobB edgB (outT x.Links) : Nat)) ∧ W = w') := fun W => specFin_any _ W hmx
  have HC5 : Hid (∀ W : World, Calls Tryz.prog 120 #[.string (outT x.Links)] W fun e w' => e = .returned (.int .i64 (mkC nasB vlsB (outT x.Links) : Nat)) ∧ W = w') := fun W => specNas_any _ W hmx
  have HC6 : Hid (∀ W, Below w.heap.size w W → Calls Tryz.prog 121 #[.agg #[v]] W fun e w' => e = .returned (.int .i64 (cntC delK x.Links : Nat)) ∧ Below W.heap.size W w') := fun W hW => specDeleted_any x _ F W hl (hv.kept hW)
  have HC7 : Hid (∀ W, Below w.heap.size w W → Calls Tryz.prog 122 #[.agg #[v]] W fun e w' => e = .returned (.int .i64 (cntC insK x.Links : Nat)) ∧ Below W.heap.size W w') := fun W hW => specInserted_any x _ F W hl (hv.kept hW)
  have HC8 : Hid (∀ W, Below w.heap.size w W → Calls Tryz.prog 123 #[.agg #[v]] W fun e w' => e = .returned (.int .i64 (cntC vchK x.Links : Nat)) ∧ Below W.heap.size W w') := fun W hW => specVoiceChanged_any x _ F W hl (hv.kept hW)
  have HC9 : Hid (∀ W, Below w.heap.size w W → Calls Tryz.prog 124 #[.agg #[v]] W fun e w' => e = .returned (.int .i64 (brkC x.Links : Nat)) ∧ Below W.heap.size W w') := fun W hW => specBreaks_any x _ F W hl (hv.kept hW)
  have ht0 : (nm.toList == [111, 110, 115, 101, 116]) = decide (nix nm = 0) := by have h := nix_test nm (⟨#[111, 110, 115, 101, 116]⟩ : ByteArray) 0 rfl; rw [Lib.toList_data (⟨#[111, 110, 115, 101, 116]⟩ : ByteArray)] at h; exact h
  have ht1 : (nm.toList == [110, 111, 99, 111, 100, 97]) = decide (nix nm = 1) := by have h := nix_test nm (⟨#[110, 111, 99, 111, 100, 97]⟩ : ByteArray) 1 rfl; rw [Lib.toList_data (⟨#[110, 111, 99, 111, 100, 97]⟩ : ByteArray)] at h; exact h
  have ht2 : (nm.toList == [99, 108, 117, 115, 116, 101, 114]) = decide (nix nm = 2) := by have h := nix_test nm (⟨#[99, 108, 117, 115, 116, 101, 114]⟩ : ByteArray) 2 rfl; rw [Lib.toList_data (⟨#[99, 108, 117, 115, 116, 101, 114]⟩ : ByteArray)] at h; exact h
  have ht3 : (nm.toList == [118, 111, 105, 99, 101]) = decide (nix nm = 3) := by have h := nix_test nm (⟨#[118, 111, 105, 99, 101]⟩ : ByteArray) 3 rfl; rw [Lib.toList_data (⟨#[118, 111, 105, 99, 101]⟩ : ByteArray)] at h; exact h
  have ht4 : (nm.toList == [102, 105, 110, 97, 108]) = decide (nix nm = 4) := by have h := nix_test nm (⟨#[102, 105, 110, 97, 108]⟩ : ByteArray) 4 rfl; rw [Lib.toList_data (⟨#[102, 105, 110, 97, 108]⟩ : ByteArray)] at h; exact h
  have ht5 : (nm.toList == [110, 97, 115, 97, 108]) = decide (nix nm = 5) := by have h := nix_test nm (⟨#[110, 97, 115, 97, 108]⟩ : ByteArray) 5 rfl; rw [Lib.toList_data (⟨#[110, 97, 115, 97, 108]⟩ : ByteArray)] at h; exact h
  have ht6 : (nm.toList == [109, 97, 120]) = decide (nix nm = 6) := by have h := nix_test nm (⟨#[109, 97, 120]⟩ : ByteArray) 6 rfl; rw [Lib.toList_data (⟨#[109, 97, 120]⟩ : ByteArray)] at h; exact h
  have ht7 : (nm.toList == [100, 101, 112]) = decide (nix nm = 7) := by have h := nix_test nm (⟨#[100, 101, 112]⟩ : ByteArray) 7 rfl; rw [Lib.toList_data (⟨#[100, 101, 112]⟩ : ByteArray)] at h; exact h
  have ht8 : (nm.toList == [105, 100, 101, 110, 116]) = decide (nix nm = 8) := by have h := nix_test nm (⟨#[105, 100, 101, 110, 116]⟩ : ByteArray) 8 rfl; rw [Lib.toList_data (⟨#[105, 100, 101, 110, 116]⟩ : ByteArray)] at h; exact h
  have ht9 : (nm.toList == [99, 111, 110, 116, 105, 103]) = decide (nix nm = 9) := by have h := nix_test nm (⟨#[99, 111, 110, 116, 105, 103]⟩ : ByteArray) 9 rfl; rw [Lib.toList_data (⟨#[99, 111, 110, 116, 105, 103]⟩ : ByteArray)] at h; exact h
  have hle := nix_le nm
  have HNO : Hid (isCd x.Links = false → vioN nm x.Links = -1) := vioN_no
  have HV0 : Hid (isCd x.Links = true → nix nm = 0 → vioN nm x.Links = (mkC nconsB vowB (outT x.Links) : Nat)) := fun h hj => vioN_at h hj
  have HV1 : Hid (isCd x.Links = true → nix nm = 1 → vioN nm x.Links = (mkC consB nvowB (outT x.Links) : Nat)) := fun h hj => vioN_at h hj
  have HV2 : Hid (isCd x.Links = true → nix nm = 2 → vioN nm x.Links = (mkC consB consB (outT x.Links) : Nat)) := fun h hj => vioN_at h hj
  have HV3 : Hid (isCd x.Links = true → nix nm = 3 → vioN nm x.Links = (mkC anyB vobB (outT x.Links) : Nat)) := fun h hj => vioN_at h hj
  have HV4 : Hid (isCd x.Links = true → nix nm = 4 → vioN nm x.Links = (mkC vobB edgB (outT x.Links) : Nat)) := fun h hj => vioN_at h hj
  have HV5 : Hid (isCd x.Links = true → nix nm = 5 → vioN nm x.Links = (mkC nasB vlsB (outT x.Links) : Nat)) := fun h hj => vioN_at h hj
  have HV6 : Hid (isCd x.Links = true → nix nm = 6 → vioN nm x.Links = (cntC delK x.Links : Nat)) := fun h hj => vioN_at h hj
  have HV7 : Hid (isCd x.Links = true → nix nm = 7 → vioN nm x.Links = (cntC insK x.Links : Nat)) := fun h hj => vioN_at h hj
  have HV8 : Hid (isCd x.Links = true → nix nm = 8 → vioN nm x.Links = (cntC vchK x.Links : Nat)) := fun h hj => vioN_at h hj
  have HV9 : Hid (isCd x.Links = true → nix nm = 9 → vioN nm x.Links = (brkC x.Links : Nat)) := fun h hj => vioN_at h hj
  have HV10 : Hid (isCd x.Links = true → nix nm = 10 → vioN nm x.Links = -1) := fun h hj => (vioN_at h hj).trans (cntN_none _ (Nat.le_refl _))
  obtain ⟨A, cap, rfl⟩ := hv.form
  clear hv hsz hmx
  generalize isCd x.Links = c at *
  generalize vioN nm x.Links = r at *
  generalize outT x.Links = T at *
  generalize mkC nconsB vowB T = q0 at *
  generalize mkC consB nvowB T = q1 at *
  generalize mkC consB consB T = q2 at *
  generalize mkC anyB vobB T = q3 at *
  generalize mkC vobB edgB T = q4 at *
  generalize mkC nasB vlsB T = q5 at *
  generalize cntC delK x.Links = q6 at *
  generalize cntC insK x.Links = q7 at *
  generalize cntC vchK x.Links = q8 at *
  generalize brkC x.Links = q9 at *
  generalize nix nm = i at *
  have HA : Hid (∀ o, Below w.heap.size w (w.alloc o)) := fun o => (Below.refl _ _).alloc (Nat.le_refl _) _
  have HA1 : Hid (InC (w.alloc (.cells #[.slice A x.Links.length cap] 55)) w.heap.size #[.slice A x.Links.length cap] 55) := heap_alloc_new _ _
  go_enter Tryz.func77, Tryz.ntmps77
  go_wp2_with fail
  refine (HS0.out _ (HA.out _)).mono ?_
  rintro e w2 ⟨rfl, hb⟩
  have HX2 := Lib.hid (HA1.out.kept hb)
  have b1 := HX2.out.cell 0 rfl
  have HB : Hid (Below w.heap.size w w2) := below_step (HA.out _) hb
  clear hb
  cases c
  · go_wp2_with fail
    go_ret
    exact ⟨ret_i64 (HNO.out (by first | rfl | trivial)).symm, HB.out⟩
  go_wp2_with fail
  refine (HS1.out _ HB.out).mono ?_
  rintro e w3 ⟨rfl, hb⟩
  have HX3 := Lib.hid (HX2.out.kept hb)
  have b2 := HX3.out.cell 0 rfl
  have HB3 : Hid (Below w.heap.size w w3) := below_step HB.out hb
  clear hb b1
  obtain rfl | rfl | rfl | rfl | rfl | rfl | rfl | rfl | rfl | rfl | rfl : i = 0 ∨ i = 1 ∨ i = 2 ∨ i = 3 ∨ i = 4 ∨ i = 5 ∨ i = 6 ∨ i = 7 ∨ i = 8 ∨ i = 9 ∨ i = 10 := by omega
  · have HR := Lib.hid (HV0.out (by first | rfl | trivial) (by first | rfl | trivial))
    replace ht0 : (nm.toList == [111, 110, 115, 101, 116]) = true := ht0.trans (by decide)
    replace ht1 : (nm.toList == [110, 111, 99, 111, 100, 97]) = false := ht1.trans (by decide)
    replace ht2 : (nm.toList == [99, 108, 117, 115, 116, 101, 114]) = false := ht2.trans (by decide)
    replace ht3 : (nm.toList == [118, 111, 105, 99, 101]) = false := ht3.trans (by decide)
    replace ht4 : (nm.toList == [102, 105, 110, 97, 108]) = false := ht4.trans (by decide)
    replace ht5 : (nm.toList == [110, 97, 115, 97, 108]) = false := ht5.trans (by decide)
    replace ht6 : (nm.toList == [109, 97, 120]) = false := ht6.trans (by decide)
    replace ht7 : (nm.toList == [100, 101, 112]) = false := ht7.trans (by decide)
    replace ht8 : (nm.toList == [105, 100, 101, 110, 116]) = false := ht8.trans (by decide)
    replace ht9 : (nm.toList == [99, 111, 110, 116, 105, 103]) = false := ht9.trans (by decide)
    go_wp2_with fail
    refine (HC0.out _).mono ?_
    rintro e w4 ⟨rfl, rfl⟩
    go_wp2_with fail
    go_ret
    exact ⟨ret_i64 HR.out.symm, HB3.out⟩
  · have HR := Lib.hid (HV1.out (by first | rfl | trivial) (by first | rfl | trivial))
    replace ht0 : (nm.toList == [111, 110, 115, 101, 116]) = false := ht0.trans (by decide)
    replace ht1 : (nm.toList == [110, 111, 99, 111, 100, 97]) = true := ht1.trans (by decide)
    replace ht2 : (nm.toList == [99, 108, 117, 115, 116, 101, 114]) = false := ht2.trans (by decide)
    replace ht3 : (nm.toList == [118, 111, 105, 99, 101]) = false := ht3.trans (by decide)
    replace ht4 : (nm.toList == [102, 105, 110, 97, 108]) = false := ht4.trans (by decide)
    replace ht5 : (nm.toList == [110, 97, 115, 97, 108]) = false := ht5.trans (by decide)
    replace ht6 : (nm.toList == [109, 97, 120]) = false := ht6.trans (by decide)
    replace ht7 : (nm.toList == [100, 101, 112]) = false := ht7.trans (by decide)
    replace ht8 : (nm.toList == [105, 100, 101, 110, 116]) = false := ht8.trans (by decide)
    replace ht9 : (nm.toList == [99, 111, 110, 116, 105, 103]) = false := ht9.trans (by decide)
    go_wp2_with fail
    refine (HC1.out _).mono ?_
    rintro e w4 ⟨rfl, rfl⟩
    go_wp2_with fail
    go_ret
    exact ⟨ret_i64 HR.out.symm, HB3.out⟩
  · have HR := Lib.hid (HV2.out (by first | rfl | trivial) (by first | rfl | trivial))
    replace ht0 : (nm.toList == [111, 110, 115, 101, 116]) = false := ht0.trans (by decide)
    replace ht1 : (nm.toList == [110, 111, 99, 111, 100, 97]) = false := ht1.trans (by decide)
    replace ht2 : (nm.toList == [99, 108, 117, 115, 116, 101, 114]) = true := ht2.trans (by decide)
    replace ht3 : (nm.toList == [118, 111, 105, 99, 101]) = false := ht3.trans (by decide)
    replace ht4 : (nm.toList == [102, 105, 110, 97, 108]) = false := ht4.trans (by decide)
    replace ht5 : (nm.toList == [110, 97, 115, 97, 108]) = false := ht5.trans (by decide)
    replace ht6 : (nm.toList == [109, 97, 120]) = false := ht6.trans (by decide)
    replace ht7 : (nm.toList == [100, 101, 112]) = false := ht7.trans (by decide)
    replace ht8 : (nm.toList == [105, 100, 101, 110, 116]) = false := ht8.trans (by decide)
    replace ht9 : (nm.toList == [99, 111, 110, 116, 105, 103]) = false := ht9.trans (by decide)
    go_wp2_with fail
    refine (HC2.out _).mono ?_
    rintro e w4 ⟨rfl, rfl⟩
    go_wp2_with fail
    go_ret
    exact ⟨ret_i64 HR.out.symm, HB3.out⟩
  · have HR := Lib.hid (HV3.out (by first | rfl | trivial) (by first | rfl | trivial))
    replace ht0 : (nm.toList == [111, 110, 115, 101, 116]) = false := ht0.trans (by decide)
    replace ht1 : (nm.toList == [110, 111, 99, 111, 100, 97]) = false := ht1.trans (by decide)
    replace ht2 : (nm.toList == [99, 108, 117, 115, 116, 101, 114]) = false := ht2.trans (by decide)
    replace ht3 : (nm.toList == [118, 111, 105, 99, 101]) = true := ht3.trans (by decide)
    replace ht4 : (nm.toList == [102, 105, 110, 97, 108]) = false := ht4.trans (by decide)
    replace ht5 : (nm.toList == [110, 97, 115, 97, 108]) = false := ht5.trans (by decide)
    replace ht6 : (nm.toList == [109, 97, 120]) = false := ht6.trans (by decide)
    replace ht7 : (nm.toList == [100, 101, 112]) = false := ht7.trans (by decide)
    replace ht8 : (nm.toList == [105, 100, 101, 110, 116]) = false := ht8.trans (by decide)
    replace ht9 : (nm.toList == [99, 111, 110, 116, 105, 103]) = false := ht9.trans (by decide)
    go_wp2_with fail
    refine (HC3.out _).mono ?_
    rintro e w4 ⟨rfl, rfl⟩
    go_wp2_with fail
    go_ret
    exact ⟨ret_i64 HR.out.symm, HB3.out⟩
  · have HR := Lib.hid (HV4.out (by first | rfl | trivial) (by first | rfl | trivial))
    replace ht0 : (nm.toList == [111, 110, 115, 101, 116]) = false := ht0.trans (by decide)
    replace ht1 : (nm.toList == [110, 111, 99, 111, 100, 97]) = false := ht1.trans (by decide)
    replace ht2 : (nm.toList == [99, 108, 117, 115, 116, 101, 114]) = false := ht2.trans (by decide)
    replace ht3 : (nm.toList == [118, 111, 105, 99, 101]) = false := ht3.trans (by decide)
    replace ht4 : (nm.toList == [102, 105, 110, 97, 108]) = true := ht4.trans (by decide)
    replace ht5 : (nm.toList == [110, 97, 115, 97, 108]) = false := ht5.trans (by decide)
    replace ht6 : (nm.toList == [109, 97, 120]) = false := ht6.trans (by decide)
    replace ht7 : (nm.toList == [100, 101, 112]) = false := ht7.trans (by decide)
    replace ht8 : (nm.toList == [105, 100, 101, 110, 116]) = false := ht8.trans (by decide)
    replace ht9 : (nm.toList == [99, 111, 110, 116, 105, 103]) = false := ht9.trans (by decide)
    go_wp2_with fail
    refine (HC4.out _).mono ?_
    rintro e w4 ⟨rfl, rfl⟩
    go_wp2_with fail
    go_ret
    exact ⟨ret_i64 HR.out.symm, HB3.out⟩
  · have HR := Lib.hid (HV5.out (by first | rfl | trivial) (by first | rfl | trivial))
    replace ht0 : (nm.toList == [111, 110, 115, 101, 116]) = false := ht0.trans (by decide)
    replace ht1 : (nm.toList == [110, 111, 99, 111, 100, 97]) = false := ht1.trans (by decide)
    replace ht2 : (nm.toList == [99, 108, 117, 115, 116, 101, 114]) = false := ht2.trans (by decide)
    replace ht3 : (nm.toList == [118, 111, 105, 99, 101]) = false := ht3.trans (by decide)
    replace ht4 : (nm.toList == [102, 105, 110, 97, 108]) = false := ht4.trans (by decide)
    replace ht5 : (nm.toList == [110, 97, 115, 97, 108]) = true := ht5.trans (by decide)
    replace ht6 : (nm.toList == [109, 97, 120]) = false := ht6.trans (by decide)
    replace ht7 : (nm.toList == [100, 101, 112]) = false := ht7.trans (by decide)
    replace ht8 : (nm.toList == [105, 100, 101, 110, 116]) = false := ht8.trans (by decide)
    replace ht9 : (nm.toList == [99, 111, 110, 116, 105, 103]) = false := ht9.trans (by decide)
    go_wp2_with fail
    refine (HC5.out _).mono ?_
    rintro e w4 ⟨rfl, rfl⟩
    go_wp2_with fail
    go_ret
    exact ⟨ret_i64 HR.out.symm, HB3.out⟩
  · have HR := Lib.hid (HV6.out (by first | rfl | trivial) (by first | rfl | trivial))
    replace ht0 : (nm.toList == [111, 110, 115, 101, 116]) = false := ht0.trans (by decide)
    replace ht1 : (nm.toList == [110, 111, 99, 111, 100, 97]) = false := ht1.trans (by decide)
    replace ht2 : (nm.toList == [99, 108, 117, 115, 116, 101, 114]) = false := ht2.trans (by decide)
    replace ht3 : (nm.toList == [118, 111, 105, 99, 101]) = false := ht3.trans (by decide)
    replace ht4 : (nm.toList == [102, 105, 110, 97, 108]) = false := ht4.trans (by decide)
    replace ht5 : (nm.toList == [110, 97, 115, 97, 108]) = false := ht5.trans (by decide)
    replace ht6 : (nm.toList == [109, 97, 120]) = true := ht6.trans (by decide)
    replace ht7 : (nm.toList == [100, 101, 112]) = false := ht7.trans (by decide)
    replace ht8 : (nm.toList == [105, 100, 101, 110, 116]) = false := ht8.trans (by decide)
    replace ht9 : (nm.toList == [99, 111, 110, 116, 105, 103]) = false := ht9.trans (by decide)
    go_wp2_with fail
    refine (HC6.out _ HB3.out).mono ?_
    rintro e w4 ⟨rfl, hb⟩
    have HB4 : Hid (Below w.heap.size w w4) := below_step HB3.out hb
    clear hb
    go_wp2_with fail
    go_ret
    exact ⟨ret_i64 HR.out.symm, HB4.out⟩
  · have HR := Lib.hid (HV7.out (by first | rfl | trivial) (by first | rfl | trivial))
    replace ht0 : (nm.toList == [111, 110, 115, 101, 116]) = false := ht0.trans (by decide)
    replace ht1 : (nm.toList == [110, 111, 99, 111, 100, 97]) = false := ht1.trans (by decide)
    replace ht2 : (nm.toList == [99, 108, 117, 115, 116, 101, 114]) = false := ht2.trans (by decide)
    replace ht3 : (nm.toList == [118, 111, 105, 99, 101]) = false := ht3.trans (by decide)
    replace ht4 : (nm.toList == [102, 105, 110, 97, 108]) = false := ht4.trans (by decide)
    replace ht5 : (nm.toList == [110, 97, 115, 97, 108]) = false := ht5.trans (by decide)
    replace ht6 : (nm.toList == [109, 97, 120]) = false := ht6.trans (by decide)
    replace ht7 : (nm.toList == [100, 101, 112]) = true := ht7.trans (by decide)
    replace ht8 : (nm.toList == [105, 100, 101, 110, 116]) = false := ht8.trans (by decide)
    replace ht9 : (nm.toList == [99, 111, 110, 116, 105, 103]) = false := ht9.trans (by decide)
    go_wp2_with fail
    refine (HC7.out _ HB3.out).mono ?_
    rintro e w4 ⟨rfl, hb⟩
    have HB4 : Hid (Below w.heap.size w w4) := below_step HB3.out hb
    clear hb
    go_wp2_with fail
    go_ret
    exact ⟨ret_i64 HR.out.symm, HB4.out⟩
  · have HR := Lib.hid (HV8.out (by first | rfl | trivial) (by first | rfl | trivial))
    replace ht0 : (nm.toList == [111, 110, 115, 101, 116]) = false := ht0.trans (by decide)
    replace ht1 : (nm.toList == [110, 111, 99, 111, 100, 97]) = false := ht1.trans (by decide)
    replace ht2 : (nm.toList == [99, 108, 117, 115, 116, 101, 114]) = false := ht2.trans (by decide)
    replace ht3 : (nm.toList == [118, 111, 105, 99, 101]) = false := ht3.trans (by decide)
    replace ht4 : (nm.toList == [102, 105, 110, 97, 108]) = false := ht4.trans (by decide)
    replace ht5 : (nm.toList == [110, 97, 115, 97, 108]) = false := ht5.trans (by decide)
    replace ht6 : (nm.toList == [109, 97, 120]) = false := ht6.trans (by decide)
    replace ht7 : (nm.toList == [100, 101, 112]) = false := ht7.trans (by decide)
    replace ht8 : (nm.toList == [105, 100, 101, 110, 116]) = true := ht8.trans (by decide)
    replace ht9 : (nm.toList == [99, 111, 110, 116, 105, 103]) = false := ht9.trans (by decide)
    go_wp2_with fail
    refine (HC8.out _ HB3.out).mono ?_
    rintro e w4 ⟨rfl, hb⟩
    have HB4 : Hid (Below w.heap.size w w4) := below_step HB3.out hb
    clear hb
    go_wp2_with fail
    go_ret
    exact ⟨ret_i64 HR.out.symm, HB4.out⟩
  · have HR := Lib.hid (HV9.out (by first | rfl | trivial) (by first | rfl | trivial))
    replace ht0 : (nm.toList == [111, 110, 115, 101, 116]) = false := ht0.trans (by decide)
    replace ht1 : (nm.toList == [110, 111, 99, 111, 100, 97]) = false := ht1.trans (by decide)
    replace ht2 : (nm.toList == [99, 108, 117, 115, 116, 101, 114]) = false := ht2.trans (by decide)
    replace ht3 : (nm.toList == [118, 111, 105, 99, 101]) = false := ht3.trans (by decide)
    replace ht4 : (nm.toList == [102, 105, 110, 97, 108]) = false := ht4.trans (by decide)
    replace ht5 : (nm.toList == [110, 97, 115, 97, 108]) = false := ht5.trans (by decide)
    replace ht6 : (nm.toList == [109, 97, 120]) = false := ht6.trans (by decide)
    replace ht7 : (nm.toList == [100, 101, 112]) = false := ht7.trans (by decide)
    replace ht8 : (nm.toList == [105, 100, 101, 110, 116]) = false := ht8.trans (by decide)
    replace ht9 : (nm.toList == [99, 111, 110, 116, 105, 103]) = true := ht9.trans (by decide)
    go_wp2_with fail
    refine (HC9.out _ HB3.out).mono ?_
    rintro e w4 ⟨rfl, hb⟩
    have HB4 : Hid (Below w.heap.size w w4) := below_step HB3.out hb
    clear hb
    go_wp2_with fail
    go_ret
    exact ⟨ret_i64 HR.out.symm, HB4.out⟩
  · have HR := Lib.hid (HV10.out (by first | rfl | trivial) (by first | rfl | trivial))
    replace ht0 : (nm.toList == [111, 110, 115, 101, 116]) = false := ht0.trans (by decide)
    replace ht1 : (nm.toList == [110, 111, 99, 111, 100, 97]) = false := ht1.trans (by decide)
    replace ht2 : (nm.toList == [99, 108, 117, 115, 116, 101, 114]) = false := ht2.trans (by decide)
    replace ht3 : (nm.toList == [118, 111, 105, 99, 101]) = false := ht3.trans (by decide)
    replace ht4 : (nm.toList == [102, 105, 110, 97, 108]) = false := ht4.trans (by decide)
    replace ht5 : (nm.toList == [110, 97, 115, 97, 108]) = false := ht5.trans (by decide)
    replace ht6 : (nm.toList == [109, 97, 120]) = false := ht6.trans (by decide)
    replace ht7 : (nm.toList == [100, 101, 112]) = false := ht7.trans (by decide)
    replace ht8 : (nm.toList == [105, 100, 101, 110, 116]) = false := ht8.trans (by decide)
    replace ht9 : (nm.toList == [99, 111, 110, 116, 105, 103]) = false := ht9.trans (by decide)
    go_wp2_with fail
    go_ret
    exact ⟨ret_i64 HR.out.symm, HB3.out⟩
end Go.Proofs.YtkaihnlknncfdaaGreatDoor

/- The program's counts by name: a map of function values: what it holds. -/
namespace Go.Proofs.YtkaihnlknncfdaaGreatDoor
set_option maxRecDepth 100000
open Go.RowKit M
set_option linter.unusedVariables false
set_option linter.unusedSimpArgs false

/-- The functions that count. -/
def cidN (j : Nat) : Nat := match j with
  | 0 => 146
  | 1 => 148
  | 2 => 149
  | 3 => 150
  | 4 => 151
  | 5 => 152
  | 6 => 153
  | 7 => 154
  | 8 => 155
  | 9 => 156
  | _ => 0
/-- The j-th value of the map. -/
def fnV (j : Nat) : Value := if j < 6 then .func (.func 147) #[.func (.func (cidN j)) #[] #[]] #[] else .func (.func (cidN j)) #[] #[]
theorem fnV_inj : ∀ i, i < 10 → ∀ j, j < 10 → fnV i = fnV j → i = j := by
  have h1 : ∀ i, i < 10 → ∀ j, j < 10 → cidN i = cidN j → i = j := by decide +kernel
  intro i hi j hj h
  unfold fnV at h
  split at h <;> split at h
  · simp at h; exact h1 i hi j hj h
  · simp at h
  · simp at h
  · simp at h; exact h1 i hi j hj h
def codeN (j : Nat) : DataW Unit := .lit (.int .i64 j)
open Classical in
/-- How a value of the map reads: by its number. -/
noncomputable def fR (v : Value) : Option (DataW Unit × List MemPlace) := some (codeN (if h : ∃ j : Nat, j < 10 ∧ v = fnV j then Classical.choose h else 10), [])
theorem fR_fn (j : Nat) (hj : j < 10) : fR (fnV j) = some (codeN j, []) := by
  unfold fR
  have h : ∃ i : Nat, i < 10 ∧ fnV j = fnV i := ⟨j, hj, rfl⟩
  rw [dif_pos h]
  have hs := Classical.choose_spec h
  rw [← fnV_inj j hj _ hs.1 hs.2]
theorem fR_inv {v : Value} {j : Nat} {ps : List MemPlace} (hj : j < 10) (h : fR v = some (codeN j, ps)) : v = fnV j := by
  unfold fR at h
  split at h
  · rename_i hx
    have hs := Classical.choose_spec hx
    simp only [Option.some.injEq, Prod.mk.injEq, codeN, DataW.lit.injEq, Lit.int.injEq, true_and] at h
    have he : Classical.choose hx = j := by omega
    rw [he] at hs
    exact hs.2
  · simp only [Option.some.injEq, Prod.mk.injEq, codeN, DataW.lit.injEq, Lit.int.injEq, true_and] at h
    omega
def klN (x : ByteArray) : Lit := .string x.data.toList
theorem klN_inj {x y : ByteArray} (h : klN x = klN y) : x = y := by
  unfold klN at h
  injection h with h
  exact ByteArray.ext (Array.toList_inj.1 h)
theorem klN_key (x : ByteArray) : WideAt.IsKeyLit (klN x) := trivial
/-- What the map reads as after j entries. -/
def dputN : Nat → DataW Unit
  | 0 => .map []
  | j + 1 => (dputN j).put (klN (namesB.getD j ByteArray.empty)) (codeN j)
theorem dput_map : ∀ j, Maps.IsMap (dputN j)
  | 0 => Maps.isMap_empty
  | j + 1 => (dput_map j).put _ _
theorem dput_at (x : ByteArray) (zd : DataW Unit) : ∀ n, n ≤ 10 → (dputN n).atKey (klN x) zd = (if nix x < n then codeN (nix x) else zd) ∧ Maps.has (dputN n) (klN x) = decide (nix x < n)
  | 0, _ => ⟨rfl, rfl⟩
  | n + 1, hn => by
    have ih := dput_at x zd n (by omega)
    have hg : namesB[n]? = some (namesB.getD n ByteArray.empty) := by
      rw [List.getD_eq_getElem?_getD, List.getElem?_eq_getElem (show n < namesB.length from by show n < 10; omega)]; rfl
    unfold dputN
    by_cases e : x = namesB.getD n ByteArray.empty
    · have hx : nix x = n := nix_of (by rw [e]; exact hg)
      rw [← e, Maps.atKey_put_same (dput_map n) (klN_key x), Maps.has_put_same (dput_map n) (klN_key x), hx, if_pos (Nat.lt_succ_self n)]
      exact ⟨rfl, (decide_eq_true (Nat.lt_succ_self n)).symm⟩
    · have hne : klN x ≠ klN (namesB.getD n ByteArray.empty) := fun h => e (klN_inj h)
      have hx : ¬ nix x = n := fun h => by
        have h2 := nix_at (x := x) (by omega)
        rw [h, hg] at h2
        exact e (Option.some.inj h2).symm
      rw [Maps.atKey_put_other hne, Maps.has_put_other hne, ih.1, ih.2]
      refine ⟨?_, ?_⟩
      · by_cases h : nix x < n
        · rw [if_pos h, if_pos (by omega)]
        · rw [if_neg h, if_neg (by omega)]
      · by_cases h : nix x < n
        · rw [decide_eq_true h, decide_eq_true (by omega)]
        · rw [decide_eq_false h, decide_eq_false (by omega)]
theorem wpList_insert_own {H : Type} {P : Program} (w : World) {ops : Array Oper} {rest : List Oper} {o : Oper} {a : Act} {Q : Exit → Act → World → Prop}
    (hg : o.guard = none) (m x v : Operand) (t : TypeId) (hop : o.op = Op.insert t m x v)
    (k e : TypeId) (K : Maps.Keyed P k) (ht : P.underlying t = some (.map k e)) (R : Value → Option (DataW H × List MemPlace)) (b n : Nat) (D : DataW H)
    (hm : a.eval m = .map (some b)) (hown : w.ownsMap P k R b n D) (hn : n < maxLen) (key val : Value) (kl : Lit) (hx : a.eval x = key) (hv : a.eval v = val) (hkey : Go.keyOf P k key = some kl)
    (d : DataW H) (ps : List MemPlace) (hval : R val = some (d, ps))
    (hK : ∀ w', w'.ownsMap P k R b (n + 1) (D.put kl d) → w.grownBy w' (some b) → wpList P ops Q rest (a.put o.dst undef) w') :
    wpList P ops Q (o :: rest) a w := by
  refine wpList_plain hg fun K' hK' => ?_
  obtain ⟨w', hrun, r1, r2⟩ := hown.update K ht hn hkey hval
  unfold Oper.wp
  simp only [execOp, hop, hm, hx, hv]
  have hr2 : (Instr.mapUpdate t (.map (some b)) key val).run P w = .ok () w' := hrun
  simp [Result.andThen, hr2]
  exact hK' _ _ (hK w' r1 r2)
theorem Tryz.strKeyed : Maps.Keyed Tryz.prog 9 := Maps.string_keyed Tryz.underlying9
set_option maxHeartbeats 4000000 in
theorem implCounts_any (w : World) : Calls Tryz.prog 128 #[] w fun e w' => e = .returned (.map (some w.heap.size)) ∧ w'.ownsMap Tryz.prog 9 fR w.heap.size 10 (dputN 10) ∧ Below w.heap.size w w' := by
  have hmm := @run_makeMap Tryz.prog
  have hv0 := fR_fn 0 (by omega)
  have hk0 : Go.keyOf Tryz.prog 9 (.string ⟨#[111, 110, 115, 101, 116]⟩) = some (klN (namesB.getD 0 ByteArray.empty)) := WideMaps.keyOf_string_mk Tryz.underlying9 (by unfold maxLen; decide)
  have hv1 := fR_fn 1 (by omega)
  have hk1 : Go.keyOf Tryz.prog 9 (.string ⟨#[110, 111, 99, 111, 100, 97]⟩) = some (klN (namesB.getD 1 ByteArray.empty)) := WideMaps.keyOf_string_mk Tryz.underlying9 (by unfold maxLen; decide)
  have hv2 := fR_fn 2 (by omega)
  have hk2 : Go.keyOf Tryz.prog 9 (.string ⟨#[99, 108, 117, 115, 116, 101, 114]⟩) = some (klN (namesB.getD 2 ByteArray.empty)) := WideMaps.keyOf_string_mk Tryz.underlying9 (by unfold maxLen; decide)
  have hv3 := fR_fn 3 (by omega)
  have hk3 : Go.keyOf Tryz.prog 9 (.string ⟨#[118, 111, 105, 99, 101]⟩) = some (klN (namesB.getD 3 ByteArray.empty)) := WideMaps.keyOf_string_mk Tryz.underlying9 (by unfold maxLen; decide)
  have hv4 := fR_fn 4 (by omega)
  have hk4 : Go.keyOf Tryz.prog 9 (.string ⟨#[102, 105, 110, 97, 108]⟩) = some (klN (namesB.getD 4 ByteArray.empty)) := WideMaps.keyOf_string_mk Tryz.underlying9 (by unfold maxLen; decide)
  have hv5 := fR_fn 5 (by omega)
  have hk5 : Go.keyOf Tryz.prog 9 (.string ⟨#[110, 97, 115, 97, 108]⟩) = some (klN (namesB.getD 5 ByteArray.empty)) := WideMaps.keyOf_string_mk Tryz.underlying9 (by unfold maxLen; decide)
  have hv6 := fR_fn 6 (by omega)
  have hk6 : Go.keyOf Tryz.prog 9 (.string ⟨#[109, 97, 120]⟩) = some (klN (namesB.getD 6 ByteArray.empty)) := WideMaps.keyOf_string_mk Tryz.underlying9 (by unfold maxLen; decide)
  have hv7 := fR_fn 7 (by omega)
  have hk7 : Go.keyOf Tryz.prog 9 (.string ⟨#[100, 101, 112]⟩) = some (klN (namesB.getD 7 ByteArray.empty)) := WideMaps.keyOf_string_mk Tryz.underlying9 (by unfold maxLen; decide)
  have hv8 := fR_fn 8 (by omega)
  have hk8 : Go.keyOf Tryz.prog 9 (.string ⟨#[105, 100, 101, 110, 116]⟩) = some (klN (namesB.getD 8 ByteArray.empty)) := WideMaps.keyOf_string_mk Tryz.underlying9 (by unfold maxLen; decide)
  have hv9 := fR_fn 9 (by omega)
  have hk9 : Go.keyOf Tryz.prog 9 (.string ⟨#[99, 111, 110, 116, 105, 103]⟩) = some (klN (namesB.getD 9 ByteArray.empty)) := WideMaps.keyOf_string_mk Tryz.underlying9 (by unfold maxLen; decide)
  have own0 : (w.alloc (.map #[] 0)).ownsMap Tryz.prog 9 fR w.heap.size 0 (dputN 0) := World.ownsMap_made _ _ _ _
  have bel0 : Below w.heap.size w (w.alloc (.map #[] 0)) := (Below.refl _ _).alloc (Nat.le_refl _) _
  obtain ⟨w1, hrun1, own1, g1⟩ := own0.update Tryz.strKeyed Tryz.underlying126 (by unfold maxLen; omega) hk0 hv0
  have hr1 : Sem.run Tryz.prog (Instr.mapUpdate 126 (.map (some w.heap.size)) (.string ⟨#[111, 110, 115, 101, 116]⟩) (.func (.func 147) #[.func (.func 146) #[] #[]] #[])) (w.alloc (.map #[] 0)) = .ok () w1 := hrun1
  have bel1 : Below w.heap.size w w1 := bel0.grown g1 bel0.size (fun q hq => by cases hq; exact Nat.le_refl _)
  clear bel0 own0 g1 hrun1 hk0 hv0
  obtain ⟨w2, hrun2, own2, g2⟩ := own1.update Tryz.strKeyed Tryz.underlying126 (by unfold maxLen; omega) hk1 hv1
  have hr2 : Sem.run Tryz.prog (Instr.mapUpdate 126 (.map (some w.heap.size)) (.string ⟨#[110, 111, 99, 111, 100, 97]⟩) (.func (.func 147) #[.func (.func 148) #[] #[]] #[])) w1 = .ok () w2 := hrun2
  have bel2 : Below w.heap.size w w2 := bel1.grown g2 bel1.size (fun q hq => by cases hq; exact Nat.le_refl _)
  clear bel1 own1 g2 hrun2 hk1 hv1
  obtain ⟨w3, hrun3, own3, g3⟩ := own2.update Tryz.strKeyed Tryz.underlying126 (by unfold maxLen; omega) hk2 hv2
  have hr3 : Sem.run Tryz.prog (Instr.mapUpdate 126 (.map (some w.heap.size)) (.string ⟨#[99, 108, 117, 115, 116, 101, 114]⟩) (.func (.func 147) #[.func (.func 149) #[] #[]] #[])) w2 = .ok () w3 := hrun3
  have bel3 : Below w.heap.size w w3 := bel2.grown g3 bel2.size (fun q hq => by cases hq; exact Nat.le_refl _)
  clear bel2 own2 g3 hrun3 hk2 hv2
  obtain ⟨w4, hrun4, own4, g4⟩ := own3.update Tryz.strKeyed Tryz.underlying126 (by unfold maxLen; omega) hk3 hv3
  have hr4 : Sem.run Tryz.prog (Instr.mapUpdate 126 (.map (some w.heap.size)) (.string ⟨#[118, 111, 105, 99, 101]⟩) (.func (.func 147) #[.func (.func 150) #[] #[]] #[])) w3 = .ok () w4 := hrun4
  have bel4 : Below w.heap.size w w4 := bel3.grown g4 bel3.size (fun q hq => by cases hq; exact Nat.le_refl _)
  clear bel3 own3 g4 hrun4 hk3 hv3
  obtain ⟨w5, hrun5, own5, g5⟩ := own4.update Tryz.strKeyed Tryz.underlying126 (by unfold maxLen; omega) hk4 hv4
  have hr5 : Sem.run Tryz.prog (Instr.mapUpdate 126 (.map (some w.heap.size)) (.string ⟨#[102, 105, 110, 97, 108]⟩) (.func (.func 147) #[.func (.func 151) #[] #[]] #[])) w4 = .ok () w5 := hrun5
  have bel5 : Below w.heap.size w w5 := bel4.grown g5 bel4.size (fun q hq => by cases hq; exact Nat.le_refl _)
  clear bel4 own4 g5 hrun5 hk4 hv4
  obtain ⟨w6, hrun6, own6, g6⟩ := own5.update Tryz.strKeyed Tryz.underlying126 (by unfold maxLen; omega) hk5 hv5
  have hr6 : Sem.run Tryz.prog (Instr.mapUpdate 126 (.map (some w.heap.size)) (.string ⟨#[110, 97, 115, 97, 108]⟩) (.func (.func 147) #[.func (.func 152) #[] #[]] #[])) w5 = .ok () w6 := hrun6
  have bel6 : Below w.heap.size w w6 := bel5.grown g6 bel5.size (fun q hq => by cases hq; exact Nat.le_refl _)
  clear bel5 own5 g6 hrun6 hk5 hv5
  obtain ⟨w7, hrun7, own7, g7⟩ := own6.update Tryz.strKeyed Tryz.underlying126 (by unfold maxLen; omega) hk6 hv6
  have hr7 : Sem.run Tryz.prog (Instr.mapUpdate 126 (.map (some w.heap.size)) (.string ⟨#[109, 97, 120]⟩) (.func (.func 153) #[] #[])) w6 = .ok () w7 := hrun7
  have bel7 : Below w.heap.size w w7 := bel6.grown g7 bel6.size (fun q hq => by cases hq; exact Nat.le_refl _)
  clear bel6 own6 g7 hrun7 hk6 hv6
  obtain ⟨w8, hrun8, own8, g8⟩ := own7.update Tryz.strKeyed Tryz.underlying126 (by unfold maxLen; omega) hk7 hv7
  have hr8 : Sem.run Tryz.prog (Instr.mapUpdate 126 (.map (some w.heap.size)) (.string ⟨#[100, 101, 112]⟩) (.func (.func 154) #[] #[])) w7 = .ok () w8 := hrun8
  have bel8 : Below w.heap.size w w8 := bel7.grown g8 bel7.size (fun q hq => by cases hq; exact Nat.le_refl _)
  clear bel7 own7 g8 hrun8 hk7 hv7
  obtain ⟨w9, hrun9, own9, g9⟩ := own8.update Tryz.strKeyed Tryz.underlying126 (by unfold maxLen; omega) hk8 hv8
  have hr9 : Sem.run Tryz.prog (Instr.mapUpdate 126 (.map (some w.heap.size)) (.string ⟨#[105, 100, 101, 110, 116]⟩) (.func (.func 155) #[] #[])) w8 = .ok () w9 := hrun9
  have bel9 : Below w.heap.size w w9 := bel8.grown g9 bel8.size (fun q hq => by cases hq; exact Nat.le_refl _)
  clear bel8 own8 g9 hrun9 hk8 hv8
  obtain ⟨w10, hrun10, own10, g10⟩ := own9.update Tryz.strKeyed Tryz.underlying126 (by unfold maxLen; omega) hk9 hv9
  have hr10 : Sem.run Tryz.prog (Instr.mapUpdate 126 (.map (some w.heap.size)) (.string ⟨#[99, 111, 110, 116, 105, 103]⟩) (.func (.func 156) #[] #[])) w9 = .ok () w10 := hrun10
  have bel10 : Below w.heap.size w w10 := bel9.grown g10 bel9.size (fun q hq => by cases hq; exact Nat.le_refl _)
  clear bel9 own9 g10 hrun10 hk9 hv9
  have OWN : Hid (w10.ownsMap Tryz.prog 9 fR w.heap.size 10 (dputN 10)) := own10
  clear own10
  go_enter Tryz.func128, Tryz.ntmps128
  go_wp2
  go_ret
  exact ⟨rfl, OWN.out, bel10⟩
end Go.Proofs.YtkaihnlknncfdaaGreatDoor

/- The program's table of features, as the rows list it: what the list gives, and that it stands behind a call that keeps what there was. No condition. -/
namespace Go.Proofs.YtkaihnlknncfdaaGreatDoor
set_option maxRecDepth 100000
open Go.RowKit Go.ChangeShapes Go.Lib

def featCells : Array Value := #[.string ⟨#[97, 105]⟩, .string ⟨#[98, 100, 110, 97, 105]⟩, .string ⟨#[110]⟩, .string ⟨#[112, 98]⟩, .string ⟨#[105]⟩]
/-- The table reads as laid. -/
def FeatTab (W : World) : Prop := W.var? Tryz.prog "loop.example/g02080/impl.featureSounds" = some featCells
theorem gFeat : Tryz.prog.globalNamed "loop.example/g02080/impl.featureSounds" = some 0 := by kernel_rfl
theorem gFeatType : (Tryz.prog.globals[0]?).map (·.type) = some 156 := by kernel_rfl
theorem cells156 : Tryz.prog.cellsOf 156 = 5 := by kernel_rfl
theorem cells9 : Tryz.prog.cellsOf 9 = 1 := by kernel_rfl
theorem feat_of {W : World} (h : laidMet Tryz.prog [("loop.example/g02080/impl.featureSounds", Rows.laid_loop_example_g02080_impl_featureSounds)] W) : FeatTab W := by
  obtain ⟨ps, ⟨g, t, cs, fuel, p, q, hg, ht, hvar, hd, _, _⟩, _⟩ := h
  obtain rfl := Option.some.inj (gFeat.symm.trans hg)
  obtain rfl := Option.some.inj (gFeatType.symm.trans ht)
  unfold FeatTab
  rw [hvar]
  congr 1
  obtain ⟨l⟩ := cs
  cases fuel with
  | zero => simp [DataW.trod] at hd
  | succ fuel =>
    simp only [DataW.trod, Tryz.underlying156, cells156, cells9] at hd
    split at hd
    · rename_i hl
      obtain ⟨c0, c1, c2, c3, c4, rfl⟩ : ∃ c0 c1 c2 c3 c4, l = [c0, c1, c2, c3, c4] := by
        match l, hl with
        | [a, b, c, d, e], _ => exact ⟨a, b, c, d, e, rfl⟩
      have e : List.range 5 = [0, 1, 2, 3, 4] := rfl
      rw [e] at hd
      simp only [Option.map_eq_some_iff, List.mapM_cons, List.mapM_nil, Option.bind_eq_bind, Option.bind_eq_some_iff, Option.pure_def, Option.some.injEq] at hd
      obtain ⟨xs, ⟨y0, h0, _, ⟨y1, h1, _, ⟨y2, h2, _, ⟨y3, h3, _, ⟨y4, h4, _, rfl, rfl⟩, rfl⟩, rfl⟩, rfl⟩, rfl⟩, hx⟩ := hd
      obtain ⟨s0, e0, rfl, _⟩ := DataW.trod_string Tryz.underlying9 h0
      obtain ⟨s1, e1, rfl, _⟩ := DataW.trod_string Tryz.underlying9 h1
      obtain ⟨s2, e2, rfl, _⟩ := DataW.trod_string Tryz.underlying9 h2
      obtain ⟨s3, e3, rfl, _⟩ := DataW.trod_string Tryz.underlying9 h3
      obtain ⟨s4, e4, rfl, _⟩ := DataW.trod_string Tryz.underlying9 h4
      simp at e0 e1 e2 e3 e4
      subst e0 e1 e2 e3 e4
      have hy := congrArg Prod.fst hx
      simp [Rows.laid_loop_example_g02080_impl_featureSounds] at hy
      obtain ⟨h0, h1, h2, h3, h4⟩ := hy
      have str : ∀ {s : ByteArray} {l : List UInt8}, s.data.toList = l → s = ⟨l.toArray⟩ := by
        rintro ⟨⟨x⟩⟩ l rfl
        rfl
      rw [str h0, str h1, str h2, str h3, str h4]
      rfl
    · cases hd
theorem feat_cell {W : World} (h : FeatTab W) (k : Nat) (hk : k < 5) : W.cell? ⟨0, k, none⟩ = some (.string ⟨(featL k).toArray⟩) := by
  rw [World.var?_cell gFeat h k]
  match k, hk with
  | 0, _ => rfl | 1, _ => rfl | 2, _ => rfl | 3, _ => rfl | 4, _ => rfl
theorem feat_pos {W : World} (h : FeatTab W) : 0 < W.heap.size := Nat.lt_of_le_of_lt (Nat.zero_le _) (block_lt_of_cell (feat_cell h 0 (by decide)))
theorem feat_lt {W : World} (h : FeatTab W) : 0 < W.heap.size := block_lt_of_cell (feat_cell h 0 (by decide))
theorem feat_below {W W' : World} (h : FeatTab W) (hb : Below W.heap.size W W') : FeatTab W' := var?_below hb gFeat (feat_lt h) h
theorem feat_reads {H : Type} (enc : TypeId × Value → H) (W : World) (sp : Nat → Bool) (n : Nat) :
    DataW.trod enc Tryz.prog W 0 sp true (n + 2) 156 featCells.toList = some (Rows.laid_loop_example_g02080_impl_featureSounds, []) := by kernel_rfl
theorem feat_reads1 {H : Type} (enc : TypeId × Value → H) (W : World) (sp : Nat → Bool) : DataW.trod enc Tryz.prog W 0 sp true 1 156 featCells.toList = none := by kernel_rfl
/-- What a row reads of the table, it reads behind a call that keeps it. -/
theorem feat_vars {H : Type} {enc : TypeId × Value → H} {W : World} {sp : Nat → Bool} {gs : List (DataW H)} {ps : List MemPlace} (hF : FeatTab W)
    (hV : DataW.TrodVars enc Tryz.prog W sp ["loop.example/g02080/impl.featureSounds"] gs ps) :
    gs = [Rows.laid_loop_example_g02080_impl_featureSounds] ∧ ∀ W' sp', FeatTab W' → DataW.TrodVars enc Tryz.prog W' sp' ["loop.example/g02080/impl.featureSounds"] [Rows.laid_loop_example_g02080_impl_featureSounds] ps := by
  obtain ⟨g, t, cs, fuel, d, p, rfl, hg, ht, hvar, hd, rfl⟩ := trodVars_one hV
  obtain rfl := Option.some.inj (gFeat.symm.trans hg)
  obtain rfl := Option.some.inj (gFeatType.symm.trans ht)
  obtain rfl := Option.some.inj ((show W.var? Tryz.prog _ = some featCells from hF).symm.trans hvar)
  obtain ⟨n, rfl⟩ : ∃ n, fuel = n + 2 := by
    match fuel, hd with
    | 0, hd => simp [DataW.trod] at hd
    | 1, hd => rw [feat_reads1] at hd; cases hd
    | n + 2, _ => exact ⟨n, rfl⟩
  rw [feat_reads] at hd
  obtain ⟨rfl, rfl⟩ := Prod.mk.inj (Option.some.inj hd)
  exact ⟨rfl, fun W' sp' h' => trodVars_mk1 gFeat gFeatType h' (feat_reads enc W' sp' n)⟩
end Go.Proofs.YtkaihnlknncfdaaGreatDoor

/- The model's and the program's HasFeature: what they answer. -/
namespace Go.Proofs.YtkaihnlknncfdaaGreatDoor
set_option maxRecDepth 100000
open Go.RowKit

theorem isFeature_any (f : Int) (w : World) :
    Calls Tryz.prog 191 #[.int .i64 f] w fun e w' => e = .returned (.bool (decide (0 ≤ f) && decide (f < 5))) ∧ w = w' := by
  go_enter Tryz.func191, Tryz.ntmps191
  go_wp2
  all_goals
    go_ret
    refine ⟨ret_bool ?_, rfl⟩
    simp_all <;> omega
theorem implHas_in (x : Int) (k : Nat) (hk : k < 5) (w : World) (h0 : 0 ≤ x) (h1 : x < 256) (hT : FeatTab w) :
    Calls Tryz.prog 182 #[.int .u8 x, .int .i64 k] w fun e w' => e = .returned (.bool (hasF x k)) ∧ w = w' := by
  have H := Lib.hid (feat_index x k h0 h1 hk)
  have hc := feat_cell hT k hk
  have hb : (decide (0 ≤ (k : Int)) && decide ((k : Int) < 5)) = true := by simp; omega
  clear h0 h1 hT
  go_enter Tryz.func182, Tryz.ntmps182
  go_wp2_with fail
  refine (isFeature_any _ _).mono ?_
  rintro e w1 ⟨rfl, rfl⟩
  go_wp2_with fail
  refine (idxByte _ _ _).mono ?_
  rintro e w1 ⟨rfl, rfl⟩
  go_wp2
  go_ret
  exact ⟨ret_bool H.out, rfl⟩
theorem implHas_out (x f : Int) (w : World) (h : f < 0 ∨ 4 < f) :
    Calls Tryz.prog 182 #[.int .u8 x, .int .i64 f] w fun e w' => e = .returned (.bool (hasF x f)) ∧ w = w' := by
  have H := Lib.hid (hasF_no x f h)
  have hb : (decide (0 ≤ f) && decide (f < 5)) = false := by simp; omega
  clear h
  go_enter Tryz.func182, Tryz.ntmps182
  go_wp2_with fail
  refine (isFeature_any _ _).mono ?_
  rintro e w1 ⟨rfl, rfl⟩
  go_wp2
  go_ret
  exact ⟨ret_bool H.out.symm, rfl⟩
theorem implHas_any (x f : Int) (w : World) (h0 : 0 ≤ x) (h1 : x < 256) (hT : FeatTab w) :
    Calls Tryz.prog 182 #[.int .u8 x, .int .i64 f] w fun e w' => e = .returned (.bool (hasF x f)) ∧ w = w' := by
  by_cases h : 0 ≤ f ∧ f < 5
  · obtain ⟨k, rfl⟩ := Int.eq_ofNat_of_zero_le h.1
    exact implHas_in x k (by omega) w h0 h1 hT
  · exact implHas_out x f w (by omega)
end Go.Proofs.YtkaihnlknncfdaaGreatDoor
