/- Merged: N1 App Mc1 Mc2 Mv10 Ta11 Ra Rb Mr11. -/
import Derived.Test.YtkaihnlknncfdaaGreatDoorQ3
import Derived.Test.YtkaihnlknncfdaaGreatDoorQ1
import Derived.Test.YtkaihnlknncfdaaGreatDoorQ2
import Derived.Test.YtkaihnlknncfdaaGreatDoorRows
import Derived.Laws.AppendOwnNone
import Derived.Laws.AppendOwn
import Derived.Laws.OwnMore
/- The model's IsForm: what it answers. -/
namespace Go.Proofs.YtkaihnlknncfdaaGreatDoor
set_option maxRecDepth 100000
open Go.RowKit M

theorem specFm_any (s : ByteArray) (w : World) (hs : s.size ≤ maxLen) :
    Calls Tryz.prog 85 #[.string s] w fun e w' => e = .returned (.bool (isFm s)) ∧ w = w' := by
  have HM := Lib.hid hs
  clear hs
  go_enter Tryz.func85, Tryz.ntmps85
  go_wp2_with fail
  refine (specL2_any _ _ HM.out).mono ?_
  rintro e w2 ⟨rfl, rfl⟩
  go_wp2
  all_goals
    go_ret
    exact ⟨ret_bool (by unfold isFm; simp_all), rfl⟩
end Go.Proofs.YtkaihnlknncfdaaGreatDoor

/- Appending one byte to a row of bytes that the call made: a law for the walk. -/
namespace Go.Proofs.YtkaihnlknncfdaaGreatDoor
set_option maxRecDepth 100000
open Go.RowKit M
theorem cellsB_append (a b : List UInt8) : cellsB (a ++ b) = cellsB a ++ cellsB b := by simp [cellsB]
theorem cellsB_one (x : Int) (h0 : 0 ≤ x) (h1 : x < 256) : cellsB [byt x] = [.int .u8 x] := by simp [cellsB, byt_toNat x h0 h1]
theorem wpList_append_byte {ops : Array Oper} {rest : List Oper} {o : Oper} {a : Act} {Q : Exit → Act → World → Prop} (w : World) (hgd : o.guard = none) (s x : Operand)
    (ho : o.op = .call { callee := .builtin .append, args := #[s, x], argTypes := #[112, 112] })
    (base : Nat) (v : Value) (n : Nat) (l : List UInt8) (hs : a.eval s = v) (hown : w.ownsRow base 5 1 v n (cellsB l)) (b : Int) (hb0 : 0 ≤ b) (hb1 : b < 256)
    (hx : a.eval x = .slice (some ⟨w.heap.size, 0, none⟩) 1 1) (hn : n ≤ 70368744177664) (hbase : base ≤ w.heap.size)
    (h : ∀ v' w', w'.ownsRow base 5 1 v' (n + 1) (cellsB (l ++ [byt b])) → Below base w w' → wpList Tryz.prog ops Q rest (a.put o.dst v') w') :
    wpList Tryz.prog ops Q (o :: rest) a (w.alloc (.cells #[.int .u8 b] 5)) := by
  obtain ⟨i0, hi, hz0, hz1, hz2⟩ := info_parts Tryz.info5
  refine wpList_append_own (w.alloc (.cells #[.int .u8 b] 5)) hgd s x 112 ho base 5 i0 (.int .u8 0) 1 1 Tryz.underlying112 hi hz0 hz1 hz2 rfl (by decide) v n (cellsB l) hs (hown.alloc _) ⟨w.heap.size, 0, none⟩ 1 1 [.int .u8 b] hx rfl (cell_one_new _ _ _)
    (fun u hu => by simp at hu; subst hu; rfl) (by unfold maxLen; omega) (by omega) (by simp; omega) ?_
  intro v' w' h1 h2 _
  refine h v' w' (by rw [cellsB_append, cellsB_one b hb0 hb1]; exact h1) ?_
  exact ((Below.refl base w).alloc hbase _).grown h2 (by simp; omega) (fun q hq => (hown.lt q hq).1)
theorem cell_two_new (w : World) (x y : Value) (t : TypeId) : ∀ j u, [x, y][j]? = some u → (w.alloc (.cells #[x, y] t)).cell? ((⟨w.heap.size, 0, none⟩ : Addr).add j) = some u := by
  intro j u hj
  have hp : (⟨w.heap.size, 0, none⟩ : Addr).add j = ⟨w.heap.size, j, none⟩ := by unfold Addr.add; split <;> simp_all
  rw [hp, World.cell?_alloc_mark]
  simpa using hj
theorem wpList_append_two {ops : Array Oper} {rest : List Oper} {o : Oper} {a : Act} {Q : Exit → Act → World → Prop} (w : World) (hgd : o.guard = none) (s x : Operand)
    (ho : o.op = .call { callee := .builtin .append, args := #[s, x], argTypes := #[112, 112] })
    (base : Nat) (v : Value) (n : Nat) (l : List UInt8) (hs : a.eval s = v) (hown : w.ownsRow base 5 1 v n (cellsB l)) (b c : Int) (hb0 : 0 ≤ b) (hb1 : b < 256) (hc0 : 0 ≤ c) (hc1 : c < 256)
    (hx : a.eval x = .slice (some ⟨w.heap.size, 0, none⟩) 2 2) (hn : n ≤ 70368744177664) (hbase : base ≤ w.heap.size)
    (h : ∀ v' w', w'.ownsRow base 5 1 v' (n + 2) (cellsB (l ++ [byt b, byt c])) → Below base w w' → wpList Tryz.prog ops Q rest (a.put o.dst v') w') :
    wpList Tryz.prog ops Q (o :: rest) a (w.alloc (.cells #[.int .u8 b, .int .u8 c] 5)) := by
  obtain ⟨i0, hi, hz0, hz1, hz2⟩ := info_parts Tryz.info5
  refine wpList_append_own (w.alloc (.cells #[.int .u8 b, .int .u8 c] 5)) hgd s x 112 ho base 5 i0 (.int .u8 0) 1 1 Tryz.underlying112 hi hz0 hz1 hz2 rfl (by decide) v n (cellsB l) hs (hown.alloc _) ⟨w.heap.size, 0, none⟩ 2 2 [.int .u8 b, .int .u8 c] hx rfl (cell_two_new _ _ _ _)
    (fun u hu => by simp at hu; rcases hu with rfl | rfl <;> rfl) (by unfold maxLen; omega) (by omega) (by simp; omega) ?_
  intro v' w' h1 h2 _
  refine h v' w' (by rw [cellsB_append, show cellsB [byt b, byt c] = [.int .u8 b, .int .u8 c] by simp [cellsB, byt_toNat b hb0 hb1, byt_toNat c hc0 hc1]]; exact h1) ?_
  exact ((Below.refl base w).alloc hbase _).grown h2 (by simp; omega) (fun q hq => (hown.lt q hq).1)
/-- The same as one step of a region that draws its order. -/
theorem step_append_two {ops : Array Oper} {o : Oper} {a : Act} {K : Act → World → Prop} {Q : Exit → Act → World → Prop} {E : Prop} (w : World) (hgd : o.guard = none) (s x : Operand)
    (ho : o.op = .call { callee := .builtin .append, args := #[s, x], argTypes := #[112, 112] })
    (base : Nat) (v : Value) (n : Nat) (l : List UInt8) (hs : a.eval s = v) (hown : w.ownsRow base 5 1 v n (cellsB l)) (b c : Int) (hb0 : 0 ≤ b) (hb1 : b < 256) (hc0 : 0 ≤ c) (hc1 : c < 256)
    (hx : a.eval x = .slice (some ⟨w.heap.size, 0, none⟩) 2 2) (hn : n ≤ 70368744177664) (hbase : base ≤ w.heap.size)
    (h : ∀ v' w', w'.ownsRow base 5 1 v' (n + 2) (cellsB (l ++ [byt b, byt c])) → Below base w w' → K (a.put o.dst v') w') :
    if Region.wanted o (yielded ops a.tmps) = true then Oper.wp Tryz.prog o a (w.alloc (.cells #[.int .u8 b, .int .u8 c] 5)) K Q else E := by
  have hw : Region.wanted o (yielded ops a.tmps) = true := by simp [Region.wanted, hgd]
  rw [if_pos hw]
  obtain ⟨i0, hi, hz0, hz1, hz2⟩ := info_parts Tryz.info5
  refine wp_append_own (w.alloc (.cells #[.int .u8 b, .int .u8 c] 5)) s x 112 ho base 5 i0 (.int .u8 0) 1 1 Tryz.underlying112 hi hz0 hz1 hz2 rfl (by decide) v n (cellsB l) hs (hown.alloc _) ⟨w.heap.size, 0, none⟩ 2 2 [.int .u8 b, .int .u8 c] hx rfl (cell_two_new _ _ _ _)
    (fun u hu => by simp at hu; rcases hu with rfl | rfl <;> rfl) (by unfold maxLen; omega) (by omega) (by simp; omega) ?_
  intro v' w' h1 h2 _
  refine h v' w' (by rw [cellsB_append, show cellsB [byt b, byt c] = [.int .u8 b, .int .u8 c] by simp [cellsB, byt_toNat b hb0 hb1, byt_toNat c hc0 hc1]]; exact h1) ?_
  exact ((Below.refl base w).alloc hbase _).grown h2 (by simp; omega) (fun q hq => (hown.lt q hq).1)
theorem below_of_drew {B : Nat} {w w' : World} (h : Below B w.drew w') : Below B w w' := ⟨h.os, h.tape, h.output, h.size, h.block⟩
/-- The same behind a draw. -/
theorem step_append_two_drew {ops : Array Oper} {o : Oper} {a : Act} {K : Act → World → Prop} {Q : Exit → Act → World → Prop} {E : Prop} (w : World) (hgd : o.guard = none) (s x : Operand)
    (ho : o.op = .call { callee := .builtin .append, args := #[s, x], argTypes := #[112, 112] })
    (base : Nat) (v : Value) (n : Nat) (l : List UInt8) (hown : w.ownsRow base 5 1 v n (cellsB l)) (b c : Int) (hb : 0 ≤ b ∧ b < 256) (hc : 0 ≤ c ∧ c < 256) (hn : n ≤ 70368744177664) (hbase : base ≤ w.heap.size)
    (hs : a.eval s = v) (hx : a.eval x = .slice (some ⟨w.heap.size, 0, none⟩) 2 2)
    (h : ∀ v' w', w'.ownsRow base 5 1 v' (n + 2) (cellsB (l ++ [byt b, byt c])) → Below base w w' → K (a.put o.dst v') w') :
    if Region.wanted o (yielded ops a.tmps) = true then Oper.wp Tryz.prog o a ((w.alloc (.cells #[.int .u8 b, .int .u8 c] 5)).drew) K Q else E :=
  step_append_two w.drew hgd s x ho base v n l hs hown.drew b c hb.1 hb.2 hc.1 hc.2 hx hn hbase fun v' w' h1 h2 => h v' w' h1 (below_of_drew h2)
/-- 'wpList_append_byte', and a text's iterator stands as it stood. -/
theorem wpList_append_byte_it {ops : Array Oper} {rest : List Oper} {o : Oper} {a : Act} {Q : Exit → Act → World → Prop} (w : World) (hgd : o.guard = none) (s x : Operand)
    (ho : o.op = .call { callee := .builtin .append, args := #[s, x], argTypes := #[112, 112] })
    (base : Nat) (v : Value) (n : Nat) (l : List UInt8) (hs : a.eval s = v) (hown : w.ownsRow base 5 1 v n (cellsB l)) (b : Int) (hb0 : 0 ≤ b) (hb1 : b < 256)
    (hx : a.eval x = .slice (some ⟨w.heap.size, 0, none⟩) 1 1) (hn : n ≤ 70368744177664) (hbase : base ≤ w.heap.size)
    (it : Nat) (txt : ByteArray) (pos : Nat) (hit : w.heap[it]? = some (.stringIter txt pos))
    (h : ∀ v' w', w'.ownsRow base 5 1 v' (n + 1) (cellsB (l ++ [byt b])) → Below base w w' → w'.heap[it]? = some (.stringIter txt pos) → wpList Tryz.prog ops Q rest (a.put o.dst v') w') :
    wpList Tryz.prog ops Q (o :: rest) a (w.alloc (.cells #[.int .u8 b] 5)) := by
  obtain ⟨i0, hi, hz0, hz1, hz2⟩ := info_parts Tryz.info5
  refine wpList_append_own (w.alloc (.cells #[.int .u8 b] 5)) hgd s x 112 ho base 5 i0 (.int .u8 0) 1 1 Tryz.underlying112 hi hz0 hz1 hz2 rfl (by decide) v n (cellsB l) hs (hown.alloc _) ⟨w.heap.size, 0, none⟩ 1 1 [.int .u8 b] hx rfl (cell_one_new _ _ _)
    (fun u hu => by simp at hu; subst hu; rfl) (by unfold maxLen; omega) (by omega) (by simp; omega) ?_
  intro v' w' h1 h2 _
  have hlt : it < w.heap.size := lt_of_block hit
  have hne : some it ≠ v.ownBlock := by
    rcases hown.2 with ⟨rfl, _⟩ | ⟨g, cap, cur, rfl, _, hg, _⟩
    · simp [Value.ownBlock]
    · intro e
      have : it = g := by simpa [Value.ownBlock] using e
      subst this
      rw [hit] at hg
      cases hg
  refine h v' w' (by rw [cellsB_append, cellsB_one b hb0 hb1]; exact h1) ?_ ?_
  · exact ((Below.refl base w).alloc hbase _).grown h2 (by simp; omega) (fun q hq => (hown.lt q hq).1)
  · rw [h2.block it (by simp; omega) hne, Below.heap_alloc _ _ _ hlt, hit]
/-- 'wpList_append_byte', and every block that is no row of bytes stands as it stood. -/
theorem wpList_append_byte_k {ops : Array Oper} {rest : List Oper} {o : Oper} {a : Act} {Q : Exit → Act → World → Prop} (w : World) (hgd : o.guard = none) (s x : Operand)
    (ho : o.op = .call { callee := .builtin .append, args := #[s, x], argTypes := #[112, 112] })
    (base : Nat) (v : Value) (n : Nat) (l : List UInt8) (hs : a.eval s = v) (hown : w.ownsRow base 5 1 v n (cellsB l)) (b : Int) (hb0 : 0 ≤ b) (hb1 : b < 256)
    (hx : a.eval x = .slice (some ⟨w.heap.size, 0, none⟩) 1 1) (hn : n ≤ 70368744177664) (hbase : base ≤ w.heap.size)
    (h : ∀ v' w', w'.ownsRow base 5 1 v' (n + 1) (cellsB (l ++ [byt b])) → Below base w w' → (∀ (k : Nat) (o : Obj), w.heap[k]? = some o → (∀ c fz, o ≠ .cells c 5 fz) → w'.heap[k]? = some o) → wpList Tryz.prog ops Q rest (a.put o.dst v') w') :
    wpList Tryz.prog ops Q (o :: rest) a (w.alloc (.cells #[.int .u8 b] 5)) := by
  obtain ⟨i0, hi, hz0, hz1, hz2⟩ := info_parts Tryz.info5
  refine wpList_append_own (w.alloc (.cells #[.int .u8 b] 5)) hgd s x 112 ho base 5 i0 (.int .u8 0) 1 1 Tryz.underlying112 hi hz0 hz1 hz2 rfl (by decide) v n (cellsB l) hs (hown.alloc _) ⟨w.heap.size, 0, none⟩ 1 1 [.int .u8 b] hx rfl (cell_one_new _ _ _)
    (fun u hu => by simp at hu; subst hu; rfl) (by unfold maxLen; omega) (by omega) (by simp; omega) ?_
  intro v' w' h1 h2 _
  refine h v' w' (by rw [cellsB_append, cellsB_one b hb0 hb1]; exact h1) ?_ ?_
  · exact ((Below.refl base w).alloc hbase _).grown h2 (by simp; omega) (fun q hq => (hown.lt q hq).1)
  · intro k ob hk hob
    have hlt : k < w.heap.size := lt_of_block hk
    have hne : some k ≠ v.ownBlock := by
      rcases hown.2 with ⟨rfl, _⟩ | ⟨g, cap, cur, rfl, _, hg, _⟩
      · simp [Value.ownBlock]
      · intro e
        have : k = g := by simpa [Value.ownBlock] using e
        subst this
        rw [hk] at hg
        exact hob _ _ (Option.some.inj hg)
    rw [h2.block k (by simp; omega) hne, Below.heap_alloc _ _ _ hlt, hk]
end Go.Proofs.YtkaihnlknncfdaaGreatDoor

/- The model's l6In, l6Out: what they answer. -/
namespace Go.Proofs.YtkaihnlknncfdaaGreatDoor
set_option maxRecDepth 100000
open Go.RowKit M
set_option linter.unusedVariables false
set_option linter.unusedSimpArgs false

theorem own_empty5 (w : World) (o : Obj) : ((w.alloc o).alloc (.cells #[] 5)).ownsRow (w.heap.size + 1) 5 1 (.slice (some ⟨w.heap.size + 1, 0, none⟩) 0 0) 0 (cellsB []) :=
  ⟨rfl, Or.inr ⟨w.heap.size + 1, 0, #[], rfl, Nat.le_refl _, box2 _ _ _, Nat.le_refl _, by unfold maxLen; omega, rfl, rfl⟩⟩
set_option maxHeartbeats 4000000 in
theorem specIn_cd (x : DCandidate) (v : Value) (F : Addr → Prop) (w : World) (hl : x.Links.length ≤ 1048576) (hv : RowRd rLink false w v x.Links F) :
    Calls Tryz.prog 114 #[.agg #[v]] w fun e w' => e = .returned (.string ⟨(inL x.Links).toArray⟩) ∧ Below w.heap.size w w' := by
  obtain ⟨A, cap, rfl⟩ := hv.form
  have HV := Lib.hid hv
  clear hv
  have HX : Hid (∀ k, k < x.Links.length → ∃ y, x.Links[k]? = some y) := fun k hk => ⟨_, List.getElem?_eq_getElem hk⟩
  go_enter Tryz.func114, Tryz.ntmps114
  go_wp2
  go_loopw [3, 4] (fun u i wr => ∃ (k : Nat), k ≤ x.Links.length ∧ i = .int .i64 k ∧ wr.ownsRow (w.heap.size + 1) 5 1 u (inL (x.Links.take k)).length (cellsB (inL (x.Links.take k))) ∧ Below w.heap.size w wr ∧ Hid (w.heap.size + 1 ≤ wr.heap.size) ∧ InC wr w.heap.size #[.slice A x.Links.length cap] 55) (fun _ i _ => x.Links.length - (intOf i).toNat)
  case atStart => exact ⟨0, by omega, rfl, own_empty5 _ _, ((Below.refl _ _).alloc (Nat.le_refl _) _).alloc (by simp) _, by unfold Hid; simp, box1 _ _ _⟩
  case round =>
    obtain ⟨k, hk, rfl, ho, hbe, hs1, hi1⟩ := hrel
    have b1 := hi1.cell 0 rfl
    have HBE := Lib.hid hbe
    have HI1 := Lib.hid hi1
    clear hbe hi1
    by_cases hkl : k < x.Links.length
    · obtain ⟨y, hy⟩ := HX.out k hkl
      obtain ⟨g, off, xs, Fk, rfl, _, hra, _, hca⟩ := (HV.out.kept HBE.out).get hy
      obtain rfl := rLink_rd hra
      rw [rLink_size] at hca
      have c0 := hca 0 _ rfl
      have c1 := hca 1 _ rfl
      simp only [Nat.add_zero] at c0
      have HIY := Lib.hid (fun h => inL_yes hy h)
      have HIN := Lib.hid (fun h => inL_no hy h)
      have hli := inL_len x.Links k
      clear hca hra hy
      have ha := u8_in y.In
      generalize inL (x.Links.take k) = I0 at *
      generalize (y.In.toNat : Int) = a at *
      generalize (y.Out.toNat : Int) = b at *
      have HAB := Lib.hid ha
      have HO := Lib.hid ho
      have HLE : Hid (I0.length ≤ 70368744177664) := by unfold Hid; omega
      clear ha hli ho
      by_cases ha0 : a = 0
      · have HI := Lib.hid (HIN.out ha0)
        subst ha0
        go_wp2
        go_roundw
        case rel => exact ⟨k + 1, by omega, by go_num, by rw [HI.out]; exact HO.out, HBE.out, hs1, HI1.out⟩
        case measure => simp [intOf]; omega
      · have HI := Lib.hid (HIY.out ha0)
        go_wp2_with (at_builtin; refine wpList_append_byte_k _ rfl (.tmp 20) (.tmp 27) rfl (w.heap.size + 1) _ _ _ rfl HO.out a HAB.out.1 HAB.out.2 rfl HLE.out hs1.out ?_; intro v' w1 h1 hb1 hk1; have HO2 := Lib.hid h1; have HB1 := Lib.hid hb1; have HI2 : Hid (InC w1 w.heap.size #[.slice (some ⟨g, off, none⟩) x.Links.length cap] 55) := hk1 _ _ HI1.out (by intro c fz e; cases e); clear h1 hb1 hk1)
        go_roundw
        case rel => exact ⟨k + 1, by omega, by go_num, by rw [HI.out, List.length_append]; exact HO2.out, HBE.out.trans (HB1.out.mono (Nat.le_succ _)), Nat.le_trans hs1.out HB1.out.size, HI2.out⟩
        case measure => simp [intOf]; omega
    · obtain rfl : k = x.Links.length := by omega
      rw [List.take_length] at ho
      have hcv := conv_own ho
      clear ho
      go_wp2
      go_ret
      exact ⟨rfl, HBE.out⟩
set_option maxHeartbeats 4000000 in
theorem specOut_cd (x : DCandidate) (v : Value) (F : Addr → Prop) (w : World) (hl : x.Links.length ≤ 1048576) (hv : RowRd rLink false w v x.Links F) :
    Calls Tryz.prog 105 #[.agg #[v]] w fun e w' => e = .returned (.string ⟨(outL x.Links).toArray⟩) ∧ Below w.heap.size w w' := by
  obtain ⟨A, cap, rfl⟩ := hv.form
  have HV := Lib.hid hv
  clear hv
  have HX : Hid (∀ k, k < x.Links.length → ∃ y, x.Links[k]? = some y) := fun k hk => ⟨_, List.getElem?_eq_getElem hk⟩
  go_enter Tryz.func105, Tryz.ntmps105
  go_wp2
  go_loopw [3, 4] (fun u i wr => ∃ (k : Nat), k ≤ x.Links.length ∧ i = .int .i64 k ∧ wr.ownsRow (w.heap.size + 1) 5 1 u (outL (x.Links.take k)).length (cellsB (outL (x.Links.take k))) ∧ Below w.heap.size w wr ∧ Hid (w.heap.size + 1 ≤ wr.heap.size) ∧ InC wr w.heap.size #[.slice A x.Links.length cap] 55) (fun _ i _ => x.Links.length - (intOf i).toNat)
  case atStart => exact ⟨0, by omega, rfl, own_empty5 _ _, ((Below.refl _ _).alloc (Nat.le_refl _) _).alloc (by simp) _, by unfold Hid; simp, box1 _ _ _⟩
  case round =>
    obtain ⟨k, hk, rfl, ho, hbe, hs1, hi1⟩ := hrel
    have b1 := hi1.cell 0 rfl
    have HBE := Lib.hid hbe
    have HI1 := Lib.hid hi1
    clear hbe hi1
    by_cases hkl : k < x.Links.length
    · obtain ⟨y, hy⟩ := HX.out k hkl
      obtain ⟨g, off, xs, Fk, rfl, _, hra, _, hca⟩ := (HV.out.kept HBE.out).get hy
      obtain rfl := rLink_rd hra
      rw [rLink_size] at hca
      have c0 := hca 0 _ rfl
      have c1 := hca 1 _ rfl
      simp only [Nat.add_zero] at c0
      have HIY := Lib.hid (fun h => outL_yes hy h)
      have HIN := Lib.hid (fun h => outL_no hy h)
      have hli := outL_len x.Links k
      clear hca hra hy
      have ha := u8_in y.Out
      generalize outL (x.Links.take k) = I0 at *
      generalize (y.In.toNat : Int) = b at *
      generalize (y.Out.toNat : Int) = a at *
      have HAB := Lib.hid ha
      have HO := Lib.hid ho
      have HLE : Hid (I0.length ≤ 70368744177664) := by unfold Hid; omega
      clear ha hli ho
      by_cases ha0 : a = 0
      · have HI := Lib.hid (HIN.out ha0)
        subst ha0
        go_wp2
        go_roundw
        case rel => exact ⟨k + 1, by omega, by go_num, by rw [HI.out]; exact HO.out, HBE.out, hs1, HI1.out⟩
        case measure => simp [intOf]; omega
      · have HI := Lib.hid (HIY.out ha0)
        go_wp2_with (at_builtin; refine wpList_append_byte_k _ rfl (.tmp 20) (.tmp 27) rfl (w.heap.size + 1) _ _ _ rfl HO.out a HAB.out.1 HAB.out.2 rfl HLE.out hs1.out ?_; intro v' w1 h1 hb1 hk1; have HO2 := Lib.hid h1; have HB1 := Lib.hid hb1; have HI2 : Hid (InC w1 w.heap.size #[.slice (some ⟨g, off, none⟩) x.Links.length cap] 55) := hk1 _ _ HI1.out (by intro c fz e; cases e); clear h1 hb1 hk1)
        go_roundw
        case rel => exact ⟨k + 1, by omega, by go_num, by rw [HI.out, List.length_append]; exact HO2.out, HBE.out.trans (HB1.out.mono (Nat.le_succ _)), Nat.le_trans hs1.out HB1.out.size, HI2.out⟩
        case measure => simp [intOf]; omega
    · obtain rfl : k = x.Links.length := by omega
      rw [List.take_length] at ho
      have hcv := conv_own ho
      clear ho
      go_wp2
      go_ret
      exact ⟨rfl, HBE.out⟩
end Go.Proofs.YtkaihnlknncfdaaGreatDoor

/- The model's IsCandidate, InputOf, OutputOf: what they answer. -/
namespace Go.Proofs.YtkaihnlknncfdaaGreatDoor
set_option maxRecDepth 100000
open Go.RowKit M
set_option linter.unusedVariables false
set_option linter.unusedSimpArgs false

set_option maxRecDepth 100000 in
set_option maxHeartbeats 8000000 in
theorem specIsCd_any (x : DCandidate) (v : Value) (F : Addr → Prop) (w : World) (hl : x.Links.length ≤ 1048576) (hv : RowRd rLink false w v x.Links F) :
    Calls Tryz.prog 76 #[.agg #[v]] w fun e w' => e = .returned (.bool (isCd x.Links)) ∧ Below w.heap.size w w' := by
  obtain ⟨A, cap, rfl⟩ := hv.form
  have HV := Lib.hid hv
  clear hv
  have HX : Hid (∀ k, k < x.Links.length → ∃ y, x.Links[k]? = some y) := fun k hk => ⟨_, List.getElem?_eq_getElem hk⟩
  have HNOT : Hid (∀ k (y : DLink), x.Links[k]? = some y → okI (y.In.toNat : Int) (y.Out.toNat : Int) = false → isCd x.Links = false) := fun k y h1 h2 => isCd_not h1 h2
  go_enter Tryz.func76, Tryz.ntmps76
  go_wp2
  go_loopw [3] (fun i wr => ∃ (k : Nat), k ≤ x.Links.length ∧ i = .int .i64 k ∧ Hid (∀ j (y : DLink), x.Links[j]? = some y → j < k → okI (y.In.toNat : Int) (y.Out.toNat : Int) = true) ∧ Below w.heap.size w wr ∧ InC wr w.heap.size #[.slice A x.Links.length cap] 55) (fun i _ => x.Links.length - (intOf i).toNat)
  case atStart => exact ⟨0, by omega, rfl, fun j y _ h => by omega, (Below.refl _ _).alloc (Nat.le_refl _) _, heap_alloc_new _ _⟩
  case round =>
    obtain ⟨k, hk, rfl, hall, hbe, hi1⟩ := hrel
    have b1 := hi1.cell 0 rfl
    have HBE := Lib.hid hbe
    have HI1 := Lib.hid hi1
    clear hbe hi1
    by_cases hkl : k < x.Links.length
    · obtain ⟨y, hy⟩ := HX.out k hkl
      obtain ⟨g, off, xs, Fk, rfl, _, hra, _, hca⟩ := (HV.out.kept HBE.out).get hy
      obtain rfl := rLink_rd hra
      rw [rLink_size] at hca
      have c0 := hca 0 _ rfl
      have c1 := hca 1 _ rfl
      simp only [Nat.add_zero] at c0
      have HY := Lib.hid hy
      clear hca hra hy
      have HOK : Hid (okI (y.In.toNat : Int) (y.Out.toNat : Int) = true → ∀ j (z : DLink), x.Links[j]? = some z → j < k + 1 → okI (z.In.toNat : Int) (z.Out.toNat : Int) = true) := fun h j z hz hj => by
        by_cases hjk : j = k
        · subst hjk; rw [HY.out] at hz; cases hz; exact h
        · exact hall.out j z hz (by omega)
      have HNO := Lib.hid (HNOT.out k y HY.out)
      have ha := u8_in y.In
      have hb := u8_in y.Out
      generalize (y.In.toNat : Int) = a at *
      generalize (y.Out.toNat : Int) = b at *
      have HAB := Lib.hid (And.intro ha hb)
      have HM : Hid (okM a b = okI a b) := okM_eq a b
      have HB2 : Hid (Below w.heap.size w (wr.alloc (.cells #[.int .u8 a, .int .u8 b] 118))) := HBE.out.alloc HBE.out.size _
      have HI2 : Hid (InC (wr.alloc (.cells #[.int .u8 a, .int .u8 b] 118)) w.heap.size #[.slice (some ⟨g, off, none⟩) x.Links.length cap] 55) := HI1.out.kept ((Below.refl _ _).alloc (Nat.le_refl _) _)
      clear ha hb HY
      go_wp2_with fail
      refine (specSwap_any a _).mono ?_
      rintro e w2 ⟨rfl, rfl⟩
      have HSA : Hid (∀ W, Calls Tryz.prog 113 #[.int .u8 a] W fun e w' => e = .returned (.bool (isSnd a)) ∧ W = w') := fun W => specIsSound_any a W
      have HSB : Hid (∀ W, Calls Tryz.prog 113 #[.int .u8 b] W fun e w' => e = .returned (.bool (isSnd b)) ∧ W = w') := fun W => specIsSound_any b W
      have b2 := HI2.out.cell 0 rfl
      have HM2 : Hid (okI a b = (!((!decide (a = 0) && !isSnd a) || (!decide (b = 0) && !isSnd b) || (decide (a = 0) && decide (b = 0))) && !(!decide (a = 0) && !decide (b = 0) && !decide (a = b) && !(isObs a && decide (swapV a = b))))) := HM.out.symm
      generalize isSnd a = sa at *
      generalize isSnd b = sb at *
      generalize swapV a = s at *
      generalize isObs a = oa at *
      by_cases ha0 : a = 0
      · subst ha0
        by_cases hb0 : b = 0
        · subst hb0
          have HR := Lib.hid (HNO.out (by rw [HM2.out]; simp))
          go_wp2_with fail
          go_ret
          exact ⟨ret_bool HR.out.symm, HB2.out⟩
        · cases sb
          · have HR := Lib.hid (HNO.out (by rw [HM2.out]; simp [hb0]))
            go_wp2_with fail
            refine (HSB.out _).mono ?_
            rintro e w2 ⟨rfl, rfl⟩
            go_wp2_with fail
            go_ret
            exact ⟨ret_bool HR.out.symm, HB2.out⟩
          · have HALL := Lib.hid (HOK.out (by rw [HM2.out]; simp [hb0]))
            go_wp2_with fail
            refine (HSB.out _).mono ?_
            rintro e w2 ⟨rfl, rfl⟩
            go_wp2_with fail
            go_roundw
            case rel => exact ⟨k + 1, by omega, by go_num, HALL, HB2.out, HI2.out⟩
            case measure => simp [intOf]; omega
      · cases sa
        · have HR := Lib.hid (HNO.out (by rw [HM2.out]; simp [ha0]))
          go_wp2_with fail
          refine (HSA.out _).mono ?_
          rintro e w2 ⟨rfl, rfl⟩
          go_wp2_with fail
          go_ret
          exact ⟨ret_bool HR.out.symm, HB2.out⟩
        · by_cases hb0 : b = 0
          · subst hb0
            have HALL := Lib.hid (HOK.out (by rw [HM2.out]; simp [ha0]))
            go_wp2_with fail
            refine (HSA.out _).mono ?_
            rintro e w2 ⟨rfl, rfl⟩
            go_wp2_with fail
            go_roundw
            case rel => exact ⟨k + 1, by omega, by go_num, HALL, HB2.out, HI2.out⟩
            case measure => simp [intOf]; omega
          · cases sb
            · have HR := Lib.hid (HNO.out (by rw [HM2.out]; simp [ha0, hb0]))
              go_wp2_with fail
              refine (HSA.out _).mono ?_
              rintro e w2 ⟨rfl, rfl⟩
              go_wp2_with fail
              refine (HSB.out _).mono ?_
              rintro e w2 ⟨rfl, rfl⟩
              go_wp2_with fail
              go_ret
              exact ⟨ret_bool HR.out.symm, HB2.out⟩
            · go_wp2_with fail
              refine (HSA.out _).mono ?_
              rintro e w2 ⟨rfl, rfl⟩
              go_wp2_with fail
              refine (HSB.out _).mono ?_
              rintro e w2 ⟨rfl, rfl⟩
              by_cases hab : a = b
              · subst hab
                have HALL := Lib.hid (HOK.out (by rw [HM2.out]; simp [ha0]))
                go_wp2_with fail
                go_roundw
                case rel => exact ⟨k + 1, by omega, by go_num, HALL, HB2.out, HI2.out⟩
                case measure => simp [intOf]; omega
              · have q1 : (a != 0) = true := by simpa using ha0
                have q2 : (b != 0) = true := by simpa using hb0
                have q3 : (a != b) = true := by simpa using hab
                cases oa
                · have HR := Lib.hid (HNO.out (by rw [HM2.out]; simp [ha0, hb0, hab]))
                  go_wp2_with fail
                  go_ret
                  exact ⟨ret_bool HR.out.symm, HB2.out⟩
                · by_cases hsb : s = b
                  · subst hsb
                    have HALL := Lib.hid (HOK.out (by rw [HM2.out]; simp [ha0, hb0, hab]))
                    go_wp2_with fail
                    go_roundw
                    case rel => exact ⟨k + 1, by omega, by go_num, HALL, HB2.out, HI2.out⟩
                    case measure => simp [intOf]; omega
                  · have HR := Lib.hid (HNO.out (by rw [HM2.out]; simp [ha0, hb0, hab, hsb]))
                    have q4 : (s == b) = false := by simpa using hsb
                    go_wp2_with fail
                    go_ret
                    exact ⟨ret_bool HR.out.symm, HB2.out⟩
    · obtain rfl : k = x.Links.length := by omega
      have HI : Hid (isCd x.Links = (decide ((x.Links.length : Int) ≤ 16) && (isFm ⟨(inL x.Links).toArray⟩ && isFm ⟨(outL x.Links).toArray⟩))) := by
        unfold Hid isCd
        rw [all_ok (fun j y h1 h2 => hall.out j y h1 h2), Bool.true_and]
      by_cases h16 : (x.Links.length : Int) ≤ 16
      · have hli := inL_len_all x.Links
        have hlo := outL_len_all x.Links
        have HLI : Hid ((⟨(inL x.Links).toArray⟩ : ByteArray).size ≤ maxLen) := by unfold Hid maxLen; simp [ByteArray.size]; omega
        have HLO : Hid ((⟨(outL x.Links).toArray⟩ : ByteArray).size ≤ maxLen) := by unfold Hid maxLen; simp [ByteArray.size]; omega
        have HS1 : Hid (∀ W, Below w.heap.size w W → Calls Tryz.prog 114 #[.agg #[.slice A x.Links.length cap]] W fun e w' => e = .returned (.string ⟨(inL x.Links).toArray⟩) ∧ Below W.heap.size W w') := fun W hW => specIn_cd x _ F W hl (HV.out.kept hW)
        have HS2 : Hid (∀ W, Below w.heap.size w W → Calls Tryz.prog 105 #[.agg #[.slice A x.Links.length cap]] W fun e w' => e = .returned (.string ⟨(outL x.Links).toArray⟩) ∧ Below W.heap.size W w') := fun W hW => specOut_cd x _ F W hl (HV.out.kept hW)
        have HI' : Hid (isCd x.Links = (isFm ⟨(inL x.Links).toArray⟩ && isFm ⟨(outL x.Links).toArray⟩)) := by unfold Hid; rw [HI.out, decide_eq_true h16, Bool.true_and]
        go_wp2_with fail
        refine (HS1.out _ HBE.out).mono ?_
        rintro e w2 ⟨rfl, hb2⟩
        have b2 := (HI1.out.kept hb2).cell 0 rfl
        have HB2 : Hid (Below w.heap.size w w2) := below_step HBE.out hb2
        clear hb2
        go_wp2_with fail
        refine (specFm_any ⟨(inL x.Links).toArray⟩ _ HLI.out).mono ?_
        rintro e w3 ⟨rfl, rfl⟩
        generalize isFm ⟨(inL x.Links).toArray⟩ = fi at *
        cases fi
        · go_wp2_with fail
          go_ret
          exact ⟨ret_bool (by rw [HI'.out] <;> simp), HB2.out⟩
        · go_wp2_with fail
          refine (HS2.out _ HB2.out).mono ?_
          rintro e w3 ⟨rfl, hb3⟩
          have HB3 : Hid (Below w.heap.size w w3) := below_step HB2.out hb3
          clear hb3
          go_wp2_with fail
          refine (specFm_any ⟨(outL x.Links).toArray⟩ _ HLO.out).mono ?_
          rintro e w4 ⟨rfl, rfl⟩
          go_wp2_with fail
          go_ret
          exact ⟨ret_bool (by rw [HI'.out] <;> simp), HB3.out⟩
      · have HR : Hid (isCd x.Links = false) := by unfold Hid; rw [HI.out, decide_eq_false h16, Bool.false_and]
        go_wp2_with fail
        go_ret
        exact ⟨ret_bool (by rw [HR.out] <;> simp [h16]), HBE.out⟩
def inS (l : List DLink) : List UInt8 := if isCd l then inL l else []
def outS (l : List DLink) : List UInt8 := if isCd l then outL l else []
set_option maxHeartbeats 4000000 in
set_option maxHeartbeats 4000000 in
theorem specOutput_any (x : DCandidate) (v : Value) (F : Addr → Prop) (w : World) (hl : x.Links.length ≤ 1048576) (hv : RowRd rLink false w v x.Links F) :
    Calls Tryz.prog 61 #[.agg #[v]] w fun e w' => e = .returned (.string ⟨(outS x.Links).toArray⟩) ∧ Below w.heap.size w w' := by
  have HS0 : Hid (∀ W, Below w.heap.size w W → Calls Tryz.prog 76 #[.agg #[v]] W fun e w' => e = .returned (.bool (isCd x.Links)) ∧ Below W.heap.size W w') := fun W hW => specIsCd_any x _ F W hl (hv.kept hW)
  have HS1 : Hid (∀ W, Below w.heap.size w W → Calls Tryz.prog 105 #[.agg #[v]] W fun e w' => e = .returned (.string ⟨(outL x.Links).toArray⟩) ∧ Below W.heap.size W w') := fun W hW => specOut_cd x _ F W hl (hv.kept hW)
  obtain ⟨A, cap, rfl⟩ := hv.form
  clear hv
  have HE : Hid (outS x.Links = if isCd x.Links then outL x.Links else []) := rfl
  generalize isCd x.Links = c at *
  generalize outS x.Links = r at *
  have HA : Hid (∀ o, Below w.heap.size w (w.alloc o)) := fun o => (Below.refl _ _).alloc (Nat.le_refl _) _
  have HA1 : Hid (InC (w.alloc (.cells #[.slice A x.Links.length cap] 55)) w.heap.size #[.slice A x.Links.length cap] 55) := heap_alloc_new _ _
  go_enter Tryz.func61, Tryz.ntmps61
  go_wp2_with fail
  refine (HS0.out _ (HA.out _)).mono ?_
  rintro e w2 ⟨rfl, hb⟩
  have b1 := (HA1.out.kept hb).cell 0 rfl
  have HB : Hid (Below w.heap.size w w2) := below_step (HA.out _) hb
  clear hb
  cases c
  · go_wp2_with fail
    go_ret
    exact ⟨ret_str (by rw [HE.out] <;> rfl), HB.out⟩
  · go_wp2_with fail
    refine (HS1.out _ HB.out).mono ?_
    rintro e w3 ⟨rfl, hb⟩
    have HB3 : Hid (Below w.heap.size w w3) := below_step HB.out hb
    clear hb
    go_wp2_with fail
    go_ret
    exact ⟨ret_str (by rw [HE.out] <;> rfl), HB3.out⟩
end Go.Proofs.YtkaihnlknncfdaaGreatDoor

/- What a name of a constraint counts: plain mathematics. -/
namespace Go.Proofs.YtkaihnlknncfdaaGreatDoor
set_option maxRecDepth 100000
open Go.RowKit M
set_option linter.unusedVariables false
set_option linter.unusedSimpArgs false

/-- The place of a name among the ten; ten where it is none. -/
def nix (x : ByteArray) : Nat := namesB.findIdx fun y => decide (y = x)
theorem nix_le (x : ByteArray) : nix x ≤ 10 := List.findIdx_le_length
theorem nix_at {x : ByteArray} (h : nix x < 10) : namesB[nix x]? = some x := by
  have h1 : nix x < namesB.length := h
  have := List.findIdx_getElem (w := h1)
  rw [List.getElem?_eq_getElem h1]
  have h2 : namesB[List.findIdx (fun y => decide (y = x)) namesB] = x := by simpa using this
  exact congrArg some h2
theorem nix_self : ∀ i, i < 10 → nix (namesB.getD i ByteArray.empty) = i := by decide +kernel
theorem nix_of {x : ByteArray} {i : Nat} (h : namesB[i]? = some x) : nix x = i := by
  have hi : i < 10 := (List.getElem?_eq_some_iff.1 h).1
  have h2 := nix_self i hi
  rw [List.getD_eq_getElem?_getD, h] at h2
  exact h2
theorem hasB_nix (x : ByteArray) : hasB namesB x = decide (nix x < 10) := by
  cases hh : hasB namesB x with
  | true =>
    unfold hasB at hh
    rw [List.any_eq_true] at hh
    obtain ⟨y, hy, he⟩ := hh
    obtain rfl : y = x := by simpa using he
    obtain ⟨k, hk, rfl⟩ := List.getElem_of_mem hy
    rw [nix_of (List.getElem?_eq_getElem hk)]
    exact (decide_eq_true hk).symm
  | false =>
    rw [eq_comm, decide_eq_false_iff_not]
    intro h
    rw [hasB_yes (nix_at h)] at hh
    cases hh
/-- The test that a text is this name. -/
theorem nix_test (x y : ByteArray) (i : Nat) (h : namesB[i]? = some y) : (x.toList == y.toList) = decide (nix x = i) := by
  by_cases e : x = y
  · subst e
    rw [nix_of h]
    simp
  · have h1 : ¬ nix x = i := fun hn => by
      have hi : i < 10 := (List.getElem?_eq_some_iff.1 h).1
      have h2 := nix_at (x := x) (by omega)
      rw [hn, h] at h2
      exact e (Option.some.inj h2).symm
    have h2 : ¬ x.toList = y.toList := fun ht => e (by rw [Lib.toList_data, Lib.toList_data] at ht; exact ByteArray.ext (Array.toList_inj.1 ht))
    rw [decide_eq_false h1, beq_eq_false_iff_ne.2 h2]
def outT (l : List DLink) : ByteArray := ⟨(outS l).toArray⟩
theorem outT_size (l : List DLink) : (outT l).size ≤ l.length := by
  show (outS l).toArray.size ≤ _
  rw [List.size_toArray]
  unfold outS
  split
  · exact outL_len_all l
  · simp
/-- The j-th count. -/
def cntN (j : Nat) (l : List DLink) : Int := match j with
  | 0 => (mkC nconsB vowB (outT l) : Nat)
  | 1 => (mkC consB nvowB (outT l) : Nat)
  | 2 => (mkC consB consB (outT l) : Nat)
  | 3 => (mkC anyB vobB (outT l) : Nat)
  | 4 => (mkC vobB edgB (outT l) : Nat)
  | 5 => (mkC nasB vlsB (outT l) : Nat)
  | 6 => (cntC delK l : Nat)
  | 7 => (cntC insK l : Nat)
  | 8 => (cntC vchK l : Nat)
  | 9 => (brkC l : Nat)
  | _ => -1
theorem cntN_none (l : List DLink) {j : Nat} (h : 10 ≤ j) : cntN j l = -1 := by
  obtain ⟨k, rfl⟩ : ∃ k, j = k + 10 := ⟨j - 10, by omega⟩
  rfl
/-- How often a candidate violates a constraint; -1 if there is none of this name or the candidate is not valid. -/
def vioN (x : ByteArray) (l : List DLink) : Int := if isCd l then cntN (nix x) l else -1
theorem vioN_no {x : ByteArray} {l : List DLink} (h : isCd l = false) : vioN x l = -1 := by unfold vioN; rw [h]; rfl
theorem vioN_yes {x : ByteArray} {l : List DLink} (h : isCd l = true) : vioN x l = cntN (nix x) l := by unfold vioN; rw [if_pos h]
theorem vioN_at {x : ByteArray} {l : List DLink} {j : Nat} (h : isCd l = true) (hj : nix x = j) : vioN x l = cntN j l := by rw [vioN_yes h, hj]
/-- The first k of the counts of these names. -/
def profTo (ns : List ByteArray) (l : List DLink) (k : Nat) : List Int := (ns.take k).map fun x => vioN x l
def profN (ns : List ByteArray) (l : List DLink) : List Int := if areC ns && isCd l then profTo ns l ns.length else []
theorem profTo_len {ns : List ByteArray} {l : List DLink} {k : Nat} (h : k ≤ ns.length) : (profTo ns l k).length = k := by unfold profTo; rw [List.length_map, List.length_take]; omega
theorem profTo_step {ns : List ByteArray} {l : List DLink} {k : Nat} {x : ByteArray} (h : ns[k]? = some x) : profTo ns l (k + 1) = profTo ns l k ++ [vioN x l] := by
  unfold profTo
  rw [List.take_add_one, h, List.map_append]; rfl
theorem profN_no {ns : List ByteArray} {l : List DLink} (h : areC ns = false ∨ isCd l = false) : profN ns l = [] := by
  unfold profN
  rcases h with h | h <;> rw [h] <;> simp
theorem profN_yes {ns : List ByteArray} {l : List DLink} (h : areC ns = true) (h2 : isCd l = true) : profN ns l = profTo ns l ns.length := by unfold profN; rw [h, h2]; rfl
theorem profN_len (ns : List ByteArray) (l : List DLink) : (profN ns l).length ≤ 5 := by
  unfold profN
  split
  · rename_i h
    rw [Bool.and_eq_true] at h
    have := (areC_len h.1).2
    rw [profTo_len (Nat.le_refl _)]
    omega
  · simp
end Go.Proofs.YtkaihnlknncfdaaGreatDoor

/- Tables: when one is valid: plain mathematics. -/
namespace Go.Proofs.YtkaihnlknncfdaaGreatDoor
set_option maxRecDepth 100000
open Go.RowKit M
set_option linter.unusedVariables false
set_option linter.unusedSimpArgs false

def inT (l : List DLink) : ByteArray := ⟨(inS l).toArray⟩
/-- A row and its marks are as they should be. -/
def rowOk (ns : List ByteArray) (s : ByteArray) (l : List DLink) (m : List Int) : Bool := isCd l && (decide (inT l = s) && decide (m = profN ns l))
def rowAt (x : DTableau) (i : Nat) : Bool := match x.Rows[i]?, x.Marks[i]? with
  | some c, some m => rowOk x.Names x.Input c.Links m
  | _, _ => false
def headT (x : DTableau) : Bool := areC x.Names && (isFm x.Input && ((decide (1 ≤ (x.Rows.length : Int)) && decide ((x.Rows.length : Int) ≤ 250)) && decide ((x.Marks.length : Int) = (x.Rows.length : Int))))
def isTab (x : DTableau) : Bool := headT x && (List.range x.Rows.length).all (rowAt x)
theorem rowAt_of {x : DTableau} {i : Nat} {c : DCandidate} {m : List Int} (h1 : x.Rows[i]? = some c) (h2 : x.Marks[i]? = some m) : rowAt x i = rowOk x.Names x.Input c.Links m := by
  unfold rowAt; rw [h1, h2]
theorem isTab_head {x : DTableau} (h : headT x = false) : isTab x = false := by unfold isTab; rw [h]; rfl
theorem isTab_bad {x : DTableau} {k : Nat} (hk : k < x.Rows.length) (h : rowAt x k = false) : isTab x = false := by
  unfold isTab
  rw [Bool.and_eq_false_iff]
  right
  rw [← Bool.not_eq_true, List.all_eq_true]
  intro h2
  rw [h2 k (List.mem_range.2 hk)] at h
  cases h
theorem isTab_good {x : DTableau} (h1 : headT x = true) (h2 : ∀ k, k < x.Rows.length → rowAt x k = true) : isTab x = true := by
  unfold isTab
  rw [h1, Bool.true_and, List.all_eq_true]
  intro k hk
  exact h2 k (List.mem_range.1 hk)
theorem isTab_row {x : DTableau} (h : isTab x = true) {k : Nat} (hk : k < x.Rows.length) : rowAt x k = true := by
  unfold isTab at h
  rw [Bool.and_eq_true, List.all_eq_true] at h
  exact h.2 k (List.mem_range.2 hk)
theorem headT_of {x : DTableau} (h : isTab x = true) : headT x = true := by
  unfold isTab at h
  rw [Bool.and_eq_true] at h
  exact h.1
theorem headT_parts {x : DTableau} (h : headT x = true) : areC x.Names = true ∧ isFm x.Input = true ∧ 1 ≤ x.Rows.length ∧ x.Rows.length ≤ 250 ∧ x.Marks.length = x.Rows.length := by
  unfold headT at h
  simp only [Bool.and_eq_true, decide_eq_true_eq] at h
  obtain ⟨h1, h2, ⟨h3, h4⟩, h5⟩ := h
  exact ⟨h1, h2, by omega, by omega, by omega⟩
theorem rowOk_parts {ns : List ByteArray} {s : ByteArray} {l : List DLink} {m : List Int} (h : rowOk ns s l m = true) : isCd l = true ∧ inT l = s ∧ m = profN ns l := by
  unfold rowOk at h
  simp only [Bool.and_eq_true, decide_eq_true_eq] at h
  exact h
/-- The sizes within a table. -/
theorem szTab_parts {x : DTableau} (h : rTableau.sz x ≤ 1048576) : x.Input.size ≤ 1048576 ∧ x.Names.length ≤ 1048576 ∧ x.Rows.length ≤ 1048576 ∧ x.Marks.length ≤ 1048576 ∧ (∀ (k : Nat) (c : DCandidate), x.Rows[k]? = some c → c.Links.length ≤ 1048576) ∧ (∀ (k : Nat) (m : List Int), x.Marks[k]? = some m → m.length ≤ 1048576) := by
  rw [rTableau_sz] at h
  have h1 := szRow_len (Rep.str mkT) x.Names
  have h2 := szRow_len rCandidate x.Rows
  have h3 := szRow_len (Rep.row Rep.int) x.Marks
  refine ⟨by omega, by omega, by omega, by omega, fun k c hk => ?_, fun k m hk => ?_⟩
  · have h4 := szRow_at rCandidate x.Rows k hk
    rw [rCandidate_sz] at h4
    have h5 := szRow_len rLink c.Links
    omega
  · have h4 := szRow_at (Rep.row Rep.int) x.Marks k hk
    have h5 : (Rep.row Rep.int).sz m = szRow Rep.int m := rfl
    rw [h5] at h4
    have h6 := szRow_len Rep.int m
    omega
theorem txt_eq (a b : ByteArray) : (a.toList == b.toList) = decide (a = b) := by
  by_cases h : a = b
  · subst h; simp
  · have h2 : ¬ a.toList = b.toList := fun ht => h (by rw [Lib.toList_data, Lib.toList_data] at ht; exact ByteArray.ext (Array.toList_inj.1 ht))
    rw [decide_eq_false h, beq_eq_false_iff_ne.2 h2]
end Go.Proofs.YtkaihnlknncfdaaGreatDoor

/- Rows of data that a call lays by appending. -/
namespace Go.Proofs.YtkaihnlknncfdaaGreatDoor
set_option maxRecDepth 100000
open Go.RowKit
set_option linter.unusedVariables false

/-- A row of the call's own that holds these data; what they lead to lies within G, not in the row's block. -/
def OwnRd {α : Type} (E : Rep α) (e : TypeId) (s : Bool) (base : Nat) (w : World) (v : Value) (l : List α) (G : Addr → Prop) : Prop :=
  ∃ (cells : List Value) (Fk : Nat → Addr → Prop), w.ownsRow base e E.size v l.length cells ∧ ∀ k x, l[k]? = some x → ∃ ys : List Value, (∀ j u, ys[j]? = some u → cells[k * E.size + j]? = some u) ∧ E.rd s w ys x (Fk k) ∧
    (∀ a, Fk k a → G a ∧ a.block < w.heap.size ∧ v.ownBlock ≠ some a.block) ∧ (s = true → ∀ k', k' < l.length → k' ≠ k → ∀ a, Fk k a → ¬ Fk k' a)
section
variable {α : Type} {E : Rep α} {e : TypeId} {s : Bool} {base : Nat} {w w' : World} {v : Value} {l : List α} {G : Addr → Prop}
theorem OwnRd.row (h : OwnRd E e s base w v l G) (hm : l.length ≤ 9223372036854775807) : RowRd E s w v l (fun a => base ≤ a.block ∨ G a) := by
  obtain ⟨cells, Fk, hown, he⟩ := h
  have hh := hown
  rcases hown.2 with ⟨rfl, h0⟩ | ⟨g, cap, cur, rfl, hb, hg, hcap, _⟩
  · have : l = [] := List.eq_nil_of_length_eq_zero h0
    subst this
    exact RowRd.nil _ _ _
  · refine ⟨some ⟨g, 0, none⟩, cap, Fk, rfl, ⟨hm, (fun h => by cases h), hcap⟩, fun k x hk => ?_⟩
    obtain ⟨ys, h1, h2, h3, h4⟩ := he k x hk
    have hkl : k < l.length := (List.getElem?_eq_some_iff.1 hk).1
    refine ⟨g, 0, ys, rfl, h2, fun a ha => Or.inr (h3 a ha).1, fun j u hj => ?_, fun hs => ⟨fun i _ hf => (h3 _ hf).2.2 (by simp [Value.ownBlock]), h4 hs⟩⟩
    have hjs : j < E.size := by rw [← E.len h2]; exact (List.getElem?_eq_some_iff.1 hj).1
    have hin : k * E.size + j < l.length * E.size := by
      have : (k + 1) * E.size ≤ l.length * E.size := Nat.mul_le_mul_right _ hkl
      rw [Nat.succ_mul] at this
      omega
    rw [Nat.zero_add]
    exact ⟨(hh.cellAt _ hin).trans (h1 j u hj), Or.inl hb, fun _ => hh.frozenAt _⟩
theorem OwnRd.kept (h : OwnRd E e s base w v l G) (hb : Below w.heap.size w w') : OwnRd E e s base w' v l G := by
  obtain ⟨cells, Fk, hown, he⟩ := h
  refine ⟨cells, Fk, ⟨hown.1, ?_⟩, fun k x hk => ?_⟩
  · rcases hown.2 with h2 | ⟨g, cap, cur, hv, hg, hh, r⟩
    · exact Or.inl h2
    · exact Or.inr ⟨g, cap, cur, hv, hg, (hb.block g (Array.getElem?_eq_some_iff.1 hh).1).trans hh, r⟩
  · obtain ⟨ys, h1, h2, h3, h4⟩ := he k x hk
    exact ⟨ys, h1, E.kept h2 hb, fun a ha => ⟨(h3 a ha).1, Nat.lt_of_lt_of_le (h3 a ha).2.1 hb.size, (h3 a ha).2.2⟩, h4⟩
theorem OwnRd.lt (h : OwnRd E e s base w v l G) : ∀ k, v.ownBlock = some k → base ≤ k ∧ k < w.heap.size := by
  obtain ⟨cells, Fk, hown, _⟩ := h
  exact hown.lt
theorem OwnRd.mono {G' : Addr → Prop} (h : OwnRd E e s base w v l G) (hg : ∀ a, G a → G' a) : OwnRd E e s base w v l G' := by
  obtain ⟨cells, Fk, hown, he⟩ := h
  refine ⟨cells, Fk, hown, fun k x hk => ?_⟩
  obtain ⟨ys, h1, h2, h3, h4⟩ := he k x hk
  exact ⟨ys, h1, h2, fun a ha => ⟨hg a (h3 a ha).1, (h3 a ha).2⟩, h4⟩
/-- A new empty row. -/
theorem OwnRd.empty (w : World) (hb : base ≤ w.heap.size) (G : Addr → Prop) : OwnRd E e s base (w.alloc (.cells #[] e)) (.slice (some ⟨w.heap.size, 0, none⟩) 0 0) ([] : List α) G :=
  ⟨[], fun _ _ => False, ⟨by simp, Or.inr ⟨w.heap.size, 0, #[], rfl, hb, heap_alloc_new _ _, Nat.le_refl _, Nat.zero_le _, by simp, by simp⟩⟩, fun k x hk => by simp at hk⟩
theorem OwnRd.nil (w : World) (G : Addr → Prop) : OwnRd E e s base w (.slice none 0 0) ([] : List α) G :=
  ⟨[], fun _ _ => False, ⟨by simp, Or.inl ⟨rfl, rfl⟩⟩, fun k x hk => by simp at hk⟩
/-- One element more. -/
theorem OwnRd.grow (h : OwnRd E e s base w v l G) {v' : Value} {xs : List Value} {x : α} {Fx : Addr → Prop} {cells0 : List Value} (hx : E.rd s w xs x Fx)
    (hFx : ∀ a, Fx a → a.block < w.heap.size ∧ v.ownBlock ≠ some a.block) (hd : s = true → ∀ a, Fx a → ¬ G a)
    (hcells : ∀ cells, w.ownsRow base e E.size v l.length cells → w'.ownsRow base e E.size v' (l.length + 1) (cells ++ xs)) (hsz : w.heap.size ≤ w'.heap.size)
    (hkeep : ∀ k, k < w.heap.size → v.ownBlock ≠ some k → w'.heap[k]? = w.heap[k]? ∧ v'.ownBlock ≠ some k) : OwnRd E e s base w' v' (l ++ [x]) (fun a => G a ∨ Fx a) := by
  obtain ⟨cells, Fk, hown, he⟩ := h
  have hcl : cells.length = l.length * E.size := hown.1
  have hfr : ∀ (F : Addr → Prop), (∀ a, F a → a.block < w.heap.size ∧ v.ownBlock ≠ some a.block) → ∀ a, F a → w'.cell? a = w.cell? a ∧ w'.frozen? a = w.frozen? a := fun F hF a ha =>
    ⟨World.cell?_of_block (w := w) (hkeep _ (hF a ha).1 (hF a ha).2).1, World.frozen?_of_block (w := w) (hkeep _ (hF a ha).1 (hF a ha).2).1⟩
  refine ⟨cells ++ xs, fun k => if k < l.length then Fk k else Fx, by rw [List.length_append, List.length_singleton]; exact hcells cells hown, fun k y hk => ?_⟩
  by_cases hkl : k < l.length
  · rw [List.getElem?_append_left hkl] at hk
    obtain ⟨ys, h1, h2, h3, h4⟩ := he k y hk
    refine ⟨ys, fun j u hj => ?_, ?_, ?_, ?_⟩
    · have := h1 j u hj
      rw [List.getElem?_append_left (List.getElem?_eq_some_iff.1 this).1]; exact this
    · simp only [if_pos hkl]
      exact E.frame h2 (hfr _ fun a ha => (h3 a ha).2)
    · simp only [if_pos hkl]
      exact fun a ha => ⟨Or.inl (h3 a ha).1, Nat.lt_of_lt_of_le (h3 a ha).2.1 hsz, (hkeep _ (h3 a ha).2.1 (h3 a ha).2.2).2⟩
    · intro hs k' hk' hne a ha
      simp only [if_pos hkl] at ha
      by_cases hk2 : k' < l.length
      · simp only [if_pos hk2]; exact h4 hs k' hk2 hne a ha
      · simp only [if_neg hk2]; exact fun hf => hd hs a hf (h3 a ha).1
  · have hk1 : k < (l ++ [x]).length := (List.getElem?_eq_some_iff.1 hk).1
    rw [List.length_append, List.length_singleton] at hk1
    obtain rfl : k = l.length := by omega
    rw [List.getElem?_append_right (Nat.le_refl _), Nat.sub_self] at hk
    simp at hk
    subst hk
    refine ⟨xs, fun j u hj => ?_, ?_, ?_, ?_⟩
    · rw [List.getElem?_append_right (by omega), hcl, show l.length * E.size + j - l.length * E.size = j by omega]; exact hj
    · simp only [if_neg hkl]
      exact E.frame hx (hfr _ hFx)
    · simp only [if_neg hkl]
      exact fun a ha => ⟨Or.inr ha, Nat.lt_of_lt_of_le (hFx a ha).1 hsz, (hkeep _ (hFx a ha).1 (hFx a ha).2).2⟩
    · intro hs k' hk' hne a ha
      simp only [if_neg hkl] at ha
      rw [List.length_append, List.length_singleton] at hk'
      have hk2 : k' < l.length := by omega
      simp only [if_pos hk2]
      obtain ⟨ys, _, _, q3, _⟩ := he k' _ (List.getElem?_eq_getElem hk2)
      exact fun hf => hd hs a ha (q3 a hf).1
end
theorem cells_new (w : World) (xs : List Value) (t : TypeId) : ∀ j u, xs[j]? = some u → (w.alloc (.cells xs.toArray t)).cell? ((⟨w.heap.size, 0, none⟩ : Addr).add j) = some u := by
  intro j u hj
  have h := cell_in (heap_alloc_new w (.cells xs.toArray t)) j (u := u) (by simpa using hj)
  unfold Addr.add
  split
  · rename_i h0; rw [h0] at h; exact h
  · simpa using h
/-- 'append(s, x)' of one element. -/
theorem wpList_append_el {α : Type} (E : Rep α) {ops : Array Oper} {rest : List Oper} {o : Oper} {a : Act} {Q : Exit → Act → World → Prop} (w : World) (hgd : o.guard = none) (sl y : Operand) (t e : TypeId) (i : TypeInfo) (z : Value) (bytes : Nat)
    (ho : o.op = .call { callee := .builtin .append, args := #[sl, y], argTypes := #[t, t] }) (ht : Tryz.prog.underlying t = some (.slice e)) (hi : Tryz.prog.info? e = some i) (hz : i.zero = some z) (hsize : i.size = E.size) (hby : i.bytes = bytes) (hzs : z.cells.size = E.size) (hpos : 0 < E.size)
    (s : Bool) (base : Nat) (v : Value) (l : List α) (G : Addr → Prop) (hown : OwnRd E e s base w v l G) (hs : a.eval sl = v) (xs : List Value) (x : α) (Fx : Addr → Prop) (hx : E.rd s w xs x Fx)
    (hFx : ∀ a, Fx a → a.block < w.heap.size ∧ v.ownBlock ≠ some a.block) (hd : s = true → ∀ a, Fx a → ¬ G a)
    (hy : a.eval y = .slice (some ⟨w.heap.size, 0, none⟩) 1 1) (h1 : ∀ u ∈ xs, u.oneCell' = true) (hn : l.length ≤ 1000000) (hbb : bytes ≤ 100) (hbase : base ≤ w.heap.size)
    (h : ∀ v' w', OwnRd E e s base w' v' (l ++ [x]) (fun a => G a ∨ Fx a) → Below base w w' → (∀ k, k < w.heap.size → v.ownBlock ≠ some k → w'.heap[k]? = w.heap[k]? ∧ v'.ownBlock ≠ some k) → (v'.ownBlock = v.ownBlock ∨ ∀ k, v'.ownBlock = some k → w.heap.size ≤ k) → wpList Tryz.prog ops Q rest (a.put o.dst v') w') :
    wpList Tryz.prog ops Q (o :: rest) a (w.alloc (.cells xs.toArray e)) := by
  obtain ⟨cells, Fk, ho1, he⟩ := hown
  have hbyt : (l.length + 1) * bytes ≤ 140737488355328 := Nat.le_trans (Nat.mul_le_mul (Nat.succ_le_succ hn) hbb) (by omega)
  refine wpList_append_own_at _ hgd sl y t ho base e i z E.size bytes ht hi hz hsize hby hzs hpos v l.length cells hs (ho1.alloc _) ⟨w.heap.size, 0, none⟩ 1 1 xs hy (by rw [E.len hx]; omega) (cells_new _ _ _) h1 (by unfold maxLen; omega) hbyt (by simp; omega) ?_
  intro v' w' q1 q2 _ q4
  have hkeep : ∀ k, k < w.heap.size → v.ownBlock ≠ some k → w'.heap[k]? = w.heap[k]? ∧ v'.ownBlock ≠ some k := fun k hk hv => by
    refine ⟨(q2.block k (by simp; omega) (fun e => hv e.symm)).trans (Below.heap_alloc w _ k hk), ?_⟩
    rcases q4 with q4 | q4
    · rw [q4]; exact hv
    · rw [q4]; simp; omega
  have hsz : w.heap.size ≤ w'.heap.size := Nat.le_trans (by simp) q2.size
  refine h v' w' (OwnRd.grow (cells0 := cells) ⟨cells, Fk, ho1, he⟩ hx hFx hd (fun cs hcs => ?_) hsz hkeep) ?_ hkeep ?_
  · have : cs = cells := by
      rcases ho1.2 with ⟨rfl, h0⟩ | ⟨g, cap, cur, rfl, _, hg, _, _, _, htk⟩
      · have e1 := ho1.1; have e2 := hcs.1; rw [h0, Nat.zero_mul] at e1 e2
        rw [List.eq_nil_of_length_eq_zero e1, List.eq_nil_of_length_eq_zero e2]
      · rcases hcs.2 with ⟨h0, _⟩ | ⟨g', cap', cur', hv', _, hg', _, _, _, htk'⟩
        · cases h0
        · cases hv'
          rw [hg] at hg'
          cases hg'
          rw [← htk, ← htk']
    subst this
    exact q1
  · exact ((Below.refl base w).alloc hbase _).grown q2 (by simp; omega) (fun q hq => (ho1.lt q hq).1)
  · rcases q4 with q4 | q4
    · exact Or.inl q4
    · exact Or.inr fun k hk => by rw [q4] at hk; cases hk; simp
/-- Elements that lead nowhere: the same cells stand for them in every world. -/
structure Flat {α : Type} (E : Rep α) : Prop where
  free : ∀ {s : Bool} {w : World} {ys : List Value} {x : α} {F : Addr → Prop}, E.rd s w ys x F → ∀ w', E.rd true w' ys x (fun _ => False)
  one : ∀ {s : Bool} {w : World} {ys : List Value} {x : α} {F : Addr → Prop}, E.rd s w ys x F → ∀ u ∈ ys, u.oneCell' = true
/-- The cells of a row, one behind the other. -/
def rowCells (w : World) (g off n : Nat) : List Value := (List.range n).map fun i => (w.cell? ⟨g, off + i, none⟩).getD .nilIface
theorem rowCells_len (w : World) (g off n : Nat) : (rowCells w g off n).length = n := by simp [rowCells]
theorem rowCells_at {w : World} {g off n i : Nat} {u : Value} (hi : i < n) (h : w.cell? ⟨g, off + i, none⟩ = some u) : (rowCells w g off n)[i]? = some u := by
  unfold rowCells; rw [List.getElem?_map, List.getElem?_range hi]; simp [h]
theorem RowRd.all_cells {α : Type} {E : Rep α} {s : Bool} {w : World} {g off n cap : Nat} {m : List α} {F : Addr → Prop} (h : RowRd E s w (.slice (some ⟨g, off, none⟩) n cap) m F) (hp : 0 < E.size) {i : Nat} (hi : i < m.length * E.size) :
    ∃ x ys Fk u, m[i / E.size]? = some x ∧ E.rd s w ys x Fk ∧ ys[i % E.size]? = some u ∧ w.cell? ⟨g, off + i, none⟩ = some u := by
  have hq : i / E.size < m.length := Nat.div_lt_of_lt_mul (by rw [Nat.mul_comm]; exact hi)
  obtain ⟨g', off', ys, Fk, ha, hl, hr, _, hc⟩ := h.get (List.getElem?_eq_getElem hq)
  cases ha
  have hm : i % E.size < ys.length := by rw [hl]; exact Nat.mod_lt _ hp
  refine ⟨_, ys, Fk, _, List.getElem?_eq_getElem hq, hr, List.getElem?_eq_getElem hm, ?_⟩
  have := hc _ _ (List.getElem?_eq_getElem hm)
  rwa [Nat.add_assoc, Nat.mul_comm, Nat.div_add_mod] at this
/-- 'append(s, y...)' of elements that lead nowhere. -/
theorem wpList_append_row {α : Type} (E : Rep α) (hfl : Flat E) {ops : Array Oper} {rest : List Oper} {o : Oper} {a : Act} {Q : Exit → Act → World → Prop} (w : World) (hgd : o.guard = none) (sl y : Operand) (t e : TypeId) (i : TypeInfo) (z : Value) (bytes : Nat)
    (ho : o.op = .call { callee := .builtin .append, args := #[sl, y], argTypes := #[t, t] }) (ht : Tryz.prog.underlying t = some (.slice e)) (hi : Tryz.prog.info? e = some i) (hz : i.zero = some z) (hsize : i.size = E.size) (hby : i.bytes = bytes) (hzs : z.cells.size = E.size) (hpos : 0 < E.size)
    (s s2 : Bool) (base : Nat) (v : Value) (l : List α) (G : Addr → Prop) (hown : OwnRd E e s base w v l G) (hs : a.eval sl = v) (A : Option Addr) (n cap : Nat) (m : List α) (F : Addr → Prop) (hrow : RowRd E s2 w (.slice A n cap) m F)
    (hy : a.eval y = .slice A n cap) (hn : l.length ≤ 1000000) (hm : m.length ≤ 1000000) (hbb : bytes ≤ 100) (hbase : base ≤ w.heap.size)
    (h : ∀ v' w', OwnRd E e true base w' v' (l ++ m) (fun _ => False) → Below base w w' → (∀ k, k < w.heap.size → v.ownBlock ≠ some k → w'.heap[k]? = w.heap[k]? ∧ v'.ownBlock ≠ some k) → wpList Tryz.prog ops Q rest (a.put o.dst v') w') :
    wpList Tryz.prog ops Q (o :: rest) a w := by
  obtain ⟨cells, Fk, ho1, he⟩ := hown
  have hcl : cells.length = l.length * E.size := ho1.1
  obtain ⟨A', cap', hf⟩ := hrow.form
  cases hf
  cases A with
  | none =>
    obtain ⟨_, h2, hmn⟩ := hrow.nil_cap
    subst h2 hmn
    refine wpList_append_own_none hgd sl y t ho base e i E.size ht hi v l.length cells hs ho1 hy ?_
    refine h v w ⟨cells, fun _ _ => False, by simpa using ho1, fun k x hk => ?_⟩ (Below.refl _ _) (fun k _ hv => ⟨rfl, hv⟩)
    rw [List.append_nil] at hk
    obtain ⟨ys, q1, q2, _⟩ := he k x hk
    exact ⟨ys, q1, hfl.free q2 _, fun a h => h.elim, fun _ k' _ _ a h => h.elim⟩
  | some p =>
    by_cases hme : m = []
    · subst hme
      have hbyt : (l.length + 0) * bytes ≤ 140737488355328 := Nat.le_trans (Nat.mul_le_mul hn hbb) (by omega)
      refine wpList_append_own_at _ hgd sl y t ho base e i z E.size bytes ht hi hz hsize hby hzs hpos v l.length cells hs ho1 p 0 cap [] hy (by simp) (fun j u hj => by simp at hj) (fun u hu => by simp at hu) (by unfold maxLen; omega) hbyt hbase ?_
      intro v' w' q1 q2 _ q4
      have hkeep : ∀ k, k < w.heap.size → v.ownBlock ≠ some k → w'.heap[k]? = w.heap[k]? ∧ v'.ownBlock ≠ some k := fun k hk hv => by
        refine ⟨q2.block k hk (fun e => hv e.symm), ?_⟩
        rcases q4 with q4 | q4
        · rw [q4]; exact hv
        · rw [q4]; simp; omega
      refine h v' w' ⟨cells, fun _ _ => False, by simpa using q1, fun k x hk => ?_⟩ ((Below.refl base w).grown q2 hbase (fun q hq => (ho1.lt q hq).1)) hkeep
      rw [List.append_nil] at hk
      obtain ⟨ys, r1, r2, _⟩ := he k x hk
      exact ⟨ys, r1, hfl.free r2 _, fun a h => h.elim, fun _ k' _ _ a h => h.elim⟩
    have hm0 : 0 < m.length := List.length_pos_iff.2 hme
    obtain ⟨g, off, _, _, hp, _⟩ := hrow.get (List.getElem?_eq_getElem hm0)
    cases hp
    have hbyt : (l.length + m.length) * bytes ≤ 140737488355328 := Nat.le_trans (Nat.mul_le_mul (Nat.add_le_add hn hm) hbb) (by omega)
    have hadd : ∀ j, (⟨g, off, none⟩ : Addr).add j = ⟨g, off + j, none⟩ := fun j => by unfold Addr.add; split <;> simp_all
    refine wpList_append_own_at _ hgd sl y t ho base e i z E.size bytes ht hi hz hsize hby hzs hpos v l.length cells hs ho1 ⟨g, off, none⟩ m.length cap (rowCells w g off (m.length * E.size)) hy (rowCells_len _ _ _ _) (fun j u hj => ?_) (fun u hu => ?_) (by unfold maxLen; omega) hbyt hbase ?_
    · have hjl : j < m.length * E.size := by have := (List.getElem?_eq_some_iff.1 hj).1; rwa [rowCells_len] at this
      obtain ⟨_, _, _, u', _, _, _, hc⟩ := hrow.all_cells hpos hjl
      rw [rowCells_at hjl hc] at hj
      cases hj
      rw [hadd]; exact hc
    · obtain ⟨j, hj⟩ := List.mem_iff_getElem?.1 hu
      have hjl : j < m.length * E.size := by have := (List.getElem?_eq_some_iff.1 hj).1; rwa [rowCells_len] at this
      obtain ⟨_, ys, _, u', _, hr, hyu, hc⟩ := hrow.all_cells hpos hjl
      rw [rowCells_at hjl hc] at hj
      cases hj
      exact hfl.one hr _ (List.mem_of_getElem? hyu)
    · intro v' w' q1 q2 _ q4
      have hkeep : ∀ k, k < w.heap.size → v.ownBlock ≠ some k → w'.heap[k]? = w.heap[k]? ∧ v'.ownBlock ≠ some k := fun k hk hv => by
        refine ⟨q2.block k hk (fun e => hv e.symm), ?_⟩
        rcases q4 with q4 | q4
        · rw [q4]; exact hv
        · rw [q4]; simp; omega
      refine h v' w' ⟨cells ++ rowCells w g off (m.length * E.size), fun _ _ => False, by rw [List.length_append]; exact q1, fun k x hk => ?_⟩ ((Below.refl base w).grown q2 hbase (fun q hq => (ho1.lt q hq).1)) hkeep
      by_cases hkl : k < l.length
      · rw [List.getElem?_append_left hkl] at hk
        obtain ⟨ys, r1, r2, _⟩ := he k x hk
        refine ⟨ys, fun j u hj => ?_, hfl.free r2 _, fun a h => h.elim, fun _ k' _ _ a h => h.elim⟩
        have := r1 j u hj
        rw [List.getElem?_append_left (List.getElem?_eq_some_iff.1 this).1]; exact this
      · rw [List.getElem?_append_right (by omega)] at hk
        obtain ⟨g', off', ys, F', ha, hl', hr, _, hc⟩ := hrow.get hk
        cases ha
        refine ⟨ys, fun j u hj => ?_, hfl.free hr _, fun a h => h.elim, fun _ k' _ _ a h => h.elim⟩
        have hkm : k - l.length < m.length := (List.getElem?_eq_some_iff.1 hk).1
        have hjs : j < E.size := by rw [← hl']; exact (List.getElem?_eq_some_iff.1 hj).1
        have hin : (k - l.length) * E.size + j < m.length * E.size := by
          have : (k - l.length + 1) * E.size ≤ m.length * E.size := Nat.mul_le_mul_right _ hkm
          rw [Nat.succ_mul] at this
          omega
        have hsub : k * E.size + j - l.length * E.size = (k - l.length) * E.size + j := by
          have h1 : k * E.size = (k - l.length) * E.size + l.length * E.size := by rw [← Nat.add_mul, Nat.sub_add_cancel (by omega)]
          omega
        have hge : l.length * E.size ≤ k * E.size + j := by
          have : l.length * E.size ≤ k * E.size := Nat.mul_le_mul_right _ (by omega)
          omega
        rw [List.getElem?_append_right (by omega), hcl, hsub]
        refine rowCells_at hin ?_
        rw [← Nat.add_assoc]
        exact hc j u hj
/-- What a call has laid between s1 and s2 stands as it did; a row that grows lies apart from it. -/
structure KeepB (s1 s2 : Nat) (w w' : World) : Prop where
  size : s2 ≤ w'.heap.size
  same : ∀ k, s1 ≤ k → k < s2 → w'.heap[k]? = w.heap[k]?
def Apart (v : Value) (s1 s2 : Nat) : Prop := ∀ k, v.ownBlock = some k → k < s1 ∨ s2 ≤ k
theorem KeepB.refl {s1 s2 : Nat} {w : World} (h : s2 ≤ w.heap.size) : KeepB s1 s2 w w := ⟨h, fun _ _ _ => rfl⟩
theorem KeepB.below {s1 s2 : Nat} {a b c : World} (h : KeepB s1 s2 a b) (k : Below b.heap.size b c) : KeepB s1 s2 a c :=
  ⟨Nat.le_trans h.size k.size, fun i hi hj => (k.block i (Nat.lt_of_lt_of_le hj h.size)).trans (h.same i hi hj)⟩
theorem KeepB.grow {s1 s2 : Nat} {a b c : World} {v : Value} (h : KeepB s1 s2 a b) (hap : Apart v s1 s2) (hsz : b.heap.size ≤ c.heap.size) (hk : ∀ k, k < b.heap.size → v.ownBlock ≠ some k → c.heap[k]? = b.heap[k]?) : KeepB s1 s2 a c :=
  ⟨Nat.le_trans h.size hsz, fun i hi hj => (hk i (Nat.lt_of_lt_of_le hj h.size) (fun e => by rcases hap i e with h1 | h1 <;> omega)).trans (h.same i hi hj)⟩
theorem Apart.grow {s1 s2 : Nat} {v v' : Value} {n : Nat} (h : Apart v s1 s2) (hn : s2 ≤ n) (hm : v'.ownBlock = v.ownBlock ∨ ∀ k, v'.ownBlock = some k → n ≤ k) : Apart v' s1 s2 := fun k hk => by
  rcases hm with h1 | h1
  · rw [h1] at hk; exact h k hk
  · exact Or.inr (Nat.le_trans hn (h1 k hk))
theorem RowRd.keepB {α : Type} {E : Rep α} {s : Bool} {s1 s2 : Nat} {w w' : World} {v : Value} {l : List α} {F : Addr → Prop} (h : RowRd E s w v l F) (hF : ∀ a, F a → s1 ≤ a.block ∧ a.block < s2) (hk : KeepB s1 s2 w w') : RowRd E s w' v l F :=
  h.frame fun a ha => ⟨World.cell?_of_block (w := w) (hk.same _ (hF a ha).1 (hF a ha).2), World.frozen?_of_block (w := w) (hk.same _ (hF a ha).1 (hF a ha).2)⟩
theorem apart_move {s1 s2 : Nat} {w : World} {v : Value} (hap : Apart v s1 s2) {Fk : Addr → Prop} (hFk : ∀ p, Fk p → s1 ≤ p.block ∧ p.block < s2) (hs : s2 ≤ w.heap.size) :
    ∀ p, Fk p → p.block < w.heap.size ∧ v.ownBlock ≠ some p.block := fun p hp => by
  have h := hFk p hp
  refine ⟨by omega, fun e => ?_⟩
  rcases hap _ e with h1 | h1 <;> omega
/-- A new row of one element that leads nowhere. -/
theorem OwnRd.single {α : Type} {E : Rep α} {e : TypeId} (hfl : Flat E) (w : World) {s : Bool} {ys : List Value} {x : α} {F : Addr → Prop} (hx : E.rd s w ys x F) : OwnRd E e true w.heap.size (w.alloc (.cells ys.toArray e)) (.slice (some ⟨w.heap.size, 0, none⟩) 1 1) [x] (fun _ => False) :=
  ⟨ys, fun _ _ => False, ⟨by rw [List.length_singleton, E.len hx, Nat.one_mul], Or.inr ⟨w.heap.size, 1, ys.toArray, rfl, Nat.le_refl _, heap_alloc_new _ _, Nat.le_refl _, by unfold maxLen; omega, by simp [E.len hx], by simp [E.len hx, List.take_of_length_le]⟩⟩, fun k y hk => by
    match k, hk with
    | 0, hk =>
      simp at hk
      subst hk
      exact ⟨ys, fun j u hj => by rw [Nat.zero_mul, Nat.zero_add]; exact hj, hfl.free hx _, fun a h => h.elim, fun _ k' _ _ a h => h.elim⟩⟩
end Go.Proofs.YtkaihnlknncfdaaGreatDoor

/- Rows of data that a call lays by appending rows; what the row that was there before still holds. -/
namespace Go.Proofs.YtkaihnlknncfdaaGreatDoor
set_option maxRecDepth 100000
open Go.RowKit
set_option linter.unusedVariables false
set_option linter.unusedSimpArgs false

theorem addr_add (g o n : Nat) : (⟨g, o, none⟩ : Addr).add n = ⟨g, o + n, none⟩ := by
  unfold Addr.add
  by_cases h : n = 0
  · subst h; rfl
  · rw [if_neg h]
section
variable {P : Program} {w : World}
/-- The row that was appended to is still what it was, in its old length. -/
theorem append_old (base : Nat) (t ty e : TypeId) (i : TypeInfo) (z : Value) (ht : P.underlying t = some (.slice e)) (hi : P.info? e = some i) (hz : i.zero = some z) (hsz : 0 < i.size)
    (v : Value) (n : Nat) (xs : List Value) (hown : w.ownsRow base e i.size v n xs) (a : Addr) (m c : Nat) (news : List Value) (hl : news.length = m * i.size) (hnews : ∀ j u, news[j]? = some u → w.cell? (a.add j) = some u)
    (h1 : ∀ u ∈ news, u.oneCell' = true) (h63 : n + m ≤ maxLen) (hbytes : (n + m) * i.bytes ≤ 140737488355328)
    {v' : Value} {w' : World} (hrun : (Builtin.append_ #[t, t] ty #[v, .slice (some a) m c]).run P w = .ok v' w') : w'.ownsRow base e i.size v n xs := by
  rcases hown.2 with ⟨rfl, rfl⟩ | ⟨g, cap, cur, rfl, hbg, hg, hnc, hcm, hcs, htake⟩
  · exact ⟨hown.1, Or.inl ⟨rfl, rfl⟩⟩
  · have hxl := hown.1
    by_cases hroom : n + m ≤ cap
    · have hfit : n * i.size + news.length ≤ cur.size := by rw [hl, hcs, ← Nat.add_mul]; exact Nat.mul_le_mul_right _ hroom
      rw [run_append_room (P := P) w t ty e i ht hi g n cap cur hg a m c news hl hnews h1 hroom hfit] at hrun
      injection hrun with e1 e2
      subst e2
      refine ⟨hxl, Or.inr ⟨g, cap, _, rfl, hbg, setRow_heap w g cur _ e _ hg, hnc, hcm, ?_, ?_⟩⟩
      · simp only [List.size_toArray, List.length_append, List.length_take, List.length_drop, Array.length_toList]
        omega
      · rw [htake, List.append_assoc, ← hxl]
        exact List.take_left
    · rw [run_append_grow (P := P) w t ty e i z ht hi hz ⟨g, 0, none⟩ n cap xs hxl (hown.cells (g := g) rfl) a m c news hl hnews (by omega) (by simp only [maxLen] at h63; omega) (growslice_fits (by omega) hbytes)] at hrun
      injection hrun with e1 e2
      subst e2
      exact ⟨hxl, Or.inr ⟨g, cap, cur, rfl, hbg, (heap_alloc_old w.drew _ (Array.getElem?_eq_some_iff.1 hg).1).trans hg, hnc, hcm, hcs, htake⟩⟩
end
section
variable {α : Type} {E : Rep α} {e : TypeId} {s : Bool} {base : Nat} {w w' : World} {v : Value} {l : List α} {G : Addr → Prop}
theorem OwnRd.frame (h : OwnRd E e s base w v l G) (hv : ∀ k, v.ownBlock = some k → w'.heap[k]? = w.heap[k]?) (hG : ∀ a, G a → a.block < w.heap.size → v.ownBlock ≠ some a.block → w'.heap[a.block]? = w.heap[a.block]?) (hsz : w.heap.size ≤ w'.heap.size) : OwnRd E e s base w' v l G := by
  obtain ⟨cells, Fk, hown, he⟩ := h
  refine ⟨cells, Fk, ⟨hown.1, ?_⟩, fun k x hk => ?_⟩
  · rcases hown.2 with h2 | ⟨g, cap, cur, rfl, hg, hh, r⟩
    · exact Or.inl h2
    · exact Or.inr ⟨g, cap, cur, rfl, hg, (hv g rfl).trans hh, r⟩
  · obtain ⟨ys, h1, h2, h3, h4⟩ := he k x hk
    refine ⟨ys, h1, E.frame h2 (fun a ha => ?_), fun a ha => ⟨(h3 a ha).1, Nat.lt_of_lt_of_le (h3 a ha).2.1 hsz, (h3 a ha).2.2⟩, h4⟩
    have hb := hG a (h3 a ha).1 (h3 a ha).2.1 (h3 a ha).2.2
    exact ⟨World.cell?_of_block (w := w) hb, World.frozen?_of_block (w := w) hb⟩
theorem OwnRd.flat (hfl : Flat E) (h : OwnRd E e s base w v l G) : OwnRd E e true base w v l (fun _ => False) := by
  obtain ⟨cells, Fk, hown, he⟩ := h
  refine ⟨cells, fun _ _ => False, hown, fun k x hk => ?_⟩
  obtain ⟨ys, h1, h2, h3, h4⟩ := he k x hk
  exact ⟨ys, h1, hfl.free h2 _, fun a h => h.elim, fun _ k' _ _ a h => h.elim⟩
/-- A new row of one element. -/
theorem RowRd.one (w : World) {ys : List Value} {x : α} {F : Addr → Prop} (hx : E.rd s w ys x F) (hF : ∀ a, F a → a.block < w.heap.size) :
    RowRd E s (w.alloc (.cells ys.toArray e)) (.slice (some ⟨w.heap.size, 0, none⟩) 1 1) [x] (fun a => F a ∨ a.block = w.heap.size) := by
  have hb : Below w.heap.size w (w.alloc (.cells ys.toArray e)) := (Below.refl _ _).alloc (Nat.le_refl _) _
  refine ⟨some ⟨w.heap.size, 0, none⟩, 1, fun _ => F, rfl, ⟨by simp, (fun h => by cases h), by simp⟩, fun k y hk => ?_⟩
  match k, hk with
  | 0, hk =>
    simp at hk
    subst hk
    refine ⟨w.heap.size, 0, ys, rfl, E.kept hx hb, fun a ha => Or.inl ha, fun j u hj => ?_, fun hs => ⟨fun i _ hf => ?_, fun k' hk' hne => by simp at hk'; omega⟩⟩
    · have hin : InC (w.alloc (.cells ys.toArray e)) w.heap.size ys.toArray e := heap_alloc_new _ _
      simp only [Nat.zero_mul, Nat.zero_add, Nat.add_zero]
      exact ⟨hin.cell j (by simpa using hj), by simp, fun _ => hin.free j⟩
    · have := hF _ hf
      simp at this
end
/-- 'append(s, y...)': what it answers and leaves. -/
theorem run_append_rows {α : Type} (E : Rep α) {w : World} (t ty e : TypeId) (i : TypeInfo) (z : Value) (bytes : Nat) (ht : Tryz.prog.underlying t = some (.slice e)) (hi : Tryz.prog.info? e = some i) (hz : i.zero = some z) (hsize : i.size = E.size) (hby : i.bytes = bytes) (hzs : z.cells.size = E.size) (hpos : 0 < E.size)
    (hone : ∀ {s : Bool} {w : World} {ys : List Value} {x : α} {F : Addr → Prop}, E.rd s w ys x F → ∀ u ∈ ys, u.oneCell' = true)
    (s : Bool) (base : Nat) (v : Value) (l : List α) (G : Addr → Prop) (hown : OwnRd E e s base w v l G) (A : Option Addr) (n cap : Nat) (m : List α) (F : Addr → Prop) (hrow : RowRd E s w (.slice A n cap) m F)
    (hF : ∀ a, F a → a.block < w.heap.size ∧ v.ownBlock ≠ some a.block) (hd : s = true → ∀ a, F a → ¬ G a) (hn : l.length ≤ 1000000) (hm : m.length ≤ 1000000) (hbb : bytes ≤ 100) (hbase : base ≤ w.heap.size) :
    ∃ v' w', (Builtin.append_ #[t, t] ty #[v, .slice A n cap]).run Tryz.prog w = .ok v' w' ∧ OwnRd E e s base w' v' (l ++ m) (fun a => G a ∨ F a) ∧ OwnRd E e s base w' v l G ∧ Below base w w' ∧
      (∀ k, k < w.heap.size → v.ownBlock ≠ some k → w'.heap[k]? = w.heap[k]? ∧ v'.ownBlock ≠ some k) ∧ (v'.ownBlock = v.ownBlock ∨ ∀ k, v'.ownBlock = some k → w.heap.size ≤ k) := by
  have hown0 := hown
  obtain ⟨cells, Fk, ho1, he⟩ := hown
  have hcl : cells.length = l.length * E.size := ho1.1
  obtain ⟨A', cap', hf⟩ := hrow.form
  cases hf
  cases A with
  | none =>
    obtain ⟨h0, h2, hmn⟩ := hrow.nil_cap
    subst h2 hmn
    refine ⟨v, w, run_append_owned_none (P := Tryz.prog) (w := w) base t ty e i E.size ht hi v l.length cells ho1, ?_, hown0, Below.refl _ _, fun k _ hv => ⟨rfl, hv⟩, Or.inl rfl⟩
    rw [List.append_nil]
    exact hown0.mono (fun a h => Or.inl h)
  | some p =>
    obtain ⟨ad, had, hrc⟩ : ∃ ad : Addr, p = ad ∧ ∃ news : List Value, news.length = m.length * E.size ∧ (∀ j u, news[j]? = some u → w.cell? (ad.add j) = some u) ∧ (∀ u ∈ news, u.oneCell' = true) ∧
        (∀ (k : Nat) (x : α), m[k]? = some x → ∃ ys Fx, E.rd s w ys x Fx ∧ (∀ j u, ys[j]? = some u → news[k * E.size + j]? = some u)) := by
      refine ⟨p, rfl, ?_⟩
      by_cases hme : m = []
      · subst hme
        exact ⟨[], by simp, fun j u hj => by simp at hj, fun u hu => by simp at hu, fun k x hk => by simp at hk⟩
      · have hm0 : 0 < m.length := List.length_pos_iff.2 hme
        obtain ⟨g, off, _, _, hp, _⟩ := hrow.get (List.getElem?_eq_getElem hm0)
        cases hp
        have hadd : ∀ j, (⟨g, off, none⟩ : Addr).add j = ⟨g, off + j, none⟩ := fun j => by unfold Addr.add; split <;> simp_all
        refine ⟨rowCells w g off (m.length * E.size), rowCells_len _ _ _ _, fun j u hj => ?_, fun u hu => ?_, fun k x hk => ?_⟩
        · have hjl : j < m.length * E.size := by have := (List.getElem?_eq_some_iff.1 hj).1; rwa [rowCells_len] at this
          obtain ⟨_, _, _, u', _, _, _, hc⟩ := hrow.all_cells hpos hjl
          rw [rowCells_at hjl hc] at hj
          cases hj
          rw [hadd]; exact hc
        · obtain ⟨j, hj⟩ := List.mem_iff_getElem?.1 hu
          have hjl : j < m.length * E.size := by have := (List.getElem?_eq_some_iff.1 hj).1; rwa [rowCells_len] at this
          obtain ⟨_, ys, _, u', _, hr, hyu, hc⟩ := hrow.all_cells hpos hjl
          rw [rowCells_at hjl hc] at hj
          cases hj
          exact hone hr _ (List.mem_of_getElem? hyu)
        · obtain ⟨g', off', ys, F', ha, hl', hr, _, hc⟩ := hrow.get hk
          cases ha
          refine ⟨ys, F', hr, fun j u hj => ?_⟩
          have hkm : k < m.length := (List.getElem?_eq_some_iff.1 hk).1
          have hjs : j < E.size := by rw [← hl']; exact (List.getElem?_eq_some_iff.1 hj).1
          have hin : k * E.size + j < m.length * E.size := by
            have : (k + 1) * E.size ≤ m.length * E.size := Nat.mul_le_mul_right _ hkm
            rw [Nat.succ_mul] at this
            omega
          refine rowCells_at hin ?_
          rw [← Nat.add_assoc]
          exact hc j u hj
    subst had
    obtain ⟨news, hnl, hnews, hn1, hel⟩ := hrc
    have hbyt : (l.length + m.length) * i.bytes ≤ 140737488355328 := by rw [hby]; exact Nat.le_trans (Nat.mul_le_mul (Nat.add_le_add hn hm) hbb) (by omega)
    rw [← hsize] at hnl ho1
    obtain ⟨v', w', hr, q1, q2, _, q4⟩ := run_append_own_at (P := Tryz.prog) w base t ty e i z i.size i.bytes ht hi hz rfl rfl (hzs.trans hsize.symm) (hsize ▸ hpos) v l.length cells ho1 p m.length cap news hnl hnews hn1 (by unfold maxLen; omega) hbyt hbase
    have hold := append_old base t ty e i z ht hi hz (hsize ▸ hpos) v l.length cells ho1 p m.length cap news hnl hnews hn1 (by unfold maxLen; omega) hbyt hr
    rw [hsize] at q1 hold
    have hkeep : ∀ k, k < w.heap.size → v.ownBlock ≠ some k → w'.heap[k]? = w.heap[k]? ∧ v'.ownBlock ≠ some k := fun k hk hv => by
      refine ⟨q2.block k hk (fun e => hv e.symm), ?_⟩
      rcases q4 with q4 | q4
      · rw [q4]; exact hv
      · rw [q4]; simp; omega
    have hfr : ∀ (H : Addr → Prop), (∀ a, H a → a.block < w.heap.size ∧ v.ownBlock ≠ some a.block) → ∀ a, H a → w'.cell? a = w.cell? a ∧ w'.frozen? a = w.frozen? a := fun H hH a ha =>
      ⟨World.cell?_of_block (w := w) (hkeep _ (hH a ha).1 (hH a ha).2).1, World.frozen?_of_block (w := w) (hkeep _ (hH a ha).1 (hH a ha).2).1⟩
    have hel0 : ∀ k x, l[k]? = some x → ∃ ys : List Value, (∀ j u, ys[j]? = some u → cells[k * E.size + j]? = some u) ∧ E.rd s w' ys x (Fk k) ∧ (∀ a, Fk k a → G a ∧ a.block < w.heap.size ∧ v.ownBlock ≠ some a.block) ∧ (s = true → ∀ k', k' < l.length → k' ≠ k → ∀ a, Fk k a → ¬ Fk k' a) := fun k x hk => by
      obtain ⟨ys, h1, h2, h3, h4⟩ := he k x hk
      exact ⟨ys, h1, E.frame h2 (hfr _ fun a ha => (h3 a ha).2), h3, h4⟩
    refine ⟨v', w', hr, ?_, ⟨cells, Fk, hold, fun k x hk => ?_⟩, (Below.refl _ _).grown q2 hbase (fun q hq => (ho1.lt q hq).1), hkeep, ?_⟩
    · obtain ⟨A2, cap2, Fm, hv2, hmx, hme⟩ := hrow
      cases hv2
      refine ⟨cells ++ news, fun k => if k < l.length then Fk k else Fm (k - l.length), by rw [List.length_append]; exact q1, fun k x hk => ?_⟩
      by_cases hkl : k < l.length
      · rw [List.getElem?_append_left hkl] at hk
        obtain ⟨ys, h1, h2, h3, h4⟩ := hel0 k x hk
        refine ⟨ys, fun j u hj => ?_, ?_, ?_, ?_⟩
        · have := h1 j u hj
          rw [List.getElem?_append_left (List.getElem?_eq_some_iff.1 this).1]; exact this
        · simp only [if_pos hkl]; exact h2
        · simp only [if_pos hkl]
          exact fun a ha => ⟨Or.inl (h3 a ha).1, Nat.lt_of_lt_of_le (h3 a ha).2.1 q2.size, (hkeep _ (h3 a ha).2.1 (h3 a ha).2.2).2⟩
        · intro hs k' hk' hne a ha
          simp only [if_pos hkl] at ha
          by_cases hk2 : k' < l.length
          · simp only [if_pos hk2]; exact h4 hs k' hk2 hne a ha
          · simp only [if_neg hk2]
            intro hf
            rw [List.length_append] at hk'
            obtain ⟨_, _, _, _, _, hFm, _⟩ := hme (k' - l.length) _ (List.getElem?_eq_getElem (by omega))
            exact hd hs a (hFm a hf) (h3 a ha).1
      · rw [List.getElem?_append_right (by omega)] at hk
        obtain ⟨g2, off2, ys, hA2, hrd, hFm, hcs, hap⟩ := hme _ _ hk
        obtain ⟨ys2, Fx2, hrd2, hn2⟩ := hel _ _ hk
        refine ⟨ys, fun j u hj => ?_, ?_, ?_, ?_⟩
        · have hkm : k - l.length < m.length := (List.getElem?_eq_some_iff.1 hk).1
          have hjs : j < E.size := by rw [← E.len hrd]; exact (List.getElem?_eq_some_iff.1 hj).1
          have hsub : k * E.size + j - l.length * E.size = (k - l.length) * E.size + j := by
            have h1 : k * E.size = (k - l.length) * E.size + l.length * E.size := by rw [← Nat.add_mul, Nat.sub_add_cancel (by omega)]
            omega
          have hge : l.length * E.size ≤ k * E.size + j := by
            have : l.length * E.size ≤ k * E.size := Nat.mul_le_mul_right _ (by omega)
            omega
          rw [List.getElem?_append_right (by omega), hcl, hsub]
          obtain ⟨u2, hu2⟩ : ∃ u2, ys2[j]? = some u2 := ⟨_, List.getElem?_eq_getElem (by rw [E.len hrd2]; exact hjs)⟩
          have h5 := hn2 j u2 hu2
          have hpe := hnews _ _ h5
          have hc := (hcs j u hj).1
          have hA3 := Option.some.inj hA2
          subst hA3
          rw [addr_add, ← Nat.add_assoc] at hpe
          rw [hc] at hpe
          rw [h5, hpe]
        · simp only [if_neg hkl]
          exact E.frame hrd (hfr _ fun a ha => hF a (hFm a ha))
        · simp only [if_neg hkl]
          exact fun a ha => ⟨Or.inr (hFm a ha), Nat.lt_of_lt_of_le (hF a (hFm a ha)).1 q2.size, (hkeep _ (hF a (hFm a ha)).1 (hF a (hFm a ha)).2).2⟩
        · intro hs k' hk' hne a ha
          simp only [if_neg hkl] at ha
          by_cases hk2 : k' < l.length
          · simp only [if_pos hk2]
            obtain ⟨_, _, _, q3, _⟩ := hel0 k' _ (List.getElem?_eq_getElem hk2)
            exact fun hf => hd hs a (hFm a ha) (q3 a hf).1
          · simp only [if_neg hk2]
            rw [List.length_append] at hk'
            exact (hap hs).2 (k' - l.length) (by omega) (by omega) a ha
    · obtain ⟨ys, h1, h2, h3, h4⟩ := hel0 k x hk
      exact ⟨ys, h1, h2, fun a ha => ⟨(h3 a ha).1, Nat.lt_of_lt_of_le (h3 a ha).2.1 q2.size, (h3 a ha).2.2⟩, h4⟩
    · rcases q4 with q4 | q4
      · exact Or.inl q4
      · exact Or.inr fun k hk => by rw [q4] at hk; cases hk; simp
/-- The same, at an operation of a region that draws its order. -/
theorem step_append_rows {α : Type} (E : Rep α) {ops : Array Oper} {o : Oper} {a : Act} {K : Act → World → Prop} {Q : Exit → Act → World → Prop} {Z : Prop} (w : World) (hgd : o.guard = none) (sl y : Operand) (t e : TypeId) (i : TypeInfo) (z : Value) (bytes : Nat)
    (ho : o.op = .call { callee := .builtin .append, args := #[sl, y], argTypes := #[t, t] }) (ht : Tryz.prog.underlying t = some (.slice e)) (hi : Tryz.prog.info? e = some i) (hz : i.zero = some z) (hsize : i.size = E.size) (hby : i.bytes = bytes) (hzs : z.cells.size = E.size) (hpos : 0 < E.size)
    (hone : ∀ {s : Bool} {w : World} {ys : List Value} {x : α} {F : Addr → Prop}, E.rd s w ys x F → ∀ u ∈ ys, u.oneCell' = true)
    (s : Bool) (base : Nat) (v : Value) (l : List α) (G : Addr → Prop) (hown : OwnRd E e s base w v l G) (A : Option Addr) (n cap : Nat) (m : List α) (F : Addr → Prop) (hrow : RowRd E s w (.slice A n cap) m F)
    (hF : ∀ a, F a → a.block < w.heap.size ∧ v.ownBlock ≠ some a.block) (hd : s = true → ∀ a, F a → ¬ G a) (hn : l.length ≤ 1000000) (hm : m.length ≤ 1000000) (hbb : bytes ≤ 100) (hbase : base ≤ w.heap.size)
    (hs : a.eval sl = v) (hy : a.eval y = .slice A n cap)
    (h : ∀ v' w', OwnRd E e s base w' v' (l ++ m) (fun a => G a ∨ F a) → OwnRd E e s base w' v l G → Below base w w' → (∀ k, k < w.heap.size → v.ownBlock ≠ some k → w'.heap[k]? = w.heap[k]? ∧ v'.ownBlock ≠ some k) → (v'.ownBlock = v.ownBlock ∨ ∀ k, v'.ownBlock = some k → w.heap.size ≤ k) → K (a.put o.dst v') w') :
    if Region.wanted o (yielded ops a.tmps) = true then Oper.wp Tryz.prog o a w K Q else Z := by
  have hw : Region.wanted o (yielded ops a.tmps) = true := by simp [Region.wanted, hgd]
  rw [if_pos hw]
  obtain ⟨v', w', hr, h1, h2, h3, h4, h5⟩ := run_append_rows E (w := w) t o.type e i z bytes ht hi hz hsize hby hzs hpos hone s base v l G hown A n cap m F hrow hF hd hn hm hbb hbase
  unfold Oper.wp execOp
  simp only [ho, resolve, invoke, builtin, Sem.run_bind, Sem.run_pure, Result.andThen_ok, List.map_toArray, List.map_cons, List.map_nil, hs, hy, hr]
  exact h v' w' h1 h2 h3 h4 h5
end Go.Proofs.YtkaihnlknncfdaaGreatDoor

/- Rows that know their marks: data in memory, a row of them filled place by place. -/
namespace Go.Proofs.YtkaihnlknncfdaaGreatDoor
set_option maxRecDepth 100000
open Go.RowKit Go.Sort M
set_option linter.unusedVariables false
set_option linter.unusedSimpArgs false

/-- A candidate with its marks. -/
def rMk : Rep (DCandidate × List Int) := Rep.pair rCandidate (Rep.row Rep.int)
theorem rMk_size : rMk.size = 2 := rfl
theorem rMk_rd {s : Bool} {w : World} {vs : List Value} {x : DCandidate × List Int} {F : Addr → Prop} (h : rMk.rd s w vs x F) :
    ∃ v0 v1 F1 F2, vs = [v0, v1] ∧ RowRd rLink s w v0 x.1.Links F1 ∧ RowRd Rep.int s w v1 x.2 F2 ∧ (∀ a, F1 a → F a) ∧ (∀ a, F2 a → F a) ∧ (s = true → ∀ a, F1 a → ¬ F2 a) := by
  obtain ⟨a0, b0, F1, F2, rfl, h0, h1, k, l, d⟩ := h
  obtain ⟨v0, rfl, q0⟩ := rCandidate_rd h0
  obtain ⟨v1, rfl, q1⟩ := h1
  exact ⟨v0, v1, F1, F2, rfl, q0, q1, k, l, d⟩
theorem rMk_mk {s : Bool} {w : World} {x : DCandidate × List Int} {F F1 F2 : Addr → Prop} {v0 v1 : Value} (h0 : RowRd rLink s w v0 x.1.Links F1) (h1 : RowRd Rep.int s w v1 x.2 F2) (k : ∀ a, F1 a → F a) (l : ∀ a, F2 a → F a) (d : s = true → ∀ a, F1 a → ¬ F2 a) : rMk.rd s w [v0, v1] x F :=
  ⟨[v0], [v1], F1, F2, rfl, rCandidate_mk h0, ⟨v1, rfl, h1⟩, k, l, d⟩
def zMk : DCandidate × List Int := (zCandidate, [])
/-- The rows of a table with their marks; none if it is not valid. -/
def rowsL (x : DTableau) : List (DCandidate × List Int) := if isTab x then x.Rows.zip x.Marks else []
theorem rowsL_no {x : DTableau} (h : isTab x = false) : rowsL x = [] := by unfold rowsL; rw [h]; rfl
theorem rowsL_yes {x : DTableau} (h : isTab x = true) : rowsL x = x.Rows.zip x.Marks := by unfold rowsL; rw [if_pos h]
theorem rowsL_len {x : DTableau} (h : isTab x = true) : (rowsL x).length = x.Rows.length := by
  rw [rowsL_yes h, List.length_zip, (headT_parts (headT_of h)).2.2.2.2, Nat.min_self]
theorem rowsL_at {x : DTableau} (h : isTab x = true) {k : Nat} {c : DCandidate} {m : List Int} (h1 : x.Rows[k]? = some c) (h2 : x.Marks[k]? = some m) : (rowsL x)[k]? = some (c, m) := by
  rw [rowsL_yes h]
  exact List.getElem?_zip_eq_some.2 ⟨h1, h2⟩
theorem rowsL_of {x : DTableau} {k : Nat} {p : DCandidate × List Int} (h : (rowsL x)[k]? = some p) : isTab x = true ∧ x.Rows[k]? = some p.1 ∧ x.Marks[k]? = some p.2 := by
  cases ht : isTab x with
  | false => rw [rowsL_no ht] at h; simp at h
  | true =>
    rw [rowsL_yes ht] at h
    exact ⟨rfl, List.getElem?_zip_eq_some.1 h⟩
theorem cs_far2 {w : World} {g i j : Nat} {u v : Value} {p : Addr} (h : p.block ≠ g) : ((w.setCell ⟨g, i, none⟩ u).setCell ⟨g, j, none⟩ v).cell? p = w.cell? p :=
  (cs_other (fun e => h (by rw [← e]))).trans (cs_other (fun e => h (by rw [← e])))
section
variable {α : Type} {E : Rep α} {e : TypeId} {base g n cap : Nat} {w : World} {l : List α} {G : Addr → Prop}
/-- The two cells of an element of an own row. -/
theorem OwnRd.at2 {s : Bool} (hE : E.size = 2) (h : OwnRd E e s base w (.slice (some ⟨g, 0, none⟩) n cap) l G) (hn : l.length = n) {k : Nat} (hk : k < n) :
    (∃ a, w.cell? ⟨g, k * 2, none⟩ = some a) ∧ (∃ b, w.cell? ⟨g, k * 2 + 1, none⟩ = some b) ∧ w.frozen? ⟨g, k * 2, none⟩ = false ∧ w.frozen? ⟨g, k * 2 + 1, none⟩ = false := by
  obtain ⟨cells, Fk, hown, _⟩ := h
  subst hn
  rw [hE] at hown
  have hl := hown.1
  refine ⟨⟨_, (hown.cellAt (k * 2) (by omega)).trans (List.getElem?_eq_getElem (by omega))⟩, ⟨_, (hown.cellAt (k * 2 + 1) (by omega)).trans (List.getElem?_eq_getElem (by omega))⟩, hown.frozenAt _, hown.frozenAt _⟩
/-- An element of an own row is written. -/
theorem OwnRd.set2 (hE : E.size = 2) (h : OwnRd E e false base w (.slice (some ⟨g, 0, none⟩) n cap) l G) (hn : l.length = n) {k : Nat} (hk : k < n) {a b : Value} {x : α} {Fx : Addr → Prop} (hx : E.rd false w [a, b] x Fx) (hFx : ∀ p, Fx p → p.block < w.heap.size ∧ p.block ≠ g) :
    OwnRd E e false base ((w.setCell ⟨g, k * 2, none⟩ a).setCell ⟨g, k * 2 + 1, none⟩ b) (.slice (some ⟨g, 0, none⟩) n cap) (l.set k x) (fun p => G p ∨ Fx p) := by
  obtain ⟨cells, Fk, hown, he⟩ := h
  subst hn
  have hl := hown.1
  have h1 := (hown.stored (k * 2) a).1
  have h2 := (h1.stored (k * 2 + 1) b).1
  have hsz : ((w.setCell ⟨g, k * 2, none⟩ a).setCell ⟨g, k * 2 + 1, none⟩ b).heap.size = w.heap.size := by simp [World.setCell]
  have hfr : ∀ (P : Addr → Prop), (∀ p, P p → p.block ≠ g) → ∀ p, P p → ((w.setCell ⟨g, k * 2, none⟩ a).setCell ⟨g, k * 2 + 1, none⟩ b).cell? p = w.cell? p ∧ ((w.setCell ⟨g, k * 2, none⟩ a).setCell ⟨g, k * 2 + 1, none⟩ b).frozen? p = w.frozen? p := fun P hP p hp =>
    ⟨(cs_other (fun e => hP p hp (by rw [← e]))).trans (cs_other (fun e => hP p hp (by rw [← e]))), cs_frozen.trans cs_frozen⟩
  refine ⟨(cells.set (k * 2) a).set (k * 2 + 1) b, fun i => if i = k then Fx else Fk i, by rw [List.length_set]; exact h2, fun i y hi => ?_⟩
  by_cases hik : i = k
  · subst hik
    rw [List.getElem?_set_self hk] at hi
    cases hi
    refine ⟨[a, b], fun j u hj => ?_, ?_, ?_, fun hs => by cases hs⟩
    · rw [hE] at hl ⊢
      match j, hj with
      | 0, hj =>
        simp at hj; subst hj
        show ((cells.set (i * 2) a).set (i * 2 + 1) b)[i * 2]? = some a
        rw [List.getElem?_set_ne (by omega), List.getElem?_set_self (by omega)]
      | 1, hj =>
        simp at hj; subst hj
        show ((cells.set (i * 2) a).set (i * 2 + 1) b)[i * 2 + 1]? = some b
        rw [List.getElem?_set_self (by rw [List.length_set]; omega)]
    · simp only [if_true]
      exact E.frame hx (hfr _ fun p hp => (hFx p hp).2)
    · simp only [if_true]
      exact fun p hp => ⟨Or.inr hp, by rw [hsz]; exact (hFx p hp).1, by simp only [Value.ownBlock]; exact fun e => (hFx p hp).2 (Option.some.inj e).symm⟩
  · rw [List.getElem?_set_ne (Ne.symm hik)] at hi
    obtain ⟨ys, q1, q2, q3, _⟩ := he i y hi
    have hil : i < l.length := (List.getElem?_eq_some_iff.1 hi).1
    refine ⟨ys, fun j u hj => ?_, ?_, ?_, fun hs => by cases hs⟩
    · have hj2 : j < 2 := by rw [← hE, ← E.len q2]; exact (List.getElem?_eq_some_iff.1 hj).1
      have h5 := q1 j u hj
      rw [hE] at h5 ⊢
      rw [List.getElem?_set_ne (by omega), List.getElem?_set_ne (by omega)]
      exact h5
    · simp only [if_neg hik]
      exact E.frame q2 (hfr _ fun p hp e => (q3 p hp).2.2 (by rw [← e]; rfl))
    · simp only [if_neg hik]
      exact fun p hp => ⟨Or.inl (q3 p hp).1, by rw [hsz]; exact (q3 p hp).2.1, (q3 p hp).2.2⟩
end
/-- What rowsOf answers with. -/
def MkPost (x : DTableau) (w : World) (e : Ending) (w' : World) : Prop := ∃ u G, e = .returned u ∧ RowRd rMk false w' u (rowsL x) G ∧ Below w.heap.size w w'
end Go.Proofs.YtkaihnlknncfdaaGreatDoor
