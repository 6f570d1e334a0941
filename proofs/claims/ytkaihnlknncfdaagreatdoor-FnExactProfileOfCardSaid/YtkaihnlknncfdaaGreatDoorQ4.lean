/- Merged: N1 App Mc1 Mc2 Mv10 Ta11 Intd Se11 Sh. -/
import Derived.Test.YtkaihnlknncfdaaGreatDoorQ3
import Derived.Test.YtkaihnlknncfdaaGreatDoorQ1
import Derived.Test.YtkaihnlknncfdaaGreatDoorQ2
import Derived.WalkKit
import Derived.BigQuiet
import Derived.Lib.QuietBelow
import Derived.Lib.Hide
import Derived.Test.YtkaihnlknncfdaaGreatDoorRows
import Derived.Laws.IdiomStrings
import Derived.Lib.Slices
/- The model's IsForm: what it answers. -/
namespace Go.Proofs.YtkaihnlknncfdaaGreatDoor
set_option maxRecDepth 100000
open Go.RowKit M

theorem specFm_any (s : ByteArray) (w : World) (hs : s.size ≤ maxLen) :
    Calls Tryz.prog 85 #[.string s] w fun e w' => e = .returned (.bool (isFm s)) ∧ w = w' := by
  have HM := Lib.hid hs
  clear hs
  go_enter Tryz.func85, Tryz.ntmps85
  go_wp2_with fail
  refine (specL2_any _ _ HM.out).mono ?_
  rintro e w2 ⟨rfl, rfl⟩
  go_wp2
  all_goals
    go_ret
    exact ⟨ret_bool (by unfold isFm; simp_all), rfl⟩
end Go.Proofs.YtkaihnlknncfdaaGreatDoor

/- Appending one byte to a row of bytes that the call made: a law for the walk. -/
namespace Go.Proofs.YtkaihnlknncfdaaGreatDoor
set_option maxRecDepth 100000
open Go.RowKit M
theorem cellsB_append (a b : List UInt8) : cellsB (a ++ b) = cellsB a ++ cellsB b := by simp [cellsB]
theorem cellsB_one (x : Int) (h0 : 0 ≤ x) (h1 : x < 256) : cellsB [byt x] = [.int .u8 x] := by simp [cellsB, byt_toNat x h0 h1]
theorem wpList_append_byte {ops : Array Oper} {rest : List Oper} {o : Oper} {a : Act} {Q : Exit → Act → World → Prop} (w : World) (hgd : o.guard = none) (s x : Operand)
    (ho : o.op = .call { callee := .builtin .append, args := #[s, x], argTypes := #[112, 112] })
    (base : Nat) (v : Value) (n : Nat) (l : List UInt8) (hs : a.eval s = v) (hown : w.ownsRow base 5 1 v n (cellsB l)) (b : Int) (hb0 : 0 ≤ b) (hb1 : b < 256)
    (hx : a.eval x = .slice (some ⟨w.heap.size, 0, none⟩) 1 1) (hn : n ≤ 70368744177664) (hbase : base ≤ w.heap.size)
    (h : ∀ v' w', w'.ownsRow base 5 1 v' (n + 1) (cellsB (l ++ [byt b])) → Below base w w' → wpList Tryz.prog ops Q rest (a.put o.dst v') w') :
    wpList Tryz.prog ops Q (o :: rest) a (w.alloc (.cells #[.int .u8 b] 5)) := by
  obtain ⟨i0, hi, hz0, hz1, hz2⟩ := info_parts Tryz.info5
  refine wpList_append_own (w.alloc (.cells #[.int .u8 b] 5)) hgd s x 112 ho base 5 i0 (.int .u8 0) 1 1 Tryz.underlying112 hi hz0 hz1 hz2 rfl (by decide) v n (cellsB l) hs (hown.alloc _) ⟨w.heap.size, 0, none⟩ 1 1 [.int .u8 b] hx rfl (cell_one_new _ _ _)
    (fun u hu => by simp at hu; subst hu; rfl) (by unfold maxLen; omega) (by omega) (by simp; omega) ?_
  intro v' w' h1 h2 _
  refine h v' w' (by rw [cellsB_append, cellsB_one b hb0 hb1]; exact h1) ?_
  exact ((Below.refl base w).alloc hbase _).grown h2 (by simp; omega) (fun q hq => (hown.lt q hq).1)
theorem cell_two_new (w : World) (x y : Value) (t : TypeId) : ∀ j u, [x, y][j]? = some u → (w.alloc (.cells #[x, y] t)).cell? ((⟨w.heap.size, 0, none⟩ : Addr).add j) = some u := by
  intro j u hj
  have hp : (⟨w.heap.size, 0, none⟩ : Addr).add j = ⟨w.heap.size, j, none⟩ := by unfold Addr.add; split <;> simp_all
  rw [hp, World.cell?_alloc_mark]
  simpa using hj
theorem wpList_append_two {ops : Array Oper} {rest : List Oper} {o : Oper} {a : Act} {Q : Exit → Act → World → Prop} (w : World) (hgd : o.guard = none) (s x : Operand)
    (ho : o.op = .call { callee := .builtin .append, args := #[s, x], argTypes := #[112, 112] })
    (base : Nat) (v : Value) (n : Nat) (l : List UInt8) (hs : a.eval s = v) (hown : w.ownsRow base 5 1 v n (cellsB l)) (b c : Int) (hb0 : 0 ≤ b) (hb1 : b < 256) (hc0 : 0 ≤ c) (hc1 : c < 256)
    (hx : a.eval x = .slice (some ⟨w.heap.size, 0, none⟩) 2 2) (hn : n ≤ 70368744177664) (hbase : base ≤ w.heap.size)
    (h : ∀ v' w', w'.ownsRow base 5 1 v' (n + 2) (cellsB (l ++ [byt b, byt c])) → Below base w w' → wpList Tryz.prog ops Q rest (a.put o.dst v') w') :
    wpList Tryz.prog ops Q (o :: rest) a (w.alloc (.cells #[.int .u8 b, .int .u8 c] 5)) := by
  obtain ⟨i0, hi, hz0, hz1, hz2⟩ := info_parts Tryz.info5
  refine wpList_append_own (w.alloc (.cells #[.int .u8 b, .int .u8 c] 5)) hgd s x 112 ho base 5 i0 (.int .u8 0) 1 1 Tryz.underlying112 hi hz0 hz1 hz2 rfl (by decide) v n (cellsB l) hs (hown.alloc _) ⟨w.heap.size, 0, none⟩ 2 2 [.int .u8 b, .int .u8 c] hx rfl (cell_two_new _ _ _ _)
    (fun u hu => by simp at hu; rcases hu with rfl | rfl <;> rfl) (by unfold maxLen; omega) (by omega) (by simp; omega) ?_
  intro v' w' h1 h2 _
  refine h v' w' (by rw [cellsB_append, show cellsB [byt b, byt c] = [.int .u8 b, .int .u8 c] by simp [cellsB, byt_toNat b hb0 hb1, byt_toNat c hc0 hc1]]; exact h1) ?_
  exact ((Below.refl base w).alloc hbase _).grown h2 (by simp; omega) (fun q hq => (hown.lt q hq).1)
/-- The same as one step of a region that draws its order. -/
theorem step_append_two {ops : Array Oper} {o : Oper} {a : Act} {K : Act → World → Prop} {Q : Exit → Act → World → Prop} {E : Prop} (w : World) (hgd : o.guard = none) (s x : Operand)
    (ho : o.op = .call { callee := .builtin .append, args := #[s, x], argTypes := #[112, 112] })
    (base : Nat) (v : Value) (n : Nat) (l : List UInt8) (hs : a.eval s = v) (hown : w.ownsRow base 5 1 v n (cellsB l)) (b c : Int) (hb0 : 0 ≤ b) (hb1 : b < 256) (hc0 : 0 ≤ c) (hc1 : c < 256)
    (hx : a.eval x = .slice (some ⟨w.heap.size, 0, none⟩) 2 2) (hn : n ≤ 70368744177664) (hbase : base ≤ w.heap.size)
    (h : ∀ v' w', w'.ownsRow base 5 1 v' (n + 2) (cellsB (l ++ [byt b, byt c])) → Below base w w' → K (a.put o.dst v') w') :
    if Region.wanted o (yielded ops a.tmps) = true then Oper.wp Tryz.prog o a (w.alloc (.cells #[.int .u8 b, .int .u8 c] 5)) K Q else E := by
  have hw : Region.wanted o (yielded ops a.tmps) = true := by simp [Region.wanted, hgd]
  rw [if_pos hw]
  obtain ⟨i0, hi, hz0, hz1, hz2⟩ := info_parts Tryz.info5
  refine wp_append_own (w.alloc (.cells #[.int .u8 b, .int .u8 c] 5)) s x 112 ho base 5 i0 (.int .u8 0) 1 1 Tryz.underlying112 hi hz0 hz1 hz2 rfl (by decide) v n (cellsB l) hs (hown.alloc _) ⟨w.heap.size, 0, none⟩ 2 2 [.int .u8 b, .int .u8 c] hx rfl (cell_two_new _ _ _ _)
    (fun u hu => by simp at hu; rcases hu with rfl | rfl <;> rfl) (by unfold maxLen; omega) (by omega) (by simp; omega) ?_
  intro v' w' h1 h2 _
  refine h v' w' (by rw [cellsB_append, show cellsB [byt b, byt c] = [.int .u8 b, .int .u8 c] by simp [cellsB, byt_toNat b hb0 hb1, byt_toNat c hc0 hc1]]; exact h1) ?_
  exact ((Below.refl base w).alloc hbase _).grown h2 (by simp; omega) (fun q hq => (hown.lt q hq).1)
theorem below_of_drew {B : Nat} {w w' : World} (h : Below B w.drew w') : Below B w w' := ⟨h.os, h.tape, h.output, h.size, h.block⟩
/-- The same behind a draw. -/
theorem step_append_two_drew {ops : Array Oper} {o : Oper} {a : Act} {K : Act → World → Prop} {Q : Exit → Act → World → Prop} {E : Prop} (w : World) (hgd : o.guard = none) (s x : Operand)
    (ho : o.op = .call { callee := .builtin .append, args := #[s, x], argTypes := #[112, 112] })
    (base : Nat) (v : Value) (n : Nat) (l : List UInt8) (hown : w.ownsRow base 5 1 v n (cellsB l)) (b c : Int) (hb : 0 ≤ b ∧ b < 256) (hc : 0 ≤ c ∧ c < 256) (hn : n ≤ 70368744177664) (hbase : base ≤ w.heap.size)
    (hs : a.eval s = v) (hx : a.eval x = .slice (some ⟨w.heap.size, 0, none⟩) 2 2)
    (h : ∀ v' w', w'.ownsRow base 5 1 v' (n + 2) (cellsB (l ++ [byt b, byt c])) → Below base w w' → K (a.put o.dst v') w') :
    if Region.wanted o (yielded ops a.tmps) = true then Oper.wp Tryz.prog o a ((w.alloc (.cells #[.int .u8 b, .int .u8 c] 5)).drew) K Q else E :=
  step_append_two w.drew hgd s x ho base v n l hs hown.drew b c hb.1 hb.2 hc.1 hc.2 hx hn hbase fun v' w' h1 h2 => h v' w' h1 (below_of_drew h2)
/-- 'wpList_append_byte', and a text's iterator stands as it stood. -/
theorem wpList_append_byte_it {ops : Array Oper} {rest : List Oper} {o : Oper} {a : Act} {Q : Exit → Act → World → Prop} (w : World) (hgd : o.guard = none) (s x : Operand)
    (ho : o.op = .call { callee := .builtin .append, args := #[s, x], argTypes := #[112, 112] })
    (base : Nat) (v : Value) (n : Nat) (l : List UInt8) (hs : a.eval s = v) (hown : w.ownsRow base 5 1 v n (cellsB l)) (b : Int) (hb0 : 0 ≤ b) (hb1 : b < 256)
    (hx : a.eval x = .slice (some ⟨w.heap.size, 0, none⟩) 1 1) (hn : n ≤ 70368744177664) (hbase : base ≤ w.heap.size)
    (it : Nat) (txt : ByteArray) (pos : Nat) (hit : w.heap[it]? = some (.stringIter txt pos))
    (h : ∀ v' w', w'.ownsRow base 5 1 v' (n + 1) (cellsB (l ++ [byt b])) → Below base w w' → w'.heap[it]? = some (.stringIter txt pos) → wpList Tryz.prog ops Q rest (a.put o.dst v') w') :
    wpList Tryz.prog ops Q (o :: rest) a (w.alloc (.cells #[.int .u8 b] 5)) := by
  obtain ⟨i0, hi, hz0, hz1, hz2⟩ := info_parts Tryz.info5
  refine wpList_append_own (w.alloc (.cells #[.int .u8 b] 5)) hgd s x 112 ho base 5 i0 (.int .u8 0) 1 1 Tryz.underlying112 hi hz0 hz1 hz2 rfl (by decide) v n (cellsB l) hs (hown.alloc _) ⟨w.heap.size, 0, none⟩ 1 1 [.int .u8 b] hx rfl (cell_one_new _ _ _)
    (fun u hu => by simp at hu; subst hu; rfl) (by unfold maxLen; omega) (by omega) (by simp; omega) ?_
  intro v' w' h1 h2 _
  have hlt : it < w.heap.size := lt_of_block hit
  have hne : some it ≠ v.ownBlock := by
    rcases hown.2 with ⟨rfl, _⟩ | ⟨g, cap, cur, rfl, _, hg, _⟩
    · simp [Value.ownBlock]
    · intro e
      have : it = g := by simpa [Value.ownBlock] using e
      subst this
      rw [hit] at hg
      cases hg
  refine h v' w' (by rw [cellsB_append, cellsB_one b hb0 hb1]; exact h1) ?_ ?_
  · exact ((Below.refl base w).alloc hbase _).grown h2 (by simp; omega) (fun q hq => (hown.lt q hq).1)
  · rw [h2.block it (by simp; omega) hne, Below.heap_alloc _ _ _ hlt, hit]
/-- 'wpList_append_byte', and every block that is no row of bytes stands as it stood. -/
theorem wpList_append_byte_k {ops : Array Oper} {rest : List Oper} {o : Oper} {a : Act} {Q : Exit → Act → World → Prop} (w : World) (hgd : o.guard = none) (s x : Operand)
    (ho : o.op = .call { callee := .builtin .append, args := #[s, x], argTypes := #[112, 112] })
    (base : Nat) (v : Value) (n : Nat) (l : List UInt8) (hs : a.eval s = v) (hown : w.ownsRow base 5 1 v n (cellsB l)) (b : Int) (hb0 : 0 ≤ b) (hb1 : b < 256)
    (hx : a.eval x = .slice (some ⟨w.heap.size, 0, none⟩) 1 1) (hn : n ≤ 70368744177664) (hbase : base ≤ w.heap.size)
    (h : ∀ v' w', w'.ownsRow base 5 1 v' (n + 1) (cellsB (l ++ [byt b])) → Below base w w' → (∀ (k : Nat) (o : Obj), w.heap[k]? = some o → (∀ c fz, o ≠ .cells c 5 fz) → w'.heap[k]? = some o) → wpList Tryz.prog ops Q rest (a.put o.dst v') w') :
    wpList Tryz.prog ops Q (o :: rest) a (w.alloc (.cells #[.int .u8 b] 5)) := by
  obtain ⟨i0, hi, hz0, hz1, hz2⟩ := info_parts Tryz.info5
  refine wpList_append_own (w.alloc (.cells #[.int .u8 b] 5)) hgd s x 112 ho base 5 i0 (.int .u8 0) 1 1 Tryz.underlying112 hi hz0 hz1 hz2 rfl (by decide) v n (cellsB l) hs (hown.alloc _) ⟨w.heap.size, 0, none⟩ 1 1 [.int .u8 b] hx rfl (cell_one_new _ _ _)
    (fun u hu => by simp at hu; subst hu; rfl) (by unfold maxLen; omega) (by omega) (by simp; omega) ?_
  intro v' w' h1 h2 _
  refine h v' w' (by rw [cellsB_append, cellsB_one b hb0 hb1]; exact h1) ?_ ?_
  · exact ((Below.refl base w).alloc hbase _).grown h2 (by simp; omega) (fun q hq => (hown.lt q hq).1)
  · intro k ob hk hob
    have hlt : k < w.heap.size := lt_of_block hk
    have hne : some k ≠ v.ownBlock := by
      rcases hown.2 with ⟨rfl, _⟩ | ⟨g, cap, cur, rfl, _, hg, _⟩
      · simp [Value.ownBlock]
      · intro e
        have : k = g := by simpa [Value.ownBlock] using e
        subst this
        rw [hk] at hg
        exact hob _ _ (Option.some.inj hg)
    rw [h2.block k (by simp; omega) hne, Below.heap_alloc _ _ _ hlt, hk]
end Go.Proofs.YtkaihnlknncfdaaGreatDoor

/- The model's l6In, l6Out: what they answer. -/
namespace Go.Proofs.YtkaihnlknncfdaaGreatDoor
set_option maxRecDepth 100000
open Go.RowKit M
set_option linter.unusedVariables false
set_option linter.unusedSimpArgs false

theorem own_empty5 (w : World) (o : Obj) : ((w.alloc o).alloc (.cells #[] 5)).ownsRow (w.heap.size + 1) 5 1 (.slice (some ⟨w.heap.size + 1, 0, none⟩) 0 0) 0 (cellsB []) :=
  ⟨rfl, Or.inr ⟨w.heap.size + 1, 0, #[], rfl, Nat.le_refl _, box2 _ _ _, Nat.le_refl _, by unfold maxLen; omega, rfl, rfl⟩⟩
set_option maxHeartbeats 4000000 in
theorem specIn_cd (x : DCandidate) (v : Value) (F : Addr → Prop) (w : World) (hl : x.Links.length ≤ 1048576) (hv : RowRd rLink false w v x.Links F) :
    Calls Tryz.prog 114 #[.agg #[v]] w fun e w' => e = .returned (.string ⟨(inL x.Links).toArray⟩) ∧ Below w.heap.size w w' := by
  obtain ⟨A, cap, rfl⟩ := hv.form
  have HV := Lib.hid hv
  clear hv
  have HX : Hid (∀ k, k < x.Links.length → ∃ y, x.Links[k]? = some y) := fun k hk => ⟨_, List.getElem?_eq_getElem hk⟩
  go_enter Tryz.func114, Tryz.ntmps114
  go_wp2
  go_loopw [3, 4] (fun u i wr => ∃ (k : Nat), k ≤ x.Links.length ∧ i = .int .i64 k ∧ wr.ownsRow (w.heap.size + 1) 5 1 u (inL (x.Links.take k)).length (cellsB (inL (x.Links.take k))) ∧ Below w.heap.size w wr ∧ Hid (w.heap.size + 1 ≤ wr.heap.size) ∧ InC wr w.heap.size #[.slice A x.Links.length cap] 55) (fun _ i _ => x.Links.length - (intOf i).toNat)
  case atStart => exact ⟨0, by omega, rfl, own_empty5 _ _, ((Below.refl _ _).alloc (Nat.le_refl _) _).alloc (by simp) _, by unfold Hid; simp, box1 _ _ _⟩
  case round =>
    obtain ⟨k, hk, rfl, ho, hbe, hs1, hi1⟩ := hrel
    have b1 := hi1.cell 0 rfl
    have HBE := Lib.hid hbe
    have HI1 := Lib.hid hi1
    clear hbe hi1
    by_cases hkl : k < x.Links.length
    · obtain ⟨y, hy⟩ := HX.out k hkl
      obtain ⟨g, off, xs, Fk, rfl, _, hra, _, hca⟩ := (HV.out.kept HBE.out).get hy
      obtain rfl := rLink_rd hra
      rw [rLink_size] at hca
      have c0 := hca 0 _ rfl
      have c1 := hca 1 _ rfl
      simp only [Nat.add_zero] at c0
      have HIY := Lib.hid (fun h => inL_yes hy h)
      have HIN := Lib.hid (fun h => inL_no hy h)
      have hli := inL_len x.Links k
      clear hca hra hy
      have ha := u8_in y.In
      generalize inL (x.Links.take k) = I0 at *
      generalize (y.In.toNat : Int) = a at *
      generalize (y.Out.toNat : Int) = b at *
      have HAB := Lib.hid ha
      have HO := Lib.hid ho
      have HLE : Hid (I0.length ≤ 70368744177664) := by unfold Hid; omega
      clear ha hli ho
      by_cases ha0 : a = 0
      · have HI := Lib.hid (HIN.out ha0)
        subst ha0
        go_wp2
        go_roundw
        case rel => exact ⟨k + 1, by omega, by go_num, by rw [HI.out]; exact HO.out, HBE.out, hs1, HI1.out⟩
        case measure => simp [intOf]; omega
      · have HI := Lib.hid (HIY.out ha0)
        go_wp2_with (at_builtin; refine wpList_append_byte_k _ rfl (.tmp 20) (.tmp 27) rfl (w.heap.size + 1) _ _ _ rfl HO.out a HAB.out.1 HAB.out.2 rfl HLE.out hs1.out ?_; intro v' w1 h1 hb1 hk1; have HO2 := Lib.hid h1; have HB1 := Lib.hid hb1; have HI2 : Hid (InC w1 w.heap.size #[.slice (some ⟨g, off, none⟩) x.Links.length cap] 55) := hk1 _ _ HI1.out (by intro c fz e; cases e); clear h1 hb1 hk1)
        go_roundw
        case rel => exact ⟨k + 1, by omega, by go_num, by rw [HI.out, List.length_append]; exact HO2.out, HBE.out.trans (HB1.out.mono (Nat.le_succ _)), Nat.le_trans hs1.out HB1.out.size, HI2.out⟩
        case measure => simp [intOf]; omega
    · obtain rfl : k = x.Links.length := by omega
      rw [List.take_length] at ho
      have hcv := conv_own ho
      clear ho
      go_wp2
      go_ret
      exact ⟨rfl, HBE.out⟩
set_option maxHeartbeats 4000000 in
theorem specOut_cd (x : DCandidate) (v : Value) (F : Addr → Prop) (w : World) (hl : x.Links.length ≤ 1048576) (hv : RowRd rLink false w v x.Links F) :
    Calls Tryz.prog 105 #[.agg #[v]] w fun e w' => e = .returned (.string ⟨(outL x.Links).toArray⟩) ∧ Below w.heap.size w w' := by
  obtain ⟨A, cap, rfl⟩ := hv.form
  have HV := Lib.hid hv
  clear hv
  have HX : Hid (∀ k, k < x.Links.length → ∃ y, x.Links[k]? = some y) := fun k hk => ⟨_, List.getElem?_eq_getElem hk⟩
  go_enter Tryz.func105, Tryz.ntmps105
  go_wp2
  go_loopw [3, 4] (fun u i wr => ∃ (k : Nat), k ≤ x.Links.length ∧ i = .int .i64 k ∧ wr.ownsRow (w.heap.size + 1) 5 1 u (outL (x.Links.take k)).length (cellsB (outL (x.Links.take k))) ∧ Below w.heap.size w wr ∧ Hid (w.heap.size + 1 ≤ wr.heap.size) ∧ InC wr w.heap.size #[.slice A x.Links.length cap] 55) (fun _ i _ => x.Links.length - (intOf i).toNat)
  case atStart => exact ⟨0, by omega, rfl, own_empty5 _ _, ((Below.refl _ _).alloc (Nat.le_refl _) _).alloc (by simp) _, by unfold Hid; simp, box1 _ _ _⟩
  case round =>
    obtain ⟨k, hk, rfl, ho, hbe, hs1, hi1⟩ := hrel
    have b1 := hi1.cell 0 rfl
    have HBE := Lib.hid hbe
    have HI1 := Lib.hid hi1
    clear hbe hi1
    by_cases hkl : k < x.Links.length
    · obtain ⟨y, hy⟩ := HX.out k hkl
      obtain ⟨g, off, xs, Fk, rfl, _, hra, _, hca⟩ := (HV.out.kept HBE.out).get hy
      obtain rfl := rLink_rd hra
      rw [rLink_size] at hca
      have c0 := hca 0 _ rfl
      have c1 := hca 1 _ rfl
      simp only [Nat.add_zero] at c0
      have HIY := Lib.hid (fun h => outL_yes hy h)
      have HIN := Lib.hid (fun h => outL_no hy h)
      have hli := outL_len x.Links k
      clear hca hra hy
      have ha := u8_in y.Out
      generalize outL (x.Links.take k) = I0 at *
      generalize (y.In.toNat : Int) = b at *
      generalize (y.Out.toNat : Int) = a at *
      have HAB := Lib.hid ha
      have HO := Lib.hid ho
      have HLE : Hid (I0.length ≤ 70368744177664) := by unfold Hid; omega
      clear ha hli ho
      by_cases ha0 : a = 0
      · have HI := Lib.hid (HIN.out ha0)
        subst ha0
        go_wp2
        go_roundw
        case rel => exact ⟨k + 1, by omega, by go_num, by rw [HI.out]; exact HO.out, HBE.out, hs1, HI1.out⟩
        case measure => simp [intOf]; omega
      · have HI := Lib.hid (HIY.out ha0)
        go_wp2_with (at_builtin; refine wpList_append_byte_k _ rfl (.tmp 20) (.tmp 27) rfl (w.heap.size + 1) _ _ _ rfl HO.out a HAB.out.1 HAB.out.2 rfl HLE.out hs1.out ?_; intro v' w1 h1 hb1 hk1; have HO2 := Lib.hid h1; have HB1 := Lib.hid hb1; have HI2 : Hid (InC w1 w.heap.size #[.slice (some ⟨g, off, none⟩) x.Links.length cap] 55) := hk1 _ _ HI1.out (by intro c fz e; cases e); clear h1 hb1 hk1)
        go_roundw
        case rel => exact ⟨k + 1, by omega, by go_num, by rw [HI.out, List.length_append]; exact HO2.out, HBE.out.trans (HB1.out.mono (Nat.le_succ _)), Nat.le_trans hs1.out HB1.out.size, HI2.out⟩
        case measure => simp [intOf]; omega
    · obtain rfl : k = x.Links.length := by omega
      rw [List.take_length] at ho
      have hcv := conv_own ho
      clear ho
      go_wp2
      go_ret
      exact ⟨rfl, HBE.out⟩
end Go.Proofs.YtkaihnlknncfdaaGreatDoor

/- The model's IsCandidate, InputOf, OutputOf: what they answer. -/
namespace Go.Proofs.YtkaihnlknncfdaaGreatDoor
set_option maxRecDepth 100000
open Go.RowKit M
set_option linter.unusedVariables false
set_option linter.unusedSimpArgs false

set_option maxRecDepth 100000 in
set_option maxHeartbeats 8000000 in
theorem specIsCd_any (x : DCandidate) (v : Value) (F : Addr → Prop) (w : World) (hl : x.Links.length ≤ 1048576) (hv : RowRd rLink false w v x.Links F) :
    Calls Tryz.prog 76 #[.agg #[v]] w fun e w' => e = .returned (.bool (isCd x.Links)) ∧ Below w.heap.size w w' := by
  obtain ⟨A, cap, rfl⟩ := hv.form
  have HV := Lib.hid hv
  clear hv
  have HX : Hid (∀ k, k < x.Links.length → ∃ y, x.Links[k]? = some y) := fun k hk => ⟨_, List.getElem?_eq_getElem hk⟩
  have HNOT : Hid (∀ k (y : DLink), x.Links[k]? = some y → okI (y.In.toNat : Int) (y.Out.toNat : Int) = false → isCd x.Links = false) := fun k y h1 h2 => isCd_not h1 h2
  go_enter Tryz.func76, Tryz.ntmps76
  go_wp2
  go_loopw [3] (fun i wr => ∃ (k : Nat), k ≤ x.Links.length ∧ i = .int .i64 k ∧ Hid (∀ j (y : DLink), x.Links[j]? = some y → j < k → okI (y.In.toNat : Int) (y.Out.toNat : Int) = true) ∧ Below w.heap.size w wr ∧ InC wr w.heap.size #[.slice A x.Links.length cap] 55) (fun i _ => x.Links.length - (intOf i).toNat)
  case atStart => exact ⟨0, by omega, rfl, fun j y _ h => by omega, (Below.refl _ _).alloc (Nat.le_refl _) _, heap_alloc_new _ _⟩
  case round =>
    obtain ⟨k, hk, rfl, hall, hbe, hi1⟩ := hrel
    have b1 := hi1.cell 0 rfl
    have HBE := Lib.hid hbe
    have HI1 := Lib.hid hi1
    clear hbe hi1
    by_cases hkl : k < x.Links.length
    · obtain ⟨y, hy⟩ := HX.out k hkl
      obtain ⟨g, off, xs, Fk, rfl, _, hra, _, hca⟩ := (HV.out.kept HBE.out).get hy
      obtain rfl := rLink_rd hra
      rw [rLink_size] at hca
      have c0 := hca 0 _ rfl
      have c1 := hca 1 _ rfl
      simp only [Nat.add_zero] at c0
      have HY := Lib.hid hy
      clear hca hra hy
      have HOK : Hid (okI (y.In.toNat : Int) (y.Out.toNat : Int) = true → ∀ j (z : DLink), x.Links[j]? = some z → j < k + 1 → okI (z.In.toNat : Int) (z.Out.toNat : Int) = true) := fun h j z hz hj => by
        by_cases hjk : j = k
        · subst hjk; rw [HY.out] at hz; cases hz; exact h
        · exact hall.out j z hz (by omega)
      have HNO := Lib.hid (HNOT.out k y HY.out)
      have ha := u8_in y.In
      have hb := u8_in y.Out
      generalize (y.In.toNat : Int) = a at *
      generalize (y.Out.toNat : Int) = b at *
      have HAB := Lib.hid (And.intro ha hb)
      have HM : Hid (okM a b = okI a b) := okM_eq a b
      have HB2 : Hid (Below w.heap.size w (wr.alloc (.cells #[.int .u8 a, .int .u8 b] 118))) := HBE.out.alloc HBE.out.size _
      have HI2 : Hid (InC (wr.alloc (.cells #[.int .u8 a, .int .u8 b] 118)) w.heap.size #[.slice (some ⟨g, off, none⟩) x.Links.length cap] 55) := HI1.out.kept ((Below.refl _ _).alloc (Nat.le_refl _) _)
      clear ha hb HY
      go_wp2_with fail
      refine (specSwap_any a _).mono ?_
      rintro e w2 ⟨rfl, rfl⟩
      have HSA : Hid (∀ W, Calls Tryz.prog 113 #[.int .u8 a] W fun e w' => e = .returned (.bool (isSnd a)) ∧ W = w') := fun W => specIsSound_any a W
      have HSB : Hid (∀ W, Calls Tryz.prog 113 #[.int .u8 b] W fun e w' => e = .returned (.bool (isSnd b)) ∧ W = w') := fun W => specIsSound_any b W
      have b2 := HI2.out.cell 0 rfl
      have HM2 : Hid (okI a b = (!((!decide (a = 0) && !isSnd a) || (!decide (b = 0) && !isSnd b) || (decide (a = 0) && decide (b = 0))) && !(!decide (a = 0) && !decide (b = 0) && !decide (a = b) && !(isObs a && decide (swapV a = b))))) := HM.out.symm
      generalize isSnd a = sa at *
      generalize isSnd b = sb at *
      generalize swapV a = s at *
      generalize isObs a = oa at *
      by_cases ha0 : a = 0
      · subst ha0
        by_cases hb0 : b = 0
        · subst hb0
          have HR := Lib.hid (HNO.out (by rw [HM2.out]; simp))
          go_wp2_with fail
          go_ret
          exact ⟨ret_bool HR.out.symm, HB2.out⟩
        · cases sb
          · have HR := Lib.hid (HNO.out (by rw [HM2.out]; simp [hb0]))
            go_wp2_with fail
            refine (HSB.out _).mono ?_
            rintro e w2 ⟨rfl, rfl⟩
            go_wp2_with fail
            go_ret
            exact ⟨ret_bool HR.out.symm, HB2.out⟩
          · have HALL := Lib.hid (HOK.out (by rw [HM2.out]; simp [hb0]))
            go_wp2_with fail
            refine (HSB.out _).mono ?_
            rintro e w2 ⟨rfl, rfl⟩
            go_wp2_with fail
            go_roundw
            case rel => exact ⟨k + 1, by omega, by go_num, HALL, HB2.out, HI2.out⟩
            case measure => simp [intOf]; omega
      · cases sa
        · have HR := Lib.hid (HNO.out (by rw [HM2.out]; simp [ha0]))
          go_wp2_with fail
          refine (HSA.out _).mono ?_
          rintro e w2 ⟨rfl, rfl⟩
          go_wp2_with fail
          go_ret
          exact ⟨ret_bool HR.out.symm, HB2.out⟩
        · by_cases hb0 : b = 0
          · subst hb0
            have HALL := Lib.hid (HOK.out (by rw [HM2.out]; simp [ha0]))
            go_wp2_with fail
            refine (HSA.out _).mono ?_
            rintro e w2 ⟨rfl, rfl⟩
            go_wp2_with fail
            go_roundw
            case rel => exact ⟨k + 1, by omega, by go_num, HALL, HB2.out, HI2.out⟩
            case measure => simp [intOf]; omega
          · cases sb
            · have HR := Lib.hid (HNO.out (by rw [HM2.out]; simp [ha0, hb0]))
              go_wp2_with fail
              refine (HSA.out _).mono ?_
              rintro e w2 ⟨rfl, rfl⟩
              go_wp2_with fail
              refine (HSB.out _).mono ?_
              rintro e w2 ⟨rfl, rfl⟩
              go_wp2_with fail
              go_ret
              exact ⟨ret_bool HR.out.symm, HB2.out⟩
            · go_wp2_with fail
              refine (HSA.out _).mono ?_
              rintro e w2 ⟨rfl, rfl⟩
              go_wp2_with fail
              refine (HSB.out _).mono ?_
              rintro e w2 ⟨rfl, rfl⟩
              by_cases hab : a = b
              · subst hab
                have HALL := Lib.hid (HOK.out (by rw [HM2.out]; simp [ha0]))
                go_wp2_with fail
                go_roundw
                case rel => exact ⟨k + 1, by omega, by go_num, HALL, HB2.out, HI2.out⟩
                case measure => simp [intOf]; omega
              · have q1 : (a != 0) = true := by simpa using ha0
                have q2 : (b != 0) = true := by simpa using hb0
                have q3 : (a != b) = true := by simpa using hab
                cases oa
                · have HR := Lib.hid (HNO.out (by rw [HM2.out]; simp [ha0, hb0, hab]))
                  go_wp2_with fail
                  go_ret
                  exact ⟨ret_bool HR.out.symm, HB2.out⟩
                · by_cases hsb : s = b
                  · subst hsb
                    have HALL := Lib.hid (HOK.out (by rw [HM2.out]; simp [ha0, hb0, hab]))
                    go_wp2_with fail
                    go_roundw
                    case rel => exact ⟨k + 1, by omega, by go_num, HALL, HB2.out, HI2.out⟩
                    case measure => simp [intOf]; omega
                  · have HR := Lib.hid (HNO.out (by rw [HM2.out]; simp [ha0, hb0, hab, hsb]))
                    have q4 : (s == b) = false := by simpa using hsb
                    go_wp2_with fail
                    go_ret
                    exact ⟨ret_bool HR.out.symm, HB2.out⟩
    · obtain rfl : k = x.Links.length := by omega
      have HI : Hid (isCd x.Links = (decide ((x.Links.length : Int) ≤ 16) && (isFm ⟨(inL x.Links).toArray⟩ && isFm ⟨(outL x.Links).toArray⟩))) := by
        unfold Hid isCd
        rw [all_ok (fun j y h1 h2 => hall.out j y h1 h2), Bool.true_and]
      by_cases h16 : (x.Links.length : Int) ≤ 16
      · have hli := inL_len_all x.Links
        have hlo := outL_len_all x.Links
        have HLI : Hid ((⟨(inL x.Links).toArray⟩ : ByteArray).size ≤ maxLen) := by unfold Hid maxLen; simp [ByteArray.size]; omega
        have HLO : Hid ((⟨(outL x.Links).toArray⟩ : ByteArray).size ≤ maxLen) := by unfold Hid maxLen; simp [ByteArray.size]; omega
        have HS1 : Hid (∀ W, Below w.heap.size w W → Calls Tryz.prog 114 #[.agg #[.slice A x.Links.length cap]] W fun e w' => e = .returned (.string ⟨(inL x.Links).toArray⟩) ∧ Below W.heap.size W w') := fun W hW => specIn_cd x _ F W hl (HV.out.kept hW)
        have HS2 : Hid (∀ W, Below w.heap.size w W → Calls Tryz.prog 105 #[.agg #[.slice A x.Links.length cap]] W fun e w' => e = .returned (.string ⟨(outL x.Links).toArray⟩) ∧ Below W.heap.size W w') := fun W hW => specOut_cd x _ F W hl (HV.out.kept hW)
        have HI' : Hid (isCd x.Links = (isFm ⟨(inL x.Links).toArray⟩ && isFm ⟨(outL x.Links).toArray⟩)) := by unfold Hid; rw [HI.out, decide_eq_true h16, Bool.true_and]
        go_wp2_with fail
        refine (HS1.out _ HBE.out).mono ?_
        rintro e w2 ⟨rfl, hb2⟩
        have b2 := (HI1.out.kept hb2).cell 0 rfl
        have HB2 : Hid (Below w.heap.size w w2) := below_step HBE.out hb2
        clear hb2
        go_wp2_with fail
        refine (specFm_any ⟨(inL x.Links).toArray⟩ _ HLI.out).mono ?_
        rintro e w3 ⟨rfl, rfl⟩
        generalize isFm ⟨(inL x.Links).toArray⟩ = fi at *
        cases fi
        · go_wp2_with fail
          go_ret
          exact ⟨ret_bool (by rw [HI'.out] <;> simp), HB2.out⟩
        · go_wp2_with fail
          refine (HS2.out _ HB2.out).mono ?_
          rintro e w3 ⟨rfl, hb3⟩
          have HB3 : Hid (Below w.heap.size w w3) := below_step HB2.out hb3
          clear hb3
          go_wp2_with fail
          refine (specFm_any ⟨(outL x.Links).toArray⟩ _ HLO.out).mono ?_
          rintro e w4 ⟨rfl, rfl⟩
          go_wp2_with fail
          go_ret
          exact ⟨ret_bool (by rw [HI'.out] <;> simp), HB3.out⟩
      · have HR : Hid (isCd x.Links = false) := by unfold Hid; rw [HI.out, decide_eq_false h16, Bool.false_and]
        go_wp2_with fail
        go_ret
        exact ⟨ret_bool (by rw [HR.out] <;> simp [h16]), HBE.out⟩
def inS (l : List DLink) : List UInt8 := if isCd l then inL l else []
def outS (l : List DLink) : List UInt8 := if isCd l then outL l else []
set_option maxHeartbeats 4000000 in
set_option maxHeartbeats 4000000 in
theorem specOutput_any (x : DCandidate) (v : Value) (F : Addr → Prop) (w : World) (hl : x.Links.length ≤ 1048576) (hv : RowRd rLink false w v x.Links F) :
    Calls Tryz.prog 61 #[.agg #[v]] w fun e w' => e = .returned (.string ⟨(outS x.Links).toArray⟩) ∧ Below w.heap.size w w' := by
  have HS0 : Hid (∀ W, Below w.heap.size w W → Calls Tryz.prog 76 #[.agg #[v]] W fun e w' => e = .returned (.bool (isCd x.Links)) ∧ Below W.heap.size W w') := fun W hW => specIsCd_any x _ F W hl (hv.kept hW)
  have HS1 : Hid (∀ W, Below w.heap.size w W → Calls Tryz.prog 105 #[.agg #[v]] W fun e w' => e = .returned (.string ⟨(outL x.Links).toArray⟩) ∧ Below W.heap.size W w') := fun W hW => specOut_cd x _ F W hl (hv.kept hW)
  obtain ⟨A, cap, rfl⟩ := hv.form
  clear hv
  have HE : Hid (outS x.Links = if isCd x.Links then outL x.Links else []) := rfl
  generalize isCd x.Links = c at *
  generalize outS x.Links = r at *
  have HA : Hid (∀ o, Below w.heap.size w (w.alloc o)) := fun o => (Below.refl _ _).alloc (Nat.le_refl _) _
  have HA1 : Hid (InC (w.alloc (.cells #[.slice A x.Links.length cap] 55)) w.heap.size #[.slice A x.Links.length cap] 55) := heap_alloc_new _ _
  go_enter Tryz.func61, Tryz.ntmps61
  go_wp2_with fail
  refine (HS0.out _ (HA.out _)).mono ?_
  rintro e w2 ⟨rfl, hb⟩
  have b1 := (HA1.out.kept hb).cell 0 rfl
  have HB : Hid (Below w.heap.size w w2) := below_step (HA.out _) hb
  clear hb
  cases c
  · go_wp2_with fail
    go_ret
    exact ⟨ret_str (by rw [HE.out] <;> rfl), HB.out⟩
  · go_wp2_with fail
    refine (HS1.out _ HB.out).mono ?_
    rintro e w3 ⟨rfl, hb⟩
    have HB3 : Hid (Below w.heap.size w w3) := below_step HB.out hb
    clear hb
    go_wp2_with fail
    go_ret
    exact ⟨ret_str (by rw [HE.out] <;> rfl), HB3.out⟩
end Go.Proofs.YtkaihnlknncfdaaGreatDoor

/- What a name of a constraint counts: plain mathematics. -/
namespace Go.Proofs.YtkaihnlknncfdaaGreatDoor
set_option maxRecDepth 100000
open Go.RowKit M
set_option linter.unusedVariables false
set_option linter.unusedSimpArgs false

/-- The place of a name among the ten; ten where it is none. -/
def nix (x : ByteArray) : Nat := namesB.findIdx fun y => decide (y = x)
theorem nix_le (x : ByteArray) : nix x ≤ 10 := List.findIdx_le_length
theorem nix_at {x : ByteArray} (h : nix x < 10) : namesB[nix x]? = some x := by
  have h1 : nix x < namesB.length := h
  have := List.findIdx_getElem (w := h1)
  rw [List.getElem?_eq_getElem h1]
  have h2 : namesB[List.findIdx (fun y => decide (y = x)) namesB] = x := by simpa using this
  exact congrArg some h2
theorem nix_self : ∀ i, i < 10 → nix (namesB.getD i ByteArray.empty) = i := by decide +kernel
theorem nix_of {x : ByteArray} {i : Nat} (h : namesB[i]? = some x) : nix x = i := by
  have hi : i < 10 := (List.getElem?_eq_some_iff.1 h).1
  have h2 := nix_self i hi
  rw [List.getD_eq_getElem?_getD, h] at h2
  exact h2
theorem hasB_nix (x : ByteArray) : hasB namesB x = decide (nix x < 10) := by
  cases hh : hasB namesB x with
  | true =>
    unfold hasB at hh
    rw [List.any_eq_true] at hh
    obtain ⟨y, hy, he⟩ := hh
    obtain rfl : y = x := by simpa using he
    obtain ⟨k, hk, rfl⟩ := List.getElem_of_mem hy
    rw [nix_of (List.getElem?_eq_getElem hk)]
    exact (decide_eq_true hk).symm
  | false =>
    rw [eq_comm, decide_eq_false_iff_not]
    intro h
    rw [hasB_yes (nix_at h)] at hh
    cases hh
/-- The test that a text is this name. -/
theorem nix_test (x y : ByteArray) (i : Nat) (h : namesB[i]? = some y) : (x.toList == y.toList) = decide (nix x = i) := by
  by_cases e : x = y
  · subst e
    rw [nix_of h]
    simp
  · have h1 : ¬ nix x = i := fun hn => by
      have hi : i < 10 := (List.getElem?_eq_some_iff.1 h).1
      have h2 := nix_at (x := x) (by omega)
      rw [hn, h] at h2
      exact e (Option.some.inj h2).symm
    have h2 : ¬ x.toList = y.toList := fun ht => e (by rw [Lib.toList_data, Lib.toList_data] at ht; exact ByteArray.ext (Array.toList_inj.1 ht))
    rw [decide_eq_false h1, beq_eq_false_iff_ne.2 h2]
def outT (l : List DLink) : ByteArray := ⟨(outS l).toArray⟩
theorem outT_size (l : List DLink) : (outT l).size ≤ l.length := by
  show (outS l).toArray.size ≤ _
  rw [List.size_toArray]
  unfold outS
  split
  · exact outL_len_all l
  · simp
/-- The j-th count. -/
def cntN (j : Nat) (l : List DLink) : Int := match j with
  | 0 => (mkC nconsB vowB (outT l) : Nat)
  | 1 => (mkC consB nvowB (outT l) : Nat)
  | 2 => (mkC consB consB (outT l) : Nat)
  | 3 => (mkC anyB vobB (outT l) : Nat)
  | 4 => (mkC vobB edgB (outT l) : Nat)
  | 5 => (mkC nasB vlsB (outT l) : Nat)
  | 6 => (cntC delK l : Nat)
  | 7 => (cntC insK l : Nat)
  | 8 => (cntC vchK l : Nat)
  | 9 => (brkC l : Nat)
  | _ => -1
theorem cntN_none (l : List DLink) {j : Nat} (h : 10 ≤ j) : cntN j l = -1 := by
  obtain ⟨k, rfl⟩ : ∃ k, j = k + 10 := ⟨j - 10, by omega⟩
  rfl
/-- How often a candidate violates a constraint; -1 if there is none of this name or the candidate is not valid. -/
def vioN (x : ByteArray) (l : List DLink) : Int := if isCd l then cntN (nix x) l else -1
theorem vioN_no {x : ByteArray} {l : List DLink} (h : isCd l = false) : vioN x l = -1 := by unfold vioN; rw [h]; rfl
theorem vioN_yes {x : ByteArray} {l : List DLink} (h : isCd l = true) : vioN x l = cntN (nix x) l := by unfold vioN; rw [if_pos h]
theorem vioN_at {x : ByteArray} {l : List DLink} {j : Nat} (h : isCd l = true) (hj : nix x = j) : vioN x l = cntN j l := by rw [vioN_yes h, hj]
/-- The first k of the counts of these names. -/
def profTo (ns : List ByteArray) (l : List DLink) (k : Nat) : List Int := (ns.take k).map fun x => vioN x l
def profN (ns : List ByteArray) (l : List DLink) : List Int := if areC ns && isCd l then profTo ns l ns.length else []
theorem profTo_len {ns : List ByteArray} {l : List DLink} {k : Nat} (h : k ≤ ns.length) : (profTo ns l k).length = k := by unfold profTo; rw [List.length_map, List.length_take]; omega
theorem profTo_step {ns : List ByteArray} {l : List DLink} {k : Nat} {x : ByteArray} (h : ns[k]? = some x) : profTo ns l (k + 1) = profTo ns l k ++ [vioN x l] := by
  unfold profTo
  rw [List.take_add_one, h, List.map_append]; rfl
theorem profN_no {ns : List ByteArray} {l : List DLink} (h : areC ns = false ∨ isCd l = false) : profN ns l = [] := by
  unfold profN
  rcases h with h | h <;> rw [h] <;> simp
theorem profN_yes {ns : List ByteArray} {l : List DLink} (h : areC ns = true) (h2 : isCd l = true) : profN ns l = profTo ns l ns.length := by unfold profN; rw [h, h2]; rfl
theorem profN_len (ns : List ByteArray) (l : List DLink) : (profN ns l).length ≤ 5 := by
  unfold profN
  split
  · rename_i h
    rw [Bool.and_eq_true] at h
    have := (areC_len h.1).2
    rw [profTo_len (Nat.le_refl _)]
    omega
  · simp
end Go.Proofs.YtkaihnlknncfdaaGreatDoor

/- Tables: when one is valid: plain mathematics. -/
namespace Go.Proofs.YtkaihnlknncfdaaGreatDoor
set_option maxRecDepth 100000
open Go.RowKit M
set_option linter.unusedVariables false
set_option linter.unusedSimpArgs false

def inT (l : List DLink) : ByteArray := ⟨(inS l).toArray⟩
/-- A row and its marks are as they should be. -/
def rowOk (ns : List ByteArray) (s : ByteArray) (l : List DLink) (m : List Int) : Bool := isCd l && (decide (inT l = s) && decide (m = profN ns l))
def rowAt (x : DTableau) (i : Nat) : Bool := match x.Rows[i]?, x.Marks[i]? with
  | some c, some m => rowOk x.Names x.Input c.Links m
  | _, _ => false
def headT (x : DTableau) : Bool := areC x.Names && (isFm x.Input && ((decide (1 ≤ (x.Rows.length : Int)) && decide ((x.Rows.length : Int) ≤ 250)) && decide ((x.Marks.length : Int) = (x.Rows.length : Int))))
def isTab (x : DTableau) : Bool := headT x && (List.range x.Rows.length).all (rowAt x)
theorem rowAt_of {x : DTableau} {i : Nat} {c : DCandidate} {m : List Int} (h1 : x.Rows[i]? = some c) (h2 : x.Marks[i]? = some m) : rowAt x i = rowOk x.Names x.Input c.Links m := by
  unfold rowAt; rw [h1, h2]
theorem isTab_head {x : DTableau} (h : headT x = false) : isTab x = false := by unfold isTab; rw [h]; rfl
theorem isTab_bad {x : DTableau} {k : Nat} (hk : k < x.Rows.length) (h : rowAt x k = false) : isTab x = false := by
  unfold isTab
  rw [Bool.and_eq_false_iff]
  right
  rw [← Bool.not_eq_true, List.all_eq_true]
  intro h2
  rw [h2 k (List.mem_range.2 hk)] at h
  cases h
theorem isTab_good {x : DTableau} (h1 : headT x = true) (h2 : ∀ k, k < x.Rows.length → rowAt x k = true) : isTab x = true := by
  unfold isTab
  rw [h1, Bool.true_and, List.all_eq_true]
  intro k hk
  exact h2 k (List.mem_range.1 hk)
theorem isTab_row {x : DTableau} (h : isTab x = true) {k : Nat} (hk : k < x.Rows.length) : rowAt x k = true := by
  unfold isTab at h
  rw [Bool.and_eq_true, List.all_eq_true] at h
  exact h.2 k (List.mem_range.2 hk)
theorem headT_of {x : DTableau} (h : isTab x = true) : headT x = true := by
  unfold isTab at h
  rw [Bool.and_eq_true] at h
  exact h.1
theorem headT_parts {x : DTableau} (h : headT x = true) : areC x.Names = true ∧ isFm x.Input = true ∧ 1 ≤ x.Rows.length ∧ x.Rows.length ≤ 250 ∧ x.Marks.length = x.Rows.length := by
  unfold headT at h
  simp only [Bool.and_eq_true, decide_eq_true_eq] at h
  obtain ⟨h1, h2, ⟨h3, h4⟩, h5⟩ := h
  exact ⟨h1, h2, by omega, by omega, by omega⟩
theorem rowOk_parts {ns : List ByteArray} {s : ByteArray} {l : List DLink} {m : List Int} (h : rowOk ns s l m = true) : isCd l = true ∧ inT l = s ∧ m = profN ns l := by
  unfold rowOk at h
  simp only [Bool.and_eq_true, decide_eq_true_eq] at h
  exact h
/-- The sizes within a table. -/
theorem szTab_parts {x : DTableau} (h : rTableau.sz x ≤ 1048576) : x.Input.size ≤ 1048576 ∧ x.Names.length ≤ 1048576 ∧ x.Rows.length ≤ 1048576 ∧ x.Marks.length ≤ 1048576 ∧ (∀ (k : Nat) (c : DCandidate), x.Rows[k]? = some c → c.Links.length ≤ 1048576) ∧ (∀ (k : Nat) (m : List Int), x.Marks[k]? = some m → m.length ≤ 1048576) := by
  rw [rTableau_sz] at h
  have h1 := szRow_len (Rep.str mkT) x.Names
  have h2 := szRow_len rCandidate x.Rows
  have h3 := szRow_len (Rep.row Rep.int) x.Marks
  refine ⟨by omega, by omega, by omega, by omega, fun k c hk => ?_, fun k m hk => ?_⟩
  · have h4 := szRow_at rCandidate x.Rows k hk
    rw [rCandidate_sz] at h4
    have h5 := szRow_len rLink c.Links
    omega
  · have h4 := szRow_at (Rep.row Rep.int) x.Marks k hk
    have h5 : (Rep.row Rep.int).sz m = szRow Rep.int m := rfl
    rw [h5] at h4
    have h6 := szRow_len Rep.int m
    omega
theorem txt_eq (a b : ByteArray) : (a.toList == b.toList) = decide (a = b) := by
  by_cases h : a = b
  · subst h; simp
  · have h2 : ¬ a.toList = b.toList := fun ht => h (by rw [Lib.toList_data, Lib.toList_data] at ht; exact ByteArray.ext (Array.toList_inj.1 ht))
    rw [decide_eq_false h, beq_eq_false_iff_ne.2 h2]
end Go.Proofs.YtkaihnlknncfdaaGreatDoor

/- Lists that differ at a place. -/
namespace Go.Proofs.YtkaihnlknncfdaaGreatDoor
set_option maxRecDepth 100000
open Go.RowKit
set_option linter.unusedVariables false
set_option linter.unusedSimpArgs false

theorem ints_differ {l m : List Int} {k : Nat} {x y : Int} (h1 : l[k]? = some x) (h2 : m[k]? = some y) (h : ¬ x = y) : ¬ l = m := fun e => by
  subst e
  rw [h1] at h2
  exact h (Option.some.inj h2)
theorem list_same {α : Type} {l m : List α} (hl : l.length = m.length) (h : ∀ k, k < l.length → l[k]? = m[k]?) : l = m := by
  apply List.ext_getElem?
  intro k
  by_cases hk : k < l.length
  · exact h k hk
  · rw [List.getElem?_eq_none (by omega), List.getElem?_eq_none (by omega)]
end Go.Proofs.YtkaihnlknncfdaaGreatDoor

/- Rows of numbers compared: what the model's and the program's comparisons answer. -/
namespace Go.Proofs.YtkaihnlknncfdaaGreatDoor
set_option maxRecDepth 100000
open Go.RowKit Go.Sort M
set_option linter.unusedVariables false
set_option linter.unusedSimpArgs false

set_option maxHeartbeats 1000000 in
theorem specSame11_any (v u : Value) (l m : List Int) (F G : Addr → Prop) (w : World) (hv : RowRd Rep.int false w v l F) (hu : RowRd Rep.int false w u m G) :
    Calls Tryz.prog 131 #[v, u] w fun e w' => e = .returned (.bool (decide (l = m))) ∧ Below w.heap.size w w' := by
  obtain ⟨A, cap, rfl⟩ := hv.form
  obtain ⟨A2, cap2, rfl⟩ := hu.form
  have hmx := hv.max
  have hmy := hu.max
  have HV := Lib.hid hv
  have HU := Lib.hid hu
  clear hv hu
  have HX : Hid (∀ k, k < l.length → ∃ x, l[k]? = some x) := fun k hk => ⟨_, List.getElem?_eq_getElem hk⟩
  have HY : Hid (∀ k, k < m.length → ∃ x, m[k]? = some x) := fun k hk => ⟨_, List.getElem?_eq_getElem hk⟩
  have HD : Hid (∀ (k : Nat) (x y : Int), l[k]? = some x → m[k]? = some y → ¬ x = y → ¬ l = m) := fun k x y h1 h2 h => ints_differ h1 h2 h
  have HL : Hid (¬ l.length = m.length → ¬ l = m) := fun h e => h (by rw [e])
  have HALL : Hid (l.length = m.length → (∀ k, k < l.length → l[k]? = m[k]?) → l = m) := list_same
  have HR : Hid ((l = m → decide (l = m) = true) ∧ (¬ l = m → decide (l = m) = false)) := ⟨fun h => decide_eq_true h, fun h => decide_eq_false h⟩
  generalize decide (l = m) = r at *
  generalize hln : l.length = n at *
  generalize hlm : m.length = n2 at *
  clear hln hlm
  go_enter Tryz.func131, Tryz.ntmps131
  by_cases hN : n = n2
  case neg =>
    have hN2 : ¬ (n : Int) = (n2 : Int) := by omega
    have HF := Lib.hid (HR.out.2 (HL.out hN))
    go_wp2
    go_ret
    exact ⟨ret_bool HF.out.symm, Below.refl _ _⟩
  subst hN
  go_wp2
  go_loopw [5] (fun i wr => ∃ (k : Nat), k ≤ n ∧ i = .int .i64 k ∧ Hid (∀ j, j < k → l[j]? = m[j]?) ∧ Below w.heap.size w wr) (fun i _ => n - (intOf i).toNat)
  case atStart => exact ⟨0, by omega, rfl, fun j hj => by omega, Below.refl _ _⟩
  case round =>
    obtain ⟨k, hk, rfl, hall, hbe⟩ := hrel
    have HBE := Lib.hid hbe
    clear hbe
    by_cases hkl : k < n
    · obtain ⟨x, hx⟩ := HX.out k hkl
      obtain ⟨y, hy⟩ := HY.out k hkl
      obtain ⟨g, off, xs, Fk, rfl, _, hrx, _, hcx⟩ := (HV.out.kept HBE.out).get hx
      obtain ⟨g2, off2, ys, Gk, rfl, _, hry, _, hcy⟩ := (HU.out.kept HBE.out).get hy
      obtain ⟨rfl, _⟩ := id hrx
      obtain ⟨rfl, _⟩ := id hry
      have c0 := hcx 0 _ rfl
      have d0 := hcy 0 _ rfl
      simp only [show Rep.int.size = 1 from rfl, Nat.mul_one, Nat.add_zero] at c0 d0
      have HDK := Lib.hid (HD.out k x y hx hy)
      have HEQ : Hid (x = y → ∀ j, j < k + 1 → l[j]? = m[j]?) := fun e j hj => by
        by_cases hjk : j = k
        · subst hjk; rw [hx, hy, e]
        · exact hall.out j (by omega)
      clear hcx hcy hrx hry hx hy
      by_cases hxy : x = y
      · have HE2 := Lib.hid (HEQ.out hxy)
        subst hxy
        go_wp2
        go_quiet (fail)
        go_wp2
        go_roundw
        case rel => exact ⟨k + 1, by omega, by go_num, HE2, ⟨HBE.out.os, HBE.out.tape, HBE.out.output, HBE.out.size, HBE.out.block⟩⟩
        case measure => simp [intOf]; omega
      · have HF := Lib.hid (HR.out.2 (HDK.out hxy))
        go_wp2
        go_quiet (fail)
        go_wp2
        go_ret
        exact ⟨ret_bool HF.out.symm, ⟨HBE.out.os, HBE.out.tape, HBE.out.output, HBE.out.size, HBE.out.block⟩⟩
    · obtain rfl : k = n := by omega
      have HF := Lib.hid (HR.out.1 (HALL.out (by trivial) (fun j hj => hall.out j hj)))
      go_wp2
      go_ret
      exact ⟨ret_bool HF.out.symm, HBE.out⟩
theorem specL11_any (v u : Value) (l m : List Int) (F G : Addr → Prop) (w : World) (hv : RowRd Rep.int false w v l F) (hu : RowRd Rep.int false w u m G) :
    Calls Tryz.prog 88 #[v, u] w fun e w' => e = .returned (.bool (decide (l = m))) ∧ Below w.heap.size w w' := by
  have HC := Lib.hid (specSame11_any v u l m F G w hv hu)
  clear hv hu
  generalize decide (l = m) = r at *
  go_enter Tryz.func88, Tryz.ntmps88
  go_wp2_with fail
  refine HC.out.mono ?_
  rintro e w1 ⟨rfl, hb⟩
  have HB := Lib.hid hb
  clear hb
  go_wp2
  go_ret
  exact ⟨rfl, HB.out⟩
set_option maxHeartbeats 1000000 in
theorem sliceEq_any (v u : Value) (l m : List Int) (F G : Addr → Prop) (w : World) (hv : RowRd Rep.int false w v l F) (hu : RowRd Rep.int false w u m G) :
    Calls Tryz.prog 91 #[v, u] w fun e w' => e = .returned (.bool (decide (l = m))) ∧ Below w.heap.size w w' := by
  obtain ⟨A, cap, rfl⟩ := hv.form
  obtain ⟨A2, cap2, rfl⟩ := hu.form
  have hmx := hv.max
  have hmy := hu.max
  have HV := Lib.hid hv
  have HU := Lib.hid hu
  clear hv hu
  have HX : Hid (∀ k, k < l.length → ∃ x, l[k]? = some x) := fun k hk => ⟨_, List.getElem?_eq_getElem hk⟩
  have HY : Hid (∀ k, k < m.length → ∃ x, m[k]? = some x) := fun k hk => ⟨_, List.getElem?_eq_getElem hk⟩
  have HD : Hid (∀ (k : Nat) (x y : Int), l[k]? = some x → m[k]? = some y → ¬ x = y → ¬ l = m) := fun k x y h1 h2 h => ints_differ h1 h2 h
  have HL : Hid (¬ l.length = m.length → ¬ l = m) := fun h e => h (by rw [e])
  have HALL : Hid (l.length = m.length → (∀ k, k < l.length → l[k]? = m[k]?) → l = m) := list_same
  have HR : Hid ((l = m → decide (l = m) = true) ∧ (¬ l = m → decide (l = m) = false)) := ⟨fun h => decide_eq_true h, fun h => decide_eq_false h⟩
  generalize decide (l = m) = r at *
  generalize hln : l.length = n at *
  generalize hlm : m.length = n2 at *
  clear hln hlm
  go_enter Tryz.func91, Tryz.ntmps91
  by_cases hN : n = n2
  case neg =>
    have hN2 : ¬ (n : Int) = (n2 : Int) := by omega
    have HF := Lib.hid (HR.out.2 (HL.out hN))
    go_wp2
    go_ret
    exact ⟨ret_bool HF.out.symm, Below.refl _ _⟩
  subst hN
  go_wp2
  go_loopw [13] (fun i wr => ∃ (k : Nat), k ≤ n ∧ i = .int .i64 k ∧ Hid (∀ j, j < k → l[j]? = m[j]?) ∧ Below w.heap.size w wr) (fun i _ => n - (intOf i).toNat)
  case atStart => exact ⟨0, by omega, rfl, fun j hj => by omega, Below.refl _ _⟩
  case round =>
    obtain ⟨k, hk, rfl, hall, hbe⟩ := hrel
    have HBE := Lib.hid hbe
    clear hbe
    by_cases hkl : k < n
    · obtain ⟨x, hx⟩ := HX.out k hkl
      obtain ⟨y, hy⟩ := HY.out k hkl
      obtain ⟨g, off, xs, Fk, rfl, _, hrx, _, hcx⟩ := (HV.out.kept HBE.out).get hx
      obtain ⟨g2, off2, ys, Gk, rfl, _, hry, _, hcy⟩ := (HU.out.kept HBE.out).get hy
      obtain ⟨rfl, _⟩ := id hrx
      obtain ⟨rfl, _⟩ := id hry
      have c0 := hcx 0 _ rfl
      have d0 := hcy 0 _ rfl
      simp only [show Rep.int.size = 1 from rfl, Nat.mul_one, Nat.add_zero] at c0 d0
      have HDK := Lib.hid (HD.out k x y hx hy)
      have HEQ : Hid (x = y → ∀ j, j < k + 1 → l[j]? = m[j]?) := fun e j hj => by
        by_cases hjk : j = k
        · subst hjk; rw [hx, hy, e]
        · exact hall.out j (by omega)
      clear hcx hcy hrx hry hx hy
      by_cases hxy : x = y
      · have HE2 := Lib.hid (HEQ.out hxy)
        subst hxy
        go_wp2
        go_quiet (fail)
        go_wp2
        go_roundw
        case rel => exact ⟨k + 1, by omega, by go_num, HE2, ⟨HBE.out.os, HBE.out.tape, HBE.out.output, HBE.out.size, HBE.out.block⟩⟩
        case measure => simp [intOf]; omega
      · have HF := Lib.hid (HR.out.2 (HDK.out hxy))
        go_wp2
        go_quiet (fail)
        go_wp2
        go_ret
        exact ⟨ret_bool HF.out.symm, ⟨HBE.out.os, HBE.out.tape, HBE.out.output, HBE.out.size, HBE.out.block⟩⟩
    · obtain rfl : k = n := by omega
      have HF := Lib.hid (HR.out.1 (HALL.out (by trivial) (fun j hj => hall.out j hj)))
      go_wp2
      go_ret
      exact ⟨ret_bool HF.out.symm, HBE.out⟩
end Go.Proofs.YtkaihnlknncfdaaGreatDoor

/- The model's HasFeature: what it answers. -/
namespace Go.Proofs.YtkaihnlknncfdaaGreatDoor
set_option maxRecDepth 100000
open Go.RowKit

set_option maxHeartbeats 400000 in
theorem specHas_any (x f : Int) (w : World) :
    Calls Tryz.prog 142 #[.int .u8 x, .int .i64 f] w fun e w' => e = .returned (.bool (hasF x f)) ∧ w = w' := by
  go_enter Tryz.func142, Tryz.ntmps142
  go_wp2
  all_goals
    go_ret
    refine ⟨ret_bool ?_, rfl⟩
    unfold hasF
    simp_all
end Go.Proofs.YtkaihnlknncfdaaGreatDoor
