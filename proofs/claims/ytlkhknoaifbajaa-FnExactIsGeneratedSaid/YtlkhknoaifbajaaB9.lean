/- Merged: Row App Mc1 Mc2 Ic1 Ic2 Ic3 Ic6 Md4 Md5. -/
import Derived.Test.YtlkhknoaifbajaaRows
import Derived.Test.YtlkhknoaifbajaaA1
import Derived.WalkKit
import Derived.Laws.IdiomStrings
import Derived.Laws.BytesArg
import Derived.Lib.Hide
import Derived.Outline
import Derived.Maps.AppendAt
import Derived.BigRegion
import Derived.BigQuiet
import Derived.Deep.RegionLaw
import Derived.Test.YtlkhknoaifbajaaA2
import Derived.Lib.QuietBelow
/- Rows of bytes that a call makes: what their conversion to a string gives. -/
namespace Go.Proofs.Ytlkhknoaifbajaa
set_option maxRecDepth 100000
open Go.RowKit M

/-- Bytes as cells. -/
def cellsB (l : List UInt8) : List Value := l.map fun b => .int .u8 (b.toNat : Int)
theorem cellsB_len (l : List UInt8) : (cellsB l).length = l.length := by simp [cellsB]
theorem Try.info5 : (Try.prog.info? 5).map (fun i => (i.zero, i.size, i.bytes)) = some (some (.int .u8 0), 1, 1) := by kernel_rfl

/-- 'string(v)' of a row of the call's own. -/
theorem conv_own {w : World} {base n : Nat} {v : Value} {l : List UInt8} (h : w.ownsRow base 5 1 v n (cellsB l)) :
    (convert 22 9 v).run Try.prog w = .ok (.string ⟨l.toArray⟩) w := by
  have hl : l.length = n := by have := h.1; simpa [cellsB] using this
  have hh := h
  rcases h.2 with ⟨rfl, rfl⟩ | ⟨g, cap, cur, rfl, _⟩
  · have : l = [] := List.eq_nil_of_length_eq_zero hl
    subst this
    exact run_convert_bytes_nil w 22 5 Try.underlying22 Try.underlying5 0 0 9 Try.underlying9
  · subst hl
    refine run_convert_bytes_back w 22 9 5 ⟨g, 0, none⟩ cap l Try.underlying22 Try.underlying5 Try.underlying9 fun j hj => ?_
    have hp : (⟨g, 0, none⟩ : Addr).add j = ⟨g, j, none⟩ := by unfold Addr.add; split <;> simp_all
    rw [hp, hh.cellAt j (by omega)]
    simp [cellsB, List.getElem?_map, List.getElem?_eq_getElem hj]
theorem set_rep (j : Nat) (z : Value) (x : Int) (h0 : 0 ≤ x) (h1 : x < 256) (out : List UInt8) :
    (List.replicate (j + 1) z ++ cellsB out).set j (.int .u8 x) = List.replicate j z ++ cellsB (byt x :: out) := by
  rw [List.replicate_succ', List.append_assoc, List.set_append_right _ _ (by simp)]
  simp [cellsB, byt_toNat x h0 h1]
end Go.Proofs.Ytlkhknoaifbajaa

/- Appending one byte to a row of bytes that the call made: a law for the walk. -/
namespace Go.Proofs.Ytlkhknoaifbajaa
set_option maxRecDepth 100000
open Go.RowKit M
theorem cellsB_append (a b : List UInt8) : cellsB (a ++ b) = cellsB a ++ cellsB b := by simp [cellsB]
theorem cellsB_one (x : Int) (h0 : 0 ≤ x) (h1 : x < 256) : cellsB [byt x] = [.int .u8 x] := by simp [cellsB, byt_toNat x h0 h1]
theorem wpList_append_byte {ops : Array Oper} {rest : List Oper} {o : Oper} {a : Act} {Q : Exit → Act → World → Prop} (w : World) (hgd : o.guard = none) (s x : Operand)
    (ho : o.op = .call { callee := .builtin .append, args := #[s, x], argTypes := #[22, 22] })
    (base : Nat) (v : Value) (n : Nat) (l : List UInt8) (hs : a.eval s = v) (hown : w.ownsRow base 5 1 v n (cellsB l)) (b : Int) (hb0 : 0 ≤ b) (hb1 : b < 256)
    (hx : a.eval x = .slice (some ⟨w.heap.size, 0, none⟩) 1 1) (hn : n ≤ 70368744177664) (hbase : base ≤ w.heap.size)
    (h : ∀ v' w', w'.ownsRow base 5 1 v' (n + 1) (cellsB (l ++ [byt b])) → Below base w w' → wpList Try.prog ops Q rest (a.put o.dst v') w') :
    wpList Try.prog ops Q (o :: rest) a (w.alloc (.cells #[.int .u8 b] 5)) := by
  obtain ⟨i0, hi, hz0, hz1, hz2⟩ := info_parts Try.info5
  refine wpList_append_own (w.alloc (.cells #[.int .u8 b] 5)) hgd s x 22 ho base 5 i0 (.int .u8 0) 1 1 Try.underlying22 hi hz0 hz1 hz2 rfl (by decide) v n (cellsB l) hs (hown.alloc _) ⟨w.heap.size, 0, none⟩ 1 1 [.int .u8 b] hx rfl (cell_one_new _ _ _)
    (fun u hu => by simp at hu; subst hu; rfl) (by unfold maxLen; omega) (by omega) (by simp; omega) ?_
  intro v' w' h1 h2 _
  refine h v' w' (by rw [cellsB_append, cellsB_one b hb0 hb1]; exact h1) ?_
  exact ((Below.refl base w).alloc hbase _).grown h2 (by simp; omega) (fun q hq => (hown.lt q hq).1)
theorem cell_two_new (w : World) (x y : Value) (t : TypeId) : ∀ j u, [x, y][j]? = some u → (w.alloc (.cells #[x, y] t)).cell? ((⟨w.heap.size, 0, none⟩ : Addr).add j) = some u := by
  intro j u hj
  have hp : (⟨w.heap.size, 0, none⟩ : Addr).add j = ⟨w.heap.size, j, none⟩ := by unfold Addr.add; split <;> simp_all
  rw [hp, World.cell?_alloc_mark]
  simpa using hj
theorem wpList_append_two {ops : Array Oper} {rest : List Oper} {o : Oper} {a : Act} {Q : Exit → Act → World → Prop} (w : World) (hgd : o.guard = none) (s x : Operand)
    (ho : o.op = .call { callee := .builtin .append, args := #[s, x], argTypes := #[22, 22] })
    (base : Nat) (v : Value) (n : Nat) (l : List UInt8) (hs : a.eval s = v) (hown : w.ownsRow base 5 1 v n (cellsB l)) (b c : Int) (hb0 : 0 ≤ b) (hb1 : b < 256) (hc0 : 0 ≤ c) (hc1 : c < 256)
    (hx : a.eval x = .slice (some ⟨w.heap.size, 0, none⟩) 2 2) (hn : n ≤ 70368744177664) (hbase : base ≤ w.heap.size)
    (h : ∀ v' w', w'.ownsRow base 5 1 v' (n + 2) (cellsB (l ++ [byt b, byt c])) → Below base w w' → wpList Try.prog ops Q rest (a.put o.dst v') w') :
    wpList Try.prog ops Q (o :: rest) a (w.alloc (.cells #[.int .u8 b, .int .u8 c] 5)) := by
  obtain ⟨i0, hi, hz0, hz1, hz2⟩ := info_parts Try.info5
  refine wpList_append_own (w.alloc (.cells #[.int .u8 b, .int .u8 c] 5)) hgd s x 22 ho base 5 i0 (.int .u8 0) 1 1 Try.underlying22 hi hz0 hz1 hz2 rfl (by decide) v n (cellsB l) hs (hown.alloc _) ⟨w.heap.size, 0, none⟩ 2 2 [.int .u8 b, .int .u8 c] hx rfl (cell_two_new _ _ _ _)
    (fun u hu => by simp at hu; rcases hu with rfl | rfl <;> rfl) (by unfold maxLen; omega) (by omega) (by simp; omega) ?_
  intro v' w' h1 h2 _
  refine h v' w' (by rw [cellsB_append, show cellsB [byt b, byt c] = [.int .u8 b, .int .u8 c] by simp [cellsB, byt_toNat b hb0 hb1, byt_toNat c hc0 hc1]]; exact h1) ?_
  exact ((Below.refl base w).alloc hbase _).grown h2 (by simp; omega) (fun q hq => (hown.lt q hq).1)
/-- The same as one step of a region that draws its order. -/
theorem step_append_two {ops : Array Oper} {o : Oper} {a : Act} {K : Act → World → Prop} {Q : Exit → Act → World → Prop} {E : Prop} (w : World) (hgd : o.guard = none) (s x : Operand)
    (ho : o.op = .call { callee := .builtin .append, args := #[s, x], argTypes := #[22, 22] })
    (base : Nat) (v : Value) (n : Nat) (l : List UInt8) (hs : a.eval s = v) (hown : w.ownsRow base 5 1 v n (cellsB l)) (b c : Int) (hb0 : 0 ≤ b) (hb1 : b < 256) (hc0 : 0 ≤ c) (hc1 : c < 256)
    (hx : a.eval x = .slice (some ⟨w.heap.size, 0, none⟩) 2 2) (hn : n ≤ 70368744177664) (hbase : base ≤ w.heap.size)
    (h : ∀ v' w', w'.ownsRow base 5 1 v' (n + 2) (cellsB (l ++ [byt b, byt c])) → Below base w w' → K (a.put o.dst v') w') :
    if Region.wanted o (yielded ops a.tmps) = true then Oper.wp Try.prog o a (w.alloc (.cells #[.int .u8 b, .int .u8 c] 5)) K Q else E := by
  have hw : Region.wanted o (yielded ops a.tmps) = true := by simp [Region.wanted, hgd]
  rw [if_pos hw]
  obtain ⟨i0, hi, hz0, hz1, hz2⟩ := info_parts Try.info5
  refine wp_append_own (w.alloc (.cells #[.int .u8 b, .int .u8 c] 5)) s x 22 ho base 5 i0 (.int .u8 0) 1 1 Try.underlying22 hi hz0 hz1 hz2 rfl (by decide) v n (cellsB l) hs (hown.alloc _) ⟨w.heap.size, 0, none⟩ 2 2 [.int .u8 b, .int .u8 c] hx rfl (cell_two_new _ _ _ _)
    (fun u hu => by simp at hu; rcases hu with rfl | rfl <;> rfl) (by unfold maxLen; omega) (by omega) (by simp; omega) ?_
  intro v' w' h1 h2 _
  refine h v' w' (by rw [cellsB_append, show cellsB [byt b, byt c] = [.int .u8 b, .int .u8 c] by simp [cellsB, byt_toNat b hb0 hb1, byt_toNat c hc0 hc1]]; exact h1) ?_
  exact ((Below.refl base w).alloc hbase _).grown h2 (by simp; omega) (fun q hq => (hown.lt q hq).1)
theorem below_of_drew {B : Nat} {w w' : World} (h : Below B w.drew w') : Below B w w' := ⟨h.os, h.tape, h.output, h.size, h.block⟩
/-- The same behind a draw. -/
theorem step_append_two_drew {ops : Array Oper} {o : Oper} {a : Act} {K : Act → World → Prop} {Q : Exit → Act → World → Prop} {E : Prop} (w : World) (hgd : o.guard = none) (s x : Operand)
    (ho : o.op = .call { callee := .builtin .append, args := #[s, x], argTypes := #[22, 22] })
    (base : Nat) (v : Value) (n : Nat) (l : List UInt8) (hown : w.ownsRow base 5 1 v n (cellsB l)) (b c : Int) (hb : 0 ≤ b ∧ b < 256) (hc : 0 ≤ c ∧ c < 256) (hn : n ≤ 70368744177664) (hbase : base ≤ w.heap.size)
    (hs : a.eval s = v) (hx : a.eval x = .slice (some ⟨w.heap.size, 0, none⟩) 2 2)
    (h : ∀ v' w', w'.ownsRow base 5 1 v' (n + 2) (cellsB (l ++ [byt b, byt c])) → Below base w w' → K (a.put o.dst v') w') :
    if Region.wanted o (yielded ops a.tmps) = true then Oper.wp Try.prog o a ((w.alloc (.cells #[.int .u8 b, .int .u8 c] 5)).drew) K Q else E :=
  step_append_two w.drew hgd s x ho base v n l hs hown.drew b c hb.1 hb.2 hc.1 hc.2 hx hn hbase fun v' w' h1 h2 => h v' w' h1 (below_of_drew h2)
/-- 'wpList_append_byte', and a text's iterator stands as it stood. -/
theorem wpList_append_byte_it {ops : Array Oper} {rest : List Oper} {o : Oper} {a : Act} {Q : Exit → Act → World → Prop} (w : World) (hgd : o.guard = none) (s x : Operand)
    (ho : o.op = .call { callee := .builtin .append, args := #[s, x], argTypes := #[22, 22] })
    (base : Nat) (v : Value) (n : Nat) (l : List UInt8) (hs : a.eval s = v) (hown : w.ownsRow base 5 1 v n (cellsB l)) (b : Int) (hb0 : 0 ≤ b) (hb1 : b < 256)
    (hx : a.eval x = .slice (some ⟨w.heap.size, 0, none⟩) 1 1) (hn : n ≤ 70368744177664) (hbase : base ≤ w.heap.size)
    (it : Nat) (txt : ByteArray) (pos : Nat) (hit : w.heap[it]? = some (.stringIter txt pos))
    (h : ∀ v' w', w'.ownsRow base 5 1 v' (n + 1) (cellsB (l ++ [byt b])) → Below base w w' → w'.heap[it]? = some (.stringIter txt pos) → wpList Try.prog ops Q rest (a.put o.dst v') w') :
    wpList Try.prog ops Q (o :: rest) a (w.alloc (.cells #[.int .u8 b] 5)) := by
  obtain ⟨i0, hi, hz0, hz1, hz2⟩ := info_parts Try.info5
  refine wpList_append_own (w.alloc (.cells #[.int .u8 b] 5)) hgd s x 22 ho base 5 i0 (.int .u8 0) 1 1 Try.underlying22 hi hz0 hz1 hz2 rfl (by decide) v n (cellsB l) hs (hown.alloc _) ⟨w.heap.size, 0, none⟩ 1 1 [.int .u8 b] hx rfl (cell_one_new _ _ _)
    (fun u hu => by simp at hu; subst hu; rfl) (by unfold maxLen; omega) (by omega) (by simp; omega) ?_
  intro v' w' h1 h2 _
  have hlt : it < w.heap.size := lt_of_block hit
  have hne : some it ≠ v.ownBlock := by
    rcases hown.2 with ⟨rfl, _⟩ | ⟨g, cap, cur, rfl, _, hg, _⟩
    · simp [Value.ownBlock]
    · intro e
      have : it = g := by simpa [Value.ownBlock] using e
      subst this
      rw [hit] at hg
      cases hg
  refine h v' w' (by rw [cellsB_append, cellsB_one b hb0 hb1]; exact h1) ?_ ?_
  · exact ((Below.refl base w).alloc hbase _).grown h2 (by simp; omega) (fun q hq => (hown.lt q hq).1)
  · rw [h2.block it (by simp; omega) hne, Below.heap_alloc _ _ _ hlt, hit]
/-- 'wpList_append_byte', and every block that is no row of bytes stands as it stood. -/
theorem wpList_append_byte_k {ops : Array Oper} {rest : List Oper} {o : Oper} {a : Act} {Q : Exit → Act → World → Prop} (w : World) (hgd : o.guard = none) (s x : Operand)
    (ho : o.op = .call { callee := .builtin .append, args := #[s, x], argTypes := #[22, 22] })
    (base : Nat) (v : Value) (n : Nat) (l : List UInt8) (hs : a.eval s = v) (hown : w.ownsRow base 5 1 v n (cellsB l)) (b : Int) (hb0 : 0 ≤ b) (hb1 : b < 256)
    (hx : a.eval x = .slice (some ⟨w.heap.size, 0, none⟩) 1 1) (hn : n ≤ 70368744177664) (hbase : base ≤ w.heap.size)
    (h : ∀ v' w', w'.ownsRow base 5 1 v' (n + 1) (cellsB (l ++ [byt b])) → Below base w w' → (∀ (k : Nat) (o : Obj), w.heap[k]? = some o → (∀ c fz, o ≠ .cells c 5 fz) → w'.heap[k]? = some o) → wpList Try.prog ops Q rest (a.put o.dst v') w') :
    wpList Try.prog ops Q (o :: rest) a (w.alloc (.cells #[.int .u8 b] 5)) := by
  obtain ⟨i0, hi, hz0, hz1, hz2⟩ := info_parts Try.info5
  refine wpList_append_own (w.alloc (.cells #[.int .u8 b] 5)) hgd s x 22 ho base 5 i0 (.int .u8 0) 1 1 Try.underlying22 hi hz0 hz1 hz2 rfl (by decide) v n (cellsB l) hs (hown.alloc _) ⟨w.heap.size, 0, none⟩ 1 1 [.int .u8 b] hx rfl (cell_one_new _ _ _)
    (fun u hu => by simp at hu; subst hu; rfl) (by unfold maxLen; omega) (by omega) (by simp; omega) ?_
  intro v' w' h1 h2 _
  refine h v' w' (by rw [cellsB_append, cellsB_one b hb0 hb1]; exact h1) ?_ ?_
  · exact ((Below.refl base w).alloc hbase _).grown h2 (by simp; omega) (fun q hq => (hown.lt q hq).1)
  · intro k ob hk hob
    have hlt : k < w.heap.size := lt_of_block hk
    have hne : some k ≠ v.ownBlock := by
      rcases hown.2 with ⟨rfl, _⟩ | ⟨g, cap, cur, rfl, _, hg, _⟩
      · simp [Value.ownBlock]
      · intro e
        have : k = g := by simpa [Value.ownBlock] using e
        subst this
        rw [hk] at hg
        exact hob _ _ (Option.some.inj hg)
    rw [h2.block k (by simp; omega) hne, Below.heap_alloc _ _ _ hlt, hk]
end Go.Proofs.Ytlkhknoaifbajaa

/- The model's l6In, l6Out: what they answer. -/
namespace Go.Proofs.Ytlkhknoaifbajaa
set_option maxRecDepth 100000
open Go.RowKit M
set_option linter.unusedVariables false
set_option linter.unusedSimpArgs false

theorem own_empty5 (w : World) (o : Obj) : ((w.alloc o).alloc (.cells #[] 5)).ownsRow (w.heap.size + 1) 5 1 (.slice (some ⟨w.heap.size + 1, 0, none⟩) 0 0) 0 (cellsB []) :=
  ⟨rfl, Or.inr ⟨w.heap.size + 1, 0, #[], rfl, Nat.le_refl _, box2 _ _ _, Nat.le_refl _, by unfold maxLen; omega, rfl, rfl⟩⟩
set_option maxHeartbeats 4000000 in
theorem specIn_cd (x : DCandidate) (v : Value) (F : Addr → Prop) (w : World) (hl : x.Links.length ≤ 1048576) (hv : RowRd rLink false w v x.Links F) :
    Calls Try.prog 71 #[.agg #[v]] w fun e w' => e = .returned (.string ⟨(inL x.Links).toArray⟩) ∧ Below w.heap.size w w' := by
  obtain ⟨A, cap, rfl⟩ := hv.form
  have HV := Lib.hid hv
  clear hv
  have HX : Hid (∀ k, k < x.Links.length → ∃ y, x.Links[k]? = some y) := fun k hk => ⟨_, List.getElem?_eq_getElem hk⟩
  go_enter Try.func71, Try.ntmps71
  go_wp2
  go_loopw [3, 4] (fun u i wr => ∃ (k : Nat), k ≤ x.Links.length ∧ i = .int .i64 k ∧ wr.ownsRow (w.heap.size + 1) 5 1 u (inL (x.Links.take k)).length (cellsB (inL (x.Links.take k))) ∧ Below w.heap.size w wr ∧ Hid (w.heap.size + 1 ≤ wr.heap.size) ∧ InC wr w.heap.size #[.slice A x.Links.length cap] 26) (fun _ i _ => x.Links.length - (intOf i).toNat)
  case atStart => exact ⟨0, by omega, rfl, own_empty5 _ _, ((Below.refl _ _).alloc (Nat.le_refl _) _).alloc (by simp) _, by unfold Hid; simp, box1 _ _ _⟩
  case round =>
    obtain ⟨k, hk, rfl, ho, hbe, hs1, hi1⟩ := hrel
    have b1 := hi1.cell 0 rfl
    have HBE := Lib.hid hbe
    have HI1 := Lib.hid hi1
    clear hbe hi1
    by_cases hkl : k < x.Links.length
    · obtain ⟨y, hy⟩ := HX.out k hkl
      obtain ⟨g, off, xs, Fk, rfl, _, hra, _, hca⟩ := (HV.out.kept HBE.out).get hy
      obtain rfl := rLink_rd hra
      rw [rLink_size] at hca
      have c0 := hca 0 _ rfl
      have c1 := hca 1 _ rfl
      simp only [Nat.add_zero] at c0
      have HIY := Lib.hid (fun h => inL_yes hy h)
      have HIN := Lib.hid (fun h => inL_no hy h)
      have hli := inL_len x.Links k
      clear hca hra hy
      have ha := u8_in y.In
      generalize inL (x.Links.take k) = I0 at *
      generalize (y.In.toNat : Int) = a at *
      generalize (y.Out.toNat : Int) = b at *
      have HAB := Lib.hid ha
      have HO := Lib.hid ho
      have HLE : Hid (I0.length ≤ 70368744177664) := by unfold Hid; omega
      clear ha hli ho
      by_cases ha0 : a = 0
      · have HI := Lib.hid (HIN.out ha0)
        subst ha0
        go_wp2
        go_roundw
        case rel => exact ⟨k + 1, by omega, by go_num, by rw [HI.out]; exact HO.out, HBE.out, hs1, HI1.out⟩
        case measure => simp [intOf]; omega
      · have HI := Lib.hid (HIY.out ha0)
        go_wp2_with (at_builtin; refine wpList_append_byte_k _ rfl (.tmp 20) (.tmp 27) rfl (w.heap.size + 1) _ _ _ rfl HO.out a HAB.out.1 HAB.out.2 rfl HLE.out hs1.out ?_; intro v' w1 h1 hb1 hk1; have HO2 := Lib.hid h1; have HB1 := Lib.hid hb1; have HI2 : Hid (InC w1 w.heap.size #[.slice (some ⟨g, off, none⟩) x.Links.length cap] 26) := hk1 _ _ HI1.out (by intro c fz e; cases e); clear h1 hb1 hk1)
        go_roundw
        case rel => exact ⟨k + 1, by omega, by go_num, by rw [HI.out, List.length_append]; exact HO2.out, HBE.out.trans (HB1.out.mono (Nat.le_succ _)), Nat.le_trans hs1.out HB1.out.size, HI2.out⟩
        case measure => simp [intOf]; omega
    · obtain rfl : k = x.Links.length := by omega
      rw [List.take_length] at ho
      have hcv := conv_own ho
      clear ho
      go_wp2
      go_ret
      exact ⟨rfl, HBE.out⟩
set_option maxHeartbeats 4000000 in
theorem specOut_cd (x : DCandidate) (v : Value) (F : Addr → Prop) (w : World) (hl : x.Links.length ≤ 1048576) (hv : RowRd rLink false w v x.Links F) :
    Calls Try.prog 72 #[.agg #[v]] w fun e w' => e = .returned (.string ⟨(outL x.Links).toArray⟩) ∧ Below w.heap.size w w' := by
  obtain ⟨A, cap, rfl⟩ := hv.form
  have HV := Lib.hid hv
  clear hv
  have HX : Hid (∀ k, k < x.Links.length → ∃ y, x.Links[k]? = some y) := fun k hk => ⟨_, List.getElem?_eq_getElem hk⟩
  go_enter Try.func72, Try.ntmps72
  go_wp2
  go_loopw [3, 4] (fun u i wr => ∃ (k : Nat), k ≤ x.Links.length ∧ i = .int .i64 k ∧ wr.ownsRow (w.heap.size + 1) 5 1 u (outL (x.Links.take k)).length (cellsB (outL (x.Links.take k))) ∧ Below w.heap.size w wr ∧ Hid (w.heap.size + 1 ≤ wr.heap.size) ∧ InC wr w.heap.size #[.slice A x.Links.length cap] 26) (fun _ i _ => x.Links.length - (intOf i).toNat)
  case atStart => exact ⟨0, by omega, rfl, own_empty5 _ _, ((Below.refl _ _).alloc (Nat.le_refl _) _).alloc (by simp) _, by unfold Hid; simp, box1 _ _ _⟩
  case round =>
    obtain ⟨k, hk, rfl, ho, hbe, hs1, hi1⟩ := hrel
    have b1 := hi1.cell 0 rfl
    have HBE := Lib.hid hbe
    have HI1 := Lib.hid hi1
    clear hbe hi1
    by_cases hkl : k < x.Links.length
    · obtain ⟨y, hy⟩ := HX.out k hkl
      obtain ⟨g, off, xs, Fk, rfl, _, hra, _, hca⟩ := (HV.out.kept HBE.out).get hy
      obtain rfl := rLink_rd hra
      rw [rLink_size] at hca
      have c0 := hca 0 _ rfl
      have c1 := hca 1 _ rfl
      simp only [Nat.add_zero] at c0
      have HIY := Lib.hid (fun h => outL_yes hy h)
      have HIN := Lib.hid (fun h => outL_no hy h)
      have hli := outL_len x.Links k
      clear hca hra hy
      have ha := u8_in y.Out
      generalize outL (x.Links.take k) = I0 at *
      generalize (y.In.toNat : Int) = b at *
      generalize (y.Out.toNat : Int) = a at *
      have HAB := Lib.hid ha
      have HO := Lib.hid ho
      have HLE : Hid (I0.length ≤ 70368744177664) := by unfold Hid; omega
      clear ha hli ho
      by_cases ha0 : a = 0
      · have HI := Lib.hid (HIN.out ha0)
        subst ha0
        go_wp2
        go_roundw
        case rel => exact ⟨k + 1, by omega, by go_num, by rw [HI.out]; exact HO.out, HBE.out, hs1, HI1.out⟩
        case measure => simp [intOf]; omega
      · have HI := Lib.hid (HIY.out ha0)
        go_wp2_with (at_builtin; refine wpList_append_byte_k _ rfl (.tmp 20) (.tmp 27) rfl (w.heap.size + 1) _ _ _ rfl HO.out a HAB.out.1 HAB.out.2 rfl HLE.out hs1.out ?_; intro v' w1 h1 hb1 hk1; have HO2 := Lib.hid h1; have HB1 := Lib.hid hb1; have HI2 : Hid (InC w1 w.heap.size #[.slice (some ⟨g, off, none⟩) x.Links.length cap] 26) := hk1 _ _ HI1.out (by intro c fz e; cases e); clear h1 hb1 hk1)
        go_roundw
        case rel => exact ⟨k + 1, by omega, by go_num, by rw [HI.out, List.length_append]; exact HO2.out, HBE.out.trans (HB1.out.mono (Nat.le_succ _)), Nat.le_trans hs1.out HB1.out.size, HI2.out⟩
        case measure => simp [intOf]; omega
    · obtain rfl : k = x.Links.length := by omega
      rw [List.take_length] at ho
      have hcv := conv_own ho
      clear ho
      go_wp2
      go_ret
      exact ⟨rfl, HBE.out⟩
end Go.Proofs.Ytlkhknoaifbajaa

/- The model's IsCandidate, InputOf, OutputOf: what they answer. -/
namespace Go.Proofs.Ytlkhknoaifbajaa
set_option maxRecDepth 100000
open Go.RowKit M
set_option linter.unusedVariables false
set_option linter.unusedSimpArgs false

set_option maxRecDepth 100000 in
set_option maxHeartbeats 8000000 in
theorem specIsCd_any (x : DCandidate) (v : Value) (F : Addr → Prop) (w : World) (hl : x.Links.length ≤ 1048576) (hv : RowRd rLink false w v x.Links F) :
    Calls Try.prog 17 #[.agg #[v]] w fun e w' => e = .returned (.bool (isCd x.Links)) ∧ Below w.heap.size w w' := by
  obtain ⟨A, cap, rfl⟩ := hv.form
  have HV := Lib.hid hv
  clear hv
  have HX : Hid (∀ k, k < x.Links.length → ∃ y, x.Links[k]? = some y) := fun k hk => ⟨_, List.getElem?_eq_getElem hk⟩
  have HNOT : Hid (∀ k (y : DLink), x.Links[k]? = some y → okI (y.In.toNat : Int) (y.Out.toNat : Int) = false → isCd x.Links = false) := fun k y h1 h2 => isCd_not h1 h2
  go_enter Try.func17, Try.ntmps17
  go_wp2
  go_loopw [3] (fun i wr => ∃ (k : Nat), k ≤ x.Links.length ∧ i = .int .i64 k ∧ Hid (∀ j (y : DLink), x.Links[j]? = some y → j < k → okI (y.In.toNat : Int) (y.Out.toNat : Int) = true) ∧ Below w.heap.size w wr ∧ InC wr w.heap.size #[.slice A x.Links.length cap] 26) (fun i _ => x.Links.length - (intOf i).toNat)
  case atStart => exact ⟨0, by omega, rfl, fun j y _ h => by omega, (Below.refl _ _).alloc (Nat.le_refl _) _, heap_alloc_new _ _⟩
  case round =>
    obtain ⟨k, hk, rfl, hall, hbe, hi1⟩ := hrel
    have b1 := hi1.cell 0 rfl
    have HBE := Lib.hid hbe
    have HI1 := Lib.hid hi1
    clear hbe hi1
    by_cases hkl : k < x.Links.length
    · obtain ⟨y, hy⟩ := HX.out k hkl
      obtain ⟨g, off, xs, Fk, rfl, _, hra, _, hca⟩ := (HV.out.kept HBE.out).get hy
      obtain rfl := rLink_rd hra
      rw [rLink_size] at hca
      have c0 := hca 0 _ rfl
      have c1 := hca 1 _ rfl
      simp only [Nat.add_zero] at c0
      have HY := Lib.hid hy
      clear hca hra hy
      have HOK : Hid (okI (y.In.toNat : Int) (y.Out.toNat : Int) = true → ∀ j (z : DLink), x.Links[j]? = some z → j < k + 1 → okI (z.In.toNat : Int) (z.Out.toNat : Int) = true) := fun h j z hz hj => by
        by_cases hjk : j = k
        · subst hjk; rw [HY.out] at hz; cases hz; exact h
        · exact hall.out j z hz (by omega)
      have HNO := Lib.hid (HNOT.out k y HY.out)
      have ha := u8_in y.In
      have hb := u8_in y.Out
      generalize (y.In.toNat : Int) = a at *
      generalize (y.Out.toNat : Int) = b at *
      have HAB := Lib.hid (And.intro ha hb)
      have HM : Hid (okM a b = okI a b) := okM_eq a b
      have HB2 : Hid (Below w.heap.size w (wr.alloc (.cells #[.int .u8 a, .int .u8 b] 65))) := HBE.out.alloc HBE.out.size _
      have HI2 : Hid (InC (wr.alloc (.cells #[.int .u8 a, .int .u8 b] 65)) w.heap.size #[.slice (some ⟨g, off, none⟩) x.Links.length cap] 26) := HI1.out.kept ((Below.refl _ _).alloc (Nat.le_refl _) _)
      clear ha hb HY
      go_wp2_with fail
      refine (specSwap_any a _).mono ?_
      rintro e w2 ⟨rfl, rfl⟩
      have HSA : Hid (∀ W, Calls Try.prog 69 #[.int .u8 a] W fun e w' => e = .returned (.bool (isSnd a)) ∧ W = w') := fun W => specIsSound_any a W
      have HSB : Hid (∀ W, Calls Try.prog 69 #[.int .u8 b] W fun e w' => e = .returned (.bool (isSnd b)) ∧ W = w') := fun W => specIsSound_any b W
      have b2 := HI2.out.cell 0 rfl
      have HM2 : Hid (okI a b = (!((!decide (a = 0) && !isSnd a) || (!decide (b = 0) && !isSnd b) || (decide (a = 0) && decide (b = 0))) && !(!decide (a = 0) && !decide (b = 0) && !decide (a = b) && !(isObs a && decide (swapV a = b))))) := HM.out.symm
      generalize isSnd a = sa at *
      generalize isSnd b = sb at *
      generalize swapV a = s at *
      generalize isObs a = oa at *
      by_cases ha0 : a = 0
      · subst ha0
        by_cases hb0 : b = 0
        · subst hb0
          have HR := Lib.hid (HNO.out (by rw [HM2.out]; simp))
          go_wp2_with fail
          go_ret
          exact ⟨ret_bool HR.out.symm, HB2.out⟩
        · cases sb
          · have HR := Lib.hid (HNO.out (by rw [HM2.out]; simp [hb0]))
            go_wp2_with fail
            refine (HSB.out _).mono ?_
            rintro e w2 ⟨rfl, rfl⟩
            go_wp2_with fail
            go_ret
            exact ⟨ret_bool HR.out.symm, HB2.out⟩
          · have HALL := Lib.hid (HOK.out (by rw [HM2.out]; simp [hb0]))
            go_wp2_with fail
            refine (HSB.out _).mono ?_
            rintro e w2 ⟨rfl, rfl⟩
            go_wp2_with fail
            go_roundw
            case rel => exact ⟨k + 1, by omega, by go_num, HALL, HB2.out, HI2.out⟩
            case measure => simp [intOf]; omega
      · cases sa
        · have HR := Lib.hid (HNO.out (by rw [HM2.out]; simp [ha0]))
          go_wp2_with fail
          refine (HSA.out _).mono ?_
          rintro e w2 ⟨rfl, rfl⟩
          go_wp2_with fail
          go_ret
          exact ⟨ret_bool HR.out.symm, HB2.out⟩
        · by_cases hb0 : b = 0
          · subst hb0
            have HALL := Lib.hid (HOK.out (by rw [HM2.out]; simp [ha0]))
            go_wp2_with fail
            refine (HSA.out _).mono ?_
            rintro e w2 ⟨rfl, rfl⟩
            go_wp2_with fail
            go_roundw
            case rel => exact ⟨k + 1, by omega, by go_num, HALL, HB2.out, HI2.out⟩
            case measure => simp [intOf]; omega
          · cases sb
            · have HR := Lib.hid (HNO.out (by rw [HM2.out]; simp [ha0, hb0]))
              go_wp2_with fail
              refine (HSA.out _).mono ?_
              rintro e w2 ⟨rfl, rfl⟩
              go_wp2_with fail
              refine (HSB.out _).mono ?_
              rintro e w2 ⟨rfl, rfl⟩
              go_wp2_with fail
              go_ret
              exact ⟨ret_bool HR.out.symm, HB2.out⟩
            · go_wp2_with fail
              refine (HSA.out _).mono ?_
              rintro e w2 ⟨rfl, rfl⟩
              go_wp2_with fail
              refine (HSB.out _).mono ?_
              rintro e w2 ⟨rfl, rfl⟩
              by_cases hab : a = b
              · subst hab
                have HALL := Lib.hid (HOK.out (by rw [HM2.out]; simp [ha0]))
                go_wp2_with fail
                go_roundw
                case rel => exact ⟨k + 1, by omega, by go_num, HALL, HB2.out, HI2.out⟩
                case measure => simp [intOf]; omega
              · have q1 : (a != 0) = true := by simpa using ha0
                have q2 : (b != 0) = true := by simpa using hb0
                have q3 : (a != b) = true := by simpa using hab
                cases oa
                · have HR := Lib.hid (HNO.out (by rw [HM2.out]; simp [ha0, hb0, hab]))
                  go_wp2_with fail
                  go_ret
                  exact ⟨ret_bool HR.out.symm, HB2.out⟩
                · by_cases hsb : s = b
                  · subst hsb
                    have HALL := Lib.hid (HOK.out (by rw [HM2.out]; simp [ha0, hb0, hab]))
                    go_wp2_with fail
                    go_roundw
                    case rel => exact ⟨k + 1, by omega, by go_num, HALL, HB2.out, HI2.out⟩
                    case measure => simp [intOf]; omega
                  · have HR := Lib.hid (HNO.out (by rw [HM2.out]; simp [ha0, hb0, hab, hsb]))
                    have q4 : (s == b) = false := by simpa using hsb
                    go_wp2_with fail
                    go_ret
                    exact ⟨ret_bool HR.out.symm, HB2.out⟩
    · obtain rfl : k = x.Links.length := by omega
      have HI : Hid (isCd x.Links = (decide ((x.Links.length : Int) ≤ 16) && (isFm ⟨(inL x.Links).toArray⟩ && isFm ⟨(outL x.Links).toArray⟩))) := by
        unfold Hid isCd
        rw [all_ok (fun j y h1 h2 => hall.out j y h1 h2), Bool.true_and]
      by_cases h16 : (x.Links.length : Int) ≤ 16
      · have hli := inL_len_all x.Links
        have hlo := outL_len_all x.Links
        have HLI : Hid ((⟨(inL x.Links).toArray⟩ : ByteArray).size ≤ maxLen) := by unfold Hid maxLen; simp [ByteArray.size]; omega
        have HLO : Hid ((⟨(outL x.Links).toArray⟩ : ByteArray).size ≤ maxLen) := by unfold Hid maxLen; simp [ByteArray.size]; omega
        have HS1 : Hid (∀ W, Below w.heap.size w W → Calls Try.prog 71 #[.agg #[.slice A x.Links.length cap]] W fun e w' => e = .returned (.string ⟨(inL x.Links).toArray⟩) ∧ Below W.heap.size W w') := fun W hW => specIn_cd x _ F W hl (HV.out.kept hW)
        have HS2 : Hid (∀ W, Below w.heap.size w W → Calls Try.prog 72 #[.agg #[.slice A x.Links.length cap]] W fun e w' => e = .returned (.string ⟨(outL x.Links).toArray⟩) ∧ Below W.heap.size W w') := fun W hW => specOut_cd x _ F W hl (HV.out.kept hW)
        have HI' : Hid (isCd x.Links = (isFm ⟨(inL x.Links).toArray⟩ && isFm ⟨(outL x.Links).toArray⟩)) := by unfold Hid; rw [HI.out, decide_eq_true h16, Bool.true_and]
        go_wp2_with fail
        refine (HS1.out _ HBE.out).mono ?_
        rintro e w2 ⟨rfl, hb2⟩
        have b2 := (HI1.out.kept hb2).cell 0 rfl
        have HB2 : Hid (Below w.heap.size w w2) := below_step HBE.out hb2
        clear hb2
        go_wp2_with fail
        refine (specFm_any ⟨(inL x.Links).toArray⟩ _ HLI.out).mono ?_
        rintro e w3 ⟨rfl, rfl⟩
        generalize isFm ⟨(inL x.Links).toArray⟩ = fi at *
        cases fi
        · go_wp2_with fail
          go_ret
          exact ⟨ret_bool (by rw [HI'.out] <;> simp), HB2.out⟩
        · go_wp2_with fail
          refine (HS2.out _ HB2.out).mono ?_
          rintro e w3 ⟨rfl, hb3⟩
          have HB3 : Hid (Below w.heap.size w w3) := below_step HB2.out hb3
          clear hb3
          go_wp2_with fail
          refine (specFm_any ⟨(outL x.Links).toArray⟩ _ HLO.out).mono ?_
          rintro e w4 ⟨rfl, rfl⟩
          go_wp2_with fail
          go_ret
          exact ⟨ret_bool (by rw [HI'.out] <;> simp), HB3.out⟩
      · have HR : Hid (isCd x.Links = false) := by unfold Hid; rw [HI.out, decide_eq_false h16, Bool.false_and]
        go_wp2_with fail
        go_ret
        exact ⟨ret_bool (by rw [HR.out] <;> simp [h16]), HBE.out⟩
def inS (l : List DLink) : List UInt8 := if isCd l then inL l else []
def outS (l : List DLink) : List UInt8 := if isCd l then outL l else []
set_option maxHeartbeats 4000000 in
theorem specInput_any (x : DCandidate) (v : Value) (F : Addr → Prop) (w : World) (hl : x.Links.length ≤ 1048576) (hv : RowRd rLink false w v x.Links F) :
    Calls Try.prog 20 #[.agg #[v]] w fun e w' => e = .returned (.string ⟨(inS x.Links).toArray⟩) ∧ Below w.heap.size w w' := by
  have HS0 : Hid (∀ W, Below w.heap.size w W → Calls Try.prog 17 #[.agg #[v]] W fun e w' => e = .returned (.bool (isCd x.Links)) ∧ Below W.heap.size W w') := fun W hW => specIsCd_any x _ F W hl (hv.kept hW)
  have HS1 : Hid (∀ W, Below w.heap.size w W → Calls Try.prog 71 #[.agg #[v]] W fun e w' => e = .returned (.string ⟨(inL x.Links).toArray⟩) ∧ Below W.heap.size W w') := fun W hW => specIn_cd x _ F W hl (hv.kept hW)
  obtain ⟨A, cap, rfl⟩ := hv.form
  clear hv
  have HE : Hid (inS x.Links = if isCd x.Links then inL x.Links else []) := rfl
  generalize isCd x.Links = c at *
  generalize inS x.Links = r at *
  have HA : Hid (∀ o, Below w.heap.size w (w.alloc o)) := fun o => (Below.refl _ _).alloc (Nat.le_refl _) _
  have HA1 : Hid (InC (w.alloc (.cells #[.slice A x.Links.length cap] 26)) w.heap.size #[.slice A x.Links.length cap] 26) := heap_alloc_new _ _
  go_enter Try.func20, Try.ntmps20
  go_wp2_with fail
  refine (HS0.out _ (HA.out _)).mono ?_
  rintro e w2 ⟨rfl, hb⟩
  have b1 := (HA1.out.kept hb).cell 0 rfl
  have HB : Hid (Below w.heap.size w w2) := below_step (HA.out _) hb
  clear hb
  cases c
  · go_wp2_with fail
    go_ret
    exact ⟨ret_str (by rw [HE.out] <;> rfl), HB.out⟩
  · go_wp2_with fail
    refine (HS1.out _ HB.out).mono ?_
    rintro e w3 ⟨rfl, hb⟩
    have HB3 : Hid (Below w.heap.size w w3) := below_step HB.out hb
    clear hb
    go_wp2_with fail
    go_ret
    exact ⟨ret_str (by rw [HE.out] <;> rfl), HB3.out⟩
set_option maxHeartbeats 4000000 in
theorem specOutput_any (x : DCandidate) (v : Value) (F : Addr → Prop) (w : World) (hl : x.Links.length ≤ 1048576) (hv : RowRd rLink false w v x.Links F) :
    Calls Try.prog 22 #[.agg #[v]] w fun e w' => e = .returned (.string ⟨(outS x.Links).toArray⟩) ∧ Below w.heap.size w w' := by
  have HS0 : Hid (∀ W, Below w.heap.size w W → Calls Try.prog 17 #[.agg #[v]] W fun e w' => e = .returned (.bool (isCd x.Links)) ∧ Below W.heap.size W w') := fun W hW => specIsCd_any x _ F W hl (hv.kept hW)
  have HS1 : Hid (∀ W, Below w.heap.size w W → Calls Try.prog 72 #[.agg #[v]] W fun e w' => e = .returned (.string ⟨(outL x.Links).toArray⟩) ∧ Below W.heap.size W w') := fun W hW => specOut_cd x _ F W hl (hv.kept hW)
  obtain ⟨A, cap, rfl⟩ := hv.form
  clear hv
  have HE : Hid (outS x.Links = if isCd x.Links then outL x.Links else []) := rfl
  generalize isCd x.Links = c at *
  generalize outS x.Links = r at *
  have HA : Hid (∀ o, Below w.heap.size w (w.alloc o)) := fun o => (Below.refl _ _).alloc (Nat.le_refl _) _
  have HA1 : Hid (InC (w.alloc (.cells #[.slice A x.Links.length cap] 26)) w.heap.size #[.slice A x.Links.length cap] 26) := heap_alloc_new _ _
  go_enter Try.func22, Try.ntmps22
  go_wp2_with fail
  refine (HS0.out _ (HA.out _)).mono ?_
  rintro e w2 ⟨rfl, hb⟩
  have b1 := (HA1.out.kept hb).cell 0 rfl
  have HB : Hid (Below w.heap.size w w2) := below_step (HA.out _) hb
  clear hb
  cases c
  · go_wp2_with fail
    go_ret
    exact ⟨ret_str (by rw [HE.out] <;> rfl), HB.out⟩
  · go_wp2_with fail
    refine (HS1.out _ HB.out).mono ?_
    rintro e w3 ⟨rfl, hb⟩
    have HB3 : Hid (Below w.heap.size w w3) := below_step HB.out hb
    clear hb
    go_wp2_with fail
    go_ret
    exact ⟨ret_str (by rw [HE.out] <;> rfl), HB3.out⟩
end Go.Proofs.Ytlkhknoaifbajaa

/- The program's isValid: what it answers. -/
namespace Go.Proofs.Ytlkhknoaifbajaa
set_option maxRecDepth 100000
open Go.RowKit
set_option linter.unusedVariables false
set_option linter.unusedSimpArgs false

theorem drewN_below {B n : Nat} {w w' : World} (h : Below B w w') : Below B w (w'.drewN n) := ⟨h.os, h.tape, h.output, h.size, h.block⟩
set_option maxHeartbeats 4000000 in
theorem implValid_any (a b : Int) (g : Nat) (w : World) (ha : 0 ≤ a ∧ a < 256) (hb : 0 ≤ b ∧ b < 256) (h : InC w g #[.int .u8 a, .int .u8 b] 65) :
    Calls Try.prog 94 #[.pointer (some ⟨g, 0, none⟩)] w fun e w' => e = .returned (.bool (okI a b)) ∧ Below w.heap.size w w' := by
  have c0 := h.cell 0 rfl
  have c1 := h.cell 1 rfl
  have HA := Lib.hid ha
  have HB := Lib.hid hb
  clear h ha hb
  go_enter Try.func94, Try.ntmps94
  by_cases h0 : a = 0
  case pos =>
    have HE : Hid (okI a b = isSnd b) := by unfold Hid okI; rw [if_pos h0]
    go_wp2_with fail
    refine (implIsSound_any b _ HB.out.1 HB.out.2).mono ?_
    rintro e w2 ⟨rfl, rfl⟩
    go_wp2
    go_ret
    exact ⟨ret_bool HE.out.symm, Below.refl _ _⟩
  by_cases h1 : b = 0
  case pos =>
    have HE : Hid (okI a b = isSnd a) := by unfold Hid okI; rw [if_neg h0, if_pos (Or.inl h1)]
    go_wp2_with fail
    refine (implIsSound_any a _ HA.out.1 HA.out.2).mono ?_
    rintro e w2 ⟨rfl, rfl⟩
    go_wp2
    go_ret
    exact ⟨ret_bool HE.out.symm, Below.refl _ _⟩
  by_cases h2 : b = a
  case pos =>
    have HE : Hid (okI a b = isSnd a) := by unfold Hid okI; rw [if_neg h0, if_pos (Or.inr h2)]
    go_wp2
    go_quiet (fail)
    go_wp2_with fail
    refine (implIsSound_any a _ HA.out.1 HA.out.2).mono ?_
    rintro e w2 ⟨rfl, rfl⟩
    go_wp2
    go_ret
    exact ⟨ret_bool HE.out.symm, drewN_below (Below.refl _ _)⟩
  have HE : Hid (okI a b = (isObs a && decide (b = swapV a))) := by unfold Hid okI; rw [if_neg h0, if_neg (by rintro (e | e); exact h1 e; exact h2 e)]
  go_wp2
  go_quiet (fail)
  go_wp2_with fail
  refine (implSwap_any a _).mono ?_
  rintro e w2 ⟨rfl, rfl⟩
  generalize hsw : swapV a = s at *
  generalize hob : isObs a = o at *
  cases o
  · have HR : Hid (okI a b = false) := by unfold Hid; rw [HE.out, Bool.false_and]
    go_wp2
    go_ret
    exact ⟨ret_bool HR.out.symm, drewN_below (Below.refl _ _)⟩
  · by_cases hs : b = s
    · have HR : Hid (okI a b = true) := by unfold Hid; rw [HE.out]; simp [hs]
      go_wp2
      go_ret
      exact ⟨ret_bool (by rw [HR.out] <;> simp [hs]), drewN_below (Below.refl _ _)⟩
    · have HR : Hid (okI a b = false) := by unfold Hid; rw [HE.out]; simp [hs]
      have hs' : ¬ s = b := fun e => hs e.symm
      go_wp2
      go_ret
      exact ⟨ret_bool (by rw [HR.out]; simp [hs']), drewN_below (Below.refl _ _)⟩
end Go.Proofs.Ytlkhknoaifbajaa

/- The program's sidesOf, IsCandidate: what they answer. -/
namespace Go.Proofs.Ytlkhknoaifbajaa
set_option maxRecDepth 100000
open Go.RowKit M
set_option linter.unusedVariables false
set_option linter.unusedSimpArgs false

/-- Two rows of bytes of the call's own. -/
def TwoB (base : Nat) (w : World) (u v : Value) (a b : List UInt8) : Prop :=
  w.ownsRow base 5 1 u a.length (cellsB a) ∧ w.ownsRow base 5 1 v b.length (cellsB b) ∧ ∀ k, u.ownBlock = some k → v.ownBlock ≠ some k
theorem TwoB.symm {base : Nat} {w : World} {u v : Value} {a b : List UInt8} (h : TwoB base w u v a b) : TwoB base w v u b a :=
  ⟨h.2.1, h.1, fun k hk hu => h.2.2 k hu hk⟩
theorem TwoB.kept {base : Nat} {w w' : World} {u v : Value} {a b : List UInt8} (h : TwoB base w u v a b) (hb : Below w.heap.size w w') : TwoB base w' u v a b := by
  obtain ⟨h1, h2, h3⟩ := h
  have keep : ∀ {u : Value} {a : List UInt8}, w.ownsRow base 5 1 u a.length (cellsB a) → w'.ownsRow base 5 1 u a.length (cellsB a) := fun h => by
    refine ⟨h.1, ?_⟩
    rcases h.2 with hn | ⟨g, cap, cur, e, hg0, hg, rest⟩
    · exact Or.inl hn
    · exact Or.inr ⟨g, cap, cur, e, hg0, (hb.block g (lt_of_block hg)).trans hg, rest⟩
  exact ⟨keep h1, keep h2, h3⟩
theorem row_not {w : World} {base n : Nat} {u : Value} {c : List Value} (h : w.ownsRow base 5 1 u n c) {g : Nat} {cs : Array Value} {t : TypeId} (hg : InC w g cs t) (ht : t ≠ 5) : u.ownBlock ≠ some g := by
  rcases h.2 with ⟨rfl, _⟩ | ⟨g', cap, cur, rfl, _, hg', _⟩
  · simp [Value.ownBlock]
  · intro e
    have : g' = g := by simpa [Value.ownBlock] using e
    subst this
    unfold InC at hg
    rw [hg'] at hg
    injection (Option.some.inj hg) with _ e2 _
    exact ht e2.symm
theorem wpList_append_twoB {ops : Array Oper} {rest : List Oper} {o : Oper} {a : Act} {Q : Exit → Act → World → Prop} (w : World) (hgd : o.guard = none) (s x : Operand)
    (ho : o.op = .call { callee := .builtin .append, args := #[s, x], argTypes := #[22, 22] })
    (base : Nat) (u v : Value) (l m : List UInt8) (hT : TwoB base w u v l m) (hs : a.eval s = u) (b : Int) (hb0 : 0 ≤ b) (hb1 : b < 256)
    (nb : Nat) (hnb : nb = w.heap.size) (hx : a.eval x = .slice (some ⟨nb, 0, none⟩) 1 1) (hn : l.length ≤ 70368744177664) (hbase : base ≤ w.heap.size)
    (h : ∀ u' w', TwoB base w' u' v (l ++ [byt b]) m → Below base w w' → (∀ g cs t, t ≠ 5 → InC w g cs t → InC w' g cs t) → wpList Try.prog ops Q rest (a.put o.dst u') w') :
    wpList Try.prog ops Q (o :: rest) a (w.alloc (.cells #[.int .u8 b] 5)) := by
  obtain ⟨i0, hi, hz0, hz1, hz2⟩ := info_parts Try.info5
  subst hnb
  obtain ⟨hown, hother, hne⟩ := hT
  refine wpList_append_own_at (w.alloc (.cells #[.int .u8 b] 5)) hgd s x 22 ho base 5 i0 (.int .u8 0) 1 1 Try.underlying22 hi hz0 hz1 hz2 rfl (by decide) u l.length (cellsB l) hs (hown.alloc _) ⟨w.heap.size, 0, none⟩ 1 1 [.int .u8 b] hx rfl (cell_one_new _ _ _)
    (fun u hu => by simp at hu; subst hu; rfl) (by unfold maxLen; omega) (by omega) (by simp; omega) ?_
  intro u' w' h1 h2 _ h4
  have hkeep : ∀ k, k < w.heap.size → u.ownBlock ≠ some k → w'.heap[k]? = w.heap[k]? := fun k hk hu =>
    (h2.block k (by simp; omega) (fun e => hu e.symm)).trans (Below.heap_alloc w _ k hk)
  refine h u' w' ⟨by rw [cellsB_append, cellsB_one b hb0 hb1, List.length_append]; exact h1, ?_, ?_⟩ ?_ ?_
  · refine ⟨hother.1, ?_⟩
    rcases hother.2 with hn | ⟨g, cap, cur, rfl, hg0, hg, rest⟩
    · exact Or.inl hn
    · exact Or.inr ⟨g, cap, cur, rfl, hg0, (hkeep g (lt_of_block hg) (fun e => hne g e rfl)).trans hg, rest⟩
  · intro k hk hv
    rcases h4 with h4 | h4
    · rw [h4] at hk; exact hne k hk hv
    · rw [h4] at hk
      have := (hother.lt k hv).2
      simp at hk
      omega
  · exact ((Below.refl base w).alloc hbase _).grown h2 (by simp; omega) (fun q hq => (hown.lt q hq).1)
  · intro g cs t ht hg
    exact (hkeep g hg.lt (row_not hown hg ht)).trans hg
theorem ownsRow_drewN {w : World} {base n m : Nat} {v : Value} {c : List Value} (h : w.ownsRow base 5 1 v n c) : (w.drewN m).ownsRow base 5 1 v n c := by
  induction m generalizing w with
  | zero => exact h
  | succ m ih => exact ih h.drew
set_option maxHeartbeats 4000000 in
theorem implSides_any (l : List DLink) (v : Value) (F : Addr → Prop) (w : World) (hl : l.length ≤ 1048576) (hv : RowRd rLink false w v l F) :
    Calls Try.prog 73 #[v] w fun e w' => e = .returned (.tuple #[.string ⟨(inL l).toArray⟩, .string ⟨(outL l).toArray⟩]) ∧ Below w.heap.size w w' := by
  obtain ⟨A, cap, rfl⟩ := hv.form
  have HV := Lib.hid hv
  clear hv
  have HX : Hid (∀ k, k < l.length → ∃ y, l[k]? = some y) := fun k hk => ⟨_, List.getElem?_eq_getElem hk⟩
  go_enter Try.func73, Try.ntmps73
  go_wp2
  go_loopw [4, 5, 10] (fun u v i wr => ∃ (k : Nat), k ≤ l.length ∧ i = .int .i64 k ∧ TwoB w.heap.size wr u v (inL (l.take k)) (outL (l.take k)) ∧ Below w.heap.size w wr) (fun _ _ i _ => l.length - (intOf i).toNat)
  case atStart => exact ⟨0, by omega, rfl, ⟨World.ownsRow_nil _ _ _ _, World.ownsRow_nil _ _ _ _, fun k hk => by simp [Value.ownBlock] at hk⟩, Below.refl _ _⟩
  case round =>
    obtain ⟨k, hk, rfl, ht, hbe⟩ := hrel
    have HBE := Lib.hid hbe
    clear hbe
    by_cases hkl : k < l.length
    · obtain ⟨y, hy⟩ := HX.out k hkl
      obtain ⟨g, off, xs, Fk, rfl, _, hra, _, hca⟩ := (HV.out.kept HBE.out).get hy
      obtain rfl := rLink_rd hra
      rw [rLink_size] at hca
      have c0 := hca 0 _ rfl
      have c1 := hca 1 _ rfl
      simp only [Nat.add_zero] at c0
      have HIY := Lib.hid (fun h => inL_yes hy h)
      have HIN := Lib.hid (fun h => inL_no hy h)
      have HOY := Lib.hid (fun h => outL_yes hy h)
      have HON := Lib.hid (fun h => outL_no hy h)
      have hli := inL_len l k
      have hlo := outL_len l k
      clear hca hra hy
      have ha := u8_in y.In
      have hb := u8_in y.Out
      generalize inL (l.take k) = I0 at *
      generalize outL (l.take k) = O0 at *
      generalize (y.In.toNat : Int) = a at *
      generalize (y.Out.toNat : Int) = b at *
      have HT1 : Hid (TwoB w.heap.size (wr.alloc (.cells #[.int .u8 a, .int .u8 b] 65)) _ _ I0 O0) := ht.kept ((Below.refl _ _).alloc (Nat.le_refl _) _)
      have HL : Hid (InC (wr.alloc (.cells #[.int .u8 a, .int .u8 b] 65)) wr.heap.size #[.int .u8 a, .int .u8 b] 65) := heap_alloc_new _ _
      have HBA : Hid (Below w.heap.size w (wr.alloc (.cells #[.int .u8 a, .int .u8 b] 65))) := HBE.out.alloc HBE.out.size _
      have HAB := Lib.hid (And.intro ha hb)
      have HLE : Hid (I0.length ≤ 70368744177664 ∧ O0.length ≤ 70368744177664) := by unfold Hid; omega
      clear ha hb ht hli hlo
      by_cases ha0 : a = 0
      · have HI := Lib.hid (HIN.out ha0)
        subst ha0
        by_cases hb0 : b = 0
        · have HO := Lib.hid (HON.out hb0)
          subst hb0
          go_wp2
          go_roundw
          case rel => exact ⟨k + 1, by omega, by go_num, by rw [HI.out, HO.out]; exact HT1.out, HBA.out⟩
          case measure => simp [intOf]; omega
        · have HO := Lib.hid (HOY.out hb0)
          go_wp2_with (at_builtin; refine wpList_append_twoB _ rfl (.tmp 25) (.tmp 28) rfl w.heap.size _ _ _ _ HT1.out.symm rfl b HAB.out.2.1 HAB.out.2.2 _ (by simp) rfl HLE.out.2 HBA.out.size ?_; intro v' w1 h1 hb1 hk1; have HT2 := Lib.hid h1; have HB1 := Lib.hid hb1; clear h1 hb1 hk1)
          go_roundw
          case rel => exact ⟨k + 1, by omega, by go_num, by rw [HI.out, HO.out]; exact HT2.out.symm, HBA.out.trans HB1.out⟩
          case measure => simp [intOf]; omega
      · have HI := Lib.hid (HIY.out ha0)
        by_cases hb0 : b = 0
        · have HO := Lib.hid (HON.out hb0)
          subst hb0
          go_wp2_with (at_builtin; refine wpList_append_twoB _ rfl (.tmp 17) (.tmp 20) rfl w.heap.size _ _ _ _ HT1.out rfl a HAB.out.1.1 HAB.out.1.2 _ (by simp) rfl HLE.out.1 HBA.out.size ?_; intro v' w1 h1 hb1 hk1; have hl1 := hk1 _ _ _ (by decide) HL.out; have d0 := hl1.cell 0 rfl; have d1 := hl1.cell 1 rfl; have HT2 := Lib.hid h1; have HB1 := Lib.hid hb1; clear h1 hb1 hk1 hl1)
          go_roundw
          case rel => exact ⟨k + 1, by omega, by go_num, by rw [HI.out, HO.out]; exact HT2.out, HBA.out.trans HB1.out⟩
          case measure => simp [intOf]; omega
        · have HO := Lib.hid (HOY.out hb0)
          go_wp2_with (first | (at_builtin; refine wpList_append_twoB _ rfl (.tmp 17) (.tmp 20) rfl w.heap.size _ _ _ _ HT1.out rfl a HAB.out.1.1 HAB.out.1.2 _ (by simp) rfl HLE.out.1 HBA.out.size ?_; intro v' w1 h1 hb1 hk1; have hl1 := hk1 _ _ _ (by decide) HL.out; have d0 := hl1.cell 0 rfl; have d1 := hl1.cell 1 rfl; have HT2 := Lib.hid h1; have HB1 : Hid (Below w.heap.size w w1) := HBA.out.trans hb1; clear h1 hb1 hk1 hl1 HT1) | (at_builtin; refine wpList_append_twoB _ rfl (.tmp 25) (.tmp 28) rfl w.heap.size _ _ _ _ HT2.out.symm rfl b HAB.out.2.1 HAB.out.2.2 _ (by simp) rfl HLE.out.2 HB1.out.size ?_; intro v2 w2 h1 hb1 hk1; have HT3 := Lib.hid h1; have HB2 := Lib.hid hb1; clear h1 hb1 hk1))
          go_roundw
          case rel => exact ⟨k + 1, by omega, by go_num, by rw [HI.out, HO.out]; exact HT3.out.symm, HB1.out.trans HB2.out⟩
          case measure => simp [intOf]; omega
    · obtain rfl : k = l.length := by omega
      rw [List.take_length] at ht
      have hc1 : ∀ n, (convert 22 9 u4).run Try.prog (wr.drewN n) = .ok (.string ⟨(inL l).toArray⟩) (wr.drewN n) := fun n => conv_own (ownsRow_drewN ht.1)
      have hc2 : ∀ n, (convert 22 9 u5).run Try.prog (wr.drewN n) = .ok (.string ⟨(outL l).toArray⟩) (wr.drewN n) := fun n => conv_own (ownsRow_drewN ht.2.1)
      go_wp2
      go_quiet (fail)
      go_wp2
      go_ret2
      exact ⟨rfl, drewN_below HBE.out⟩
set_option maxHeartbeats 4000000 in
theorem implIsCd_any (x : DCandidate) (v : Value) (F : Addr → Prop) (w : World) (hl : x.Links.length ≤ 1048576) (hv : RowRd rLink false w v x.Links F) :
    Calls Try.prog 61 #[.agg #[v]] w fun e w' => e = .returned (.bool (isCd x.Links)) ∧ Below w.heap.size w w' := by
  obtain ⟨A, cap, rfl⟩ := hv.form
  have HV := Lib.hid hv
  clear hv
  go_enter Try.func61, Try.ntmps61
  by_cases h16 : (16 : Int) < x.Links.length
  case pos =>
    have HE : Hid (isCd x.Links = false) := isCd_long (by omega)
    go_wp2
    go_ret
    exact ⟨ret_bool HE.out.symm, (Below.refl _ _).alloc (Nat.le_refl _) _⟩
  have HX : Hid (∀ k, k < x.Links.length → ∃ y, x.Links[k]? = some y) := fun k hk => ⟨_, List.getElem?_eq_getElem hk⟩
  have HNOT : Hid (∀ k (y : DLink), x.Links[k]? = some y → okI (y.In.toNat : Int) (y.Out.toNat : Int) = false → isCd x.Links = false) := fun k y h1 h2 => isCd_not h1 h2
  go_wp2
  go_loopw [14] (fun i wr => ∃ (k : Nat), k ≤ x.Links.length ∧ i = .int .i64 k ∧ Hid (∀ j y, x.Links[j]? = some y → j < k → okI (y.In.toNat : Int) (y.Out.toNat : Int) = true) ∧ Below w.heap.size w wr ∧ InC wr w.heap.size #[.slice A x.Links.length cap] 26) (fun i _ => x.Links.length - (intOf i).toNat)
  case atStart => exact ⟨0, by omega, rfl, fun j y _ h => by omega, (Below.refl _ _).alloc (Nat.le_refl _) _, heap_alloc_new _ _⟩
  case round =>
    obtain ⟨k, hk, rfl, hall, hbe, hi1⟩ := hrel
    have b1 := hi1.cell 0 rfl
    have HBE := Lib.hid hbe
    have HI1 := Lib.hid hi1
    clear hbe hi1
    by_cases hkl : k < x.Links.length
    · obtain ⟨y, hy⟩ := HX.out k hkl
      obtain ⟨g, off, xs, Fk, rfl, _, hra, _, hca⟩ := (HV.out.kept HBE.out).get hy
      obtain rfl := rLink_rd hra
      rw [rLink_size] at hca
      have c0 := hca 0 _ rfl
      have c1 := hca 1 _ rfl
      simp only [Nat.add_zero] at c0
      have HY := Lib.hid hy
      clear hca hra hy
      have HOK : Hid (okI (y.In.toNat : Int) (y.Out.toNat : Int) = true → ∀ j z, x.Links[j]? = some z → j < k + 1 → okI (z.In.toNat : Int) (z.Out.toNat : Int) = true) := fun h j z hz hj => by
        by_cases hjk : j = k
        · subst hjk; rw [HY.out] at hz; cases hz; exact h
        · exact hall.out j z hz (by omega)
      have HNO := Lib.hid (HNOT.out k y HY.out)
      have ha := u8_in y.In
      have hb := u8_in y.Out
      generalize (y.In.toNat : Int) = a at *
      generalize (y.Out.toNat : Int) = b at *
      have HAB := Lib.hid (And.intro ha hb)
      clear ha hb HY
      go_wp2_with fail
      refine (implValid_any a b _ _ HAB.out.1 HAB.out.2 (heap_alloc_new _ _)).mono ?_
      rintro e w2 ⟨rfl, hb2⟩
      have HB2 : Hid (Below w.heap.size w w2) := (HBE.out.alloc HBE.out.size _).trans (hb2.mono (by simp; have := HBE.out.size; omega))
      have HI2 : Hid (InC w2 w.heap.size #[.slice (some ⟨g, off, none⟩) x.Links.length cap] 26) := (HI1.out.kept ((Below.refl _ _).alloc (Nat.le_refl _) _)).kept hb2
      clear hb2 HI1 b1
      have b2 := HI2.out.cell 0 rfl
      cases hok : okI a b
      · have HR := Lib.hid (HNO.out hok)
        go_wp2
        go_ret
        exact ⟨ret_bool HR.out.symm, HB2.out⟩
      · have HALL := Lib.hid (HOK.out hok)
        go_wp2
        go_roundw
        case rel => exact ⟨k + 1, by omega, by go_num, HALL, HB2.out, HI2.out⟩
        case measure => simp [intOf]; omega
    · obtain rfl : k = x.Links.length := by omega
      have HI : Hid (isCd x.Links = (isFm ⟨(inL x.Links).toArray⟩ && isFm ⟨(outL x.Links).toArray⟩)) := by
        unfold Hid isCd
        rw [all_ok (fun j y h1 h2 => hall.out j y h1 h2), Bool.true_and, show decide ((x.Links.length : Int) ≤ 16) = true by simp; omega, Bool.true_and]
      have hli := inL_len_all x.Links
      have hlo := outL_len_all x.Links
      have HLI : Hid ((⟨(inL x.Links).toArray⟩ : ByteArray).size ≤ maxLen) := by unfold Hid maxLen; simp [ByteArray.size]; omega
      have HLO : Hid ((⟨(outL x.Links).toArray⟩ : ByteArray).size ≤ maxLen) := by unfold Hid maxLen; simp [ByteArray.size]; omega
      have HSD := Lib.hid (implSides_any x.Links _ F wr hl (HV.out.kept HBE.out))
      go_wp2_with fail
      refine HSD.out.mono ?_
      rintro e w2 ⟨rfl, hb2⟩
      have HB2 : Hid (Below w.heap.size w w2) := below_step HBE.out hb2
      clear hb2 HSD
      go_wp2_with fail
      refine (implFmS_any ⟨(inL x.Links).toArray⟩ _ HLI.out).mono ?_
      rintro e w3 ⟨rfl, rfl⟩
      generalize isFm ⟨(inL x.Links).toArray⟩ = fi at *
      cases fi
      · go_wp2_with fail
        go_ret
        exact ⟨ret_bool (by rw [HI.out] <;> simp), HB2.out⟩
      · go_wp2_with fail
        refine (implFmS_any ⟨(outL x.Links).toArray⟩ _ HLO.out).mono ?_
        rintro e w4 ⟨rfl, rfl⟩
        go_wp2_with fail
        go_ret
        exact ⟨ret_bool (by rw [HI.out] <;> simp), HB2.out⟩
end Go.Proofs.Ytlkhknoaifbajaa

/- The program's appendTo: what it answers. -/
namespace Go.Proofs.Ytlkhknoaifbajaa
set_option maxRecDepth 100000
open Go.RowKit M
set_option linter.unusedVariables false
set_option linter.unusedSimpArgs false

theorem implOr_any (a b : Int) (g : Nat) (w : World) (h : InC w g #[.int .u8 a, .int .u8 b] 5) :
    Calls Try.prog 95 #[.slice (some ⟨g, 0, none⟩) 2 2] w fun e w' => e = .returned (.int .u8 (if a = 0 then b else a)) ∧ w = w' := by
  have c0 := h.cell 0 rfl
  have c1 := h.cell 1 rfl
  clear h
  go_enter Try.func95, Try.ntmps95
  go_wp2
  go_loop [8] (fun i => ∃ j : Nat, j ≤ 2 ∧ i = .int .i64 j ∧ Hid ((1 ≤ j → a = 0) ∧ (2 ≤ j → b = 0))) (fun i => 2 - (intOf i).toNat)
  case atStart => exact ⟨0, by omega, rfl, fun h => by omega, fun h => by omega⟩
  case round =>
    obtain ⟨j, hj, rfl, hx⟩ := hrel
    rcases (show j = 0 ∨ j = 1 ∨ j = 2 by omega) with rfl | rfl | rfl
    · by_cases ha : a = 0
      · subst ha
        go_wp2
        go_round
        case rel => exact ⟨1, by omega, by go_num, by simp [Hid]⟩
        case measure => simp [intOf]
      · go_wp2
        go_ret
        exact ⟨rfl, by trivial⟩
    · have ha : a = 0 := hx.out.1 (by omega)
      subst ha
      by_cases hb : b = 0
      · subst hb
        go_wp2
        go_round
        case rel => exact ⟨2, by omega, by go_num, by simp [Hid]⟩
        case measure => simp [intOf]
      · go_wp2
        go_ret
        exact ⟨rfl, by trivial⟩
    · have ha : a = 0 := hx.out.1 (by omega)
      have hb : b = 0 := hx.out.2 (by omega)
      subst ha hb
      go_wp2
      go_ret
      exact ⟨rfl, by trivial⟩
def AppPost (base : Nat) (t : List UInt8) (w : World) (e : Ending) (w' : World) : Prop := ∃ u, e = .returned u ∧ w'.ownsRow base 5 1 u t.length (cellsB t) ∧ Below base w w' ∧ ∀ (k : Nat) (o : Obj), w.heap[k]? = some o → (∀ c fz, o ≠ .cells c 5 fz) → w'.heap[k]? = some o
theorem not5 {cs : Array Value} {t : TypeId} (ht : t ≠ 5) : ∀ c fz, Obj.cells cs t (0, 0) ≠ .cells c 5 fz := by
  intro c fz e; injection e with _ e2 _; exact ht e2
theorem keep_alloc {w w' : World} (h : ∀ (k : Nat) (o : Obj), w.heap[k]? = some o → (∀ c fz, o ≠ .cells c 5 fz) → w'.heap[k]? = some o) {cs : Array Value} : ∀ (k : Nat) (o : Obj), w.heap[k]? = some o → (∀ c fz, o ≠ .cells c 5 fz) → (w'.alloc (.cells cs 5)).heap[k]? = some o := by
  intro k o hk hne
  have h1 := h k o hk hne
  have hlt : k < w'.heap.size := lt_of_block h1
  exact (Below.heap_alloc w' _ k hlt).trans h1
theorem drewN_heap (w : World) (n : Nat) : (w.drewN n).heap = w.heap := by
  induction n generalizing w with
  | zero => rfl
  | succ n ih => exact (ih w.drew)
theorem ownsRow_drewN6 {w : World} {base n m : Nat} {v : Value} {c : List Value} (h : w.ownsRow base 5 1 v n c) : (w.drewN m).ownsRow base 5 1 v n c := by
  induction m generalizing w with
  | zero => exact h
  | succ m ih => exact ih h.drew
theorem inC_drewN {w : World} {g n : Nat} {cs : Array Value} {t : TypeId} (h : InC w g cs t) : InC (w.drewN n) g cs t := by
  unfold InC; rw [drewN_heap]; exact h
theorem Below6.drew {B : Nat} {w w' : World} (h : Below B w w') : Below B w w'.drew := h.drew
theorem Below6.drewN {B n : Nat} {w w' : World} (h : Below B w w') : Below B w (w'.drewN n) := drewN_below h
theorem wpList_append_byte_n {ops : Array Oper} {rest : List Oper} {o : Oper} {a : Act} {Q : Exit → Act → World → Prop} (w : World) (hgd : o.guard = none) (s x : Operand)
    (ho : o.op = .call { callee := .builtin .append, args := #[s, x], argTypes := #[22, 22] })
    (base : Nat) (v : Value) (n : Nat) (l : List UInt8) (hs : a.eval s = v) (hown : w.ownsRow base 5 1 v n (cellsB l)) (b : Int) (hb0 : 0 ≤ b) (hb1 : b < 256)
    (nb : Nat) (hnb : nb = w.heap.size) (hx : a.eval x = .slice (some ⟨nb, 0, none⟩) 1 1) (hn : n ≤ 70368744177664) (hbase : base ≤ w.heap.size)
    (h : ∀ v' w', w'.ownsRow base 5 1 v' (n + 1) (cellsB (l ++ [byt b])) → Below base w w' → (∀ (k : Nat) (o : Obj), w.heap[k]? = some o → (∀ c fz, o ≠ .cells c 5 fz) → w'.heap[k]? = some o) → wpList Try.prog ops Q rest (a.put o.dst v') w') :
    wpList Try.prog ops Q (o :: rest) a (w.alloc (.cells #[.int .u8 b] 5)) := by
  subst hnb
  exact wpList_append_byte_k w hgd s x ho base v n l hs hown b hb0 hb1 hx hn hbase h
theorem step_append_byte_n {ops : Array Oper} {o : Oper} {a : Act} {K : Act → World → Prop} {Q : Exit → Act → World → Prop} {E : Prop} (w : World) (hgd : o.guard = none) (s x : Operand)
    (ho : o.op = .call { callee := .builtin .append, args := #[s, x], argTypes := #[22, 22] })
    (base : Nat) (v : Value) (n : Nat) (l : List UInt8) (hown : w.ownsRow base 5 1 v n (cellsB l)) (b : Int) (hb0 : 0 ≤ b) (hb1 : b < 256)
    (nb : Nat) (hnb : nb = w.heap.size) (hn : n ≤ 70368744177664) (hbase : base ≤ w.heap.size) (hs : a.eval s = v) (hx : a.eval x = .slice (some ⟨nb, 0, none⟩) 1 1)
    (h : ∀ v' w', w'.ownsRow base 5 1 v' (n + 1) (cellsB (l ++ [byt b])) → Below base w w' → (∀ (k : Nat) (o : Obj), w.heap[k]? = some o → (∀ c fz, o ≠ .cells c 5 fz) → w'.heap[k]? = some o) → K (a.put o.dst v') w') :
    if Region.wanted o (yielded ops a.tmps) = true then Oper.wp Try.prog o a (w.alloc (.cells #[.int .u8 b] 5)) K Q else E := by
  have hw : Region.wanted o (yielded ops a.tmps) = true := by simp [Region.wanted, hgd]
  rw [if_pos hw]
  subst hnb
  obtain ⟨i0, hi, hz0, hz1, hz2⟩ := info_parts Try.info5
  refine wp_append_own (w.alloc (.cells #[.int .u8 b] 5)) s x 22 ho base 5 i0 (.int .u8 0) 1 1 Try.underlying22 hi hz0 hz1 hz2 rfl (by decide) v n (cellsB l) hs (hown.alloc _) ⟨w.heap.size, 0, none⟩ 1 1 [.int .u8 b] hx rfl (cell_one_new _ _ _)
    (fun u hu => by simp at hu; subst hu; rfl) (by unfold maxLen; omega) (by omega) (by simp; omega) ?_
  intro v' w' h1 h2 _
  refine h v' w' (by rw [cellsB_append, cellsB_one b hb0 hb1]; exact h1) ?_ ?_
  · exact ((Below.refl base w).alloc hbase _).grown h2 (by simp; omega) (fun q hq => (hown.lt q hq).1)
  · intro k ob hk hob
    have hlt : k < w.heap.size := lt_of_block hk
    have hne : some k ≠ v.ownBlock := by
      rcases hown.2 with ⟨rfl, _⟩ | ⟨g, cap, cur, rfl, _, hg, _⟩
      · simp [Value.ownBlock]
      · intro e
        have : k = g := by simpa [Value.ownBlock] using e
        subst this
        rw [hk] at hg
        exact hob _ _ (Option.some.inj hg)
    rw [h2.block k (by simp; omega) hne, Below.heap_alloc _ _ _ hlt, hk]
theorem step_append_byte_drew {ops : Array Oper} {o : Oper} {a : Act} {K : Act → World → Prop} {Q : Exit → Act → World → Prop} {E : Prop} (w : World) (hgd : o.guard = none) (s x : Operand)
    (ho : o.op = .call { callee := .builtin .append, args := #[s, x], argTypes := #[22, 22] })
    (base : Nat) (v : Value) (n : Nat) (l : List UInt8) (hown : w.ownsRow base 5 1 v n (cellsB l)) (b : Int) (hb0 : 0 ≤ b) (hb1 : b < 256)
    (nb : Nat) (hnb : nb = w.heap.size) (hn : n ≤ 70368744177664) (hbase : base ≤ w.heap.size) (hs : a.eval s = v) (hx : a.eval x = .slice (some ⟨nb, 0, none⟩) 1 1)
    (h : ∀ v' w', w'.ownsRow base 5 1 v' (n + 1) (cellsB (l ++ [byt b])) → Below base w w' → (∀ (k : Nat) (o : Obj), w.heap[k]? = some o → (∀ c fz, o ≠ .cells c 5 fz) → w'.heap[k]? = some o) → K (a.put o.dst v') w') :
    if Region.wanted o (yielded ops a.tmps) = true then Oper.wp Try.prog o a ((w.alloc (.cells #[.int .u8 b] 5)).drew) K Q else E :=
  step_append_byte_n w.drew hgd s x ho base v n l hown.drew b hb0 hb1 nb hnb hn hbase hs hx fun v' w' h1 h2 h3 => h v' w' h1 ⟨h2.os, h2.tape, h2.output, h2.size, h2.block⟩ h3
theorem sign_byt : byt 43 = 43 ∧ byt 45 = 45 ∧ byt 42 = 42 := by decide
set_option maxHeartbeats 4000000 in
theorem implApp_any (y : DLink) (g base : Nat) (u : Value) (t : List UInt8) (w : World) (hok : okL y = true) (hL : InC w g #[.int .u8 (y.In.toNat : Int), .int .u8 (y.Out.toNat : Int)] 65) (ht : w.ownsRow base 5 1 u t.length (cellsB t)) (hn : t.length ≤ 1000000) (hb : base ≤ w.heap.size) :
    Calls Try.prog 62 #[.pointer (some ⟨g, 0, none⟩), u] w (AppPost base (t ++ ftK y) w) := by
  have HSM : Hid ((y.In.toNat : Int) = (y.Out.toNat : Int) → ftK y = [byt (y.In.toNat : Int)]) := ft_same
  have HPU : Hid ((y.In.toNat : Int) = 0 → ftK y = [43, byt (y.Out.toNat : Int)]) := fun h0 => ft_put (ok_put hok h0) h0
  have HAW : Hid (¬ (y.In.toNat : Int) = 0 → (y.Out.toNat : Int) = 0 → ftK y = [45, byt (y.In.toNat : Int)]) := fun h h0 => ft_away h h0
  have HVO : Hid (¬ (y.In.toNat : Int) = (y.Out.toNat : Int) → ¬ (y.In.toNat : Int) = 0 → ¬ (y.Out.toNat : Int) = 0 → ftK y = [42, byt (y.In.toNat : Int)]) := fun h h1 h2 => ft_voice h h1 h2
  have ha := u8_in y.In
  have hb8 := u8_in y.Out
  generalize ftK y = r at *
  generalize (y.In.toNat : Int) = a at *
  generalize (y.Out.toNat : Int) = b at *
  have c0 := hL.cell 0 rfl
  have c1 := hL.cell 1 rfl
  have HL := Lib.hid hL
  have HT := Lib.hid ht
  have HN := Lib.hid hn
  have HBS := Lib.hid hb
  have HAB := Lib.hid (And.intro ha hb8)
  clear hL ht hn hb ha hb8 hok
  go_enter Try.func62, Try.ntmps62
  by_cases ha : a = 0
  case pos =>
    have HR := Lib.hid (HPU.out ha)
    subst ha
    go_wp2_with (at_builtin; refine wpList_append_byte_n _ rfl (.tmp 11) (.tmp 12) rfl base _ _ _ rfl HT.out 43 (by omega) (by omega) _ (by simp) rfl (by have := HN.out; omega) HBS.out ?_; intro v1 w1 h1 hb1 hk1; have hl1 : InC w1 g #[.int .u8 0, .int .u8 b] 65 := hk1 _ _ HL.out (not5 (by decide)); have d0 := hl1.cell 0 rfl; have d1 := hl1.cell 1 rfl; have HT1 := Lib.hid h1; have HK1 := Lib.hid hk1; have HB1 := Lib.hid hb1; clear h1 hb1 hk1 hl1)
    have HT2 : Hid ((w1.alloc (.cells #[.int .u8 0, .int .u8 b] 5)).ownsRow base 5 1 _ _ (cellsB (t ++ [byt 43]))) := HT1.out.alloc _
    have HB2 : Hid (Below base w (w1.alloc (.cells #[.int .u8 0, .int .u8 b] 5))) := HB1.out.alloc (Nat.le_trans HBS.out HB1.out.size) _
    have HK2 := Lib.hid (keep_alloc HK1.out (cs := #[.int .u8 0, .int .u8 b]))
    have HOR : Hid (∀ W : World, W.heap = (w1.alloc (.cells #[.int .u8 0, .int .u8 b] 5)).heap → Calls Try.prog 95 #[.slice (some ⟨w1.heap.size, 0, none⟩) 2 2] W fun e w' => e = .returned (.int .u8 b) ∧ W = w') := fun W hW => by
      have hh := implOr_any 0 b w1.heap.size W (by unfold InC; rw [hW]; exact heap_alloc_new w1 _)
      rwa [show (if (0 : Int) = 0 then b else 0) = b from if_pos rfl] at hh
    have HQ : Hid (0 ≤ b ∧ b < 256) := by have := HAB.out; unfold Hid; omega
    have HNB : Hid (w1.heap.size + 1 = (w1.alloc (.cells #[.int .u8 0, .int .u8 b] 5)).heap.size) := by unfold Hid; simp
    have HN2 : Hid ((t.length + 1) ≤ 70368744177664) := by have := HN.out; unfold Hid; omega
    have HBS2 : Hid (base ≤ (w1.alloc (.cells #[.int .u8 0, .int .u8 b] 5)).heap.size) := Nat.le_trans HBS.out HB2.out.size
    go_region_law (first | (go_simp; go_at_call 95; refine (HOR.out _ ?_).mono ?_; rfl; rintro e w2 ⟨rfl, rfl⟩) | (refine step_append_byte_drew (w1.alloc (.cells #[.int .u8 0, .int .u8 b] 5)) rfl (.tmp 36) (.tmp 47) rfl base v1 (t.length + 1) (t ++ [byt 43]) HT2.out b HQ.out.1 HQ.out.2 (w1.heap.size + 1) HNB.out HN2.out HBS2.out (by simp [Act.eval]) (by simp [Act.eval]) ?_; intro v3 w3 h1 hb1 hk1; have HT3 := Lib.hid h1; have HB3 := Lib.hid (HB2.out.trans hb1); have HK3 := Lib.hid hk1; clear h1 hb1 hk1))
    all_goals
      go_wp2
      go_ret
      exact ⟨v3, rfl, by rw [HR.out]; simpa [Hid, List.length_append, Nat.add_assoc, sign_byt] using HT3, HB3.out, fun k o h hne => HK3.out k o (HK2.out k o h hne) hne⟩
  by_cases hb : b = 0
  case pos =>
    have HR := Lib.hid (HAW.out ha hb)
    subst hb
    go_wp2_with (at_builtin; refine wpList_append_byte_n _ rfl (.tmp 20) (.tmp 21) rfl base _ _ _ rfl HT.out 45 (by omega) (by omega) _ (by simp) rfl (by have := HN.out; omega) HBS.out ?_; intro v1 w1 h1 hb1 hk1; have hl1 : InC w1 g #[.int .u8 a, .int .u8 0] 65 := hk1 _ _ HL.out (not5 (by decide)); have d0 := hl1.cell 0 rfl; have d1 := hl1.cell 1 rfl; have HT1 := Lib.hid h1; have HK1 := Lib.hid hk1; have HB1 := Lib.hid hb1; clear h1 hb1 hk1 hl1)
    have HT2 : Hid ((w1.alloc (.cells #[.int .u8 a, .int .u8 0] 5)).ownsRow base 5 1 _ _ (cellsB (t ++ [byt 45]))) := HT1.out.alloc _
    have HB2 : Hid (Below base w (w1.alloc (.cells #[.int .u8 a, .int .u8 0] 5))) := HB1.out.alloc (Nat.le_trans HBS.out HB1.out.size) _
    have HK2 := Lib.hid (keep_alloc HK1.out (cs := #[.int .u8 a, .int .u8 0]))
    have HOR : Hid (∀ W : World, W.heap = (w1.alloc (.cells #[.int .u8 a, .int .u8 0] 5)).heap → Calls Try.prog 95 #[.slice (some ⟨w1.heap.size, 0, none⟩) 2 2] W fun e w' => e = .returned (.int .u8 a) ∧ W = w') := fun W hW => by
      have hh := implOr_any a 0 w1.heap.size W (by unfold InC; rw [hW]; exact heap_alloc_new w1 _)
      rwa [show (if a = 0 then 0 else a) = a from if_neg ha] at hh
    have HQ : Hid (0 ≤ a ∧ a < 256) := by have := HAB.out; unfold Hid; omega
    have HNB : Hid (w1.heap.size + 1 = (w1.alloc (.cells #[.int .u8 a, .int .u8 0] 5)).heap.size) := by unfold Hid; simp
    have HN2 : Hid ((t.length + 1) ≤ 70368744177664) := by have := HN.out; unfold Hid; omega
    have HBS2 : Hid (base ≤ (w1.alloc (.cells #[.int .u8 a, .int .u8 0] 5)).heap.size) := Nat.le_trans HBS.out HB2.out.size
    go_region_law (first | (go_simp; go_at_call 95; refine (HOR.out _ ?_).mono ?_; rfl; rintro e w2 ⟨rfl, rfl⟩) | (refine step_append_byte_drew (w1.alloc (.cells #[.int .u8 a, .int .u8 0] 5)) rfl (.tmp 36) (.tmp 47) rfl base v1 (t.length + 1) (t ++ [byt 45]) HT2.out a HQ.out.1 HQ.out.2 (w1.heap.size + 1) HNB.out HN2.out HBS2.out (by simp [Act.eval]) (by simp [Act.eval]) ?_; intro v3 w3 h1 hb1 hk1; have HT3 := Lib.hid h1; have HB3 := Lib.hid (HB2.out.trans hb1); have HK3 := Lib.hid hk1; clear h1 hb1 hk1))
    all_goals
      go_wp2
      go_ret
      exact ⟨v3, rfl, by rw [HR.out]; simpa [Hid, List.length_append, Nat.add_assoc, sign_byt] using HT3, HB3.out, fun k o h hne => HK3.out k o (HK2.out k o h hne) hne⟩
  by_cases hab : a = b
  case pos =>
    have HR := Lib.hid (HSM.out hab)
    subst hab
    go_wp2
    go_quiet (fail)
    generalize hwd : w.drewN nq = w1 at *
    have hl1 : InC w1 g #[.int .u8 a, .int .u8 a] 65 := by rw [← hwd]; exact inC_drewN HL.out
    have d0 := hl1.cell 0 rfl
    have d1 := hl1.cell 1 rfl
    have HT1 : Hid (w1.ownsRow base 5 1 u t.length (cellsB t)) := by unfold Hid; rw [← hwd]; exact ownsRow_drewN6 HT.out
    have HB1 : Hid (Below base w w1) := by unfold Hid; rw [← hwd]; exact Below6.drewN (Below.refl _ _)
    have HK1 : Hid (∀ (k : Nat) (o : Obj), w.heap[k]? = some o → (∀ c fz, o ≠ .cells c 5 fz) → w1.heap[k]? = some o) := by unfold Hid; rw [← hwd]; intro k o h _; rw [drewN_heap]; exact h
    clear hwd hl1
    go_wp2
    have HT2 : Hid ((w1.alloc (.cells #[.int .u8 a, .int .u8 a] 5)).ownsRow base 5 1 _ _ (cellsB t)) := HT1.out.alloc _
    have HB2 : Hid (Below base w (w1.alloc (.cells #[.int .u8 a, .int .u8 a] 5))) := HB1.out.alloc (Nat.le_trans HBS.out HB1.out.size) _
    have HK2 := Lib.hid (keep_alloc HK1.out (cs := #[.int .u8 a, .int .u8 a]))
    have HOR : Hid (∀ W : World, W.heap = (w1.alloc (.cells #[.int .u8 a, .int .u8 a] 5)).heap → Calls Try.prog 95 #[.slice (some ⟨w1.heap.size, 0, none⟩) 2 2] W fun e w' => e = .returned (.int .u8 a) ∧ W = w') := fun W hW => by
      have hh := implOr_any a a w1.heap.size W (by unfold InC; rw [hW]; exact heap_alloc_new w1 _)
      rwa [show (if a = 0 then a else a) = a from if_neg ha] at hh
    have HQ : Hid (0 ≤ a ∧ a < 256) := by have := HAB.out; unfold Hid; omega
    have HNB : Hid (w1.heap.size + 1 = (w1.alloc (.cells #[.int .u8 a, .int .u8 a] 5)).heap.size) := by unfold Hid; simp
    have HN2 : Hid (t.length ≤ 70368744177664) := by have := HN.out; unfold Hid; omega
    have HBS2 : Hid (base ≤ (w1.alloc (.cells #[.int .u8 a, .int .u8 a] 5)).heap.size) := Nat.le_trans HBS.out HB2.out.size
    go_region_law (first | (go_simp; go_at_call 95; refine (HOR.out _ ?_).mono ?_; rfl; rintro e w2 ⟨rfl, rfl⟩) | (refine step_append_byte_drew (w1.alloc (.cells #[.int .u8 a, .int .u8 a] 5)) rfl (.tmp 36) (.tmp 47) rfl base u t.length t HT2.out a HQ.out.1 HQ.out.2 (w1.heap.size + 1) HNB.out HN2.out HBS2.out (by simp [Act.eval]) (by simp [Act.eval]) ?_; intro v3 w3 h1 hb1 hk1; have HT3 := Lib.hid h1; have HB3 := Lib.hid (HB2.out.trans hb1); have HK3 := Lib.hid hk1; clear h1 hb1 hk1))
    all_goals
      go_wp2
      go_ret
      exact ⟨v3, rfl, by rw [HR.out]; simpa [Hid, List.length_append, Nat.add_assoc, sign_byt] using HT3, HB3.out, fun k o h hne => HK3.out k o (HK2.out k o h hne) hne⟩
  have HR := Lib.hid (HVO.out hab ha hb)
  go_wp2
  go_quiet (fail)
  generalize hwd : w.drewN nq = wd at *
  have HTd : Hid (wd.ownsRow base 5 1 u t.length (cellsB t)) := by unfold Hid; rw [← hwd]; exact ownsRow_drewN6 HT.out
  have HLd : Hid (InC wd g #[.int .u8 a, .int .u8 b] 65) := by unfold Hid; rw [← hwd]; exact inC_drewN HL.out
  have HBd : Hid (Below base w wd) := by unfold Hid; rw [← hwd]; exact Below6.drewN (Below.refl _ _)
  have HKd : Hid (∀ (k : Nat) (o : Obj), w.heap[k]? = some o → (∀ c fz, o ≠ .cells c 5 fz) → wd.heap[k]? = some o) := by unfold Hid; rw [← hwd]; intro k o h _; rw [drewN_heap]; exact h
  have HSd : Hid (base ≤ wd.heap.size) := by unfold Hid; rw [← hwd, drewN_heap]; exact HBS.out
  clear hwd
  go_wp2_with (at_builtin; refine wpList_append_byte_n _ rfl (.tmp 33) (.tmp 34) rfl base _ _ _ rfl HTd.out 42 (by omega) (by omega) _ (by simp) rfl (by have := HN.out; omega) HSd.out ?_; intro v1 w1 h1 hb1 hk1; have hl1 : InC w1 g #[.int .u8 a, .int .u8 b] 65 := hk1 _ _ HLd.out (not5 (by decide)); have d0 := hl1.cell 0 rfl; have d1 := hl1.cell 1 rfl; have HT1 := Lib.hid h1; have HK1 := Lib.hid hk1; have HB1 := Lib.hid hb1; clear h1 hb1 hk1 hl1)
  replace HB1 := Lib.hid (HBd.out.trans HB1.out)
  replace HK1 : Hid (∀ (k : Nat) (o : Obj), w.heap[k]? = some o → (∀ c fz, o ≠ .cells c 5 fz) → w1.heap[k]? = some o) := fun k o h hne => HK1.out k o (HKd.out k o h hne) hne
  have HT2 : Hid ((w1.alloc (.cells #[.int .u8 a, .int .u8 b] 5)).ownsRow base 5 1 _ _ (cellsB (t ++ [byt 42]))) := HT1.out.alloc _
  have HB2 : Hid (Below base w (w1.alloc (.cells #[.int .u8 a, .int .u8 b] 5))) := HB1.out.alloc (Nat.le_trans HBS.out HB1.out.size) _
  have HK2 := Lib.hid (keep_alloc HK1.out (cs := #[.int .u8 a, .int .u8 b]))
  have HOR : Hid (∀ W : World, W.heap = (w1.alloc (.cells #[.int .u8 a, .int .u8 b] 5)).heap → Calls Try.prog 95 #[.slice (some ⟨w1.heap.size, 0, none⟩) 2 2] W fun e w' => e = .returned (.int .u8 a) ∧ W = w') := fun W hW => by
    have hh := implOr_any a b w1.heap.size W (by unfold InC; rw [hW]; exact heap_alloc_new w1 _)
    rwa [show (if a = 0 then b else a) = a from if_neg ha] at hh
  have HQ : Hid (0 ≤ a ∧ a < 256) := by have := HAB.out; unfold Hid; omega
  have HNB : Hid (w1.heap.size + 1 = (w1.alloc (.cells #[.int .u8 a, .int .u8 b] 5)).heap.size) := by unfold Hid; simp
  have HN2 : Hid ((t.length + 1) ≤ 70368744177664) := by have := HN.out; unfold Hid; omega
  have HBS2 : Hid (base ≤ (w1.alloc (.cells #[.int .u8 a, .int .u8 b] 5)).heap.size) := Nat.le_trans HBS.out HB2.out.size
  go_region_law (first | (go_simp; go_at_call 95; refine (HOR.out _ ?_).mono ?_; rfl; rintro e w2 ⟨rfl, rfl⟩) | (refine step_append_byte_drew (w1.alloc (.cells #[.int .u8 a, .int .u8 b] 5)) rfl (.tmp 36) (.tmp 47) rfl base v1 (t.length + 1) (t ++ [byt 42]) HT2.out a HQ.out.1 HQ.out.2 (w1.heap.size + 1) HNB.out HN2.out HBS2.out (by simp [Act.eval]) (by simp [Act.eval]) ?_; intro v3 w3 h1 hb1 hk1; have HT3 := Lib.hid h1; have HB3 := Lib.hid (HB2.out.trans hb1); have HK3 := Lib.hid hk1; clear h1 hb1 hk1))
  all_goals
    go_wp2
    go_ret
    exact ⟨v3, rfl, by rw [HR.out]; simpa [Hid, List.length_append, Nat.add_assoc, sign_byt] using HT3, HB3.out, fun k o h hne => HK3.out k o (HK2.out k o h hne) hne⟩
end Go.Proofs.Ytlkhknoaifbajaa

/- CountEdits of both: what they answer. -/
namespace Go.Proofs.Ytlkhknoaifbajaa
set_option maxRecDepth 100000
open Go.RowKit M
set_option linter.unusedVariables false
set_option linter.unusedSimpArgs false

set_option maxHeartbeats 4000000 in
theorem specEdits_any (x : DCandidate) (v : Value) (F : Addr → Prop) (w : World) (hl : x.Links.length ≤ 1048576) (hv : RowRd rLink false w v x.Links F) :
    Calls Try.prog 24 #[.agg #[v]] w fun e w' => e = .returned (.int .i64 (edits x.Links : Nat)) ∧ Below w.heap.size w w' := by
  obtain ⟨A, cap, rfl⟩ := hv.form
  have HV := Lib.hid hv
  clear hv
  have HX : Hid (∀ k, k < x.Links.length → ∃ y, x.Links[k]? = some y) := fun k hk => ⟨_, List.getElem?_eq_getElem hk⟩
  generalize x.Links = l at *
  go_enter Try.func24, Try.ntmps24
  go_wp2
  go_loopw [3, 4] (fun c i wr => ∃ (k : Nat), k ≤ l.length ∧ i = .int .i64 k ∧ c = .int .i64 (edits (l.take k) : Nat) ∧ Below w.heap.size w wr ∧ InC wr w.heap.size #[.slice A l.length cap] 26) (fun _ i _ => l.length - (intOf i).toNat)
  case atStart => exact ⟨0, by omega, rfl, rfl, (Below.refl _ _).alloc (Nat.le_refl _) _, heap_alloc_new _ _⟩
  case round =>
    obtain ⟨k, hk, rfl, rfl, hbe, hi1⟩ := hrel
    have b1 := hi1.cell 0 rfl
    have HBE := Lib.hid hbe
    have HI1 := Lib.hid hi1
    clear hbe hi1
    have hel := edits_len l k
    by_cases hkl : k < l.length
    · obtain ⟨y, hy⟩ := HX.out k hkl
      obtain ⟨g, off, xs, Fk, rfl, _, hra, _, hca⟩ := (HV.out.kept HBE.out).get hy
      obtain rfl := rLink_rd hra
      rw [rLink_size] at hca
      have c0 := hca 0 _ rfl
      have c1 := hca 1 _ rfl
      simp only [Nat.add_zero] at c0
      have HEY := Lib.hid (fun h => edits_yes hy h)
      have HEN := Lib.hid (fun h => edits_no hy h)
      clear hca hra hy
      generalize edits (l.take k) = E0 at *
      generalize (y.In.toNat : Int) = a at *
      generalize (y.Out.toNat : Int) = b at *
      by_cases hab : a = b
      · have HE := Lib.hid (HEN.out hab)
        subst hab
        go_wp2
        go_quiet (fail)
        go_wp2
        go_roundw
        case rel => exact ⟨k + 1, by omega, by go_num, by rw [HE.out], drewN_below HBE.out, inC_drewN HI1.out⟩
        case measure => simp [intOf]; omega
      · have HE := Lib.hid (HEY.out hab)
        go_wp2
        go_quiet (fail)
        go_wp2
        go_roundw
        case rel => exact ⟨k + 1, by omega, by go_num, by rw [HE.out]; go_num, drewN_below HBE.out, inC_drewN HI1.out⟩
        case measure => simp [intOf]; omega
    · obtain rfl : k = l.length := by omega
      rw [List.take_length] at *
      go_wp2
      go_ret
      exact ⟨rfl, HBE.out⟩
set_option maxHeartbeats 4000000 in
theorem implEdits_any (x : DCandidate) (v : Value) (F : Addr → Prop) (w : World) (hl : x.Links.length ≤ 1048576) (hv : RowRd rLink false w v x.Links F) :
    Calls Try.prog 23 #[.agg #[v]] w fun e w' => e = .returned (.int .i64 (edits x.Links : Nat)) ∧ Below w.heap.size w w' := by
  obtain ⟨A, cap, rfl⟩ := hv.form
  have HV := Lib.hid hv
  clear hv
  have HX : Hid (∀ k, k < x.Links.length → ∃ y, x.Links[k]? = some y) := fun k hk => ⟨_, List.getElem?_eq_getElem hk⟩
  generalize x.Links = l at *
  go_enter Try.func23, Try.ntmps23
  go_wp2
  go_loopw [3, 9] (fun c i wr => ∃ (k : Nat), k ≤ l.length ∧ i = .int .i64 k ∧ c = .int .i64 (edits (l.take k) : Nat) ∧ Below w.heap.size w wr ∧ InC wr w.heap.size #[.slice A l.length cap] 26) (fun _ i _ => l.length - (intOf i).toNat)
  case atStart => exact ⟨0, by omega, rfl, rfl, (Below.refl _ _).alloc (Nat.le_refl _) _, heap_alloc_new _ _⟩
  case round =>
    obtain ⟨k, hk, rfl, rfl, hbe, hi1⟩ := hrel
    have b1 := hi1.cell 0 rfl
    have HBE := Lib.hid hbe
    have HI1 := Lib.hid hi1
    clear hbe hi1
    have hel := edits_len l k
    by_cases hkl : k < l.length
    · obtain ⟨y, hy⟩ := HX.out k hkl
      obtain ⟨g, off, xs, Fk, rfl, _, hra, _, hca⟩ := (HV.out.kept HBE.out).get hy
      obtain rfl := rLink_rd hra
      rw [rLink_size] at hca
      have c0 := hca 0 _ rfl
      have c1 := hca 1 _ rfl
      simp only [Nat.add_zero] at c0
      have HEY := Lib.hid (fun h => edits_yes hy h)
      have HEN := Lib.hid (fun h => edits_no hy h)
      clear hca hra hy
      generalize edits (l.take k) = E0 at *
      generalize (y.In.toNat : Int) = a at *
      generalize (y.Out.toNat : Int) = b at *
      by_cases hab : a = b
      · have HE := Lib.hid (HEN.out hab)
        subst hab
        go_wp2
        go_roundw
        case rel => exact ⟨k + 1, by omega, by go_num, by rw [HE.out], HBE.out.alloc HBE.out.size _, HI1.out.kept ((Below.refl _ _).alloc (Nat.le_refl _) _)⟩
        case measure => simp [intOf]; omega
      · have HE := Lib.hid (HEY.out hab)
        go_wp2
        go_roundw
        case rel => exact ⟨k + 1, by omega, by go_num, by rw [HE.out]; go_num, HBE.out.alloc HBE.out.size _, HI1.out.kept ((Below.refl _ _).alloc (Nat.le_refl _) _)⟩
        case measure => simp [intOf]; omega
    · obtain rfl : k = l.length := by omega
      rw [List.take_length] at *
      go_wp2
      go_ret
      exact ⟨rfl, HBE.out⟩
end Go.Proofs.Ytlkhknoaifbajaa

/- The model's l7Inserts and IsGenerated: what they answer. -/
namespace Go.Proofs.Ytlkhknoaifbajaa
set_option maxRecDepth 100000
open Go.RowKit Go.Sort M
set_option linter.unusedVariables false
set_option linter.unusedSimpArgs false
set_option maxRecDepth 100000

/-- Only 't' and 'i' are put in. -/
def insP (x : DLink) : Bool := decide ((x.In.toNat : Int) = 0) && (decide (¬ (x.Out.toNat : Int) = 116) && decide (¬ (x.Out.toNat : Int) = 105))
def insT (l : List DLink) : Bool := l.all fun x => !insP x
theorem insT_no {l : List DLink} {k : Nat} {y : DLink} (hy : l[k]? = some y) (h : insP y = true) : insT l = false := by
  unfold insT
  rw [List.all_eq_false]
  exact ⟨y, List.mem_of_getElem? hy, by simp [h]⟩
theorem insT_yes {l : List DLink} (h : ∀ (j : Nat) (x : DLink), l[j]? = some x → insP x = false) : insT l = true := by
  unfold insT
  rw [List.all_eq_true]
  intro x hx
  obtain ⟨j, hj, rfl⟩ := List.getElem_of_mem hx
  simp [h j _ (List.getElem?_eq_getElem hj)]
theorem insAt0 (h : 0 < (⟨#[116, 105]⟩ : ByteArray).size) : ((⟨#[116, 105]⟩ : ByteArray)[0]'h).toNat = 116 := rfl
theorem insAt1 (h : 1 < (⟨#[116, 105]⟩ : ByteArray).size) : ((⟨#[116, 105]⟩ : ByteArray)[1]'h).toNat = 105 := rfl
attribute [local simp, local go_sem] insAt0 insAt1
set_option maxHeartbeats 1000000 in
theorem specIns_any (l : List DLink) (v : Value) (F : Addr → Prop) (w : World) (hl : l.length ≤ 1048576) (hv : RowRd rLink false w v l F) :
    Calls Try.prog 81 #[.agg #[v]] w fun e w' => e = .returned (.bool (insT l)) ∧ Below w.heap.size w w' := by
  obtain ⟨A, cap, rfl⟩ := hv.form
  have HV := Lib.hid hv
  clear hv
  have HX : Hid (∀ k, k < l.length → ∃ y, l[k]? = some y) := fun k hk => ⟨_, List.getElem?_eq_getElem hk⟩
  go_enter Try.func81, Try.ntmps81
  go_wp2
  go_loopw [3] (fun i wr => ∃ (k : Nat), k ≤ l.length ∧ i = .int .i64 k ∧ Hid (∀ (j : Nat) (x : DLink), j < k → l[j]? = some x → insP x = false) ∧ Below w.heap.size w wr ∧ InC wr w.heap.size #[.slice A l.length cap] 26) (fun i _ => l.length - (intOf i).toNat)
  case atStart => exact ⟨0, by omega, rfl, fun j x hj => by omega, (Below.refl _ _).alloc (Nat.le_refl _) _, heap_alloc_new _ _⟩
  case round =>
    obtain ⟨k, hk, rfl, hall, hbe, hi1⟩ := hrel
    have b1 := hi1.cell 0 rfl
    have b1d := fun d os => cell_regrown b1 d os
    have HBE := Lib.hid hbe
    have HI1 := Lib.hid hi1
    clear hbe hi1
    by_cases hkl : k < l.length
    · obtain ⟨y, hy⟩ := HX.out k hkl
      obtain ⟨g, off, xs, Fk, rfl, _, hra, _, hca⟩ := (HV.out.kept HBE.out).get hy
      obtain rfl := rLink_rd hra
      rw [rLink_size] at hca
      have c0 := fun d os => cell_regrown (hca 0 _ rfl) d os
      have c1 := fun d os => cell_regrown (hca 1 _ rfl) d os
      simp only [Nat.add_zero] at c0
      have HN : Hid (insP y = true → insT l = false) := fun h => insT_no hy h
      have HY : Hid (insP y = false → ∀ (j : Nat) (x : DLink), j < k + 1 → l[j]? = some x → insP x = false) := fun h j x hj hx => by
        by_cases e : j = k
        · subst e; rw [hy] at hx; cases hx; exact h
        · exact hall.out j x (by omega) hx
      have HP : Hid (insP y = (decide ((y.In.toNat : Int) = 0) && (decide (¬ (y.Out.toNat : Int) = 116) && decide (¬ (y.Out.toNat : Int) = 105)))) := rfl
      clear hca hra hy hall
      generalize (y.In.toNat : Int) = a at *
      generalize (y.Out.toNat : Int) = b at *
      generalize insP y = P at *
      by_cases ha : a = 0
      · subst ha
        by_cases h1 : b = 116
        · subst h1
          have HE := Lib.hid (HY.out (by rw [HP.out]; decide))
          clear HN HY HP
          go_wp2
          refine wp_region_quiet_below (by kernel_rfl) (by kernel_rfl) ?_
          repeat (first | go_big_quiet_skip | quiet_step (fail))
          refine wpQuiet_nil ?_
          intro _ hw'
          obtain ⟨⟨dq, osq⟩, hw''⟩ := hw'
          subst hw''
          have HB5 : Hid (Below w.heap.size w (grow (redrawn wr dq) osq)) := HBE.out.trans ((below_regrown wr dq osq).mono HBE.out.size)
          have HI5 := Lib.hid (HI1.out.kept (below_regrown wr dq osq))
          go_wp2
          go_roundw
          case rel => exact ⟨k + 1, by omega, by go_num, HE, HB5.out, HI5.out⟩
          case measure => simp [intOf]; omega
        · by_cases h2 : b = 105
          · subst h2
            have HE := Lib.hid (HY.out (by rw [HP.out]; decide))
            clear HN HY HP h1
            go_wp2
            refine wp_region_quiet_below (by kernel_rfl) (by kernel_rfl) ?_
            repeat (first | go_big_quiet_skip | quiet_step (fail))
            refine wpQuiet_nil ?_
            intro _ hw'
            obtain ⟨⟨dq, osq⟩, hw''⟩ := hw'
            subst hw''
            have HB5 : Hid (Below w.heap.size w (grow (redrawn wr dq) osq)) := HBE.out.trans ((below_regrown wr dq osq).mono HBE.out.size)
            have HI5 := Lib.hid (HI1.out.kept (below_regrown wr dq osq))
            go_wp2
            go_roundw
            case rel => exact ⟨k + 1, by omega, by go_num, HE, HB5.out, HI5.out⟩
            case measure => simp [intOf]; omega
          · have HR : Hid (insT l = false) := HN.out (by rw [HP.out]; simp [h1, h2])
            have d1 : (b != 116) = true := by simp [h1]
            have d2 : (b != 105) = true := by simp [h2]
            have e1 : (b == 116) = false := by simp [h1]
            have e2 : (b == 105) = false := by simp [h2]
            clear HN HY HP
            go_wp2
            refine wp_region_quiet_below (by kernel_rfl) (by kernel_rfl) ?_
            repeat (first | go_big_quiet_skip | quiet_step (fail))
            refine wpQuiet_nil ?_
            intro _ hw'
            obtain ⟨⟨dq, osq⟩, hw''⟩ := hw'
            subst hw''
            have HB5 : Hid (Below w.heap.size w (grow (redrawn wr dq) osq)) := HBE.out.trans ((below_regrown wr dq osq).mono HBE.out.size)
            have HI5 := Lib.hid (HI1.out.kept (below_regrown wr dq osq))
            go_wp2
            go_ret
            exact ⟨ret_bool HR.out.symm, HB5.out⟩
      · have HE := Lib.hid (HY.out (by rw [HP.out]; simp [ha]))
        have hd : (a == 0) = false := by simp [ha]
        clear HN HY HP
        go_wp2
        refine wp_region_quiet_below (by kernel_rfl) (by kernel_rfl) ?_
        repeat (first | go_big_quiet_skip | quiet_step (fail))
        refine wpQuiet_nil ?_
        intro _ hw'
        obtain ⟨⟨dq, osq⟩, hw''⟩ := hw'
        subst hw''
        have HB5 : Hid (Below w.heap.size w (grow (redrawn wr dq) osq)) := HBE.out.trans ((below_regrown wr dq osq).mono HBE.out.size)
        have HI5 := Lib.hid (HI1.out.kept (below_regrown wr dq osq))
        go_wp2
        go_roundw
        case rel => exact ⟨k + 1, by omega, by go_num, HE, HB5.out, HI5.out⟩
        case measure => simp [intOf]; omega
    · obtain rfl : k = l.length := by omega
      have HR : Hid (insT l = true) := insT_yes fun j x hx => hall.out j x (List.getElem?_eq_some_iff.1 hx).1 hx
      go_wp2
      go_ret
      exact ⟨ret_bool HR.out.symm, HBE.out⟩
end Go.Proofs.Ytlkhknoaifbajaa

/- The model's IsGenerated: what it answers; it is what the program's answers. -/
namespace Go.Proofs.Ytlkhknoaifbajaa
set_option maxRecDepth 100000
open Go.RowKit M
set_option linter.unusedVariables false
set_option linter.unusedSimpArgs false
set_option maxRecDepth 100000

theorem text4 (a : List UInt8) (s : ByteArray) : ((⟨a.toArray⟩ : ByteArray) = s) ↔ a = s.data.toList := by
  constructor
  · rintro rfl; simp
  · intro h; subst h; rfl
/-- The model's test. -/
def mdl (s : ByteArray) (m : List DLink) : Bool := isFm s && (decide ((s.size : Int) ≤ 4) && (isCd m && (decide ((⟨(inS m).toArray⟩ : ByteArray) = s) && (decide ((edits m : Int) ≤ 2) && insT m))))
theorem insT_ok (m : List DLink) : insT m = true ↔ insOk m = true := by
  rw [insOk_iff]
  unfold insT
  rw [List.all_eq_true]
  constructor
  · intro h x hx h0
    have h1 := h x hx
    unfold insP at h1
    rw [decide_eq_true (show (x.In.toNat : Int) = 0 by rw [h0]; rfl)] at h1
    by_cases h2 : x.Out = 116
    · exact .inl h2
    · by_cases h3 : x.Out = 105
      · exact .inr h3
      · have e2 : ¬ (x.Out.toNat : Int) = 116 := fun e => h2 ((u8_eq x.Out 116).1 e)
        have e3 : ¬ (x.Out.toNat : Int) = 105 := fun e => h3 ((u8_eq x.Out 105).1 e)
        rw [decide_eq_true e2, decide_eq_true e3] at h1
        cases h1
  · intro h x hx
    unfold insP
    by_cases h0 : (x.In.toNat : Int) = 0
    · rcases h x hx ((u8_zero _).1 h0) with h2 | h2
      · rw [h2]; cases decide ((x.In.toNat : Int) = 0) <;> rfl
      · rw [h2]; cases decide ((x.In.toNat : Int) = 0) <;> rfl
    · rw [decide_eq_false h0]; rfl
theorem mdl_isg (s : ByteArray) (m : List DLink) : ((genS2 s).any fun y => decide (y = m)) = mdl s m := by
  rw [Bool.eq_iff_iff, List.any_eq_true]
  have key : (∃ y, y ∈ genS2 s ∧ decide (y = m) = true) ↔ m ∈ genS2 s := by
    constructor
    · rintro ⟨y, hy, he⟩; rw [← of_decide_eq_true he]; exact hy
    · intro h; exact ⟨m, h, decide_eq_true rfl⟩
  rw [key]
  unfold mdl
  by_cases hv : isFm s = true ∧ s.size ≤ 4
  · have hG : genS2 s = genL 2 s.data.toList := by unfold genS2; rw [if_pos hv]
    rw [hG, gen_iff hv.1 (by omega), hv.1, Bool.true_and, decide_eq_true (show (s.size : Int) ≤ 4 by omega), Bool.true_and]
    simp only [Bool.and_eq_true, decide_eq_true_eq, insT_ok]
    constructor
    · rintro ⟨h1, h2, h3, h4⟩
      refine ⟨h1, (text4 _ _).2 ?_, by omega, h4⟩
      unfold inS; rw [if_pos h1]; exact h2
    · rintro ⟨h1, h2, h3, h4⟩
      refine ⟨h1, ?_, by omega, h4⟩
      have h5 := (text4 _ _).1 h2
      unfold inS at h5; rw [if_pos h1] at h5; exact h5
  · have hG : genS2 s = [] := by unfold genS2; rw [if_neg hv]
    rw [hG]
    constructor
    · intro h; cases h
    · intro h
      simp only [Bool.and_eq_true, decide_eq_true_eq] at h
      exact absurd ⟨h.1, by omega⟩ hv
set_option maxHeartbeats 4000000 in
theorem specIsg_any (s : ByteArray) (x : DCandidate) (v : Value) (F : Addr → Prop) (w : World) (hs : s.size ≤ 1048576) (hl : x.Links.length ≤ 1048576) (hv : RowRd rLink false w v x.Links F) :
    Calls Try.prog 36 #[.string s, .agg #[v]] w fun e w' => e = .returned (.bool (mdl s x.Links)) ∧ Below w.heap.size w w' := by
  have HF : Hid (∀ W, Calls Try.prog 70 #[.string s] W fun e w' => e = .returned (.bool (isFm s)) ∧ W = w') := fun W => specFm_any s W (by unfold maxLen; omega)
  have HIS : Hid (∀ W, Below w.heap.size w W → Calls Try.prog 17 #[.agg #[v]] W fun e w' => e = .returned (.bool (isCd x.Links)) ∧ Below W.heap.size W w') := fun W hW => specIsCd_any x v F W hl (hv.kept hW)
  have HIN : Hid (∀ W, Below w.heap.size w W → Calls Try.prog 20 #[.agg #[v]] W fun e w' => e = .returned (.string ⟨(inS x.Links).toArray⟩) ∧ Below W.heap.size W w') := fun W hW => specInput_any x v F W hl (hv.kept hW)
  have HED : Hid (∀ W, Below w.heap.size w W → Calls Try.prog 24 #[.agg #[v]] W fun e w' => e = .returned (.int .i64 (edits x.Links : Nat)) ∧ Below W.heap.size W w') := fun W hW => specEdits_any x v F W hl (hv.kept hW)
  have HNS : Hid (∀ W, Below w.heap.size w W → Calls Try.prog 81 #[.agg #[v]] W fun e w' => e = .returned (.bool (insT x.Links)) ∧ Below W.heap.size W w') := fun W hW => specIns_any x.Links v F W hl (hv.kept hW)
  have HE : Hid (mdl s x.Links = (isFm s && (decide ((s.size : Int) ≤ 4) && (isCd x.Links && (decide ((⟨(inS x.Links).toArray⟩ : ByteArray) = s) && (decide ((edits x.Links : Int) ≤ 2) && insT x.Links)))))) := rfl
  obtain ⟨A, cap, rfl⟩ := hv.form
  clear hv
  generalize mdl s x.Links = r at *
  generalize isFm s = f at *
  generalize isCd x.Links = c at *
  generalize (⟨(inS x.Links).toArray⟩ : ByteArray) = t at *
  generalize edits x.Links = n at *
  generalize insT x.Links = i at *
  have HB : Hid (Below w.heap.size w (w.alloc (.cells #[.slice A x.Links.length cap] 26))) := (Below.refl _ _).alloc (Nat.le_refl _) _
  have HX : Hid (InC (w.alloc (.cells #[.slice A x.Links.length cap] 26)) w.heap.size #[.slice A x.Links.length cap] 26) := heap_alloc_new _ _
  go_enter Try.func36, Try.ntmps36
  go_wp2_with fail
  refine (HF.out _).mono ?_
  rintro e w1 ⟨rfl, rfl⟩
  have b0 := HX.out.cell 0 rfl
  generalize w.alloc (.cells #[.slice A x.Links.length cap] 26) = W at *
  cases f
  · go_wp2_with fail
    go_ret
    exact ⟨ret_bool (by rw [HE.out]; rfl), HB.out⟩
  by_cases h4 : (s.size : Int) ≤ 4
  case neg =>
    have d4 : decide ((s.size : Int) ≤ 4) = false := decide_eq_false h4
    go_wp2_with fail
    go_ret
    exact ⟨ret_bool (by rw [HE.out, d4]; rfl), HB.out⟩
  have d4 : decide ((s.size : Int) ≤ 4) = true := decide_eq_true h4
  go_wp2_with fail
  refine (HIS.out _ HB.out).mono ?_
  rintro e w2 ⟨rfl, hb2⟩
  have HX2 := Lib.hid (HX.out.kept hb2)
  have HB2 : Hid (Below w.heap.size w w2) := below_step HB.out hb2
  clear hb2 b0
  have b0 := HX2.out.cell 0 rfl
  cases c
  · go_wp2_with fail
    go_ret
    exact ⟨ret_bool (by rw [HE.out, d4]; rfl), HB2.out⟩
  go_wp2_with fail
  refine (HIN.out _ HB2.out).mono ?_
  rintro e w3 ⟨rfl, hb3⟩
  have HX3 := Lib.hid (HX2.out.kept hb3)
  have HB3 : Hid (Below w.heap.size w w3) := below_step HB2.out hb3
  clear hb3 b0
  have b0 := HX3.out.cell 0 rfl
  by_cases ht : t = s
  case neg =>
    have q2 : (t.toList == s.toList) = false := by
      rw [Lib.toList_data, Lib.toList_data]
      have h1 : ¬ t.data.toList = s.data.toList := fun e => ht (by have e2 := Array.toList_inj.1 e; cases t; cases s; simp at e2; rw [e2])
      simpa using h1
    go_wp2_with fail
    go_ret
    exact ⟨ret_bool (by rw [HE.out, d4, decide_eq_false ht]; rfl), HB3.out⟩
  subst ht
  have q2 : (t.toList == t.toList) = true := by simp
  go_wp2_with fail
  refine (HED.out _ HB3.out).mono ?_
  rintro e w4 ⟨rfl, hb4⟩
  have HX4 := Lib.hid (HX3.out.kept hb4)
  have HB4 : Hid (Below w.heap.size w w4) := below_step HB3.out hb4
  clear hb4 b0
  have b0 := HX4.out.cell 0 rfl
  by_cases hn : (n : Int) ≤ 2
  case neg =>
    have dn : decide ((n : Int) ≤ 2) = false := decide_eq_false hn
    go_wp2_with fail
    go_ret
    exact ⟨ret_bool (by rw [HE.out, d4, dn]; simp), HB4.out⟩
  have dn : decide ((n : Int) ≤ 2) = true := decide_eq_true hn
  go_wp2_with fail
  refine (HNS.out _ HB4.out).mono ?_
  rintro e w5 ⟨rfl, hb5⟩
  have HB5 : Hid (Below w.heap.size w w5) := below_step HB4.out hb5
  clear hb5 b0
  go_wp2_with fail
  go_ret
  exact ⟨ret_bool (by rw [HE.out, d4, dn]; simp), HB5.out⟩
end Go.Proofs.Ytlkhknoaifbajaa
