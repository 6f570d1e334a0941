/- The program's NeighboursOf: what it answers. -/
import Derived.Test.YtjajbkbocbodfaaDoorIf6
import Derived.Maps.AppendAt
namespace Go.Proofs.YtjajbkbocbodfaaDoor
open Go.RowKit Go.Shelf Go.Sort M
attribute [local go_sem] Oper.semAt_some
attribute [local simp, local go_sem] wide_fn

theorem own_low {w : World} {b b' : Nat} {e : TypeId} {size : Nat} {v : Value} {n : Nat} {xs : List Value} (h : w.ownsRow b e size v n xs) (hb : b' ≤ b) : w.ownsRow b' e size v n xs := by
  obtain ⟨h1, h2⟩ := h
  refine ⟨h1, ?_⟩
  rcases h2 with h2 | ⟨g, cap, cur, hv, hg, r⟩
  · exact Or.inl h2
  · exact Or.inr ⟨g, cap, cur, hv, Nat.le_trans hb hg, r⟩
/-- slices.Index: whether it finds the text. -/
theorem slIndex_any (v : Value) (base : Nat) (l : List ByteArray) (x : ByteArray) (w : World) (hn : l.length ≤ 1000000000) (hv : w.ownsRow base 9 1 v l.length (cellsS l)) :
    Calls Tryd.prog 69 #[v, .string x] w fun e w' => (∃ z : Int, e = .returned (.int .i64 z) ∧ decide (0 ≤ z) = hasB l x) ∧ w = w' := by
  obtain ⟨A, c1, rfl, hA⟩ := str_read hv
  have HA := Lib.hid hA
  clear hA hv
  generalize hl : l.length = n at *
  have HL := Lib.hid hl
  clear hl
  go_enter Tryd.func69, Tryd.ntmps69
  go_wp2
  go_loop [8] (fun i => ∃ (k : Nat), k ≤ n ∧ i = .int .i64 k ∧ Hid (hasB (l.take k) x = false)) (fun i => n - (intOf i).toNat)
  case atStart => exact ⟨0, by omega, rfl, rfl⟩
  case round =>
    obtain ⟨k, hk, rfl, hno⟩ := hrel
    by_cases hkl : k < n
    · obtain ⟨g, rfl, hg⟩ := HA.out k hkl
      have HST := Lib.hid (hasB_step l x k (by rw [HL.out]; exact hkl))
      generalize ht : l.getD k ByteArray.empty = t at hg HST
      have HT := Lib.hid ht
      clear ht
      go_wp2
      · have he : (x.toList == t.toList) = true := by assumption
        have he2 : (t.toList == x.toList) = true := by rw [beq_iff_eq] at he ⊢; exact he.symm
        go_ret
        exact ⟨⟨k, rfl, by rw [hasB_yes k (by rw [HL.out]; exact hkl) (by rw [HT.out]; exact he2)]; simp⟩, rfl⟩
      · have he : (x.toList == t.toList) = false := by assumption
        have he2 : (t.toList == x.toList) = false := by
          rw [beq_eq_false_iff_ne] at he ⊢; exact fun e => he e.symm
        go_round
        case rel => exact ⟨k + 1, by omega, by go_num, by unfold Hid; rw [HST.out, hno.out, he2]; rfl⟩
        case measure => simp [intOf]; omega
    · obtain rfl : k = n := by omega
      have HE : Hid (hasB l x = false) := by
        have := hno.out
        rw [List.take_of_length_le (by rw [HL.out]; exact Nat.le_refl _)] at this
        exact this
      go_wp2
      go_ret
      exact ⟨⟨-1, rfl, by rw [HE.out]; rfl⟩, rfl⟩
theorem slContains_any (v : Value) (base : Nat) (l : List ByteArray) (x : ByteArray) (w : World) (hn : l.length ≤ 1000000000) (hv : w.ownsRow base 9 1 v l.length (cellsS l)) :
    Calls Tryd.prog 48 #[v, .string x] w fun e w' => e = .returned (.bool (hasB l x)) ∧ w = w' := by
  have HV := Lib.hid (slIndex_any v base l x w hn hv)
  clear hv hn
  go_enter Tryd.func48, Tryd.ntmps48
  go_wp2_with fail
  refine HV.out.mono ?_
  rintro e w1 ⟨⟨z, rfl, hz⟩, rfl⟩
  have HZ := Lib.hid hz
  clear hz
  go_wp2
  go_ret
  exact ⟨ret_bool HZ.out, rfl⟩
theorem nbMake_in (n : Nat) (s : ByteArray) (w : World) :
    CallsIn Fence.wide n Tryd.prog 47 #[.string s] w fun e w' => e = .returned (.func (.func 67) #[] #[.pointer (some ⟨w.heap.size, 0, none⟩)]) ∧ w' = w.alloc (.cells #[.string s] 9) := by
  refine callsIn_of_wp Tryd.func47 rfl trivial ?_ rfl
  simp only [Tryd.ntmps47, List.size_toArray, List.length_cons, List.length_nil, Nat.reduceAdd, Nat.reduceSub, Array.replicate_succ, Array.replicate_zero, List.push_toArray, List.append_toArray, List.nil_append, List.cons_append]
  gi_wp2
  go_ret
  exact ⟨rfl, rfl⟩
theorem nb_stops (s : ByteArray) (h8 : s.size < 8) (n : Nat) (hn : 3 ≤ n) (B n₀ : Nat) (w : World) (hBn : B < w.heap.size) (hc : w.cell? ⟨B, 0, none⟩ = some (.string s)) :
    SeqStopsK Fence.wide n Tryd.prog 67 #[.pointer (some ⟨B, 0, none⟩)] (fun x : ByteArray => #[Value.string x]) (Keep n₀ B) (fun ys => ys = itTo s (s.size + 1)) (fun _ => True) 200 w := fun l J Jx W hW hJ _ hY h0 =>
  nbIter_in s h8 l n₀ B 200 J Jx (fun pre W q h => hJ pre W (W.drewN q) none h ⟨rfl, rfl, rfl, Nat.le_refl _, fun _ _ _ => rfl⟩ (fun _ e => by cases e))
    (fun m pre x W h hl => by
      obtain ⟨fn, tmps, assign, body, hy, hR⟩ := hY pre x W h hl
      refine ⟨fn, tmps, assign, body, hy, round_any (hR.mono fun e W' h => ?_)⟩
      rcases h with ⟨he, h1, h2⟩ | ⟨he, h1⟩
      · exact ⟨true, he, .inl ⟨rfl, h1, h2⟩⟩
      · exact ⟨false, he, .inr ⟨rfl, h1⟩⟩) n hn W ((hW.cell (p := ⟨B, 0, none⟩) hBn).trans hc) h0 (by omega)
theorem keep_b {n₀ B : Nat} {w : World} (hn : n₀ ≤ w.heap.size) (hB : B < w.heap.size) (W : World) (l : Nat) (o o' : Obj) (hl : w.heap.size ≤ l) (h : W.heap[l]? = some o) (hc : o.isCells = false) (hw : o.isWalk = false) : Keep n₀ B W (W.putObj l o') :=
  ⟨belowK_b hn W l o o' hl h hc hw, World.putObj_heap_other (by omega)⟩
set_option maxRecDepth 100000 in
set_option maxHeartbeats 4000000 in
theorem implNb_in (s : ByteArray) (w : World) (hf : isFm s = true) (h8 : s.size < 8) :
    CallsIn Fence.wide 6 Tryd.prog 9 #[.string s] w (StrsPost (nbTo s (s.size + 1)) w) := by
  have HM := Lib.hid (show s.size ≤ maxLen by unfold maxLen; omega)
  have h81 : ¬ (s.size : Int) = 8 := by omega
  obtain ⟨i0, hi, hz0, hz1, hz2⟩ := info_parts Tryd.info9s
  have HFM : Hid (∀ W, Calls Tryd.prog 16 #[.string s] W fun e w' => e = .returned (.bool true) ∧ W = w') := fun W => by
    have := implFmS_any s W HM.out
    rw [hf] at this
    exact this
  refine callsIn_of_wp_marks Tryd.func9 rfl trivial ?_ rfl
  simp only [Tryd.ntmps9, List.size_toArray, List.length_cons, List.length_nil, Nat.reduceAdd, Nat.reduceSub, Array.replicate_succ, Array.replicate_zero, List.push_toArray, List.append_toArray, List.nil_append, List.cons_append]
  gi_wp2_with (first | (gi_at_call 16; refine (callsIn_wide.2 (HFM.out _)).mono ?_; rintro e w' ⟨rfl, rfl⟩) | (gi_at_call 47; refine (nbMake_in _ s _).mono ?_; rintro e w' ⟨rfl, rfl⟩))
  have hb0 : Below w.heap.size w ((w.alloc (.cells #[.slice none 0 0] 25)).alloc (.cells #[.string s] 9)) := ((Below.refl _ w).alloc (Nat.le_refl _) _).alloc (by simp) _
  have bO := Boxed.new w 25 (.slice none 0 0)
  have bN := Boxed.new (w.alloc (.cells #[.slice none 0 0] 25)) 9 (.string s)
  rw [World.size_alloc] at bN
  refine wpIn_rangeFunc_ownG rfl (by omega) (gf := 67) (lb := #[.pointer (some ⟨w.heap.size + 1, 0, none⟩)]) rfl trivial (enters_of Tryd.func67 (by kernel_rfl) rfl)
    (nb_stops s h8 (6 - 1) (by omega) (w.heap.size + 1) w.heap.size _ (by simp) bN.cell) (fun h k => h.trans k) (keep_b (by simp; omega) (by simp)) (Below.refl _ _) (fun _ => rfl)
    (fun pre W => (∃ v, Boxed W w.heap.size 25 v ∧ W.ownsRow (w.heap.size + 2) 9 1 v (ded pre).length (cellsS (ded pre)) ∧ True) ∧ Below w.heap.size ((w.alloc (.cells #[.slice none 0 0] 25)).alloc (.cells #[.string s] 9)) W)
    (fun _ _ _ => False)
    (OwnFrom.and (Own.from (holdsRow_own (w.heap.size + 2) w.heap.size 25 9 1 (fun pre => (ded pre).length) (fun pre => cellsS (ded pre)) (fun _ _ => True)) _) (ownFrom_below (by simp; omega) (by simp; omega)))
    (fun _ _ _ _ _ hs _ _ => hs)
    ⟨⟨_, bO.alloc _, World.ownsRow_nil _ _ _ _, trivial⟩, Below.refl _ _⟩
    (fun x => { tmps := #[.string s, undef, .slice none 0 0, .pointer (some ⟨w.heap.size, 0, none⟩), .string x, .string s, .bool true, .bool false, .bool false, .string s, .int .i64 s.size, .bool false, .bool false, .string s, .func (.func 67) #[] #[.pointer (some ⟨w.heap.size + 1, 0, none⟩)], .string x, undef, undef, undef, undef, undef, undef, undef, undef, undef], defers := [] }) ?assign ?body ?done ?stop
  case assign =>
    intro l x W K hK
    gi_wp2
    exact hK
  case body =>
    rintro l pre x W ⟨⟨v, hv, hrow, -⟩, hB⟩ hlt
    have hc := hv.cell
    have hpl := ded_len pre
    have hsz := hB.size
    simp only [World.size_alloc] at hsz
    have hown : W.ownsRow w.heap.size 9 1 v (ded pre).length (cellsS (ded pre)) := own_low hrow (by omega)
    have hC := Lib.hid (slContains_any v _ (ded pre) x W (by omega) hrow)
    gi_wp2_with (first | (gi_at_call 48; refine (CallsIn.inRound l (callsIn_wide.2 hC.out)).mono ?_; rintro e w' ⟨rfl, rfl⟩) | (refine ⟨trivial, ?_⟩; gi_at_call 48; refine (CallsIn.inRound l (callsIn_wide.2 hC.out)).mono ?_; rintro e w' ⟨rfl, rfl⟩) | (gi_at_builtin; refine Hid.out ?_))
    · unfold Hid
      refine wpListIn_append_own _ rfl _ _ 25 rfl (w.heap.size + 2) 9 i0 (.string ⟨#[]⟩) 1 16 Tryd.underlying25 hi hz0 hz1 hz2 rfl (by decide) _ _ _ rfl (hrow.alloc _) ⟨W.heap.size, 0, none⟩ 1 1 [.string x] rfl rfl (cell_one_new _ _ _) (by simp [Value.oneCell']) (by unfold maxLen; omega) (by omega) (by simp; omega) ?_
      intro v' w1 hown' hgrow _
      have hno : hasB (ded pre) x = false := of_not_true ‹(!hasB (ded pre) x) = true›
      obtain ⟨g', cap', rfl⟩ := ownsRow_succ hown'
      obtain ⟨hv1, hv2, _, hk2, hb2⟩ := hv.appended (by decide) hown (by omega) (Nat.le_refl _) (own_low hown' (by omega)) hgrow
      have hr3 := hown'.kept (grownBy_setCell' w1 w.heap.size (.slice (some ⟨g', 0, none⟩) ((ded pre).length + 1) cap')) (.inr (hv1.not_row (by decide) hown').symm)
      have hsame : (w1.setCell ⟨w.heap.size, 0, none⟩ (.slice (some ⟨g', 0, none⟩) ((ded pre).length + 1) cap')).heap[w.heap.size + 1]? = W.heap[w.heap.size + 1]? :=
        ((Below.heap_setCell w1 ⟨w.heap.size, 0, none⟩ _ (w.heap.size + 1) (fun e => by have : w.heap.size + 1 = w.heap.size := e; omega)).trans
          (hgrow.block (w.heap.size + 1) (by simp; omega) (fun e => by have := (hrow.lt _ e.symm).1; omega))).trans (Below.heap_alloc W _ _ (by omega))
      have hc1 := hv1.cell
      have hf1 := hv1.frozen
      gi_wp2
      refine ⟨hk2.from _, ⟨hb2, hsame⟩, ⟨_, hv2, ?_, trivial⟩, hB.trans hb2⟩
      rw [ded_no hno, List.length_append, List.length_singleton, cellsS_append]
      exact hr3
    · have hyes : hasB (ded pre) x = true := of_not_false ‹(!hasB (ded pre) x) = false›
      exact ⟨KeepsFrom.refl _ _, Keep.refl _ _ _, ⟨v, hv, by rw [ded_yes hyes]; exact hrow, trivial⟩, hB⟩
  case done =>
    rintro D ys W hD rfl ⟨⟨v, hv, hrow, -⟩, hB⟩ hK
    have hc := hv.cell
    rw [ded_To] at hrow
    gi_wp2
    refine ⟨by simp, .inl ⟨_, _, rfl, run_takeDeferred hK, ?_⟩⟩
    exact ⟨_, results_tmp rfl _ _ _, v, rfl, own_low (ownsRow_putObj hrow _ hK rfl) (by omega), (hb0.trans hB).trans (belowK_b (w := w) (Nat.le_refl _) W D _ _ (by simp at hD; omega) hK rfl rfl)⟩
  case stop =>
    rintro D c pre W _ _ h _
    exact h.elim
theorem implNb_any (s : ByteArray) (w : World) (hs : s.size ≤ maxLen) :
    Calls Tryd.prog 9 #[.string s] w (StrsPost (nbL s) w) := by
  by_cases hf : isFm s = true
  · by_cases h8 : s.size < 8
    · have HE : nbL s = nbTo s (s.size + 1) := if_pos ⟨hf, h8⟩
      rw [HE]; exact callsIn_wide.1 (implNb_in s w hf h8)
    · have HE : Hid (nbL s = []) := if_neg fun h => h8 h.2
      have HM := Lib.hid hs
      have h9 := isFm_size hf
      have h88 : (s.size : Int) = 8 := by omega
      clear hs
      go_enter Tryd.func9, Tryd.ntmps9
      go_wp2_with fail
      refine (implFmS_any s _ HM.out).mono ?_
      rintro e w2 ⟨rfl, rfl⟩
      rw [hf]
      go_wp2
      go_ret
      exact ⟨_, rfl, by rw [HE.out]; exact World.ownsRow_nil _ _ _ _, Below.refl _ _⟩
  · have HE : Hid (nbL s = []) := if_neg fun h => hf h.1
    have hf : isFm s = false := by simpa using hf
    have HM := Lib.hid hs
    clear hs
    go_enter Tryd.func9, Tryd.ntmps9
    go_wp2_with fail
    refine (implFmS_any s _ HM.out).mono ?_
    rintro e w2 ⟨rfl, rfl⟩
    rw [hf]
    go_wp2
    go_ret
    exact ⟨_, rfl, by rw [HE.out]; exact World.ownsRow_nil _ _ _ _, Below.refl _ _⟩
end Go.Proofs.YtjajbkbocbodfaaDoor
