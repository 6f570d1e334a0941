/- The program's IsOpen, WeightOf, JoinSyllables, FormatSyllables: what they answer. -/
import Derived.Test.YtjajbkbocbodfaaDoorY1
import Derived.Test.YtjajbkbocbodfaaDoorLj
import Derived.Lib.Join
namespace Go.Proofs.YtjajbkbocbodfaaDoor
open Go.RowKit M

theorem implOpen_any (x : Syl) (w : World) :
    Calls Tryd.prog 31 #[sylV x] w fun e w' => e = .returned (.bool (openS x)) ∧ Below w.heap.size w w' := by
  unfold sylV
  have hm := bs_list x.c
  have HW : Hid (openS x = x.c.isEmpty) := rfl
  generalize bs x.o = O
  generalize bs x.n = N
  generalize bs x.c = C at hm
  go_enter Tryd.func31, Tryd.ntmps31
  go_wp2
  go_ret
  exact ⟨ret_bool (by rw [HW.out]), (Below.refl _ _).alloc (Nat.le_refl _) _⟩
theorem implWeight_any (x : Syl) (w : World) :
    Calls Tryd.prog 33 #[sylV x] w fun e w' => e = .returned (.int .i64 (weightS x)) ∧ Below w.heap.size w w' := by
  have HW : Hid (weightS x = if x.n.isEmpty then 0 else if x.c.isEmpty then 1 else 2) := rfl
  unfold sylV
  have hl := bs_list x.c
  have hm := bs_list x.n
  generalize bs x.o = O at *
  generalize bs x.n = N at *
  generalize bs x.c = C at *
  go_enter Tryd.func33, Tryd.ntmps33
  go_wp2
  all_goals
    go_ret
    refine ⟨ret_i64 ?_, ?_⟩
    · rw [HW.out]
      simp_all
    · first
      | exact ((Below.refl _ _).alloc (Nat.le_refl _) _).alloc (by simp) _
      | exact (Below.refl _ _).alloc (Nat.le_refl _) _
theorem implText_any (x : Syl) (w : World) (hn : (sylB x).length ≤ 2000000) :
    Calls Tryd.prog 74 #[sylV x] w fun e w' => e = .returned (.string (bs (sylB x))) ∧ Below w.heap.size w w' := by
  have HS : Hid (sylB x = x.o ++ x.n ++ x.c) := rfl
  rw [sylB_len] at hn
  unfold sylV
  generalize x.o = O at *
  generalize x.n = N at *
  generalize x.c = C at *
  have a1 : ∀ w : World, (Op.stringOp .add (bs O) (bs N)).run Tryd.prog w = .ok (.string (bs (O ++ N))) w := fun w => by rw [run_string_add_sum _ _ _ (by rw [bs_size, bs_size]; omega), bs_add]
  have a2 : ∀ w : World, (Op.stringOp .add (bs (O ++ N)) (bs C)).run Tryd.prog w = .ok (.string (bs (O ++ N ++ C))) w := fun w => by rw [run_string_add_sum _ _ _ (by rw [bs_size, bs_size, List.length_append]; omega), bs_add]
  rw [HS.out]
  go_enter Tryd.func74, Tryd.ntmps74
  go_wp2
  go_ret
  exact ⟨ret_str (by rw [List.append_assoc]), (Below.refl _ _).alloc (Nat.le_refl _) _⟩
/-- The texts of a row of syllables; the row of texts after k rounds. -/
def txL (l : List Syl) : List ByteArray := l.map fun x => bs (sylB x)
def cellsT (l : List Syl) (k : Nat) : List Value := ((txL l).take k).map Value.string ++ List.replicate (l.length - k) (.string ⟨#[]⟩)
theorem cellsT_len (l : List Syl) (k : Nat) (h : k ≤ l.length) : (cellsT l k).length = l.length := by simp [cellsT, txL]; omega
theorem cellsT_set (l : List Syl) (k : Nat) (h : k < l.length) : (cellsT l k).set k (.string (bs (sylB (l.getD k syZ)))) = cellsT l (k + 1) := by
  unfold cellsT
  have hc : (((txL l).take k).map Value.string).length = k := by simp [txL]; omega
  rw [List.set_append_right _ _ (by omega), hc, Nat.sub_self, show l.length - k = (l.length - (k + 1)) + 1 by omega, List.replicate_succ, List.set_cons_zero,
    List.take_add_one, List.map_append, List.append_assoc]
  congr 1
  unfold txL
  rw [List.getElem?_map, List.getElem?_eq_getElem h, List.getD_eq_getElem?_getD, List.getElem?_eq_getElem h]
  rfl
theorem cellsT_all (l : List Syl) : cellsT l l.length = (txL l).map Value.string := by
  unfold cellsT
  rw [Nat.sub_self, List.take_of_length_le (by simp [txL])]
  simp
theorem cellsT_at (l : List Syl) (j : Nat) (x : ByteArray) (h : (txL l)[j]? = some x) : (cellsT l l.length)[j]? = some (.string x) := by
  rw [cellsT_all, List.getElem?_map, h]; rfl
/-- The joined texts. -/
def sepL (l : List Syl) (sep : ByteArray) : List UInt8 := Lib.join ((txL l).map (·.data.toList)) sep.data.toList
theorem sepL_cons (x : Syl) (l : List Syl) (sep : ByteArray) : sepL (x :: l) sep = sylB x ++ l.flatMap fun y => sep.data.toList ++ sylB y := by
  unfold sepL txL
  rw [List.map_cons, List.map_cons, Lib.join_cons]
  congr 1
  unfold Lib.joinTail
  induction l with
  | nil => rfl
  | cons y l ih => simp only [List.map_cons, List.flatten_cons, List.flatMap_cons, ih]; rfl
theorem sepL_join (l : List Syl) : sepL l ⟨#[]⟩ = joinL l := by
  cases l with
  | nil => rfl
  | cons x l => rw [sepL_cons]; rfl
theorem fmtK_take (x : Syl) (l : List Syl) : ∀ k, k ≤ l.length → fmtK (x :: l) (k + 1) = sylB x ++ (l.take k).flatMap fun y => [46] ++ sylB y
  | 0, _ => by rw [fmtK_first]; simp
  | k + 1, h => by
    rw [fmtK_next _ (k + 1) (by omega), fmtK_take x l k (by omega), List.take_add_one, List.getElem?_eq_getElem (by omega), List.flatMap_append]
    have : (x :: l).getD (k + 1) syZ = l[k] := by simp [List.getD_eq_getElem?_getD, List.getElem?_eq_getElem (show k < l.length by omega)]
    rw [this]
    simp
theorem sepL_fmt (l : List Syl) : sepL l ⟨#[46]⟩ = fmtL l := by
  cases l with
  | nil => rfl
  | cons x l =>
    rw [sepL_cons]
    have := fmtK_take x l l.length (Nat.le_refl _)
    rw [List.take_length] at this
    exact this.symm
theorem Tryd.info9t : (Tryd.prog.info? 9).map (fun i => (i.zero, i.size, i.bytes)) = some (some (.string ⟨#[]⟩), 1, 16) := by kernel_rfl
theorem cell_keptI {w w' : World} (hb : Below w.heap.size w w') {p : Addr} {v : Value} (h : w.cell? p = some v) : w'.cell? p = some v := (hb.cell (block_lt_of_cell h)).trans h
theorem own_keptI {w w' : World} {base : Nat} {e : TypeId} {size : Nat} {v : Value} {n : Nat} {xs : List Value} (hb : Below w.heap.size w w') (h : w.ownsRow base e size v n xs) : w'.ownsRow base e size v n xs := by
  obtain ⟨h1, h2⟩ := h
  refine ⟨h1, ?_⟩
  rcases h2 with h2 | ⟨g, cap, cur, hv, hg, hh, r⟩
  · exact Or.inl h2
  · exact Or.inr ⟨g, cap, cur, hv, hg, (hb.block g (Array.getElem?_eq_some_iff.1 hh).1).trans hh, r⟩
set_option maxHeartbeats 2000000 in
theorem implJW_any (v : Value) (l : List Syl) (sep : ByteArray) (w : World) (hn : (joinL l).length ≤ 2000000) (hl : l.length ≤ 2000000) (hj : (sepL l sep).length ≤ 140737488355328) (hv : YRow w v l) :
    Calls Tryd.prog 57 #[v, .string sep] w fun e w' => e = .returned (.string (bs (sepL l sep))) ∧ Below w.heap.size w w' := by
  obtain ⟨A, cap, rfl, hA⟩ := hv
  have HA := Lib.hid hA
  have HJ := Lib.hid hj
  have HN : Hid (∀ k, k < l.length → (sylB (l.getD k syZ)).length ≤ 2000000) := fun k hk => by
    have h1 := joinK_bound l (k + 1) (by omega)
    rw [joinK, List.length_append] at h1
    omega
  have HT : Hid (∀ W : World, ∀ k, k < l.length → Calls Tryd.prog 74 #[sylV (l.getD k syZ)] W fun e w' => e = .returned (.string (bs (sylB (l.getD k syZ)))) ∧ Below W.heap.size W w') := fun W k hk => implText_any _ W (HN.out k hk)
  have HL := Lib.hid (cellsT_len l)
  have HS := Lib.hid (cellsT_set l)
  have HX := Lib.hid (cellsT_at l)
  have h0l : Hid (cellsT l 0 = List.replicate l.length (.string ⟨#[]⟩)) := by unfold Hid cellsT; simp
  have hxl : (txL l).length = l.length := by simp [txL]
  clear hA hj hn
  generalize hll : l.length = n at *
  clear hll
  go_enter Tryd.func57, Tryd.ntmps57
  obtain ⟨i0, hi, hz0, hz1, hz2⟩ := info_parts Tryd.info9t
  go_wp2_with (at_make; refine wpList_make_full _ rfl _ _ 25 rfl w.heap.size 9 i0 (.string ⟨#[]⟩) 1 Tryd.underlying25 hi hz0 hz1 .i64 .i64 _ _ n rfl rfl rfl rfl (by rw [hz2]; omega) (by unfold maxLen; omega) (Nat.le_refl _) ?_; intro w1 hown1 hgrow1)
  have hb1 : Below w.heap.size w w1 := (Below.refl _ _).grown hgrow1 (Nat.le_refl _) (fun _ h => by cases h)
  have hown : w1.ownsRow w.heap.size 9 1 (.slice (some ⟨w.heap.size, 0, none⟩) n n) n (cellsT l 0) := by
    have := hown1
    rw [show (Value.string ⟨#[]⟩).cells = #[.string ⟨#[]⟩] from rfl, toList_madeCells_one, Nat.mul_one] at this
    rw [h0l.out]
    exact this
  have HO1 := Lib.hid hown
  have HB1 := Lib.hid hb1
  clear hown1 hgrow1 hown hb1
  go_loopw [13] (fun i wr => ∃ (k : Nat), k ≤ n ∧ i = .int .i64 k ∧ wr.ownsRow w.heap.size 9 1 (.slice (some ⟨w.heap.size, 0, none⟩) n n) n (cellsT l k) ∧ Below w.heap.size w wr) (fun i _ => n - (intOf i).toNat)
  case atStart => exact ⟨0, by omega, rfl, HO1.out, HB1.out⟩
  case round =>
    obtain ⟨k, hk, rfl, hown, hbe⟩ := hrel
    by_cases hkl : k < n
    · obtain ⟨g, off, rfl, h0, h1, h2⟩ := HA.out k hkl
      have c0 := cell_keptI hbe h0
      have c1 := cell_keptI hbe h1
      have c2 := cell_keptI hbe h2
      have HTK : Hid (∀ W : World, Calls Tryd.prog 74 #[sylV (l.getD k syZ)] W fun e w' => e = .returned (.string (bs (sylB (l.getD k syZ)))) ∧ Below W.heap.size W w') := fun W => HT.out W k hkl
      have HSK : Hid ((cellsT l k).set k (.string (bs (sylB (l.getD k syZ)))) = cellsT l (k + 1)) := HS.out k hkl
      have hlk := HL.out k hk
      have hBE := Lib.hid hbe
      have HOW := Lib.hid hown
      unfold sylV at HTK
      clear h0 h1 h2 hbe hown
      generalize bs (l.getD k syZ).o = O at *
      generalize bs (l.getD k syZ).n = N at *
      generalize bs (l.getD k syZ).c = C at *
      generalize bs (sylB (l.getD k syZ)) = X at *
      go_wp2_with fail
      refine (HTK.out _).mono ?_
      rintro e w2 ⟨rfl, hb⟩
      have hb0 : Below wr.heap.size wr w2 := ((Below.refl _ _).alloc (Nat.le_refl _) _).trans (hb.mono (by simp))
      have h1 := own_keptI hb0 HOW.out
      have hf0 := h1.frozenAt k
      have hc0 := h1.cellAt k (by omega)
      obtain ⟨y, hy⟩ : ∃ y, (cellsT l k)[k]? = some y := ⟨_, List.getElem?_eq_getElem (by omega)⟩
      rw [hy] at hc0
      have h2 := (h1.stored k (.string X)).1
      rw [HSK.out] at h2
      have H2 := Lib.hid h2
      have HB2 := Lib.hid ((hBE.out.trans (hb0.mono hBE.out.size)).setCell (p := ⟨w.heap.size, k, none⟩) (Nat.le_refl _) (.string X))
      clear hb hb0 h1 h2 hy
      go_wp2
      go_roundw
      case rel => exact ⟨k + 1, by omega, by go_num, H2.out, HB2.out⟩
      case measure => simp [intOf]; omega
    · obtain rfl : k = n := by omega
      have hlt : w.heap.size < wr.heap.size := by
        rcases hown.2 with ⟨h, _⟩ | ⟨g, c, cur, h, _, hh, _⟩
        · cases h
        · cases h
          exact (Array.getElem?_eq_some_iff.1 hh).1
      have HJN : Hid (Calls Tryd.prog 75 #[.slice (some ⟨w.heap.size, 0, none⟩) k k, .string sep] wr fun e w' => e = .returned (.string (bs (sepL l sep))) ∧ Below wr.heap.size wr w') := by
        have := Tryd.strings_Join w.heap.size 0 k (txL l) sep wr (fun j x hx => by
          have hjn : j < k := by
            rcases Nat.lt_or_ge j k with h | h
            · exact h
            · rw [List.getElem?_eq_none (by omega)] at hx; cases hx
          rw [hown.cellAt (0 + j) (by omega), Nat.zero_add]
          exact HX.out j x hx) hlt (by omega) (by omega) HJ.out
        rw [hxl] at this
        exact this
      have HBE := Lib.hid hbe
      clear hown hbe
      go_wp2_with fail
      refine HJN.out.mono ?_
      rintro e w2 ⟨rfl, hb⟩
      have HB2 := Lib.hid (HBE.out.trans (hb.mono HBE.out.size))
      clear hb
      go_wp2
      go_ret
      exact ⟨rfl, HB2.out⟩
theorem implJoin_any (v : Value) (l : List Syl) (w : World) (hn : (joinL l).length ≤ 2000000) (hl : l.length ≤ 2000000) (hv : YRow w v l) :
    Calls Tryd.prog 26 #[v] w fun e w' => e = .returned (.string (bs (joinL l))) ∧ Below w.heap.size w w' := by
  have HJ : Hid (∀ W, YRow W v l → Calls Tryd.prog 57 #[v, .string ⟨#[]⟩] W fun e w' => e = .returned (.string (bs (joinL l))) ∧ Below W.heap.size W w') := fun W hW => by
    have := implJW_any v l ⟨#[]⟩ W hn hl (by rw [sepL_join]; omega) hW
    rw [sepL_join] at this
    exact this
  go_enter Tryd.func26, Tryd.ntmps26
  go_wp2_with fail
  refine (HJ.out _ hv).mono ?_
  rintro e w2 ⟨rfl, hb⟩
  have HB := Lib.hid hb
  clear hb
  go_wp2
  go_ret
  exact ⟨rfl, HB.out⟩
theorem fmtL_len (l : List Syl) : (fmtL l).length ≤ (joinL l).length + l.length := by
  have h1 := fmtK_len l l.length
  rw [joinK_all] at h1
  exact h1
theorem implFmt_any (v : Value) (l : List Syl) (w : World) (hn : (joinL l).length ≤ 2000000) (hl : l.length ≤ 2000000) (hv : YRow w v l) :
    Calls Tryd.prog 27 #[v] w fun e w' => e = .returned (.string (bs (fmtL l))) ∧ Below w.heap.size w w' := by
  have HJ : Hid (∀ W, YRow W v l → Calls Tryd.prog 57 #[v, .string ⟨#[46]⟩] W fun e w' => e = .returned (.string (bs (fmtL l))) ∧ Below W.heap.size W w') := fun W hW => by
    have := implJW_any v l ⟨#[46]⟩ W hn hl (by rw [sepL_fmt]; have := fmtL_len l; omega) hW
    rw [sepL_fmt] at this
    exact this
  go_enter Tryd.func27, Tryd.ntmps27
  go_wp2_with fail
  refine (HJ.out _ hv).mono ?_
  rintro e w2 ⟨rfl, hb⟩
  have HB := Lib.hid hb
  clear hb
  go_wp2
  go_ret
  exact ⟨rfl, HB.out⟩
end Go.Proofs.YtjajbkbocbodfaaDoor
