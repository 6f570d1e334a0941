/- The laws' toSyllable, toSyllableS: a copy of an argument in the program's type. -/
import Derived.Test.YtjajbkbocbodfaaY2
import Derived.Outline
namespace Go.Proofs.Ytjajbkbocbodfaa
open Go.RowKit Go.Sort M

theorem own_k2 {w w' : World} {base : Nat} {e : TypeId} {size : Nat} {v : Value} {n : Nat} {xs : List Value} (hb : Below w.heap.size w w') (h : w.ownsRow base e size v n xs) : w'.ownsRow base e size v n xs := by
  obtain ⟨h1, h2⟩ := h
  refine ⟨h1, ?_⟩
  rcases h2 with h2 | ⟨g, cap, cur, hv, hg, hh, r⟩
  · exact Or.inl h2
  · exact Or.inr ⟨g, cap, cur, hv, hg, (hb.block g (Array.getElem?_eq_some_iff.1 hh).1).trans hh, r⟩
theorem toSyl_any (x : Syl) (w : World) :
    Calls Try.prog 14 #[sylV x] w fun e w' => e = .returned (sylV x) ∧ Below w.heap.size w w' := by
  unfold sylV
  generalize bs x.o = O
  generalize bs x.n = N
  generalize bs x.c = C
  go_enter Try.func14, Try.ntmps14
  go_wp2
  refine bodyPost_ret (v := .agg #[.string O, .string N, .string C]) (results_cell_row rfl _ _ (w.heap.size + 1) 33 _ (0, 0) _ rfl ((Below.heap_alloc _ _ _ (by simp)).trans (by have := heap_alloc_new (w.alloc (.cells #[.string O, .string N, .string C] 30)) (.cells #[.string O, .string N, .string C] 33); rwa [World.size_alloc] at this)) Try.underlying33 rfl (by kernel_rfl)) rfl ⟨rfl, ?_⟩
  exact (((Below.refl _ _).alloc (Nat.le_refl _) _).alloc (by simp) _).alloc (by simp; omega) _
theorem Try.infoY : (Try.prog.info? 33).map (fun i => (i.zero, i.size, i.bytes)) = some (some (.agg #[.string ⟨#[]⟩, .string ⟨#[]⟩, .string ⟨#[]⟩]), 3, 48) := by kernel_rfl
theorem cellsY_rep (n : Nat) : cellsY (List.replicate n syZ) = List.replicate (n * 3) (.string ⟨#[]⟩) := by
  induction n with
  | zero => rfl
  | succ n ih =>
    have e : cellsY (List.replicate (n + 1) syZ) = cells3 syZ ++ cellsY (List.replicate n syZ) := by unfold cellsY; rw [List.replicate_succ, List.flatMap_cons]
    rw [e, ih, show (n + 1) * 3 = n * 3 + 1 + 1 + 1 by omega, List.replicate_succ, List.replicate_succ, List.replicate_succ]
    rfl
theorem made3 (z : Value) (n : Nat) : (madeCells #[z, z, z] n).toList = List.replicate n z := by
  apply List.ext_getElem?
  intro j
  by_cases hj : j < n
  · have h3 : j % 3 = 0 ∨ j % 3 = 1 ∨ j % 3 = 2 := by omega
    rcases h3 with h3 | h3 | h3 <;> simp [madeCells, hj, h3]
  · simp [madeCells, hj]
/-- The first k copied. -/
def cpL (l : List Syl) (k : Nat) : List Syl := l.take k ++ List.replicate (l.length - k) syZ
theorem cpL_len (l : List Syl) (k : Nat) (h : k ≤ l.length) : (cpL l k).length = l.length := by
  unfold cpL; rw [List.length_append, List.length_take, List.length_replicate]; omega
theorem cpL_all (l : List Syl) : cpL l l.length = l := by unfold cpL; rw [List.take_length, Nat.sub_self]; simp
theorem cpL_step (l : List Syl) (k : Nat) (h : k < l.length) : (((cellsY (cpL l k)).set (k * 3) (.string (bs (l.getD k syZ).o))).set (k * 3 + 1) (.string (bs (l.getD k syZ).n))).set (k * 3 + 2) (.string (bs (l.getD k syZ).c)) = cellsY (cpL l (k + 1)) := by
  have ht : (l.take k).length = k := by rw [List.length_take]; omega
  have hc : (cellsY (l.take k)).length = k * 3 := by rw [cellsY_len, ht]
  have e0 : cpL l k = l.take k ++ (syZ :: List.replicate (l.length - (k + 1)) syZ) := by
    unfold cpL; rw [show l.length - k = (l.length - (k + 1)) + 1 by omega, List.replicate_succ]
  have e1 : cpL l (k + 1) = l.take k ++ (l.getD k syZ :: List.replicate (l.length - (k + 1)) syZ) := by
    unfold cpL; rw [List.take_add_one, List.getElem?_eq_getElem h, List.getD_eq_getElem?_getD, List.getElem?_eq_getElem h, List.append_assoc]; rfl
  have ec : ∀ (x : Syl) (r : List Syl), cellsY (x :: r) = .string (bs x.o) :: .string (bs x.n) :: .string (bs x.c) :: cellsY r := fun x r => by unfold cellsY; rw [List.flatMap_cons]; rfl
  rw [e0, e1, cellsY_append, cellsY_append, ec, ec]
  generalize cellsY (List.replicate (l.length - (k + 1)) syZ) = R
  generalize cellsY (l.take k) = L at hc
  rw [List.set_append_right _ _ (by omega), List.set_append_right _ _ (by omega), List.set_append_right _ _ (by omega), hc, Nat.sub_self, show k * 3 + 1 - k * 3 = 1 by omega, show k * 3 + 2 - k * 3 = 2 by omega]
  rfl
def CopyPost (l : List Syl) (w : World) (e : Ending) (w' : World) : Prop := ∃ v, e = .returned v ∧ w'.ownsRow w.heap.size 33 3 v l.length (cellsY l) ∧ Below w.heap.size w w'
set_option maxHeartbeats 1000000 in
theorem toSyls_any (v : Value) (l : List Syl) (w : World) (hm : l.length ≤ 1048576) (hv : YRow w v l) :
    Calls Try.prog 9 #[v] w (CopyPost l w) := by
  obtain ⟨A, cap, rfl, hA⟩ := hv
  have HA := Lib.hid hA
  clear hA
  have HALL := Lib.hid (cpL_all l)
  have HST := Lib.hid (cpL_step l)
  have HCL := Lib.hid (cpL_len l)
  have HZ : Hid (cellsY (cpL l 0) = List.replicate (l.length * 3) (.string ⟨#[]⟩)) := by
    have : cpL l 0 = List.replicate l.length syZ := by unfold cpL; simp
    unfold Hid; rw [this, cellsY_rep]
  have HP : Hid (∀ (v : Value) (w' : World), w'.ownsRow w.heap.size 33 3 v l.length (cellsY l) → Below w.heap.size w w' → CopyPost l w (.returned v) w') := fun v w' h1 h2 => ⟨v, rfl, h1, h2⟩
  generalize hll : l.length = n at *
  clear hll
  obtain ⟨i0, hi, hz0, hz1, hz2⟩ := info_parts Try.infoY
  go_enter Try.func9, Try.ntmps9
  go_wp2_with (at_make; refine wpList_make_full _ rfl _ _ 25 rfl w.heap.size 33 i0 (.agg #[.string ⟨#[]⟩, .string ⟨#[]⟩, .string ⟨#[]⟩]) 3 Try.underlying25 hi hz0 hz1 .i64 .i64 _ _ n rfl rfl rfl rfl (by rw [hz2]; omega) (by unfold maxLen; omega) (Nat.le_refl _) ?_; intro w1 hown1 hgrow1)
  have hb1 : Below w.heap.size w w1 := (Below.refl _ _).grown hgrow1 (Nat.le_refl _) (fun _ h => by cases h)
  have HO1 : Hid (w1.ownsRow w.heap.size 33 3 (.slice (some ⟨w.heap.size, 0, none⟩) n n) n (cellsY (cpL l 0))) := by
    have := hown1
    rw [show (Value.agg #[.string ⟨#[]⟩, .string ⟨#[]⟩, .string ⟨#[]⟩]).cells = #[.string ⟨#[]⟩, .string ⟨#[]⟩, .string ⟨#[]⟩] from rfl, made3, ← HZ.out] at this
    exact this
  have HB1 := Lib.hid hb1
  clear hown1 hgrow1 hb1
  go_wp2
  go_loopw [4] (fun i wr => ∃ (k : Nat), k ≤ n ∧ i = .int .i64 k ∧ wr.ownsRow w.heap.size 33 3 (.slice (some ⟨w.heap.size, 0, none⟩) n n) n (cellsY (cpL l k)) ∧ Below w.heap.size w wr) (fun i _ => n - (intOf i).toNat)
  case atStart => exact ⟨0, by omega, rfl, HO1.out, HB1.out⟩
  case round =>
    obtain ⟨k, hk, rfl, hown, hbe⟩ := hrel
    have HBE := Lib.hid hbe
    have HOW := Lib.hid hown
    clear hbe hown
    by_cases hkl : k < n
    · obtain ⟨g, off, rfl, h0, h1, h2⟩ := HA.out k hkl
      have c0 := cell_kp HBE.out h0
      have c1 := cell_kp HBE.out h1
      have c2 := cell_kp HBE.out h2
      clear h0 h1 h2
      generalize hx : l.getD k syZ = x at c0 c1 c2
      have HX := Lib.hid hx
      clear hx
      have HTS := Lib.hid (toSyl_any x wr)
      unfold sylV at HTS
      go_wp2_with fail
      refine HTS.out.mono ?_
      rintro e w2 ⟨rfl, hb2⟩
      have hrow := own_k2 hb2 HOW.out
      have f0 := hrow.frozenAt (k * 3)
      have f1 := hrow.frozenAt (k * 3 + 1)
      have f2 := hrow.frozenAt (k * 3 + 2)
      obtain ⟨z0, z1, z2⟩ := cellsY_at (cpL l k) k (by rw [HCL.out k hk]; exact hkl)
      have e0 := hrow.cellAt (k * 3) (by omega)
      have e1 := hrow.cellAt (k * 3 + 1) (by omega)
      have e2 := hrow.cellAt (k * 3 + 2) (by omega)
      rw [z0] at e0
      rw [z1] at e1
      rw [z2] at e2
      generalize bs ((cpL l k).getD k syZ).o = Z0 at e0
      generalize bs ((cpL l k).getD k syZ).n = Z1 at e1
      generalize bs ((cpL l k).getD k syZ).c = Z2 at e2
      have HRO := Lib.hid hrow
      have HB2 := Lib.hid (HBE.out.trans (hb2.mono HBE.out.size))
      clear hrow hb2 z0 z1 z2
      go_wp2
      go_roundw
      case rel =>
        refine ⟨k + 1, by omega, by go_num, ?_, ((HB2.out.setCell (p := ⟨w.heap.size, k * 3, none⟩) (Nat.le_refl _) _).setCell (p := ⟨w.heap.size, k * 3 + 1, none⟩) (Nat.le_refl _) _).setCell (p := ⟨w.heap.size, k * 3 + 2, none⟩) (Nat.le_refl _) _⟩
        rw [← HST.out k hkl, HX.out]
        exact (((HRO.out.stored (k * 3) (.string (bs x.o))).1.stored (k * 3 + 1) (.string (bs x.n))).1.stored (k * 3 + 2) (.string (bs x.c))).1
      case measure => simp [intOf]; omega
    · obtain rfl : k = n := by omega
      go_wp2
      go_ret
      exact HP.out _ _ (by rw [← HALL.out]; exact HOW.out) HBE.out
end Go.Proofs.Ytjajbkbocbodfaa
