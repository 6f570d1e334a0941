/- The laws' helpers over rows of texts: what they answer. -/
import Derived.Test.YtekcmphcpkhkkaaAppS
import Derived.Test.YtekcmphcpkhkkaaRow
import Derived.Test.YtekcmphcpkhkkaaSl
import Derived.BigQuiet
import Derived.Lib.QuietBelow
import Derived.Below
namespace Go.Proofs.Ytekcmphcpkhkkaa
open Go.RowKit Go.Sort M

theorem cell_kept {w w' : World} (hb : Below w.heap.size w w') {p : Addr} {v : Value} (h : w.cell? p = some v) : w'.cell? p = some v := (hb.cell (block_lt_of_cell h)).trans h
theorem own_kept {w w' : World} {base : Nat} {e : TypeId} {size : Nat} {v : Value} {n : Nat} {xs : List Value} (hb : Below w.heap.size w w') (h : w.ownsRow base e size v n xs) : w'.ownsRow base e size v n xs := by
  obtain ⟨h1, h2⟩ := h
  refine ⟨h1, ?_⟩
  rcases h2 with h2 | ⟨g, cap, cur, hv, hg, hh, r⟩
  · exact Or.inl h2
  · exact Or.inr ⟨g, cap, cur, hv, hg, (hb.block g (Array.getElem?_eq_some_iff.1 hh).1).trans hh, r⟩
theorem below_drewN {B : Nat} {a w : World} (h : Below B a w) (q : Nat) : Below B a (w.drewN q) := ⟨h.os, h.tape, h.output, h.size, h.block⟩
theorem byt_dig (c : Nat) : byt ((48 + c % 10 : Nat) : Int) = 48 + UInt8.ofNat (c % 10) := by
  unfold byt
  rw [Int.toNat_natCast]
  apply UInt8.toNat_inj.1
  simp [UInt8.toNat_add]
theorem cat_one9 (a : UInt8) (l : List UInt8) : (⟨#[a]⟩ : ByteArray) ++ ⟨l.toArray⟩ = ⟨(a :: l).toArray⟩ := by
  apply ByteArray.ext
  simp
/-- 'string([]byte{b})': the conversion of a new block of one byte. -/
theorem mark_conv (w : World) (u : Int) :
    (convert 42 9 (.slice (some ⟨w.heap.size, 0, none⟩) 1 1)).run Try.prog (w.alloc (.cells #[.int .u8 u] 5)) = .ok (.string ⟨#[UInt8.ofNat u.toNat]⟩) (w.alloc (.cells #[.int .u8 u] 5)) := by
  rw [run_convert_bytes_string _ 42 9 5 _ _ _ Try.underlying42 Try.underlying5 Try.underlying9]
  rw [run_bytesToString _ _ 1 1 [u]]
  · rfl
  · have := run_loadCells_list (P := Try.prog) (w.alloc (.cells #[.int .u8 u] 5)) ⟨w.heap.size, 0, none⟩ [.int .u8 u] (cell_one_new _ _ _)
    simpa using this
/-- The mark's text: m and the numeral. -/
def mkD : Nat → Nat → List UInt8 → List UInt8
  | 0, _, out => out
  | f + 1, c, out => if c = 0 then out else mkD f (c / 10) (byt ((48 + c % 10 : Nat) : Int) :: out)
theorem mkD_zero (f : Nat) (out : List UInt8) : mkD f 0 out = out := by cases f <;> simp [mkD]
theorem mkD_pos (f c : Nat) (out : List UInt8) (h : c ≠ 0) : mkD (f + 1) c out = mkD f (c / 10) (byt ((48 + c % 10 : Nat) : Int) :: out) := by simp [mkD, h]
def mkT (k : Nat) : ByteArray := ⟨(109 :: mkD 20 k []).toArray⟩
set_option maxHeartbeats 400000 in
theorem eqStringS_any (u v : Value) (b1 b2 : Nat) (l : List ByteArray) (w : World) (hn : l.length ≤ 1000000000) (hu : w.ownsRow b1 9 1 u l.length (cellsS l)) (hv : w.ownsRow b2 9 1 v l.length (cellsS l)) :
    Calls Try.prog 12 #[u, v] w fun e w' => e = .returned (.bool true) ∧ Below w.heap.size w w' := by
  obtain ⟨A, c1, rfl, hA⟩ := str_read hu
  obtain ⟨B, c2, rfl, hB⟩ := str_read hv
  have HA := Lib.hid hA
  have HB := Lib.hid hB
  clear hA hB hu hv
  generalize l.length = n at *
  go_enter Try.func12, Try.ntmps12
  go_wp2
  go_loopw [5] (fun i wr => ∃ (k : Nat), k ≤ n ∧ i = .int .i64 k ∧ Below w.heap.size w wr) (fun i _ => n - (intOf i).toNat)
  case atStart => exact ⟨0, by omega, rfl, Below.refl _ _⟩
  case round =>
    obtain ⟨k, hk, rfl, hb⟩ := hrel
    by_cases hkl : k < n
    · obtain ⟨g, rfl, hg⟩ := HA.out k hkl
      obtain ⟨h, rfl, hh⟩ := HB.out k hkl
      have hg1 := cell_kept hb hg
      have hh1 := cell_kept hb hh
      have HBE := Lib.hid hb
      clear hb hg hh
      go_wp2
      go_quiet (fail)
      go_wp2
      go_roundw
      case rel => exact ⟨k + 1, by omega, by go_num, below_drewN HBE.out _⟩
      case measure => simp [intOf]; omega
    · obtain rfl : k = n := by omega
      go_wp2
      go_ret
      exact ⟨rfl, hb⟩
set_option maxHeartbeats 400000 in
theorem markText_any (k : Nat) (w : World) (h1 : 1 ≤ k) (h2 : k ≤ 1000000000) :
    Calls Try.prog 25 #[.int .i64 k] w fun e w' => e = .returned (.string (mkT k)) ∧ Below w.heap.size w w' := by
  have kc := mark_conv
  have hk0 : ¬ (k : Int) ≤ 0 := by omega
  go_enter Try.func25, Try.ntmps25
  go_wp2
  go_loopw [0, 3] (fun x o wr => ∃ (c f : Nat) (out : List UInt8), c ≤ 1000000000 ∧ x = .int .i64 c ∧ o = .string ⟨out.toArray⟩ ∧ Hid (mkD 20 k [] = mkD f c out) ∧ Hid (c < 10 ^ f) ∧ out.length + f ≤ 20 ∧ Below w.heap.size w wr) (fun x _ _ => (intOf x).toNat)
  case atStart => exact ⟨k, 20, [], h2, rfl, rfl, rfl, by unfold Hid; omega, by simp, Below.refl _ _⟩
  case round =>
    obtain ⟨c, f, out, hc, rfl, rfl, hd, hlt, hlen, hb⟩ := hrel
    by_cases hz : c = 0
    · subst hz
      have HE : Hid (mkT k = ⟨(109 :: out).toArray⟩) := by unfold Hid mkT; rw [hd.out, mkD_zero]
      have hadd : ∀ w : World, (Op.stringOp .add ⟨#[109]⟩ ⟨out.toArray⟩).run Try.prog w = .ok (.string ⟨(109 :: out).toArray⟩) w := by
        intro w; rw [run_string_add_sum _ _ _ (by show 1 + out.toArray.size ≤ _; rw [List.size_toArray]; omega), cat_one9]
      go_wp2
      go_ret
      exact ⟨ret_str HE.out.symm, hb⟩
    · obtain ⟨f, rfl⟩ : ∃ g, f = g + 1 := by
        rcases f with _ | f
        · have := hlt.out; omega
        · exact ⟨f, rfl⟩
      have hcp : (0 : Int) < (c : Int) := by omega
      have hd10 : ((c : Int)).tmod 10 = (c : Int) % 10 := Int.tmod_eq_emod_of_nonneg (by omega)
      have hq10 : ((c : Int)).tdiv 10 = (c : Int) / 10 := Int.tdiv_eq_ediv_of_nonneg (by omega)
      have hw8 : IntKind.u8.wrap (48 + (c : Int) % 10) = 48 + (c : Int) % 10 := IntWalk.u8_in _ (by omega)
      clear kc
      have kc := mark_conv
      go_wp2
      go_roundw
      case rel =>
        refine ⟨c / 10, f, byt ((48 + c % 10 : Nat) : Int) :: out, by omega, by go_num, ?_, ?_, ?_, by simp; omega, hb.alloc hb.size _⟩
        · rw [byt_dig, cat_one9]
        · unfold Hid; rw [hd.out, mkD_pos f c out hz]
        · have h9 := hlt.out
          rw [Nat.pow_succ] at h9
          unfold Hid
          omega
      case measure => simp [intOf]; omega
def mkM (k n : Nat) : List ByteArray := (List.range n).map fun i => mkT (k + i)
theorem mkM_len (k n : Nat) : (mkM k n).length = n := by simp [mkM]
theorem mkM_at (k n i : Nat) (h : i < n) : (mkM k n).getD i ByteArray.empty = mkT (k + i) := by
  unfold mkM; rw [List.getD_eq_getElem?_getD, List.getElem?_map, List.getElem?_range h]; rfl
theorem mkM_step (k : Nat) (l : List ByteArray) (i : Nat) (h : i < l.length) : (cellsS (mkM k i ++ l.drop i)).set i (.string (mkT (k + i))) = cellsS (mkM k (i + 1) ++ l.drop (i + 1)) := by
  have e1 : mkM k (i + 1) = mkM k i ++ [mkT (k + i)] := by unfold mkM; rw [List.range_succ, List.map_append]; rfl
  have e2 : l.drop i = l[i] :: l.drop (i + 1) := List.drop_eq_getElem_cons h
  have e3 : (cellsS (mkM k i)).length = i := by rw [cellsS_len, mkM_len]
  rw [e1, e2, cellsS_append, cellsS_append, cellsS_append, List.set_append_right _ _ (by omega), e3, Nat.sub_self, show cellsS (l[i] :: l.drop (i + 1)) = .string l[i] :: cellsS (l.drop (i + 1)) from rfl, List.set_cons_zero, List.append_assoc]
  rfl
set_option maxHeartbeats 800000 in
theorem markStringS_any (v : Value) (base : Nat) (l : List ByteArray) (w : World) (hn : l.length ≤ 1000000) (hv : w.ownsRow base 9 1 v l.length (cellsS l)) (hbase : base ≤ w.heap.size) :
    Calls Try.prog 13 #[v, .int .i64 1] w fun e w' => e = .returned (.int .i64 (1 + (l.length : Int))) ∧ w'.ownsRow base 9 1 v l.length (cellsS (mkM 1 l.length)) ∧ Below base w w' := by
  obtain ⟨A, c1, rfl, hA⟩ := str_read hv
  have HV := Lib.hid hv
  clear hA hv
  generalize hl : l.length = n at *
  have HL := Lib.hid hl
  clear hl
  go_enter Try.func13, Try.ntmps13
  go_wp2
  go_loopw [1, 5] (fun q i wr => ∃ (k : Nat), k ≤ n ∧ i = .int .i64 k ∧ q = .int .i64 (1 + (k : Int)) ∧ wr.ownsRow base 9 1 (.slice A n c1) n (cellsS (mkM 1 k ++ l.drop k)) ∧ Below base w wr) (fun _ i _ => n - (intOf i).toNat)
  case atStart => exact ⟨0, by omega, rfl, rfl, HV.out, Below.refl _ _⟩
  case round =>
    obtain ⟨k, hk, rfl, rfl, hown, hb⟩ := hrel
    by_cases hkl : k < n
    · obtain ⟨g, cap, he, hgb⟩ := str_form hown (by omega)
      obtain ⟨rfl, _, rfl⟩ := Value.slice.inj he
      have HB := Lib.hid hb
      have HO := Lib.hid hown
      clear he hown hb
      go_wp2_with fail
      rw [show (1 + (k : Int)) = ((1 + k : Nat) : Int) by omega]
      refine (markText_any (1 + k) _ (by omega) (by omega)).mono ?_
      rintro e w1 ⟨rfl, hb1⟩
      have hown := own_kept hb1 HO.out
      have hm := hown.1
      have hc := hown.cellAt k (by omega)
      have hf := hown.frozenAt k
      have hst := hown.stored k (.string (mkT (1 + k)))
      obtain ⟨x, hx⟩ : ∃ x, (cellsS (mkM 1 k ++ l.drop k))[k]? = some x := ⟨_, List.getElem?_eq_getElem (by rw [hm]; omega)⟩
      rw [hx] at hc
      have HST := Lib.hid hst
      have HB1 := Lib.hid hb1
      clear hst hm hown hx hb1
      go_wp2
      go_roundw
      case rel =>
        refine ⟨k + 1, by omega, by go_num, by go_num, ?_, (HB.out.trans (HB1.out.mono (Nat.le_trans hbase HB.out.size))).setCell hgb _⟩
        rw [← mkM_step 1 l k (by rw [HL.out]; exact hkl)]
        exact HST.out.1
      case measure => simp [intOf]; omega
    · obtain rfl : k = n := by omega
      rw [show l.drop k = [] from List.drop_of_length_le (by rw [HL.out]; exact Nat.le_refl _), List.append_nil] at hown
      go_wp2
      go_ret
      exact ⟨rfl, hown, hb⟩
set_option maxHeartbeats 800000 in
theorem heldStringS_any (v : Value) (base n : Nat) (w : World) (hn : n ≤ 1000000) (hv : w.ownsRow base 9 1 v n (cellsS (mkM 1 n))) :
    Calls Try.prog 14 #[v, .int .i64 1] w fun e w' => e = .returned (.int .i64 (1 + (n : Int))) ∧ Below w.heap.size w w' := by
  have hv' : w.ownsRow base 9 1 v (mkM 1 n).length (cellsS (mkM 1 n)) := by rw [mkM_len]; exact hv
  obtain ⟨A, c1, rfl, hA⟩ := str_read hv'
  rw [mkM_len] at hA
  rw [mkM_len]
  have HA := Lib.hid hA
  clear hA hv hv'
  go_enter Try.func14, Try.ntmps14
  go_wp2
  go_loopw [1, 5] (fun q i wr => ∃ (k : Nat), k ≤ n ∧ i = .int .i64 k ∧ q = .int .i64 (1 + (k : Int)) ∧ Below w.heap.size w wr) (fun _ i _ => n - (intOf i).toNat)
  case atStart => exact ⟨0, by omega, rfl, rfl, Below.refl _ _⟩
  case round =>
    obtain ⟨k, hk, rfl, rfl, hb⟩ := hrel
    by_cases hkl : k < n
    · obtain ⟨g, rfl, hg⟩ := HA.out k hkl
      rw [mkM_at 1 n k hkl] at hg
      have hc := cell_kept hb hg
      have HB := Lib.hid hb
      clear hg hb
      have cV : ∀ d os, Calls Try.prog 25 #[.int .i64 (1 + (k : Int))] (grow (redrawn wr d) os) fun e w'' => e = .returned (.string (mkT (1 + k))) ∧ ∃ p : Regrown, w'' = grow (redrawn wr p.d) p.os := by
        intro d os
        rw [show (1 + (k : Int)) = ((1 + k : Nat) : Int) by omega]
        exact Calls.regrown_of (markText_any (1 + k) _ (by omega) (by omega))
      have gc := fun d os => cell_regrown hc d os
      clear hc
      go_wp2_with fail
      refine wp_region_quiet_below (by kernel_rfl) (by kernel_rfl) ?_
      repeat (quiet_step (exact cV _ _))
      refine wpQuiet_nil ?_
      intro _ hw'
      obtain ⟨⟨dq, osq⟩, hw''⟩ := hw'
      subst hw''
      go_wp2
      go_roundw
      case rel => exact ⟨k + 1, by omega, by go_num, by go_num, HB.out.trans ((below_regrown wr dq osq).mono HB.out.size)⟩
      case measure => simp [intOf]; omega
    · obtain rfl : k = n := by omega
      go_wp2
      go_ret
      exact ⟨rfl, hb⟩
end Go.Proofs.Ytekcmphcpkhkkaa
