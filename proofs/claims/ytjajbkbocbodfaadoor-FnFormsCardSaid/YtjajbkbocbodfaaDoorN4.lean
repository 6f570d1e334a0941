/- The model's DistanceBetween: what it answers. -/
import Derived.Test.YtjajbkbocbodfaaDoorNb
import Derived.Test.YtjajbkbocbodfaaDoorN1
import Derived.Test.YtjajbkbocbodfaaDoorLk
import Derived.Test.YtjajbkbocbodfaaDoorAppI
namespace Go.Proofs.YtjajbkbocbodfaaDoor
open Go.RowKit Go.Sort M

theorem int_read {w : World} {base : Nat} {v : Value} {l : List Int} (h : w.ownsRow base 3 1 v l.length (cellsI l)) :
    ∃ A cap, v = .slice A l.length cap ∧ ∀ k, k < l.length → ∃ g, A = some ⟨g, 0, none⟩ ∧ w.cell? ⟨g, k, none⟩ = some (.int .i64 (l.getD k 0)) := by
  have hh := h
  rcases h.2 with ⟨rfl, hn⟩ | ⟨g, cap, cur, rfl, _⟩
  · exact ⟨none, 0, by rw [hn], fun k hk => by omega⟩
  · refine ⟨some ⟨g, 0, none⟩, cap, rfl, fun k hk => ⟨g, rfl, ?_⟩⟩
    have hc : (cellsI l).length = l.length := cellsI_len l
    rw [hh.cellAt k (by omega), cellsI_at l k hk]
/-- A row of distances: its value and its places. -/
theorem d_read {w : World} {base : Nat} {v : Value} {a b : ByteArray} {i j : Nat} (h : w.ownsRow base 3 1 v j (cellsI (dRow a b i j))) :
    ∃ A cap, v = .slice A j cap ∧ ∀ k, k < j → ∃ g, A = some ⟨g, 0, none⟩ ∧ w.cell? ⟨g, k, none⟩ = some (.int .i64 (dst a b i k : Int)) := by
  have h' : w.ownsRow base 3 1 v (dRow a b i j).length (cellsI (dRow a b i j)) := by rw [dRow_len]; exact h
  obtain ⟨A, cap, e, hr⟩ := int_read h'
  rw [dRow_len] at e hr
  exact ⟨A, cap, e, fun k hk => by obtain ⟨g, e1, hc⟩ := hr k hk; rw [dRow_at a b i j k hk] at hc; exact ⟨g, e1, hc⟩⟩
theorem int_empty (w : World) : (w.alloc (.cells #[] 3)).ownsRow w.heap.size 3 1 (.slice (some ⟨w.heap.size, 0, none⟩) 0 0) 0 (cellsI []) :=
  ⟨rfl, Or.inr ⟨w.heap.size, 0, #[], rfl, Nat.le_refl _, heap_alloc_new _ _, Nat.le_refl _, Nat.zero_le _, rfl, rfl⟩⟩
theorem int_one (w : World) (z : Int) : (w.alloc (.cells #[.int .i64 z] 3)).ownsRow w.heap.size 3 1 (.slice (some ⟨w.heap.size, 0, none⟩) 1 1) 1 (cellsI [z]) :=
  ⟨rfl, Or.inr ⟨w.heap.size, 1, #[.int .i64 z], rfl, Nat.le_refl _, heap_alloc_new _ _, Nat.le_refl _, by unfold maxLen; omega, rfl, rfl⟩⟩
theorem dRow_one (a b : ByteArray) (i : Nat) : dRow a b (i + 1) 1 = [((i : Int) + 1)] := by
  simp [dRow, dst]
theorem ownsRow_base' {w : World} {b b' : Nat} {e : TypeId} {size : Nat} {v : Value} {n : Nat} {xs : List Value} (hb : b' ≤ b) (h : w.ownsRow b e size v n xs) : w.ownsRow b' e size v n xs := by
  obtain ⟨h1, h2⟩ := h
  refine ⟨h1, ?_⟩
  rcases h2 with h2 | ⟨g, cap, cur, hv, hg, r⟩
  · exact Or.inl h2
  · exact Or.inr ⟨g, cap, cur, hv, Nat.le_trans hb hg, r⟩
set_option maxHeartbeats 4000000 in
theorem specDist_in (a b : ByteArray) (w : World) (ha : isFm a = true) (hb : isFm b = true) :
    Calls Tryd.prog 22 #[.string a, .string b] w fun e w' => e = .returned (.int .i64 (dst a b a.size b.size)) ∧ Below w.heap.size w w' := by
  have hna := isFm_size ha
  have hnb := isFm_size hb
  have HMA := Lib.hid (show a.size ≤ maxLen by unfold maxLen; omega)
  have HMB := Lib.hid (show b.size ≤ maxLen by unfold maxLen; omega)
  go_enter Tryd.func22, Tryd.ntmps22
  go_wp2_with fail
  refine (specFm_any a _ HMA.out).mono ?_
  rintro e w2 ⟨rfl, rfl⟩
  rw [ha]
  go_wp2_with fail
  refine (specFm_any b _ HMB.out).mono ?_
  rintro e w2 ⟨rfl, rfl⟩
  rw [hb]
  clear ha hb
  go_wp2
  go_loopw [5, 6] (fun v i wr => ∃ (k : Nat), k ≤ b.size + 1 ∧ i = .int .i64 k ∧ wr.ownsRow w.heap.size 3 1 v k (cellsI (dRow a b 0 k)) ∧ Below w.heap.size w wr) (fun _ i _ => b.size + 1 - (intOf i).toNat)
  case atStart => exact ⟨0, by omega, rfl, int_empty w, (Below.refl _ _).alloc (Nat.le_refl _) _⟩
  case round =>
    obtain ⟨k, hk, rfl, hown, hbe⟩ := hrel
    by_cases hkl : k ≤ b.size
    · have HO := Lib.hid hown
      have HBE := Lib.hid hbe
      clear hown hbe
      go_wp2_with (at_builtin; refine wpList_append_int _ rfl (.tmp 26) (.tmp 28) rfl w.heap.size _ _ _ rfl HO.out _ rfl (by omega) HBE.out.size ?_; intro v' w' hown' hb')
      go_roundw
      case rel =>
        refine ⟨k + 1, by omega, by go_num, ?_, HBE.out.trans hb'⟩
        rw [dRow_step, show dst a b 0 k = k by simp [dst]]
        exact hown'
      case measure => simp [intOf]; omega
    · obtain rfl : k = b.size + 1 := by omega
      have HO := Lib.hid hown
      have HBE := Lib.hid hbe
      clear hown hbe
      go_wp2
      go_loopw [5, 7] (fun v i wr => ∃ (i0 : Nat), i0 ≤ a.size ∧ i = .int .i64 ((i0 : Int) + 1) ∧ wr.ownsRow w.heap.size 3 1 v (b.size + 1) (cellsI (dRow a b i0 (b.size + 1))) ∧ Below w.heap.size w wr) (fun _ i _ => a.size + 1 - (intOf i).toNat)
      case atStart => exact ⟨0, by omega, rfl, HO.out, HBE.out⟩
      case round =>
        obtain ⟨i0, hi, rfl, hown, hbe⟩ := hrel
        by_cases hil : i0 < a.size
        · obtain ⟨wo, rfl⟩ : ∃ wo : World, wo = wr := ⟨_, rfl⟩
          obtain ⟨A, cap, rfl, hrd⟩ := d_read hown
          have HRD := Lib.hid hrd
          have HBO := Lib.hid hbe
          clear hown hbe hrd
          go_wp2
          go_loopw [8, 9] (fun v i wr => ∃ (k0 : Nat), k0 ≤ b.size ∧ i = .int .i64 ((k0 : Int) + 1) ∧ wr.ownsRow wo.heap.size 3 1 v (k0 + 1) (cellsI (dRow a b (i0 + 1) (k0 + 1))) ∧ Below wo.heap.size wo wr) (fun _ i _ => b.size + 1 - (intOf i).toNat)
          case atStart => exact ⟨0, by omega, rfl, by rw [dRow_one]; exact int_one wo _, (Below.refl _ _).alloc (Nat.le_refl _) _⟩
          case round =>
            obtain ⟨k0, hk0, rfl, hown, hbe⟩ := hrel
            by_cases hkl0 : k0 < b.size
            · have HOW := Lib.hid hown
              have HBW := Lib.hid hbe
              obtain ⟨B, cap2, rfl, hrd2⟩ := d_read hown
              obtain ⟨g, rfl, hg1⟩ := HRD.out (k0 + 1) (by omega)
              obtain ⟨g', hgg, hg0⟩ := HRD.out k0 (by omega)
              obtain rfl : g = g' := by simpa using hgg
              obtain ⟨h, rfl, hh0⟩ := hrd2 k0 (by omega)
              have c1 := cell_kept hbe hg1
              have c0 := cell_kept hbe hg0
              have d1 := dst_le a b i0 (k0 + 1)
              have d2 := dst_le a b (i0 + 1) k0
              have d3 := dst_le a b i0 k0
              have hba := bAt_in a i0 hil
              have hbb := bAt_in b k0 hkl0
              have hs1 : (k0 : Int) + 1 - 1 = (k0 : Int) := by omega
              have hs2 : (i0 : Int) + 1 - 1 = (i0 : Int) := by omega
              clear hown hbe hrd2 hgg hg0 hg1
              have HD : Hid (dst a b (i0 + 1) (k0 + 1) = min (min (dst a b i0 (k0 + 1)) (dst a b (i0 + 1) k0) + 1) (if bAt a i0 = bAt b k0 then dst a b i0 k0 else dst a b i0 k0 + 1)) := by unfold Hid; rw [dst]
              generalize dst a b i0 (k0 + 1) = p at *
              generalize dst a b (i0 + 1) k0 = q at *
              generalize dst a b i0 k0 = r at *
              go_wp2
              go_quiet (fail)
              go_wp2
              all_goals
                go_quiet (fail)
                go_wp2_with (at_builtin; refine wpList_append_int _ rfl (.tmp 79) (.tmp 81) rfl wo.heap.size _ _ _ rfl HOW.out _ rfl (by omega) HBW.out.size ?_; intro v' w' hown' hb')
              all_goals
                go_roundw
                case rel =>
                  refine ⟨k0 + 1, by omega, by go_num, ?_, HBW.out.trans ⟨hb'.os, hb'.tape, hb'.output, hb'.size, hb'.block⟩⟩
                  rw [dRow_step, HD.out]
                  first
                    | (have he : bAt a i0 = bAt b k0 := by simpa using ‹(bAt a i0 == bAt b k0) = true›
                       rw [if_pos he])
                    | (have he : ¬ bAt a i0 = bAt b k0 := by simpa using ‹(bAt a i0 == bAt b k0) = false›
                       rw [if_neg he])
                  refine Eq.mp (congrArg (fun z : Int => w'.ownsRow wo.heap.size 3 1 v' (k0 + 1 + 1) (cellsI (dRow a b (i0 + 1) (k0 + 1) ++ [z]))) ?_) hown'
                  clear hown' hb' HOW HBW HD
                  omega
                case measure => simp [intOf]; omega
            · obtain rfl : k0 = b.size := by omega
              go_wp2
              go_roundw
              case rel => exact ⟨i0 + 1, by omega, by go_num, ownsRow_base' HBO.out.size hown, HBO.out.trans (hbe.mono HBO.out.size)⟩
              case measure => simp [intOf]; omega
        · obtain rfl : i0 = a.size := by omega
          obtain ⟨A, cap, rfl, hrd⟩ := d_read hown
          obtain ⟨g, rfl, hc⟩ := hrd b.size (by omega)
          have HBO := Lib.hid hbe
          clear hown hbe hrd
          go_wp2
          go_ret
          exact ⟨rfl, HBO.out⟩
theorem distV_in {a b : ByteArray} (ha : isFm a = true) (hb : isFm b = true) : distV a b = dst a b a.size b.size := if_pos ⟨ha, hb⟩
theorem distV_out {a b : ByteArray} (h : ¬ (isFm a = true ∧ isFm b = true)) : distV a b = -1 := if_neg h
theorem specDist_any (a b : ByteArray) (w : World) (hsa : a.size ≤ maxLen) (hsb : b.size ≤ maxLen) :
    Calls Tryd.prog 22 #[.string a, .string b] w fun e w' => e = .returned (.int .i64 (distV a b)) ∧ Below w.heap.size w w' := by
  by_cases ha : isFm a = true
  · by_cases hb : isFm b = true
    · rw [distV_in ha hb]; exact specDist_in a b w ha hb
    · have HE := Lib.hid (distV_out (a := a) (b := b) fun h => hb h.2)
      have hb : isFm b = false := by simpa using hb
      have HA := Lib.hid hsa
      have HB := Lib.hid hsb
      clear hsa hsb
      go_enter Tryd.func22, Tryd.ntmps22
      go_wp2_with fail
      refine (specFm_any a _ HA.out).mono ?_
      rintro e w2 ⟨rfl, rfl⟩
      rw [ha]
      go_wp2_with fail
      refine (specFm_any b _ HB.out).mono ?_
      rintro e w2 ⟨rfl, rfl⟩
      rw [hb]
      go_wp2
      go_ret
      exact ⟨ret_i64 HE.out.symm, Below.refl _ _⟩
  · have HE := Lib.hid (distV_out (a := a) (b := b) fun h => ha h.1)
    have ha : isFm a = false := by simpa using ha
    have HA := Lib.hid hsa
    clear hsa hsb
    go_enter Tryd.func22, Tryd.ntmps22
    go_wp2_with fail
    refine (specFm_any a _ HA.out).mono ?_
    rintro e w2 ⟨rfl, rfl⟩
    rw [ha]
    go_wp2
    go_ret
    exact ⟨ret_i64 HE.out.symm, Below.refl _ _⟩
end Go.Proofs.YtjajbkbocbodfaaDoor
