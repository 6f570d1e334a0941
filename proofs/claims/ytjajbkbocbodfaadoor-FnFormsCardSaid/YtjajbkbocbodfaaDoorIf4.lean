/- The program's DistanceBetween: what it answers. -/
import Derived.Test.YtjajbkbocbodfaaDoorNb
import Derived.Test.YtjajbkbocbodfaaDoorIf1
import Derived.Test.YtjajbkbocbodfaaDoorN4
import Derived.Laws.Rows
import Derived.BigRegion
import Derived.BigQuiet
import Derived.Laws.Cover1
namespace Go.Proofs.YtjajbkbocbodfaaDoor
open Go.RowKit Go.Sort M

/-- An array of nine numbers of which the first n + 1 are known. -/
def DRow (w : World) (g : Nat) (f : Nat → Int) (n : Nat) : Prop := ∃ D : List Int, D.length = 9 ∧ w.heap[g]? = some (.cells (cellsI D).toArray 57 (0, 0)) ∧ ∀ k, k ≤ n → D.getD k 0 = f k
theorem DRow.cell {w : World} {g : Nat} {f : Nat → Int} {n : Nat} (h : DRow w g f n) (hn : n ≤ 8) (k : Nat) (hk : k ≤ n) : w.cell? ⟨g, k, none⟩ = some (.int .i64 (f k)) := by
  obtain ⟨D, hl, hg, hf⟩ := h
  have hkl : k < D.length := by omega
  rw [← hf k hk]
  simp [World.cell?, hg, cellsI, hkl]
theorem DRow.frozen {w : World} {g : Nat} {f : Nat → Int} {n : Nat} (h : DRow w g f n) (k : Nat) : w.frozen? ⟨g, k, none⟩ = false := by
  obtain ⟨D, hl, hg, hf⟩ := h
  exact frozen_of_row w g k _ _ hg
theorem DRow.set {w : World} {g : Nat} {f : Nat → Int} {n : Nat} (h : DRow w g f n) (hn : n ≤ 8) (k : Nat) (hk : k ≤ n) (z : Int) (f' : Nat → Int) (hz : f' k = z) (ho : ∀ q, q ≤ n → q ≠ k → f' q = f q) : DRow (w.setCell ⟨g, k, none⟩ (.int .i64 z)) g f' n := by
  obtain ⟨D, hl, hg, hf⟩ := h
  refine ⟨D.set k z, by rw [List.length_set]; exact hl, ?_, ?_⟩
  · rw [heap_setCell_same w g k _ _ _ hg]
    have e : (cellsI D).toArray.setIfInBounds k (.int .i64 z) = (cellsI (D.set k z)).toArray := by
      unfold cellsI; rw [List.map_set]; simp
    rw [e]
  · intro q hq
    by_cases hqk : q = k
    · subst hqk
      rw [List.getD_eq_getElem?_getD, List.getElem?_set_self (by omega), hz]; rfl
    · rw [List.getD_eq_getElem?_getD, List.getElem?_set_ne (fun e => hqk e.symm), ← List.getD_eq_getElem?_getD, hf q hq, ho q hq hqk]
theorem DRow.new (w : World) : DRow (w.alloc (.cells #[.int .i64 0, .int .i64 0, .int .i64 0, .int .i64 0, .int .i64 0, .int .i64 0, .int .i64 0, .int .i64 0, .int .i64 0] 57)) w.heap.size (fun k => if k < 0 then (k : Int) else 0) 8 := by
  refine ⟨[0, 0, 0, 0, 0, 0, 0, 0, 0], rfl, heap_alloc_new _ _, ?_⟩
  intro k hk
  rcases (show k = 0 ∨ k = 1 ∨ k = 2 ∨ k = 3 ∨ k = 4 ∨ k = 5 ∨ k = 6 ∨ k = 7 ∨ k = 8 by omega) with rfl | rfl | rfl | rfl | rfl | rfl | rfl | rfl | rfl <;> rfl
theorem DRow.less {w : World} {g : Nat} {f f' : Nat → Int} {n n' : Nat} (h : DRow w g f n) (hn : n' ≤ n) (he : ∀ k, k ≤ n' → f' k = f k) : DRow w g f' n' := by
  obtain ⟨D, hl, hg, hf⟩ := h
  exact ⟨D, hl, hg, fun k hk => by rw [hf k (by omega), he k hk]⟩
theorem DRow.drew {w : World} {g : Nat} {f : Nat → Int} {n : Nat} (h : DRow w g f n) (q : Nat) : DRow (w.drewN q) g f n := h
theorem dst_zero (a b : ByteArray) (i : Nat) : dst a b i 0 = i := by cases i <;> simp [dst]
theorem min3_run (x y z : Nat) : ∃ m : Nat, (∀ (ts : Array TypeId) (t : TypeId) (W : World), (Builtin.min_ ts t #[.int .i64 (x : Int), .int .i64 ((y : Int) + 1), .int .i64 ((z : Int) + 1)]).run Tryd.prog W = .ok (.int .i64 (m : Int)) W) ∧ m = min (min z y + 1) x := by
  refine ⟨min (min z y + 1) x, fun ts t W => ?_, rfl⟩
  rw [run_min_int3]
  have e : (if (z : Int) + 1 < (if (y : Int) + 1 < x then (y : Int) + 1 else x) then (z : Int) + 1 else (if (y : Int) + 1 < x then (y : Int) + 1 else x)) = ((min (min z y + 1) x : Nat) : Int) := by
    split <;> split at * <;> omega
  rw [e]
set_option maxHeartbeats 4000000 in
theorem implDist_in (a b : ByteArray) (w : World) (ha : isFm a = true) (hb : isFm b = true) :
    Calls Tryd.prog 20 #[.string a, .string b] w fun e w' => e = .returned (.int .i64 (dst a b a.size b.size)) ∧ Below w.heap.size w w' := by
  have hna := isFm_size ha
  have hnb := isFm_size hb
  have HMA := Lib.hid (show a.size ≤ maxLen by unfold maxLen; omega)
  have HMB := Lib.hid (show b.size ≤ maxLen by unfold maxLen; omega)
  go_enter Tryd.func20, Tryd.ntmps20
  go_wp2_with fail
  refine (implFmS_any a _ HMA.out).mono ?_
  rintro e w2 ⟨rfl, rfl⟩
  rw [ha]
  go_wp2_with fail
  refine (implFmS_any b _ HMB.out).mono ?_
  rintro e w2 ⟨rfl, rfl⟩
  rw [hb]
  clear ha hb
  go_wp2
  go_loopw [18] (fun i wr => ∃ (j : Nat), j ≤ 9 ∧ i = .int .i64 j ∧ DRow wr w.heap.size (fun k => if k < j then (k : Int) else 0) 8 ∧ Below w.heap.size w wr) (fun i _ => 9 - (intOf i).toNat)
  case atStart => exact ⟨0, by omega, rfl, DRow.new w, (Below.refl _ _).alloc (Nat.le_refl _) _⟩
  case round =>
    obtain ⟨j, hj, rfl, hrow, hbe⟩ := hrel
    by_cases hlt : j < 9
    · have hf := hrow.frozen j
      have hc := hrow.cell (Nat.le_refl _) j (by omega)
      have HR := Lib.hid hrow
      have HB := Lib.hid hbe
      clear hrow hbe
      go_wp2
      go_roundw
      case rel =>
        refine ⟨j + 1, by omega, by go_num, HR.out.set (Nat.le_refl _) j (by omega) _ _ (by simp) ?_, HB.out.setCell (p := ⟨w.heap.size, j, none⟩) (Nat.le_refl _) _⟩
        intro q _ hqj
        by_cases h1 : q < j
        · rw [if_pos h1, if_pos (by omega)]
        · rw [if_neg h1, if_neg (by omega)]
      case measure => simp [intOf]; omega
    · obtain rfl : j = 9 := by omega
      have HR := Lib.hid hrow
      have HB := Lib.hid hbe
      clear hrow hbe
      go_wp2
      go_loopw [27] (fun i wr => ∃ (i0 : Nat), i0 ≤ a.size ∧ i = .int .i64 i0 ∧ DRow wr w.heap.size (fun k => dst a b i0 k) b.size ∧ Below w.heap.size w wr) (fun i _ => a.size - (intOf i).toNat)
      case atStart =>
        refine ⟨0, by omega, rfl, HR.out.less hnb ?_, HB.out⟩
        intro k hk
        rw [if_pos (by omega)]; simp [dst]
      case round =>
        obtain ⟨i0, hi, rfl, hrow, hbe⟩ := hrel
        by_cases hil : i0 < a.size
        · have hf := hrow.frozen 0
          have hc := hrow.cell hnb 0 (by omega)
          have hz := dst_zero a b i0
          simp only [hz] at hc
          have HR2 := Lib.hid hrow
          have HB2 := Lib.hid hbe
          clear hrow hbe hz
          go_wp2
          go_loopw [8, 38] (fun c i wr => ∃ (j0 : Nat), j0 ≤ b.size ∧ c = .int .i64 (dst a b i0 j0) ∧ i = .int .i64 j0 ∧ DRow wr w.heap.size (fun k => if k ≤ j0 then (dst a b (i0 + 1) k : Int) else dst a b i0 k) b.size ∧ Below w.heap.size w wr) (fun _ i _ => b.size - (intOf i).toNat)
          case atStart =>
            refine ⟨0, by omega, by rw [dst_zero], rfl, HR2.out.set hnb 0 (by omega) _ _ ?_ ?_, HB2.out.setCell (p := ⟨w.heap.size, 0, none⟩) (Nat.le_refl _) _⟩
            · rw [if_pos (Nat.le_refl _), dst_zero]; go_num
            · intro q _ hq0
              rw [if_neg (by omega)]
          case round =>
            obtain ⟨j0, hj0, rfl, rfl, hrow, hbe⟩ := hrel
            by_cases hjl : j0 < b.size
            · have hf := hrow.frozen (j0 + 1)
              have c1 := hrow.cell hnb (j0 + 1) (by omega)
              have c0 := hrow.cell hnb j0 (by omega)
              rw [if_neg (by omega)] at c1
              rw [if_pos (Nat.le_refl _)] at c0
              have d1 := dst_le a b i0 (j0 + 1)
              have d2 := dst_le a b (i0 + 1) j0
              have d3 := dst_le a b i0 j0
              have hba := bAt_in a i0 hil
              have hbb := bAt_in b j0 hjl
              have HD : Hid (dst a b (i0 + 1) (j0 + 1) = min (min (dst a b i0 (j0 + 1)) (dst a b (i0 + 1) j0) + 1) (if bAt a i0 = bAt b j0 then dst a b i0 j0 else dst a b i0 j0 + 1)) := by unfold Hid; rw [dst]
              have HR3 := Lib.hid hrow
              have HB3 := Lib.hid hbe
              clear hrow hbe
              generalize hp : dst a b i0 (j0 + 1) = p at c1 d1 HD
              have HP := Lib.hid hp
              clear hp
              generalize dst a b (i0 + 1) j0 = q at c0 d2 HD
              generalize dst a b i0 j0 = r at d3 HD
              obtain ⟨mF, hmF, em⟩ := min3_run r q p
              have HMF := Lib.hid em
              clear em
              obtain ⟨mT, hmT, em⟩ := min3_run (r + 1) q p
              have HMT := Lib.hid em
              clear em
              have hcast : ((r + 1 : Nat) : Int) = (r : Int) + 1 := by omega
              rw [hcast] at hmT
              clear hcast
              go_wp2
              go_quiet (fail)
              go_wp2
              · have he : bAt a i0 ≠ bAt b j0 := by first | simpa using ‹(bAt a i0 != bAt b j0) = true› | assumption
                have HM : Hid (dst a b (i0 + 1) (j0 + 1) = mT) := by unfold Hid; rw [HD.out, HMT.out, if_neg he]
                clear hmF HMF HMT HD he
                go_region
                go_wp2
                go_roundw
                case rel =>
                  refine ⟨j0 + 1, by omega, by rw [HP.out], by go_num, ?_, ?_⟩
                  · have := HR3.out.set hnb (j0 + 1) (by omega) (mT : Int) (fun k => if k ≤ j0 + 1 then (dst a b (i0 + 1) k : Int) else dst a b i0 k) (by rw [if_pos (Nat.le_refl _), HM.out]) (fun q' _ hq => by
                      by_cases h1 : q' ≤ j0
                      · rw [if_pos h1, if_pos (by omega)]
                      · rw [if_neg h1, if_neg (by omega)])
                    exact this
                  · have hbb := HB3.out.setCell (p := ⟨w.heap.size, j0 + 1, none⟩) (Nat.le_refl _) (.int .i64 (mT : Int))
                    exact ⟨hbb.os, hbb.tape, hbb.output, hbb.size, hbb.block⟩
                case measure => simp [intOf]; omega
              · have he : bAt a i0 = bAt b j0 := by first | simpa using ‹(bAt a i0 != bAt b j0) = false› | assumption
                have HM : Hid (dst a b (i0 + 1) (j0 + 1) = mF) := by unfold Hid; rw [HD.out, HMF.out, if_pos he]
                clear hmT HMF HMT HD he
                go_region
                go_wp2
                go_roundw
                case rel =>
                  refine ⟨j0 + 1, by omega, by rw [HP.out], by go_num, ?_, ?_⟩
                  · have := HR3.out.set hnb (j0 + 1) (by omega) (mF : Int) (fun k => if k ≤ j0 + 1 then (dst a b (i0 + 1) k : Int) else dst a b i0 k) (by rw [if_pos (Nat.le_refl _), HM.out]) (fun q' _ hq => by
                      by_cases h1 : q' ≤ j0
                      · rw [if_pos h1, if_pos (by omega)]
                      · rw [if_neg h1, if_neg (by omega)])
                    exact this
                  · have hbb := HB3.out.setCell (p := ⟨w.heap.size, j0 + 1, none⟩) (Nat.le_refl _) (.int .i64 (mF : Int))
                    exact ⟨hbb.os, hbb.tape, hbb.output, hbb.size, hbb.block⟩
                case measure => simp [intOf]; omega
            · obtain rfl : j0 = b.size := by omega
              have HR3 := Lib.hid hrow
              have HB3 := Lib.hid hbe
              clear hrow hbe
              go_wp2
              go_roundw
              case rel =>
                refine ⟨i0 + 1, by omega, by go_num, HR3.out.less (Nat.le_refl _) ?_, HB3.out⟩
                intro k hk
                rw [if_pos hk]
              case measure => simp [intOf]; omega
        · obtain rfl : i0 = a.size := by omega
          have hc := hrow.cell hnb b.size (Nat.le_refl _)
          have HB2 := Lib.hid hbe
          clear hrow hbe
          go_wp2
          go_ret
          exact ⟨rfl, HB2.out⟩
theorem implDist_any (a b : ByteArray) (w : World) (hsa : a.size ≤ maxLen) (hsb : b.size ≤ maxLen) :
    Calls Tryd.prog 20 #[.string a, .string b] w fun e w' => e = .returned (.int .i64 (distV a b)) ∧ Below w.heap.size w w' := by
  by_cases ha : isFm a = true
  · by_cases hb : isFm b = true
    · rw [distV_in ha hb]; exact implDist_in a b w ha hb
    · have HE := Lib.hid (distV_out (a := a) (b := b) fun h => hb h.2)
      have hb : isFm b = false := by simpa using hb
      have HA := Lib.hid hsa
      have HB := Lib.hid hsb
      clear hsa hsb
      go_enter Tryd.func20, Tryd.ntmps20
      go_wp2_with fail
      refine (implFmS_any a _ HA.out).mono ?_
      rintro e w2 ⟨rfl, rfl⟩
      rw [ha]
      go_wp2_with fail
      refine (implFmS_any b _ HB.out).mono ?_
      rintro e w2 ⟨rfl, rfl⟩
      rw [hb]
      go_wp2
      go_ret
      exact ⟨ret_i64 HE.out.symm, Below.refl _ _⟩
  · have HE := Lib.hid (distV_out (a := a) (b := b) fun h => ha h.1)
    have ha : isFm a = false := by simpa using ha
    have HA := Lib.hid hsa
    clear hsa hsb
    go_enter Tryd.func20, Tryd.ntmps20
    go_wp2_with fail
    refine (implFmS_any a _ HA.out).mono ?_
    rintro e w2 ⟨rfl, rfl⟩
    rw [ha]
    go_wp2
    go_ret
    exact ⟨ret_i64 HE.out.symm, Below.refl _ _⟩
end Go.Proofs.YtjajbkbocbodfaaDoor
