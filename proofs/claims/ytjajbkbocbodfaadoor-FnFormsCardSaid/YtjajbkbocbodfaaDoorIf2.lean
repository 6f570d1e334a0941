/- slices.Reverse over a row of bytes that was made of a text, and the program's ReverseForm: what they answer. -/
import Derived.Test.YtjajbkbocbodfaaDoorRow
import Derived.Test.YtjajbkbocbodfaaDoorFm
import Derived.Lib.ConvBytes
import Derived.Deep.RegionLaw
namespace Go.Proofs.YtjajbkbocbodfaaDoor
open Go.RowKit M

/-- The list with its first i and its last i places exchanged. -/
def mixL (l : List UInt8) (i : Nat) : List UInt8 := (List.range l.length).map fun k => if k < i ∨ l.length - 1 - k < i then l.getD (l.length - 1 - k) 0 else l.getD k 0
theorem mixL_len (l : List UInt8) (i : Nat) : (mixL l i).length = l.length := by simp [mixL]
theorem mixL_at (l : List UInt8) (i k : Nat) (h : k < l.length) : (mixL l i)[k]? = some (if k < i ∨ l.length - 1 - k < i then l.getD (l.length - 1 - k) 0 else l.getD k 0) := by
  unfold mixL; rw [List.getElem?_map, List.getElem?_range h]; rfl
theorem mixL_zero (l : List UInt8) : mixL l 0 = l := by
  apply List.ext_getElem?
  intro k
  by_cases h : k < l.length
  · rw [mixL_at l 0 k h]; simp [h]
  · rw [List.getElem?_eq_none (by rw [mixL_len]; omega), List.getElem?_eq_none (by omega)]
theorem mixL_end (l : List UInt8) (i : Nat) (h : l.length ≤ 2 * i + 1) : mixL l i = l.reverse := by
  apply List.ext_getElem?
  intro k
  by_cases hk : k < l.length
  · rw [mixL_at l i k hk, List.getElem?_reverse hk]
    have h2 : l.length - 1 - k < l.length := by omega
    by_cases hc : k < i ∨ l.length - 1 - k < i
    · rw [if_pos hc, List.getElem?_eq_getElem h2]; simp [h2]
    · have e : l.length - 1 - k = k := by omega
      rw [if_neg hc, e, List.getElem?_eq_getElem hk]; simp [hk]
  · rw [List.getElem?_eq_none (by rw [mixL_len]; omega), List.getElem?_eq_none (by rw [List.length_reverse]; omega)]
theorem mixL_in (l : List UInt8) (i : Nat) (h : 2 * i + 1 < l.length) : (mixL l i).getD i 0 = l.getD i 0 ∧ (mixL l i).getD (l.length - 1 - i) 0 = l.getD (l.length - 1 - i) 0 := by
  have h1 := mixL_at l i i (by omega)
  have h2 := mixL_at l i (l.length - 1 - i) (by omega)
  rw [if_neg (by omega)] at h1 h2
  rw [List.getD_eq_getElem?_getD, List.getD_eq_getElem?_getD (l := mixL l i), h1, h2]
  exact ⟨rfl, rfl⟩
theorem mixL_step (l : List UInt8) (i : Nat) (h : 2 * i + 1 < l.length) : ((mixL l i).set i (l.getD (l.length - 1 - i) 0)).set (l.length - 1 - i) (l.getD i 0) = mixL l (i + 1) := by
  apply List.ext_getElem?
  intro k
  by_cases hk : k < l.length
  · rw [mixL_at l (i + 1) k hk, List.getElem?_set, List.getElem?_set, mixL_at l i k hk]
    simp only [List.length_set, mixL_len]
    by_cases h1 : l.length - 1 - i = k
    · subst h1
      rw [if_pos rfl, if_pos hk, if_pos (by omega), show l.length - 1 - (l.length - 1 - i) = i by omega]
    · rw [if_neg h1]
      by_cases h2 : i = k
      · subst h2
        rw [if_pos rfl, if_pos (by omega), if_pos (by omega)]
      · rw [if_neg h2]
        by_cases hc : k < i ∨ l.length - 1 - k < i
        · rw [if_pos hc, if_pos (by omega)]
        · rw [if_neg hc, if_neg (by omega)]
  · rw [List.getElem?_eq_none (by simp [mixL_len]; omega), List.getElem?_eq_none (by rw [mixL_len]; omega)]
/-- A row of bytes made of a text: it ends ahead of the frozen place. -/
def RowF (w : World) (g : Nat) (cs : List Value) : Prop := ∃ cur : Array Value, w.heap[g]? = some (.cells cur 5 (cur.size, cur.size + 1)) ∧ cur.toList.take cs.length = cs
theorem RowF.cell {w : World} {g : Nat} {cs : List Value} (h : RowF w g cs) (k : Nat) (hk : k < cs.length) : w.cell? ⟨g, k, none⟩ = cs[k]? := by
  obtain ⟨cur, hg, ht⟩ := h
  have e : cs[k]? = cur.toList[k]? := by
    have h1 : (cur.toList.take cs.length)[k]? = cur.toList[k]? := List.getElem?_take_of_lt hk
    rw [ht] at h1
    exact h1
  rw [e]
  simp [World.cell?, hg]
theorem RowF.le {w : World} {g : Nat} {cs : List Value} {cur : Array Value} (_hg : w.heap[g]? = some (.cells cur 5 (cur.size, cur.size + 1))) (ht : cur.toList.take cs.length = cs) : cs.length ≤ cur.size := by
  have := congrArg List.length ht
  rw [List.length_take] at this
  have e : cur.toList.length = cur.size := Array.length_toList
  omega
theorem RowF.frozen {w : World} {g : Nat} {cs : List Value} (h : RowF w g cs) (k : Nat) (hk : k < cs.length) : w.frozen? ⟨g, k, none⟩ = false := by
  obtain ⟨cur, hg, ht⟩ := h
  have := RowF.le hg ht
  simp [World.frozen?, hg]
  intro _
  omega
theorem cellsB_at (l : List UInt8) (k : Nat) (h : k < l.length) : (cellsB l)[k]? = some (.int .u8 ((l.getD k 0).toNat : Int)) := by
  unfold cellsB; rw [List.getElem?_map, List.getElem?_eq_getElem h]; simp [h]
theorem cellsB_set (l : List UInt8) (k : Nat) (x : UInt8) : (cellsB l).set k (.int .u8 (x.toNat : Int)) = cellsB (l.set k x) := by
  unfold cellsB; rw [List.map_set]
theorem RowF.drew {w : World} {g : Nat} {cs : List Value} (h : RowF w g cs) : RowF w.drew g cs := h
theorem RowF.set {w : World} {g : Nat} {cs : List Value} (h : RowF w g cs) (k : Nat) (u : Value) : RowF (w.setCell ⟨g, k, none⟩ u) g (cs.set k u) := by
  obtain ⟨cur, hg, ht⟩ := h
  refine ⟨cur.setIfInBounds k u, ?_, ?_⟩
  · rw [setCell_eq_setRow w g k cur 5 _ u hg, Array.size_setIfInBounds]
    exact setRow_heap w g cur _ 5 _ hg
  · rw [List.length_set, Array.toList_setIfInBounds, List.take_set, ht]
set_option maxHeartbeats 1000000 in
theorem slRev_any (g n cap base : Nat) (l : List UInt8) (w : World) (hl : l.length = n) (hn : n ≤ 9223372036854775807) (hbase : base ≤ g) (h : RowF w g (cellsB l)) :
    Calls Tryd.prog 52 #[.slice (some ⟨g, 0, none⟩) n cap] w fun e w' => (∃ v, e = .returned v) ∧ RowF w' g (cellsB l.reverse) ∧ Below base w w' := by
  have HR := Lib.hid h
  have HL := Lib.hid hl
  clear h hl
  go_enter Tryd.func52, Tryd.ntmps52
  go_wp2
  go_loopw [2, 3] (fun u v wr => ∃ (i : Nat), i ≤ n ∧ u = .int .i64 i ∧ v = .int .i64 ((n : Int) - 1 - i) ∧ RowF wr g (cellsB (mixL l i)) ∧ Below base w wr) (fun u _ _ => n - (intOf u).toNat)
  case atStart => exact ⟨0, by omega, rfl, by go_num, by rw [mixL_zero]; exact HR.out, Below.refl _ _⟩
  case round =>
    obtain ⟨i, hi, rfl, rfl, hrow, hb⟩ := hrel
    by_cases hlt : 2 * i + 1 < n
    · obtain ⟨j, hj⟩ : ∃ j : Nat, (n : Int) - 1 - i = j := ⟨n - 1 - i, by omega⟩
      have hj' : n - 1 - i = j := by omega
      rw [hj]
      have hlen : (cellsB (mixL l i)).length = n := by rw [cellsB_len, mixL_len, HL.out]
      have hml : (mixL l i).length = n := by rw [mixL_len, HL.out]
      have hin := mixL_in l i (by rw [HL.out]; exact hlt)
      have ci := hrow.cell i (by rw [hlen]; omega)
      have cj := hrow.cell j (by rw [hlen]; omega)
      have fi := hrow.frozen i (by rw [hlen]; omega)
      have fj := hrow.frozen j (by rw [hlen]; omega)
      have HST := Lib.hid (mixL_step l i (by rw [HL.out]; exact hlt))
      rw [HL.out, hj'] at hin HST
      rw [cellsB_at _ i (by rw [hml]; omega), hin.1] at ci
      rw [cellsB_at _ j (by rw [hml]; omega), hin.2] at cj
      have HROW := Lib.hid hrow
      have HB := Lib.hid hb
      generalize hx : l.getD i 0 = x at ci HST
      generalize hy : l.getD j 0 = y at cj HST
      have hlt2 : (i : Int) < (j : Int) := by omega
      have hji : j < n := by omega
      clear hin hrow hb hx hy hlen hml hlt
      go_wp2
      go_region
      go_wp2
      go_roundw
      case rel =>
        have hbb := (HB.out.setCell (p := ⟨g, i, none⟩) hbase (.int .u8 (y.toNat : Int))).setCell (p := ⟨g, j, none⟩) hbase (.int .u8 (x.toNat : Int))
        refine ⟨i + 1, by omega, by go_num, by go_num, ?_, ⟨hbb.os, hbb.tape, hbb.output, hbb.size, hbb.block⟩⟩
        have hs := ((HROW.out.set i (.int .u8 (y.toNat : Int))).set j (.int .u8 (x.toNat : Int)))
        rw [cellsB_set, cellsB_set, HST.out] at hs
        exact hs
      case measure => simp [intOf]; omega
    · have hge : ¬ (i : Int) < (n : Int) - 1 - i := by omega
      have HE := Lib.hid (mixL_end l i (by rw [HL.out]; omega))
      go_wp2
      go_end0
      exact ⟨⟨_, rfl⟩, by rw [← HE.out]; exact hrow, hb⟩
theorem bytesWorld_below (w : World) (s : ByteArray) : Below w.heap.size w (Lib.bytesWorld w 5 s) :=
  ⟨rfl, rfl, rfl, by rw [Lib.bytesWorld_size]; omega, fun k hk => Lib.bytesWorld_at_old w 5 s k hk⟩
theorem bytesWorld_row (w : World) (s : ByteArray) : RowF (Lib.bytesWorld w 5 s) w.heap.size (cellsB s.data.toList) := by
  refine ⟨_, Lib.bytesWorld_at_new w 5 s, ?_⟩
  rw [cellsB_len]
  unfold Lib.bytesCells cellsB
  rw [Array.toList_append, List.take_append_of_le_length (by simp), Array.toList_map, List.take_of_length_le (by simp)]
theorem implRev_any (s : ByteArray) (w : World) (hs : s.size ≤ maxLen) :
    Calls Tryd.prog 18 #[.string s] w fun e w' => e = .returned (.string ⟨(s.data.toList.reverse).toArray⟩) ∧ Below w.heap.size w w' := by
  unfold maxLen at hs
  have hcv := Lib.run_convert_string_bytes (P := Tryd.prog) w 9 22 5 s Tryd.underlying9 Tryd.underlying22 Tryd.underlying5
  have HB := Lib.hid (bytesWorld_below w s)
  have HR := Lib.hid (bytesWorld_row w s)
  generalize Lib.bytesWorld w 5 s = w1 at hcv HB HR
  generalize grownCap w s.size 0 5 = cap at hcv
  go_enter Tryd.func18, Tryd.ntmps18
  go_wp2_with fail
  refine (slRev_any w.heap.size s.size cap w.heap.size s.data.toList w1 (by simp) (by omega) (Nat.le_refl _) HR.out).mono ?_
  rintro e w2 ⟨⟨v, rfl⟩, hr2, hb2⟩
  have hcb : (convert 22 9 (.slice (some ⟨w.heap.size, 0, none⟩) s.size cap)).run Tryd.prog w2 = .ok (.string ⟨s.data.toList.reverse.toArray⟩) w2 := by
    have hl : s.data.toList.reverse.length = s.size := by simp
    have := run_convert_bytes_back w2 22 9 5 ⟨w.heap.size, 0, none⟩ cap s.data.toList.reverse Tryd.underlying22 Tryd.underlying5 Tryd.underlying9 fun j hj => by
      have hp : (⟨w.heap.size, 0, none⟩ : Addr).add j = ⟨w.heap.size, j, none⟩ := by unfold Addr.add; split <;> simp_all
      rw [hp, hr2.cell j (by rw [cellsB_len]; exact hj), cellsB_at _ j hj, List.getD_eq_getElem?_getD, List.getElem?_eq_getElem hj]
      rfl
    rw [hl] at this
    exact this
  have HB2 := Lib.hid hb2
  clear hr2 hb2 hcv
  go_wp2
  go_ret
  exact ⟨rfl, HB.out.trans HB2.out⟩
end Go.Proofs.YtjajbkbocbodfaaDoor
