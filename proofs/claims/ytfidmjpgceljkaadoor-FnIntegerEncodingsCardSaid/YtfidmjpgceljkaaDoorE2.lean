/- The program's hexadecimal encoder and decoder: what they answer. -/
import Derived.Test.YtfidmjpgceljkaaDoorE1
namespace Go.Proofs.YtfidmjpgceljkaaDoor
open Go.RowKit M

theorem and15 (x : Int) (h0 : 0 ≤ x) (h1 : x < 256) : bits .and .u8 x 15 = x % 16 := by
  obtain ⟨n, rfl⟩ : ∃ n : Nat, x = n := ⟨x.toNat, by omega⟩
  have h := u8_and_nat n 15 (by omega) (by decide)
  have e : n &&& 15 = n % 16 := Nat.and_two_pow_sub_one_eq_mod n 4
  rw [e] at h
  simpa using h
/-- A digit out of the text of the digits. -/
theorem hex_at (n : Int) (h0 : 0 ≤ n) (h1 : n < 16) (h : n.toNat < (⟨#[48, 49, 50, 51, 52, 53, 54, 55, 56, 57, 97, 98, 99, 100, 101, 102]⟩ : ByteArray).size) :
    (((⟨#[48, 49, 50, 51, 52, 53, 54, 55, 56, 57, 97, 98, 99, 100, 101, 102]⟩ : ByteArray)[n.toNat]'h).toNat : Int) = hexd n := by
  rcases (show n = 0 ∨ n = 1 ∨ n = 2 ∨ n = 3 ∨ n = 4 ∨ n = 5 ∨ n = 6 ∨ n = 7 ∨ n = 8 ∨ n = 9 ∨ n = 10 ∨ n = 11 ∨ n = 12 ∨ n = 13 ∨ n = 14 ∨ n = 15 from by omega) with rfl | rfl | rfl | rfl | rfl | rfl | rfl | rfl | rfl | rfl | rfl | rfl | rfl | rfl | rfl | rfl <;> rfl
set_option maxHeartbeats 1000000 in
theorem implHex_any (s : ByteArray) (w : World) (hs : s.size ≤ 1048576) :
    Calls Tryd.prog 15 #[.string s] w fun e w' => e = .returned (.string ⟨(hexL s.data.toList).toArray⟩) ∧ Below w.heap.size w w' := by
  obtain ⟨i0, hi, hz0, hz1, hz2⟩ := info_parts Tryd.info5
  go_enter Tryd.func15, Tryd.ntmps15
  go_wp2_with (first | (at_make; refine wpList_make_own _ rfl _ _ 22 rfl w.heap.size 5 i0 (.int .u8 0) 1 Tryd.underlying22 hi hz0 hz1 .i64 .i64 _ (2 * s.size) rfl rfl (by simp) (by rw [hz2]; omega) (by unfold maxLen; omega) (Nat.le_refl _) ?_; intro w1 hown1 hgrow1))
  have hb1 : Below w.heap.size w w1 := (Below.refl _ _).grown hgrow1 (Nat.le_refl _) (fun _ h => by cases h)
  clear hgrow1
  go_loopw [3, 11] (fun v iv wr => ∃ (k : Nat), k ≤ s.size ∧ iv = .int .i64 k ∧ wr.ownsRow w.heap.size 5 1 v (2 * k) (cellsB (hexL (s.data.toList.take k))) ∧ Below w.heap.size w wr) (fun _ iv _ => s.size - (intOf iv).toNat)
  case atStart => exact ⟨0, by omega, rfl, hown1, hb1⟩
  case round =>
    obtain ⟨k, hk, rfl, hown, hb⟩ := hrel
    by_cases hlt : k < s.size
    · have hb8 : (s[k].toNat : Int) < 256 := by have := UInt8.toNat_lt s[k]; omega
      have hb0 : 0 ≤ (s[k].toNat : Int) := by omega
      have hki : (k : Int) < (s.size : Int) := by omega
      have q0 : 0 ≤ (s[k].toNat : Int) / 16 := by omega
      have q1 : (s[k].toNat : Int) / 16 < 16 := by omega
      have m0 : 0 ≤ (s[k].toNat : Int) % 16 := by omega
      have m1 : (s[k].toNat : Int) % 16 < 16 := by omega
      have dq := hexd_bd _ q0 q1
      have dm := hexd_bd _ m0 m1
      have hsz := hb.size
      have h2k : 2 * k ≤ 70368744177664 := by omega
      have ha := and15 (s[k].toNat : Int) hb0 hb8
      have d1 := hex_at _ q0 q1 (by show _ < 16; omega)
      have d2 := hex_at _ m0 m1 (by show _ < 16; omega)
      go_wp2
      go_region_law (refine step_append_two_drew wr rfl (.tmp 14) (.tmp 25) rfl w.heap.size _ (2 * k) _ hown (hexd ((s[k].toNat : Int) / 16)) (hexd ((s[k].toNat : Int) % 16)) dq dm h2k hsz (by simp [Act.eval]) (by simp [Act.eval]) ?_; intro v' w' hown' hb')
      all_goals
        clear d1 d2 ha
        go_wp2
        go_roundw
        case rel =>
          refine ⟨k + 1, by omega, by go_num, ?_, hb.trans hb'⟩
          rw [take_snoc s k hlt, hexL_snoc]
          exact hown'
        case measure => simp [intOf]; omega
    · obtain rfl : k = s.size := by omega
      have hcv := conv_own hown
      have ht : s.data.toList.take s.size = s.data.toList := List.take_of_length_le (by simp)
      rw [ht] at hcv
      clear ht
      go_wp2
      go_ret
      exact ⟨rfl, hb⟩
theorem ret_int {a b : Int} (h : a = b) : Ending.returned (.int .i64 a) = .returned (.int .i64 b) := by rw [h]
/-- The answer: the bytes and true, or the empty text and false. -/
def dhR (l : List UInt8) : Ending := match dh l with
  | some out => .returned (.tuple #[.string ⟨out.toArray⟩, .bool true])
  | none => .returned (.tuple #[.string ⟨#[]⟩, .bool false])
theorem dhR_some {l out : List UInt8} (h : dh l = some out) : Ending.returned (.tuple #[.string ⟨out.toArray⟩, .bool true]) = dhR l := by unfold dhR; rw [h]
theorem dhR_none {l : List UInt8} (h : dh l = none) : Ending.returned (.tuple #[.string ⟨#[]⟩, .bool false]) = dhR l := by unfold dhR; rw [h]
theorem hexValue_any (x : Int) (w : World) (h0 : 0 ≤ x) (h1 : x ≤ 2147483647) : Calls Tryd.prog 27 #[.int .i32 x] w fun e w' => e = .returned (.int .i64 (hv x)) ∧ w = w' := by
  by_cases ha : 48 ≤ x
  · by_cases hb : x ≤ 57
    · go_enter Tryd.func27, Tryd.ntmps27
      go_wp2
      go_ret
      exact ⟨ret_int (by unfold hv; rw [if_pos (by omega)]), rfl⟩
    · by_cases hc : 97 ≤ x
      · by_cases hd : x ≤ 102
        · go_enter Tryd.func27, Tryd.ntmps27
          go_wp2
          go_ret
          exact ⟨ret_int (by unfold hv; rw [if_neg (by omega), if_pos (by omega)]; omega), rfl⟩
        · go_enter Tryd.func27, Tryd.ntmps27
          go_wp2
          go_ret
          exact ⟨ret_int (by unfold hv; rw [if_neg (by omega), if_neg (by omega)]), rfl⟩
      · go_enter Tryd.func27, Tryd.ntmps27
        go_wp2
        go_ret
        exact ⟨ret_int (by unfold hv; rw [if_neg (by omega), if_neg (by omega)]), rfl⟩
  · have hc : ¬ 97 ≤ x := by omega
    go_enter Tryd.func27, Tryd.ntmps27
    go_wp2
    go_ret
    exact ⟨ret_int (by unfold hv; rw [if_neg (by omega), if_neg (by omega)]), rfl⟩
theorem own_iterAt {w : World} {base : Nat} {e : TypeId} {size : Nat} {v : Value} {n : Nat} {xs : List Value} (h : w.ownsRow base e size v n xs) {it : Nat} {s : ByteArray} {p : Nat} (hit : w.heap[it]? = some (.stringIter s p)) (q : Nat) : (w.iterAt it s q).ownsRow base e size v n xs := by
  refine ⟨h.1, ?_⟩
  rcases h.2 with h2 | ⟨g, cap, cur, hv, hg, hh, r⟩
  · exact .inl h2
  · have hne : g ≠ it := by rintro rfl; rw [hit] at hh; cases hh
    exact .inr ⟨g, cap, cur, hv, hg, (Lib.iterAt_other w it g s q hne).trans hh, r⟩
set_option maxHeartbeats 1000000 in
theorem implDecHex_any (s : ByteArray) (w : World) (hs : s.size ≤ 1048576) :
    Calls Tryd.prog 16 #[.string s] w fun e w' => e = dhR s.data.toList ∧ Below w.heap.size w w' := by
  obtain ⟨i0, hi, hz0, hz1, hz2⟩ := info_parts Tryd.info5
  by_cases hodd : s.size % 2 = 1
  · have ht : (((s.size : Int)) % 2 != 0) = true := by simp; omega
    have HD : Hid (dh s.data.toList = none) := dh_odd _ (by simpa using hodd)
    clear hodd
    go_enter Tryd.func16, Tryd.ntmps16
    go_wp2
    go_ret2
    exact ⟨dhR_none HD.out, Below.refl _ _⟩
  · have ht : (((s.size : Int)) % 2 != 0) = false := by simp; omega
    have hev : s.size % 2 ≠ 1 := hodd
    clear hodd
    go_enter Tryd.func16, Tryd.ntmps16
    go_wp2_with (first | (at_make; refine wpList_make_own _ rfl _ _ 22 rfl w.heap.size 5 i0 (.int .u8 0) 1 Tryd.underlying22 hi hz0 hz1 .i64 .i64 _ (s.size / 2) rfl rfl (by simp) (by rw [hz2]; omega) (by unfold maxLen; omega) (Nat.le_refl _) ?_; intro w1 hown1 hgrow1))
    have hb1 : Below w.heap.size w w1 := (Below.refl _ _).grown hgrow1 (Nat.le_refl _) (fun _ h => by cases h)
    have hiter : (w1.iter s 0).heap[w1.heap.size]? = some (.stringIter s 0) := World.iter_heap w1 s 0
    have hbi : Below w.heap.size w (w1.iter s 0) := hb1.alloc hb1.size _
    have howni : (w1.iter s 0).ownsRow w.heap.size 5 1 (.slice (some ⟨w.heap.size, 0, none⟩) 0 (s.size / 2)) 0 (cellsB []) := hown1.alloc _
    have hle : w.heap.size ≤ w1.heap.size := hb1.size
    clear hgrow1 hown1
    go_loopw [4, 5] (fun v hi wr => ∃ (pos j : Nat) (h : Int) (out : List UInt8), pos ≤ s.size ∧ hi = .int .i64 h ∧ 0 ≤ h ∧ h < 16 ∧ wr.ownsRow w.heap.size 5 1 v j (cellsB out) ∧ wr.heap[w1.heap.size]? = some (.stringIter s pos) ∧
        Hid (j = pos / 2) ∧ Hid (dh s.data.toList = (dh (s.data.toList.drop (pos - pos % 2))).map (out ++ ·)) ∧ Hid (pos % 2 = 1 → h = hv (byteAt s (pos - 1))) ∧ Below w.heap.size w wr) (fun _ _ wr => s.size - wr.iterPos w1.heap.size)
    case atStart => exact ⟨0, 0, 0, [], by omega, rfl, by omega, by omega, howni, hiter, rfl, by simp [Hid], fun h => by omega, hbi⟩
    case round =>
      obtain ⟨pos, j, h, out, hpos, rfl, hh0, hh1, hown, hit, hj, hd, hhigh, hb⟩ := hrel
      clear hiter hbi howni
      by_cases hlt : pos < s.size
      · have hHD : Hid (hv (s[pos].toNat : Int) < 0 → dh s.data.toList = none) := fun hneg => by
          rcases Nat.mod_two_eq_zero_or_one pos with hp | hp
          · have hd' := hd.out
            rw [hp, Nat.sub_zero] at hd'
            exact dh_fail s pos (by omega) out hd' (.inl hneg)
          · have hd' := hd.out
            rw [hp] at hd'
            refine dh_fail s (pos - 1) (by omega) out hd' (.inr ?_)
            have e : pos - 1 + 1 = pos := by omega
            simp only [e]
            exact hneg
        by_cases hasc : s[pos].toNat < 128
        · have hnx := fun ty => Lib.run_next_ascii_at (P := Tryd.prog) wr w1.heap.size s pos ty hit hlt hasc
          have hit' := Lib.iterAt_heap wr w1.heap.size s pos (pos + 1) hit
          have hown' := own_iterAt hown hit (pos + 1)
          have hbi := Lib.below_iterAt hb hle s (pos + 1)
          have hx0 : (0 : Int) ≤ (s[pos].toNat : Int) := by omega
          have hx1 : (s[pos].toNat : Int) ≤ 2147483647 := by omega
          have hbd := hv_bd (s[pos].toNat : Int)
          by_cases hneg : hv (s[pos].toNat : Int) < 0
          · go_wp2_with (go_at_call 27; refine (hexValue_any _ _ hx0 hx1).mono ?_; rintro e w' ⟨rfl, rfl⟩)
            go_ret2
            exact ⟨dhR_none (hHD.out hneg), hbi⟩
          · have hge : 0 ≤ hv (s[pos].toNat : Int) := by omega
            rcases Nat.mod_two_eq_zero_or_one pos with hp | hp
            · have hev2 : ((pos : Int) % 2 == 0) = true := by simp; omega
              have HP : Hid (pos % 2 = 0) := hp
              clear hp
              go_wp2_with (go_at_call 27; refine (hexValue_any _ _ hx0 hx1).mono ?_; rintro e w' ⟨rfl, rfl⟩)
              go_roundw
              case rel =>
                have hp := HP.out
                refine ⟨pos + 1, j, hv (s[pos].toNat : Int), out, by omega, by go_num, hge, by omega, hown', hit', ?_, ?_, ?_, hbi⟩
                · have := hj.out; unfold Hid; omega
                · have := hd.out; unfold Hid; rw [show pos + 1 - (pos + 1) % 2 = pos - pos % 2 by omega]; exact this
                · intro _; rw [Nat.add_sub_cancel, byteAt_in s pos hlt]
              case measure => rw [iterPos_of hit', iterPos_of hit]; omega
            · have hev2 : ((pos : Int) % 2 == 0) = false := by simp; omega
              have HP : Hid (pos % 2 = 1) := hp
              clear hp
              have hor : bits .or .i64 (h * 16) (hv (s[pos].toNat : Int)) = h * 16 + hv (s[pos].toNat : Int) := bits_or_sum 4 h (hv (s[pos].toNat : Int)) hh0 hge (by omega) (by omega)
              have hj2 : j ≤ 70368744177664 := by have := hj.out; omega
              go_wp2_with (first | (go_at_call 27; refine (hexValue_any _ _ hx0 hx1).mono ?_; rintro e w' ⟨rfl, rfl⟩) | (at_builtin; refine wpList_append_byte_it _ rfl (.tmp 31) (.tmp 37) rfl w.heap.size _ j out rfl hown' (h * 16 + hv (s[pos].toNat : Int)) (by omega) (by omega) rfl hj2 hbi.size w1.heap.size s (pos + 1) hit' ?_; intro v' w' hown2 hb2 hit2))
              go_roundw
              case rel =>
                have hp := HP.out
                have hpe : pos - 1 + 1 = pos := by omega
                have hh : h = hv (s[pos - 1].toNat : Int) := by rw [hhigh.out hp, byteAt_in s (pos - 1) (by omega)]
                refine ⟨pos + 1, j + 1, h, out ++ [byt (h * 16 + hv (s[pos].toNat : Int))], by omega, by go_num, hh0, hh1, hown2, hit2, ?_, ?_, ?_, hbi.trans hb2⟩
                · have := hj.out; unfold Hid; omega
                · have hd' := hd.out
                  rw [hp] at hd'
                  have e1 : s[pos - 1 + 1]'(by omega) = s[pos] := by simp only [hpe]
                  have hst := dh_step s (pos - 1) (by omega) out hd' (by rw [← hh]; exact hh0) (by rw [e1]; exact hge)
                  rw [e1, ← hh] at hst
                  unfold Hid
                  rw [show pos + 1 - (pos + 1) % 2 = pos - 1 + 2 by omega, Int.mul_comm h 16]
                  exact hst
                · intro h2; omega
              case measure => rw [iterPos_of hit2, iterPos_of hit]; omega
        · have hnx := fun ty => Lib.run_next_any_at (P := Tryd.prog) wr w1.heap.size s pos ty hit hlt
          have hhi := decode_high s pos hlt (by omega)
          have hx0 : (0 : Int) ≤ ((Utf8.decode s pos).1 : Int) := by omega
          have hx1 : ((Utf8.decode s pos).1 : Int) ≤ 2147483647 := by have := decode_le s pos; omega
          have hbi := Lib.below_iterAt hb hle s (pos + (Utf8.decode s pos).2)
          have HN : Hid (dh s.data.toList = none) := hHD.out (by rw [hv_high _ (by omega)]; omega)
          have hm1 := hv_high ((Utf8.decode s pos).1 : Int) (by omega)
          go_wp2_with (go_at_call 27; refine (hexValue_any _ _ hx0 hx1).mono ?_; rintro e w' ⟨rfl, rfl⟩)
          go_ret2
          exact ⟨dhR_none HN.out, hbi⟩
      · have hnx := fun ty => Lib.run_next_end_at (P := Tryd.prog) wr w1.heap.size s pos ty hit hlt
        have hcv := conv_own hown
        have HE : Hid (dh s.data.toList = some out) := by
          have hd' := hd.out
          rw [show pos - pos % 2 = pos by omega] at hd'
          exact dh_end s pos (by omega) out hd'
        go_wp2
        go_ret2
        exact ⟨dhR_some HE.out, hb⟩
end Go.Proofs.YtfidmjpgceljkaaDoor
