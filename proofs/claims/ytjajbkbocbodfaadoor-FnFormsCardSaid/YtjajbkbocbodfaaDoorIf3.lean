/- The program's FormsOf: what it answers. -/
import Derived.Test.YtjajbkbocbodfaaDoorN3
namespace Go.Proofs.YtjajbkbocbodfaaDoor
open Go.RowKit Go.Sort M

set_option maxHeartbeats 2000000 in
theorem implAdded_any (v : Value) (base len m : Nat) (o : List ByteArray) (w : World) (hn : o.length = len) (h343 : len ≤ 343) (hm : m ≤ 3) (hsz : ∀ k, k < o.length → (o.getD k ByteArray.empty).size = m) (hv : w.ownsRow base 9 1 v o.length (cellsS o)) :
    Calls Tryd.prog 61 #[v] w (StrsPost (ofTo o o.length 0) w) := by
  obtain ⟨A, cap, rfl, hrd⟩ := str_read hv
  have HRD := Lib.hid hrd
  have HLN := Lib.hid hn
  have HSZ := Lib.hid hsz
  clear hv hrd hsz
  rw [hn]
  rw [hn] at HRD HSZ
  clear hn
  go_enter Tryd.func61, Tryd.ntmps61
  go_wp2
  go_loopw [3, 9] (fun v i wr => ∃ (k : Nat), k ≤ len ∧ i = .int .i64 k ∧ wr.ownsRow w.heap.size 9 1 v (ofTo o k 0).length (cellsS (ofTo o k 0)) ∧ Below w.heap.size w wr) (fun _ i _ => len - (intOf i).toNat)
  case atStart => exact ⟨0, by omega, rfl, World.ownsRow_nil _ _ _ _, Below.refl _ _⟩
  case round =>
    obtain ⟨k, hk, rfl, hown, hbe⟩ := hrel
    by_cases hkl : k < len
    · obtain ⟨wk, rfl⟩ : ∃ wk : World, wk = wr := ⟨_, rfl⟩
      obtain ⟨g, rfl, hg⟩ := HRD.out k hkl
      have hc := cell_kept hbe hg
      have HO2 := Lib.hid hown
      have HBE2 := Lib.hid hbe
      clear hown hbe hg
      generalize ht : o.getD k ByteArray.empty = t at hc
      have HT := Lib.hid ht
      have hszt : t.size = m := by rw [← ht]; exact HSZ.out k hkl
      clear ht
      go_wp2
      go_loopw [3, 13] (fun v i wr => ∃ (q : Nat), q ≤ 7 ∧ i = .int .i64 q ∧ wr.ownsRow w.heap.size 9 1 v (ofTo o k q).length (cellsS (ofTo o k q)) ∧ Below w.heap.size w wr) (fun _ i _ => 7 - (intOf i).toNat)
      case atStart => exact ⟨0, by omega, rfl, HO2.out, HBE2.out⟩
      case round =>
        obtain ⟨q, hq, rfl, hown, hbe⟩ := hrel
        by_cases hql : q < 7
        · have hsl := snd_extract q hql
          have g1 : (0 : Int) ≤ (q : Int) := by omega
          have g2 : (q : Int) + 1 ≤ 7 := by omega
          have g3 : (q : Int) ≤ (q : Int) + 1 := by omega
          have hwk : IntKind.i64.wrap ((q : Int) + 1) = (q : Int) + 1 := IntWalk.i64_in _ (by omega)
          have hnk : ((q : Int) + 1).toNat = q + 1 := by omega
          have hadd := str_add t (sndB q) (by rw [sndB_size, hszt]; omega)
          unfold sndB at hadd
          have hlen : (ofTo o k q).length ≤ 1000000000 := by rw [ofTo_len o k q (by rw [HLN.out]; exact hk)]; omega
          have HOW := Lib.hid hown
          have HBE3 := Lib.hid hbe
          clear hown hbe
          go_wp2_with (at_builtin; refine wpList_append_str _ rfl (.tmp 16) (.tmp 23) rfl w.heap.size _ _ _ rfl HOW.out (t ++ sndB q) rfl hlen HBE3.out.size ?_; intro v' w' hown' hb')
          clear hsl hadd g1 g2 g3 hwk hnk
          go_roundw
          case rel =>
            refine ⟨q + 1, by omega, by go_num, ?_, HBE3.out.trans hb'⟩
            rw [ofTo_step, List.length_append, List.length_singleton, HT.out]
            exact hown'
          case measure => simp [intOf]; omega
        · obtain rfl : q = 7 := by omega
          go_wp2
          go_roundw
          case rel =>
            refine ⟨k + 1, by omega, by go_num, ?_, hbe⟩
            rw [← ofTo_next o k (by rw [HLN.out]; exact hkl)]
            exact hown
          case measure => simp [intOf]; omega
    · obtain rfl : k = len := by omega
      go_wp2
      go_ret
      exact ⟨_, rfl, hown, hbe⟩
set_option maxHeartbeats 1000000 in
theorem implForms_any (n : Int) (w : World) :
    Calls Tryd.prog 39 #[.int .i64 n] w (StrsPost (formsL n) w) := by
  by_cases h : 0 ≤ n ∧ n ≤ 3
  · obtain ⟨m, rfl⟩ := Int.eq_ofNat_of_zero_le h.1
    have hm : m ≤ 3 := by omega
    have HE := Lib.hid (formsL_in m hm)
    have h0 : ¬ (m : Int) < 0 := by omega
    have h3 : ¬ (3 : Int) < (m : Int) := by omega
    clear h
    go_enter Tryd.func39, Tryd.ntmps39
    go_wp2
    go_loopw [3, 12] (fun v i wr => ∃ (j : Nat), j ≤ m ∧ i = .int .i64 j ∧ wr.ownsRow w.heap.size 9 1 v (ofL j).length (cellsS (ofL j)) ∧ Below w.heap.size w wr) (fun _ i _ => m - (intOf i).toNat)
    case atStart => exact ⟨0, by omega, rfl, str_one w _, (Below.refl _ _).alloc (Nat.le_refl _) _⟩
    case round =>
      obtain ⟨j, hj, rfl, hown, hbe⟩ := hrel
      have HBE := Lib.hid hbe
      by_cases hlt : j < m
      · have HA := Lib.hid (implAdded_any _ w.heap.size (ofL j).length j (ofL j) wr rfl (ofL_len j (by omega)) (by omega) (fun k hk => by
          rw [List.getD_eq_getElem?_getD, List.getElem?_eq_getElem hk]; exact ofL_size j _ (List.getElem_mem hk)) hown)
        have hall : ofTo (ofL j) (ofL j).length 0 = ofL (j + 1) := by rw [ofTo_all]; rfl
        rw [hall] at HA
        clear hown hbe hall
        go_wp2_with fail
        refine HA.out.mono ?_
        rintro e w1 ⟨v', rfl, ho, hb⟩
        have HO := Lib.hid ho
        have HB := Lib.hid hb
        clear ho hb
        go_wp2
        go_roundw
        case rel => exact ⟨j + 1, by omega, by go_num, ownsRow_base (HBE.out.size) HO.out, HBE.out.trans (HB.out.mono HBE.out.size)⟩
        case measure => simp [intOf]; omega
      · obtain rfl : j = m := by omega
        go_wp2
        go_ret
        exact ⟨_, rfl, by rw [HE.out]; exact hown, hbe⟩
  · have HE := Lib.hid (formsL_no h)
    by_cases h0 : n < 0
    · clear h
      go_enter Tryd.func39, Tryd.ntmps39
      go_wp2
      go_ret
      exact ⟨_, rfl, by rw [HE.out]; exact World.ownsRow_nil _ _ _ _, Below.refl _ _⟩
    · have h3 : (3 : Int) < n := by omega
      clear h
      go_enter Tryd.func39, Tryd.ntmps39
      go_wp2
      go_ret
      exact ⟨_, rfl, by rw [HE.out]; exact World.ownsRow_nil _ _ _ _, Below.refl _ _⟩
end Go.Proofs.YtjajbkbocbodfaaDoor
