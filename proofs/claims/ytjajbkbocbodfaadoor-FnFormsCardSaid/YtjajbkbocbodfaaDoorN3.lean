/- The model's FormsOf: what it answers. -/
import Derived.Test.YtjajbkbocbodfaaDoorFm
import Derived.Test.YtjajbkbocbodfaaDoorLk
import Derived.Test.YtjajbkbocbodfaaDoorAppS
import Derived.Deep.RegionLaw
namespace Go.Proofs.YtjajbkbocbodfaaDoor
open Go.RowKit Go.Sort M

theorem specIn_any (x a b : Int) (w : World) :
    Calls Tryd.prog 62 #[.int .i64 x, .int .i64 a, .int .i64 b] w fun e w' => e = .returned (.bool (decide (a ≤ x) && decide (x ≤ b))) ∧ w = w' := by
  go_enter Tryd.func62, Tryd.ntmps62
  go_wp2
  all_goals
    go_ret
    refine ⟨ret_bool ?_, rfl⟩
    simp_all <;> omega
theorem formsL_no {n : Int} (h : ¬ (0 ≤ n ∧ n ≤ 3)) : formsL n = [] := if_neg h
theorem formsL_in (n : Nat) (h : n ≤ 3) : formsL n = ofL n := by unfold formsL; rw [if_pos (by omega), Int.toNat_natCast]
theorem len_flat (f : ByteArray → List ByteArray) (c : Nat) : ∀ l : List ByteArray, (∀ x ∈ l, (f x).length = c) → (l.flatMap f).length = l.length * c
  | [], _ => by simp
  | a :: l, h => by
    rw [List.flatMap_cons, List.length_append, h a (List.mem_cons_self ..), len_flat f c l fun x hx => h x (List.mem_cons_of_mem _ hx), List.length_cons, Nat.succ_mul]; omega
theorem ofL_len : ∀ i, i ≤ 3 → (ofL i).length ≤ 343
  | 0, _ => by simp [ofL]
  | 1, _ => by rw [ofL, len_flat _ 7 _ (by intro x _; simp)]; simp [ofL]
  | 2, _ => by rw [ofL, len_flat _ 7 _ (by intro x _; simp), ofL, len_flat _ 7 _ (by intro x _; simp)]; simp [ofL]
  | 3, _ => by rw [ofL, len_flat _ 7 _ (by intro x _; simp), ofL, len_flat _ 7 _ (by intro x _; simp), ofL, len_flat _ 7 _ (by intro x _; simp)]; simp [ofL]
theorem sndB_size (j : Nat) : (sndB j).size = 1 := rfl
theorem ofL_size : ∀ i, ∀ x ∈ ofL i, x.size = i
  | 0 => by intro x hx; simp [ofL] at hx; rw [hx]; rfl
  | i + 1 => by
    intro x hx
    rw [ofL, List.mem_flatMap] at hx
    obtain ⟨y, hy, hx⟩ := hx
    rw [List.mem_map] at hx
    obtain ⟨j, _, rfl⟩ := hx
    rw [ByteArray.size_append, ofL_size i y hy, sndB_size]
theorem ofTo_len (o : List ByteArray) (k j : Nat) (hk : k ≤ o.length) : (ofTo o k j).length = k * 7 + j := by
  unfold ofTo
  rw [List.length_append, len_flat _ 7 _ (by intro x _; simp), List.length_take, List.length_map, List.length_range]
  omega
theorem formsL_len (n : Int) : (formsL n).length ≤ 1000000 := by
  unfold formsL
  split
  · have := ofL_len n.toNat (by omega); omega
  · simp
theorem ownsRow_base {w : World} {b b' : Nat} {e : TypeId} {size : Nat} {v : Value} {n : Nat} {xs : List Value} (hb : b' ≤ b) (h : w.ownsRow b e size v n xs) : w.ownsRow b' e size v n xs := by
  obtain ⟨h1, h2⟩ := h
  refine ⟨h1, ?_⟩
  rcases h2 with h2 | ⟨g, cap, cur, hv, hg, r⟩
  · exact Or.inl h2
  · exact Or.inr ⟨g, cap, cur, hv, Nat.le_trans hb hg, r⟩
set_option maxHeartbeats 2000000 in
theorem specForms_any (n : Int) (w : World) :
    Calls Tryd.prog 40 #[.int .i64 n] w (StrsPost (formsL n) w) := by
  by_cases h : 0 ≤ n ∧ n ≤ 3
  · obtain ⟨m, rfl⟩ := Int.eq_ofNat_of_zero_le h.1
    have hm : m ≤ 3 := by omega
    have HE := Lib.hid (formsL_in m hm)
    have hb : (decide ((0 : Int) ≤ (m : Int)) && decide ((m : Int) ≤ 3)) = true := by simp; omega
    clear h
    go_enter Tryd.func40, Tryd.ntmps40
    go_wp2_with fail
    refine (specIn_any _ _ _ _).mono ?_
    rintro e w2 ⟨rfl, rfl⟩
    rw [hb]
    clear hb
    go_wp2
    go_loopw [3, 4] (fun v i wr => ∃ (j : Nat), j ≤ m ∧ i = .int .i64 j ∧ wr.ownsRow w.heap.size 9 1 v (ofL j).length (cellsS (ofL j)) ∧ Below w.heap.size w wr) (fun _ i _ => m - (intOf i).toNat)
    case atStart => exact ⟨0, by omega, rfl, str_one w _, (Below.refl _ _).alloc (Nat.le_refl _) _⟩
    case round =>
      obtain ⟨j, hj, rfl, hown, hbe⟩ := hrel
      by_cases hlt : j < m
      · obtain ⟨wo, rfl⟩ : ∃ wo : World, wo = wr := ⟨_, rfl⟩
        have hl343 := ofL_len j (by omega)
        obtain ⟨A, cap, rfl, hrd⟩ := str_read hown
        have HO := Lib.hid hown
        have HBE := Lib.hid hbe
        have HRD := Lib.hid hrd
        clear hown hbe hrd
        have HSZ : Hid (∀ k, k < (ofL j).length → ((ofL j).getD k ByteArray.empty).size = j) := fun k hk => by
          rw [List.getD_eq_getElem?_getD, List.getElem?_eq_getElem hk]; exact ofL_size j _ (List.getElem_mem hk)
        generalize hol : ofL j = o at *
        have HOL := Lib.hid hol
        clear hol
        generalize hn : o.length = len at *
        have HLN := Lib.hid hn
        clear hn
        go_wp2
        go_loopw [5, 6] (fun v i wr => ∃ (k : Nat), k ≤ len ∧ i = .int .i64 k ∧ wr.ownsRow wo.heap.size 9 1 v (ofTo o k 0).length (cellsS (ofTo o k 0)) ∧ Below wo.heap.size wo wr) (fun _ i _ => len - (intOf i).toNat)
        case atStart => exact ⟨0, by omega, rfl, str_empty wo, (Below.refl _ _).alloc (Nat.le_refl _) _⟩
        case round =>
          obtain ⟨k, hk, rfl, hown, hbe⟩ := hrel
          by_cases hkl : k < len
          · obtain ⟨wk, rfl⟩ : ∃ wk : World, wk = wr := ⟨_, rfl⟩
            have HO2 := Lib.hid hown
            have HBE2 := Lib.hid hbe
            clear hown hbe
            go_wp2
            go_loopw [5, 7] (fun v i wr => ∃ (q : Nat), q ≤ 7 ∧ i = .int .i64 q ∧ wr.ownsRow wo.heap.size 9 1 v (ofTo o k q).length (cellsS (ofTo o k q)) ∧ Below wo.heap.size wo wr) (fun _ i _ => 7 - (intOf i).toNat)
            case atStart => exact ⟨0, by omega, rfl, HO2.out, HBE2.out⟩
            case round =>
              obtain ⟨q, hq, rfl, hown, hbe⟩ := hrel
              by_cases hql : q < 7
              · obtain ⟨g, rfl, hg⟩ := HRD.out k hkl
                have hc := cell_kept hbe hg
                have hsl := snd_extract q hql
                have g1 : (0 : Int) ≤ (q : Int) := by omega
                have g2 : (q : Int) + 1 ≤ 7 := by omega
                have g3 : (q : Int) ≤ (q : Int) + 1 := by omega
                have hwk : IntKind.i64.wrap ((q : Int) + 1) = (q : Int) + 1 := IntWalk.i64_in _ (by omega)
                have hnk : ((q : Int) + 1).toNat = q + 1 := by omega
                have hsz := HSZ.out k hkl
                generalize ht : o.getD k ByteArray.empty = t at hc hsz
                have HT := Lib.hid ht
                have hadd := str_add t (sndB q) (by rw [sndB_size, hsz]; omega)
                unfold sndB at hadd
                clear hsz hg ht
                have hlen : (ofTo o k q).length ≤ 1000000000 := by rw [ofTo_len o k q (by rw [HLN.out]; exact hk)]; omega
                have HOW := Lib.hid hown
                have HBE3 := Lib.hid hbe
                clear hown hbe
                go_wp2_with fail
                go_region_law (refine step_append_str_drew wr rfl (.tmp 29) (.tmp 39) rfl wo.heap.size _ _ _ HOW.out (t ++ sndB q) hlen HBE3.out.size (by simp [Act.eval]) (by simp [Act.eval]) ?_; intro v' w' hown' hb')
                all_goals
                  clear hsl hadd hc g1 g2 g3 hwk hnk
                  go_wp2
                  go_roundw
                  case rel =>
                    refine ⟨q + 1, by omega, by go_num, ?_, HBE3.out.trans hb'⟩
                    rw [ofTo_step, List.length_append, List.length_singleton, HT.out]
                    exact hown'
                  case measure => simp [intOf]; omega
              · obtain rfl : q = 7 := by omega
                go_wp2
                go_roundw
                case rel =>
                  refine ⟨k + 1, by omega, by go_num, ?_, hbe⟩
                  rw [← ofTo_next o k (by rw [HLN.out]; exact hkl)]
                  exact hown
                case measure => simp [intOf]; omega
          · obtain rfl : k = len := by omega
            have hall : ofTo o k 0 = ofL (j + 1) := by rw [← HLN.out, ofTo_all, ← HOL.out]; rfl
            rw [hall] at hown
            clear hall
            go_wp2
            go_roundw
            case rel => exact ⟨j + 1, by omega, by go_num, ownsRow_base (HBE.out.size) hown, HBE.out.trans (hbe.mono HBE.out.size)⟩
            case measure => simp [intOf]; omega
      · obtain rfl : j = m := by omega
        go_wp2
        go_ret
        exact ⟨_, rfl, by rw [HE.out]; exact hown, hbe⟩
  · have HE := Lib.hid (formsL_no h)
    have hb : (decide (0 ≤ n) && decide (n ≤ 3)) = false := by simp; omega
    clear h
    go_enter Tryd.func40, Tryd.ntmps40
    go_wp2_with fail
    refine (specIn_any _ _ _ _).mono ?_
    rintro e w2 ⟨rfl, rfl⟩
    rw [hb]
    clear hb
    go_wp2
    go_ret
    exact ⟨_, rfl, by rw [HE.out]; exact str_empty w, (Below.refl _ _).alloc (Nat.le_refl _) _⟩
end Go.Proofs.YtjajbkbocbodfaaDoor
