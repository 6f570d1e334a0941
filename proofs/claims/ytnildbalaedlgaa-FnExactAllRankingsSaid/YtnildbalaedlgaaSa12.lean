/- All rankings: the model's AllRankings: what it answers. -/
import Derived.Test.YtnildbalaedlgaaAr12
import Derived.Test.YtnildbalaedlgaaSk12
import Derived.Test.YtnildbalaedlgaaCc12
namespace Go.Proofs.Ytnildbalaedlgaa
set_option maxRecDepth 100000
open Go.RowKit Go.Sort
set_option linter.unusedVariables false
set_option linter.unusedSimpArgs false

theorem cell_keptM {B : Nat} {w w' : World} {g o : Nat} {u : Value} (hb : Below B w w') (h : w.cell? ⟨g, o, none⟩ = some u) (hB : w.heap.size ≤ B := by exact Nat.le_refl _) : w'.cell? ⟨g, o, none⟩ = some u := (hb.cell (Nat.lt_of_lt_of_le (block_lt_of_cell h) hB)).trans h
set_option maxHeartbeats 16000000 in
theorem specAll_any (n : Int) (w : World) (hn : I64 n) :
    Calls Try.prog 15 #[.int .i64 n] w (OwnPost (Rep.row Rep.int) (allR n) w) := by
  have HI := Lib.hid (specIn10_any n 1 5 w)
  by_cases hc : 1 ≤ n ∧ n ≤ 5
  case neg =>
    rw [cnt12_no hc] at HI
    have HE : Hid (allR n = []) := allR_no hc
    clear hc
    go_enter Try.func15, Try.ntmps15
    go_wp2_with fail
    refine HI.out.mono ?_
    rintro e w1 ⟨rfl, rfl⟩
    go_wp2
    go_ret
    exact ⟨_, rfl, by rw [HE.out]; exact RowRd.zero _ _ _ _ _, (Below.refl _ _).alloc (Nat.le_refl _) _⟩
  obtain ⟨m, rfl⟩ : ∃ m : Nat, n = m := ⟨n.toNat, by omega⟩
  have h1 : 1 ≤ m := by omega
  have h5 : m ≤ 5 := by omega
  rw [cnt12_yes hc.1 hc.2] at HI
  have HE : Hid (allR (m : Int) = allTo m m) := allR_yes h1 h5
  generalize allR (m : Int) = R at *
  have HLL : Hid (∀ i, i < m → (allTo m i).length ≤ 625 ∧ ∀ x ∈ allTo m i, x.length ≤ 5) := fun i hi => ⟨allTo_le h5 (by omega), fun x hx => by rw [allTo_mem i x hx]; omega⟩
  have HS1 : Hid (∀ i, allTo m (i + 1) = extL m (allTo m i)) := fun i => rfl
  have H0 : Hid (RowRd (Rep.row Rep.int) true ((w.alloc (.cells #[] 3)).alloc (.cells #[.slice (some ⟨w.heap.size, 0, none⟩) 0 0] 22)) (.slice (some ⟨w.heap.size + 1, 0, none⟩) 1 1) (allTo m 0) (fun a => w.heap.size ≤ a.block)) := by
    have h := (RowRd.one (e := 22) (w.alloc (.cells #[] 3)) (E := Rep.row Rep.int) (s := true) (ys := [.slice (some ⟨w.heap.size, 0, none⟩) 0 0]) (x := ([] : List Int)) (F := fun _ => False) ⟨_, rfl, RowRd.zero _ _ _ _ _⟩ (fun a h => h.elim)).mono (G := fun a => w.heap.size ≤ a.block) fun a ha => by
      rcases ha with ha | ha
      · exact ha.elim
      · rw [World.size_alloc] at ha; omega
    rw [World.size_alloc] at h
    exact h
  have HB0 : Hid (Below w.heap.size w ((w.alloc (.cells #[] 3)).alloc (.cells #[.slice (some ⟨w.heap.size, 0, none⟩) 0 0] 22))) := ((Below.refl _ _).alloc (Nat.le_refl _) _).alloc (by simp) _
  obtain ⟨i3, hi3, qz3, qz4, qz5⟩ := info_parts infoInt12
  clear hc hn
  go_enter Try.func15, Try.ntmps15
  go_wp2_with fail
  refine HI.out.mono ?_
  rintro e w1 ⟨rfl, rfl⟩
  go_wp2
  go_loopw [3, 4] (fun u i wr => ∃ (k : Nat), k ≤ m ∧ i = .int .i64 k ∧ RowRd (Rep.row Rep.int) true wr u (allTo m k) (fun a => w.heap.size ≤ a.block) ∧ Below w.heap.size w wr) (fun _ i _ => m - (intOf i).toNat)
  case atStart => exact ⟨0, by omega, rfl, H0.out, HB0.out⟩
  case round =>
    obtain ⟨i, hi, rfl, hrow, hbe⟩ := hrel
    obtain ⟨w2, rfl⟩ : ∃ w2 : World, w2 = wr := ⟨_, rfl⟩
    have HBE := Lib.hid hbe
    by_cases him : i < m
    · obtain ⟨hLl, hLm⟩ := HLL.out i him
      have HSS := Lib.hid (HS1.out i)
      have htt := hrow.tight.weak
      clear hrow hbe HS1
      generalize hLL : allTo m i = L at *
      clear hLL
      obtain ⟨A, cap, rfl⟩ := htt.form
      have HV := Lib.hid htt
      clear htt
      have HX : Hid (∀ k, k < L.length → ∃ l, L[k]? = some l ∧ l.length ≤ 5) := fun k hk => ⟨_, List.getElem?_eq_getElem hk, hLm _ (List.getElem_mem hk)⟩
      have HZ0 : Hid (extTo m L 0 = []) := extTo_zero m L
      have HALL : Hid (extTo m L L.length = extL m L) := extTo_all m L
      have HST : Hid (∀ (k : Nat) (l : List Int), L[k]? = some l → extTo m L (k + 1) = extTo m L k ++ rowE l m) := fun k l h => extTo_step m h
      have HLN : Hid (∀ k, (extTo m L k).length ≤ 3125) := fun k => extTo_len h5 hLl k
      have HRL : Hid (∀ (l : List Int) (k : Nat), k ≤ m → (rowE l k).length ≤ 5) := fun l k hk => Nat.le_trans (rowE_len l k) (by omega)
      have HNX : Hid (OwnII w2.heap.size (w2.alloc (.cells #[] 22)) (.slice (some ⟨w2.heap.size, 0, none⟩) 0 0) (extTo m L 0)) := by unfold Hid; rw [HZ0.out]; exact OwnII.empty w2 (Nat.le_refl _)
      have HNB : Hid (Below w2.heap.size w2 (w2.alloc (.cells #[] 22))) := (Below.refl _ _).alloc (Nat.le_refl _) _
      clear hLm
      generalize hln : L.length = N at *
      clear hln
      have him2 : (i : Int) < (m : Int) := by omega
      go_wp2
      go_loopw [5, 6] (fun u j wq => ∃ (k : Nat), k ≤ N ∧ j = .int .i64 k ∧ OwnII w2.heap.size wq u (extTo m L k) ∧ Below w2.heap.size w2 wq) (fun _ j _ => N - (intOf j).toNat)
      case atStart => exact ⟨0, by omega, rfl, HNX.out, HNB.out⟩
      case round =>
        obtain ⟨k, hk, rfl, hown, hbq⟩ := hrel
        obtain ⟨w3, rfl⟩ : ∃ w3 : World, w3 = wr := ⟨_, rfl⟩
        have HBQ := Lib.hid hbq
        have HOW := Lib.hid hown
        clear hbq hown
        by_cases hkl : k < N
        · obtain ⟨l, hl, hl5⟩ := HX.out k hkl
          obtain ⟨g, off, xs, Fk, rfl, _, hrl, hFk, hcl⟩ := HV.out.get hl
          obtain ⟨vl, rfl, hrow⟩ := hrl
          obtain ⟨Al, cl, rfl⟩ := hrow.form
          have c00 := hcl 0 _ rfl
          simp only [show (Rep.row Rep.int).size = 1 from rfl, Nat.mul_one, Nat.add_zero] at c00
          have HC0 := Lib.hid c00
          have HF : Hid (∀ a, Fk a → a.block < w2.heap.size) := fun a ha => (hFk a ha).2
          have HRW := Lib.hid hrow
          have HSK := Lib.hid (HST.out k l hl)
          have hkr : (k : Int) < (N : Int) := by omega
          clear hcl c00 hrow hl hFk
          go_wp2
          go_loopw [5, 7] (fun u j wz => ∃ (q : Nat), q ≤ m ∧ j = .int .i64 q ∧ OwnII w2.heap.size wz u (extTo m L k ++ rowE l q) ∧ Below w2.heap.size w2 wz) (fun _ j _ => m - (intOf j).toNat)
          case atStart => exact ⟨0, by omega, rfl, by rw [rowE_zero, List.append_nil]; exact HOW.out, HBQ.out⟩
          case round =>
            obtain ⟨j, hj, rfl, hown, hbz⟩ := hrel
            obtain ⟨w4, rfl⟩ : ∃ w4 : World, w4 = wr := ⟨_, rfl⟩
            have HBZ := Lib.hid hbz
            have HOQ := Lib.hid hown
            clear hbz hown
            by_cases hjn : j < m
            · have HMJ := Lib.hid (has12_any l _ Fk (j : Int) w4 (HRW.out.keptS HF.out HBZ.out))
              have c0 := cell_keptM HBZ.out HC0.out
              have c0b : ∀ o, (w4.alloc o).cell? ⟨g, off + k, none⟩ = some (.slice Al l.length cl) := fun o => cell_keptM ((Below.refl w4.heap.size w4).alloc (Nat.le_refl _) o) c0
              have hjr : (j : Int) < (m : Int) := by omega
              by_cases hm : (j : Int) ∈ l
              · rw [decide_eq_true hm] at HMJ
                have HEE : Hid (extTo m L k ++ rowE l (j + 1) = extTo m L k ++ rowE l j) := by unfold Hid; rw [rowE_in hm]
                clear hm
                go_wp2_with fail
                refine HMJ.out.mono ?_
                rintro e w5 ⟨rfl, rfl⟩
                go_wp2
                go_roundw
                case rel => exact ⟨j + 1, by omega, by go_num, by rw [HEE.out]; exact HOQ.out, HBZ.out⟩
                case measure => simp [intOf]; omega
              · rw [decide_eq_false hm] at HMJ
                have HEE : Hid (extTo m L k ++ rowE l (j + 1) = (extTo m L k ++ rowE l j) ++ [l ++ [(j : Int)]]) := by unfold Hid; rw [rowE_out hm, List.append_assoc]
                clear hm
                go_wp2_with fail
                refine HMJ.out.mono ?_
                rintro e w5 ⟨rfl, rfl⟩
                have HO0 : Hid (OwnRd Rep.int 3 false w4.heap.size (w4.alloc (.cells #[] 3)) (.slice (some ⟨w4.heap.size, 0, none⟩) 0 0) ([] : List Int) (fun _ => False)) := OwnRd.empty w4 (Nat.le_refl _) _
                have HLW := Lib.hid ((HRW.out.keptS HF.out HBZ.out).kept (w' := w4.alloc (.cells #[] 3)) ((Below.refl _ _).alloc (Nat.le_refl _) _))
                go_wp2_with (at_builtin; refine Hid.out ?_)
                unfold Hid
                refine wpList_append_row Rep.int flatInt12 (w4.alloc (.cells #[] 3)) rfl (.tmp 39) (.tmp 43) 22 3 i3 (.int .i64 0) 8 rfl Try.underlying22 hi3 qz3 qz4 qz5 rfl (by decide) false false w4.heap.size _ _ _ HO0.out rfl Al l.length cl l Fk HLW.out rfl (by simp) (by omega) (by omega) (by simp) ?_
                intro v6 w6 ho6 hb6 _
                rw [List.nil_append] at ho6
                have HOC := Lib.hid ho6
                have HB6 := Lib.hid (((Below.refl w4.heap.size w4).alloc (Nat.le_refl _) (.cells #[] 3)).trans hb6)
                have hsz6 := HB6.out.size
                clear ho6 hb6 HO0 HLW
                go_wp2_with (at_builtin; refine Hid.out ?_)
                unfold Hid
                refine wpList_append_el Rep.int w6 rfl (.tmp 44) (.tmp 46) 22 3 i3 (.int .i64 0) 8 rfl Try.underlying22 hi3 qz3 qz4 qz5 rfl (by decide) true w4.heap.size _ l (fun _ => False) HOC.out rfl [.int .i64 j] (j : Int) (fun _ => False) ⟨rfl, by unfold I64; omega⟩ (fun a h => h.elim) (fun _ a h => h.elim) rfl (fun u hu => by simp at hu; subst hu; rfl) (by omega) (by omega) hsz6 ?_
                intro v7 w7 ho7 hb7 _ _
                have HR7 : Hid (RowRd Rep.int true w7 v7 (l ++ [(j : Int)]) (fun a => w4.heap.size ≤ a.block)) := (OwnRd.row ho7 (by simp; omega)).mono fun a ha => by
                  rcases ha with ha | ha | ha
                  · exact ha
                  · exact ha.elim
                  · exact ha.elim
                have HB7 := Lib.hid (HB6.out.trans hb7)
                clear ho7 hb7 HB6 HOC
                obtain ⟨A7, c7, rfl⟩ := HR7.out.form
                rw [show (l ++ [(j : Int)]).length = l.length + 1 from by simp] at HR7 ⊢
                go_wp2_with (at_builtin; refine Hid.out ?_)
                unfold Hid
                have hpl : (extTo m L k ++ rowE l j).length ≤ 1000000 := by
                  have h1 := HLN.out k
                  have h2 := HRL.out l j hj
                  rw [List.length_append]; omega
                refine wpList_row12 w4 w7 rfl (.tmp 38) (.tmp 48) rfl w2.heap.size _ _ HOQ.out HB7.out HBZ.out.size rfl _ (l ++ [(j : Int)]) HR7.out rfl hpl ?_
                intro v8 w8 ho8 hb8
                have HO8 : Hid (OwnII w2.heap.size w8 v8 (extTo m L k ++ rowE l (j + 1))) := by unfold Hid; rw [HEE.out]; exact ho8
                have HB8 := Lib.hid (HBZ.out.trans hb8)
                clear ho8 hb8 HB7 HR7
                go_wp2
                go_roundw
                case rel => exact ⟨j + 1, by omega, by go_num, HO8.out, HB8.out⟩
                case measure => simp [intOf]; omega
            · obtain rfl : j = m := by omega
              go_wp2
              go_roundw
              case rel => exact ⟨k + 1, by omega, by go_num, by rw [HSK.out]; exact HOQ.out, HBZ.out⟩
              case measure => simp [intOf]; omega
        · obtain rfl : k = N := by omega
          have hrr := HOW.out.row (by have := HLN.out k; omega)
          rw [HALL.out, ← HSS.out] at hrr
          have HRR := Lib.hid (hrr.mono (G := fun a => w.heap.size ≤ a.block) fun a ha => Nat.le_trans HBE.out.size ha)
          have HBR := Lib.hid (HBE.out.trans (HBQ.out.mono HBE.out.size))
          clear hrr
          go_wp2
          go_roundw
          case rel => exact ⟨i + 1, by omega, by go_num, HRR.out, HBR.out⟩
          case measure => simp [intOf]; omega
    · obtain rfl : i = m := by omega
      rw [← HE.out] at hrow
      have HRR := Lib.hid hrow
      clear hrow hbe
      go_wp2
      go_ret
      exact ⟨_, rfl, HRR.out, HBE.out⟩
end Go.Proofs.Ytnildbalaedlgaa
