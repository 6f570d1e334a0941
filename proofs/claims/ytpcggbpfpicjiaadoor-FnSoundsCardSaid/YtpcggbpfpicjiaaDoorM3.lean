/- The model's NaturalClass: what it answers. -/
import Derived.Test.YtpcggbpfpicjiaaDoorM2
import Derived.BigQuiet
namespace Go.Proofs.YtpcggbpfpicjiaaDoor
open Go.RowKit Go.Sort M

/-- Whether a sound agrees with one entry of a list of shared features. -/
def agr (x z : Int) : Bool := if 0 < z then hasF x (z - 1) else !hasF x (-z - 1)
theorem agr_pos {x z : Int} (h : 0 < z) : agr x z = hasF x (z - 1) := if_pos h
theorem agr_neg {x z : Int} (h : ¬ 0 < z) : agr x z = !hasF x (-z - 1) := if_neg h
theorem mem_sfTo {F : Nat → Int} {j : Nat} {z : Int} : z ∈ sfTo F j ↔ ∃ k, k < j ∧ F k ≠ 0 ∧ z = F k * ((k : Int) + 1) := by
  unfold sfTo
  rw [List.mem_flatMap]
  constructor
  · rintro ⟨k, hk, hz⟩
    by_cases h : F k = 0
    · rw [if_pos h] at hz; cases hz
    · rw [if_neg h] at hz
      exact ⟨k, by simpa using hk, h, by simpa using hz⟩
  · rintro ⟨k, hk, h, rfl⟩
    exact ⟨k, by simpa using hk, by rw [if_neg h]; simp⟩
def Three (F : Nat → Int) : Prop := ∀ k, F k = 0 ∨ F k = 1 ∨ F k = -1
theorem three_shc (l : List UInt8) : Three (shc l) := shc_range l
theorem sf_bd {F : Nat → Int} (hF : Three F) {z : Int} (h : z ∈ sfTo F 5) : -5 ≤ z ∧ z ≤ 5 := by
  obtain ⟨k, hk, _, rfl⟩ := mem_sfTo.1 h
  rcases hF k with e | e | e <;> rw [e] <;> omega
theorem keep_all {F : Nat → Int} (hF : Three F) (x : Int) : (sfTo F 5).all (agr x) = keepB F x := by
  rw [Bool.eq_iff_iff, List.all_eq_true, keepB_iff]
  constructor
  · intro h k hk
    rw [com_keep]
    rcases hF k with e | e | e
    · exact Or.inl e
    · right
      have := h (F k * ((k : Int) + 1)) (mem_sfTo.2 ⟨k, hk, by omega, rfl⟩)
      rw [e, Int.one_mul, agr_pos (by omega), show (k : Int) + 1 - 1 = k by omega] at this
      rw [e, sg_yes this]
    · right
      have := h (F k * ((k : Int) + 1)) (mem_sfTo.2 ⟨k, hk, by omega, rfl⟩)
      rw [e, show (-1 : Int) * ((k : Int) + 1) = -((k : Int) + 1) by omega, agr_neg (by omega), show -(-((k : Int) + 1)) - 1 = (k : Int) by omega] at this
      rw [e, sg_no (by simpa using this)]
  · intro h z hz
    obtain ⟨k, hk, h0, rfl⟩ := mem_sfTo.1 hz
    have hc := (com_keep F x k).1 (h k hk)
    rcases hc with hc | hc
    · exact absurd hc h0
    · rcases hF k with e | e | e
      · exact absurd e h0
      · rw [e, Int.one_mul, agr_pos (by omega), show (k : Int) + 1 - 1 = k by omega]
        cases hx : hasF x k
        · rw [sg_no hx] at hc; omega
        · rfl
      · rw [e, show (-1 : Int) * ((k : Int) + 1) = -((k : Int) + 1) by omega, agr_neg (by omega), show -(-((k : Int) + 1)) - 1 = (k : Int) by omega]
        cases hx : hasF x k
        · rfl
        · rw [sg_yes hx] at hc; omega
/-- A row of numbers of the call's own, read place by place. -/
theorem row_read {w : World} {base : Nat} {v : Value} {l : List Int} (h : w.ownsRow base 3 1 v l.length (cellsI l)) :
    ∃ A cap, v = .slice A l.length cap ∧ ∀ k, k < l.length → ∃ g, A = some ⟨g, 0, none⟩ ∧ w.cell? ⟨g, k, none⟩ = some (.int .i64 (l.getD k 0)) := by
  have hh := h
  rcases h.2 with ⟨rfl, hn⟩ | ⟨g, cap, cur, rfl, _⟩
  · exact ⟨none, 0, by rw [hn], fun k hk => by omega⟩
  · refine ⟨some ⟨g, 0, none⟩, cap, rfl, fun k hk => ⟨g, rfl, ?_⟩⟩
    have hc : (cellsI l).length = l.length := cellsI_len l
    rw [hh.cellAt k (by omega), cellsI_at l k hk]
theorem all_step (p : Int → Bool) (l : List Int) (k : Nat) (h : k < l.length) : (l.take (k + 1)).all p = ((l.take k).all p && p (l.getD k 0)) := by
  rw [List.take_add_one, List.getElem?_eq_getElem h, List.all_append]
  simp [h]
theorem specNc_no (s : ByteArray) (w : World) (hs : s.size ≤ maxLen) (hok : okCls s.data.toList = false) :
    Calls Tryd.prog 18 #[.string s] w fun e w' => e = .returned (.string ⟨(ncL s.data.toList).toArray⟩) ∧ Below w.heap.size w w' := by
  have HE := Lib.hid (ncL_out hok)
  have HM := Lib.hid hs
  by_cases h0 : s.size = 0
  · have he := isEmpty_yes h0
    clear hok h0 hs
    go_enter Tryd.func18, Tryd.ntmps18
    go_wp2_with fail
    refine (specSf_any _ _ HM.out).mono ?_
    rintro e w1 ⟨v, rfl, hown, hb1⟩
    have H1 := Lib.hid hb1
    clear hb1 hown
    go_wp2
    refine wp_loop_rounds 1 ?_
    rw [rounds_succ]
    go_wp2
    go_ret
    exact ⟨ret_str (by rw [HE.out]), H1.out⟩
  · have he := isEmpty_no (s := s) (by omega)
    have h2 : l2S s.data.toList = false := by
      rw [← okCls_l2 _ (ne_nil_of (by omega))]; exact hok
    clear hok h0 hs
    go_enter Tryd.func18, Tryd.ntmps18
    go_wp2_with fail
    refine (specSf_any _ _ HM.out).mono ?_
    rintro e w1 ⟨v, rfl, hown, hb1⟩
    have H1 := Lib.hid hb1
    clear hb1 hown
    go_wp2
    refine wp_loop_rounds 1 ?_
    rw [rounds_succ]
    go_wp2_with fail
    refine (specL2_any _ _ HM.out).mono ?_
    rintro e w2 ⟨rfl, rfl⟩
    go_wp2
    go_ret
    exact ⟨ret_str (by rw [HE.out]), H1.out⟩
set_option maxRecDepth 20000 in
set_option maxHeartbeats 2000000 in
theorem specNc_in (s : ByteArray) (w : World) (hs : s.size ≤ maxLen) (h0 : 0 < s.size) (hok : okCls s.data.toList = true) :
    Calls Tryd.prog 18 #[.string s] w fun e w' => e = .returned (.string ⟨(ncL s.data.toList).toArray⟩) ∧ Below w.heap.size w w' := by
  have HE := Lib.hid (ncL_in hok)
  have HS := Lib.hid (sfL_in hok)
  have HM := Lib.hid hs
  have he := isEmpty_no h0
  have h2 : l2S s.data.toList = true := by
    rw [← okCls_l2 _ (ne_nil_of h0)]; exact hok
  clear hok h0 hs
  go_enter Tryd.func18, Tryd.ntmps18
  go_wp2_with fail
  refine (specSf_any _ _ HM.out).mono ?_
  rintro e w1 ⟨v, rfl, hown, hb1⟩
  have H1 := Lib.hid hb1
  clear hb1
  have HN : Hid ((sfL s.data.toList).length ≤ 5) := by unfold Hid; rw [HS.out]; exact sfTo_len _ 5
  obtain ⟨A, cap, rfl, hrd⟩ := row_read hown
  have HR := Lib.hid hrd
  clear hown hrd
  generalize hn : (sfL s.data.toList).length = n at HN
  have HL := Lib.hid hn
  have hn5 : n ≤ 5 := HN.out
  clear hn
  go_wp2
  go_loopw [4, 5] (fun v i wr => ∃ (j : Nat), j ≤ 7 ∧ i = .int .i64 j ∧ v = .string ⟨(clsL (keepB (shc s.data.toList)) j).toArray⟩ ∧ Below w1.heap.size w1 wr) (fun _ i _ => 7 - (intOf i).toNat)
  case atStart => exact ⟨0, by omega, rfl, rfl, Below.refl _ _⟩
  case round =>
    obtain ⟨j, hj, rfl, rfl, hbe⟩ := hrel
    by_cases hlt : j < 7
    · obtain ⟨wo, rfl⟩ : ∃ wo : World, wo = wr := ⟨_, rfl⟩
      have HBE := Lib.hid hbe
      clear hbe
      go_wp2_with fail
      refine (specL2_any _ _ HM.out).mono ?_
      rintro e w2 ⟨rfl, rfl⟩
      go_wp2
      go_loopw [6, 7] (fun y i wr => ∃ (k : Nat), k ≤ n ∧ i = .int .i64 k ∧ y = .bool (((sfL s.data.toList).take k).all (agr (sndAt j))) ∧ Below w1.heap.size w1 wr) (fun _ i _ => n - (intOf i).toNat)
      case atStart => exact ⟨0, by omega, rfl, by simp, HBE.out⟩
      case round =>
        obtain ⟨k, hk, rfl, rfl, hbi⟩ := hrel
        by_cases hkl : k < n
        · obtain ⟨g, rfl, hc1⟩ := HR.out k (by rw [HL.out]; exact hkl)
          have hc := cell_kept hbi hc1
          have hst := Lib.hid (all_step (agr (sndAt j)) (sfL s.data.toList) k (by rw [HL.out]; exact hkl))
          have hzb : -5 ≤ (sfL s.data.toList).getD k 0 ∧ (sfL s.data.toList).getD k 0 ≤ 5 := by
            have hkl' : k < (sfL s.data.toList).length := by rw [HL.out]; exact hkl
            have hm : (sfL s.data.toList).getD k 0 ∈ sfL s.data.toList := by
              rw [List.getD_eq_getElem?_getD, List.getElem?_eq_getElem hkl']; exact List.getElem_mem hkl'
            rw [HS.out] at hm ⊢
            exact sf_bd (three_shc _) hm
          clear hc1
          generalize (sfL s.data.toList).getD k 0 = z at hc hst hzb
          generalize hy : ((sfL s.data.toList).take k).all (agr (sndAt j)) = y at hst
          obtain ⟨hz1, hz2⟩ := hzb
          have HBI := Lib.hid hbi
          have hr := snd_read j hlt
          have cH1 : ∀ q, Calls Tryd.prog 27 #[.int .u8 (sndAt j), .int .i64 (z - 1)] (wr.drewN q) fun e w'' => e = .returned (.bool (hasF (sndAt j) (z - 1))) ∧ ∃ m, w'' = wr.drewN m :=
            fun q => (specHas_any _ _ (wr.drewN q)).mono fun e w' h => ⟨h.1, q, h.2.symm⟩
          have cH2 : ∀ q, Calls Tryd.prog 27 #[.int .u8 (sndAt j), .int .i64 (-z - 1)] (wr.drewN q) fun e w'' => e = .returned (.bool (hasF (sndAt j) (-z - 1))) ∧ ∃ m, w'' = wr.drewN m :=
            fun q => (specHas_any _ _ (wr.drewN q)).mono fun e w' h => ⟨h.1, q, h.2.symm⟩
          clear hy hbi
          by_cases hzp : 0 < z
          · clear cH2
            have HP := Lib.hid (agr_pos (x := sndAt j) hzp)
            go_wp2
            cases y
            · go_quiet (exact cH1 _)
              go_wp2
              go_roundw
              case rel => exact ⟨k + 1, by omega, by go_num, by rw [hst.out, Bool.false_and], below_drewN HBI.out _⟩
              case measure => simp [intOf]; omega
            · go_quiet (exact cH1 _)
              go_wp2
              go_roundw
              case rel => exact ⟨k + 1, by omega, by go_num, by rw [hst.out, Bool.true_and, HP.out], below_drewN HBI.out _⟩
              case measure => simp [intOf]; omega
          · clear cH1
            have HP := Lib.hid (agr_neg (x := sndAt j) hzp)
            go_wp2
            cases y
            · go_quiet (exact cH2 _)
              go_wp2
              go_roundw
              case rel => exact ⟨k + 1, by omega, by go_num, by rw [hst.out, Bool.false_and], below_drewN HBI.out _⟩
              case measure => simp [intOf]; omega
            · go_quiet (exact cH2 _)
              go_wp2
              go_roundw
              case rel => exact ⟨k + 1, by omega, by go_num, by rw [hst.out, Bool.true_and, HP.out], below_drewN HBI.out _⟩
              case measure => simp [intOf]; omega
        · obtain rfl : k = n := by omega
          have hT : (sfL s.data.toList).take k = sfL s.data.toList := List.take_of_length_le (by rw [HL.out]; exact Nat.le_refl _)
          rw [hT, HS.out, keep_all (three_shc _)]
          clear hT
          have hsl := snd_slice j hlt
          have hadd := cls_add (keepB (shc s.data.toList)) j hlt
          have HBI := Lib.hid hbi
          clear hbi
          go_wp2
          · have hp : keepB (shc s.data.toList) (sndAt j) = true := by assumption
            go_roundw
            case rel =>
              refine ⟨j + 1, by omega, by go_num, ?_, HBI.out⟩
              rw [clsL_yes _ j hp]
            case measure => simp [intOf]; omega
          · have hp : keepB (shc s.data.toList) (sndAt j) = false := by assumption
            go_roundw
            case rel =>
              refine ⟨j + 1, by omega, by go_num, ?_, HBI.out⟩
              rw [clsL_no _ j hp]
            case measure => simp [intOf]; omega
    · obtain rfl : j = 7 := by omega
      go_wp2
      go_ret
      exact ⟨ret_str (by rw [HE.out]), H1.out.trans (hbe.mono H1.out.size)⟩
theorem specNc_any (s : ByteArray) (w : World) (hs : s.size ≤ maxLen) :
    Calls Tryd.prog 18 #[.string s] w fun e w' => e = .returned (.string ⟨(ncL s.data.toList).toArray⟩) ∧ Below w.heap.size w w' := by
  by_cases hok : okCls s.data.toList = true
  · have h0 : 0 < s.size := by
      rcases Nat.eq_zero_or_pos s.size with h | h
      · rw [ok_nil h] at hok; cases hok
      · exact h
    exact specNc_in s w hs h0 hok
  · exact specNc_no s w hs (by simpa using hok)
theorem specInc_any (s : ByteArray) (w : World) (hs : s.size ≤ maxLen) :
    Calls Tryd.prog 30 #[.string s] w fun e w' => e = .returned (.bool (!s.toList.isEmpty && (ncL s.data.toList == s.toList))) ∧ Below w.heap.size w w' := by
  have HM := Lib.hid hs
  clear hs
  go_enter Tryd.func30, Tryd.ntmps30
  go_wp2_with fail
  · rename_i hnil
    go_ret
    exact ⟨ret_bool (by simp [hnil]), Below.refl _ _⟩
  · refine (specNc_any s _ HM.out).mono ?_
    rintro e w1 ⟨rfl, hb1⟩
    have hne : s.toList.isEmpty = false := by simpa using ‹¬ s.toList = []›
    have H1 := Lib.hid hb1
    clear hb1
    go_wp2
    go_ret
    exact ⟨ret_bool (by rw [hne]; simp), H1.out⟩
end Go.Proofs.YtpcggbpfpicjiaaDoor
