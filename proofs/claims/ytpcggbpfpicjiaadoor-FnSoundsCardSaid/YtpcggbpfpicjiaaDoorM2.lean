/- The model's SharedFeatures: what it answers. -/
import Derived.Test.YtpcggbpfpicjiaaDoorM1
import Derived.Test.YtpcggbpfpicjiaaDoorS7
namespace Go.Proofs.YtpcggbpfpicjiaaDoor
open Go.RowKit Go.Sort M

def cntF (l : List UInt8) (f : Nat) : Nat := (l.filter fun b => hasF (nb b) f).length
theorem cntF_le (l : List UInt8) (f : Nat) : cntF l f ≤ l.length := List.length_filter_le _ _
theorem cntF_yes (s : ByteArray) (f i : Nat) (h : i < s.size) (hx : hasF (s[i].toNat : Int) f = true) : cntF (s.data.toList.take (i + 1)) f = cntF (s.data.toList.take i) f + 1 := by
  have hx' : hasF (nb s[i]) f = true := hx
  unfold cntF; rw [all_take s i h, List.filter_append]; simp [hx']
theorem cntF_no (s : ByteArray) (f i : Nat) (h : i < s.size) (hx : hasF (s[i].toNat : Int) f = false) : cntF (s.data.toList.take (i + 1)) f = cntF (s.data.toList.take i) f := by
  have hx' : hasF (nb s[i]) f = false := hx
  unfold cntF; rw [all_take s i h, List.filter_append]; simp [hx']
theorem shv_all {l : List UInt8} {f : Nat} (h : cntF l f = l.length) : shv l f = 1 := by
  unfold cntF at h
  rw [List.length_filter_eq_length_iff] at h
  unfold shv
  rw [if_pos (List.all_eq_true.2 h)]
theorem shv_none {l : List UInt8} {f : Nat} (h0 : cntF l f ≠ l.length) (h : cntF l f = 0) : shv l f = -1 := by
  have hn : ¬ l.all (fun b => hasF (nb b) f) = true := fun ha => h0 (by unfold cntF; exact List.length_filter_eq_length_iff.2 (List.all_eq_true.1 ha))
  have hz : l.all (fun b => !hasF (nb b) f) = true := by
    unfold cntF at h
    rw [List.length_eq_zero_iff, List.filter_eq_nil_iff] at h
    rw [List.all_eq_true]
    intro b hb
    have := h b hb
    simpa using this
  unfold shv
  rw [if_neg hn, if_pos hz]
theorem shv_some {l : List UInt8} {f : Nat} (h0 : cntF l f ≠ l.length) (h : cntF l f ≠ 0) : shv l f = 0 := by
  have hn : ¬ l.all (fun b => hasF (nb b) f) = true := fun ha => h0 (by unfold cntF; exact List.length_filter_eq_length_iff.2 (List.all_eq_true.1 ha))
  have hz : ¬ l.all (fun b => !hasF (nb b) f) = true := fun ha => h (by
    unfold cntF
    rw [List.length_eq_zero_iff, List.filter_eq_nil_iff]
    intro b hb
    have := List.all_eq_true.1 ha b hb
    simpa using this)
  unfold shv
  rw [if_neg hn, if_neg hz]
theorem shc_in {l : List UInt8} (h : okCls l = true) : shc l = shv l := by funext k; unfold shc; rw [if_pos h]
theorem own_empty (w : World) : (w.alloc (.cells #[] 3)).ownsRow w.heap.size 3 1 (.slice (some ⟨w.heap.size, 0, none⟩) 0 0) ([] : List Int).length (cellsI []) :=
  ⟨rfl, Or.inr ⟨w.heap.size, 0, #[], rfl, Nat.le_refl _, heap_alloc_new _ _, Nat.le_refl _, Nat.zero_le _, rfl, rfl⟩⟩
theorem specSf_no (s : ByteArray) (w : World) (hs : s.size ≤ maxLen) (hok : okCls s.data.toList = false) :
    Calls Tryd.prog 22 #[.string s] w (RowPost (sfL s.data.toList) w) := by
  have HE := Lib.hid (sfL_out hok)
  by_cases h0 : s.size = 0
  · have he := isEmpty_yes h0
    clear hok
    go_enter Tryd.func22, Tryd.ntmps22
    go_wp2
    go_ret
    exact ⟨_, rfl, by rw [HE.out]; exact own_empty w, (Below.refl _ _).alloc (Nat.le_refl _) _⟩
  · have he := isEmpty_no (s := s) (by omega)
    have h2 : l2S s.data.toList = false := by
      rw [← okCls_l2 _ (ne_nil_of (by omega))]; exact hok
    clear hok h0
    go_enter Tryd.func22, Tryd.ntmps22
    go_wp2_with fail
    refine (specL2_any _ _ hs).mono ?_
    rintro e w2 ⟨rfl, rfl⟩
    go_wp2
    go_ret
    exact ⟨_, rfl, by rw [HE.out]; exact own_empty w, (Below.refl _ _).alloc (Nat.le_refl _) _⟩
set_option maxRecDepth 20000 in
set_option maxHeartbeats 2000000 in
theorem specSf_in (s : ByteArray) (w : World) (h0 : 0 < s.size) (hs : s.size ≤ 20) (hok : okCls s.data.toList = true) :
    Calls Tryd.prog 22 #[.string s] w (RowPost (sfL s.data.toList) w) := by
  have HE : Hid (sfL s.data.toList = sfTo (shv s.data.toList) 5) := by unfold Hid; rw [sfL_in hok, shc_in hok]
  have he := isEmpty_no h0
  have h2 : l2S s.data.toList = true := by rw [← okCls_l2 _ (ne_nil_of h0)]; exact hok
  have hl : Hid (s.data.toList.length = s.size) := by simp [Hid]
  have hsm : s.size ≤ maxLen := by unfold maxLen; omega
  have HM := Lib.hid hsm
  clear hok hsm
  go_enter Tryd.func22, Tryd.ntmps22
  go_wp2_with fail
  refine (specL2_any _ _ HM.out).mono ?_
  rintro e w2 ⟨rfl, rfl⟩
  go_wp2
  go_loopw [3, 4] (fun v i wr => ∃ (f : Nat), f ≤ 5 ∧ i = .int .i64 f ∧ (wr.ownsRow w.heap.size 3 1 v (sfTo (shv s.data.toList) f).length (cellsI (sfTo (shv s.data.toList) f))) ∧ Below w.heap.size w wr) (fun _ i _ => 5 - (intOf i).toNat)
  case atStart => exact ⟨0, by omega, rfl, own_empty w, (Below.refl _ _).alloc (Nat.le_refl _) _⟩
  case round =>
    obtain ⟨f, hf, rfl, hown, hbe⟩ := hrel
    by_cases hlt : f < 5
    · obtain ⟨wo, rfl⟩ : ∃ wo : World, wo = wr := ⟨_, rfl⟩
      have hf4 : (f : Int) ≤ 4 := by omega
      have HOWN := Lib.hid hown
      have HBE := Lib.hid hbe
      clear hown hbe
      go_wp2
      go_loop [5, 6] (fun n i => ∃ (j : Nat), j ≤ s.size ∧ i = .int .i64 j ∧ n = .int .i64 (cntF (s.data.toList.take j) f) ∧ cntF (s.data.toList.take j) f ≤ 20) (fun _ i => s.size - (intOf i).toNat)
      case atStart => exact ⟨0, by omega, rfl, by simp [cntF], by simp [cntF]⟩
      case round =>
        obtain ⟨j, hj, rfl, rfl, hc20⟩ := hrel
        by_cases hjl : j < s.size
        · go_wp2_with (go_at_call 27; refine (specHas_any _ _ _).mono ?_; rintro e w1 ⟨rfl, rfl⟩)
          · have hx : hasF (s[j].toNat : Int) f = true := by assumption
            have he1 := cntF_yes s f j hjl hx
            have hle := cntF_le (s.data.toList.take (j + 1)) f
            rw [List.length_take] at hle
            go_round
            case rel => exact ⟨j + 1, by omega, by go_num, by rw [he1]; go_num, by omega⟩
            case measure => simp [intOf]; omega
          · have hx : hasF (s[j].toNat : Int) f = false := by assumption
            have he1 := cntF_no s f j hjl hx
            go_round
            case rel => exact ⟨j + 1, by omega, by go_num, by rw [he1], by omega⟩
            case measure => simp [intOf]; omega
        · obtain rfl : j = s.size := by omega
          have hlen : (sfTo (shv s.data.toList) f).length ≤ 1000000000 := by have := sfTo_len (shv s.data.toList) f; omega
          have hown := HOWN.out
          have hbe := HBE.out
          have hT : s.data.toList.take s.size = s.data.toList := List.take_of_length_le (by rw [hl.out]; exact Nat.le_refl _)
          rw [hT] at hc20
          rw [hT]
          clear hT
          generalize hc : cntF s.data.toList f = c at hc20
          have HC := Lib.hid hc
          clear hc
          by_cases ha : c = s.size
          · have q1 : ((c : Int) == (s.size : Int)) = true := by simp [ha]
            have q2 : ((c : Int) == 0) = false := by simp; omega
            have HF : Hid (shv s.data.toList f = 1) := shv_all (by rw [HC.out, ha, hl.out])
            clear ha
            go_wp2_with (at_builtin; refine wpList_append_int _ rfl (.tmp 37) (.tmp 40) rfl w.heap.size _ _ _ rfl hown _ rfl hlen hbe.size ?_; intro v' w' hown' hb')
            go_roundw
            case rel =>
              refine ⟨f + 1, by omega, by go_num, ?_, hbe.trans hb'⟩
              rw [sfTo_yes _ f (by rw [HF.out]; omega), List.length_append, List.length_singleton, HF.out, Int.one_mul]
              exact hown'
            case measure => simp [intOf]; omega
          · have q1 : ((c : Int) == (s.size : Int)) = false := by simp; omega
            have HA := Lib.hid ha
            clear ha
            by_cases hz : c = 0
            · have q2 : ((c : Int) == 0) = true := by simp [hz]
              have HF : Hid (shv s.data.toList f = -1) := shv_none (by rw [HC.out, hl.out]; exact HA.out) (by rw [HC.out, hz])
              clear hz
              go_wp2_with (at_builtin; refine wpList_append_int _ rfl (.tmp 44) (.tmp 48) rfl w.heap.size _ _ _ rfl hown _ rfl hlen hbe.size ?_; intro v' w' hown' hb')
              go_roundw
              case rel =>
                refine ⟨f + 1, by omega, by go_num, ?_, hbe.trans hb'⟩
                rw [sfTo_yes _ f (by rw [HF.out]; omega), List.length_append, List.length_singleton, HF.out, show (-1 : Int) * ((f : Int) + 1) = -(f : Int) - 1 by omega]
                exact hown'
              case measure => simp [intOf]; omega
            · have q2 : ((c : Int) == 0) = false := by simp; omega
              have HF : Hid (shv s.data.toList f = 0) := shv_some (by rw [HC.out, hl.out]; exact HA.out) (by rw [HC.out]; exact hz)
              clear hz
              go_wp2
              go_roundw
              case rel =>
                refine ⟨f + 1, by omega, by go_num, ?_, hbe⟩
                rw [sfTo_no _ f HF.out]
                exact hown
              case measure => simp [intOf]; omega
    · obtain rfl : f = 5 := by omega
      go_wp2
      go_ret
      exact ⟨_, rfl, by rw [HE.out]; exact hown, hbe⟩
theorem specSf_any (s : ByteArray) (w : World) (hs : s.size ≤ maxLen) :
    Calls Tryd.prog 22 #[.string s] w (RowPost (sfL s.data.toList) w) := by
  by_cases hok : okCls s.data.toList = true
  · have h0 : 0 < s.size := by
      rcases Nat.eq_zero_or_pos s.size with h | h
      · rw [ok_nil h] at hok; cases hok
      · exact h
    have h20 : s.size ≤ 20 := by
      by_cases h : s.size ≤ 20
      · exact h
      · rw [ok_long (by omega)] at hok; cases hok
    exact specSf_in s w h0 h20 hok
  · exact specSf_no s w hs (by simpa using hok)
end Go.Proofs.YtpcggbpfpicjiaaDoor
