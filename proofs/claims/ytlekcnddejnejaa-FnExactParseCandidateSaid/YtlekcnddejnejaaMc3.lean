/- The model's FormatCandidate: what it answers. -/
import Derived.Test.YtlekcnddejnejaaMc2
import Derived.Test.YtlekcnddejnejaaCv
namespace Go.Proofs.Ytlekcnddejnejaa
open Go.RowKit M
set_option linter.unusedVariables false
set_option linter.unusedSimpArgs false

theorem cat_str (l m : List UInt8) (h : (l ++ m).length ≤ 1000000000) : ∀ w : World, (Op.stringOp .add ⟨l.toArray⟩ ⟨m.toArray⟩).run Try.prog w = .ok (.string ⟨(l ++ m).toArray⟩) w := by
  intro w
  have hm : maxLen = 9223372036854775807 := rfl
  have hz : (⟨l.toArray⟩ : ByteArray).size + (⟨m.toArray⟩ : ByteArray).size ≤ 1000000000 := by simpa [ByteArray.size] using h
  rw [run_string_add_sum _ _ _ (by omega)]
  congr 2
theorem conv_box (w : World) (o : Obj) (u : Int) : (convert 58 9 (.slice (some ⟨w.heap.size + 1, 0, none⟩) 1 1)).run Try.prog ((w.alloc o).alloc (.cells #[.int .u8 u] 5)) = .ok (.string ⟨[byt u].toArray⟩) ((w.alloc o).alloc (.cells #[.int .u8 u] 5)) := by
  have h := conv_one (w.alloc o) u
  have hs : (w.alloc o).heap.size = w.heap.size + 1 := by simp
  rw [hs] at h
  exact h
theorem bytes_some {s : ByteArray} (h : 0 < s.size) : s.toList.isEmpty = false := by
  rw [Lib.toList_data]
  cases e : s.data.toList with
  | nil => have := congrArg List.length e; simp at this; exact absurd h (by rw [show s.size = s.data.size from rfl, this]; simp)
  | cons _ _ => rfl
set_option maxHeartbeats 4000000 in
theorem specFmt_cd (x : DCandidate) (v : Value) (F : Addr → Prop) (w : World) (hl : x.Links.length ≤ 1048576) (hv : RowRd rLink false w v x.Links F) :
    Calls Try.prog 26 #[.agg #[v]] w fun e w' => e = .returned (.string ⟨(fmtC x.Links).toArray⟩) ∧ Below w.heap.size w w' := by
  have HS0 : Hid (∀ W, Below w.heap.size w W → Calls Try.prog 12 #[.agg #[v]] W fun e w' => e = .returned (.bool (isCd x.Links)) ∧ Below W.heap.size W w') := fun W hW => specIsCd_any x _ F W hl (hv.kept hW)
  obtain ⟨A, cap, rfl⟩ := hv.form
  have HV := Lib.hid hv
  clear hv
  have HE : Hid (fmtC x.Links = if isCd x.Links then (if x.Links = [] then noneB else ftC x.Links) else []) := rfl
  have HLE : Hid (isCd x.Links = true → x.Links.length ≤ 16) := isCd_len
  generalize isCd x.Links = c at *
  generalize fmtC x.Links = r at *
  generalize x.Links = l at *
  have HA : Hid (∀ o, Below w.heap.size w (w.alloc o)) := fun o => (Below.refl _ _).alloc (Nat.le_refl _) _
  have HA1 : Hid (InC (w.alloc (.cells #[.slice A l.length cap] 29)) w.heap.size #[.slice A l.length cap] 29) := heap_alloc_new _ _
  go_enter Try.func26, Try.ntmps26
  go_wp2_with fail
  refine (HS0.out _ (HA.out _)).mono ?_
  rintro e w2 ⟨rfl, hb⟩
  have hi1 := HA1.out.kept hb
  have b1 := hi1.cell 0 rfl
  have HI1 := Lib.hid hi1
  have HB : Hid (Below w.heap.size w w2) := below_step (HA.out _) hb
  clear hb hi1 HS0
  cases c
  · go_wp2_with fail
    go_ret
    exact ⟨ret_str (by rw [HE.out] <;> rfl), HB.out⟩
  · have h16 := HLE.out rfl
    have HE2 : Hid (r = if l = [] then noneB else ftC l) := by unfold Hid; rw [HE.out, if_pos rfl]
    clear HE
    have HX : Hid (∀ k, k < l.length → ∃ y, l[k]? = some y) := fun k hk => ⟨_, List.getElem?_eq_getElem hk⟩
    go_wp2_with fail
    go_loopw [3, 4] (fun u i wr => ∃ (k : Nat), k ≤ l.length ∧ i = .int .i64 k ∧ u = .string ⟨(ftC (l.take k)).toArray⟩ ∧ Below w.heap.size w wr ∧ InC wr w.heap.size #[.slice A l.length cap] 29) (fun _ i _ => l.length - (intOf i).toNat)
    case atStart => exact ⟨0, by omega, rfl, rfl, HB.out, HI1.out⟩
    case round =>
      obtain ⟨k, hk, rfl, rfl, hbe, hi2⟩ := hrel
      have b2 := hi2.cell 0 rfl
      have HBE := Lib.hid hbe
      have HI2 := Lib.hid hi2
      clear hbe hi2
      by_cases hkl : k < l.length
      · obtain ⟨y, hy⟩ := HX.out k hkl
        obtain ⟨g, off, xs, Fk, rfl, _, hra, _, hca⟩ := (HV.out.kept HBE.out).get hy
        obtain rfl := rLink_rd hra
        rw [rLink_size] at hca
        have c0 := hca 0 _ rfl
        have c1 := hca 1 _ rfl
        simp only [Nat.add_zero] at c0
        have HST := Lib.hid (ftC_step hy)
        have hfl := ftC_len_take l k
        have HSM : Hid ((y.In.toNat : Int) = (y.Out.toNat : Int) → ftK y = [byt (y.In.toNat : Int)]) := ft_same
        have HPU : Hid (¬ (y.In.toNat : Int) = (y.Out.toNat : Int) → (y.In.toNat : Int) = 0 → ftK y = [43, byt (y.Out.toNat : Int)]) := fun h h0 => ft_put h h0
        have HAW : Hid (¬ (y.In.toNat : Int) = 0 → (y.Out.toNat : Int) = 0 → ftK y = [45, byt (y.In.toNat : Int)]) := fun h h0 => ft_away h h0
        have HVO : Hid (¬ (y.In.toNat : Int) = (y.Out.toNat : Int) → ¬ (y.In.toNat : Int) = 0 → ¬ (y.Out.toNat : Int) = 0 → ftK y = [42, byt (y.In.toNat : Int)]) := fun h h1 h2 => ft_voice h h1 h2
        clear hca hra hy
        generalize ftC (l.take k) = T at *
        generalize ftK y = r2 at *
        generalize (y.In.toNat : Int) = a at *
        generalize (y.Out.toNat : Int) = b at *
        have HB3 : Hid (∀ o q, Below w.heap.size w ((wr.alloc o).alloc q)) := fun o q => (HBE.out.alloc HBE.out.size _).alloc (by simp; have := HBE.out.size; omega) _
        have HI3 : Hid (∀ o q, InC ((wr.alloc o).alloc q) w.heap.size #[.slice (some ⟨g, off, none⟩) l.length cap] 29) := fun o q => HI2.out.kept (((Below.refl _ _).alloc (Nat.le_refl _) _).alloc (by simp) _)
        have kc : ∀ u, (convert 58 9 (.slice (some ⟨wr.heap.size + 1, 0, none⟩) 1 1)).run Try.prog ((wr.alloc (.cells #[.int .u8 a, .int .u8 b] 42)).alloc (.cells #[.int .u8 u] 5)) = .ok (.string ⟨[byt u].toArray⟩) ((wr.alloc (.cells #[.int .u8 a, .int .u8 b] 42)).alloc (.cells #[.int .u8 u] 5)) := fun u => conv_box wr _ u
        by_cases hab : a = b
        · have HR := Lib.hid (HSM.out hab)
          subst hab
          have s1 := cat_str T [byt a] (by simp; omega)
          go_wp2
          go_roundw
          case rel => exact ⟨k + 1, by omega, by go_num, by rw [HST.out, HR.out], HB3.out _ _, HI3.out _ _⟩
          case measure => simp [intOf]; omega
        by_cases ha : a = 0
        · have HR := Lib.hid (HPU.out hab ha)
          subst ha
          have s1 := cat_str T [43] (by simp; omega)
          have s2 := cat_str (T ++ [43]) [byt b] (by simp; omega)
          go_wp2
          go_roundw
          case rel => exact ⟨k + 1, by omega, by go_num, by rw [HST.out, HR.out] <;> simp, HB3.out _ _, HI3.out _ _⟩
          case measure => simp [intOf]; omega
        by_cases hb : b = 0
        · have HR := Lib.hid (HAW.out ha hb)
          subst hb
          have s1 := cat_str T [45] (by simp; omega)
          have s2 := cat_str (T ++ [45]) [byt a] (by simp; omega)
          go_wp2
          go_roundw
          case rel => exact ⟨k + 1, by omega, by go_num, by rw [HST.out, HR.out] <;> simp, HB3.out _ _, HI3.out _ _⟩
          case measure => simp [intOf]; omega
        have HR := Lib.hid (HVO.out hab ha hb)
        have s1 := cat_str T [42] (by simp; omega)
        have s2 := cat_str (T ++ [42]) [byt a] (by simp; omega)
        go_wp2
        go_roundw
        case rel => exact ⟨k + 1, by omega, by go_num, by rw [HST.out, HR.out] <;> simp, HB3.out _ _, HI3.out _ _⟩
        case measure => simp [intOf]; omega
      · obtain rfl : k = l.length := by omega
        rw [List.take_length]
        by_cases hnil : l = []
        · have HR : Hid (r = noneB) := by unfold Hid; rw [HE2.out, if_pos hnil]
          subst hnil
          go_wp2
          go_ret
          exact ⟨ret_str (by rw [HR.out] <;> rfl), HBE.out⟩
        · have HR : Hid (r = ftC l) := by unfold Hid; rw [HE2.out, if_neg hnil]
          have hq : (⟨(ftC l).toArray⟩ : ByteArray).toList.isEmpty = false := bytes_some (by have := List.length_pos_iff.2 (fun e => hnil (ftC_nil.1 e)); simpa [ByteArray.size] using this)
          have HRS : Hid ((⟨(ftC l).toArray⟩ : ByteArray) = ⟨r.toArray⟩) := by unfold Hid; rw [HR.out]
          generalize (⟨(ftC l).toArray⟩ : ByteArray) = S at *
          go_wp2
          go_ret
          exact ⟨ret_str HRS.out, HBE.out⟩
end Go.Proofs.Ytlekcnddejnejaa
