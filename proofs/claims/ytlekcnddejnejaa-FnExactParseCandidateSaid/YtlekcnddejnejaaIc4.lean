/- The program's FormatCandidate: what it answers. -/
import Derived.Test.YtlekcnddejnejaaIc2
import Derived.Test.YtlekcnddejnejaaIc3
import Derived.Test.YtlekcnddejnejaaMc1
namespace Go.Proofs.Ytlekcnddejnejaa
open Go.RowKit M
set_option linter.unusedVariables false
set_option linter.unusedSimpArgs false

set_option maxHeartbeats 4000000 in
theorem implFmt_cd (x : DCandidate) (v : Value) (F : Addr → Prop) (w : World) (hl : x.Links.length ≤ 1048576) (hv : RowRd rLink false w v x.Links F) :
    Calls Try.prog 27 #[.agg #[v]] w fun e w' => e = .returned (.string ⟨(fmtC x.Links).toArray⟩) ∧ Below w.heap.size w w' := by
  have HS0 : Hid (∀ W, Below w.heap.size w W → Calls Try.prog 14 #[.agg #[v]] W fun e w' => e = .returned (.bool (isCd x.Links)) ∧ Below W.heap.size W w') := fun W hW => implIsCd_any x _ F W hl (hv.kept hW)
  obtain ⟨A, cap, rfl⟩ := hv.form
  have HV := Lib.hid hv
  clear hv
  have HE : Hid (fmtC x.Links = if isCd x.Links then (if x.Links = [] then noneB else ftC x.Links) else []) := rfl
  have HOKS : Hid (isCd x.Links = true → ∀ k y, x.Links[k]? = some y → okL y = true) := fun h k y hy => isCd_ok h (List.mem_of_getElem? hy)
  have HLE : Hid (isCd x.Links = true → x.Links.length ≤ 16) := isCd_len
  generalize isCd x.Links = c at *
  generalize fmtC x.Links = r at *
  generalize x.Links = l at *
  have HA : Hid (∀ o, Below w.heap.size w (w.alloc o)) := fun o => (Below.refl _ _).alloc (Nat.le_refl _) _
  have HA1 : Hid (InC (w.alloc (.cells #[.slice A l.length cap] 29)) w.heap.size #[.slice A l.length cap] 29) := heap_alloc_new _ _
  go_enter Try.func27, Try.ntmps27
  go_wp2_with fail
  refine (HS0.out _ (HA.out _)).mono ?_
  rintro e w2 ⟨rfl, hb⟩
  have hi1 := HA1.out.kept hb
  have b1 := hi1.cell 0 rfl
  have HI1 := Lib.hid hi1
  have HB : Hid (Below w.heap.size w w2) := below_step (HA.out _) hb
  have HSZ : Hid (w.heap.size + 1 ≤ w2.heap.size) := by have := hb.size; unfold Hid; simp at this; exact this
  clear hb hi1 HS0
  cases c
  · go_wp2_with fail
    go_ret
    exact ⟨ret_str (by rw [HE.out] <;> rfl), HB.out⟩
  · have h16 := HLE.out rfl
    have HOKY0 := Lib.hid (HOKS.out rfl)
    clear HOKS
    by_cases hl0 : l.length = 0
    · have hnil : l = [] := List.eq_nil_of_length_eq_zero hl0
      have HR : Hid (r = noneB) := by unfold Hid; rw [HE.out, if_pos rfl, if_pos hnil]
      subst hnil
      go_wp2_with fail
      go_ret
      exact ⟨ret_str (by rw [HR.out] <;> rfl), HB.out⟩
    · have HR : Hid (r = ftC l) := by unfold Hid; rw [HE.out, if_pos rfl, if_neg (fun e => hl0 (by rw [e]; rfl))]
      have hln : ¬ (l.length : Int) = 0 := by omega
      have hlb : ((l.length : Int) == 0) = false := by simpa using hl0
      have HX : Hid (∀ k, k < l.length → ∃ y, l[k]? = some y) := fun k hk => ⟨_, List.getElem?_eq_getElem hk⟩
      go_wp2_with fail
      go_loopw [3, 16] (fun u i wr => ∃ (k : Nat), k ≤ l.length ∧ i = .int .i64 k ∧ wr.ownsRow (w.heap.size + 1) 5 1 u (ftC (l.take k)).length (cellsB (ftC (l.take k))) ∧ Below w.heap.size w wr ∧ Hid (w.heap.size + 1 ≤ wr.heap.size) ∧ InC wr w.heap.size #[.slice A l.length cap] 29) (fun _ i _ => l.length - (intOf i).toNat)
      case atStart => exact ⟨0, by omega, rfl, World.ownsRow_nil _ _ _ _, HB.out, HSZ, HI1.out⟩
      case round =>
        obtain ⟨k, hk, rfl, ho, hbe, hs1, hi2⟩ := hrel
        have b2 := hi2.cell 0 rfl
        have HBE := Lib.hid hbe
        have HI2 := Lib.hid hi2
        clear hbe hi2
        by_cases hkl : k < l.length
        · obtain ⟨y, hy⟩ := HX.out k hkl
          obtain ⟨g, off, xs, Fk, rfl, _, hra, _, hca⟩ := (HV.out.kept HBE.out).get hy
          obtain rfl := rLink_rd hra
          rw [rLink_size] at hca
          have c0 := hca 0 _ rfl
          have c1 := hca 1 _ rfl
          simp only [Nat.add_zero] at c0
          have HST := Lib.hid (ftC_step hy)
          have hfl := ftC_len_take l k
          have HOKY := Lib.hid (HOKY0.out k y hy)
          clear hca hra hy
          have HAP : Hid (Calls Try.prog 47 #[.pointer (some ⟨wr.heap.size, 0, none⟩), _] (wr.alloc (.cells #[.int .u8 (y.In.toNat : Int), .int .u8 (y.Out.toNat : Int)] 42)) (AppPost (w.heap.size + 1) (ftC (l.take k) ++ ftK y) (wr.alloc (.cells #[.int .u8 (y.In.toNat : Int), .int .u8 (y.Out.toNat : Int)] 42)))) := implApp_any y wr.heap.size (w.heap.size + 1) _ (ftC (l.take k)) _ HOKY.out (heap_alloc_new _ _) (ho.alloc _) (by omega) (by simp; have := hs1.out; omega)
          clear ho hfl
          have HI3 : Hid (InC (wr.alloc (.cells #[.int .u8 (y.In.toNat : Int), .int .u8 (y.Out.toNat : Int)] 42)) w.heap.size #[.slice (some ⟨g, off, none⟩) l.length cap] 29) := HI2.out.kept ((Below.refl _ _).alloc (Nat.le_refl _) _)
          have HB3 : Hid (Below w.heap.size w (wr.alloc (.cells #[.int .u8 (y.In.toNat : Int), .int .u8 (y.Out.toNat : Int)] 42))) := HBE.out.alloc HBE.out.size _
          generalize (y.In.toNat : Int) = a at *
          generalize (y.Out.toNat : Int) = b at *
          go_wp2_with fail
          refine HAP.out.mono ?_
          rintro e w3 ⟨u', rfl, ho', hb', hk'⟩
          have HI4 : Hid (InC w3 w.heap.size #[.slice (some ⟨g, off, none⟩) l.length cap] 29) := hk' _ _ HI3.out (not5 (by decide))
          have HO4 := Lib.hid ho'
          have HB4 : Hid (Below w.heap.size w w3) := HB3.out.trans (hb'.mono (Nat.le_succ _))
          have HS4 : Hid (w.heap.size + 1 ≤ w3.heap.size) := by have := hb'.size; unfold Hid; simp at this; have := hs1.out; omega
          clear ho' hb' hk' HAP b2
          have b4 := HI4.out.cell 0 rfl
          go_wp2_with fail
          go_roundw
          case rel => exact ⟨k + 1, by omega, by go_num, by rw [HST.out]; exact HO4.out, HB4.out, HS4, HI4.out⟩
          case measure => simp [intOf]; omega
        · obtain rfl : k = l.length := by omega
          rw [List.take_length] at ho
          have hcv := conv_own ho
          clear ho
          go_wp2
          go_ret
          exact ⟨ret_str (by rw [HR.out]), HBE.out⟩
end Go.Proofs.Ytlekcnddejnejaa
