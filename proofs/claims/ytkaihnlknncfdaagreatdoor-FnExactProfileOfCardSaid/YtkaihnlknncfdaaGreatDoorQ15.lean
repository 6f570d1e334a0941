/- Merged: Ic4a Fp11 FormatRowWalk Pg10 Tt9 TmCandidate ProfileOfWalk. -/
import Derived.Test.YtkaihnlknncfdaaGreatDoorQ7
import Derived.Test.YtkaihnlknncfdaaGreatDoorQ14
import Derived.Test.YtkaihnlknncfdaaGreatDoorQ4
import Derived.Test.YtkaihnlknncfdaaGreatDoorQ12
import Derived.Test.YtkaihnlknncfdaaGreatDoorLj
import Derived.Test.YtkaihnlknncfdaaGreatDoorQ9
import Derived.Test.YtkaihnlknncfdaaGreatDoorQ10
import Derived.Test.YtkaihnlknncfdaaGreatDoorQ11
import Derived.Deep.RegionWith
import Derived.Deep.DeepCutAuto
import Derived.Test.YtkaihnlknncfdaaGreatDoorQ8
import Derived.Deep.RegionHeld3
import Derived.Test.YtkaihnlknncfdaaGreatDoorQ1
import Derived.Test.YtkaihnlknncfdaaGreatDoorQ13
import Derived.WalkKit
import Derived.BigQuiet
import Derived.Lib.QuietBelow
import Derived.Test.YtkaihnlknncfdaaGreatDoorRows
/- The program's FormatCandidate: what it answers. -/
namespace Go.Proofs.YtkaihnlknncfdaaGreatDoor
set_option maxRecDepth 100000
open Go.RowKit M
set_option linter.unusedVariables false
set_option linter.unusedSimpArgs false

set_option maxHeartbeats 4000000 in
theorem implFmt_cd (x : DCandidate) (v : Value) (F : Addr → Prop) (w : World) (hl : x.Links.length ≤ 1048576) (hv : RowRd rLink false w v x.Links F) :
    Calls Tryz.prog 99 #[.agg #[v]] w fun e w' => e = .returned (.string ⟨(fmtC x.Links).toArray⟩) ∧ Below w.heap.size w w' := by
  have HS0 : Hid (∀ W, Below w.heap.size w W → Calls Tryz.prog 80 #[.agg #[v]] W fun e w' => e = .returned (.bool (isCd x.Links)) ∧ Below W.heap.size W w') := fun W hW => implIsCd_any x _ F W hl (hv.kept hW)
  obtain ⟨A, cap, rfl⟩ := hv.form
  have HV := Lib.hid hv
  clear hv
  have HE : Hid (fmtC x.Links = if isCd x.Links then (if x.Links = [] then noneB else ftC x.Links) else []) := rfl
  have HOKS : Hid (isCd x.Links = true → ∀ k y, x.Links[k]? = some y → okL y = true) := fun h k y hy => isCd_ok h (List.mem_of_getElem? hy)
  have HLE : Hid (isCd x.Links = true → x.Links.length ≤ 16) := isCd_len
  generalize isCd x.Links = c at *
  generalize fmtC x.Links = r at *
  generalize x.Links = l at *
  have HA : Hid (∀ o, Below w.heap.size w (w.alloc o)) := fun o => (Below.refl _ _).alloc (Nat.le_refl _) _
  have HA1 : Hid (InC (w.alloc (.cells #[.slice A l.length cap] 55)) w.heap.size #[.slice A l.length cap] 55) := heap_alloc_new _ _
  go_enter Tryz.func99, Tryz.ntmps99
  go_wp2_with fail
  refine (HS0.out _ (HA.out _)).mono ?_
  rintro e w2 ⟨rfl, hb⟩
  have hi1 := HA1.out.kept hb
  have b1 := hi1.cell 0 rfl
  have HI1 := Lib.hid hi1
  have HB : Hid (Below w.heap.size w w2) := below_step (HA.out _) hb
  have HSZ : Hid (w.heap.size + 1 ≤ w2.heap.size) := by have := hb.size; unfold Hid; simp at this; exact this
  clear hb hi1 HS0
  cases c
  · go_wp2_with fail
    go_ret
    exact ⟨ret_str (by rw [HE.out] <;> rfl), HB.out⟩
  · have h16 := HLE.out rfl
    have HOKY0 := Lib.hid (HOKS.out rfl)
    clear HOKS
    by_cases hl0 : l.length = 0
    · have hnil : l = [] := List.eq_nil_of_length_eq_zero hl0
      have HR : Hid (r = noneB) := by unfold Hid; rw [HE.out, if_pos rfl, if_pos hnil]
      subst hnil
      go_wp2_with fail
      go_ret
      exact ⟨ret_str (by rw [HR.out] <;> rfl), HB.out⟩
    · have HR : Hid (r = ftC l) := by unfold Hid; rw [HE.out, if_pos rfl, if_neg (fun e => hl0 (by rw [e]; rfl))]
      have hln : ¬ (l.length : Int) = 0 := by omega
      have hlb : ((l.length : Int) == 0) = false := by simpa using hl0
      have HX : Hid (∀ k, k < l.length → ∃ y, l[k]? = some y) := fun k hk => ⟨_, List.getElem?_eq_getElem hk⟩
      go_wp2_with fail
      go_loopw [3, 16] (fun u i wr => ∃ (k : Nat), k ≤ l.length ∧ i = .int .i64 k ∧ wr.ownsRow (w.heap.size + 1) 5 1 u (ftC (l.take k)).length (cellsB (ftC (l.take k))) ∧ Below w.heap.size w wr ∧ Hid (w.heap.size + 1 ≤ wr.heap.size) ∧ InC wr w.heap.size #[.slice A l.length cap] 55) (fun _ i _ => l.length - (intOf i).toNat)
      case atStart => exact ⟨0, by omega, rfl, World.ownsRow_nil _ _ _ _, HB.out, HSZ, HI1.out⟩
      case round =>
        obtain ⟨k, hk, rfl, ho, hbe, hs1, hi2⟩ := hrel
        have b2 := hi2.cell 0 rfl
        have HBE := Lib.hid hbe
        have HI2 := Lib.hid hi2
        clear hbe hi2
        by_cases hkl : k < l.length
        · obtain ⟨y, hy⟩ := HX.out k hkl
          obtain ⟨g, off, xs, Fk, rfl, _, hra, _, hca⟩ := (HV.out.kept HBE.out).get hy
          obtain rfl := rLink_rd hra
          rw [rLink_size] at hca
          have c0 := hca 0 _ rfl
          have c1 := hca 1 _ rfl
          simp only [Nat.add_zero] at c0
          have HST := Lib.hid (ftC_step hy)
          have hfl := ftC_len_take l k
          have HOKY := Lib.hid (HOKY0.out k y hy)
          clear hca hra hy
          have HAP : Hid (Calls Tryz.prog 136 #[.pointer (some ⟨wr.heap.size, 0, none⟩), _] (wr.alloc (.cells #[.int .u8 (y.In.toNat : Int), .int .u8 (y.Out.toNat : Int)] 118)) (AppPost (w.heap.size + 1) (ftC (l.take k) ++ ftK y) (wr.alloc (.cells #[.int .u8 (y.In.toNat : Int), .int .u8 (y.Out.toNat : Int)] 118)))) := implApp_any y wr.heap.size (w.heap.size + 1) _ (ftC (l.take k)) _ HOKY.out (heap_alloc_new _ _) (ho.alloc _) (by omega) (by simp; have := hs1.out; omega)
          clear ho hfl
          have HI3 : Hid (InC (wr.alloc (.cells #[.int .u8 (y.In.toNat : Int), .int .u8 (y.Out.toNat : Int)] 118)) w.heap.size #[.slice (some ⟨g, off, none⟩) l.length cap] 55) := HI2.out.kept ((Below.refl _ _).alloc (Nat.le_refl _) _)
          have HB3 : Hid (Below w.heap.size w (wr.alloc (.cells #[.int .u8 (y.In.toNat : Int), .int .u8 (y.Out.toNat : Int)] 118))) := HBE.out.alloc HBE.out.size _
          generalize (y.In.toNat : Int) = a at *
          generalize (y.Out.toNat : Int) = b at *
          go_wp2_with fail
          refine HAP.out.mono ?_
          rintro e w3 ⟨u', rfl, ho', hb', hk'⟩
          have HI4 : Hid (InC w3 w.heap.size #[.slice (some ⟨g, off, none⟩) l.length cap] 55) := hk' _ _ HI3.out (not5 (by decide))
          have HO4 := Lib.hid ho'
          have HB4 : Hid (Below w.heap.size w w3) := HB3.out.trans (hb'.mono (Nat.le_succ _))
          have HS4 : Hid (w.heap.size + 1 ≤ w3.heap.size) := by have := hb'.size; unfold Hid; simp at this; have := hs1.out; omega
          clear ho' hb' hk' HAP b2
          have b4 := HI4.out.cell 0 rfl
          go_wp2_with fail
          go_roundw
          case rel => exact ⟨k + 1, by omega, by go_num, by rw [HST.out]; exact HO4.out, HB4.out, HS4, HI4.out⟩
          case measure => simp [intOf]; omega
        · obtain rfl : k = l.length := by omega
          rw [List.take_length] at ho
          have hcv := conv_own ho
          clear ho
          go_wp2
          go_ret
          exact ⟨ret_str (by rw [HR.out]), HBE.out⟩
end Go.Proofs.YtkaihnlknncfdaaGreatDoor

/- The program's FormatRow: what it answers. -/
namespace Go.Proofs.YtkaihnlknncfdaaGreatDoor
set_option maxRecDepth 100000
open Go.RowKit Go.Sort M Go.Lib
set_option linter.unusedVariables false
set_option linter.unusedSimpArgs false

theorem Tryz.infoTStr11 : (Tryz.prog.info? 9).map (fun i => (i.zero, i.size, i.bytes)) = some (some (.string ⟨#[]⟩), 1, 16) := by kernel_rfl
theorem implItoaZ_any (z : Int) (w : World) (h0 : 0 ≤ z) (h1 : z ≤ 16) : Calls Tryz.prog 177 #[.int .i64 z] w fun e w' => e = .returned (.string (itoaB z)) ∧ Below w.heap.size w w' := by
  have e1 : ∀ m : Nat, m < 10 → itoaB (m : Int) = ⟨#[UInt8.ofNat (48 + m)]⟩ := fun m hm => by unfold itoaB; rw [itoa_nonneg, decDigits_one hm]
  have e2 : ∀ m : Nat, ¬ m < 10 → m < 100 → itoaB (m : Int) = ⟨#[UInt8.ofNat (48 + m / 10), UInt8.ofNat (48 + m % 10)]⟩ := fun m hm hm2 => by unfold itoaB; rw [itoa_nonneg, decDigits_two hm hm2]
  obtain rfl | rfl | rfl | rfl | rfl | rfl | rfl | rfl | rfl | rfl | rfl | rfl | rfl | rfl | rfl | rfl | rfl : z = 0 ∨ z = 1 ∨ z = 2 ∨ z = 3 ∨ z = 4 ∨ z = 5 ∨ z = 6 ∨ z = 7 ∨ z = 8 ∨ z = 9 ∨ z = 10 ∨ z = 11 ∨ z = 12 ∨ z = 13 ∨ z = 14 ∨ z = 15 ∨ z = 16 := by omega
  · have E : itoaB 0 = _ := e1 0 (by omega)
    have HE := Lib.hid E
    clear E e1 e2
    go_enter Tryz.func177, Tryz.ntmps177
    go_wp2
    go_ret
    exact ⟨ret_str (by rw [HE.out]; rfl), Below.refl _ _⟩
  · have E : itoaB 1 = _ := e1 1 (by omega)
    have HE := Lib.hid E
    clear E e1 e2
    go_enter Tryz.func177, Tryz.ntmps177
    go_wp2
    go_ret
    exact ⟨ret_str (by rw [HE.out]; rfl), Below.refl _ _⟩
  · have E : itoaB 2 = _ := e1 2 (by omega)
    have HE := Lib.hid E
    clear E e1 e2
    go_enter Tryz.func177, Tryz.ntmps177
    go_wp2
    go_ret
    exact ⟨ret_str (by rw [HE.out]; rfl), Below.refl _ _⟩
  · have E : itoaB 3 = _ := e1 3 (by omega)
    have HE := Lib.hid E
    clear E e1 e2
    go_enter Tryz.func177, Tryz.ntmps177
    go_wp2
    go_ret
    exact ⟨ret_str (by rw [HE.out]; rfl), Below.refl _ _⟩
  · have E : itoaB 4 = _ := e1 4 (by omega)
    have HE := Lib.hid E
    clear E e1 e2
    go_enter Tryz.func177, Tryz.ntmps177
    go_wp2
    go_ret
    exact ⟨ret_str (by rw [HE.out]; rfl), Below.refl _ _⟩
  · have E : itoaB 5 = _ := e1 5 (by omega)
    have HE := Lib.hid E
    clear E e1 e2
    go_enter Tryz.func177, Tryz.ntmps177
    go_wp2
    go_ret
    exact ⟨ret_str (by rw [HE.out]; rfl), Below.refl _ _⟩
  · have E : itoaB 6 = _ := e1 6 (by omega)
    have HE := Lib.hid E
    clear E e1 e2
    go_enter Tryz.func177, Tryz.ntmps177
    go_wp2
    go_ret
    exact ⟨ret_str (by rw [HE.out]; rfl), Below.refl _ _⟩
  · have E : itoaB 7 = _ := e1 7 (by omega)
    have HE := Lib.hid E
    clear E e1 e2
    go_enter Tryz.func177, Tryz.ntmps177
    go_wp2
    go_ret
    exact ⟨ret_str (by rw [HE.out]; rfl), Below.refl _ _⟩
  · have E : itoaB 8 = _ := e1 8 (by omega)
    have HE := Lib.hid E
    clear E e1 e2
    go_enter Tryz.func177, Tryz.ntmps177
    go_wp2
    go_ret
    exact ⟨ret_str (by rw [HE.out]; rfl), Below.refl _ _⟩
  · have E : itoaB 9 = _ := e1 9 (by omega)
    have HE := Lib.hid E
    clear E e1 e2
    go_enter Tryz.func177, Tryz.ntmps177
    go_wp2
    go_ret
    exact ⟨ret_str (by rw [HE.out]; rfl), Below.refl _ _⟩
  · have E : itoaB 10 = _ := e2 10 (by omega) (by omega)
    have HE := Lib.hid E
    clear E e1 e2
    go_enter Tryz.func177, Tryz.ntmps177
    go_wp2
    go_ret
    exact ⟨ret_str (by rw [HE.out]; rfl), Below.refl _ _⟩
  · have E : itoaB 11 = _ := e2 11 (by omega) (by omega)
    have HE := Lib.hid E
    clear E e1 e2
    go_enter Tryz.func177, Tryz.ntmps177
    go_wp2
    go_ret
    exact ⟨ret_str (by rw [HE.out]; rfl), Below.refl _ _⟩
  · have E : itoaB 12 = _ := e2 12 (by omega) (by omega)
    have HE := Lib.hid E
    clear E e1 e2
    go_enter Tryz.func177, Tryz.ntmps177
    go_wp2
    go_ret
    exact ⟨ret_str (by rw [HE.out]; rfl), Below.refl _ _⟩
  · have E : itoaB 13 = _ := e2 13 (by omega) (by omega)
    have HE := Lib.hid E
    clear E e1 e2
    go_enter Tryz.func177, Tryz.ntmps177
    go_wp2
    go_ret
    exact ⟨ret_str (by rw [HE.out]; rfl), Below.refl _ _⟩
  · have E : itoaB 14 = _ := e2 14 (by omega) (by omega)
    have HE := Lib.hid E
    clear E e1 e2
    go_enter Tryz.func177, Tryz.ntmps177
    go_wp2
    go_ret
    exact ⟨ret_str (by rw [HE.out]; rfl), Below.refl _ _⟩
  · have E : itoaB 15 = _ := e2 15 (by omega) (by omega)
    have HE := Lib.hid E
    clear E e1 e2
    go_enter Tryz.func177, Tryz.ntmps177
    go_wp2
    go_ret
    exact ⟨ret_str (by rw [HE.out]; rfl), Below.refl _ _⟩
  · have E : itoaB 16 = _ := e2 16 (by omega) (by omega)
    have HE := Lib.hid E
    clear E e1 e2
    go_enter Tryz.func177, Tryz.ntmps177
    go_wp2
    go_ret
    exact ⟨ret_str (by rw [HE.out]; rfl), Below.refl _ _⟩
theorem implFmtZ_any (z : Int) (w : World) (h0 : 0 ≤ z) (h1 : z ≤ 16) : Calls Tryz.prog 159 #[.int .i64 z] w fun e w' => e = .returned (.string (itoaB z)) ∧ Below w.heap.size w w' := by
  have HC := Lib.hid (implItoaZ_any z w h0 h1)
  generalize itoaB z = T at *
  go_enter Tryz.func159, Tryz.ntmps159
  go_wp2_with fail
  refine HC.out.mono ?_
  rintro e w1 ⟨rfl, hb⟩
  have HB := Lib.hid hb
  clear hb
  go_wp2
  go_ret
  exact ⟨rfl, HB.out⟩
set_option maxHeartbeats 8000000 in
theorem implJoin11_any (m : List Int) (v : Value) (F : Addr → Prop) (w : World) (hm : ∀ z ∈ m, 0 ≤ z ∧ z ≤ 16) (h1 : 1 ≤ m.length) (h5 : m.length ≤ 5) (hv : RowRd Rep.int false w v m F) :
    Calls Tryz.prog 137 #[v] w fun e w' => e = .returned (.string (numT m)) ∧ Below w.heap.size w w' := by
  obtain ⟨A, cap, rfl⟩ := hv.form
  have HV := Lib.hid hv
  have HX : Hid (∀ k, k < m.length → ∃ y, m[k]? = some y ∧ 0 ≤ y ∧ y ≤ 16) := fun k hk => ⟨_, List.getElem?_eq_getElem hk, hm _ (List.getElem_mem hk)⟩
  have HJL : Hid ((Lib.join ((txtL m).map (·.data.toList)) (⟨#[44]⟩ : ByteArray).data.toList).length ≤ 140737488355328) := by
    unfold Hid
    have h1 := join_all (txtL m)
    have h2 := (joinT_size hm m.length (Nat.le_refl _)).1
    rw [← txtL_len m, ← h1] at h2
    have h3 : (⟨(Lib.join ((txtL m).map (·.data.toList)) [44]).toArray⟩ : ByteArray).size = (Lib.join ((txtL m).map (·.data.toList)) [44]).length := rfl
    rw [h3, txtL_len] at h2
    show (Lib.join ((txtL m).map (·.data.toList)) [44]).length ≤ _
    omega
  have HJ : Hid (numT m = ⟨(Lib.join ((txtL m).map (·.data.toList)) [44]).toArray⟩) := by unfold Hid numT; rw [join_all, txtL_len]
  have HTL := Lib.hid (txtL_len m)
  have H0 := Lib.hid (cpTo_zero ByteArray.empty (txtL m))
  have HCA := Lib.hid (cpTo_all ByteArray.empty (txtL m))
  have HCAT : Hid (∀ k, k < m.length → (cpTo ByteArray.empty (txtL m) k)[k]? = some ByteArray.empty) := fun k hk => cpTo_at _ _ _ (by rw [txtL_len]; exact hk)
  have HCST : Hid (∀ k z, m[k]? = some z → (cpTo ByteArray.empty (txtL m) k).set k (itoaB z) = cpTo ByteArray.empty (txtL m) (k + 1)) := fun k z h => cpTo_step _ _ _ (txtL_at h)
  clear hv hm
  generalize hll : m.length = n at *
  obtain ⟨i0, hi, hz0, hz1, hz2⟩ := info_parts Tryz.infoTStr11
  go_enter Tryz.func137, Tryz.ntmps137
  go_wp2_with (at_make; refine wpList_make_full _ rfl _ _ 22 rfl w.heap.size 9 i0 (.string ⟨#[]⟩) 1 Tryz.underlying22 hi hz0 hz1 .i64 .i64 _ _ n rfl rfl rfl rfl (by rw [hz2]; omega) (by unfold maxLen; omega) (Nat.le_refl _) ?_; intro w1 hown1 hgrow1)
  have hb1 : Below w.heap.size w w1 := (Below.refl _ _).grown hgrow1 (Nat.le_refl _) (fun _ h => by cases h)
  have HO1 : Hid (RowRd (Rep.str mkT) true w1 (.slice (some ⟨w.heap.size, 0, none⟩) n n) (cpTo ByteArray.empty (txtL m) 0) (fun a => w.heap.size ≤ a.block)) := by
    unfold Hid
    rw [H0.out, HTL.out]
    rw [show (Value.cells (.string ⟨#[]⟩)) = #[.string ⟨#[]⟩] from rfl] at hown1
    have hlr : (List.replicate n (ByteArray.empty : ByteArray)).length = n := List.length_replicate
    refine (RowRd.of_flat (E := (Rep.str mkT)) (l := List.replicate n ByteArray.empty) (base := w.heap.size) (e := 9) (cells := (madeCells #[.string ⟨#[]⟩] (n * 1)).toList) (by rw [hlr]; exact hown1) (by rw [hlr]; omega) ?_).mono (fun a ha => ha.1)
    intro k x hk
    rw [List.getElem?_replicate] at hk
    split at hk
    · cases hk
      refine ⟨[.string ⟨#[]⟩], ?_, ⟨rfl, by decide⟩⟩
      intro j u hj
      have hjn : j < 1 := (List.getElem?_eq_some_iff.1 hj).1
      rw [show (Rep.str mkT).size = 1 from rfl, made_at _ _ _ (by omega) (by decide), show (#[.string ⟨#[]⟩] : Array Value).size = 1 from rfl, show (k * 1 + j) % 1 = j by omega]
      simpa using hj
    · cases hk
  have HB1 := Lib.hid hb1
  clear hown1 hgrow1 hb1
  go_wp2
  go_loopw [11] (fun i wr => ∃ (k : Nat), k ≤ n ∧ i = .int .i64 k ∧ RowRd (Rep.str mkT) true wr (.slice (some ⟨w.heap.size, 0, none⟩) n n) (cpTo ByteArray.empty (txtL m) k) (fun a => w.heap.size ≤ a.block) ∧ Below w.heap.size w wr) (fun i _ => n - (Go.Lib.intOf i).toNat)
  case atStart => exact ⟨0, by omega, rfl, HO1.out, HB1.out⟩
  case round =>
    obtain ⟨k, hk, rfl, hrow, hbe⟩ := hrel
    obtain ⟨w2, rfl⟩ : ∃ w2 : World, w2 = wr := ⟨_, rfl⟩
    have HBE := Lib.hid hbe
    have HRW := Lib.hid hrow.tight
    clear hbe hrow
    by_cases hkl : k < n
    · obtain ⟨z, hz, hz0, hz1⟩ := HX.out k hkl
      have HC : Hid (∀ W, Calls Tryz.prog 159 #[.int .i64 z] W fun e w' => e = .returned (.string (itoaB z)) ∧ Below W.heap.size W w') := fun W => implFmtZ_any z W hz0 hz1
      have HSX := Lib.hid (HCST.out k z hz)
      have hs := (itoaB_size z hz0 hz1).1
      obtain ⟨g, off, xs, Fk, rfl, -, hra, -, hca⟩ := (HV.out.kept HBE.out).get hz
      obtain ⟨rfl, -⟩ := id hra
      rw [show Rep.int.size = 1 from rfl] at hca
      have c0 := hca 0 _ rfl
      simp only [Nat.add_zero, Nat.mul_one] at c0
      have HSZ : Hid ((itoaB z).size ≤ 9223372036854775807) := by unfold Hid; omega
      clear hca hra hz hs
      generalize itoaB z = T at *
      go_wp2_with fail
      refine (HC.out _).mono ?_
      rintro e w3 ⟨rfl, hb⟩
      have HB3 := Lib.hid (below_step HBE.out hb)
      have hrow2 := HRW.out.kept hb
      clear hb c0
      obtain ⟨g2, off2, ys, Fk2, hge, hrd, hel, hFk, hcl, hput⟩ := hrow2.open (HCAT.out k hkl)
      cases hge
      simp only [show (Rep.str mkT).size = 1 from rfl, Nat.mul_one] at hel hcl hput
      simp only [Nat.zero_add] at hel hput
      obtain ⟨rfl, _⟩ := id hrd
      have d0 := hel.cell 0 rfl
      have f0 := hel.free 0 (by decide)
      simp only [Nat.zero_add, Nat.add_zero] at d0 f0
      have hs0 := hel.set 0 (by decide) (.string T)
      simp only [List.set, Nat.zero_add, Nat.add_zero] at hs0
      have HBB := Lib.hid (HB3.out.setCell (p := ⟨w.heap.size, k, none⟩) (Nat.le_refl _) (.string T))
      have HNEW := Lib.hid ((hput _ _ T (fun _ => False) hs0 (⟨rfl, HSZ.out⟩) (fun a h => h.elim)).mono (fun a h => h.elim (fun h => h.1) (fun h => h.elim)))
      rw [HSX.out] at HNEW
      clear hput hel hs0 hrd hFk hcl hrow2
      go_wp2
      go_roundw
      case rel => exact ⟨k + 1, by omega, by go_num, HNEW.out, HBB.out⟩
      case measure => simp [Go.Lib.intOf]; omega
    · obtain rfl : k = n := by omega
      have hrow := HRW.out
      have hca := HCA.out
      rw [HTL.out] at hca
      rw [hca] at hrow
      have HCL : Hid (∀ (j : Nat) x, (txtL m)[j]? = some x → w2.cell? ⟨w.heap.size, 0 + j, none⟩ = some (.string x)) := fun j x hj => by
        obtain ⟨g2, off2, xs2, Fk2, he2, _, hra2, _, hca2⟩ := hrow.get hj
        cases he2
        obtain ⟨rfl, _⟩ := hra2
        have c1 := hca2 0 _ rfl
        simpa [show (Rep.str mkT).size = 1 from rfl] using c1
      have hlt : w.heap.size < w2.heap.size := block_lt_of_cell (HCL.out 0 _ (List.getElem?_eq_getElem (by rw [HTL.out]; omega)))
      have HSJ := Lib.hid (Tryz.strings_Join w.heap.size 0 k (txtL m) ⟨#[44]⟩ w2 HCL.out hlt (by rw [HTL.out]; omega) (by rw [HTL.out]; omega) HJL.out)
      rw [HTL.out] at HSJ
      clear hrow hca
      go_wp2_with fail
      refine HSJ.out.mono ?_
      rintro e w4 ⟨rfl, hb⟩
      have HB4 := Lib.hid (below_step HBE.out hb)
      clear hb
      go_wp2
      go_ret
      exact ⟨ret_str (by rw [HJ.out]), HB4.out⟩
theorem implText_any (m : List Int) (v : Value) (F : Addr → Prop) (w : World) (hm : ∀ z ∈ m, 0 ≤ z ∧ z ≤ 16) (h1 : 1 ≤ m.length) (h5 : m.length ≤ 5) (hv : RowRd Rep.int false w v m F) :
    Calls Tryz.prog 100 #[v] w fun e w' => e = .returned (.string (numT m)) ∧ Below w.heap.size w w' := by
  have HC := Lib.hid (implJoin11_any m v F w hm h1 h5 hv)
  clear hv hm
  generalize numT m = T at *
  go_enter Tryz.func100, Tryz.ntmps100
  go_wp2_with fail
  refine HC.out.mono ?_
  rintro e w1 ⟨rfl, hb⟩
  have HB := Lib.hid hb
  clear hb
  go_wp2
  go_ret
  exact ⟨rfl, HB.out⟩
set_option maxHeartbeats 16000000 in
theorem implFr_any (x : DTableau) (A1 : Option Addr) (c1 : Nat) (A2 : Option Addr) (c2 : Nat) (A3 : Option Addr) (c3 : Nat) (F1 F2 F3 : Addr → Prop) (i : Int) (w : World) (hm : rTableau.sz x ≤ 1048576) (hv : TabRd false w (.slice A1 x.Names.length c1) (.slice A2 x.Rows.length c2) (.slice A3 x.Marks.length c3) x F1 F2 F3) (hT : FeatTab w) :
    Calls Tryz.prog 47 #[.agg #[.string x.Input, .slice A1 x.Names.length c1, .slice A2 x.Rows.length c2, .slice A3 x.Marks.length c3], .int .i64 i] w fun e w' => e = .returned (.string (fmtR x i)) ∧ Below w.heap.size w w' := by
  obtain ⟨hz0, hz1, hz2, hz3, hz4, hz5⟩ := szTab_parts hm
  have HZ4 : Hid (∀ (k : Nat) p, (rowsL x)[k]? = some p → p.1.Links.length ≤ 1048576) := fun k p h => hz4 k p.1 (rowsL_of h).2.1
  have HRS : Hid (∀ W, Below w.heap.size w W → Calls Tryz.prog 56 #[.agg #[.string x.Input, .slice A1 x.Names.length c1, .slice A2 x.Rows.length c2, .slice A3 x.Marks.length c3]] W (MkPost x W)) := fun W hW => implRows_any x A1 c1 A2 c2 A3 c3 F1 F2 F3 W hm (hv.kept hW) (feat_below hT hW)
  have HNEG : Hid (i < 0 → fmtR x i = ⟨#[]⟩) := fun h => fmtR_neg (by omega)
  have HOUT : Hid ((rowsL x).length ≤ i.toNat → fmtR x i = ⟨#[]⟩) := fmtR_out
  have HA : Hid (∀ o, Below w.heap.size w (w.alloc o)) := fun o => (Below.refl _ _).alloc (Nat.le_refl _) _
  clear hv hz4 hz5 hm hT
  go_enter Tryz.func47, Tryz.ntmps47
  go_wp2_with fail
  refine (HRS.out _ (HA.out _)).mono ?_
  rintro e w1 ⟨u, G, rfl, hrow, hb⟩
  obtain ⟨Ar, cr, rfl⟩ := hrow.form
  have hmx := hrow.max
  have HB1 : Hid (Below w.heap.size w w1) := below_step (HA.out _) hb
  have HROW := Lib.hid hrow
  clear hb hrow HRS
  by_cases hi0 : i < 0
  case pos =>
    have HN := Lib.hid (HNEG.out hi0)
    have e1 : decide (i < 0) = true := decide_eq_true hi0
    clear hi0
    go_wp2
    go_ret
    exact ⟨ret_str HN.out.symm, HB1.out⟩
  have e1 : decide (i < 0) = false := decide_eq_false hi0
  obtain ⟨k, rfl⟩ : ∃ k : Nat, i = (k : Int) := ⟨i.toNat, by omega⟩
  by_cases hkl : k < (rowsL x).length
  case neg =>
    have HN : Hid (fmtR x (k : Int) = ⟨#[]⟩) := HOUT.out (by rw [Int.toNat_natCast]; omega)
    have e2 : decide (((rowsL x).length : Int) ≤ (k : Int)) = true := decide_eq_true (by omega)
    have e3 : decide ((rowsL x).length ≤ k) = true := decide_eq_true (by omega)
    clear hi0
    go_wp2
    go_ret
    exact ⟨ret_str HN.out.symm, HB1.out⟩
  have e2 : decide (((rowsL x).length : Int) ≤ (k : Int)) = false := decide_eq_false (by omega)
  have e3 : decide ((rowsL x).length ≤ k) = false := decide_eq_false (by omega)
  obtain ⟨⟨c, m⟩, hc⟩ : ∃ p, (rowsL x)[k]? = some p := ⟨_, List.getElem?_eq_getElem hkl⟩
  obtain ⟨hr1, hr2, hr3, hr4⟩ := rows_marks hc
  have HFR := Lib.hid (fmtR_at hc)
  have HL := HZ4.out k _ hc
  obtain ⟨g2, o2, xs2, G2, rfl, -, hr2', -, hc2⟩ := HROW.out.get hc
  obtain ⟨v2, v3, K1, K2, rfl, q2, q3, -⟩ := rMk_rd hr2'
  rw [rMk_size] at hc2
  have d2 := hc2 0 _ rfl
  have d3 := hc2 1 _ rfl
  simp only [Nat.add_zero] at d2
  have HC2 : Hid (∀ W : World, Below w1.heap.size w1 W → W.cell? ⟨g2, o2 + k * 2, none⟩ = some v2) := fun W hW => cell_kept hW d2
  have HC3 : Hid (∀ W : World, Below w1.heap.size w1 W → W.cell? ⟨g2, o2 + k * 2 + 1, none⟩ = some v3) := fun W hW => cell_kept hW d3
  have HFC : Hid (∀ W, Below w1.heap.size w1 W → Calls Tryz.prog 99 #[.agg #[v2]] W fun e w' => e = .returned (.string ⟨(fmtC c.Links).toArray⟩) ∧ Below W.heap.size W w') := fun W hW => implFmt_cd c v2 K1 W HL (q2.kept hW)
  have HNU : Hid (∀ W, Below w1.heap.size w1 W → Calls Tryz.prog 100 #[v3] W fun e w' => e = .returned (.string (numT m)) ∧ Below W.heap.size W w') := fun W hW => implText_any m v3 K2 W hr1 hr2 hr3 (q3.kept hW)
  have hs1 := fmtC_size c.Links hr4
  have hs2 := (joinT_size hr1 m.length (Nat.le_refl _)).1
  have HNM : Hid (numT m = joinN (txtL m) m.length) := rfl
  rw [← HNM.out] at hs2
  have hkr : (k : Int) < ((rowsL x).length : Int) := by omega
  have h110 : 22 * m.length ≤ 110 := by have : m.length ≤ 5 := hr3; omega
  clear hc hr1 hr2' hc2 d2 d3 q2 q3 HL hi0
  generalize (⟨(fmtC c.Links).toArray⟩ : ByteArray) = T1 at *
  generalize numT m = T2 at *
  have hadd1 := add_anyT T1 (⟨#[32]⟩ : ByteArray) (by have : (⟨#[32]⟩ : ByteArray).size = 1 := rfl; omega)
  have hadd2 := add_anyT (T1 ++ (⟨#[32]⟩ : ByteArray)) T2 (by rw [ByteArray.size_append]; have : (⟨#[32]⟩ : ByteArray).size = 1 := rfl; omega)
  clear hs1 hs2 h110 hr2 hr3 hr4
  generalize (rowsL x).length = n at *
  go_upto_region 4 with fail
  refine wp_region_held_drew (S := fun w' => Below w1.heap.size w1 w') (by kernel_rfl) ((Below.refl _ _).drew) (fun hHeld => ?_)
  refine' wpAnyH_take (i := 0) (oi := _) (v := ?v15) rfl ?hs15 ?hf15 ?hr15 ?hQ15 (Or.inl ⟨?hw15, ?hy15⟩) hHeld ?rest15
  case hs15 => kernel_rfl
  case hf15 => kernel_rfl
  case hr15 => kernel_rfl
  case hQ15 => exact fun _ _ _ h => h
  case hw15 => kernel_rfl
  case hy15 => (intro w' hw'; go_simp; try with_reducible rfl)
  (try change wpAnyH _ _ _ _ _ _ _ (Act.put _ (some 16) _) _)
  try simp only [Act.put, List.setIfInBounds_toArray, List.set_cons_zero, List.set_cons_succ]
  refine' wpAnyH_take (i := 1) (oi := _) (v := ?v16) rfl ?hs16 ?hf16 ?hr16 ?hQ16 (Or.inl ⟨?hw16, ?hy16⟩) hHeld ?rest16
  case hs16 => kernel_rfl
  case hf16 => kernel_rfl
  case hr16 => kernel_rfl
  case hQ16 => exact fun _ _ _ h => h
  case hw16 => kernel_rfl
  case hy16 => (intro w' hw'; go_simp; try with_reducible rfl)
  (try change wpAnyH _ _ _ _ _ _ _ (Act.put _ (some 17) _) _)
  try simp only [Act.put, List.setIfInBounds_toArray, List.set_cons_zero, List.set_cons_succ]
  refine' wpAnyH_take (i := 2) (oi := _) (v := ?v17) rfl ?hs17 ?hf17 ?hr17 ?hQ17 (Or.inl ⟨?hw17, ?hy17⟩) hHeld ?rest17
  case hs17 => kernel_rfl
  case hf17 => kernel_rfl
  case hr17 => kernel_rfl
  case hQ17 => exact fun _ _ _ h => h
  case hw17 => kernel_rfl
  case hy17 => (intro w' hw'; go_simp; try with_reducible rfl)
  (try change wpAnyH _ _ _ _ _ _ _ (Act.put _ (some 18) _) _)
  try simp only [Act.put, List.setIfInBounds_toArray, List.set_cons_zero, List.set_cons_succ]
  refine' wpAnyH_take (i := 3) (oi := _) (v := ?v18) rfl ?hs18 ?hf18 ?hr18 ?hQ18 (Or.inl ⟨?hw18, ?hy18⟩) hHeld ?rest18
  case hs18 => kernel_rfl
  case hf18 => kernel_rfl
  case hr18 => kernel_rfl
  case hQ18 => exact fun _ _ _ h => h
  case hw18 => kernel_rfl
  case hy18 => (intro w' hw'; go_simp; try with_reducible rfl)
  (try change wpAnyH _ _ _ _ _ _ _ (Act.put _ (some 19) _) _)
  try simp only [Act.put, List.setIfInBounds_toArray, List.set_cons_zero, List.set_cons_succ]
  refine' wpAnyH_take (i := 4) (oi := _) (v := ?v19) rfl ?hs19 ?hf19 ?hr19 ?hQ19 (Or.inl ⟨?hw19, ?hy19⟩) hHeld ?rest19
  case hs19 => kernel_rfl
  case hf19 => kernel_rfl
  case hr19 => kernel_rfl
  case hQ19 => exact fun _ _ _ h => h
  case hw19 => kernel_rfl
  case hy19 => (intro w' hw'; have c4' := HC2.out _ hw'; have c5' := HC3.out _ hw'; go_simp; try with_reducible rfl)
  (try change wpAnyH _ _ _ _ _ _ _ (Act.put _ (some 20) _) _)
  try simp only [Act.put, List.setIfInBounds_toArray, List.set_cons_zero, List.set_cons_succ]
  refine' wpAnyH_take (i := 7) (oi := _) (v := ?v20) rfl ?hs20 ?hf20 ?hr20 ?hQ20 (Or.inl ⟨?hw20, ?hy20⟩) hHeld ?rest20
  case hs20 => kernel_rfl
  case hf20 => kernel_rfl
  case hr20 => kernel_rfl
  case hQ20 => exact fun _ _ _ h => h
  case hw20 => kernel_rfl
  case hy20 => (intro w' hw'; go_simp; try with_reducible rfl)
  (try change wpAnyH _ _ _ _ _ _ _ (Act.put _ (some 23) _) _)
  try simp only [Act.put, List.setIfInBounds_toArray, List.set_cons_zero, List.set_cons_succ]
  refine' wpAnyH_take (i := 8) (oi := _) (v := ?v21) rfl ?hs21 ?hf21 ?hr21 ?hQ21 (Or.inl ⟨?hw21, ?hy21⟩) hHeld ?rest21
  case hs21 => kernel_rfl
  case hf21 => kernel_rfl
  case hr21 => kernel_rfl
  case hQ21 => exact fun _ _ _ h => h
  case hw21 => kernel_rfl
  case hy21 => (intro w' hw'; go_simp; try with_reducible rfl)
  (try change wpAnyH _ _ _ _ _ _ _ (Act.put _ (some 24) _) _)
  try simp only [Act.put, List.setIfInBounds_toArray, List.set_cons_zero, List.set_cons_succ]
  refine' wpAnyH_take (i := 9) (oi := _) (v := ?v22) rfl ?hs22 ?hf22 ?hr22 ?hQ22 (Or.inl ⟨?hw22, ?hy22⟩) hHeld ?rest22
  case hs22 => kernel_rfl
  case hf22 => kernel_rfl
  case hr22 => kernel_rfl
  case hQ22 => exact fun _ _ _ h => h
  case hw22 => kernel_rfl
  case hy22 => (intro w' hw'; go_simp; try with_reducible rfl)
  (try change wpAnyH _ _ _ _ _ _ _ (Act.put _ (some 25) _) _)
  try simp only [Act.put, List.setIfInBounds_toArray, List.set_cons_zero, List.set_cons_succ]
  refine' wpAnyH_take (i := 10) (oi := _) (v := ?v23) rfl ?hs23 ?hf23 ?hr23 ?hQ23 (Or.inl ⟨?hw23, ?hy23⟩) hHeld ?rest23
  case hs23 => kernel_rfl
  case hf23 => kernel_rfl
  case hr23 => kernel_rfl
  case hQ23 => exact fun _ _ _ h => h
  case hw23 => kernel_rfl
  case hy23 => (intro w' hw'; go_simp; try with_reducible rfl)
  (try change wpAnyH _ _ _ _ _ _ _ (Act.put _ (some 26) _) _)
  try simp only [Act.put, List.setIfInBounds_toArray, List.set_cons_zero, List.set_cons_succ]
  refine' wpAnyH_take (i := 11) (oi := _) (v := ?v24) rfl ?hs24 ?hf24 ?hr24 ?hQ24 (Or.inl ⟨?hw24, ?hy24⟩) hHeld ?rest24
  case hs24 => kernel_rfl
  case hf24 => kernel_rfl
  case hr24 => kernel_rfl
  case hQ24 => exact fun _ _ _ h => h
  case hw24 => kernel_rfl
  case hy24 => (intro w' hw'; have c4' := HC2.out _ hw'; have c5' := HC3.out _ hw'; go_simp; try with_reducible rfl)
  (try change wpAnyH _ _ _ _ _ _ _ (Act.put _ (some 27) _) _)
  try simp only [Act.put, List.setIfInBounds_toArray, List.set_cons_zero, List.set_cons_succ]
  refine wpAnyH_ready (rs := [5]) (by kernel_rfl) (by simp) ?_
  refine AllReadyH.cons rfl (fun K hK => ?_) AllReadyH.nil
  go_simp
  go_at_call 99; refine (HFC.out _ hHeld).mono ?_; rintro e wa ⟨rfl, hba⟩; have hbe := below_step hHeld hba; clear hba
  (try go_wp2_with fail)
  refine hK.out _ _ hbe (fun hHeld => ?_)
  clear hK K
  try simp only [Act.put, List.setIfInBounds_toArray, List.set_cons_zero, List.set_cons_succ]
  refine' wpAnyH_take (i := 6) (oi := _) (v := ?v25) rfl ?hs25 ?hf25 ?hr25 ?hQ25 (Or.inl ⟨?hw25, ?hy25⟩) hHeld ?rest25
  case hs25 => kernel_rfl
  case hf25 => kernel_rfl
  case hr25 => kernel_rfl
  case hQ25 => exact fun _ _ _ h => h
  case hw25 => kernel_rfl
  case hy25 => (intro w' hw'; go_simp; try with_reducible rfl)
  (try change wpAnyH _ _ _ _ _ _ _ (Act.put _ (some 22) _) _)
  try simp only [Act.put, List.setIfInBounds_toArray, List.set_cons_zero, List.set_cons_succ]
  refine wpAnyH_ready (rs := [12]) (by kernel_rfl) (by simp) ?_
  refine AllReadyH.cons rfl (fun K hK => ?_) AllReadyH.nil
  go_simp
  go_at_call 100; refine (HNU.out _ hHeld).mono ?_; rintro e wb ⟨rfl, hba⟩; have hbe := below_step hHeld hba; clear hba
  (try go_wp2_with fail)
  refine hK.out _ _ hbe (fun hHeld => ?_)
  clear hK K
  try simp only [Act.put, List.setIfInBounds_toArray, List.set_cons_zero, List.set_cons_succ]
  refine' wpAnyH_take (i := 13) (oi := _) (v := ?v26) rfl ?hs26 ?hf26 ?hr26 ?hQ26 (Or.inl ⟨?hw26, ?hy26⟩) hHeld ?rest26
  case hs26 => kernel_rfl
  case hf26 => kernel_rfl
  case hr26 => kernel_rfl
  case hQ26 => exact fun _ _ _ h => h
  case hw26 => kernel_rfl
  case hy26 => (intro w' hw'; go_simp; try with_reducible rfl)
  (try change wpAnyH _ _ _ _ _ _ _ (Act.put _ (some 29) _) _)
  try simp only [Act.put, List.setIfInBounds_toArray, List.set_cons_zero, List.set_cons_succ]
  refine' wpAnyH_take (i := 14) (oi := _) (v := ?v27) rfl ?hs27 ?hf27 ?hr27 ?hQ27 (Or.inl ⟨?hw27, ?hy27⟩) hHeld ?rest27
  case hs27 => kernel_rfl
  case hf27 => kernel_rfl
  case hr27 => kernel_rfl
  case hQ27 => exact fun _ _ _ h => h
  case hw27 => kernel_rfl
  case hy27 => (intro w' hw'; go_simp; try with_reducible rfl)
  (try change wpAnyH _ _ _ _ _ _ _ (Act.put _ (some 4) _) _)
  try simp only [Act.put, List.setIfInBounds_toArray, List.set_cons_zero, List.set_cons_succ]
  refine wpAnyH_done ?hdone28 ?hq28 _
  case hdone28 => kernel_rfl
  go_wp2
  go_ret
  exact ⟨ret_str HFR.out.symm, below_step HB1.out hHeld⟩
end Go.Proofs.YtkaihnlknncfdaaGreatDoor

/- The walk of FnExactFormatRow: it returns true at every argument. -/
namespace Go.Proofs.YtkaihnlknncfdaaGreatDoor.fnExactFormatRow
set_option maxRecDepth 100000
open Go.RowKit Go.Proofs.YtkaihnlknncfdaaGreatDoor M
set_option linter.unusedVariables false
set_option linter.unusedSimpArgs false

set_option maxHeartbeats 16000000 in
theorem walk (w : World) (hT : FeatTab w) (x : DTableau) (F1 F2 F3 : Addr → Prop) (v1 v2 v3 : Value) (hv : TabRd false w v1 v2 v3 x F1 F2 F3) (i : Int) (hi : I64 i) :
    Calls Tryz.prog 11 #[.agg #[.string x.Input, v1, v2, v3], .int .i64 i] w fun e w' => e = .returned (.bool true) ∧ Below w.heap.size w w' := by
  obtain ⟨A1, c1, rfl⟩ := hv.names.form
  obtain ⟨A2, c2, rfl⟩ := hv.rows.form
  obtain ⟨A3, c3, rfl⟩ := hv.marks.form
  have HV := Lib.hid hv.tight
  have HFT := Lib.hid hT
  clear hv hT
  have HB := Lib.hid (Below.refl w.heap.size w)
  go_enter Tryz.func11, Tryz.ntmps11
  have HC : Hid (∀ W, Below w.heap.size w W → Calls Tryz.prog 12 #[.agg #[.string x.Input, .slice A1 x.Names.length c1, .slice A2 x.Rows.length c2, .slice A3 x.Marks.length c3], .int .i64 1048576] W fun e w' => (∃ z : Int, e = .returned (.int .i64 z) ∧ (z < 0 ∨ z + (rTableau.sz x : Nat) = 1048576 ∧ 0 ≤ z)) ∧ Below W.heap.size W w') := fun W hW => szTableau_any x _ _ _ 1048576 _ _ _ W (by omega) (by omega) (HV.out.kept hW)
  go_wp2_with fail
  refine (HC.out _ (by first | exact Below.refl _ _ | exact (Below.refl _ _).alloc (Nat.le_refl _) _ | exact (Below.refl _ _).drew)).mono ?_
  rintro e w1 ⟨⟨z, rfl, hz⟩, hb⟩
  have hbn : Below w.heap.size w w1 := below_step (by first | exact Below.refl _ _ | exact (Below.refl _ _).alloc (Nat.le_refl _) _ | exact (Below.refl _ _).drew) hb
  have hs1 : Hid (w.heap.size ≤ w1.heap.size) := hbn.size
  replace HV := Lib.hid (HV.out.kept hbn)
  replace HB := Lib.hid (HB.out.trans (hbn.mono HB.out.size))
  have HA : Hid (InC w1 w.heap.size #[.string x.Input, .slice A1 x.Names.length c1, .slice A2 x.Rows.length c2, .slice A3 x.Marks.length c3] 26) := (hb.block _ (by simp)).trans (heap_alloc_new _ _)
  have HA0 : Hid (w.heap.size < w1.heap.size) := (HA.out.lt : _ < _)
  clear hb hbn HC
  by_cases hneg : z < 0
  case pos =>
    go_wp2
    go_ret
    exact ⟨rfl, HB.out⟩
  have HSZ : Hid (rTableau.sz x ≤ 1048576) := by unfold Hid; have := hz.resolve_left hneg; omega
  clear hz
  have HC : Hid (∀ W, Below w1.heap.size w1 W → Calls Tryz.prog 14 #[.agg #[.string x.Input, .slice A1 x.Names.length c1, .slice A2 x.Rows.length c2, .slice A3 x.Marks.length c3]] W (TabPost x W)) := fun W hW => toTableau_any x _ _ _ _ _ _ W HSZ.out (HV.out.kept hW)
  have bHA0 := HA.out.cell 0 rfl
  have bHA1 := HA.out.cell 1 rfl
  have bHA2 := HA.out.cell 2 rfl
  have bHA3 := HA.out.cell 3 rfl
  go_wp2_with fail
  refine (HC.out _ (by first | exact Below.refl _ _ | exact (Below.refl _ _).alloc (Nat.le_refl _) _ | exact (Below.refl _ _).drew)).mono ?_
  rintro e w2 ⟨Au1, cu1, Au2, cu2, Au3, cu3, Gu1, Gu2, Gu3, rfl, hq, hg, hb⟩
  clear bHA0 bHA1 bHA2 bHA3
  have hbn : Below w1.heap.size w1 w2 := below_step (by first | exact Below.refl _ _ | exact (Below.refl _ _).alloc (Nat.le_refl _) _ | exact (Below.refl _ _).drew) hb
  have hs2 : Hid (w1.heap.size ≤ w2.heap.size) := hbn.size
  replace HV := Lib.hid (HV.out.kept hbn)
  replace HA := Lib.hid (HA.out.kept hbn)
  replace HB := Lib.hid (HB.out.trans (hbn.mono HB.out.size))
  have Hu := Lib.hid hq
  have Ru : Hid (∀ a, Gu1 a ∨ Gu2 a ∨ Gu3 a → w1.heap.size ≤ a.block ∧ a.block < w2.heap.size) := fun a ha => ⟨Nat.le_trans (Below.size (B := w1.heap.size) (w := w1) (by first | exact Below.refl _ _ | exact (Below.refl _ _).alloc (Nat.le_refl _) _ | exact (Below.refl _ _).drew)) (hg a ha).1, (hg a ha).2⟩
  clear hb hbn HC hq hg
  have HC : Hid (∀ W, Below w2.heap.size w2 W → Calls Tryz.prog 46 #[.agg #[.string x.Input, .slice Au1 x.Names.length cu1, .slice Au2 x.Rows.length cu2, .slice Au3 x.Marks.length cu3], .int .i64 i] W fun e w' => e = .returned (.string (fmtR x i)) ∧ Below W.heap.size W w') := fun W hW => specFr_any x Au1 cu1 Au2 cu2 Au3 cu3 _ _ _  i W HSZ.out (Hu.out.kept hW).weak
  have bHA0 := HA.out.cell 0 rfl
  have bHA1 := HA.out.cell 1 rfl
  have bHA2 := HA.out.cell 2 rfl
  have bHA3 := HA.out.cell 3 rfl
  go_wp2_with fail
  refine (HC.out _ (by first | exact Below.refl _ _ | exact (Below.refl _ _).alloc (Nat.le_refl _) _ | exact (Below.refl _ _).drew)).mono ?_
  rintro e w3 ⟨rfl, hb⟩
  clear bHA0 bHA1 bHA2 bHA3
  have hbn : Below w2.heap.size w2 w3 := below_step (by first | exact Below.refl _ _ | exact (Below.refl _ _).alloc (Nat.le_refl _) _ | exact (Below.refl _ _).drew) hb
  have hs3 : Hid (w2.heap.size ≤ w3.heap.size) := hbn.size
  replace HV := Lib.hid (HV.out.kept hbn)
  replace HA := Lib.hid (HA.out.kept hbn)
  replace Hu := Lib.hid (Hu.out.kept hbn)
  replace HB := Lib.hid (HB.out.trans (hbn.mono HB.out.size))
  clear hb hbn HC
  have HC : Hid (∀ W, Below w3.heap.size w3 W → Calls Tryz.prog 14 #[.agg #[.string x.Input, .slice A1 x.Names.length c1, .slice A2 x.Rows.length c2, .slice A3 x.Marks.length c3]] W (TabPost x W)) := fun W hW => toTableau_any x _ _ _ _ _ _ W HSZ.out (HV.out.kept hW)
  have bHA0 := HA.out.cell 0 rfl
  have bHA1 := HA.out.cell 1 rfl
  have bHA2 := HA.out.cell 2 rfl
  have bHA3 := HA.out.cell 3 rfl
  go_wp2_with fail
  refine (HC.out _ (by first | exact Below.refl _ _ | exact (Below.refl _ _).alloc (Nat.le_refl _) _ | exact (Below.refl _ _).drew)).mono ?_
  rintro e w4 ⟨Ax1, cx1, Ax2, cx2, Ax3, cx3, Gx1, Gx2, Gx3, rfl, hq, hg, hb⟩
  clear bHA0 bHA1 bHA2 bHA3
  have hbn : Below w3.heap.size w3 w4 := below_step (by first | exact Below.refl _ _ | exact (Below.refl _ _).alloc (Nat.le_refl _) _ | exact (Below.refl _ _).drew) hb
  have hs4 : Hid (w3.heap.size ≤ w4.heap.size) := hbn.size
  replace HV := Lib.hid (HV.out.kept hbn)
  replace HA := Lib.hid (HA.out.kept hbn)
  replace Hu := Lib.hid (Hu.out.kept hbn)
  replace HB := Lib.hid (HB.out.trans (hbn.mono HB.out.size))
  have Hx := Lib.hid hq
  have Rx : Hid (∀ a, Gx1 a ∨ Gx2 a ∨ Gx3 a → w3.heap.size ≤ a.block ∧ a.block < w4.heap.size) := fun a ha => ⟨Nat.le_trans (Below.size (B := w3.heap.size) (w := w3) (by first | exact Below.refl _ _ | exact (Below.refl _ _).alloc (Nat.le_refl _) _ | exact (Below.refl _ _).drew)) (hg a ha).1, (hg a ha).2⟩
  clear hb hbn HC hq hg
  have HC : Hid (∀ W, Below w4.heap.size w4 W → Calls Tryz.prog 47 #[.agg #[.string x.Input, .slice Ax1 x.Names.length cx1, .slice Ax2 x.Rows.length cx2, .slice Ax3 x.Marks.length cx3], .int .i64 i] W fun e w' => e = .returned (.string (fmtR x i)) ∧ Below W.heap.size W w') := fun W hW => implFr_any x Ax1 cx1 Ax2 cx2 Ax3 cx3 _ _ _  i W HSZ.out (Hx.out.kept hW).weak (feat_below HFT.out (HB.out.trans (hW.mono HB.out.size)))
  have bHA0 := HA.out.cell 0 rfl
  have bHA1 := HA.out.cell 1 rfl
  have bHA2 := HA.out.cell 2 rfl
  have bHA3 := HA.out.cell 3 rfl
  go_wp2_with fail
  refine (HC.out _ (by first | exact Below.refl _ _ | exact (Below.refl _ _).alloc (Nat.le_refl _) _ | exact (Below.refl _ _).drew)).mono ?_
  rintro e w5 ⟨rfl, hb⟩
  clear bHA0 bHA1 bHA2 bHA3
  have hbn : Below w4.heap.size w4 w5 := below_step (by first | exact Below.refl _ _ | exact (Below.refl _ _).alloc (Nat.le_refl _) _ | exact (Below.refl _ _).drew) hb
  have hs5 : Hid (w4.heap.size ≤ w5.heap.size) := hbn.size
  replace HV := Lib.hid (HV.out.kept hbn)
  replace HA := Lib.hid (HA.out.kept hbn)
  replace Hu := Lib.hid (Hu.out.kept hbn)
  replace Hx := Lib.hid (Hx.out.kept hbn)
  replace HB := Lib.hid (HB.out.trans (hbn.mono HB.out.size))
  have HX : Hid (InC w5 w4.heap.size #[.string x.Input, .slice Ax1 x.Names.length cx1, .slice Ax2 x.Rows.length cx2, .slice Ax3 x.Marks.length cx3] 32) := (hb.block _ (by simp)).trans (heap_alloc_new _ _)
  clear hb hbn HC
  generalize fmtR x i = bb at *
  have HTO : Hid (∀ W, Below w5.heap.size w5 W → Calls Tryz.prog 14 #[.agg #[.string x.Input, .slice A1 x.Names.length c1, .slice A2 x.Rows.length c2, .slice A3 x.Marks.length c3]] W (TabPost x W)) := fun W hW => toTableau_any x _ _ _ _ _ _ W HSZ.out (HV.out.kept hW)
  have HEQ : Hid (∀ (W : World) (u1 u2 u3 : Value) (G1 G2 G3 : Addr → Prop), Below w5.heap.size w5 W → TabRd true W u1 u2 u3 x G1 G2 G3 → Calls Tryz.prog 18 #[.agg #[.string x.Input, .slice Ax1 x.Names.length cx1, .slice Ax2 x.Rows.length cx2, .slice Ax3 x.Marks.length cx3], .agg #[.string x.Input, u1, u2, u3]] W fun e w' => e = .returned (.bool true) ∧ Below W.heap.size W w') := fun W u1 u2 u3 G1 G2 G3 hW hu => eqTableau_any x _ _ _ _ _ _ _ _ _ _ _ _ W (Hx.out.kept hW).weak hu.weak
  have HXK : Hid (∀ W : World, Below w5.heap.size w5 W → InC W _ #[.string x.Input, .slice Ax1 x.Names.length cx1, .slice Ax2 x.Rows.length cx2, .slice Ax3 x.Marks.length cx3] 32) := fun W hW => HX.out.kept hW
  have bHA0 := HA.out.cell 0 rfl
  have bHA1 := HA.out.cell 1 rfl
  have bHA2 := HA.out.cell 2 rfl
  have bHA3 := HA.out.cell 3 rfl
  have bHX0 := HX.out.cell 0 rfl
  have bHX1 := HX.out.cell 1 rfl
  have bHX2 := HX.out.cell 2 rfl
  have bHX3 := HX.out.cell 3 rfl
  go_upto_region 10 with fail
  go_region_with (first | (go_simp; go_at_call 14; refine (HTO.out _ ((Below.refl _ _).drew)).mono ?_; rintro e wt ⟨At1, ct1, At2, ct2, At3, ct3, T1, T2, T3, rfl, hqt, hgt, hbt0⟩; have hbt : Below w5.heap.size w5 wt := below_step ((Below.refl _ _).drew) hbt0; have e0 := (HXK.out _ hbt).cell 0 rfl; have e1 := (HXK.out _ hbt).cell 1 rfl; have e2 := (HXK.out _ hbt).cell 2 rfl; have e3 := (HXK.out _ hbt).cell 3 rfl; have HBT := Lib.hid hbt; have HQT := Lib.hid hqt; clear hbt0 hqt hgt hbt) | (go_simp; go_at_call 18; refine (HEQ.out _ _ _ _ _ _ _ HBT.out HQT.out).mono ?_; rintro e wz ⟨rfl, hbz0⟩; have HBZ := Lib.hid (below_step HBT.out hbz0); clear hbz0))
  all_goals
    go_wp2
    go_ret
    exact ⟨rfl, HB.out.trans (HBZ.out.mono HB.out.size)⟩
end Go.Proofs.YtkaihnlknncfdaaGreatDoor.fnExactFormatRow

/- The program's ProfileOf: what it answers (over a row of counters). -/
namespace Go.Proofs.YtkaihnlknncfdaaGreatDoor
set_option maxRecDepth 100000
open Go.RowKit Go.Sort M
set_option linter.unusedVariables false
set_option linter.unusedSimpArgs false

set_option maxHeartbeats 8000000 in
theorem implProf_any (m : Nat → ByteArray) (ns : List ByteArray) (A : Option Addr) (cap : Nat) (F : Addr → Prop) (x : DCandidate) (B : Option Addr) (q : Nat) (G : Addr → Prop) (w : World) (hn : ns.length ≤ 1048576) (hl : x.Links.length ≤ 1048576) (hcap : ns.length ≤ cap) (hq : x.Links.length ≤ q) (hns : RowRd (Rep.str m) false w (.slice A ns.length cap) ns F) (hv : RowRd rLink false w (.slice B x.Links.length q) x.Links G) (hT : FeatTab w) :
    Calls Tryz.prog 37 #[.slice A ns.length cap, .agg #[.slice B x.Links.length q]] w (IntPost (profN ns x.Links) w) := by
  have HS0 : Hid (∀ W, Below w.heap.size w W → Calls Tryz.prog 80 #[.agg #[.slice B x.Links.length q]] W fun e w' => e = .returned (.bool (isCd x.Links)) ∧ Below W.heap.size W w') := fun W hW => implIsCd_any x _ G W hl (hv.kept hW)
  have HSA : Hid (∀ W, Below w.heap.size w W → Calls Tryz.prog 79 #[.slice A ns.length cap] W fun e w' => e = .returned (.bool (areC ns)) ∧ Below W.heap.size W w') := fun W hW => implAre_any m ns A cap F W (by omega) hcap (hns.kept hW)
  have HCO : Hid (areC ns = true → ∀ W, Below w.heap.size w W → Calls Tryz.prog 81 #[.slice A ns.length cap] W (OwnPost Rep.fn (ctrs ns) W)) := fun h W hW => implCtrs_any m ns A cap F W h (hns.kept hW)
  have HPO : Hid (areC ns = true → ∀ (A2 : Option Addr) (cap2 : Nat) (F2 : Addr → Prop) W, Below w.heap.size w W → RowRd Rep.fn false W (.slice A2 (ctrs ns).length cap2) (ctrs ns) F2 → Calls Tryz.prog 82 #[.slice A2 (ctrs ns).length cap2, .agg #[.slice B x.Links.length q]] W (OwnPost Rep.int (cntsN (ctrs ns) x.Links) W)) := fun h A2 cap2 F2 W hW hr => implProfOf_any (ctrs ns) (ctrs_lt h) A2 cap2 F2 x B q G W (by rw [ctrs_len]; exact hn) hl hr (hv.kept hW) (feat_below hT hW)
  have HNO : Hid (areC ns = false ∨ isCd x.Links = false → profN ns x.Links = []) := profN_no
  have HYE : Hid (areC ns = true → isCd x.Links = true → profN ns x.Links = cntsN (ctrs ns) x.Links) := profN_ctrs
  have HP : Hid (∀ u w', RowRd Rep.int true w' u (profN ns x.Links) (fun a => w.heap.size ≤ a.block) → Below w.heap.size w w' → IntPost (profN ns x.Links) w (.returned u) w') := fun u w' h1 h2 => ⟨u, rfl, h1, h2⟩
  clear hv hns hT
  generalize isCd x.Links = c at *
  have HA : Hid (∀ o, Below w.heap.size w (w.alloc o)) := fun o => (Below.refl _ _).alloc (Nat.le_refl _) _
  have HA1 : Hid (InC (w.alloc (.cells #[.slice B x.Links.length q] 55)) w.heap.size #[.slice B x.Links.length q] 55) := heap_alloc_new _ _
  go_enter Tryz.func37, Tryz.ntmps37
  go_wp2_with fail
  refine (HSA.out _ (HA.out _)).mono ?_
  rintro e w1 ⟨rfl, hb⟩
  have HB1 : Hid (Below w.heap.size w w1) := below_step (HA.out _) hb
  have HX1 := Lib.hid (HA1.out.kept hb)
  have b1 := HX1.out.cell 0 rfl
  clear hb
  cases ha : areC ns with
  | false =>
    have HN := Lib.hid (HNO.out (.inl ha))
    go_wp2_with fail
    go_ret
    refine HP.out _ _ ?_ HB1.out
    rw [HN.out]
    exact ((RowRd.of_ints (l := []) (base := w.heap.size) ⟨rfl, Or.inl ⟨rfl, rfl⟩⟩ (by simp) (by simp)).mono (fun a ha => ha))
  | true =>
  go_wp2_with fail
  refine (HS0.out _ HB1.out).mono ?_
  rintro e w2 ⟨rfl, hb⟩
  have HB2 : Hid (Below w.heap.size w w2) := below_step HB1.out hb
  have HX2 := Lib.hid (HX1.out.kept hb)
  clear hb b1 HX1
  cases c with
  | false =>
    have HN := Lib.hid (HNO.out (.inr rfl))
    go_wp2_with fail
    go_ret
    refine HP.out _ _ ?_ HB2.out
    rw [HN.out]
    exact ((RowRd.of_ints (l := []) (base := w.heap.size) ⟨rfl, Or.inl ⟨rfl, rfl⟩⟩ (by simp) (by simp)).mono (fun a ha => ha))
  | true =>
  have HPR := Lib.hid (HYE.out ha rfl)
  have HC2 := Lib.hid (HCO.out ha)
  have HC3 := Lib.hid (HPO.out ha)
  clear HCO HPO ha HYE HNO
  have HBX2 : Hid (∀ W : World, Below w2.heap.size w2 W → W.cell? ⟨w.heap.size, 0, none⟩ = some (.slice B x.Links.length q)) := fun W hW => (HX2.out.kept hW).cell 0 rfl
  go_upto_region 3 with fail
  refine wp_region_held_drew (S := fun w' => Below w2.heap.size w2 w') (by kernel_rfl) ((Below.refl _ _).drew) (fun hHeld => ?_)
  refine' wpAnyH_take (i := 0) (oi := _) (v := ?v1) rfl ?hs1 ?hf1 ?hr1 ?hQ1 (Or.inl ⟨?hw1, ?hy1⟩) hHeld ?rest1
  case hs1 => kernel_rfl
  case hf1 => kernel_rfl
  case hr1 => kernel_rfl
  case hQ1 => exact fun _ _ _ h => h
  case hw1 => kernel_rfl
  case hy1 => (intro w' hw'; go_simp; try with_reducible rfl)
  (try change wpAnyH _ _ _ _ _ _ _ (Act.put _ (some 13) _) _)
  try simp only [Act.put, List.setIfInBounds_toArray, List.set_cons_zero, List.set_cons_succ]
  refine' wpAnyH_take (i := 2) (oi := _) (v := ?v2) rfl ?hs2 ?hf2 ?hr2 ?hQ2 (Or.inl ⟨?hw2, ?hy2⟩) hHeld ?rest2
  case hs2 => kernel_rfl
  case hf2 => kernel_rfl
  case hr2 => kernel_rfl
  case hQ2 => exact fun _ _ _ h => h
  case hw2 => kernel_rfl
  case hy2 => (intro w' hw'; have cA := HBX2.out _ hw'; go_simp; try with_reducible rfl)
  (try change wpAnyH _ _ _ _ _ _ _ (Act.put _ (some 15) _) _)
  try simp only [Act.put, List.setIfInBounds_toArray, List.set_cons_zero, List.set_cons_succ]
  refine wpAnyH_ready (rs := [1]) (by kernel_rfl) (by simp) ?_
  refine AllReadyH.cons rfl (fun K hK => ?_) AllReadyH.nil
  go_simp
  go_at_call 81; refine (HC2.out _ (below_step HB2.out hHeld)).mono ?_; rintro e w3 ⟨u3, rfl, hr3, hb⟩; obtain ⟨A3, cap3, rfl⟩ := hr3.form; have HR3 := Lib.hid hr3.weak; have hbe : Below w2.heap.size w2 w3 := below_step hHeld hb; clear hr3 hb
  (try go_wp2_with fail)
  refine hK.out _ _ hbe (fun hHeld => ?_)
  clear hK K
  try simp only [Act.put, List.setIfInBounds_toArray, List.set_cons_zero, List.set_cons_succ]
  refine wpAnyH_ready (rs := [3]) (by kernel_rfl) (by simp) ?_
  refine AllReadyH.cons rfl (fun K hK => ?_) AllReadyH.nil
  go_simp
  go_at_call 82; refine (HC3.out _ _ _ _ (below_step HB2.out hHeld) HR3.out).mono ?_; rintro e w4 ⟨u4, rfl, hr4, hb⟩; have HR4 := Lib.hid (hr4.mono (fun a ha => Nat.le_trans (below_step HB2.out hHeld).size ha)); have hbe : Below w2.heap.size w2 w4 := below_step hHeld hb; have HB4 := Lib.hid (below_step HB2.out hbe); clear hr4 hb
  (try go_wp2_with fail)
  refine hK.out _ _ hbe (fun hHeld => ?_)
  clear hK K
  try simp only [Act.put, List.setIfInBounds_toArray, List.set_cons_zero, List.set_cons_succ]
  refine' wpAnyH_take (i := 4) (oi := _) (v := ?v3) rfl ?hs3 ?hf3 ?hr3 ?hQ3 (Or.inl ⟨?hw3, ?hy3⟩) hHeld ?rest3
  case hs3 => kernel_rfl
  case hf3 => kernel_rfl
  case hr3 => kernel_rfl
  case hQ3 => exact fun _ _ _ h => h
  case hw3 => kernel_rfl
  case hy3 => (intro w' hw'; go_simp; try with_reducible rfl)
  (try change wpAnyH _ _ _ _ _ _ _ (Act.put _ (some 4) _) _)
  try simp only [Act.put, List.setIfInBounds_toArray, List.set_cons_zero, List.set_cons_succ]
  refine wpAnyH_done ?hdone4 ?hq4 _
  case hdone4 => kernel_rfl
  go_wp2
  go_ret
  refine HP.out _ _ ?_ HB4.out
  rw [HPR.out]
  exact HR4.out
end Go.Proofs.YtkaihnlknncfdaaGreatDoor

/- The laws' toCandidate, with the capacity of the row that it lays. -/
namespace Go.Proofs.YtkaihnlknncfdaaGreatDoor
set_option maxRecDepth 100000
open Go.RowKit Go.Sort
set_option linter.unusedVariables false
set_option linter.unusedSimpArgs false

def OwnPostC {α : Type} (E : Rep α) (l : List α) (w : World) (e : Ending) (w' : World) : Prop := ∃ A, e = .returned (.slice A l.length l.length) ∧ RowRd E true w' (.slice A l.length l.length) l (fun a => w.heap.size ≤ a.block) ∧ Below w.heap.size w w'
set_option maxHeartbeats 2000000 in
theorem toLinkS_cap (v : Value) (l : List DLink) (F : Addr → Prop) (w : World) (hm : szRow rLink l ≤ 1048576) (hv : RowRd rLink false w v l F) :
    Calls Tryz.prog 78 #[v] w (OwnPostC rLink l w) := by
  have hml := Nat.le_trans (szRow_len rLink l) hm
  obtain ⟨A, cap, rfl⟩ := hv.form
  have HV := Lib.hid hv
  have HSZ : Hid (∀ k x, l[k]? = some x → rLink.sz x ≤ 1048576) := fun k x h => Nat.le_trans (szRow_at _ _ _ h) hm
  clear hv hm
  have HX : Hid (∀ k, k < l.length → ∃ x, l[k]? = some x) := fun k hk => ⟨_, List.getElem?_eq_getElem hk⟩
  have H0 := Lib.hid (cpTo_zero zLink l)
  have HA := Lib.hid (cpTo_all zLink l)
  have HAT := Lib.hid (cpTo_at zLink l)
  have HST : Hid (∀ k x, l[k]? = some x → (cpTo zLink l k).set k x = cpTo zLink l (k + 1)) := fun k x h => cpTo_step _ _ _ h
  have HP : Hid (∀ (A : Option Addr) (w' : World), RowRd rLink true w' (.slice A l.length l.length) l (fun a => w.heap.size ≤ a.block) → Below w.heap.size w w' → OwnPostC rLink l w (.returned (.slice A l.length l.length)) w') := fun u w' h1 h2 => ⟨u, rfl, h1, h2⟩
  generalize hll : l.length = n at *
  clear hll
  obtain ⟨i0, hi, hz0, hz1, hz2⟩ := info_parts Tryz.infoTLink
  go_enter Tryz.func78, Tryz.ntmps78
  go_wp2_with (at_make; refine wpList_make_full _ rfl _ _ 53 rfl w.heap.size 118 i0 (.agg #[.int .u8 0, .int .u8 0]) 2 Tryz.underlying53 hi hz0 hz1 .i64 .i64 _ _ n rfl rfl rfl rfl (by rw [hz2]; omega) (by unfold maxLen; omega) (Nat.le_refl _) ?_; intro w1 hown1 hgrow1)
  have hb1 : Below w.heap.size w w1 := (Below.refl _ _).grown hgrow1 (Nat.le_refl _) (fun _ h => by cases h)
  have HO1 : Hid (RowRd rLink true w1 (.slice (some ⟨w.heap.size, 0, none⟩) n n) (cpTo zLink l 0) (fun a => w.heap.size ≤ a.block)) := by
    unfold Hid
    rw [H0.out]
    rw [show (Value.cells (.agg #[.int .u8 0, .int .u8 0])) = #[.int .u8 0, .int .u8 0] from rfl] at hown1
    have hlr : (List.replicate n (zLink : DLink)).length = n := List.length_replicate
    refine (RowRd.of_flat (E := rLink) (l := List.replicate n zLink) (base := w.heap.size) (e := 118) (cells := (madeCells #[.int .u8 0, .int .u8 0] (n * 2)).toList) (by rw [hlr]; exact hown1) (by rw [hlr]; omega) ?_).mono (fun a ha => ha.1)
    intro k x hk
    rw [List.getElem?_replicate] at hk
    split at hk
    · cases hk
      refine ⟨[.int .u8 0, .int .u8 0], ?_, rLink_mk (x := zLink) ⟩
      intro j u hj
      have hjn : j < 2 := (List.getElem?_eq_some_iff.1 hj).1
      rw [show rLink.size = 2 from rfl, made_at _ _ _ (by omega) (by decide), show (#[.int .u8 0, .int .u8 0] : Array Value).size = 2 from rfl, show (k * 2 + j) % 2 = j by omega]
      simpa using hj
    · cases hk
  have HB1 := Lib.hid hb1
  clear hown1 hgrow1 hb1
  go_wp2
  go_loopw [4] (fun i wr => ∃ (k : Nat), k ≤ n ∧ i = .int .i64 k ∧ RowRd rLink true wr (.slice (some ⟨w.heap.size, 0, none⟩) n n) (cpTo zLink l k) (fun a => w.heap.size ≤ a.block) ∧ Below w.heap.size w wr) (fun i _ => n - (intOf i).toNat)
  case atStart => exact ⟨0, by omega, rfl, HO1.out, HB1.out⟩
  case round =>
    obtain ⟨k, hk, rfl, hrow, hbe⟩ := hrel
    have HBE := Lib.hid hbe
    clear hbe
    by_cases hkl : k < n
    · obtain ⟨x, hx⟩ := HX.out k hkl
      have HSX := Lib.hid (HST.out k x hx)
      have hszx := HSZ.out k x hx
      obtain ⟨sg, so, xs, Fs, rfl, _, hsr, _, hsc⟩ := (HV.out.kept HBE.out).get hx
      rw [show rLink.size = 2 from rfl] at hsc
      have ee := rLink_rd hsr
      subst ee
      have c0 := hsc 0 _ rfl
      have c1 := hsc 1 _ rfl
      simp only [Nat.add_zero] at c0
      clear hsc hsr
      have hrow2 := hrow.tight
      clear hrow
      have HC := Lib.hid (toLink_any x Fs wr hszx)
      have HR2 := Lib.hid hrow2
      clear hrow2
      go_wp2_with fail
      refine HC.out.mono ?_
      rintro e w2 ⟨rfl, hb2⟩
      have hrow2 := HR2.out.kept hb2
      obtain ⟨g, off, ys, Fk, hge, hrd, hel, hFk, hcl, hput⟩ := hrow2.open (HAT.out k hkl)
      cases hge
      rw [show rLink.size = 2 from rfl] at hel hcl hput
      simp only [Nat.zero_add] at hel hput
      have ee := rLink_rd hrd
      subst ee
      have d0 := hel.cell 0 rfl
      have f0 := hel.free 0 (by decide)
      have d1 := hel.cell 1 rfl
      have f1 := hel.free 1 (by decide)
      simp only [Nat.zero_add, Nat.add_zero] at d0 f0 d1 f1
      have hs0 := hel.set 0 (by decide) (.int .u8 (x.In.toNat : Int))
      simp only [List.set, Nat.zero_add, Nat.add_zero] at hs0
      have hs1 := hs0.set 1 (by decide) (.int .u8 (x.Out.toNat : Int))
      simp only [List.set, Nat.zero_add, Nat.add_zero] at hs1
      have HBB := Lib.hid (((HBE.out.trans (hb2.mono HBE.out.size)).setCell (p := ⟨w.heap.size, k * 2, none⟩) (Nat.le_refl _) (.int .u8 (x.In.toNat : Int))).setCell (p := ⟨w.heap.size, k * 2 + 1, none⟩) (Nat.le_refl _) (.int .u8 (x.Out.toNat : Int)))
      have HNEW := Lib.hid ((hput _ _ x (fun _ => False) hs1 (rLink_mk (x := x) ) (fun a h => h.elim)).mono (fun a h => h.elim (fun h => h.1) (fun h => h.elim)))
      rw [HSX.out] at HNEW
      clear hput hel hs0 hs1 hb2 hrd hFk hcl
      try clear hrow2
      go_wp2
      go_roundw
      case rel => exact ⟨k + 1, by omega, by go_num, HNEW.out, HBB.out⟩
      case measure => simp [intOf]; omega
    · obtain rfl : k = n := by omega
      rw [HA.out] at hrow
      have HRR := Lib.hid hrow
      clear hrow
      go_wp2
      go_ret
      exact HP.out _ _ HRR.out HBE.out
set_option maxHeartbeats 8000000 in
theorem toCandidate_cap (x : DCandidate) (F : Addr → Prop) (w : World) (v0 : Value) (hv0 : RowRd rLink false w v0 x.Links F) (hm : rCandidate.sz x ≤ 1048576) :
    Calls Tryz.prog 36 #[.agg #[v0]] w fun e w' => ∃ A0, e = .returned (.agg #[.slice A0 x.Links.length x.Links.length]) ∧ RowRd rLink true w' (.slice A0 x.Links.length x.Links.length) x.Links (fun a => w.heap.size ≤ a.block) ∧ Below w.heap.size w w' := by
  have HT0 : Hid (∀ W, Below w.heap.size w W → Calls Tryz.prog 78 #[v0] W (OwnPostC rLink x.Links W)) := fun W hW => toLinkS_cap v0 _ F W (Nat.le_trans (by rw [rCandidate_sz]; omega) hm) (hv0.kept hW)
  clear hv0
  clear hm
  generalize x.Links = y0 at *
  go_enter Tryz.func36, Tryz.ntmps36
  go_wp2_with fail
  refine (HT0.out _ ((((Below.refl _ _).alloc (Nat.le_refl _) _).alloc (by simp) _).alloc (by simp; omega) _)).mono ?_
  rintro e w1 ⟨A0, rfl, hq0, hb0⟩
  have HS : InC w1 w.heap.size #[v0] 49 := (hb0.block _ (by simp; omega)).trans ((Below.heap_alloc _ _ _ (by simp; omega)).trans (box1 _ _ _))
  have HR : InC w1 (w.heap.size + 1) #[.slice none 0 0] 55 := (hb0.block _ (by simp)).trans ((Below.heap_alloc _ _ _ (by simp)).trans (box2 _ _ _))
  have HO : InC w1 (w.heap.size + 1 + 1) #[.slice none 0 0] 55 := (hb0.block _ (by simp)).trans (by have := heap_alloc_new ((w.alloc (.cells #[v0] 49)).alloc (.cells #[.slice none 0 0] 55)) (.cells #[.slice none 0 0] 55); rwa [World.size_alloc, World.size_alloc] at this)
  have HB : Hid (Below w.heap.size w w1) := ((((Below.refl _ _).alloc (Nat.le_refl _) _).alloc (by simp) _).alloc (by simp; omega) _).trans (hb0.mono (by simp; omega))
  have HQ0 : Hid (RowRd rLink true w1 (.slice A0 y0.length y0.length) y0 (fun a => w.heap.size ≤ a.block ∧ w.heap.size + 1 + 1 < a.block)) := hq0.mono (fun a ha => by simp at ha; omega)
  clear hb0 hq0
  have c0 := InC.cell HO 0 rfl
  have f0 := InC.free HO 0
  replace HO : InC (World.setCell w1 ⟨w.heap.size + 1 + 1, 0, none⟩ ((.slice A0 y0.length y0.length))) (w.heap.size + 1 + 1) #[(.slice A0 y0.length y0.length)] 55 := heap_setCell_same _ _ _ _ _ _ HO
  replace HS := InC.other HS (p := ⟨w.heap.size + 1 + 1, 0, none⟩) (by simp; omega) ((.slice A0 y0.length y0.length))
  replace HR := InC.other HR (p := ⟨w.heap.size + 1 + 1, 0, none⟩) (by simp) ((.slice A0 y0.length y0.length))
  replace HB := Lib.hid (HB.out.setCell (p := ⟨w.heap.size + 1 + 1, 0, none⟩) (by simp; omega) ((.slice A0 y0.length y0.length)))
  replace HQ0 := Lib.hid (HQ0.out.apart (Unch.set (F := fun a => a = ⟨w.heap.size + 1 + 1, 0, none⟩) rfl ((.slice A0 y0.length y0.length))) (fun a ha e => by subst e; simp at ha))
  have o0 := InC.cell HO 0 rfl
  have r0 := InC.cell HR 0 rfl
  have q0 := InC.free HR 0
  replace HR : InC (World.setCell (World.setCell w1 ⟨w.heap.size + 1 + 1, 0, none⟩ ((.slice A0 y0.length y0.length))) ⟨w.heap.size + 1, 0, none⟩ ((.slice A0 y0.length y0.length))) (w.heap.size + 1) #[(.slice A0 y0.length y0.length)] 55 := heap_setCell_same _ _ _ _ _ _ HR
  replace HB := Lib.hid (HB.out.setCell (p := ⟨w.heap.size + 1, 0, none⟩) (by simp) ((.slice A0 y0.length y0.length)))
  replace HQ0 := Lib.hid (HQ0.out.apart (Unch.set (F := fun a => a = ⟨w.heap.size + 1, 0, none⟩) rfl ((.slice A0 y0.length y0.length))) (fun a ha e => by subst e; simp at ha; try omega))
  have HRR := Lib.hid HR
  clear HR HO HS
  go_wp2
  refine bodyPost_ret (v := .agg #[(.slice A0 y0.length y0.length)]) (results_cell_row rfl _ _ (w.heap.size + 1) 55 _ (0, 0) _ rfl HRR.out Tryz.underlying55 rfl (by kernel_rfl)) rfl ⟨A0, rfl, HQ0.out.mono (fun a ha => ha.1), HB.out⟩
end Go.Proofs.YtkaihnlknncfdaaGreatDoor

/- The laws' markCandidate. -/
namespace Go.Proofs.YtkaihnlknncfdaaGreatDoor
set_option maxRecDepth 100000
open Go.RowKit Go.Sort
set_option linter.unusedVariables false
set_option linter.unusedSimpArgs false

theorem markCandidate_any (x : DCandidate) (v0 : Value) (z : Int) (k0 : Nat) (hz : z = (k0 : Int)) (base : Nat) (F0 : Addr → Prop) (w : World) (hbs : base ≤ w.heap.size) (hF0 : ∀ a, F0 a → base ≤ a.block) (hk : k0 + cntRow rLink x.Links ≤ 1000000000) (h1k : 1 ≤ k0) (hv : RowRd rLink true w v0 x.Links F0) :
    Calls Tryz.prog 39 #[.agg #[v0], .int .i64 z] w fun e w' => e = .returned (.int .i64 ((k0 + cntRow rLink x.Links : Nat) : Int)) ∧ RowRd rLink true w' v0 (labRow rLink k0 x.Links) F0 ∧ Unch F0 w w' ∧ Below base w w' := by
  subst hz
  have HM : Hid (∀ W, Below w.heap.size w W → Calls Tryz.prog 84 #[v0, .int .i64 (k0 : Int)] W fun e w' => e = .returned (.int .i64 ((k0 + cntRow rLink x.Links : Nat) : Int)) ∧ RowRd rLink true w' v0 (labRow rLink k0 x.Links) F0 ∧ Unch F0 W w' ∧ Below base W w') := fun W hW => markLinkS_any v0 x.Links _ k0 rfl base F0 W hF0 hk h1k (hv.kept hW)
  clear hv
  generalize k0 + cntRow rLink x.Links = c at *
  go_enter Tryz.func39, Tryz.ntmps39
  go_wp2_with fail
  refine (HM.out _ ((Below.refl _ _).alloc (Nat.le_refl _) _)).mono ?_
  rintro e w1 ⟨rfl, hq, hu, hb⟩
  have HQ := Lib.hid hq
  have HU := Lib.hid ((Unch.below (F := F0) ((Below.refl _ _).alloc (Nat.le_refl _) _)).trans hu)
  have HB := Lib.hid (((Below.refl base w).alloc hbs _).trans hb)
  clear hq hu hb
  go_wp2
  go_ret
  exact ⟨rfl, HQ.out, HU.out, HB.out⟩
end Go.Proofs.YtkaihnlknncfdaaGreatDoor

/- The walk of FnExactProfileOf: it returns true at every row of texts and every candidate. -/
namespace Go.Proofs.YtkaihnlknncfdaaGreatDoor.fnExactProfileOf
open Go.RowKit Go.Proofs.YtkaihnlknncfdaaGreatDoor
set_option linter.unusedVariables false
set_option linter.unusedSimpArgs false

theorem cnt_strs (l : List ByteArray) : cntRow (Rep.str mkT) l = l.length := by
  unfold cntRow
  induction l with
  | nil => rfl
  | cons a l ih => simp only [List.map_cons, List.sum_cons, List.length_cons] at ih ⊢; rw [ih, show (Rep.str mkT).cnt a = 1 from rfl]; omega
/-- A row of numbers, laid since a world. -/
def RowI (w0 : World) (D : List Int) (v : Value) (w : World) : Prop := RowRd Rep.int true w v D (fun a => w0.heap.size ≤ a.block) ∧ Below w0.heap.size w0 w
theorem bel_alP {w0 w : World} (h : Below w0.heap.size w0 w) (o : Obj) : Below w0.heap.size w0 (w.alloc o) := h.alloc h.size o
theorem sizeAP (w : World) (o : Obj) : (w.alloc o).heap.size = w.heap.size + 1 := by simp
set_option maxRecDepth 4000000 in
set_option maxHeartbeats 16000000 in
theorem walk (w : World) (hT : FeatTab w) (vn : Value) (ns : List ByteArray) (Fn : Addr → Prop) (hn : RowRd (Rep.str mkT) false w vn ns Fn) (x : DCandidate) (F : Addr → Prop) (v : Value) (hv : RowRd rLink false w v x.Links F) :
    Calls Tryz.prog 7 #[vn, .agg #[v]] w fun e w' => e = .returned (.bool true) ∧ Below w.heap.size w w' := by
  obtain ⟨An, capn, rfl⟩ := hn.form
  obtain ⟨Ax, capx, rfl⟩ := hv.form
  have HVn := Lib.hid hn.tight
  have HVx := Lib.hid hv.tight
  have HTW := Lib.hid hT
  clear hn hv hT
  have HB := Lib.hid (Below.refl w.heap.size w)
  go_enter Tryz.func7, Tryz.ntmps7
  have HC : Hid (∀ W, Below w.heap.size w W → Calls Tryz.prog 32 #[.slice An ns.length capn, .int .i64 1048576] W fun e w' => (∃ z : Int, e = .returned (.int .i64 z) ∧ (z < 0 ∨ z + (szRow (Rep.str mkT) ns : Nat) = 1048576 ∧ 0 ≤ z)) ∧ Below W.heap.size W w') := fun W hW => szStringS_any _ ns 1048576 _ W (by omega) (by omega) (HVn.out.kept hW)
  go_wp2_with fail
  refine (HC.out _ (by first | exact Below.refl _ _ | exact (Below.refl _ _).alloc (Nat.le_refl _) _ | exact (Below.refl _ _).drew)).mono ?_
  rintro e w1 ⟨⟨z, rfl, hz⟩, hb⟩
  have hbn : Below w.heap.size w w1 := below_step (by first | exact Below.refl _ _ | exact (Below.refl _ _).alloc (Nat.le_refl _) _ | exact (Below.refl _ _).drew) hb
  have hs1 : Hid (w.heap.size ≤ w1.heap.size) := hbn.size
  replace HVn := Lib.hid (HVn.out.kept hbn)
  replace HVx := Lib.hid (HVx.out.kept hbn)
  replace HB := Lib.hid (HB.out.trans (hbn.mono HB.out.size))
  have HA : Hid (InC w1 w.heap.size #[.slice Ax x.Links.length capx] 49) := (hb.block _ (by simp)).trans (heap_alloc_new _ _)
  have HA0 : Hid (w.heap.size < w1.heap.size) := (HA.out.lt : _ < _)
  clear hb hbn HC
  by_cases hneg : z < 0
  case pos =>
    go_wp2
    go_ret
    exact ⟨rfl, HB.out⟩
  have hz2 := hz.resolve_left hneg
  have HSZn : Hid (szRow (Rep.str mkT) ns ≤ 1048576) := by unfold Hid; omega
  have HFLn : Hid (ns.length ≤ 1048576) := by unfold Hid; have h1 := HSZn.out; have := szRow_len (Rep.str mkT) ns; omega
  have hz0 : 0 ≤ z := hz2.2
  have hz1 : z ≤ 1048576 := by omega
  clear hz hz2
  have HC : Hid (∀ W, Below w1.heap.size w1 W → Calls Tryz.prog 33 #[.agg #[.slice Ax x.Links.length capx], .int .i64 z] W fun e w' => (∃ z2 : Int, e = .returned (.int .i64 z2) ∧ (z2 < 0 ∨ z2 + (rCandidate.sz x : Nat) = z ∧ 0 ≤ z2)) ∧ Below W.heap.size W w') := fun W hW => szCandidate_any x _ z _ W hz0 hz1 (HVx.out.kept hW)
  have bHA := HA.out.cell 0 rfl
  go_wp2_with fail
  refine (HC.out _ (by first | exact Below.refl _ _ | exact (Below.refl _ _).alloc (Nat.le_refl _) _ | exact (Below.refl _ _).drew)).mono ?_
  rintro e w2 ⟨⟨z2, rfl, hzz⟩, hb⟩
  clear bHA
  have hbn : Below w1.heap.size w1 w2 := below_step (by first | exact Below.refl _ _ | exact (Below.refl _ _).alloc (Nat.le_refl _) _ | exact (Below.refl _ _).drew) hb
  have hs2 : Hid (w1.heap.size ≤ w2.heap.size) := hbn.size
  replace HVn := Lib.hid (HVn.out.kept hbn)
  replace HVx := Lib.hid (HVx.out.kept hbn)
  replace HB := Lib.hid (HB.out.trans (hbn.mono HB.out.size))
  replace HA := Lib.hid (HA.out.kept hbn)
  clear hb hbn HC
  by_cases hneg2 : z2 < 0
  case pos =>
    go_wp2
    go_ret
    exact ⟨rfl, HB.out⟩
  have hz3 := hzz.resolve_left hneg2
  have HSZx : Hid (rCandidate.sz x ≤ 1048576) := by unfold Hid; omega
  have HFLx : Hid (x.Links.length ≤ 1048576) := by unfold Hid; have h1 := HSZx.out; rw [rCandidate_sz] at h1; have := szRow_len rLink x.Links; omega
  clear hzz hz3 hz0 hz1
  have HDL : Hid ((profN ns x.Links).length ≤ 5) := profN_len _ _
  have HSP : Hid (∀ (A B : Option Addr) (F G : Addr → Prop) (W : World), RowRd (Rep.str mkT) true W (.slice A ns.length ns.length) ns F → RowRd rLink true W (.slice B x.Links.length x.Links.length) x.Links G → Calls Tryz.prog 34 #[.slice A ns.length ns.length, .agg #[.slice B x.Links.length x.Links.length]] W (IntPost (profN ns x.Links) W)) := fun A B F G W h1 h2 => specProf_any mkT ns A _ _ x _ _ W HFLn.out HFLx.out (Nat.le_refl _) h1.weak h2.weak
  have HIM : Hid (∀ (A B : Option Addr) (F G : Addr → Prop) (W : World), FeatTab W → RowRd (Rep.str mkT) true W (.slice A ns.length ns.length) ns F → RowRd rLink true W (.slice B x.Links.length x.Links.length) x.Links G → Calls Tryz.prog 37 #[.slice A ns.length ns.length, .agg #[.slice B x.Links.length x.Links.length]] W (IntPost (profN ns x.Links) W)) := fun A B F G W hF h1 h2 => implProf_any mkT ns A _ _ x B _ _ W HFLn.out HFLx.out (Nat.le_refl _) (Nat.le_refl _) h1.weak h2.weak hF
  generalize profN ns x.Links = D at *
  have HKC : Hid (∀ W : World, Below w2.heap.size w2 W → W.cell? ⟨w.heap.size, 0, none⟩ = some (.slice Ax x.Links.length capx)) := fun W hW => (HA.out.kept hW).cell 0 rfl
  have HTn : Hid (∀ W, Below w2.heap.size w2 W → Calls Tryz.prog 35 #[.slice An ns.length capn] W fun e w' => ∃ A0, e = .returned (.slice A0 ns.length ns.length) ∧ RowRd (Rep.str mkT) true w' (.slice A0 ns.length ns.length) ns (fun a => W.heap.size ≤ a.block) ∧ Below W.heap.size W w' ∧ Below w2.heap.size w2 w') := fun W hW => (toStringS_any _ ns _ W HSZn.out (HVn.out.kept hW)).mono fun e w' ⟨A0, h1, h2, h3⟩ => ⟨A0, h1, h2, h3, below_step hW h3⟩
  have HTx : Hid (∀ W, Below w2.heap.size w2 W → Calls Tryz.prog 36 #[.agg #[.slice Ax x.Links.length capx]] W fun e w' => ∃ A0, e = .returned (.agg #[.slice A0 x.Links.length x.Links.length]) ∧ RowRd rLink true w' (.slice A0 x.Links.length x.Links.length) x.Links (fun a => W.heap.size ≤ a.block) ∧ Below W.heap.size W w' ∧ Below w2.heap.size w2 w') := fun W hW => (toCandidate_cap x _ W _ (HVx.out.kept hW) HSZx.out).mono fun e w' ⟨A0, h1, h2, h3⟩ => ⟨A0, h1, h2, h3, below_step hW h3⟩
  have HFT : Hid (FeatTab w2) := feat_below HTW.out HB.out
  have ha0 := HA.out.cell 0 rfl
  go_upto_region 8 with fail
  go_cut [6] (fun b wx => ∃ (A0 : Option Addr) (c0 : Nat), b = .slice A0 D.length c0 ∧ RowI w2 D (.slice A0 D.length c0) wx)
  case first =>
    have hbe : Below w2.heap.size w2 w2.drew := (Below.refl _ _).drew
    go_region_held3 (fun w' => w'.cell? ⟨w.heap.size, 0, none⟩ = some (.slice Ax x.Links.length capx))
      (first | with_reducible exact HKC.out _ hbe | exact HKC.out _ hbe | go_keep)
      (first
        | (go_at_call 35; refine (HTn.out _ ?_).mono ?_; (first | with_reducible exact hbe | exact (Below.refl _ _).drew); rintro e wa ⟨A5, rfl, hq5, hs5, hbe⟩; have HQN := Lib.hid hq5; (try have HQX2 := Lib.hid (HQX.out.kept hs5)))
        | (go_at_call 36; refine (HTx.out _ ?_).mono ?_; (first | with_reducible exact hbe | exact (Below.refl _ _).drew); rintro e wb ⟨A6, rfl, hq6, hs6, hbe⟩; have HQX := Lib.hid hq6; have HQX2 := Lib.hid hq6; (try have HQN2 := Lib.hid (HQN.out.kept hs6)))
        | (go_at_call 34; refine (HSP.out A5 A6 _ _ _ (by first | with_reducible exact HQN2.out | exact HQN.out) (by first | with_reducible exact HQX2.out | exact HQX.out)).mono ?_; rintro e wz ⟨u, rfl, hqz, hsz⟩; obtain ⟨A7, c7, rfl⟩ := hqz.form; have HQZ := Lib.hid hqz; have hsz0 := Below.size hbe; have hbe : Below w2.heap.size w2 wz := below_step hbe hsz))
    all_goals
      go_wp2_with fail
      go_meet
      exact ⟨_, _, rfl, HQZ.out.mono (fun a ha => Nat.le_trans hsz0 ha), hbe⟩
  case rest =>
  obtain ⟨A0, c0, rfl, hbr⟩ := hcut
  have hbn : Below w2.heap.size w2 wc := hbr.2
  generalize wc = w3 at *
  have hs3 : Hid (w2.heap.size ≤ w3.heap.size) := hbn.size
  replace HVn := Lib.hid (HVn.out.kept hbn)
  replace HVx := Lib.hid (HVx.out.kept hbn)
  replace HB := Lib.hid (HB.out.trans (hbn.mono HB.out.size))
  replace HA := Lib.hid (HA.out.kept hbn)
  have HW0 : Hid (RowRd Rep.int true w3 (.slice A0 D.length c0) D (fun a => w2.heap.size ≤ a.block ∧ a.block < w3.heap.size)) := hbr.1.tight
  clear HKC HTn HTx HFT hbr hbn ha0
  have HC : Hid (∀ W, Below w3.heap.size w3 W → Calls Tryz.prog 35 #[.slice An ns.length capn] W (OwnPostS ns W)) := fun W hW => toStringS_any _ ns _ W HSZn.out (HVn.out.kept hW)
  have bHA := HA.out.cell 0 rfl
  go_wp2_with fail
  refine (HC.out _ (by first | exact Below.refl _ _ | exact (Below.refl _ _).alloc (Nat.le_refl _) _ | exact (Below.refl _ _).drew)).mono ?_
  rintro e w4 ⟨Ax0, rfl, hq, hb⟩
  clear bHA
  have hbn : Below w3.heap.size w3 w4 := below_step (by first | exact Below.refl _ _ | exact (Below.refl _ _).alloc (Nat.le_refl _) _ | exact (Below.refl _ _).drew) hb
  have hs4 : Hid (w3.heap.size ≤ w4.heap.size) := hbn.size
  replace HVn := Lib.hid (HVn.out.kept hbn)
  replace HVx := Lib.hid (HVx.out.kept hbn)
  replace HB := Lib.hid (HB.out.trans (hbn.mono HB.out.size))
  replace HA := Lib.hid (HA.out.kept hbn)
  replace HW0 := Lib.hid (HW0.out.kept hbn)
  have Hx0 : Hid (RowRd (Rep.str mkT) true w4 (.slice Ax0 ns.length ns.length) ns (fun a => w3.heap.size ≤ a.block ∧ a.block < w4.heap.size)) := hq.tight
  clear hb hbn HC hq
  have HC : Hid (∀ W, Below w4.heap.size w4 W → Calls Tryz.prog 36 #[.agg #[.slice Ax x.Links.length capx]] W fun e w' => ∃ A0, e = .returned (.agg #[.slice A0 x.Links.length x.Links.length]) ∧ RowRd rLink true w' (.slice A0 x.Links.length x.Links.length) x.Links (fun a => W.heap.size ≤ a.block) ∧ Below W.heap.size W w') := fun W hW => toCandidate_cap x _ W _ (HVx.out.kept hW) HSZx.out
  have bHA := HA.out.cell 0 rfl
  go_wp2_with fail
  refine (HC.out _ (by first | exact Below.refl _ _ | exact (Below.refl _ _).alloc (Nat.le_refl _) _ | exact (Below.refl _ _).drew)).mono ?_
  rintro e w5 ⟨Ax1, rfl, hq, hb⟩
  clear bHA
  have hbn : Below w4.heap.size w4 w5 := below_step (by first | exact Below.refl _ _ | exact (Below.refl _ _).alloc (Nat.le_refl _) _ | exact (Below.refl _ _).drew) hb
  have hs5 : Hid (w4.heap.size ≤ w5.heap.size) := hbn.size
  replace HVn := Lib.hid (HVn.out.kept hbn)
  replace HVx := Lib.hid (HVx.out.kept hbn)
  replace HB := Lib.hid (HB.out.trans (hbn.mono HB.out.size))
  replace HA := Lib.hid (HA.out.kept hbn)
  replace HW0 := Lib.hid (HW0.out.kept hbn)
  replace Hx0 := Lib.hid (Hx0.out.kept hbn)
  have Hx1 : Hid (RowRd rLink true w5 (.slice Ax1 x.Links.length x.Links.length) x.Links (fun a => w4.heap.size ≤ a.block ∧ a.block < w5.heap.size)) := hq.tight
  clear hb hbn HC hq
  have HC : Hid (∀ W, Below w5.heap.size w5 W → Calls Tryz.prog 37 #[.slice Ax0 ns.length ns.length, .agg #[.slice Ax1 x.Links.length x.Links.length]] W (IntPost D W)) := fun W hW => HIM.out _ _ _ _ W (feat_below (feat_below HTW.out HB.out) hW) (Hx0.out.kept hW) (Hx1.out.kept hW)
  have bHA := HA.out.cell 0 rfl
  go_wp2_with fail
  refine (HC.out _ (by first | exact Below.refl _ _ | exact (Below.refl _ _).alloc (Nat.le_refl _) _ | exact (Below.refl _ _).drew)).mono ?_
  rintro e w6 ⟨g1, rfl, hq, hb⟩
  clear bHA
  have hbn : Below w5.heap.size w5 w6 := below_step (by first | exact Below.refl _ _ | exact (Below.refl _ _).alloc (Nat.le_refl _) _ | exact (Below.refl _ _).drew) hb
  have hs6 : Hid (w5.heap.size ≤ w6.heap.size) := hbn.size
  replace HVn := Lib.hid (HVn.out.kept hbn)
  replace HVx := Lib.hid (HVx.out.kept hbn)
  replace HB := Lib.hid (HB.out.trans (hbn.mono HB.out.size))
  replace HA := Lib.hid (HA.out.kept hbn)
  replace HW0 := Lib.hid (HW0.out.kept hbn)
  replace Hx0 := Lib.hid (Hx0.out.kept hbn)
  replace Hx1 := Lib.hid (Hx1.out.kept hbn)
  obtain ⟨Ag, cg, rfl⟩ := hq.form
  have HX1 : Hid (InC w6 w5.heap.size #[.slice Ax1 x.Links.length x.Links.length] 55) := (hb.block _ (by simp)).trans (heap_alloc_new _ _)
  have Hg : Hid (RowRd Rep.int true w6 (.slice Ag D.length cg) D (fun a => w5.heap.size < a.block ∧ a.block < w6.heap.size)) := hq.tight.mono (fun a ha => ⟨by have h := ha.1; rw [sizeAP] at h; omega, ha.2⟩)
  clear hb hbn HC hq
  have HC : Hid (∀ W, Below w6.heap.size w6 W → Calls Tryz.prog 17 #[.slice Ag D.length cg, .slice A0 D.length c0] W fun e w' => e = .returned (.bool true) ∧ Below W.heap.size W w') := fun W hW => eqIntS_any _ _ D _ _ W (Hg.out.kept hW).weak (HW0.out.kept hW).weak
  have bHA := HA.out.cell 0 rfl
  have bHX1 := HX1.out.cell 0 rfl
  go_wp2_with fail
  refine (HC.out _ (by first | exact Below.refl _ _ | exact (Below.refl _ _).alloc (Nat.le_refl _) _ | exact (Below.refl _ _).drew)).mono ?_
  rintro e w7 ⟨rfl, hb⟩
  clear bHA bHX1
  have hbn : Below w6.heap.size w6 w7 := below_step (by first | exact Below.refl _ _ | exact (Below.refl _ _).alloc (Nat.le_refl _) _ | exact (Below.refl _ _).drew) hb
  have hs7 : Hid (w6.heap.size ≤ w7.heap.size) := hbn.size
  replace HVn := Lib.hid (HVn.out.kept hbn)
  replace HVx := Lib.hid (HVx.out.kept hbn)
  replace HB := Lib.hid (HB.out.trans (hbn.mono HB.out.size))
  replace HA := Lib.hid (HA.out.kept hbn)
  replace HW0 := Lib.hid (HW0.out.kept hbn)
  replace Hx0 := Lib.hid (Hx0.out.kept hbn)
  replace Hx1 := Lib.hid (Hx1.out.kept hbn)
  replace HX1 := Lib.hid (HX1.out.kept hbn)
  replace Hg := Lib.hid (Hg.out.kept hbn)
  clear hb hbn HC
  have HC : Hid (∀ W, Below w7.heap.size w7 W → Calls Tryz.prog 35 #[.slice An ns.length capn] W (OwnPostS ns W)) := fun W hW => toStringS_any _ ns _ W HSZn.out (HVn.out.kept hW)
  have bHA := HA.out.cell 0 rfl
  have bHX1 := HX1.out.cell 0 rfl
  go_wp2_with fail
  refine (HC.out _ (by first | exact Below.refl _ _ | exact (Below.refl _ _).alloc (Nat.le_refl _) _ | exact (Below.refl _ _).drew)).mono ?_
  rintro e w8 ⟨Au0, rfl, hq, hb⟩
  clear bHA bHX1
  have hbn : Below w7.heap.size w7 w8 := below_step (by first | exact Below.refl _ _ | exact (Below.refl _ _).alloc (Nat.le_refl _) _ | exact (Below.refl _ _).drew) hb
  have hs8 : Hid (w7.heap.size ≤ w8.heap.size) := hbn.size
  replace HVn := Lib.hid (HVn.out.kept hbn)
  replace HVx := Lib.hid (HVx.out.kept hbn)
  replace HB := Lib.hid (HB.out.trans (hbn.mono HB.out.size))
  replace HA := Lib.hid (HA.out.kept hbn)
  replace HW0 := Lib.hid (HW0.out.kept hbn)
  replace Hx0 := Lib.hid (Hx0.out.kept hbn)
  replace Hx1 := Lib.hid (Hx1.out.kept hbn)
  replace HX1 := Lib.hid (HX1.out.kept hbn)
  replace Hg := Lib.hid (Hg.out.kept hbn)
  have Hu0 := Lib.hid hq.tight
  clear hb hbn HC hq
  have HC : Hid (∀ W, Below w8.heap.size w8 W → Calls Tryz.prog 24 #[.slice Ax0 ns.length ns.length, .slice Au0 ns.length ns.length] W fun e w' => e = .returned (.bool true) ∧ Below W.heap.size W w') := fun W hW => eqStrs_any _ _ ns _ _ W (Hx0.out.kept hW).weak (Hu0.out.kept hW).weak
  have bHA := HA.out.cell 0 rfl
  have bHX1 := HX1.out.cell 0 rfl
  go_wp2_with fail
  refine (HC.out _ (by first | exact Below.refl _ _ | exact (Below.refl _ _).alloc (Nat.le_refl _) _ | exact (Below.refl _ _).drew)).mono ?_
  rintro e w9 ⟨rfl, hb⟩
  clear bHA bHX1
  have hbn : Below w8.heap.size w8 w9 := below_step (by first | exact Below.refl _ _ | exact (Below.refl _ _).alloc (Nat.le_refl _) _ | exact (Below.refl _ _).drew) hb
  have hs9 : Hid (w8.heap.size ≤ w9.heap.size) := hbn.size
  replace HVn := Lib.hid (HVn.out.kept hbn)
  replace HVx := Lib.hid (HVx.out.kept hbn)
  replace HB := Lib.hid (HB.out.trans (hbn.mono HB.out.size))
  replace HA := Lib.hid (HA.out.kept hbn)
  replace HW0 := Lib.hid (HW0.out.kept hbn)
  replace Hx0 := Lib.hid (Hx0.out.kept hbn)
  replace Hx1 := Lib.hid (Hx1.out.kept hbn)
  replace HX1 := Lib.hid (HX1.out.kept hbn)
  replace Hg := Lib.hid (Hg.out.kept hbn)
  replace Hu0 := Lib.hid (Hu0.out.kept hbn)
  clear hb hbn HC
  clear Hu0
  have HT : Hid (∀ W, Below w9.heap.size w9 W → Calls Tryz.prog 36 #[.agg #[.slice Ax x.Links.length capx]] W fun e w' => ∃ u, e = .returned (.agg #[u]) ∧ RowRd rLink true w' u x.Links (fun a => W.heap.size ≤ a.block) ∧ Below W.heap.size W w') := fun W hW => toCandidate_any x _ W _ (HVx.out.kept hW) HSZx.out
  have HE : Hid (∀ (W : World) (u : Value) (G : Addr → Prop), Below w9.heap.size w9 W → RowRd rLink true W u x.Links G → Calls Tryz.prog 38 #[.agg #[.slice Ax1 x.Links.length x.Links.length], .agg #[u]] W fun e w' => e = .returned (.bool true) ∧ Below W.heap.size W w') := fun W u G hW hu => eqCandidate_any x _ _ W _ _ (Hx1.out.kept hW).weak hu.weak
  have HXK : Hid (∀ W : World, Below w9.heap.size w9 W → InC W _ #[.slice Ax1 x.Links.length x.Links.length] 55) := fun W hW => HX1.out.kept hW
  have bHA := HA.out.cell 0 rfl
  have bHX1 := HX1.out.cell 0 rfl
  go_upto_region 16 with fail
  go_cut [49] (fun b wx => b = .bool false ∧ Below w9.heap.size w9 wx)
  case first =>
    go_region_with (first | (go_simp; go_at_call 36; refine (HT.out _ ((Below.refl _ _).drew)).mono ?_; rintro e wt ⟨ut, rfl, hqt, hbt0⟩; have hbt : Below w9.heap.size w9 wt := below_step ((Below.refl _ _).drew) hbt0; obtain ⟨At, ct, rfl⟩ := hqt.form; have e0 := (HXK.out _ hbt).cell 0 rfl; have HBT := Lib.hid hbt; have HQT := Lib.hid hqt; clear hbt0 hqt hbt) | (go_simp; go_at_call 38; refine (HE.out _ _ _ HBT.out HQT.out).mono ?_; rintro e wz ⟨rfl, hbz0⟩; have HBZ := Lib.hid (below_step HBT.out hbz0); clear hbz0))
    all_goals
      go_wp2_with fail
      go_meet
      exact ⟨rfl, HBZ.out⟩
  case rest =>
  obtain ⟨rfl, hbn⟩ := hcut
  clear bHA bHX1
  clear HT HE HXK
  generalize wc = w10 at *
  have hs10 : Hid (w9.heap.size ≤ w10.heap.size) := hbn.size
  replace HVn := Lib.hid (HVn.out.kept hbn)
  replace HVx := Lib.hid (HVx.out.kept hbn)
  replace HB := Lib.hid (HB.out.trans (hbn.mono HB.out.size))
  replace HA := Lib.hid (HA.out.kept hbn)
  replace HW0 := Lib.hid (HW0.out.kept hbn)
  replace Hx0 := Lib.hid (Hx0.out.kept hbn)
  replace Hx1 := Lib.hid (Hx1.out.kept hbn)
  replace HX1 := Lib.hid (HX1.out.kept hbn)
  replace Hg := Lib.hid (Hg.out.kept hbn)
  clear hbn
  have HCD : Hid (1 + cntRow Rep.int D ≤ 1000000000) := by unfold Hid; have h1 := cntRow_int D; have h2 := HDL.out; omega
  have HCS : Hid (cntRow (Rep.str mkT) ns = ns.length) := cnt_strs ns
  obtain ⟨kx, hkx⟩ : ∃ q : Nat, 1 + cntRow (Rep.str mkT) ns = q := ⟨_, rfl⟩
  obtain ⟨ky, hky⟩ : ∃ q : Nat, kx + cntRow rLink x.Links = q := ⟨_, rfl⟩
  have hkx1 : kx ≤ 2100000 := by have h1 := HCS.out; have h2 := HFLn.out; omega
  have hky1 : ky ≤ 5000000 := by have h1 := cnt_links x.Links; have h2 := HFLx.out; omega
  have hkx0 : 1 ≤ kx := by omega
  have hny : ¬ ((ky : Nat) : Int) < 0 := by omega
  replace HX1 : Hid (BoxC w10 w5.heap.size (.slice Ax1 x.Links.length x.Links.length)) := ⟨InC.cell HX1.out 0 rfl, InC.lt HX1.out⟩
  have HM := Lib.hid (markStrs_any (.slice Ax0 ns.length ns.length) ns 1 1 rfl w3.heap.size _ w10 (fun a ha => ha.1) (by omega) (Nat.le_refl 1) (by have := hs1.out; have := hs2.out; have := hs3.out; have := hs4.out; have := hs5.out; have := hs6.out; have := hs7.out; have := hs8.out; have := hs9.out; have := hs10.out; omega) Hx0.out)
  rw [hkx] at HM
  have bHA := HA.out.cell 0 rfl
  have bHX1 := HX1.out.1
  go_wp2_with fail
  refine HM.out.mono ?_
  rintro e w11 ⟨rfl, hq, hu, hb⟩
  clear bHA bHX1
  have hs11 : Hid (w10.heap.size ≤ w11.heap.size) := hb.size
  replace HVn := Lib.hid (HVn.out.apart hu (fun a ha hf => by have := hs1.out; have := hs2.out; have := hs3.out; have := hs4.out; have := hs5.out; have := hs6.out; have := hs7.out; have := hs8.out; have := hs9.out; have := hs10.out; have := hs11.out; omega))
  replace HVx := Lib.hid (HVx.out.apart hu (fun a ha hf => by have := hs1.out; have := hs2.out; have := hs3.out; have := hs4.out; have := hs5.out; have := hs6.out; have := hs7.out; have := hs8.out; have := hs9.out; have := hs10.out; have := hs11.out; omega))
  replace HB := Lib.hid (HB.out.trans (hb.mono (by have := hs1.out; have := hs2.out; have := hs3.out; have := hs4.out; have := hs5.out; have := hs6.out; have := hs7.out; have := hs8.out; have := hs9.out; have := hs10.out; have := hs11.out; omega)))
  replace HA := Lib.hid (InC.keptB HA.out hb (by have := HA0.out; have := hs1.out; have := hs2.out; have := hs3.out; have := hs4.out; have := hs5.out; have := hs6.out; have := hs7.out; have := hs8.out; have := hs9.out; have := hs10.out; have := hs11.out; omega))
  replace HW0 := Lib.hid (HW0.out.apart hu (fun a ha hf => by have := hs1.out; have := hs2.out; have := hs3.out; have := hs4.out; have := hs5.out; have := hs6.out; have := hs7.out; have := hs8.out; have := hs9.out; have := hs10.out; have := hs11.out; omega))
  replace Hx0 := Lib.hid hq
  replace Hx1 := Lib.hid (Hx1.out.apart hu (fun a ha hf => by have := hs1.out; have := hs2.out; have := hs3.out; have := hs4.out; have := hs5.out; have := hs6.out; have := hs7.out; have := hs8.out; have := hs9.out; have := hs10.out; have := hs11.out; omega))
  replace HX1 := Lib.hid (HX1.out.apart hu (fun hf => by have h1 := hf.1; have h2 := hf.2; dsimp only at h1 h2; have := hs1.out; have := hs2.out; have := hs3.out; have := hs4.out; have := hs5.out; have := hs6.out; have := hs7.out; have := hs8.out; have := hs9.out; have := hs10.out; have := hs11.out; omega))
  replace Hg := Lib.hid (Hg.out.apart hu (fun a ha hf => by have := hs1.out; have := hs2.out; have := hs3.out; have := hs4.out; have := hs5.out; have := hs6.out; have := hs7.out; have := hs8.out; have := hs9.out; have := hs10.out; have := hs11.out; omega))
  clear HM hq hu hb
  clear Hx0
  have HM := Lib.hid (markCandidate_any x (.slice Ax1 x.Links.length x.Links.length) kx kx rfl w4.heap.size _ w11 (by have := hs1.out; have := hs2.out; have := hs3.out; have := hs4.out; have := hs5.out; have := hs6.out; have := hs7.out; have := hs8.out; have := hs9.out; have := hs10.out; have := hs11.out; omega) (fun a ha => ha.1) (by omega) hkx0 Hx1.out)
  rw [hky] at HM
  have bHA := HA.out.cell 0 rfl
  have bHX1 := HX1.out.1
  go_wp2_with fail
  refine HM.out.mono ?_
  rintro e w12 ⟨rfl, hq, hu, hb⟩
  clear bHA bHX1
  have hs12 : Hid (w11.heap.size ≤ w12.heap.size) := hb.size
  replace HVn := Lib.hid (HVn.out.apart hu (fun a ha hf => by have := hs1.out; have := hs2.out; have := hs3.out; have := hs4.out; have := hs5.out; have := hs6.out; have := hs7.out; have := hs8.out; have := hs9.out; have := hs10.out; have := hs11.out; have := hs12.out; omega))
  replace HVx := Lib.hid (HVx.out.apart hu (fun a ha hf => by have := hs1.out; have := hs2.out; have := hs3.out; have := hs4.out; have := hs5.out; have := hs6.out; have := hs7.out; have := hs8.out; have := hs9.out; have := hs10.out; have := hs11.out; have := hs12.out; omega))
  replace HB := Lib.hid (HB.out.trans (hb.mono (by have := hs1.out; have := hs2.out; have := hs3.out; have := hs4.out; have := hs5.out; have := hs6.out; have := hs7.out; have := hs8.out; have := hs9.out; have := hs10.out; have := hs11.out; have := hs12.out; omega)))
  replace HA := Lib.hid (InC.keptB HA.out hb (by have := HA0.out; have := hs1.out; have := hs2.out; have := hs3.out; have := hs4.out; have := hs5.out; have := hs6.out; have := hs7.out; have := hs8.out; have := hs9.out; have := hs10.out; have := hs11.out; have := hs12.out; omega))
  replace HW0 := Lib.hid (HW0.out.apart hu (fun a ha hf => by have := hs1.out; have := hs2.out; have := hs3.out; have := hs4.out; have := hs5.out; have := hs6.out; have := hs7.out; have := hs8.out; have := hs9.out; have := hs10.out; have := hs11.out; have := hs12.out; omega))
  replace Hx1 := Lib.hid hq
  replace HX1 := Lib.hid (HX1.out.apart hu (fun hf => by have h1 := hf.1; have h2 := hf.2; dsimp only at h1 h2; have := hs1.out; have := hs2.out; have := hs3.out; have := hs4.out; have := hs5.out; have := hs6.out; have := hs7.out; have := hs8.out; have := hs9.out; have := hs10.out; have := hs11.out; have := hs12.out; omega))
  replace Hg := Lib.hid (Hg.out.apart hu (fun a ha hf => by have := hs1.out; have := hs2.out; have := hs3.out; have := hs4.out; have := hs5.out; have := hs6.out; have := hs7.out; have := hs8.out; have := hs9.out; have := hs10.out; have := hs11.out; have := hs12.out; omega))
  clear HM hq hu hb
  clear Hx1
  clear HX1
  have HC : Hid (∀ W, Below w12.heap.size w12 W → Calls Tryz.prog 17 #[.slice Ag D.length cg, .slice A0 D.length c0] W fun e w' => e = .returned (.bool true) ∧ Below W.heap.size W w') := fun W hW => eqIntS_any _ _ D _ _ W (Hg.out.kept hW).weak (HW0.out.kept hW).weak
  have bHA := HA.out.cell 0 rfl
  go_wp2_with fail
  refine (HC.out _ (by first | exact Below.refl _ _ | exact (Below.refl _ _).alloc (Nat.le_refl _) _ | exact (Below.refl _ _).drew)).mono ?_
  rintro e w13 ⟨rfl, hb⟩
  clear bHA
  have hbn : Below w12.heap.size w12 w13 := below_step (by first | exact Below.refl _ _ | exact (Below.refl _ _).alloc (Nat.le_refl _) _ | exact (Below.refl _ _).drew) hb
  have hs13 : Hid (w12.heap.size ≤ w13.heap.size) := hbn.size
  replace HVn := Lib.hid (HVn.out.kept hbn)
  replace HVx := Lib.hid (HVx.out.kept hbn)
  replace HB := Lib.hid (HB.out.trans (hbn.mono HB.out.size))
  replace HA := Lib.hid (HA.out.kept hbn)
  replace HW0 := Lib.hid (HW0.out.kept hbn)
  replace Hg := Lib.hid (Hg.out.kept hbn)
  clear hb hbn HC
  obtain ⟨kd, hkd⟩ : ∃ q : Nat, 1 + cntRow Rep.int D = q := ⟨_, rfl⟩
  have hnd : ¬ ((kd : Nat) : Int) < 0 := by omega
  have HM := Lib.hid (markIntS_any (.slice Ag D.length cg) D 1 1 rfl w5.heap.size _ w13 (fun a ha => Nat.le_of_lt ha.1) HCD.out (Nat.le_refl 1) Hg.out)
  rw [hkd] at HM
  have bHA := HA.out.cell 0 rfl
  go_wp2_with fail
  refine HM.out.mono ?_
  rintro e w14 ⟨rfl, hq, hu, hb⟩
  clear bHA
  have hs14 : Hid (w13.heap.size ≤ w14.heap.size) := hb.size
  replace HVn := Lib.hid (HVn.out.apart hu (fun a ha hf => by have := hs1.out; have := hs2.out; have := hs3.out; have := hs4.out; have := hs5.out; have := hs6.out; have := hs7.out; have := hs8.out; have := hs9.out; have := hs10.out; have := hs11.out; have := hs12.out; have := hs13.out; have := hs14.out; omega))
  replace HVx := Lib.hid (HVx.out.apart hu (fun a ha hf => by have := hs1.out; have := hs2.out; have := hs3.out; have := hs4.out; have := hs5.out; have := hs6.out; have := hs7.out; have := hs8.out; have := hs9.out; have := hs10.out; have := hs11.out; have := hs12.out; have := hs13.out; have := hs14.out; omega))
  replace HB := Lib.hid (HB.out.trans (hb.mono (by have := hs1.out; have := hs2.out; have := hs3.out; have := hs4.out; have := hs5.out; have := hs6.out; have := hs7.out; have := hs8.out; have := hs9.out; have := hs10.out; have := hs11.out; have := hs12.out; have := hs13.out; have := hs14.out; omega)))
  replace HA := Lib.hid (InC.keptB HA.out hb (by have := HA0.out; have := hs1.out; have := hs2.out; have := hs3.out; have := hs4.out; have := hs5.out; have := hs6.out; have := hs7.out; have := hs8.out; have := hs9.out; have := hs10.out; have := hs11.out; have := hs12.out; have := hs13.out; have := hs14.out; omega))
  replace HW0 := Lib.hid (HW0.out.apart hu (fun a ha hf => by have := hs1.out; have := hs2.out; have := hs3.out; have := hs4.out; have := hs5.out; have := hs6.out; have := hs7.out; have := hs8.out; have := hs9.out; have := hs10.out; have := hs11.out; have := hs12.out; have := hs13.out; have := hs14.out; omega))
  replace Hg := Lib.hid hq
  clear HM hq hu hb
  have HC : Hid (∀ W, Below w14.heap.size w14 W → Calls Tryz.prog 21 #[.slice Ag D.length cg, .int .i64 1] W fun e w' => e = .returned (.int .i64 ((kd : Nat) : Int)) ∧ Below W.heap.size W w') := fun W hW => by have h := heldIntS_any (.slice Ag D.length cg) D 1 1 rfl _ W HCD.out (Nat.le_refl 1) (Hg.out.kept hW).weak; rw [hkd] at h; exact h
  have bHA := HA.out.cell 0 rfl
  go_wp2_with fail
  refine (HC.out _ (by first | exact Below.refl _ _ | exact (Below.refl _ _).alloc (Nat.le_refl _) _ | exact (Below.refl _ _).drew)).mono ?_
  rintro e w15 ⟨rfl, hb⟩
  clear bHA
  have hbn : Below w14.heap.size w14 w15 := below_step (by first | exact Below.refl _ _ | exact (Below.refl _ _).alloc (Nat.le_refl _) _ | exact (Below.refl _ _).drew) hb
  have hs15 : Hid (w14.heap.size ≤ w15.heap.size) := hbn.size
  replace HVn := Lib.hid (HVn.out.kept hbn)
  replace HVx := Lib.hid (HVx.out.kept hbn)
  replace HB := Lib.hid (HB.out.trans (hbn.mono HB.out.size))
  replace HA := Lib.hid (HA.out.kept hbn)
  replace HW0 := Lib.hid (HW0.out.kept hbn)
  replace Hg := Lib.hid (Hg.out.kept hbn)
  clear hb hbn HC
  have HKC : Hid (∀ W : World, Below w15.heap.size w15 W → W.cell? ⟨w.heap.size, 0, none⟩ = some (.slice Ax x.Links.length capx)) := fun W hW => (HA.out.kept hW).cell 0 rfl
  have HTn : Hid (∀ W, Below w15.heap.size w15 W → Calls Tryz.prog 35 #[.slice An ns.length capn] W fun e w' => ∃ A0, e = .returned (.slice A0 ns.length ns.length) ∧ RowRd (Rep.str mkT) true w' (.slice A0 ns.length ns.length) ns (fun a => W.heap.size ≤ a.block) ∧ Below W.heap.size W w' ∧ Below w15.heap.size w15 w') := fun W hW => (toStringS_any _ ns _ W HSZn.out (HVn.out.kept hW)).mono fun e w' ⟨A0, h1, h2, h3⟩ => ⟨A0, h1, h2, h3, below_step hW h3⟩
  have HTx : Hid (∀ W, Below w15.heap.size w15 W → Calls Tryz.prog 36 #[.agg #[.slice Ax x.Links.length capx]] W fun e w' => ∃ A0, e = .returned (.agg #[.slice A0 x.Links.length x.Links.length]) ∧ RowRd rLink true w' (.slice A0 x.Links.length x.Links.length) x.Links (fun a => W.heap.size ≤ a.block) ∧ Below W.heap.size W w' ∧ Below w15.heap.size w15 w') := fun W hW => (toCandidate_cap x _ W _ (HVx.out.kept hW) HSZx.out).mono fun e w' ⟨A0, h1, h2, h3⟩ => ⟨A0, h1, h2, h3, below_step hW h3⟩
  have HFT : Hid (FeatTab w15) := feat_below HTW.out HB.out
  have ha0 := HA.out.cell 0 rfl
  go_upto_region 31 with fail
  go_cut [13] (fun b wx => ∃ (A0 : Option Addr) (c0 : Nat), b = .slice A0 D.length c0 ∧ RowI w15 D (.slice A0 D.length c0) wx)
  case first =>
    have hbe : Below w15.heap.size w15 w15.drew := (Below.refl _ _).drew
    go_region_held3 (fun w' => w'.cell? ⟨w.heap.size, 0, none⟩ = some (.slice Ax x.Links.length capx))
      (first | with_reducible exact HKC.out _ hbe | exact HKC.out _ hbe | go_keep)
      (first
        | (go_at_call 35; refine (HTn.out _ ?_).mono ?_; (first | with_reducible exact hbe | exact (Below.refl _ _).drew); rintro e wa ⟨A5, rfl, hq5, hs5, hbe⟩; have HQN := Lib.hid hq5; (try have HQX2 := Lib.hid (HQX.out.kept hs5)))
        | (go_at_call 36; refine (HTx.out _ ?_).mono ?_; (first | with_reducible exact hbe | exact (Below.refl _ _).drew); rintro e wb ⟨A6, rfl, hq6, hs6, hbe⟩; have HQX := Lib.hid hq6; have HQX2 := Lib.hid hq6; (try have HQN2 := Lib.hid (HQN.out.kept hs6)))
        | (go_at_call 37; refine (HIM.out A5 A6 _ _ _ (feat_below HFT.out hbe) (by first | with_reducible exact HQN2.out | exact HQN.out) (by first | with_reducible exact HQX2.out | exact HQX.out)).mono ?_; rintro e wz ⟨u, rfl, hqz, hsz⟩; obtain ⟨A7, c7, rfl⟩ := hqz.form; have HQZ := Lib.hid hqz; have hsz0 := Below.size hbe; have hbe : Below w15.heap.size w15 wz := below_step hbe hsz))
    all_goals
      go_wp2_with fail
      go_meet
      exact ⟨_, _, rfl, HQZ.out.mono (fun a ha => Nat.le_trans hsz0 ha), hbe⟩
  case rest =>
  obtain ⟨Ah, ch, rfl, hbr⟩ := hcut
  have hbn : Below w15.heap.size w15 wc := hbr.2
  generalize wc = w16 at *
  have hs16 : Hid (w15.heap.size ≤ w16.heap.size) := hbn.size
  replace HVn := Lib.hid (HVn.out.kept hbn)
  replace HVx := Lib.hid (HVx.out.kept hbn)
  replace HB := Lib.hid (HB.out.trans (hbn.mono HB.out.size))
  replace HA := Lib.hid (HA.out.kept hbn)
  replace HW0 := Lib.hid (HW0.out.kept hbn)
  replace Hg := Lib.hid (Hg.out.kept hbn)
  have Hh : Hid (RowRd Rep.int true w16 (.slice Ah D.length ch) D (fun _ => True)) := hbr.1.mono fun _ _ => trivial
  clear HKC HTn HTx HFT hbr hbn ha0
  have HC : Hid (∀ W, Below w16.heap.size w16 W → Calls Tryz.prog 17 #[.slice Ah D.length ch, .slice A0 D.length c0] W fun e w' => e = .returned (.bool true) ∧ Below W.heap.size W w') := fun W hW => eqIntS_any _ _ D _ _ W (Hh.out.kept hW).weak (HW0.out.kept hW).weak
  have bHA := HA.out.cell 0 rfl
  go_wp2_with fail
  refine (HC.out _ (by first | exact Below.refl _ _ | exact (Below.refl _ _).alloc (Nat.le_refl _) _ | exact (Below.refl _ _).drew)).mono ?_
  rintro e w17 ⟨rfl, hb⟩
  clear bHA
  have hbn : Below w16.heap.size w16 w17 := below_step (by first | exact Below.refl _ _ | exact (Below.refl _ _).alloc (Nat.le_refl _) _ | exact (Below.refl _ _).drew) hb
  have hs17 : Hid (w16.heap.size ≤ w17.heap.size) := hbn.size
  replace HVn := Lib.hid (HVn.out.kept hbn)
  replace HVx := Lib.hid (HVx.out.kept hbn)
  replace HB := Lib.hid (HB.out.trans (hbn.mono HB.out.size))
  replace HA := Lib.hid (HA.out.kept hbn)
  replace HW0 := Lib.hid (HW0.out.kept hbn)
  replace Hg := Lib.hid (Hg.out.kept hbn)
  replace Hh := Lib.hid (Hh.out.kept hbn)
  clear hb hbn HC
  have HC : Hid (∀ W, Below w17.heap.size w17 W → Calls Tryz.prog 21 #[.slice Ag D.length cg, .int .i64 1] W fun e w' => e = .returned (.int .i64 ((kd : Nat) : Int)) ∧ Below W.heap.size W w') := fun W hW => by have h := heldIntS_any (.slice Ag D.length cg) D 1 1 rfl _ W HCD.out (Nat.le_refl 1) (Hg.out.kept hW).weak; rw [hkd] at h; exact h
  have bHA := HA.out.cell 0 rfl
  go_wp2_with fail
  refine (HC.out _ (by first | exact Below.refl _ _ | exact (Below.refl _ _).alloc (Nat.le_refl _) _ | exact (Below.refl _ _).drew)).mono ?_
  rintro e w18 ⟨rfl, hb⟩
  clear bHA
  have hbn : Below w17.heap.size w17 w18 := below_step (by first | exact Below.refl _ _ | exact (Below.refl _ _).alloc (Nat.le_refl _) _ | exact (Below.refl _ _).drew) hb
  have hs18 : Hid (w17.heap.size ≤ w18.heap.size) := hbn.size
  replace HVn := Lib.hid (HVn.out.kept hbn)
  replace HVx := Lib.hid (HVx.out.kept hbn)
  replace HB := Lib.hid (HB.out.trans (hbn.mono HB.out.size))
  replace HA := Lib.hid (HA.out.kept hbn)
  replace HW0 := Lib.hid (HW0.out.kept hbn)
  replace Hg := Lib.hid (Hg.out.kept hbn)
  replace Hh := Lib.hid (Hh.out.kept hbn)
  clear hb hbn HC
  have bHA := HA.out.cell 0 rfl
  go_wp2
  go_ret
  exact ⟨rfl, HB.out⟩
end Go.Proofs.YtkaihnlknncfdaaGreatDoor.fnExactProfileOf
