/- All rankings: the program's slices.Clone, extendedBy, AllRankings: what they answer. -/
import Derived.Test.YtnildbalaedlgaaAr12
import Derived.Test.YtnildbalaedlgaaIk12
import Derived.Lib.BufferMore
namespace Go.Proofs.Ytnildbalaedlgaa
set_option maxRecDepth 100000
open Go.RowKit Go.Sort
set_option linter.unusedVariables false
set_option linter.unusedSimpArgs false

theorem cell_kept12 {B : Nat} {w w' : World} {g o : Nat} {u : Value} (hb : Below B w w') (h : w.cell? ⟨g, o, none⟩ = some u) (hB : w.heap.size ≤ B := by exact Nat.le_refl _) : w'.cell? ⟨g, o, none⟩ = some u := (hb.cell (Nat.lt_of_lt_of_le (block_lt_of_cell h) hB)).trans h
theorem run_eql_nil12 {P : Program} (w : World) {t e : TypeId} (n c : Nat) (ht : P.underlying t = some (.slice e)) :
    (binOp .eql t (.slice none n c) (.slice none 0 0)).run P w = .ok (.bool true) w := by
  have h : ∀ d : Nat, (Op.equalIn (d + 1) t (.slice none n c) (.slice none 0 0)).run P w = .ok true w := fun d => by
    simp [Op.equalIn, run_underlying ht]
  simp only [binOp]
  simp [Op.equal, Op.maxDepth, h 9999]
def ClonePost (l : List Int) (w : World) (e : Ending) (w' : World) : Prop := ∃ u, e = .returned u ∧ OwnRd Rep.int 3 true w.heap.size w' u l (fun _ => False) ∧ Below w.heap.size w w'
set_option maxHeartbeats 4000000 in
theorem cloneI_any (v : Value) (r : List Int) (s : Bool) (F : Addr → Prop) (w : World) (hv : RowRd Rep.int s w v r F) (h1 : r.length ≤ 1000) :
    Calls Try.prog 44 #[v] w (ClonePost r w) := by
  obtain ⟨A, cap, rfl⟩ := hv.form
  cases A with
  | none =>
    obtain ⟨h2, h3, h4⟩ := hv.nil_cap
    subst h4
    subst h3
    have heq := fun w : World => run_eql_nil12 (P := Try.prog) w (t := 22) (e := 3) 0 0 Try.underlying22
    clear hv
    simp only [List.length_nil]
    go_enter Try.func44, Try.ntmps44
    go_wp2
    go_ret
    exact ⟨_, rfl, OwnRd.nil _ _, Below.refl _ _⟩
  | some p =>
    have heq := fun w : World => Go.Lib.run_eql_slice_some_nil (P := Try.prog) w (t := 22) (e := 3) p r.length cap Try.underlying22
    have HV := Lib.hid (hv.kept (w' := w.alloc (.cells #[] 3)) ((Below.refl _ _).alloc (Nat.le_refl _) _)).weak
    have HO0 : Hid (OwnRd Rep.int 3 false w.heap.size (w.alloc (.cells #[] 3)) (.slice (some ⟨w.heap.size, 0, none⟩) 0 0) ([] : List Int) (fun _ => False)) := OwnRd.empty w (Nat.le_refl _) _
    obtain ⟨i3, hi3, qz3, qz4, qz5⟩ := info_parts infoInt12
    have HR1 : Hid (r.length ≤ 1000) := h1
    clear hv
    go_enter Try.func44, Try.ntmps44
    go_wp2_with (at_builtin; refine Hid.out ?_)
    unfold Hid
    have hr1 := HR1.out
    refine wpList_append_row Rep.int flatInt12 (w.alloc (.cells #[] 3)) rfl (.tmp 5) (.tmp 6) 22 3 i3 (.int .i64 0) 8 rfl Try.underlying22 hi3 qz3 qz4 qz5 rfl (by decide) false false w.heap.size _ _ _ HO0.out rfl (some p) r.length cap r F HV.out rfl (by simp) (by omega) (by omega) (by simp) ?_
    intro v2 w2 hown hb hkeep
    rw [List.nil_append] at hown
    have HOW := Lib.hid hown
    have HB := Lib.hid (((Below.refl w.heap.size w).alloc (Nat.le_refl _) (.cells #[] 3)).trans hb)
    clear hown hb hkeep
    go_wp2
    go_ret
    exact ⟨_, rfl, HOW.out, HB.out⟩
set_option maxHeartbeats 16000000 in
theorem extBy_any (n : Nat) (L : List (List Int)) (v : Value) (F : Addr → Prop) (w : World) (hn : n ≤ 5) (hL : L.length ≤ 625) (hm : ∀ m ∈ L, m.length ≤ 5) (hv : RowRd (Rep.row Rep.int) false w v L F) :
    Calls Try.prog 34 #[v, .int .i64 n] w (OwnPost (Rep.row Rep.int) (extL n L) w) := by
  obtain ⟨A, cap, rfl⟩ := hv.form
  have HV := Lib.hid hv.tight
  clear hv
  have HX : Hid (∀ k, k < L.length → ∃ l, L[k]? = some l ∧ l.length ≤ 5) := fun k hk => ⟨_, List.getElem?_eq_getElem hk, hm _ (List.getElem_mem hk)⟩
  have H0 : Hid (extTo n L 0 = []) := extTo_zero n L
  have HALL : Hid (extTo n L L.length = extL n L) := extTo_all n L
  have HST : Hid (∀ (i : Nat) (l : List Int), L[i]? = some l → extTo n L (i + 1) = extTo n L i ++ rowE l n) := fun i l h => extTo_step n h
  have HLN : Hid (∀ i, (extTo n L i).length ≤ 3125) := fun i => extTo_len hn hL i
  have HRL : Hid (∀ (l : List Int) (k : Nat), k ≤ n → (rowE l k).length ≤ 5) := fun l k hk => Nat.le_trans (rowE_len l k) (by omega)
  generalize extL n L = R at *
  clear hm
  generalize hln : L.length = N at *
  clear hln
  obtain ⟨i3, hi3, qz3, qz4, qz5⟩ := info_parts infoInt12
  go_enter Try.func34, Try.ntmps34
  go_wp2
  go_loopw [5, 11] (fun u i wr => ∃ (k : Nat), k ≤ N ∧ i = .int .i64 k ∧ OwnII w.heap.size wr u (extTo n L k) ∧ Below w.heap.size w wr) (fun _ i _ => N - (intOf i).toNat)
  case atStart => exact ⟨0, by omega, rfl, by rw [H0.out]; exact OwnII.nil _ _, Below.refl _ _⟩
  case round =>
    obtain ⟨k, hk, rfl, hown, hbe⟩ := hrel
    have HBE := Lib.hid hbe
    have HOW := Lib.hid hown
    clear hbe hown
    by_cases hkl : k < N
    · obtain ⟨l, hl, hl5⟩ := HX.out k hkl
      obtain ⟨g, off, xs, Fk, rfl, _, hrl, hFk, hcl⟩ := HV.out.get hl
      obtain ⟨vl, rfl, hrow⟩ := hrl
      obtain ⟨Al, cl, rfl⟩ := hrow.form
      have c00 := hcl 0 _ rfl
      simp only [show (Rep.row Rep.int).size = 1 from rfl, Nat.mul_one, Nat.add_zero] at c00
      have c0 := cell_kept12 HBE.out c00
      have HF : Hid (∀ a, Fk a → a.block < w.heap.size) := fun a ha => (hFk a ha).2
      have HRW := Lib.hid hrow
      have HSK := Lib.hid (HST.out k l hl)
      have hkr : (k : Int) < (N : Int) := by omega
      clear hcl c00 hrow hl hFk
      go_wp2
      go_loopw [5, 16] (fun u i wq => ∃ (j : Nat), j ≤ n ∧ i = .int .i64 j ∧ OwnII w.heap.size wq u (extTo n L k ++ rowE l j) ∧ Below w.heap.size w wq) (fun _ i _ => n - (intOf i).toNat)
      case atStart => exact ⟨0, by omega, rfl, by rw [rowE_zero, List.append_nil]; exact HOW.out, HBE.out⟩
      case round =>
        obtain ⟨j, hj, rfl, hown, hbq⟩ := hrel
        obtain ⟨w2, rfl⟩ : ∃ w2 : World, w2 = wr := ⟨_, rfl⟩
        have HBQ := Lib.hid hbq
        have HOQ := Lib.hid hown
        clear hbq hown
        by_cases hjn : j < n
        · have HMJ := Lib.hid (memI_any l _ Fk (j : Int) w2 (HRW.out.keptS HF.out HBQ.out))
          have hjr : (j : Int) < (n : Int) := by omega
          by_cases hm : (j : Int) ∈ l
          · rw [decide_eq_true hm] at HMJ
            have HE : Hid (extTo n L k ++ rowE l (j + 1) = extTo n L k ++ rowE l j) := by unfold Hid; rw [rowE_in hm]
            clear hm
            go_wp2_with fail
            refine HMJ.out.mono ?_
            rintro e w3 ⟨rfl, rfl⟩
            go_wp2
            go_roundw
            case rel => exact ⟨j + 1, by omega, by go_num, by rw [HE.out]; exact HOQ.out, HBQ.out⟩
            case measure => simp [intOf]; omega
          · rw [decide_eq_false hm] at HMJ
            have HE : Hid (extTo n L k ++ rowE l (j + 1) = (extTo n L k ++ rowE l j) ++ [l ++ [(j : Int)]]) := by unfold Hid; rw [rowE_out hm, List.append_assoc]
            clear hm
            go_wp2_with fail
            refine HMJ.out.mono ?_
            rintro e w3 ⟨rfl, rfl⟩
            have HCL := Lib.hid (cloneI_any _ l false Fk w2 (HRW.out.keptS HF.out HBQ.out) (by omega))
            go_wp2_with fail
            refine HCL.out.mono ?_
            rintro e w4 ⟨uc, rfl, hoc, hb4⟩
            have HOC := Lib.hid hoc
            have HB4 := Lib.hid hb4
            have hsz4 := hb4.size
            clear hoc hb4 HCL HMJ
            go_wp2_with (at_builtin; refine Hid.out ?_)
            unfold Hid
            refine wpList_append_el Rep.int w4 rfl (.tmp 25) (.tmp 27) 22 3 i3 (.int .i64 0) 8 rfl Try.underlying22 hi3 qz3 qz4 qz5 rfl (by decide) true w2.heap.size _ l (fun _ => False) HOC.out rfl [.int .i64 j] (j : Int) (fun _ => False) ⟨rfl, by unfold I64; omega⟩ (fun a h => h.elim) (fun _ a h => h.elim) rfl (fun u hu => by simp at hu; subst hu; rfl) (by omega) (by omega) hsz4 ?_
            intro v5 w5 ho5 hb5 _ _
            have HR5 : Hid (RowRd Rep.int true w5 v5 (l ++ [(j : Int)]) (fun a => w2.heap.size ≤ a.block)) := (OwnRd.row ho5 (by simp; omega)).mono fun a ha => by
              rcases ha with ha | ha | ha
              · exact ha
              · exact ha.elim
              · exact ha.elim
            have HB5 := Lib.hid (HB4.out.trans hb5)
            clear ho5 hb5 HB4 HOC
            obtain ⟨A5, c5, rfl⟩ := HR5.out.form
            rw [show (l ++ [(j : Int)]).length = l.length + 1 from by simp] at HR5 ⊢
            go_wp2_with (at_builtin; refine Hid.out ?_)
            unfold Hid
            have hpl : (extTo n L k ++ rowE l j).length ≤ 1000000 := by
              have h1 := HLN.out k
              have h2 := HRL.out l j hj
              rw [List.length_append]; omega
            refine wpList_row12 w2 w5 rfl (.tmp 23) (.tmp 29) rfl w.heap.size _ _ HOQ.out HB5.out HBQ.out.size rfl _ (l ++ [(j : Int)]) HR5.out rfl hpl ?_
            intro v6 w6 ho6 hb6
            have HO6 : Hid (OwnII w.heap.size w6 v6 (extTo n L k ++ rowE l (j + 1))) := by unfold Hid; rw [HE.out]; exact ho6
            have HB6 := Lib.hid (HBQ.out.trans hb6)
            clear ho6 hb6 HB5 HR5
            go_wp2
            go_roundw
            case rel => exact ⟨j + 1, by omega, by go_num, HO6.out, HB6.out⟩
            case measure => simp [intOf]; omega
        · obtain rfl : j = n := by omega
          go_wp2
          go_roundw
          case rel => exact ⟨k + 1, by omega, by go_num, by rw [HSK.out]; exact HOQ.out, HBQ.out⟩
          case measure => simp [intOf]; omega
    · obtain rfl : k = N := by omega
      have hrr := HOW.out.row (by have := HLN.out k; omega)
      rw [HALL.out] at hrr
      have HRR := Lib.hid hrr
      clear hrr
      go_wp2
      go_ret
      exact ⟨_, rfl, HRR.out, HBE.out⟩
set_option maxHeartbeats 8000000 in
theorem implAll_any (n : Int) (w : World) (hn : I64 n) :
    Calls Try.prog 16 #[.int .i64 n] w (OwnPost (Rep.row Rep.int) (allR n) w) := by
  have HI := Lib.hid (cnt12_any n w)
  by_cases hc : 1 ≤ n ∧ n ≤ 5
  case neg =>
    rw [cnt12_no hc] at HI
    have HE : Hid (allR n = []) := allR_no hc
    clear hc
    go_enter Try.func16, Try.ntmps16
    go_wp2_with fail
    refine HI.out.mono ?_
    rintro e w1 ⟨rfl, rfl⟩
    go_wp2
    go_ret
    exact ⟨_, rfl, by rw [HE.out]; exact RowRd.nil _ _ _, Below.refl _ _⟩
  obtain ⟨m, rfl⟩ : ∃ m : Nat, n = m := ⟨n.toNat, by omega⟩
  have h1 : 1 ≤ m := by omega
  have h5 : m ≤ 5 := by omega
  rw [cnt12_yes hc.1 hc.2] at HI
  have HE : Hid (allR (m : Int) = allTo m m) := allR_yes h1 h5
  generalize allR (m : Int) = R at *
  have HX : Hid (∀ i, i < m → ∀ (v : Value) (F : Addr → Prop) (W : World), RowRd (Rep.row Rep.int) false W v (allTo m i) F → Calls Try.prog 34 #[v, .int .i64 m] W (OwnPost (Rep.row Rep.int) (allTo m (i + 1)) W)) := fun i hi v F W hv =>
    extBy_any m (allTo m i) v F W h5 (allTo_le h5 (by omega)) (fun x hx => by rw [allTo_mem i x hx]; omega) hv
  have H0 : Hid (RowRd (Rep.row Rep.int) true (w.alloc (.cells #[.slice none 0 0] 22)) (.slice (some ⟨w.heap.size, 0, none⟩) 1 1) (allTo m 0) (fun a => w.heap.size ≤ a.block)) :=
    (RowRd.one (e := 22) w (E := Rep.row Rep.int) (s := true) (ys := [.slice none 0 0]) (x := ([] : List Int)) (F := fun _ => False) ⟨_, rfl, RowRd.nil _ _ _⟩ (fun a h => h.elim)).mono fun a ha => by
      rcases ha with ha | ha
      · exact ha.elim
      · omega
  have HB0 : Hid (Below w.heap.size w (w.alloc (.cells #[.slice none 0 0] 22))) := (Below.refl _ _).alloc (Nat.le_refl _) _
  clear hc hn
  go_enter Try.func16, Try.ntmps16
  go_wp2_with fail
  refine HI.out.mono ?_
  rintro e w1 ⟨rfl, rfl⟩
  go_wp2
  go_loopw [3, 9] (fun u i wr => ∃ (k : Nat), k ≤ m ∧ i = .int .i64 k ∧ RowRd (Rep.row Rep.int) true wr u (allTo m k) (fun a => w.heap.size ≤ a.block) ∧ Below w.heap.size w wr) (fun _ i _ => m - (intOf i).toNat)
  case atStart => exact ⟨0, by omega, rfl, H0.out, HB0.out⟩
  case round =>
    obtain ⟨k, hk, rfl, hrow, hbe⟩ := hrel
    obtain ⟨w2, rfl⟩ : ∃ w2 : World, w2 = wr := ⟨_, rfl⟩
    have HBE := Lib.hid hbe
    by_cases hkm : k < m
    · have HC := Lib.hid (HX.out k hkm _ _ w2 hrow.weak)
      have hkr : (k : Int) < (m : Int) := by omega
      clear hrow hbe
      go_wp2_with fail
      refine HC.out.mono ?_
      rintro e w3 ⟨u3, rfl, hr3, hb3⟩
      have HR3 : Hid (RowRd (Rep.row Rep.int) true w3 u3 (allTo m (k + 1)) (fun a => w.heap.size ≤ a.block)) := hr3.mono fun a ha => Nat.le_trans HBE.out.size ha
      have HB3 := Lib.hid (HBE.out.trans (hb3.mono HBE.out.size))
      clear hr3 hb3 HC
      go_wp2
      go_roundw
      case rel => exact ⟨k + 1, by omega, by go_num, HR3.out, HB3.out⟩
      case measure => simp [intOf]; omega
    · obtain rfl : k = m := by omega
      rw [← HE.out] at hrow
      have HRR := Lib.hid hrow
      clear hrow hbe
      go_wp2
      go_ret
      exact ⟨_, rfl, HRR.out, HBE.out⟩
end Go.Proofs.Ytnildbalaedlgaa
