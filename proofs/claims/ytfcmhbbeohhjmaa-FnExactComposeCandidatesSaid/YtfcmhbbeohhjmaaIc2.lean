/- The program's sidesOf, IsCandidate: what they answer. -/
import Derived.Test.YtfcmhbbeohhjmaaIc1
import Derived.Test.YtfcmhbbeohhjmaaApp
import Derived.Test.YtfcmhbbeohhjmaaIf1
namespace Go.Proofs.Ytfcmhbbeohhjmaa
set_option maxRecDepth 100000
open Go.RowKit M
set_option linter.unusedVariables false
set_option linter.unusedSimpArgs false

/-- Two rows of bytes of the call's own. -/
def TwoB (base : Nat) (w : World) (u v : Value) (a b : List UInt8) : Prop :=
  w.ownsRow base 5 1 u a.length (cellsB a) ∧ w.ownsRow base 5 1 v b.length (cellsB b) ∧ ∀ k, u.ownBlock = some k → v.ownBlock ≠ some k
theorem TwoB.symm {base : Nat} {w : World} {u v : Value} {a b : List UInt8} (h : TwoB base w u v a b) : TwoB base w v u b a :=
  ⟨h.2.1, h.1, fun k hk hu => h.2.2 k hu hk⟩
theorem TwoB.kept {base : Nat} {w w' : World} {u v : Value} {a b : List UInt8} (h : TwoB base w u v a b) (hb : Below w.heap.size w w') : TwoB base w' u v a b := by
  obtain ⟨h1, h2, h3⟩ := h
  have keep : ∀ {u : Value} {a : List UInt8}, w.ownsRow base 5 1 u a.length (cellsB a) → w'.ownsRow base 5 1 u a.length (cellsB a) := fun h => by
    refine ⟨h.1, ?_⟩
    rcases h.2 with hn | ⟨g, cap, cur, e, hg0, hg, rest⟩
    · exact Or.inl hn
    · exact Or.inr ⟨g, cap, cur, e, hg0, (hb.block g (lt_of_block hg)).trans hg, rest⟩
  exact ⟨keep h1, keep h2, h3⟩
theorem row_not {w : World} {base n : Nat} {u : Value} {c : List Value} (h : w.ownsRow base 5 1 u n c) {g : Nat} {cs : Array Value} {t : TypeId} (hg : InC w g cs t) (ht : t ≠ 5) : u.ownBlock ≠ some g := by
  rcases h.2 with ⟨rfl, _⟩ | ⟨g', cap, cur, rfl, _, hg', _⟩
  · simp [Value.ownBlock]
  · intro e
    have : g' = g := by simpa [Value.ownBlock] using e
    subst this
    unfold InC at hg
    rw [hg'] at hg
    injection (Option.some.inj hg) with _ e2 _
    exact ht e2.symm
theorem wpList_append_twoB {ops : Array Oper} {rest : List Oper} {o : Oper} {a : Act} {Q : Exit → Act → World → Prop} (w : World) (hgd : o.guard = none) (s x : Operand)
    (ho : o.op = .call { callee := .builtin .append, args := #[s, x], argTypes := #[60, 60] })
    (base : Nat) (u v : Value) (l m : List UInt8) (hT : TwoB base w u v l m) (hs : a.eval s = u) (b : Int) (hb0 : 0 ≤ b) (hb1 : b < 256)
    (nb : Nat) (hnb : nb = w.heap.size) (hx : a.eval x = .slice (some ⟨nb, 0, none⟩) 1 1) (hn : l.length ≤ 70368744177664) (hbase : base ≤ w.heap.size)
    (h : ∀ u' w', TwoB base w' u' v (l ++ [byt b]) m → Below base w w' → (∀ g cs t, t ≠ 5 → InC w g cs t → InC w' g cs t) → wpList Try.prog ops Q rest (a.put o.dst u') w') :
    wpList Try.prog ops Q (o :: rest) a (w.alloc (.cells #[.int .u8 b] 5)) := by
  obtain ⟨i0, hi, hz0, hz1, hz2⟩ := info_parts Try.info5
  subst hnb
  obtain ⟨hown, hother, hne⟩ := hT
  refine wpList_append_own_at (w.alloc (.cells #[.int .u8 b] 5)) hgd s x 60 ho base 5 i0 (.int .u8 0) 1 1 Try.underlying60 hi hz0 hz1 hz2 rfl (by decide) u l.length (cellsB l) hs (hown.alloc _) ⟨w.heap.size, 0, none⟩ 1 1 [.int .u8 b] hx rfl (cell_one_new _ _ _)
    (fun u hu => by simp at hu; subst hu; rfl) (by unfold maxLen; omega) (by omega) (by simp; omega) ?_
  intro u' w' h1 h2 _ h4
  have hkeep : ∀ k, k < w.heap.size → u.ownBlock ≠ some k → w'.heap[k]? = w.heap[k]? := fun k hk hu =>
    (h2.block k (by simp; omega) (fun e => hu e.symm)).trans (Below.heap_alloc w _ k hk)
  refine h u' w' ⟨by rw [cellsB_append, cellsB_one b hb0 hb1, List.length_append]; exact h1, ?_, ?_⟩ ?_ ?_
  · refine ⟨hother.1, ?_⟩
    rcases hother.2 with hn | ⟨g, cap, cur, rfl, hg0, hg, rest⟩
    · exact Or.inl hn
    · exact Or.inr ⟨g, cap, cur, rfl, hg0, (hkeep g (lt_of_block hg) (fun e => hne g e rfl)).trans hg, rest⟩
  · intro k hk hv
    rcases h4 with h4 | h4
    · rw [h4] at hk; exact hne k hk hv
    · rw [h4] at hk
      have := (hother.lt k hv).2
      simp at hk
      omega
  · exact ((Below.refl base w).alloc hbase _).grown h2 (by simp; omega) (fun q hq => (hown.lt q hq).1)
  · intro g cs t ht hg
    exact (hkeep g hg.lt (row_not hown hg ht)).trans hg
theorem ownsRow_drewN {w : World} {base n m : Nat} {v : Value} {c : List Value} (h : w.ownsRow base 5 1 v n c) : (w.drewN m).ownsRow base 5 1 v n c := by
  induction m generalizing w with
  | zero => exact h
  | succ m ih => exact ih h.drew
set_option maxHeartbeats 4000000 in
theorem implSides_any (l : List DLink) (v : Value) (F : Addr → Prop) (w : World) (hl : l.length ≤ 1048576) (hv : RowRd rLink false w v l F) :
    Calls Try.prog 57 #[v] w fun e w' => e = .returned (.tuple #[.string ⟨(inL l).toArray⟩, .string ⟨(outL l).toArray⟩]) ∧ Below w.heap.size w w' := by
  obtain ⟨A, cap, rfl⟩ := hv.form
  have HV := Lib.hid hv
  clear hv
  have HX : Hid (∀ k, k < l.length → ∃ y, l[k]? = some y) := fun k hk => ⟨_, List.getElem?_eq_getElem hk⟩
  go_enter Try.func57, Try.ntmps57
  go_wp2
  go_loopw [4, 5, 10] (fun u v i wr => ∃ (k : Nat), k ≤ l.length ∧ i = .int .i64 k ∧ TwoB w.heap.size wr u v (inL (l.take k)) (outL (l.take k)) ∧ Below w.heap.size w wr) (fun _ _ i _ => l.length - (intOf i).toNat)
  case atStart => exact ⟨0, by omega, rfl, ⟨World.ownsRow_nil _ _ _ _, World.ownsRow_nil _ _ _ _, fun k hk => by simp [Value.ownBlock] at hk⟩, Below.refl _ _⟩
  case round =>
    obtain ⟨k, hk, rfl, ht, hbe⟩ := hrel
    have HBE := Lib.hid hbe
    clear hbe
    by_cases hkl : k < l.length
    · obtain ⟨y, hy⟩ := HX.out k hkl
      obtain ⟨g, off, xs, Fk, rfl, _, hra, _, hca⟩ := (HV.out.kept HBE.out).get hy
      obtain rfl := rLink_rd hra
      rw [rLink_size] at hca
      have c0 := hca 0 _ rfl
      have c1 := hca 1 _ rfl
      simp only [Nat.add_zero] at c0
      have HIY := Lib.hid (fun h => inL_yes hy h)
      have HIN := Lib.hid (fun h => inL_no hy h)
      have HOY := Lib.hid (fun h => outL_yes hy h)
      have HON := Lib.hid (fun h => outL_no hy h)
      have hli := inL_len l k
      have hlo := outL_len l k
      clear hca hra hy
      have ha := u8_in y.In
      have hb := u8_in y.Out
      generalize inL (l.take k) = I0 at *
      generalize outL (l.take k) = O0 at *
      generalize (y.In.toNat : Int) = a at *
      generalize (y.Out.toNat : Int) = b at *
      have HT1 : Hid (TwoB w.heap.size (wr.alloc (.cells #[.int .u8 a, .int .u8 b] 40)) _ _ I0 O0) := ht.kept ((Below.refl _ _).alloc (Nat.le_refl _) _)
      have HL : Hid (InC (wr.alloc (.cells #[.int .u8 a, .int .u8 b] 40)) wr.heap.size #[.int .u8 a, .int .u8 b] 40) := heap_alloc_new _ _
      have HBA : Hid (Below w.heap.size w (wr.alloc (.cells #[.int .u8 a, .int .u8 b] 40))) := HBE.out.alloc HBE.out.size _
      have HAB := Lib.hid (And.intro ha hb)
      have HLE : Hid (I0.length ≤ 70368744177664 ∧ O0.length ≤ 70368744177664) := by unfold Hid; omega
      clear ha hb ht hli hlo
      by_cases ha0 : a = 0
      · have HI := Lib.hid (HIN.out ha0)
        subst ha0
        by_cases hb0 : b = 0
        · have HO := Lib.hid (HON.out hb0)
          subst hb0
          go_wp2
          go_roundw
          case rel => exact ⟨k + 1, by omega, by go_num, by rw [HI.out, HO.out]; exact HT1.out, HBA.out⟩
          case measure => simp [intOf]; omega
        · have HO := Lib.hid (HOY.out hb0)
          go_wp2_with (at_builtin; refine wpList_append_twoB _ rfl (.tmp 25) (.tmp 28) rfl w.heap.size _ _ _ _ HT1.out.symm rfl b HAB.out.2.1 HAB.out.2.2 _ (by simp) rfl HLE.out.2 HBA.out.size ?_; intro v' w1 h1 hb1 hk1; have HT2 := Lib.hid h1; have HB1 := Lib.hid hb1; clear h1 hb1 hk1)
          go_roundw
          case rel => exact ⟨k + 1, by omega, by go_num, by rw [HI.out, HO.out]; exact HT2.out.symm, HBA.out.trans HB1.out⟩
          case measure => simp [intOf]; omega
      · have HI := Lib.hid (HIY.out ha0)
        by_cases hb0 : b = 0
        · have HO := Lib.hid (HON.out hb0)
          subst hb0
          go_wp2_with (at_builtin; refine wpList_append_twoB _ rfl (.tmp 17) (.tmp 20) rfl w.heap.size _ _ _ _ HT1.out rfl a HAB.out.1.1 HAB.out.1.2 _ (by simp) rfl HLE.out.1 HBA.out.size ?_; intro v' w1 h1 hb1 hk1; have hl1 := hk1 _ _ _ (by decide) HL.out; have d0 := hl1.cell 0 rfl; have d1 := hl1.cell 1 rfl; have HT2 := Lib.hid h1; have HB1 := Lib.hid hb1; clear h1 hb1 hk1 hl1)
          go_roundw
          case rel => exact ⟨k + 1, by omega, by go_num, by rw [HI.out, HO.out]; exact HT2.out, HBA.out.trans HB1.out⟩
          case measure => simp [intOf]; omega
        · have HO := Lib.hid (HOY.out hb0)
          go_wp2_with (first | (at_builtin; refine wpList_append_twoB _ rfl (.tmp 17) (.tmp 20) rfl w.heap.size _ _ _ _ HT1.out rfl a HAB.out.1.1 HAB.out.1.2 _ (by simp) rfl HLE.out.1 HBA.out.size ?_; intro v' w1 h1 hb1 hk1; have hl1 := hk1 _ _ _ (by decide) HL.out; have d0 := hl1.cell 0 rfl; have d1 := hl1.cell 1 rfl; have HT2 := Lib.hid h1; have HB1 : Hid (Below w.heap.size w w1) := HBA.out.trans hb1; clear h1 hb1 hk1 hl1 HT1) | (at_builtin; refine wpList_append_twoB _ rfl (.tmp 25) (.tmp 28) rfl w.heap.size _ _ _ _ HT2.out.symm rfl b HAB.out.2.1 HAB.out.2.2 _ (by simp) rfl HLE.out.2 HB1.out.size ?_; intro v2 w2 h1 hb1 hk1; have HT3 := Lib.hid h1; have HB2 := Lib.hid hb1; clear h1 hb1 hk1))
          go_roundw
          case rel => exact ⟨k + 1, by omega, by go_num, by rw [HI.out, HO.out]; exact HT3.out.symm, HB1.out.trans HB2.out⟩
          case measure => simp [intOf]; omega
    · obtain rfl : k = l.length := by omega
      rw [List.take_length] at ht
      have hc1 : ∀ n, (convert 60 9 u4).run Try.prog (wr.drewN n) = .ok (.string ⟨(inL l).toArray⟩) (wr.drewN n) := fun n => conv_own (ownsRow_drewN ht.1)
      have hc2 : ∀ n, (convert 60 9 u5).run Try.prog (wr.drewN n) = .ok (.string ⟨(outL l).toArray⟩) (wr.drewN n) := fun n => conv_own (ownsRow_drewN ht.2.1)
      go_wp2
      go_quiet (fail)
      go_wp2
      go_ret2
      exact ⟨rfl, drewN_below HBE.out⟩
set_option maxHeartbeats 4000000 in
theorem implIsCd_any (x : DCandidate) (v : Value) (F : Addr → Prop) (w : World) (hl : x.Links.length ≤ 1048576) (hv : RowRd rLink false w v x.Links F) :
    Calls Try.prog 38 #[.agg #[v]] w fun e w' => e = .returned (.bool (isCd x.Links)) ∧ Below w.heap.size w w' := by
  obtain ⟨A, cap, rfl⟩ := hv.form
  have HV := Lib.hid hv
  clear hv
  go_enter Try.func38, Try.ntmps38
  by_cases h16 : (16 : Int) < x.Links.length
  case pos =>
    have HE : Hid (isCd x.Links = false) := isCd_long (by omega)
    go_wp2
    go_ret
    exact ⟨ret_bool HE.out.symm, (Below.refl _ _).alloc (Nat.le_refl _) _⟩
  have HX : Hid (∀ k, k < x.Links.length → ∃ y, x.Links[k]? = some y) := fun k hk => ⟨_, List.getElem?_eq_getElem hk⟩
  have HNOT : Hid (∀ k (y : DLink), x.Links[k]? = some y → okI (y.In.toNat : Int) (y.Out.toNat : Int) = false → isCd x.Links = false) := fun k y h1 h2 => isCd_not h1 h2
  go_wp2
  go_loopw [14] (fun i wr => ∃ (k : Nat), k ≤ x.Links.length ∧ i = .int .i64 k ∧ Hid (∀ j y, x.Links[j]? = some y → j < k → okI (y.In.toNat : Int) (y.Out.toNat : Int) = true) ∧ Below w.heap.size w wr ∧ InC wr w.heap.size #[.slice A x.Links.length cap] 29) (fun i _ => x.Links.length - (intOf i).toNat)
  case atStart => exact ⟨0, by omega, rfl, fun j y _ h => by omega, (Below.refl _ _).alloc (Nat.le_refl _) _, heap_alloc_new _ _⟩
  case round =>
    obtain ⟨k, hk, rfl, hall, hbe, hi1⟩ := hrel
    have b1 := hi1.cell 0 rfl
    have HBE := Lib.hid hbe
    have HI1 := Lib.hid hi1
    clear hbe hi1
    by_cases hkl : k < x.Links.length
    · obtain ⟨y, hy⟩ := HX.out k hkl
      obtain ⟨g, off, xs, Fk, rfl, _, hra, _, hca⟩ := (HV.out.kept HBE.out).get hy
      obtain rfl := rLink_rd hra
      rw [rLink_size] at hca
      have c0 := hca 0 _ rfl
      have c1 := hca 1 _ rfl
      simp only [Nat.add_zero] at c0
      have HY := Lib.hid hy
      clear hca hra hy
      have HOK : Hid (okI (y.In.toNat : Int) (y.Out.toNat : Int) = true → ∀ j z, x.Links[j]? = some z → j < k + 1 → okI (z.In.toNat : Int) (z.Out.toNat : Int) = true) := fun h j z hz hj => by
        by_cases hjk : j = k
        · subst hjk; rw [HY.out] at hz; cases hz; exact h
        · exact hall.out j z hz (by omega)
      have HNO := Lib.hid (HNOT.out k y HY.out)
      have ha := u8_in y.In
      have hb := u8_in y.Out
      generalize (y.In.toNat : Int) = a at *
      generalize (y.Out.toNat : Int) = b at *
      have HAB := Lib.hid (And.intro ha hb)
      clear ha hb HY
      go_wp2_with fail
      refine (implValid_any a b _ _ HAB.out.1 HAB.out.2 (heap_alloc_new _ _)).mono ?_
      rintro e w2 ⟨rfl, hb2⟩
      have HB2 : Hid (Below w.heap.size w w2) := (HBE.out.alloc HBE.out.size _).trans (hb2.mono (by simp; have := HBE.out.size; omega))
      have HI2 : Hid (InC w2 w.heap.size #[.slice (some ⟨g, off, none⟩) x.Links.length cap] 29) := (HI1.out.kept ((Below.refl _ _).alloc (Nat.le_refl _) _)).kept hb2
      clear hb2 HI1 b1
      have b2 := HI2.out.cell 0 rfl
      cases hok : okI a b
      · have HR := Lib.hid (HNO.out hok)
        go_wp2
        go_ret
        exact ⟨ret_bool HR.out.symm, HB2.out⟩
      · have HALL := Lib.hid (HOK.out hok)
        go_wp2
        go_roundw
        case rel => exact ⟨k + 1, by omega, by go_num, HALL, HB2.out, HI2.out⟩
        case measure => simp [intOf]; omega
    · obtain rfl : k = x.Links.length := by omega
      have HI : Hid (isCd x.Links = (isFm ⟨(inL x.Links).toArray⟩ && isFm ⟨(outL x.Links).toArray⟩)) := by
        unfold Hid isCd
        rw [all_ok (fun j y h1 h2 => hall.out j y h1 h2), Bool.true_and, show decide ((x.Links.length : Int) ≤ 16) = true by simp; omega, Bool.true_and]
      have hli := inL_len_all x.Links
      have hlo := outL_len_all x.Links
      have HLI : Hid ((⟨(inL x.Links).toArray⟩ : ByteArray).size ≤ maxLen) := by unfold Hid maxLen; simp [ByteArray.size]; omega
      have HLO : Hid ((⟨(outL x.Links).toArray⟩ : ByteArray).size ≤ maxLen) := by unfold Hid maxLen; simp [ByteArray.size]; omega
      have HSD := Lib.hid (implSides_any x.Links _ F wr hl (HV.out.kept HBE.out))
      go_wp2_with fail
      refine HSD.out.mono ?_
      rintro e w2 ⟨rfl, hb2⟩
      have HB2 : Hid (Below w.heap.size w w2) := below_step HBE.out hb2
      clear hb2 HSD
      go_wp2_with fail
      refine (implFmS_any ⟨(inL x.Links).toArray⟩ _ HLI.out).mono ?_
      rintro e w3 ⟨rfl, rfl⟩
      generalize isFm ⟨(inL x.Links).toArray⟩ = fi at *
      cases fi
      · go_wp2_with fail
        go_ret
        exact ⟨ret_bool (by rw [HI.out] <;> simp), HB2.out⟩
      · go_wp2_with fail
        refine (implFmS_any ⟨(outL x.Links).toArray⟩ _ HLO.out).mono ?_
        rintro e w4 ⟨rfl, rfl⟩
        go_wp2_with fail
        go_ret
        exact ⟨ret_bool (by rw [HI.out] <;> simp), HB2.out⟩
end Go.Proofs.Ytfcmhbbeohhjmaa
