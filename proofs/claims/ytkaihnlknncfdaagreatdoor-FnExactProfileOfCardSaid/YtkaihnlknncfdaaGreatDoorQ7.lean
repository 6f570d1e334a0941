/- Merged: Ic2 Ic9 Id9 Rb Ib9 Ic5 Vj10 AppS Ms10. -/
import Derived.Test.YtkaihnlknncfdaaGreatDoorQ5
import Derived.Test.YtkaihnlknncfdaaGreatDoorQ4
import Derived.Test.YtkaihnlknncfdaaGreatDoorQ6
import Derived.Test.YtkaihnlknncfdaaGreatDoorQ3
import Derived.BigRegion
import Derived.BigQuiet
import Derived.Lib.QuietBelow
import Derived.Laws.EntriesVeiled
import Derived.Deep.Heap
import Derived.Laws.AppendOwn
import Derived.Laws.OwnMore
import Derived.Test.YtkaihnlknncfdaaGreatDoorRows
import Derived.WalkKit
import Derived.Outline
import Derived.Maps.AppendAt
import Derived.Lib.Hide
import Derived.Laws.Rows
import Derived.Test.YtkaihnlknncfdaaGreatDoorQ1
import Derived.Test.YtkaihnlknncfdaaGreatDoorQ2
/- The program's sidesOf, IsCandidate: what they answer. -/
namespace Go.Proofs.YtkaihnlknncfdaaGreatDoor
set_option maxRecDepth 100000
open Go.RowKit M
set_option linter.unusedVariables false
set_option linter.unusedSimpArgs false

/-- Two rows of bytes of the call's own. -/
def TwoB (base : Nat) (w : World) (u v : Value) (a b : List UInt8) : Prop :=
  w.ownsRow base 5 1 u a.length (cellsB a) ∧ w.ownsRow base 5 1 v b.length (cellsB b) ∧ ∀ k, u.ownBlock = some k → v.ownBlock ≠ some k
theorem TwoB.symm {base : Nat} {w : World} {u v : Value} {a b : List UInt8} (h : TwoB base w u v a b) : TwoB base w v u b a :=
  ⟨h.2.1, h.1, fun k hk hu => h.2.2 k hu hk⟩
theorem TwoB.kept {base : Nat} {w w' : World} {u v : Value} {a b : List UInt8} (h : TwoB base w u v a b) (hb : Below w.heap.size w w') : TwoB base w' u v a b := by
  obtain ⟨h1, h2, h3⟩ := h
  have keep : ∀ {u : Value} {a : List UInt8}, w.ownsRow base 5 1 u a.length (cellsB a) → w'.ownsRow base 5 1 u a.length (cellsB a) := fun h => by
    refine ⟨h.1, ?_⟩
    rcases h.2 with hn | ⟨g, cap, cur, e, hg0, hg, rest⟩
    · exact Or.inl hn
    · exact Or.inr ⟨g, cap, cur, e, hg0, (hb.block g (lt_of_block hg)).trans hg, rest⟩
  exact ⟨keep h1, keep h2, h3⟩
theorem row_not {w : World} {base n : Nat} {u : Value} {c : List Value} (h : w.ownsRow base 5 1 u n c) {g : Nat} {cs : Array Value} {t : TypeId} (hg : InC w g cs t) (ht : t ≠ 5) : u.ownBlock ≠ some g := by
  rcases h.2 with ⟨rfl, _⟩ | ⟨g', cap, cur, rfl, _, hg', _⟩
  · simp [Value.ownBlock]
  · intro e
    have : g' = g := by simpa [Value.ownBlock] using e
    subst this
    unfold InC at hg
    rw [hg'] at hg
    injection (Option.some.inj hg) with _ e2 _
    exact ht e2.symm
theorem wpList_append_twoB {ops : Array Oper} {rest : List Oper} {o : Oper} {a : Act} {Q : Exit → Act → World → Prop} (w : World) (hgd : o.guard = none) (s x : Operand)
    (ho : o.op = .call { callee := .builtin .append, args := #[s, x], argTypes := #[112, 112] })
    (base : Nat) (u v : Value) (l m : List UInt8) (hT : TwoB base w u v l m) (hs : a.eval s = u) (b : Int) (hb0 : 0 ≤ b) (hb1 : b < 256)
    (nb : Nat) (hnb : nb = w.heap.size) (hx : a.eval x = .slice (some ⟨nb, 0, none⟩) 1 1) (hn : l.length ≤ 70368744177664) (hbase : base ≤ w.heap.size)
    (h : ∀ u' w', TwoB base w' u' v (l ++ [byt b]) m → Below base w w' → (∀ g cs t, t ≠ 5 → InC w g cs t → InC w' g cs t) → wpList Tryz.prog ops Q rest (a.put o.dst u') w') :
    wpList Tryz.prog ops Q (o :: rest) a (w.alloc (.cells #[.int .u8 b] 5)) := by
  obtain ⟨i0, hi, hz0, hz1, hz2⟩ := info_parts Tryz.info5
  subst hnb
  obtain ⟨hown, hother, hne⟩ := hT
  refine wpList_append_own_at (w.alloc (.cells #[.int .u8 b] 5)) hgd s x 112 ho base 5 i0 (.int .u8 0) 1 1 Tryz.underlying112 hi hz0 hz1 hz2 rfl (by decide) u l.length (cellsB l) hs (hown.alloc _) ⟨w.heap.size, 0, none⟩ 1 1 [.int .u8 b] hx rfl (cell_one_new _ _ _)
    (fun u hu => by simp at hu; subst hu; rfl) (by unfold maxLen; omega) (by omega) (by simp; omega) ?_
  intro u' w' h1 h2 _ h4
  have hkeep : ∀ k, k < w.heap.size → u.ownBlock ≠ some k → w'.heap[k]? = w.heap[k]? := fun k hk hu =>
    (h2.block k (by simp; omega) (fun e => hu e.symm)).trans (Below.heap_alloc w _ k hk)
  refine h u' w' ⟨by rw [cellsB_append, cellsB_one b hb0 hb1, List.length_append]; exact h1, ?_, ?_⟩ ?_ ?_
  · refine ⟨hother.1, ?_⟩
    rcases hother.2 with hn | ⟨g, cap, cur, rfl, hg0, hg, rest⟩
    · exact Or.inl hn
    · exact Or.inr ⟨g, cap, cur, rfl, hg0, (hkeep g (lt_of_block hg) (fun e => hne g e rfl)).trans hg, rest⟩
  · intro k hk hv
    rcases h4 with h4 | h4
    · rw [h4] at hk; exact hne k hk hv
    · rw [h4] at hk
      have := (hother.lt k hv).2
      simp at hk
      omega
  · exact ((Below.refl base w).alloc hbase _).grown h2 (by simp; omega) (fun q hq => (hown.lt q hq).1)
  · intro g cs t ht hg
    exact (hkeep g hg.lt (row_not hown hg ht)).trans hg
theorem ownsRow_drewN {w : World} {base n m : Nat} {v : Value} {c : List Value} (h : w.ownsRow base 5 1 v n c) : (w.drewN m).ownsRow base 5 1 v n c := by
  induction m generalizing w with
  | zero => exact h
  | succ m ih => exact ih h.drew
set_option maxHeartbeats 4000000 in
theorem implSides_any (l : List DLink) (v : Value) (F : Addr → Prop) (w : World) (hl : l.length ≤ 1048576) (hv : RowRd rLink false w v l F) :
    Calls Tryz.prog 106 #[v] w fun e w' => e = .returned (.tuple #[.string ⟨(inL l).toArray⟩, .string ⟨(outL l).toArray⟩]) ∧ Below w.heap.size w w' := by
  obtain ⟨A, cap, rfl⟩ := hv.form
  have HV := Lib.hid hv
  clear hv
  have HX : Hid (∀ k, k < l.length → ∃ y, l[k]? = some y) := fun k hk => ⟨_, List.getElem?_eq_getElem hk⟩
  go_enter Tryz.func106, Tryz.ntmps106
  go_wp2
  go_loopw [4, 5, 10] (fun u v i wr => ∃ (k : Nat), k ≤ l.length ∧ i = .int .i64 k ∧ TwoB w.heap.size wr u v (inL (l.take k)) (outL (l.take k)) ∧ Below w.heap.size w wr) (fun _ _ i _ => l.length - (intOf i).toNat)
  case atStart => exact ⟨0, by omega, rfl, ⟨World.ownsRow_nil _ _ _ _, World.ownsRow_nil _ _ _ _, fun k hk => by simp [Value.ownBlock] at hk⟩, Below.refl _ _⟩
  case round =>
    obtain ⟨k, hk, rfl, ht, hbe⟩ := hrel
    have HBE := Lib.hid hbe
    clear hbe
    by_cases hkl : k < l.length
    · obtain ⟨y, hy⟩ := HX.out k hkl
      obtain ⟨g, off, xs, Fk, rfl, _, hra, _, hca⟩ := (HV.out.kept HBE.out).get hy
      obtain rfl := rLink_rd hra
      rw [rLink_size] at hca
      have c0 := hca 0 _ rfl
      have c1 := hca 1 _ rfl
      simp only [Nat.add_zero] at c0
      have HIY := Lib.hid (fun h => inL_yes hy h)
      have HIN := Lib.hid (fun h => inL_no hy h)
      have HOY := Lib.hid (fun h => outL_yes hy h)
      have HON := Lib.hid (fun h => outL_no hy h)
      have hli := inL_len l k
      have hlo := outL_len l k
      clear hca hra hy
      have ha := u8_in y.In
      have hb := u8_in y.Out
      generalize inL (l.take k) = I0 at *
      generalize outL (l.take k) = O0 at *
      generalize (y.In.toNat : Int) = a at *
      generalize (y.Out.toNat : Int) = b at *
      have HT1 : Hid (TwoB w.heap.size (wr.alloc (.cells #[.int .u8 a, .int .u8 b] 118)) _ _ I0 O0) := ht.kept ((Below.refl _ _).alloc (Nat.le_refl _) _)
      have HL : Hid (InC (wr.alloc (.cells #[.int .u8 a, .int .u8 b] 118)) wr.heap.size #[.int .u8 a, .int .u8 b] 118) := heap_alloc_new _ _
      have HBA : Hid (Below w.heap.size w (wr.alloc (.cells #[.int .u8 a, .int .u8 b] 118))) := HBE.out.alloc HBE.out.size _
      have HAB := Lib.hid (And.intro ha hb)
      have HLE : Hid (I0.length ≤ 70368744177664 ∧ O0.length ≤ 70368744177664) := by unfold Hid; omega
      clear ha hb ht hli hlo
      by_cases ha0 : a = 0
      · have HI := Lib.hid (HIN.out ha0)
        subst ha0
        by_cases hb0 : b = 0
        · have HO := Lib.hid (HON.out hb0)
          subst hb0
          go_wp2
          go_roundw
          case rel => exact ⟨k + 1, by omega, by go_num, by rw [HI.out, HO.out]; exact HT1.out, HBA.out⟩
          case measure => simp [intOf]; omega
        · have HO := Lib.hid (HOY.out hb0)
          go_wp2_with (at_builtin; refine wpList_append_twoB _ rfl (.tmp 25) (.tmp 28) rfl w.heap.size _ _ _ _ HT1.out.symm rfl b HAB.out.2.1 HAB.out.2.2 _ (by simp) rfl HLE.out.2 HBA.out.size ?_; intro v' w1 h1 hb1 hk1; have HT2 := Lib.hid h1; have HB1 := Lib.hid hb1; clear h1 hb1 hk1)
          go_roundw
          case rel => exact ⟨k + 1, by omega, by go_num, by rw [HI.out, HO.out]; exact HT2.out.symm, HBA.out.trans HB1.out⟩
          case measure => simp [intOf]; omega
      · have HI := Lib.hid (HIY.out ha0)
        by_cases hb0 : b = 0
        · have HO := Lib.hid (HON.out hb0)
          subst hb0
          go_wp2_with (at_builtin; refine wpList_append_twoB _ rfl (.tmp 17) (.tmp 20) rfl w.heap.size _ _ _ _ HT1.out rfl a HAB.out.1.1 HAB.out.1.2 _ (by simp) rfl HLE.out.1 HBA.out.size ?_; intro v' w1 h1 hb1 hk1; have hl1 := hk1 _ _ _ (by decide) HL.out; have d0 := hl1.cell 0 rfl; have d1 := hl1.cell 1 rfl; have HT2 := Lib.hid h1; have HB1 := Lib.hid hb1; clear h1 hb1 hk1 hl1)
          go_roundw
          case rel => exact ⟨k + 1, by omega, by go_num, by rw [HI.out, HO.out]; exact HT2.out, HBA.out.trans HB1.out⟩
          case measure => simp [intOf]; omega
        · have HO := Lib.hid (HOY.out hb0)
          go_wp2_with (first | (at_builtin; refine wpList_append_twoB _ rfl (.tmp 17) (.tmp 20) rfl w.heap.size _ _ _ _ HT1.out rfl a HAB.out.1.1 HAB.out.1.2 _ (by simp) rfl HLE.out.1 HBA.out.size ?_; intro v' w1 h1 hb1 hk1; have hl1 := hk1 _ _ _ (by decide) HL.out; have d0 := hl1.cell 0 rfl; have d1 := hl1.cell 1 rfl; have HT2 := Lib.hid h1; have HB1 : Hid (Below w.heap.size w w1) := HBA.out.trans hb1; clear h1 hb1 hk1 hl1 HT1) | (at_builtin; refine wpList_append_twoB _ rfl (.tmp 25) (.tmp 28) rfl w.heap.size _ _ _ _ HT2.out.symm rfl b HAB.out.2.1 HAB.out.2.2 _ (by simp) rfl HLE.out.2 HB1.out.size ?_; intro v2 w2 h1 hb1 hk1; have HT3 := Lib.hid h1; have HB2 := Lib.hid hb1; clear h1 hb1 hk1))
          go_roundw
          case rel => exact ⟨k + 1, by omega, by go_num, by rw [HI.out, HO.out]; exact HT3.out.symm, HB1.out.trans HB2.out⟩
          case measure => simp [intOf]; omega
    · obtain rfl : k = l.length := by omega
      rw [List.take_length] at ht
      have hc1 : ∀ n, (convert 112 9 u4).run Tryz.prog (wr.drewN n) = .ok (.string ⟨(inL l).toArray⟩) (wr.drewN n) := fun n => conv_own (ownsRow_drewN ht.1)
      have hc2 : ∀ n, (convert 112 9 u5).run Tryz.prog (wr.drewN n) = .ok (.string ⟨(outL l).toArray⟩) (wr.drewN n) := fun n => conv_own (ownsRow_drewN ht.2.1)
      go_wp2
      go_quiet (fail)
      go_wp2
      go_ret2
      exact ⟨rfl, drewN_below HBE.out⟩
set_option maxHeartbeats 4000000 in
theorem implIsCd_any (x : DCandidate) (v : Value) (F : Addr → Prop) (w : World) (hl : x.Links.length ≤ 1048576) (hv : RowRd rLink false w v x.Links F) :
    Calls Tryz.prog 80 #[.agg #[v]] w fun e w' => e = .returned (.bool (isCd x.Links)) ∧ Below w.heap.size w w' := by
  obtain ⟨A, cap, rfl⟩ := hv.form
  have HV := Lib.hid hv
  clear hv
  go_enter Tryz.func80, Tryz.ntmps80
  by_cases h16 : (16 : Int) < x.Links.length
  case pos =>
    have HE : Hid (isCd x.Links = false) := isCd_long (by omega)
    go_wp2
    go_ret
    exact ⟨ret_bool HE.out.symm, (Below.refl _ _).alloc (Nat.le_refl _) _⟩
  have HX : Hid (∀ k, k < x.Links.length → ∃ y, x.Links[k]? = some y) := fun k hk => ⟨_, List.getElem?_eq_getElem hk⟩
  have HNOT : Hid (∀ k (y : DLink), x.Links[k]? = some y → okI (y.In.toNat : Int) (y.Out.toNat : Int) = false → isCd x.Links = false) := fun k y h1 h2 => isCd_not h1 h2
  go_wp2
  go_loopw [14] (fun i wr => ∃ (k : Nat), k ≤ x.Links.length ∧ i = .int .i64 k ∧ Hid (∀ j y, x.Links[j]? = some y → j < k → okI (y.In.toNat : Int) (y.Out.toNat : Int) = true) ∧ Below w.heap.size w wr ∧ InC wr w.heap.size #[.slice A x.Links.length cap] 55) (fun i _ => x.Links.length - (intOf i).toNat)
  case atStart => exact ⟨0, by omega, rfl, fun j y _ h => by omega, (Below.refl _ _).alloc (Nat.le_refl _) _, heap_alloc_new _ _⟩
  case round =>
    obtain ⟨k, hk, rfl, hall, hbe, hi1⟩ := hrel
    have b1 := hi1.cell 0 rfl
    have HBE := Lib.hid hbe
    have HI1 := Lib.hid hi1
    clear hbe hi1
    by_cases hkl : k < x.Links.length
    · obtain ⟨y, hy⟩ := HX.out k hkl
      obtain ⟨g, off, xs, Fk, rfl, _, hra, _, hca⟩ := (HV.out.kept HBE.out).get hy
      obtain rfl := rLink_rd hra
      rw [rLink_size] at hca
      have c0 := hca 0 _ rfl
      have c1 := hca 1 _ rfl
      simp only [Nat.add_zero] at c0
      have HY := Lib.hid hy
      clear hca hra hy
      have HOK : Hid (okI (y.In.toNat : Int) (y.Out.toNat : Int) = true → ∀ j z, x.Links[j]? = some z → j < k + 1 → okI (z.In.toNat : Int) (z.Out.toNat : Int) = true) := fun h j z hz hj => by
        by_cases hjk : j = k
        · subst hjk; rw [HY.out] at hz; cases hz; exact h
        · exact hall.out j z hz (by omega)
      have HNO := Lib.hid (HNOT.out k y HY.out)
      have ha := u8_in y.In
      have hb := u8_in y.Out
      generalize (y.In.toNat : Int) = a at *
      generalize (y.Out.toNat : Int) = b at *
      have HAB := Lib.hid (And.intro ha hb)
      clear ha hb HY
      go_wp2_with fail
      refine (implValid_any a b _ _ HAB.out.1 HAB.out.2 (heap_alloc_new _ _)).mono ?_
      rintro e w2 ⟨rfl, hb2⟩
      have HB2 : Hid (Below w.heap.size w w2) := (HBE.out.alloc HBE.out.size _).trans (hb2.mono (by simp; have := HBE.out.size; omega))
      have HI2 : Hid (InC w2 w.heap.size #[.slice (some ⟨g, off, none⟩) x.Links.length cap] 55) := (HI1.out.kept ((Below.refl _ _).alloc (Nat.le_refl _) _)).kept hb2
      clear hb2 HI1 b1
      have b2 := HI2.out.cell 0 rfl
      cases hok : okI a b
      · have HR := Lib.hid (HNO.out hok)
        go_wp2
        go_ret
        exact ⟨ret_bool HR.out.symm, HB2.out⟩
      · have HALL := Lib.hid (HOK.out hok)
        go_wp2
        go_roundw
        case rel => exact ⟨k + 1, by omega, by go_num, HALL, HB2.out, HI2.out⟩
        case measure => simp [intOf]; omega
    · obtain rfl : k = x.Links.length := by omega
      have HI : Hid (isCd x.Links = (isFm ⟨(inL x.Links).toArray⟩ && isFm ⟨(outL x.Links).toArray⟩)) := by
        unfold Hid isCd
        rw [all_ok (fun j y h1 h2 => hall.out j y h1 h2), Bool.true_and, show decide ((x.Links.length : Int) ≤ 16) = true by simp; omega, Bool.true_and]
      have hli := inL_len_all x.Links
      have hlo := outL_len_all x.Links
      have HLI : Hid ((⟨(inL x.Links).toArray⟩ : ByteArray).size ≤ maxLen) := by unfold Hid maxLen; simp [ByteArray.size]; omega
      have HLO : Hid ((⟨(outL x.Links).toArray⟩ : ByteArray).size ≤ maxLen) := by unfold Hid maxLen; simp [ByteArray.size]; omega
      have HSD := Lib.hid (implSides_any x.Links _ F wr hl (HV.out.kept HBE.out))
      go_wp2_with fail
      refine HSD.out.mono ?_
      rintro e w2 ⟨rfl, hb2⟩
      have HB2 : Hid (Below w.heap.size w w2) := below_step HBE.out hb2
      clear hb2 HSD
      go_wp2_with fail
      refine (implFmS_any ⟨(inL x.Links).toArray⟩ _ HLI.out).mono ?_
      rintro e w3 ⟨rfl, rfl⟩
      generalize isFm ⟨(inL x.Links).toArray⟩ = fi at *
      cases fi
      · go_wp2_with fail
        go_ret
        exact ⟨ret_bool (by rw [HI.out] <;> simp), HB2.out⟩
      · go_wp2_with fail
        refine (implFmS_any ⟨(outL x.Links).toArray⟩ _ HLO.out).mono ?_
        rintro e w4 ⟨rfl, rfl⟩
        go_wp2_with fail
        go_ret
        exact ⟨ret_bool (by rw [HI.out] <;> simp), HB2.out⟩
end Go.Proofs.YtkaihnlknncfdaaGreatDoor

/- The program's conditions on a link and its counts: what they answer. -/
namespace Go.Proofs.YtkaihnlknncfdaaGreatDoor
set_option maxRecDepth 100000
open Go.RowKit M
set_option linter.unusedVariables false
set_option linter.unusedSimpArgs false
set_option maxRecDepth 100000

abbrev lkV (x : DLink) : Value := .agg #[.int .u8 (x.In.toNat : Int), .int .u8 (x.Out.toNat : Int)]
theorem away_any (x : DLink) (w : World) :
    Calls Tryz.prog 172 #[lkV x] w fun e w' => e = .returned (.bool (delK x)) ∧ Below w.heap.size w w' := by
  have HE : Hid (delK x = ((x.Out.toNat : Int) == 0)) := by unfold Hid delK; rw [Bool.eq_iff_iff]; simp
  unfold lkV
  generalize (x.In.toNat : Int) = a at *
  generalize (x.Out.toNat : Int) = b at *
  generalize delK x = r at *
  go_enter Tryz.func172, Tryz.ntmps172
  go_wp2
  go_ret
  exact ⟨ret_bool HE.out.symm, (Below.refl _ _).alloc (Nat.le_refl _) _⟩
theorem putin_any (x : DLink) (w : World) :
    Calls Tryz.prog 173 #[lkV x] w fun e w' => e = .returned (.bool (insK x)) ∧ Below w.heap.size w w' := by
  have HE : Hid (insK x = ((x.In.toNat : Int) == 0)) := by unfold Hid insK; rw [Bool.eq_iff_iff]; simp
  unfold lkV
  generalize (x.In.toNat : Int) = a at *
  generalize (x.Out.toNat : Int) = b at *
  generalize insK x = r at *
  go_enter Tryz.func173, Tryz.ntmps173
  go_wp2
  go_ret
  exact ⟨ret_bool HE.out.symm, (Below.refl _ _).alloc (Nat.le_refl _) _⟩
theorem kept_any (x : DLink) (w : World) :
    Calls Tryz.prog 185 #[lkV x] w fun e w' => e = .returned (.bool (kepK x)) ∧ Below w.heap.size w w' := by
  have HE : Hid (kepK x = (!delK x && !insK x)) := rfl
  have HD : Hid (∀ W, Calls Tryz.prog 172 #[lkV x] W fun e w' => e = .returned (.bool (delK x)) ∧ Below W.heap.size W w') := fun W => away_any x W
  have HI : Hid (∀ W, Calls Tryz.prog 173 #[lkV x] W fun e w' => e = .returned (.bool (insK x)) ∧ Below W.heap.size W w') := fun W => putin_any x W
  unfold lkV at *
  generalize (x.In.toNat : Int) = a at *
  generalize (x.Out.toNat : Int) = b at *
  generalize kepK x = r at *
  generalize delK x = d at *
  generalize insK x = i at *
  have HB : Hid (Below w.heap.size w (w.alloc (.cells #[.int .u8 a, .int .u8 b] 118))) := (Below.refl _ _).alloc (Nat.le_refl _) _
  have HX : Hid (InC (w.alloc (.cells #[.int .u8 a, .int .u8 b] 118)) w.heap.size #[.int .u8 a, .int .u8 b] 118) := heap_alloc_new _ _
  go_enter Tryz.func185, Tryz.ntmps185
  go_wp2_with fail
  refine (HD.out _).mono ?_
  rintro e w2 ⟨rfl, hb2⟩
  have HX2 := HX.out.kept hb2
  have c0 := HX2.cell 0 rfl
  have c1 := HX2.cell 1 rfl
  have HB2 : Hid (Below w.heap.size w w2) := below_step HB.out hb2
  clear hb2
  cases d
  · go_wp2_with fail
    refine (HI.out _).mono ?_
    rintro e w3 ⟨rfl, hb3⟩
    have HB3 : Hid (Below w.heap.size w w3) := below_step HB2.out hb3
    clear hb3
    go_wp2_with fail
    go_ret
    exact ⟨ret_bool (by rw [HE.out]; rfl), HB3.out⟩
  · go_wp2_with fail
    go_ret
    exact ⟨ret_bool (by rw [HE.out]; rfl), HB2.out⟩
theorem voice_any (x : DLink) (w : World) :
    Calls Tryz.prog 174 #[lkV x] w fun e w' => e = .returned (.bool (vchK x)) ∧ Below w.heap.size w w' := by
  have HE : Hid (vchK x = (kepK x && !((x.In.toNat : Int) == (x.Out.toNat : Int)))) := by unfold Hid vchK; congr 2
  have HD : Hid (∀ W, Calls Tryz.prog 185 #[lkV x] W fun e w' => e = .returned (.bool (kepK x)) ∧ Below W.heap.size W w') := fun W => kept_any x W
  unfold lkV at *
  generalize (x.In.toNat : Int) = a at *
  generalize (x.Out.toNat : Int) = b at *
  generalize vchK x = r at *
  generalize kepK x = d at *
  have HB : Hid (Below w.heap.size w (w.alloc (.cells #[.int .u8 a, .int .u8 b] 118))) := (Below.refl _ _).alloc (Nat.le_refl _) _
  have HX : Hid (InC (w.alloc (.cells #[.int .u8 a, .int .u8 b] 118)) w.heap.size #[.int .u8 a, .int .u8 b] 118) := heap_alloc_new _ _
  go_enter Tryz.func174, Tryz.ntmps174
  go_wp2_with fail
  refine (HD.out _).mono ?_
  rintro e w2 ⟨rfl, hb2⟩
  have HX2 := HX.out.kept hb2
  have c0 := HX2.cell 0 rfl
  have c1 := HX2.cell 1 rfl
  have HB2 : Hid (Below w.heap.size w w2) := below_step HB.out hb2
  clear hb2
  cases d
  · go_wp2_with fail
    go_ret
    exact ⟨ret_bool (by rw [HE.out]; rfl), HB2.out⟩
  · go_wp2_with fail
    go_ret
    refine ⟨ret_bool ?_, HB2.out⟩
    rw [HE.out, Bool.true_and]
    first | rfl | simp
/-- A condition on a link, as a function value. -/
def CondK (k : Nat) (p : DLink → Bool) : Prop :=
  (∀ args w', (callFunc k args).run Tryz.prog w' = .ok (.enter k args) w') ∧
  ∀ x W, Calls Tryz.prog k #[lkV x] W fun e w'' => e = .returned (.bool (p x)) ∧ Below W.heap.size W w''
theorem enters_of9 {P : Program} {f : FuncId} {fn : Func} {c : Code} (hf : P.funcs[f]? = some fn) (hname : (fn.name == "runtime.NumGoroutine") = false) (hb : fn.body = some c) (args : Array Value) (w : World) :
    (callFunc f args).run P w = .ok (.enter f args) w := by
  have h1 : ¬ fn.name = "runtime.NumGoroutine" := by simpa using hname
  simp [callFunc, go_sem, hf, h1, hb]
theorem cAway : CondK 172 delK := ⟨fun args w' => enters_of9 Tryz.func172 (by kernel_rfl) rfl args w', fun x W => away_any x W⟩
theorem cPutin : CondK 173 insK := ⟨fun args w' => enters_of9 Tryz.func173 (by kernel_rfl) rfl args w', fun x W => putin_any x W⟩
theorem cKept : CondK 185 kepK := ⟨fun args w' => enters_of9 Tryz.func185 (by kernel_rfl) rfl args w', fun x W => kept_any x W⟩
theorem cVoice : CondK 174 vchK := ⟨fun args w' => enters_of9 Tryz.func174 (by kernel_rfl) rfl args w', fun x W => voice_any x W⟩
set_option maxHeartbeats 4000000 in
/-- How many links of a row meet a condition. -/
theorem countLinks_any (q : Nat) (p : DLink → Bool) (hp : CondK q p) (l : List DLink) (v : Value) (F : Addr → Prop) (w : World) (hl : l.length ≤ 1048576) (hv : RowRd rLink false w v l F) :
    Calls Tryz.prog 170 #[v, .func (.func q) #[] #[]] w fun e w' => e = .returned (.int .i64 (cntL p l : Nat)) ∧ Below w.heap.size w w' := by
  obtain ⟨A, cap, rfl⟩ := hv.form
  have HV := Lib.hid hv
  clear hv
  have KP := Lib.hid hp.1
  have CP := Lib.hid hp.2
  clear hp
  have HX : Hid (∀ k, k < l.length → ∃ y, l[k]? = some y) := fun k hk => ⟨_, List.getElem?_eq_getElem hk⟩
  go_enter Tryz.func170, Tryz.ntmps170
  go_wp2
  go_loopw [5, 10] (fun c i wr => ∃ (k : Nat), k ≤ l.length ∧ i = .int .i64 k ∧ c = .int .i64 (cntL p (l.take k) : Nat) ∧ Below w.heap.size w wr) (fun _ i _ => l.length - (intOf i).toNat)
  case atStart => exact ⟨0, by omega, rfl, rfl, Below.refl _ _⟩
  case round =>
    obtain ⟨k, hk, rfl, rfl, hbe⟩ := hrel
    have HBE := Lib.hid hbe
    clear hbe
    have hel := cntL_le p l k
    by_cases hkl : k < l.length
    · obtain ⟨y, hy⟩ := HX.out k hkl
      obtain ⟨g, off, xs, Fk, rfl, _, hra, _, hca⟩ := (HV.out.kept HBE.out).get hy
      obtain rfl := rLink_rd hra
      rw [rLink_size] at hca
      have c0 := hca 0 _ rfl
      have c1 := hca 1 _ rfl
      simp only [Nat.add_zero] at c0
      have HEY : Hid (p y = true → cntL p (l.take (k + 1)) = cntL p (l.take k) + 1) := fun h => cntL_yes hy h
      have HEN : Hid (p y = false → cntL p (l.take (k + 1)) = cntL p (l.take k)) := fun h => cntL_no hy h
      have CY : Hid (∀ W, Calls Tryz.prog q #[lkV y] W fun e w'' => e = .returned (.bool (p y)) ∧ Below W.heap.size W w'') := fun W => CP.out y W
      clear hca hra hy
      unfold lkV at CY
      generalize cntL p (l.take k) = E0 at *
      generalize (y.In.toNat : Int) = a at *
      generalize (y.Out.toNat : Int) = b at *
      generalize p y = r at *
      go_wp2_with fail
      rw [KP.out, Oper.upon_enter]
      refine (CY.out _).mono ?_
      rintro e w2 ⟨rfl, hb2⟩
      have HB2 : Hid (Below w.heap.size w w2) := below_step (HBE.out.alloc HBE.out.size _) hb2
      clear hb2
      cases r
      · have HE := Lib.hid (HEN.out rfl)
        go_wp2
        go_roundw
        case rel => exact ⟨k + 1, by omega, by go_num, by rw [HE.out], HB2.out⟩
        case measure => simp [intOf]; omega
      · have HE := Lib.hid (HEY.out rfl)
        go_wp2
        go_roundw
        case rel => exact ⟨k + 1, by omega, by go_num, by rw [HE.out]; go_num, HB2.out⟩
        case measure => simp [intOf]; omega
    · obtain rfl : k = l.length := by omega
      rw [List.take_length] at *
      go_wp2
      go_ret
      exact ⟨rfl, HBE.out⟩
/-- The links of a valid candidate, none of another. -/
def valL (l : List DLink) : List DLink := if isCd l then l else []
theorem valid_any (l : List DLink) (v : Value) (F : Addr → Prop) (w : World) (hl : l.length ≤ 1048576) (hv : RowRd rLink false w v l F) :
    Calls Tryz.prog 171 #[.agg #[v]] w fun e w' => ∃ u, e = .returned u ∧ RowRd rLink false w' u (valL l) F ∧ Below w.heap.size w w' := by
  have HIS : Hid (∀ W, Below w.heap.size w W → Calls Tryz.prog 80 #[.agg #[v]] W fun e w' => e = .returned (.bool (isCd l)) ∧ Below W.heap.size W w') := fun W hW => implIsCd_any ⟨l⟩ v F W hl (hv.kept hW)
  obtain ⟨A, cap, rfl⟩ := hv.form
  have HV : Hid (∀ W, Below w.heap.size w W → RowRd rLink false W (.slice A l.length cap) l F) := fun W hW => hv.kept hW
  clear hv
  have HR : Hid (valL l = if isCd l then l else []) := rfl
  generalize isCd l = c at *
  generalize valL l = r at *
  have HB : Hid (Below w.heap.size w (w.alloc (.cells #[.slice A l.length cap] 55))) := (Below.refl _ _).alloc (Nat.le_refl _) _
  have HX : Hid (InC (w.alloc (.cells #[.slice A l.length cap] 55)) w.heap.size #[.slice A l.length cap] 55) := heap_alloc_new _ _
  go_enter Tryz.func171, Tryz.ntmps171
  go_wp2_with fail
  refine (HIS.out _ HB.out).mono ?_
  rintro e w2 ⟨rfl, hb2⟩
  have c0 := (HX.out.kept hb2).cell 0 rfl
  have HB2 : Hid (Below w.heap.size w w2) := below_step HB.out hb2
  clear hb2
  cases c
  · go_wp2_with fail
    go_ret
    exact ⟨_, rfl, by rw [HR.out]; exact RowRd.nil _ _ _, HB2.out⟩
  · go_wp2_with fail
    go_ret
    exact ⟨_, rfl, by rw [HR.out]; exact HV.out _ HB2.out, HB2.out⟩
theorem cnt_val (p : DLink → Bool) (l : List DLink) : cntL p (valL l) = cntC p l := by
  unfold valL cntC; split <;> rfl
theorem val_len (l : List DLink) : (valL l).length ≤ l.length := by
  unfold valL; split <;> simp
end Go.Proofs.YtkaihnlknncfdaaGreatDoor

/- The program's counts of links, and its IsFaithful: what they answer. -/
namespace Go.Proofs.YtkaihnlknncfdaaGreatDoor
set_option maxRecDepth 100000
open Go.RowKit M
set_option linter.unusedVariables false
set_option linter.unusedSimpArgs false
set_option maxRecDepth 100000

/-- Whether a candidate is valid and has no edits. -/
theorem implDeleted_any (x : DCandidate) (v : Value) (F : Addr → Prop) (w : World) (hl : x.Links.length ≤ 1048576) (hv : RowRd rLink false w v x.Links F) :
    Calls Tryz.prog 153 #[.agg #[v]] w fun e w' => e = .returned (.int .i64 (cntC delK x.Links : Nat)) ∧ Below w.heap.size w w' := by
  have HV : Hid (∀ W, Below w.heap.size w W → Calls Tryz.prog 171 #[.agg #[v]] W fun e w' => ∃ u, e = .returned u ∧ RowRd rLink false w' u (valL x.Links) F ∧ Below W.heap.size W w') := fun W hW => valid_any x.Links v F W hl (hv.kept hW)
  have HE : Hid (cntL delK (valL x.Links) = cntC delK x.Links) := cnt_val _ _
  have HN : Hid ((valL x.Links).length ≤ 1048576) := Nat.le_trans (val_len _) hl
  obtain ⟨A, cap, rfl⟩ := hv.form
  clear hv
  generalize valL x.Links = m at *
  generalize cntC delK x.Links = r at *
  have HB : Hid (Below w.heap.size w (w.alloc (.cells #[.slice A x.Links.length cap] 55))) := (Below.refl _ _).alloc (Nat.le_refl _) _
  go_enter Tryz.func153, Tryz.ntmps153
  go_wp2_with fail
  refine (HV.out _ HB.out).mono ?_
  rintro e w2 ⟨u, rfl, hu, hb2⟩
  have HB2 : Hid (Below w.heap.size w w2) := below_step HB.out hb2
  have HU := Lib.hid hu
  clear hb2 hu
  go_wp2_with fail
  refine (countLinks_any _ _ cAway m u F w2 HN.out HU.out).mono ?_
  rintro e w3 ⟨rfl, hb3⟩
  have HB3 : Hid (Below w.heap.size w w3) := below_step HB2.out hb3
  clear hb3
  go_wp2_with fail
  go_ret
  exact ⟨by rw [HE.out] <;> rfl, HB3.out⟩
theorem implInserted_any (x : DCandidate) (v : Value) (F : Addr → Prop) (w : World) (hl : x.Links.length ≤ 1048576) (hv : RowRd rLink false w v x.Links F) :
    Calls Tryz.prog 154 #[.agg #[v]] w fun e w' => e = .returned (.int .i64 (cntC insK x.Links : Nat)) ∧ Below w.heap.size w w' := by
  have HV : Hid (∀ W, Below w.heap.size w W → Calls Tryz.prog 171 #[.agg #[v]] W fun e w' => ∃ u, e = .returned u ∧ RowRd rLink false w' u (valL x.Links) F ∧ Below W.heap.size W w') := fun W hW => valid_any x.Links v F W hl (hv.kept hW)
  have HE : Hid (cntL insK (valL x.Links) = cntC insK x.Links) := cnt_val _ _
  have HN : Hid ((valL x.Links).length ≤ 1048576) := Nat.le_trans (val_len _) hl
  obtain ⟨A, cap, rfl⟩ := hv.form
  clear hv
  generalize valL x.Links = m at *
  generalize cntC insK x.Links = r at *
  have HB : Hid (Below w.heap.size w (w.alloc (.cells #[.slice A x.Links.length cap] 55))) := (Below.refl _ _).alloc (Nat.le_refl _) _
  go_enter Tryz.func154, Tryz.ntmps154
  go_wp2_with fail
  refine (HV.out _ HB.out).mono ?_
  rintro e w2 ⟨u, rfl, hu, hb2⟩
  have HB2 : Hid (Below w.heap.size w w2) := below_step HB.out hb2
  have HU := Lib.hid hu
  clear hb2 hu
  go_wp2_with fail
  refine (countLinks_any _ _ cPutin m u F w2 HN.out HU.out).mono ?_
  rintro e w3 ⟨rfl, hb3⟩
  have HB3 : Hid (Below w.heap.size w w3) := below_step HB2.out hb3
  clear hb3
  go_wp2_with fail
  go_ret
  exact ⟨by rw [HE.out] <;> rfl, HB3.out⟩
theorem implVoiceChanged_any (x : DCandidate) (v : Value) (F : Addr → Prop) (w : World) (hl : x.Links.length ≤ 1048576) (hv : RowRd rLink false w v x.Links F) :
    Calls Tryz.prog 155 #[.agg #[v]] w fun e w' => e = .returned (.int .i64 (cntC vchK x.Links : Nat)) ∧ Below w.heap.size w w' := by
  have HV : Hid (∀ W, Below w.heap.size w W → Calls Tryz.prog 171 #[.agg #[v]] W fun e w' => ∃ u, e = .returned u ∧ RowRd rLink false w' u (valL x.Links) F ∧ Below W.heap.size W w') := fun W hW => valid_any x.Links v F W hl (hv.kept hW)
  have HE : Hid (cntL vchK (valL x.Links) = cntC vchK x.Links) := cnt_val _ _
  have HN : Hid ((valL x.Links).length ≤ 1048576) := Nat.le_trans (val_len _) hl
  obtain ⟨A, cap, rfl⟩ := hv.form
  clear hv
  generalize valL x.Links = m at *
  generalize cntC vchK x.Links = r at *
  have HB : Hid (Below w.heap.size w (w.alloc (.cells #[.slice A x.Links.length cap] 55))) := (Below.refl _ _).alloc (Nat.le_refl _) _
  go_enter Tryz.func155, Tryz.ntmps155
  go_wp2_with fail
  refine (HV.out _ HB.out).mono ?_
  rintro e w2 ⟨u, rfl, hu, hb2⟩
  have HB2 : Hid (Below w.heap.size w w2) := below_step HB.out hb2
  have HU := Lib.hid hu
  clear hb2 hu
  go_wp2_with fail
  refine (countLinks_any _ _ cVoice m u F w2 HN.out HU.out).mono ?_
  rintro e w3 ⟨rfl, hb3⟩
  have HB3 : Hid (Below w.heap.size w w3) := below_step HB2.out hb3
  clear hb3
  go_wp2_with fail
  go_ret
  exact ⟨by rw [HE.out] <;> rfl, HB3.out⟩
end Go.Proofs.YtkaihnlknncfdaaGreatDoor

/- Rows of data that a call lays by appending rows; what the row that was there before still holds. -/
namespace Go.Proofs.YtkaihnlknncfdaaGreatDoor
set_option maxRecDepth 100000
open Go.RowKit
set_option linter.unusedVariables false
set_option linter.unusedSimpArgs false

theorem addr_add (g o n : Nat) : (⟨g, o, none⟩ : Addr).add n = ⟨g, o + n, none⟩ := by
  unfold Addr.add
  by_cases h : n = 0
  · subst h; rfl
  · rw [if_neg h]
section
variable {P : Program} {w : World}
/-- The row that was appended to is still what it was, in its old length. -/
theorem append_old (base : Nat) (t ty e : TypeId) (i : TypeInfo) (z : Value) (ht : P.underlying t = some (.slice e)) (hi : P.info? e = some i) (hz : i.zero = some z) (hsz : 0 < i.size)
    (v : Value) (n : Nat) (xs : List Value) (hown : w.ownsRow base e i.size v n xs) (a : Addr) (m c : Nat) (news : List Value) (hl : news.length = m * i.size) (hnews : ∀ j u, news[j]? = some u → w.cell? (a.add j) = some u)
    (h1 : ∀ u ∈ news, u.oneCell' = true) (h63 : n + m ≤ maxLen) (hbytes : (n + m) * i.bytes ≤ 140737488355328)
    {v' : Value} {w' : World} (hrun : (Builtin.append_ #[t, t] ty #[v, .slice (some a) m c]).run P w = .ok v' w') : w'.ownsRow base e i.size v n xs := by
  rcases hown.2 with ⟨rfl, rfl⟩ | ⟨g, cap, cur, rfl, hbg, hg, hnc, hcm, hcs, htake⟩
  · exact ⟨hown.1, Or.inl ⟨rfl, rfl⟩⟩
  · have hxl := hown.1
    by_cases hroom : n + m ≤ cap
    · have hfit : n * i.size + news.length ≤ cur.size := by rw [hl, hcs, ← Nat.add_mul]; exact Nat.mul_le_mul_right _ hroom
      rw [run_append_room (P := P) w t ty e i ht hi g n cap cur hg a m c news hl hnews h1 hroom hfit] at hrun
      injection hrun with e1 e2
      subst e2
      refine ⟨hxl, Or.inr ⟨g, cap, _, rfl, hbg, setRow_heap w g cur _ e _ hg, hnc, hcm, ?_, ?_⟩⟩
      · simp only [List.size_toArray, List.length_append, List.length_take, List.length_drop, Array.length_toList]
        omega
      · rw [htake, List.append_assoc, ← hxl]
        exact List.take_left
    · rw [run_append_grow (P := P) w t ty e i z ht hi hz ⟨g, 0, none⟩ n cap xs hxl (hown.cells (g := g) rfl) a m c news hl hnews (by omega) (by simp only [maxLen] at h63; omega) (growslice_fits (by omega) hbytes)] at hrun
      injection hrun with e1 e2
      subst e2
      exact ⟨hxl, Or.inr ⟨g, cap, cur, rfl, hbg, (heap_alloc_old w.drew _ (Array.getElem?_eq_some_iff.1 hg).1).trans hg, hnc, hcm, hcs, htake⟩⟩
end
section
variable {α : Type} {E : Rep α} {e : TypeId} {s : Bool} {base : Nat} {w w' : World} {v : Value} {l : List α} {G : Addr → Prop}
theorem OwnRd.frame (h : OwnRd E e s base w v l G) (hv : ∀ k, v.ownBlock = some k → w'.heap[k]? = w.heap[k]?) (hG : ∀ a, G a → a.block < w.heap.size → v.ownBlock ≠ some a.block → w'.heap[a.block]? = w.heap[a.block]?) (hsz : w.heap.size ≤ w'.heap.size) : OwnRd E e s base w' v l G := by
  obtain ⟨cells, Fk, hown, he⟩ := h
  refine ⟨cells, Fk, ⟨hown.1, ?_⟩, fun k x hk => ?_⟩
  · rcases hown.2 with h2 | ⟨g, cap, cur, rfl, hg, hh, r⟩
    · exact Or.inl h2
    · exact Or.inr ⟨g, cap, cur, rfl, hg, (hv g rfl).trans hh, r⟩
  · obtain ⟨ys, h1, h2, h3, h4⟩ := he k x hk
    refine ⟨ys, h1, E.frame h2 (fun a ha => ?_), fun a ha => ⟨(h3 a ha).1, Nat.lt_of_lt_of_le (h3 a ha).2.1 hsz, (h3 a ha).2.2⟩, h4⟩
    have hb := hG a (h3 a ha).1 (h3 a ha).2.1 (h3 a ha).2.2
    exact ⟨World.cell?_of_block (w := w) hb, World.frozen?_of_block (w := w) hb⟩
theorem OwnRd.flat (hfl : Flat E) (h : OwnRd E e s base w v l G) : OwnRd E e true base w v l (fun _ => False) := by
  obtain ⟨cells, Fk, hown, he⟩ := h
  refine ⟨cells, fun _ _ => False, hown, fun k x hk => ?_⟩
  obtain ⟨ys, h1, h2, h3, h4⟩ := he k x hk
  exact ⟨ys, h1, hfl.free h2 _, fun a h => h.elim, fun _ k' _ _ a h => h.elim⟩
/-- A new row of one element. -/
theorem RowRd.one (w : World) {ys : List Value} {x : α} {F : Addr → Prop} (hx : E.rd s w ys x F) (hF : ∀ a, F a → a.block < w.heap.size) :
    RowRd E s (w.alloc (.cells ys.toArray e)) (.slice (some ⟨w.heap.size, 0, none⟩) 1 1) [x] (fun a => F a ∨ a.block = w.heap.size) := by
  have hb : Below w.heap.size w (w.alloc (.cells ys.toArray e)) := (Below.refl _ _).alloc (Nat.le_refl _) _
  refine ⟨some ⟨w.heap.size, 0, none⟩, 1, fun _ => F, rfl, ⟨by simp, (fun h => by cases h), by simp⟩, fun k y hk => ?_⟩
  match k, hk with
  | 0, hk =>
    simp at hk
    subst hk
    refine ⟨w.heap.size, 0, ys, rfl, E.kept hx hb, fun a ha => Or.inl ha, fun j u hj => ?_, fun hs => ⟨fun i _ hf => ?_, fun k' hk' hne => by simp at hk'; omega⟩⟩
    · have hin : InC (w.alloc (.cells ys.toArray e)) w.heap.size ys.toArray e := heap_alloc_new _ _
      simp only [Nat.zero_mul, Nat.zero_add, Nat.add_zero]
      exact ⟨hin.cell j (by simpa using hj), by simp, fun _ => hin.free j⟩
    · have := hF _ hf
      simp at this
end
/-- 'append(s, y...)': what it answers and leaves. -/
theorem run_append_rows {α : Type} (E : Rep α) {w : World} (t ty e : TypeId) (i : TypeInfo) (z : Value) (bytes : Nat) (ht : Tryz.prog.underlying t = some (.slice e)) (hi : Tryz.prog.info? e = some i) (hz : i.zero = some z) (hsize : i.size = E.size) (hby : i.bytes = bytes) (hzs : z.cells.size = E.size) (hpos : 0 < E.size)
    (hone : ∀ {s : Bool} {w : World} {ys : List Value} {x : α} {F : Addr → Prop}, E.rd s w ys x F → ∀ u ∈ ys, u.oneCell' = true)
    (s : Bool) (base : Nat) (v : Value) (l : List α) (G : Addr → Prop) (hown : OwnRd E e s base w v l G) (A : Option Addr) (n cap : Nat) (m : List α) (F : Addr → Prop) (hrow : RowRd E s w (.slice A n cap) m F)
    (hF : ∀ a, F a → a.block < w.heap.size ∧ v.ownBlock ≠ some a.block) (hd : s = true → ∀ a, F a → ¬ G a) (hn : l.length ≤ 1000000) (hm : m.length ≤ 1000000) (hbb : bytes ≤ 100) (hbase : base ≤ w.heap.size) :
    ∃ v' w', (Builtin.append_ #[t, t] ty #[v, .slice A n cap]).run Tryz.prog w = .ok v' w' ∧ OwnRd E e s base w' v' (l ++ m) (fun a => G a ∨ F a) ∧ OwnRd E e s base w' v l G ∧ Below base w w' ∧
      (∀ k, k < w.heap.size → v.ownBlock ≠ some k → w'.heap[k]? = w.heap[k]? ∧ v'.ownBlock ≠ some k) ∧ (v'.ownBlock = v.ownBlock ∨ ∀ k, v'.ownBlock = some k → w.heap.size ≤ k) := by
  have hown0 := hown
  obtain ⟨cells, Fk, ho1, he⟩ := hown
  have hcl : cells.length = l.length * E.size := ho1.1
  obtain ⟨A', cap', hf⟩ := hrow.form
  cases hf
  cases A with
  | none =>
    obtain ⟨h0, h2, hmn⟩ := hrow.nil_cap
    subst h2 hmn
    refine ⟨v, w, run_append_owned_none (P := Tryz.prog) (w := w) base t ty e i E.size ht hi v l.length cells ho1, ?_, hown0, Below.refl _ _, fun k _ hv => ⟨rfl, hv⟩, Or.inl rfl⟩
    rw [List.append_nil]
    exact hown0.mono (fun a h => Or.inl h)
  | some p =>
    obtain ⟨ad, had, hrc⟩ : ∃ ad : Addr, p = ad ∧ ∃ news : List Value, news.length = m.length * E.size ∧ (∀ j u, news[j]? = some u → w.cell? (ad.add j) = some u) ∧ (∀ u ∈ news, u.oneCell' = true) ∧
        (∀ (k : Nat) (x : α), m[k]? = some x → ∃ ys Fx, E.rd s w ys x Fx ∧ (∀ j u, ys[j]? = some u → news[k * E.size + j]? = some u)) := by
      refine ⟨p, rfl, ?_⟩
      by_cases hme : m = []
      · subst hme
        exact ⟨[], by simp, fun j u hj => by simp at hj, fun u hu => by simp at hu, fun k x hk => by simp at hk⟩
      · have hm0 : 0 < m.length := List.length_pos_iff.2 hme
        obtain ⟨g, off, _, _, hp, _⟩ := hrow.get (List.getElem?_eq_getElem hm0)
        cases hp
        have hadd : ∀ j, (⟨g, off, none⟩ : Addr).add j = ⟨g, off + j, none⟩ := fun j => by unfold Addr.add; split <;> simp_all
        refine ⟨rowCells w g off (m.length * E.size), rowCells_len _ _ _ _, fun j u hj => ?_, fun u hu => ?_, fun k x hk => ?_⟩
        · have hjl : j < m.length * E.size := by have := (List.getElem?_eq_some_iff.1 hj).1; rwa [rowCells_len] at this
          obtain ⟨_, _, _, u', _, _, _, hc⟩ := hrow.all_cells hpos hjl
          rw [rowCells_at hjl hc] at hj
          cases hj
          rw [hadd]; exact hc
        · obtain ⟨j, hj⟩ := List.mem_iff_getElem?.1 hu
          have hjl : j < m.length * E.size := by have := (List.getElem?_eq_some_iff.1 hj).1; rwa [rowCells_len] at this
          obtain ⟨_, ys, _, u', _, hr, hyu, hc⟩ := hrow.all_cells hpos hjl
          rw [rowCells_at hjl hc] at hj
          cases hj
          exact hone hr _ (List.mem_of_getElem? hyu)
        · obtain ⟨g', off', ys, F', ha, hl', hr, _, hc⟩ := hrow.get hk
          cases ha
          refine ⟨ys, F', hr, fun j u hj => ?_⟩
          have hkm : k < m.length := (List.getElem?_eq_some_iff.1 hk).1
          have hjs : j < E.size := by rw [← hl']; exact (List.getElem?_eq_some_iff.1 hj).1
          have hin : k * E.size + j < m.length * E.size := by
            have : (k + 1) * E.size ≤ m.length * E.size := Nat.mul_le_mul_right _ hkm
            rw [Nat.succ_mul] at this
            omega
          refine rowCells_at hin ?_
          rw [← Nat.add_assoc]
          exact hc j u hj
    subst had
    obtain ⟨news, hnl, hnews, hn1, hel⟩ := hrc
    have hbyt : (l.length + m.length) * i.bytes ≤ 140737488355328 := by rw [hby]; exact Nat.le_trans (Nat.mul_le_mul (Nat.add_le_add hn hm) hbb) (by omega)
    rw [← hsize] at hnl ho1
    obtain ⟨v', w', hr, q1, q2, _, q4⟩ := run_append_own_at (P := Tryz.prog) w base t ty e i z i.size i.bytes ht hi hz rfl rfl (hzs.trans hsize.symm) (hsize ▸ hpos) v l.length cells ho1 p m.length cap news hnl hnews hn1 (by unfold maxLen; omega) hbyt hbase
    have hold := append_old base t ty e i z ht hi hz (hsize ▸ hpos) v l.length cells ho1 p m.length cap news hnl hnews hn1 (by unfold maxLen; omega) hbyt hr
    rw [hsize] at q1 hold
    have hkeep : ∀ k, k < w.heap.size → v.ownBlock ≠ some k → w'.heap[k]? = w.heap[k]? ∧ v'.ownBlock ≠ some k := fun k hk hv => by
      refine ⟨q2.block k hk (fun e => hv e.symm), ?_⟩
      rcases q4 with q4 | q4
      · rw [q4]; exact hv
      · rw [q4]; simp; omega
    have hfr : ∀ (H : Addr → Prop), (∀ a, H a → a.block < w.heap.size ∧ v.ownBlock ≠ some a.block) → ∀ a, H a → w'.cell? a = w.cell? a ∧ w'.frozen? a = w.frozen? a := fun H hH a ha =>
      ⟨World.cell?_of_block (w := w) (hkeep _ (hH a ha).1 (hH a ha).2).1, World.frozen?_of_block (w := w) (hkeep _ (hH a ha).1 (hH a ha).2).1⟩
    have hel0 : ∀ k x, l[k]? = some x → ∃ ys : List Value, (∀ j u, ys[j]? = some u → cells[k * E.size + j]? = some u) ∧ E.rd s w' ys x (Fk k) ∧ (∀ a, Fk k a → G a ∧ a.block < w.heap.size ∧ v.ownBlock ≠ some a.block) ∧ (s = true → ∀ k', k' < l.length → k' ≠ k → ∀ a, Fk k a → ¬ Fk k' a) := fun k x hk => by
      obtain ⟨ys, h1, h2, h3, h4⟩ := he k x hk
      exact ⟨ys, h1, E.frame h2 (hfr _ fun a ha => (h3 a ha).2), h3, h4⟩
    refine ⟨v', w', hr, ?_, ⟨cells, Fk, hold, fun k x hk => ?_⟩, (Below.refl _ _).grown q2 hbase (fun q hq => (ho1.lt q hq).1), hkeep, ?_⟩
    · obtain ⟨A2, cap2, Fm, hv2, hmx, hme⟩ := hrow
      cases hv2
      refine ⟨cells ++ news, fun k => if k < l.length then Fk k else Fm (k - l.length), by rw [List.length_append]; exact q1, fun k x hk => ?_⟩
      by_cases hkl : k < l.length
      · rw [List.getElem?_append_left hkl] at hk
        obtain ⟨ys, h1, h2, h3, h4⟩ := hel0 k x hk
        refine ⟨ys, fun j u hj => ?_, ?_, ?_, ?_⟩
        · have := h1 j u hj
          rw [List.getElem?_append_left (List.getElem?_eq_some_iff.1 this).1]; exact this
        · simp only [if_pos hkl]; exact h2
        · simp only [if_pos hkl]
          exact fun a ha => ⟨Or.inl (h3 a ha).1, Nat.lt_of_lt_of_le (h3 a ha).2.1 q2.size, (hkeep _ (h3 a ha).2.1 (h3 a ha).2.2).2⟩
        · intro hs k' hk' hne a ha
          simp only [if_pos hkl] at ha
          by_cases hk2 : k' < l.length
          · simp only [if_pos hk2]; exact h4 hs k' hk2 hne a ha
          · simp only [if_neg hk2]
            intro hf
            rw [List.length_append] at hk'
            obtain ⟨_, _, _, _, _, hFm, _⟩ := hme (k' - l.length) _ (List.getElem?_eq_getElem (by omega))
            exact hd hs a (hFm a hf) (h3 a ha).1
      · rw [List.getElem?_append_right (by omega)] at hk
        obtain ⟨g2, off2, ys, hA2, hrd, hFm, hcs, hap⟩ := hme _ _ hk
        obtain ⟨ys2, Fx2, hrd2, hn2⟩ := hel _ _ hk
        refine ⟨ys, fun j u hj => ?_, ?_, ?_, ?_⟩
        · have hkm : k - l.length < m.length := (List.getElem?_eq_some_iff.1 hk).1
          have hjs : j < E.size := by rw [← E.len hrd]; exact (List.getElem?_eq_some_iff.1 hj).1
          have hsub : k * E.size + j - l.length * E.size = (k - l.length) * E.size + j := by
            have h1 : k * E.size = (k - l.length) * E.size + l.length * E.size := by rw [← Nat.add_mul, Nat.sub_add_cancel (by omega)]
            omega
          have hge : l.length * E.size ≤ k * E.size + j := by
            have : l.length * E.size ≤ k * E.size := Nat.mul_le_mul_right _ (by omega)
            omega
          rw [List.getElem?_append_right (by omega), hcl, hsub]
          obtain ⟨u2, hu2⟩ : ∃ u2, ys2[j]? = some u2 := ⟨_, List.getElem?_eq_getElem (by rw [E.len hrd2]; exact hjs)⟩
          have h5 := hn2 j u2 hu2
          have hpe := hnews _ _ h5
          have hc := (hcs j u hj).1
          have hA3 := Option.some.inj hA2
          subst hA3
          rw [addr_add, ← Nat.add_assoc] at hpe
          rw [hc] at hpe
          rw [h5, hpe]
        · simp only [if_neg hkl]
          exact E.frame hrd (hfr _ fun a ha => hF a (hFm a ha))
        · simp only [if_neg hkl]
          exact fun a ha => ⟨Or.inr (hFm a ha), Nat.lt_of_lt_of_le (hF a (hFm a ha)).1 q2.size, (hkeep _ (hF a (hFm a ha)).1 (hF a (hFm a ha)).2).2⟩
        · intro hs k' hk' hne a ha
          simp only [if_neg hkl] at ha
          by_cases hk2 : k' < l.length
          · simp only [if_pos hk2]
            obtain ⟨_, _, _, q3, _⟩ := hel0 k' _ (List.getElem?_eq_getElem hk2)
            exact fun hf => hd hs a (hFm a ha) (q3 a hf).1
          · simp only [if_neg hk2]
            rw [List.length_append] at hk'
            exact (hap hs).2 (k' - l.length) (by omega) (by omega) a ha
    · obtain ⟨ys, h1, h2, h3, h4⟩ := hel0 k x hk
      exact ⟨ys, h1, h2, fun a ha => ⟨(h3 a ha).1, Nat.lt_of_lt_of_le (h3 a ha).2.1 q2.size, (h3 a ha).2.2⟩, h4⟩
    · rcases q4 with q4 | q4
      · exact Or.inl q4
      · exact Or.inr fun k hk => by rw [q4] at hk; cases hk; simp
/-- The same, at an operation of a region that draws its order. -/
theorem step_append_rows {α : Type} (E : Rep α) {ops : Array Oper} {o : Oper} {a : Act} {K : Act → World → Prop} {Q : Exit → Act → World → Prop} {Z : Prop} (w : World) (hgd : o.guard = none) (sl y : Operand) (t e : TypeId) (i : TypeInfo) (z : Value) (bytes : Nat)
    (ho : o.op = .call { callee := .builtin .append, args := #[sl, y], argTypes := #[t, t] }) (ht : Tryz.prog.underlying t = some (.slice e)) (hi : Tryz.prog.info? e = some i) (hz : i.zero = some z) (hsize : i.size = E.size) (hby : i.bytes = bytes) (hzs : z.cells.size = E.size) (hpos : 0 < E.size)
    (hone : ∀ {s : Bool} {w : World} {ys : List Value} {x : α} {F : Addr → Prop}, E.rd s w ys x F → ∀ u ∈ ys, u.oneCell' = true)
    (s : Bool) (base : Nat) (v : Value) (l : List α) (G : Addr → Prop) (hown : OwnRd E e s base w v l G) (A : Option Addr) (n cap : Nat) (m : List α) (F : Addr → Prop) (hrow : RowRd E s w (.slice A n cap) m F)
    (hF : ∀ a, F a → a.block < w.heap.size ∧ v.ownBlock ≠ some a.block) (hd : s = true → ∀ a, F a → ¬ G a) (hn : l.length ≤ 1000000) (hm : m.length ≤ 1000000) (hbb : bytes ≤ 100) (hbase : base ≤ w.heap.size)
    (hs : a.eval sl = v) (hy : a.eval y = .slice A n cap)
    (h : ∀ v' w', OwnRd E e s base w' v' (l ++ m) (fun a => G a ∨ F a) → OwnRd E e s base w' v l G → Below base w w' → (∀ k, k < w.heap.size → v.ownBlock ≠ some k → w'.heap[k]? = w.heap[k]? ∧ v'.ownBlock ≠ some k) → (v'.ownBlock = v.ownBlock ∨ ∀ k, v'.ownBlock = some k → w.heap.size ≤ k) → K (a.put o.dst v') w') :
    if Region.wanted o (yielded ops a.tmps) = true then Oper.wp Tryz.prog o a w K Q else Z := by
  have hw : Region.wanted o (yielded ops a.tmps) = true := by simp [Region.wanted, hgd]
  rw [if_pos hw]
  obtain ⟨v', w', hr, h1, h2, h3, h4, h5⟩ := run_append_rows E (w := w) t o.type e i z bytes ht hi hz hsize hby hzs hpos hone s base v l G hown A n cap m F hrow hF hd hn hm hbb hbase
  unfold Oper.wp execOp
  simp only [ho, resolve, invoke, builtin, Sem.run_bind, Sem.run_pure, Result.andThen_ok, List.map_toArray, List.map_cons, List.map_nil, hs, hy, hr]
  exact h v' w' h1 h2 h3 h4 h5
end Go.Proofs.YtkaihnlknncfdaaGreatDoor

/- The program's CountBreaks: what it answers. -/
namespace Go.Proofs.YtkaihnlknncfdaaGreatDoor
set_option maxRecDepth 100000
open Go.RowKit M
set_option linter.unusedVariables false
set_option linter.unusedSimpArgs false
set_option maxRecDepth 100000

/-- Some places of a row, one after the other. -/
theorem RowRd.sub {α : Type} {E : Rep α} {w : World} {g off n cap : Nat} {l : List α} {F : Addr → Prop} (h : RowRd E false w (.slice (some ⟨g, off, none⟩) n cap) l F) (f e c : Nat) (he : e ≤ l.length) (hc : e - f ≤ c) :
    RowRd E false w (.slice (some ⟨g, off + f * E.size, none⟩) (e - f) c) ((l.take e).drop f) F := by
  have hm := h.max
  obtain ⟨A', cap', Fk, hv, _, hr⟩ := h
  cases hv
  have hlen : ((l.take e).drop f).length = e - f := by rw [List.length_drop, List.length_take]; omega
  refine ⟨some ⟨g, off + f * E.size, none⟩, c, fun k => Fk (f + k), by rw [hlen], ⟨by rw [hlen]; omega, (fun h => by cases h), by rw [hlen]; exact hc⟩, fun k x hk => ?_⟩
  have hk1 : k < e - f := by rw [← hlen]; exact (List.getElem?_eq_some_iff.1 hk).1
  rw [List.getElem?_drop, List.getElem?_take, if_pos (by omega)] at hk
  obtain ⟨g2, off2, xs, ha, h1, h2, h3, h4⟩ := hr (f + k) x hk
  cases ha
  refine ⟨g, off + f * E.size, xs, rfl, h1, h2, fun j u hj => ?_, fun h => by cases h⟩
  have h5 := h3 j u hj
  rw [Nat.add_mul, ← Nat.add_assoc] at h5
  exact ⟨h5.1, h5.2.1, fun h => by cases h⟩
def idxI (p : DLink → Bool) (l : List DLink) : Int := if l.findIdx p < l.length then (l.findIdx p : Nat) else -1
theorem idx_none {p : DLink → Bool} {l : List DLink} (h : ∀ (j : Nat) (y : DLink), j < l.length → l[j]? = some y → p y = false) : idxI p l = -1 := by
  have h1 : l.findIdx p = l.length := by
    rw [List.findIdx_eq_length]
    intro x hx
    obtain ⟨j, hj, rfl⟩ := List.getElem_of_mem hx
    exact h j _ hj (List.getElem?_eq_getElem hj)
  unfold idxI; rw [if_neg (by omega)]
theorem idx_some {p : DLink → Bool} {l : List DLink} {f : Nat} {x : DLink} (h : l[f]? = some x) (hx : p x = true) (hf : ∀ (j : Nat) (y : DLink), j < f → l[j]? = some y → p y = false) : idxI p l = f := by
  obtain ⟨hl, rfl⟩ := List.getElem?_eq_some_iff.1 h
  have h1 : l.findIdx p = f := by
    rw [List.findIdx_eq hl]
    exact ⟨hx, fun j hj => hf j _ hj (List.getElem?_eq_getElem (by omega))⟩
  unfold idxI; rw [h1, if_pos hl]
set_option maxHeartbeats 4000000 in
theorem indexFunc_any (q : Nat) (p : DLink → Bool) (hp : CondK q p) (l : List DLink) (v : Value) (F : Addr → Prop) (w : World) (hl : l.length ≤ 1048576) (hv : RowRd rLink false w v l F) :
    Calls Tryz.prog 186 #[v, .func (.func q) #[] #[]] w fun e w' => e = .returned (.int .i64 (idxI p l)) ∧ Below w.heap.size w w' := by
  obtain ⟨A, cap, rfl⟩ := hv.form
  have HV := Lib.hid hv
  clear hv
  have KP := Lib.hid hp.1
  have CP := Lib.hid hp.2
  clear hp
  have HX : Hid (∀ k, k < l.length → ∃ y, l[k]? = some y) := fun k hk => ⟨_, List.getElem?_eq_getElem hk⟩
  have HN : Hid ((∀ (j : Nat) (y : DLink), j < l.length → l[j]? = some y → p y = false) → idxI p l = -1) := idx_none
  have HS : Hid (∀ (f : Nat) (x : DLink), l[f]? = some x → p x = true → (∀ (j : Nat) (y : DLink), j < f → l[j]? = some y → p y = false) → idxI p l = f) := fun f x => idx_some
  generalize idxI p l = r at *
  go_enter Tryz.func186, Tryz.ntmps186
  go_wp2
  go_loopw [8] (fun i wr => ∃ (k : Nat), k ≤ l.length ∧ i = .int .i64 k ∧ Hid (∀ (j : Nat) (y : DLink), j < k → l[j]? = some y → p y = false) ∧ Below w.heap.size w wr) (fun i _ => l.length - (intOf i).toNat)
  case atStart => exact ⟨0, by omega, rfl, fun j y hj => by omega, Below.refl _ _⟩
  case round =>
    obtain ⟨k, hk, rfl, hno, hbe⟩ := hrel
    have HBE := Lib.hid hbe
    clear hbe
    by_cases hkl : k < l.length
    · obtain ⟨y, hy⟩ := HX.out k hkl
      obtain ⟨g, off, xs, Fk, rfl, _, hra, _, hca⟩ := (HV.out.kept HBE.out).get hy
      obtain rfl := rLink_rd hra
      rw [rLink_size] at hca
      have c0 := hca 0 _ rfl
      have c1 := hca 1 _ rfl
      simp only [Nat.add_zero] at c0
      have HY : Hid (p y = true → r = k) := fun h => HS.out k y hy h hno.out
      have HM : Hid (p y = false → ∀ (j : Nat) (z : DLink), j < k + 1 → l[j]? = some z → p z = false) := fun h j z hj hz => by
        by_cases hjk : j = k
        · subst hjk; rw [hy] at hz; cases hz; exact h
        · exact hno.out j z (by omega) hz
      have CY : Hid (∀ W, Calls Tryz.prog q #[lkV y] W fun e w'' => e = .returned (.bool (p y)) ∧ Below W.heap.size W w'') := fun W => CP.out y W
      clear hca hra hy
      unfold lkV at CY
      generalize (y.In.toNat : Int) = a at *
      generalize (y.Out.toNat : Int) = b at *
      generalize p y = c at *
      go_wp2_with fail
      rw [KP.out, Oper.upon_enter]
      refine (CY.out _).mono ?_
      rintro e w2 ⟨rfl, hb2⟩
      have HB2 : Hid (Below w.heap.size w w2) := below_step HBE.out hb2
      clear hb2
      cases c
      · have HE := Lib.hid (HM.out rfl)
        go_wp2
        go_roundw
        case rel => exact ⟨k + 1, by omega, by go_num, HE, HB2.out⟩
        case measure => simp [intOf]; omega
      · have HE := Lib.hid (HY.out rfl)
        go_wp2
        go_ret
        exact ⟨by rw [HE.out]; rfl, HB2.out⟩
    · obtain rfl : k = l.length := by omega
      have HE := Lib.hid (HN.out hno.out)
      go_wp2
      go_ret
      exact ⟨by rw [HE.out]; rfl, HBE.out⟩
theorem valid_cap (l : List DLink) (A : Option Addr) (cap : Nat) (F : Addr → Prop) (w : World) (hl : l.length ≤ 1048576) (hcap : l.length ≤ cap) (hv : RowRd rLink false w (.slice A l.length cap) l F) :
    Calls Tryz.prog 171 #[.agg #[.slice A l.length cap]] w fun e w' => ∃ A2 c2, e = .returned (.slice A2 (valL l).length c2) ∧ (valL l).length ≤ c2 ∧ RowRd rLink false w' (.slice A2 (valL l).length c2) (valL l) F ∧ Below w.heap.size w w' := by
  have HIS : Hid (∀ W, Below w.heap.size w W → Calls Tryz.prog 80 #[.agg #[.slice A l.length cap]] W fun e w' => e = .returned (.bool (isCd l)) ∧ Below W.heap.size W w') := fun W hW => implIsCd_any ⟨l⟩ _ F W hl (hv.kept hW)
  have HV : Hid (∀ W, Below w.heap.size w W → RowRd rLink false W (.slice A l.length cap) l F) := fun W hW => hv.kept hW
  clear hv
  have HR : Hid (valL l = if isCd l then l else []) := rfl
  generalize isCd l = c at *
  generalize valL l = r at *
  have HB : Hid (Below w.heap.size w (w.alloc (.cells #[.slice A l.length cap] 55))) := (Below.refl _ _).alloc (Nat.le_refl _) _
  have HX : Hid (InC (w.alloc (.cells #[.slice A l.length cap] 55)) w.heap.size #[.slice A l.length cap] 55) := heap_alloc_new _ _
  go_enter Tryz.func171, Tryz.ntmps171
  go_wp2_with fail
  refine (HIS.out _ HB.out).mono ?_
  rintro e w2 ⟨rfl, hb2⟩
  have c0 := (HX.out.kept hb2).cell 0 rfl
  have HB2 : Hid (Below w.heap.size w w2) := below_step HB.out hb2
  clear hb2
  cases c
  · obtain rfl : r = [] := HR.out
    go_wp2_with fail
    go_ret
    exact ⟨none, 0, rfl, Nat.le_refl _, RowRd.nil _ _ _, HB2.out⟩
  · obtain rfl : r = l := HR.out
    go_wp2_with fail
    go_ret
    exact ⟨A, cap, rfl, hcap, HV.out _ HB2.out, HB2.out⟩
set_option maxHeartbeats 4000000 in
theorem inside_any (l : List DLink) (A : Option Addr) (cap : Nat) (F : Addr → Prop) (w : World) (hl : l.length ≤ 1048576) (hcap : l.length ≤ cap) (hv : RowRd rLink false w (.slice A l.length cap) l F) :
    Calls Tryz.prog 175 #[.slice A l.length cap] w fun e w' => ∃ u, e = .returned u ∧ RowRd rLink false w' u (insideL l) F ∧ Below w.heap.size w w' := by
  have HV := Lib.hid hv
  have HIX := Lib.hid (indexFunc_any _ _ cKept l _ F w hl hv)
  clear hv
  have HK : Hid (∀ (y : DLink) W, Calls Tryz.prog 185 #[lkV y] W fun e w'' => e = .returned (.bool (kepK y)) ∧ Below W.heap.size W w'') := fun y W => kept_any y W
  go_enter Tryz.func175, Tryz.ntmps175
  go_wp2_with fail
  refine HIX.out.mono ?_
  rintro e w2 ⟨rfl, hb2⟩
  have HB2 := Lib.hid hb2
  clear hb2
  by_cases hf : l.findIdx kepK < l.length
  case neg =>
    have HI : Hid (idxI kepK l = -1) := by unfold Hid idxI; rw [if_neg hf]
    have HE : Hid (insideL l = []) := inside_none fun j y hy => by
      have h1 : l.findIdx kepK = l.length := Nat.le_antisymm List.findIdx_le_length (by omega)
      rw [List.findIdx_eq_length] at h1
      exact h1 y (List.mem_of_getElem? hy)
    rw [HI.out]
    go_wp2_with fail
    go_ret
    exact ⟨_, rfl, by rw [HE.out]; exact RowRd.nil _ _ _, HB2.out⟩
  have HI : Hid (idxI kepK l = (l.findIdx kepK : Nat)) := by unfold Hid idxI; rw [if_pos hf]
  have hfx : l[l.findIdx kepK]? = some l[l.findIdx kepK] := List.getElem?_eq_getElem hf
  have hkx : kepK l[l.findIdx kepK] = true := List.findIdx_getElem
  have hnx : ∀ (j : Nat) (z : DLink), j < l.findIdx kepK → l[j]? = some z → kepK z = false := fun j z hj hz => by
    have h1 := List.not_of_lt_findIdx hj
    obtain ⟨h2, rfl⟩ := List.getElem?_eq_some_iff.1 hz
    simpa using h1
  have HIN : Hid (∀ (e : Nat) (y : DLink), l[e]? = some y → kepK y = true → (∀ (j : Nat) (z : DLink), e < j → l[j]? = some z → kepK z = false) → insideL l = (l.take (e + 1)).drop (l.findIdx kepK)) := fun e y hy ky he => inside_is hfx hkx hnx hy ky he
  have HFK : Hid (∀ (j : Nat) (y : DLink), l[j]? = some y → j = l.findIdx kepK → kepK y = true) := fun j y hy hj => by
    subst hj; rw [hfx] at hy; cases hy; exact hkx
  have HX : Hid (∀ k, k < l.length → ∃ y, l[k]? = some y) := fun k hk => ⟨_, List.getElem?_eq_getElem hk⟩
  rw [HI.out]
  clear HI hfx hkx hnx HIX
  generalize hfv : l.findIdx kepK = f at *
  have HRW : Hid (RowRd rLink false w2 (.slice A l.length cap) l F) := HV.out.kept HB2.out
  go_wp2_with fail
  go_loopw [4] (fun i wr => ∃ (k : Nat), f < k ∧ k ≤ l.length ∧ i = .int .i64 k ∧ Hid (∀ (j : Nat) (z : DLink), k ≤ j → l[j]? = some z → kepK z = false) ∧ Below w.heap.size w wr) (fun i _ => (intOf i).toNat)
  case atStart => exact ⟨l.length, hf, Nat.le_refl _, rfl, fun j z hj hz => by have := (List.getElem?_eq_some_iff.1 hz).1; omega, HB2.out⟩
  case round =>
    obtain ⟨k, hk0, hk, rfl, hno, hbe⟩ := hrel
    have HBE := Lib.hid hbe
    clear hbe
    obtain ⟨e, rfl⟩ : ∃ e, k = e + 1 := ⟨k - 1, by omega⟩
    obtain ⟨y, hy⟩ := HX.out e (by omega)
    have HRR : Hid (RowRd rLink false wr (.slice A l.length cap) l F) := HV.out.kept HBE.out
    obtain ⟨g, off, xs, Fk, rfl, _, hra, _, hca⟩ := HRR.out.get hy
    obtain rfl := rLink_rd hra
    rw [rLink_size] at hca
    have c0 := hca 0 _ rfl
    have c1 := hca 1 _ rfl
    simp only [Nat.add_zero] at c0
    have HNY : Hid (kepK y = false → f < e ∧ ∀ (j : Nat) (z : DLink), e ≤ j → l[j]? = some z → kepK z = false) := fun h => by
      refine ⟨?_, fun j z hj hz => ?_⟩
      · rcases Nat.lt_or_ge f e with h1 | h1
        · exact h1
        · have h2 := HFK.out e y hy (by omega)
          rw [h] at h2; cases h2
      · by_cases hje : j = e
        · subst hje; rw [hy] at hz; cases hz; exact h
        · exact hno.out j z (by omega) hz
    have HYY : Hid (kepK y = true → insideL l = (l.take (e + 1)).drop f) := fun h => HIN.out e y hy h fun j z hj hz => hno.out j z (by omega) hz
    have CY : Hid (∀ W, Calls Tryz.prog 185 #[lkV y] W fun e w'' => e = .returned (.bool (kepK y)) ∧ Below W.heap.size W w'') := fun W => HK.out y W
    clear hca hra hy
    unfold lkV at CY
    generalize (y.In.toNat : Int) = a at *
    generalize (y.Out.toNat : Int) = b at *
    generalize kepK y = c at *
    have e1 : ((e + 1 : Nat) : Int) - 1 = (e : Nat) := by omega
    have e2 : IntKind.i64.wrap (((e + 1 : Nat) : Int) - 1) = ((e : Nat) : Int) := by rw [e1, IntWalk.i64_in _ (by omega)]
    go_wp2_with fail
    refine (CY.out _).mono ?_
    rintro e' w3 ⟨rfl, hb3⟩
    have HB3 : Hid (Below w.heap.size w w3) := below_step HBE.out hb3
    have HR3 := Lib.hid (HRR.out.kept hb3)
    clear hb3
    cases c
    · have HE := Lib.hid (HNY.out rfl)
      go_wp2
      go_roundw
      case rel => exact ⟨e, HE.out.1, by omega, by go_num, HE.out.2, HB3.out⟩
      case measure => simp [intOf]
    · have HE := Lib.hid (HYY.out rfl)
      have hle : e + 1 ≤ l.length := hk
      have h1 : ((e + 1 : Nat) : Int) ≤ (cap : Nat) := by omega
      have h2 : (0 : Int) ≤ ((e + 1 : Nat) : Int) := by omega
      have h3 : (f : Int) ≤ ((e + 1 : Nat) : Int) := by omega
      have h4 : (0 : Int) ≤ (f : Int) := by omega
      have h5 : ¬ e + 1 = f := by omega
      have HSUB := Lib.hid (HR3.out.sub f (e + 1) (e + 1 - f) hle (Nat.le_refl _))
      go_wp2
      go_ret
      refine ⟨_, rfl, ?_, HB3.out⟩
      rw [HE.out]
      exact HSUB.out
theorem implBreaks_any (x : DCandidate) (A : Option Addr) (cap : Nat) (F : Addr → Prop) (w : World) (hl : x.Links.length ≤ 1048576) (hcap : x.Links.length ≤ cap) (hv : RowRd rLink false w (.slice A x.Links.length cap) x.Links F) :
    Calls Tryz.prog 156 #[.agg #[.slice A x.Links.length cap]] w fun e w' => e = .returned (.int .i64 (brkC x.Links : Nat)) ∧ Below w.heap.size w w' := by
  have HV : Hid (∀ W, Below w.heap.size w W → Calls Tryz.prog 171 #[.agg #[.slice A x.Links.length cap]] W fun e w' => ∃ A2 c2, e = .returned (.slice A2 (valL x.Links).length c2) ∧ (valL x.Links).length ≤ c2 ∧ RowRd rLink false w' (.slice A2 (valL x.Links).length c2) (valL x.Links) F ∧ Below W.heap.size W w') := fun W hW => valid_cap x.Links A cap F W hl hcap (hv.kept hW)
  have HN : Hid ((valL x.Links).length ≤ 1048576) := Nat.le_trans (val_len _) hl
  have HM : Hid ((insideL (valL x.Links)).length ≤ 1048576) := by
    have h1 : (insideL (valL x.Links)).length ≤ (valL x.Links).length := by unfold insideL; rw [List.length_drop, List.length_take]; omega
    exact Nat.le_trans h1 HN.out
  have HE : Hid (brkC x.Links = cntL delK (insideL (valL x.Links)) + cntL insK (insideL (valL x.Links))) := by
    unfold Hid brkC valL
    cases h : isCd x.Links
    · rfl
    · exact brk_two h
  have HLE : Hid (cntL delK (insideL (valL x.Links)) ≤ 1048576 ∧ cntL insK (insideL (valL x.Links)) ≤ 1048576) := ⟨Nat.le_trans List.countP_le_length HM.out, Nat.le_trans List.countP_le_length HM.out⟩
  clear hv
  generalize valL x.Links = m at *
  generalize brkC x.Links = r at *
  have HB : Hid (Below w.heap.size w (w.alloc (.cells #[.slice A x.Links.length cap] 55))) := (Below.refl _ _).alloc (Nat.le_refl _) _
  go_enter Tryz.func156, Tryz.ntmps156
  go_wp2_with fail
  refine (HV.out _ HB.out).mono ?_
  rintro e w2 ⟨A2, c2, rfl, hc2, hu, hb2⟩
  have HB2 : Hid (Below w.heap.size w w2) := below_step HB.out hb2
  have HU := Lib.hid hu
  have HC2 := Lib.hid hc2
  clear hb2 hu hc2
  go_wp2_with fail
  refine (inside_any m A2 c2 F w2 HN.out HC2.out HU.out).mono ?_
  rintro e w3 ⟨u, rfl, hu, hb3⟩
  have HB3 : Hid (Below w.heap.size w w3) := below_step HB2.out hb3
  have HU3 := Lib.hid hu
  clear hb3 hu
  generalize insideL m = t at *
  go_wp2_with fail
  refine (countLinks_any _ _ cAway t u F w3 HM.out HU3.out).mono ?_
  rintro e w4 ⟨rfl, hb4⟩
  have HB4 : Hid (Below w.heap.size w w4) := below_step HB3.out hb4
  have HU4 := Lib.hid (HU3.out.kept hb4)
  clear hb4
  go_wp2_with fail
  refine (countLinks_any _ _ cPutin t u F w4 HM.out HU4.out).mono ?_
  rintro e w5 ⟨rfl, hb5⟩
  have HB5 : Hid (Below w.heap.size w w5) := below_step HB4.out hb5
  clear hb5
  have hle := HLE.out
  have HS : Hid (((cntL delK t : Nat) : Int) + ((cntL insK t : Nat) : Int) = ((r : Nat) : Int)) := by unfold Hid; rw [HE.out]; omega
  generalize cntL delK t = d at *
  generalize cntL insK t = i at *
  have hw : IntKind.i64.wrap ((d : Int) + (i : Int)) = ((r : Nat) : Int) := by rw [IntWalk.i64_in _ (by omega)]; exact HS.out
  go_wp2_with fail
  go_ret
  exact ⟨rfl, HB5.out⟩
end Go.Proofs.YtkaihnlknncfdaaGreatDoor

/- The program's InputOf, OutputOf: what they answer. -/
namespace Go.Proofs.YtkaihnlknncfdaaGreatDoor
set_option maxRecDepth 100000
open Go.RowKit M
set_option linter.unusedVariables false
set_option linter.unusedSimpArgs false

set_option maxHeartbeats 4000000 in
set_option maxHeartbeats 4000000 in
theorem implOutput_any (x : DCandidate) (v : Value) (F : Addr → Prop) (w : World) (hl : x.Links.length ≤ 1048576) (hv : RowRd rLink false w v x.Links F) :
    Calls Tryz.prog 63 #[.agg #[v]] w fun e w' => e = .returned (.string ⟨(outS x.Links).toArray⟩) ∧ Below w.heap.size w w' := by
  have HS0 : Hid (∀ W, Below w.heap.size w W → Calls Tryz.prog 80 #[.agg #[v]] W fun e w' => e = .returned (.bool (isCd x.Links)) ∧ Below W.heap.size W w') := fun W hW => implIsCd_any x _ F W hl (hv.kept hW)
  have HS1 : Hid (∀ W, Below w.heap.size w W → Calls Tryz.prog 106 #[v] W fun e w' => e = .returned (.tuple #[.string ⟨(inL x.Links).toArray⟩, .string ⟨(outL x.Links).toArray⟩]) ∧ Below W.heap.size W w') := fun W hW => implSides_any x.Links _ F W hl (hv.kept hW)
  obtain ⟨A, cap, rfl⟩ := hv.form
  clear hv
  have HE : Hid (outS x.Links = if isCd x.Links then outL x.Links else []) := rfl
  generalize isCd x.Links = c at *
  generalize outS x.Links = r at *
  have HA : Hid (∀ o, Below w.heap.size w (w.alloc o)) := fun o => (Below.refl _ _).alloc (Nat.le_refl _) _
  have HA1 : Hid (InC (w.alloc (.cells #[.slice A x.Links.length cap] 55)) w.heap.size #[.slice A x.Links.length cap] 55) := heap_alloc_new _ _
  go_enter Tryz.func63, Tryz.ntmps63
  go_wp2_with fail
  refine (HS0.out _ (HA.out _)).mono ?_
  rintro e w2 ⟨rfl, hb⟩
  have b1 := (HA1.out.kept hb).cell 0 rfl
  have HB : Hid (Below w.heap.size w w2) := below_step (HA.out _) hb
  clear hb
  cases c
  · go_wp2_with fail
    go_ret
    exact ⟨ret_str (by rw [HE.out] <;> rfl), HB.out⟩
  · go_wp2_with fail
    refine (HS1.out _ HB.out).mono ?_
    rintro e w3 ⟨rfl, hb⟩
    have HB3 : Hid (Below w.heap.size w w3) := below_step HB.out hb
    clear hb
    go_wp2_with fail
    go_ret
    exact ⟨ret_str (by rw [HE.out] <;> rfl), HB3.out⟩
end Go.Proofs.YtkaihnlknncfdaaGreatDoor

/- The program's counts: method values, look-ups, what is called at each. -/
namespace Go.Proofs.YtkaihnlknncfdaaGreatDoor
set_option maxRecDepth 100000
open Go.RowKit M
set_option linter.unusedVariables false
set_option linter.unusedSimpArgs false

/-- A method value bound to a count of forms. -/
theorem ofOut_any (q : Nat) (n : Int) (x : DCandidate) (v : Value) (F : Addr → Prop) (w : World) (hl : x.Links.length ≤ 1048576) (hv : RowRd rLink false w v x.Links F)
    (he : ∀ args w', (callFunc q args).run Tryz.prog w' = .ok (.enter q args) w') (hC : ∀ W, Below w.heap.size w W → Calls Tryz.prog q #[.string (outT x.Links)] W fun e w' => e = .returned (.int .i64 n) ∧ Below W.heap.size W w') :
    Calls Tryz.prog 147 #[.func (.func q) #[] #[], .agg #[v]] w fun e w' => e = .returned (.int .i64 n) ∧ Below w.heap.size w w' := by
  have HS1 : Hid (∀ W, Below w.heap.size w W → Calls Tryz.prog 63 #[.agg #[v]] W fun e w' => e = .returned (.string (outT x.Links)) ∧ Below W.heap.size W w') := fun W hW => implOutput_any x _ F W hl (hv.kept hW)
  have HE := Lib.hid he
  have HC := Lib.hid hC
  obtain ⟨A, cap, rfl⟩ := hv.form
  clear hv he hC
  generalize outT x.Links = T at *
  have HA : Hid (∀ o, Below w.heap.size w (w.alloc o)) := fun o => (Below.refl _ _).alloc (Nat.le_refl _) _
  go_enter Tryz.func147, Tryz.ntmps147
  go_wp2_with fail
  refine (HS1.out _ (HA.out _)).mono ?_
  rintro e w2 ⟨rfl, hb⟩
  have HB : Hid (Below w.heap.size w w2) := below_step (HA.out _) hb
  clear hb
  go_wp2_with fail
  rw [HE.out, Oper.upon_enter]
  refine (HC.out _ HB.out).mono ?_
  rintro e w3 ⟨rfl, hb⟩
  have HB3 : Hid (Below w.heap.size w w3) := below_step HB.out hb
  clear hb
  go_wp2
  go_ret
  exact ⟨rfl, HB3.out⟩
/-- What is called at the j-th value. -/
def entF (j : Nat) : Nat := if j < 6 then 147 else cidN j
def entA (j : Nat) (v : Value) : Array Value := if j < 6 then #[.func (.func (cidN j)) #[] #[], .agg #[v]] else #[.agg #[v]]
theorem fnV_any (j : Nat) (hj : j < 10) (x : DCandidate) (A : Option Addr) (cap : Nat) (F : Addr → Prop) (w : World) (hl : x.Links.length ≤ 1048576) (hcap : x.Links.length ≤ cap) (hv : RowRd rLink false w (.slice A x.Links.length cap) x.Links F) (hT : FeatTab w) :
    Calls Tryz.prog (entF j) (entA j (.slice A x.Links.length cap)) w fun e w' => e = .returned (.int .i64 (cntN j x.Links)) ∧ Below w.heap.size w w' := by
  have hsz := outT_size x.Links
  have hmx : (outT x.Links).size ≤ maxLen := by unfold maxLen; omega
  obtain rfl | rfl | rfl | rfl | rfl | rfl | rfl | rfl | rfl | rfl : j = 0 ∨ j = 1 ∨ j = 2 ∨ j = 3 ∨ j = 4 ∨ j = 5 ∨ j = 6 ∨ j = 7 ∨ j = 8 ∨ j = 9 := by omega
  · exact ofOut_any 146 _ x _ F w hl hv (fun args w' => enters_of Tryz.func146 (by kernel_rfl) rfl args w') (fun W hW => implOns_any _ W hmx (feat_below hT hW))
  · exact ofOut_any 148 _ x _ F w hl hv (fun args w' => enters_of Tryz.func148 (by kernel_rfl) rfl args w') (fun W hW => implCod_any _ W hmx (feat_below hT hW))
  · exact ofOut_any 149 _ x _ F w hl hv (fun args w' => enters_of Tryz.func149 (by kernel_rfl) rfl args w') (fun W hW => implClu_any _ W hmx (feat_below hT hW))
  · exact ofOut_any 150 _ x _ F w hl hv (fun args w' => enters_of Tryz.func150 (by kernel_rfl) rfl args w') (fun W hW => implVoi_any _ W hmx (feat_below hT hW))
  · exact ofOut_any 151 _ x _ F w hl hv (fun args w' => enters_of Tryz.func151 (by kernel_rfl) rfl args w') (fun W hW => implFin_any _ W hmx (feat_below hT hW))
  · exact ofOut_any 152 _ x _ F w hl hv (fun args w' => enters_of Tryz.func152 (by kernel_rfl) rfl args w') (fun W hW => implNas_any _ W hmx (feat_below hT hW))
  · exact implDeleted_any x _ F w hl hv
  · exact implInserted_any x _ F w hl hv
  · exact implVoiceChanged_any x _ F w hl hv
  · exact implBreaks_any x A cap F w hl hcap hv
theorem Tryz.zeroFn (w : World) : (zeroValue 103).run Tryz.prog w = .ok .nilFunc w := by kernel_rfl
/-- What a look-up in the map gives. -/
theorem look_counts (w : World) (b : Nat) (nm : ByteArray) (hs : nm.size ≤ maxLen) (h : w.ownsMap Tryz.prog 9 fR b 10 (dputN 10)) :
    ∃ u, Sem.run Tryz.prog (Instr.lookup 126 (.map (some b)) (.string nm) true) w = .ok (.tuple #[u, .bool (decide (nix nm < 10))]) w ∧ (nix nm < 10 → u = fnV (nix nm)) := by
  obtain ⟨zd, zp, hz⟩ : ∃ zd zp, fR Value.nilFunc = some (zd, zp) := ⟨_, _, rfl⟩
  obtain ⟨u, ps, hrun, hR⟩ := h.look_ok Tryz.strKeyed Tryz.underlying126 (Tryz.zeroFn w) hz (WideMaps.keyOf_string_mk Tryz.underlying9 hs)
  have hd := dput_at nm zd 10 (Nat.le_refl _)
  have h2 := hd.2
  unfold klN at h2
  rw [h2] at hrun
  refine ⟨u, hrun, fun hlt => ?_⟩
  have h1 := hd.1
  rw [if_pos hlt] at h1
  unfold klN at h1
  have hR2 : fR u = some (codeN (nix nm), ps) := hR.trans (congrArg (fun d => some (d, ps)) h1)
  exact fR_inv hlt hR2
theorem look_plain (w : World) (b : Nat) (nm : ByteArray) (hs : nm.size ≤ maxLen) (h : w.ownsMap Tryz.prog 9 fR b 10 (dputN 10)) (hlt : nix nm < 10) :
    Sem.run Tryz.prog (Instr.lookup 126 (.map (some b)) (.string nm) false) w = .ok (fnV (nix nm)) w := by
  obtain ⟨zd, zp, hz⟩ : ∃ zd zp, fR Value.nilFunc = some (zd, zp) := ⟨_, _, rfl⟩
  obtain ⟨u, ps, hrun, hR⟩ := h.lookup Tryz.strKeyed Tryz.underlying126 (Tryz.zeroFn w) hz (WideMaps.keyOf_string_mk Tryz.underlying9 hs)
  have hd := dput_at nm zd 10 (Nat.le_refl _)
  have h1 := hd.1
  rw [if_pos hlt] at h1
  unfold klN at h1
  have hR2 : fR u = some (codeN (nix nm), ps) := hR.trans (congrArg (fun d => some (d, ps)) h1)
  rw [← fR_inv hlt hR2]
  exact hrun
end Go.Proofs.YtkaihnlknncfdaaGreatDoor

/- Appending one text to a row of texts that the call made: a law for the walk; rows of texts read place by place. -/
namespace Go.Proofs.YtkaihnlknncfdaaGreatDoor
set_option maxRecDepth 100000
open Go.RowKit
def cellsS (l : List ByteArray) : List Value := l.map fun z => .string z
theorem cellsS_len (l : List ByteArray) : (cellsS l).length = l.length := by simp [cellsS]
theorem cellsS_append (a b : List ByteArray) : cellsS (a ++ b) = cellsS a ++ cellsS b := by simp [cellsS]
theorem cellsS_at (l : List ByteArray) (k : Nat) (h : k < l.length) : (cellsS l)[k]? = some (.string (l.getD k ByteArray.empty)) := by
  unfold cellsS; rw [List.getElem?_map, List.getElem?_eq_getElem h]; simp [h]
theorem Tryz.info9s : (Tryz.prog.info? 9).map (fun i => (i.zero, i.size, i.bytes)) = some (some (.string ⟨#[]⟩), 1, 16) := by kernel_rfl
theorem wpList_append_str {ops : Array Oper} {rest : List Oper} {o : Oper} {a : Act} {Q : Exit → Act → World → Prop} (w : World) (hgd : o.guard = none) (s x : Operand)
    (ho : o.op = .call { callee := .builtin .append, args := #[s, x], argTypes := #[22, 22] })
    (base : Nat) (v : Value) (n : Nat) (l : List ByteArray) (hs : a.eval s = v) (hown : w.ownsRow base 9 1 v n (cellsS l)) (b : ByteArray)
    (hx : a.eval x = .slice (some ⟨w.heap.size, 0, none⟩) 1 1) (hn : n ≤ 1000000000) (hbase : base ≤ w.heap.size)
    (h : ∀ v' w', w'.ownsRow base 9 1 v' (n + 1) (cellsS (l ++ [b])) → Below base w w' → wpList Tryz.prog ops Q rest (a.put o.dst v') w') :
    wpList Tryz.prog ops Q (o :: rest) a (w.alloc (.cells #[.string b] 9)) := by
  obtain ⟨i0, hi, hz0, hz1, hz2⟩ := info_parts Tryz.info9s
  refine wpList_append_own (w.alloc (.cells #[.string b] 9)) hgd s x 22 ho base 9 i0 (.string ⟨#[]⟩) 1 16 Tryz.underlying22 hi hz0 hz1 hz2 rfl (by decide) v n (cellsS l) hs (hown.alloc _) ⟨w.heap.size, 0, none⟩ 1 1 [.string b] hx rfl (cell_one_new _ _ _)
    (fun u hu => by simp at hu; subst hu; rfl) (by unfold maxLen; omega) (by omega) (by simp; omega) ?_
  intro v' w' h1 h2 _
  refine h v' w' (by rw [cellsS_append]; exact h1) ?_
  exact ((Below.refl base w).alloc hbase _).grown h2 (by simp; omega) (fun q hq => (hown.lt q hq).1)
/-- The same as one step of a region that draws its order. -/
theorem step_append_str {ops : Array Oper} {o : Oper} {a : Act} {K : Act → World → Prop} {Q : Exit → Act → World → Prop} {E : Prop} (w : World) (hgd : o.guard = none) (s x : Operand)
    (ho : o.op = .call { callee := .builtin .append, args := #[s, x], argTypes := #[22, 22] })
    (base : Nat) (v : Value) (n : Nat) (l : List ByteArray) (hs : a.eval s = v) (hown : w.ownsRow base 9 1 v n (cellsS l)) (b : ByteArray)
    (hx : a.eval x = .slice (some ⟨w.heap.size, 0, none⟩) 1 1) (hn : n ≤ 1000000000) (hbase : base ≤ w.heap.size)
    (h : ∀ v' w', w'.ownsRow base 9 1 v' (n + 1) (cellsS (l ++ [b])) → Below base w w' → K (a.put o.dst v') w') :
    if Region.wanted o (yielded ops a.tmps) = true then Oper.wp Tryz.prog o a (w.alloc (.cells #[.string b] 9)) K Q else E := by
  have hw : Region.wanted o (yielded ops a.tmps) = true := by simp [Region.wanted, hgd]
  rw [if_pos hw]
  obtain ⟨i0, hi, hz0, hz1, hz2⟩ := info_parts Tryz.info9s
  refine wp_append_own (w.alloc (.cells #[.string b] 9)) s x 22 ho base 9 i0 (.string ⟨#[]⟩) 1 16 Tryz.underlying22 hi hz0 hz1 hz2 rfl (by decide) v n (cellsS l) hs (hown.alloc _) ⟨w.heap.size, 0, none⟩ 1 1 [.string b] hx rfl (cell_one_new _ _ _)
    (fun u hu => by simp at hu; subst hu; rfl) (by unfold maxLen; omega) (by omega) (by simp; omega) ?_
  intro v' w' h1 h2 _
  refine h v' w' (by rw [cellsS_append]; exact h1) ?_
  exact ((Below.refl base w).alloc hbase _).grown h2 (by simp; omega) (fun q hq => (hown.lt q hq).1)
theorem step_append_str_drew {ops : Array Oper} {o : Oper} {a : Act} {K : Act → World → Prop} {Q : Exit → Act → World → Prop} {E : Prop} (w : World) (hgd : o.guard = none) (s x : Operand)
    (ho : o.op = .call { callee := .builtin .append, args := #[s, x], argTypes := #[22, 22] })
    (base : Nat) (v : Value) (n : Nat) (l : List ByteArray) (hown : w.ownsRow base 9 1 v n (cellsS l)) (b : ByteArray) (hn : n ≤ 1000000000) (hbase : base ≤ w.heap.size)
    (hs : a.eval s = v) (hx : a.eval x = .slice (some ⟨w.heap.size, 0, none⟩) 1 1)
    (h : ∀ v' w', w'.ownsRow base 9 1 v' (n + 1) (cellsS (l ++ [b])) → Below base w w' → K (a.put o.dst v') w') :
    if Region.wanted o (yielded ops a.tmps) = true then Oper.wp Tryz.prog o a ((w.alloc (.cells #[.string b] 9)).drew) K Q else E :=
  step_append_str w.drew hgd s x ho base v n l hs hown.drew b hx hn hbase fun v' w' h1 h2 => h v' w' h1 ⟨h2.os, h2.tape, h2.output, h2.size, h2.block⟩
theorem str_read {w : World} {base : Nat} {v : Value} {l : List ByteArray} (h : w.ownsRow base 9 1 v l.length (cellsS l)) :
    ∃ A cap, v = .slice A l.length cap ∧ ∀ k, k < l.length → ∃ g, A = some ⟨g, 0, none⟩ ∧ w.cell? ⟨g, k, none⟩ = some (.string (l.getD k ByteArray.empty)) := by
  have hh := h
  rcases h.2 with ⟨rfl, hn⟩ | ⟨g, cap, cur, rfl, _⟩
  · exact ⟨none, 0, by rw [hn], fun k hk => by omega⟩
  · refine ⟨some ⟨g, 0, none⟩, cap, rfl, fun k hk => ⟨g, rfl, ?_⟩⟩
    have hc : (cellsS l).length = l.length := cellsS_len l
    rw [hh.cellAt k (by omega), cellsS_at l k hk]
theorem str_form {w : World} {base : Nat} {v : Value} {n : Nat} {xs : List Value} (h : w.ownsRow base 9 1 v n xs) (hn : 0 < n) : ∃ g cap, v = .slice (some ⟨g, 0, none⟩) n cap ∧ base ≤ g := by
  rcases h.2 with ⟨rfl, h0⟩ | ⟨g, cap, cur, rfl, hb, _⟩
  · omega
  · exact ⟨g, cap, rfl, hb⟩
/-- A new empty row of texts. -/
theorem str_empty (w : World) : (w.alloc (.cells #[] 9)).ownsRow w.heap.size 9 1 (.slice (some ⟨w.heap.size, 0, none⟩) 0 0) ([] : List ByteArray).length (cellsS []) :=
  ⟨rfl, Or.inr ⟨w.heap.size, 0, #[], rfl, Nat.le_refl _, heap_alloc_new _ _, Nat.le_refl _, Nat.zero_le _, rfl, rfl⟩⟩
/-- A new row of one text. -/
theorem str_one (w : World) (b : ByteArray) : (w.alloc (.cells #[.string b] 9)).ownsRow w.heap.size 9 1 (.slice (some ⟨w.heap.size, 0, none⟩) 1 1) ([b] : List ByteArray).length (cellsS [b]) :=
  ⟨rfl, Or.inr ⟨w.heap.size, 1, #[.string b], rfl, Nat.le_refl _, heap_alloc_new _ _, Nat.le_refl _, by unfold maxLen; omega, rfl, rfl⟩⟩
/-- It answers with a row of its own that holds these texts. -/
def StrsPost (l : List ByteArray) (w : World) (e : Ending) (w' : World) : Prop := ∃ v, e = .returned v ∧ w'.ownsRow w.heap.size 9 1 v l.length (cellsS l) ∧ Below w.heap.size w w'
end Go.Proofs.YtkaihnlknncfdaaGreatDoor

/- Names of constraints: the model's ConstraintNames, l3Has, IsMarkedness: what they answer. -/
namespace Go.Proofs.YtkaihnlknncfdaaGreatDoor
set_option maxRecDepth 100000
open Go.RowKit Go.Sort M
set_option linter.unusedVariables false
set_option linter.unusedSimpArgs false

theorem toList_inj10 {a b : ByteArray} (h : a.toList = b.toList) : a = b := by
  rw [Lib.toList_data, Lib.toList_data] at h
  apply ByteArray.ext
  exact Array.toList_inj.1 h
theorem RowRd.of_strs {w : World} {base : Nat} {v : Value} {l : List ByteArray} (m : Nat → ByteArray) (h : w.ownsRow base 9 1 v l.length (cellsS l)) (hm : l.length ≤ 9223372036854775807) (hz : ∀ z ∈ l, z.size ≤ 9223372036854775807) : RowRd (Rep.str m) true w v l (fun a => base ≤ a.block ∧ a.block < w.heap.size) :=
  RowRd.of_flat (E := Rep.str m) h hm fun k x hk => ⟨[.string x], fun j u hj => by
    match j, hj with
    | 0, hj =>
      simp at hj
      subst hj
      have hkl := (List.getElem?_eq_some_iff.1 hk).1
      rw [show (Rep.str m).size = 1 from rfl, Nat.mul_one, Nat.add_zero, cellsS_at l k hkl, List.getD_eq_getElem?_getD, hk]
      rfl, rfl, hz x (List.mem_of_getElem? hk)⟩
/-- A new row of these texts. -/
theorem str_new (w : World) (l : List ByteArray) (n : Nat) (cs : Array Value) (hn : l.length = n) (hc : cs.toList = cellsS l) (hm : n ≤ 1000000) : (w.alloc (.cells cs 9)).ownsRow w.heap.size 9 1 (.slice (some ⟨w.heap.size, 0, none⟩) n n) l.length (cellsS l) := by
  subst hn
  have hs : cs.size = l.length := by rw [← Array.length_toList, hc, cellsS_len]
  exact ⟨by rw [cellsS_len, Nat.mul_one], Or.inr ⟨w.heap.size, l.length, cs, rfl, Nat.le_refl _, heap_alloc_new _ _, Nat.le_refl _, by unfold maxLen; omega, by rw [hs, Nat.mul_one], by rw [hc, Nat.mul_one, ← cellsS_len l, List.take_length]⟩⟩
/-- The ten names in a row of one's own. -/
def NmPost (w : World) (e : Ending) (w' : World) : Prop := ∃ g cap, e = .returned (.slice (some ⟨g, 0, none⟩) 10 cap) ∧ 10 ≤ cap ∧ cap ≤ 1000000 ∧ w.heap.size ≤ g ∧ w'.ownsRow w.heap.size 9 1 (.slice (some ⟨g, 0, none⟩) 10 cap) namesB.length (cellsS namesB) ∧ Below w.heap.size w w'
theorem names_short : ∀ z ∈ namesB, z.size ≤ 9223372036854775807 := fun z hz => by
  obtain ⟨k, hk, rfl⟩ := List.getElem_of_mem hz
  have := name_size (hasB_yes (List.getElem?_eq_getElem hk))
  omega
theorem specNames_any (w : World) : Calls Tryz.prog 111 #[] w (NmPost w) := by
  go_enter Tryz.func111, Tryz.ntmps111
  go_wp2
  go_ret
  exact ⟨_, _, rfl, Nat.le_refl _, by omega, Nat.le_refl _, str_new w namesB 10 _ rfl rfl (by omega), (Below.refl _ _).alloc (Nat.le_refl _) _⟩
/-- Some places of a row, one after the other. -/
theorem RowRd.part {α : Type} {E : Rep α} {w : World} {g off n cap : Nat} {l : List α} {F : Addr → Prop} (h : RowRd E false w (.slice (some ⟨g, off, none⟩) n cap) l F) (f e c : Nat) (he : e ≤ l.length) (hc : e - f ≤ c) :
    RowRd E false w (.slice (some ⟨g, off + f * E.size, none⟩) (e - f) c) ((l.take e).drop f) F := by
  have hm := h.max
  obtain ⟨A', cap', Fk, hv, _, hr⟩ := h
  cases hv
  have hlen : ((l.take e).drop f).length = e - f := by rw [List.length_drop, List.length_take]; omega
  refine ⟨some ⟨g, off + f * E.size, none⟩, c, fun k => Fk (f + k), by rw [hlen], ⟨by rw [hlen]; omega, (fun h => by cases h), by rw [hlen]; exact hc⟩, fun k x hk => ?_⟩
  have hk1 : k < e - f := by rw [← hlen]; exact (List.getElem?_eq_some_iff.1 hk).1
  rw [List.getElem?_drop, List.getElem?_take, if_pos (by omega)] at hk
  obtain ⟨g2, off2, xs, ha, h1, h2, h3, h4⟩ := hr (f + k) x hk
  cases ha
  refine ⟨g, off + f * E.size, xs, rfl, h1, h2, fun j u hj => ?_, fun h => by cases h⟩
  have h5 := h3 j u hj
  rw [Nat.add_mul, ← Nat.add_assoc] at h5
  exact ⟨h5.1, h5.2.1, fun h => by cases h⟩
/-- The first places of a row. -/
theorem RowRd.head {α : Type} {E : Rep α} {w : World} {g off n cap : Nat} {l : List α} {F : Addr → Prop} (h : RowRd E false w (.slice (some ⟨g, off, none⟩) n cap) l F) (e c : Nat) (he : e ≤ l.length) (hc : e ≤ c := by omega) :
    RowRd E false w (.slice (some ⟨g, off, none⟩) e c) (l.take e) F := by
  have := h.part 0 e c he (by omega)
  simpa using this
set_option maxHeartbeats 1000000 in
theorem specHasN_any (m : Nat → ByteArray) (l : List ByteArray) (v : Value) (F : Addr → Prop) (x : ByteArray) (w : World) (hl : l.length ≤ 1000000000) (hv : RowRd (Rep.str m) false w v l F) :
    Calls Tryz.prog 62 #[v, .string x] w fun e w' => e = .returned (.bool (hasB l x)) ∧ w = w' := by
  obtain ⟨A, cap, rfl⟩ := hv.form
  have HV := Lib.hid hv
  clear hv
  have HX : Hid (∀ k, k < l.length → ∃ y, l[k]? = some y) := fun k hk => ⟨_, List.getElem?_eq_getElem hk⟩
  go_enter Tryz.func62, Tryz.ntmps62
  go_wp2
  go_loop [5] (fun i => ∃ (k : Nat), k ≤ l.length ∧ i = .int .i64 k ∧ Hid (∀ (j : Nat) (y : ByteArray), j < k → l[j]? = some y → ¬ y = x)) (fun i => l.length - (intOf i).toNat)
  case atStart => exact ⟨0, by omega, rfl, fun j y hj => by omega⟩
  case round =>
    obtain ⟨k, hk, rfl, hall⟩ := hrel
    by_cases hkl : k < l.length
    · obtain ⟨y, hy⟩ := HX.out k hkl
      obtain ⟨g, off, xs, Fk, rfl, _, hra, _, hca⟩ := HV.out.get hy
      obtain ⟨rfl, _⟩ := hra
      rw [show (Rep.str m).size = 1 from rfl] at hca
      have c0 := hca 0 _ rfl
      simp only [Nat.add_zero, Nat.mul_one] at c0
      clear hca
      have HY := Lib.hid hy
      clear hy
      go_wp2
      · have hq : (y.toList == x.toList) = true := by assumption
        have he : y = x := by
          rw [beq_iff_eq] at hq
          exact toList_inj10 hq
        have HN : Hid (hasB l x = true) := he ▸ hasB_yes HY.out
        go_ret
        exact ⟨by first | exact ret_bool HN.out | exact ret_bool HN.out.symm, rfl⟩
      · rename_i hq
        have he : ¬ y = x := fun e => by rw [e] at hq; simp at hq
        go_round
        case rel =>
          refine ⟨k + 1, by omega, by go_num, fun j z hj hz => ?_⟩
          by_cases e : j = k
          · subst e; rw [HY.out] at hz; cases hz; exact he
          · exact hall.out j z (by omega) hz
        case measure => simp [intOf]; omega
    · obtain rfl : k = l.length := by omega
      have HN : Hid (hasB l x = false) := hasB_no fun j y hj => hall.out j y (List.getElem?_eq_some_iff.1 hj).1 hj
      clear hall
      go_wp2
      go_ret
      exact ⟨by first | exact ret_bool HN.out | exact ret_bool HN.out.symm, rfl⟩
end Go.Proofs.YtkaihnlknncfdaaGreatDoor
