/- Reading a ranking: the program's ParseRanking: what it answers. -/
import Derived.Test.YtnildbalaedlgaaDoorPs12
import Derived.Test.YtnildbalaedlgaaDoorIk12
namespace Go.Proofs.YtnildbalaedlgaaDoor
set_option maxRecDepth 100000
open Go.RowKit Go.Sort M
set_option linter.unusedVariables false
set_option linter.unusedSimpArgs false

theorem idxB_i64 {l : List ByteArray} (hl : l.length ≤ 1000000000) (x : ByteArray) : I64 (idxB l x) := by
  have h1 := idxB_rng l x
  have h2 : idxB l x ≤ l.length := by
    unfold idxB
    split
    · have := List.findIdx_le_length (xs := l) (p := fun y => decide (y = x)); omega
    · omega
  unfold I64; omega
set_option maxHeartbeats 8000000 in
theorem implPrk_any (m : Nat → ByteArray) (l : List ByteArray) (s : ByteArray) (A : Option Addr) (cap : Nat) (F : Addr → Prop) (w : World) (hl : l.length ≤ 1000000000) (hcap : l.length ≤ cap) (hv : RowRd (Rep.str m) false w (.slice A l.length cap) l F) (hs : s.size ≤ 4000000) :
    Calls Tryd.prog 8 #[.slice A l.length cap, .string s] w (PrkPost (prkL l s) (prkB l s) w) := by
  have HV := Lib.hid hv
  have HARE := Lib.hid (implAre_any m l A cap F w hl hcap hv)
  have HIX : Hid (∀ (x : ByteArray) W, Below w.heap.size w W → Calls Tryd.prog 22 #[.slice A l.length cap, .string x] W fun e w' => e = .returned (.int .i64 (idxB l x)) ∧ W = w') := fun x W hW => indexS_any m l _ F x W hl (hv.kept hW)
  have HP : Hid (∀ v b w', RowRd Rep.int true w' v (prkL l s) (fun a => w.heap.size ≤ a.block) → Below w.heap.size w w' → prkB l s = b → PrkPost (prkL l s) (prkB l s) w (.returned (.tuple #[v, .bool b])) w') := fun v b w' h1 h2 h3 => ⟨v, by rw [h3], h1, h2⟩
  have HN : Hid (prkB l s = false → prkL l s = []) := fun h => by unfold prkL; rw [h]; rfl
  have HBAD : Hid (areC l = false → prkB l s = false) := fun h => by unfold prkB; rw [h]; rfl
  have HPB : Hid (areC l = true → prkB l s = rkB (idxP l s) l.length) := fun h => by unfold prkB; rw [h, Bool.true_and]
  have HYES : Hid (prkB l s = true → prkL l s = idxP l s) := fun h => by unfold prkL; rw [h]; rfl
  have HLE := Lib.hid (cutG_le s)
  have HCS := Lib.hid (cutG_short s hs)
  have HI6 := Lib.hid (fun x => idxB_i64 hl x)
  have HRL : Hid ((idxP l s).length = (cutG s).length) := by unfold Hid idxP; simp
  have HRA : Hid (∀ (k : Nat) (x : ByteArray), (cutG s)[k]? = some x → (idxP l s)[k]? = some (idxB l x)) := fun k x h => by unfold idxP; rw [List.getElem?_map, h]; rfl
  have HXP : Hid (∀ k, k < (cutG s).length → ∃ x, (cutG s)[k]? = some x) := fun k hk => ⟨_, List.getElem?_eq_getElem hk⟩
  have HRKK : Hid (∀ (v : Value) (G : Addr → Prop) W, RowRd Rep.int false W v (idxP l s) G → Calls Tryd.prog 23 #[v, .int .i64 (l.length : Int)] W fun e w' => e = .returned (.bool (rkB (idxP l s) l.length)) ∧ W = w') := fun v G W h => implRk_any (idxP l s) (l.length : Int) v G W h
  have HSP : Hid (∀ W, Calls Tryd.prog 21 #[.string s, .string ⟨#[62]⟩] W fun e w' => e = .returned (.slice (some ⟨W.heap.size, 0, none⟩) (cutG s).length (cutG s).length) ∧ w' = W.alloc (.cells ((cutG s).map Value.string).toArray 9)) := fun W => split_gt s W (by omega)
  have HOC := Lib.hid (fun W => own_cutG s W hs)
  obtain ⟨i0, hi, hz0, hz1, hz2⟩ := info_parts infoIntP12
  clear hv
  generalize hra : areC l = ra at *
  clear hra
  generalize hPB : prkB l s = pb at *
  generalize hPL : prkL l s = pl at *
  generalize rkB (idxP l s) l.length = rb at *
  go_enter Tryd.func8, Tryd.ntmps8
  go_wp2_with fail
  refine HARE.out.mono ?_
  rintro e w1 ⟨rfl, hb1⟩
  have HB1 := Lib.hid hb1
  clear hb1 HARE
  cases ra
  case false =>
    have HB := Lib.hid (HBAD.out rfl)
    have HE := Lib.hid (HN.out (HBAD.out rfl))
    go_wp2
    go_ret2
    exact HP.out _ _ _ (by rw [HE.out]; exact RowRd.nil _ _ _) HB1.out HB.out
  have HPBB := Lib.hid (HPB.out (by trivial))
  clear HBAD HPB
  go_wp2_with fail
  refine (HSP.out w1).mono ?_
  rintro e w2 ⟨rfl, hw2⟩
  have HB2 : Hid (Below w.heap.size w w2) := by unfold Hid; rw [hw2]; exact HB1.out.alloc HB1.out.size _
  have hoc := HOC.out w1
  rw [← hw2] at hoc
  have HRW := Lib.hid ((RowRd.of_strs m hoc (by have := HLE.out; omega) HCS.out).weak)
  have hNb : (cutG s).length ≤ 4000001 := by have := HLE.out; omega
  have H0 := Lib.hid (cpTo_zero (0 : Int) (idxP l s))
  have HAL := Lib.hid (cpTo_all (0 : Int) (idxP l s))
  have HAT := Lib.hid (cpTo_at (0 : Int) (idxP l s))
  have HST : Hid (∀ k x, (idxP l s)[k]? = some x → (cpTo 0 (idxP l s) k).set k x = cpTo 0 (idxP l s) (k + 1)) := fun k x h => cpTo_step _ _ _ h
  rw [HRL.out] at H0 HAL HAT
  have hrl := HRL.out
  clear hoc hw2 HSP HOC HLE HCS HRL
  generalize hR : idxP l s = R at *
  clear hR
  generalize hCU : cutG s = P at *
  clear hCU
  generalize hPN : P.length = n at *
  generalize hLN : l.length = L at *
  go_wp2_with (at_make; refine wpList_make_full _ rfl _ _ 24 rfl w2.heap.size 3 i0 (.int .i64 0) 1 Tryd.underlying24 hi hz0 hz1 .i64 .i64 _ _ n rfl rfl rfl rfl (by rw [hz2]; omega) (by unfold maxLen; omega) (Nat.le_refl _) ?_; intro w3 hown3 hgrow3)
  have hb3 : Below w2.heap.size w2 w3 := (Below.refl _ _).grown hgrow3 (Nat.le_refl _) (fun _ h => by cases h)
  have HO1 : Hid (RowRd Rep.int true w3 (.slice (some ⟨w2.heap.size, 0, none⟩) n n) (cpTo 0 R 0) (fun a => w2.heap.size ≤ a.block)) := by
    unfold Hid
    rw [H0.out]
    rw [show (Value.cells (.int .i64 0)) = #[.int .i64 0] from rfl] at hown3
    have hlr : (List.replicate n (0 : Int)).length = n := List.length_replicate
    refine (RowRd.of_flat (E := Rep.int) (l := List.replicate n 0) (base := w2.heap.size) (e := 3) (cells := (madeCells #[.int .i64 0] (n * 1)).toList) (by rw [hlr]; exact hown3) (by rw [hlr]; omega) ?_).mono (fun a ha => ha.1)
    intro k x hk
    rw [List.getElem?_replicate] at hk
    split at hk
    · cases hk
      refine ⟨[.int .i64 0], ?_, ⟨rfl, by unfold I64; omega⟩⟩
      intro j u hj
      have hjn : j < 1 := (List.getElem?_eq_some_iff.1 hj).1
      rw [show Rep.int.size = 1 from rfl, made_at _ _ _ (by omega) (by decide), show (#[.int .i64 0] : Array Value).size = 1 from rfl, show (k * 1 + j) % 1 = j by omega]
      simpa using hj
    · cases hk
  have HB3 := Lib.hid hb3
  clear hown3 hgrow3 hb3
  go_wp2
  go_loopw [20] (fun i wr => ∃ (k : Nat), k ≤ n ∧ i = .int .i64 k ∧ RowRd Rep.int true wr (.slice (some ⟨w2.heap.size, 0, none⟩) n n) (cpTo 0 R k) (fun a => w2.heap.size ≤ a.block) ∧ Below w2.heap.size w2 wr) (fun i _ => n - (intOf i).toNat)
  case atStart => exact ⟨0, by omega, rfl, HO1.out, HB3.out⟩
  case round =>
    obtain ⟨k, hk, rfl, hrow, hbe⟩ := hrel
    obtain ⟨w4, rfl⟩ : ∃ w4 : World, w4 = wr := ⟨_, rfl⟩
    have HBE := Lib.hid hbe
    clear hbe
    by_cases hkl : k < n
    · obtain ⟨x, hx⟩ := HXP.out k hkl
      have hR := HRA.out k x hx
      have HSX := Lib.hid (HST.out k _ hR)
      have hkr : (k : Int) < (n : Int) := by omega
      obtain ⟨g1, o1, xs1, F1, hge1, -, ha1, -, hc1⟩ := (HRW.out.kept HBE.out).get hx
      cases hge1
      obtain ⟨rfl, -⟩ := id ha1
      have c1 := hc1 0 _ rfl
      simp only [show (Rep.str m).size = 1 from rfl, Nat.mul_one, Nat.add_zero, Nat.zero_add] at c1
      have HIK := Lib.hid (HIX.out x w4 (below_step HB2.out HBE.out))
      have hi6 := HI6.out x
      clear hc1 ha1 hx hR
      generalize idxB l x = z at *
      have hrow2 := hrow.tight
      clear hrow
      obtain ⟨g, off, ys, Fk, hge, hrd, hel, hFk, hcl, hput⟩ := hrow2.open (HAT.out k hkl)
      cases hge
      simp only [show Rep.int.size = 1 from rfl, Nat.mul_one] at hel hcl hput
      simp only [Nat.zero_add] at hel hput
      obtain ⟨rfl, _⟩ := id hrd
      have d0 := hel.cell 0 rfl
      have f0 := hel.free 0 (by decide)
      simp only [Nat.zero_add, Nat.add_zero] at d0 f0
      have hs0 := hel.set 0 (by decide) (.int .i64 z)
      simp only [List.set, Nat.zero_add, Nat.add_zero] at hs0
      have HBB := Lib.hid (HBE.out.setCell (p := ⟨w2.heap.size, k, none⟩) (Nat.le_refl _) (.int .i64 z))
      have HNEW := Lib.hid ((hput _ _ z (fun _ => False) hs0 (⟨rfl, hi6⟩) (fun a h => h.elim)).mono (fun a h => h.elim (fun h => h.1) (fun h => h.elim)))
      rw [HSX.out] at HNEW
      clear hput hel hs0 hrd hFk hcl
      try clear hrow2
      go_wp2_with fail
      refine HIK.out.mono ?_
      rintro e w5 ⟨rfl, rfl⟩
      go_wp2
      go_roundw
      case rel => exact ⟨k + 1, by omega, by go_num, HNEW.out, HBB.out⟩
      case measure => simp [intOf]; omega
    · obtain rfl : k = n := by omega
      rw [HAL.out] at hrow
      have HRR := Lib.hid (hrow.mono (G := fun a => w.heap.size ≤ a.block) fun a ha => Nat.le_trans HB2.out.size ha)
      have HBF := Lib.hid (below_step HB2.out HBE.out)
      have HCK := Lib.hid (HRKK.out _ _ w4 hrow.weak)
      clear hrow
      go_wp2_with fail
      refine HCK.out.mono ?_
      rintro e w5 ⟨rfl, rfl⟩
      cases rb with
      | false =>
        have HE := Lib.hid (HN.out HPBB.out)
        go_wp2
        go_ret2
        exact HP.out _ _ _ (by rw [HE.out]; exact RowRd.nil _ _ _) HBF.out HPBB.out
      | true =>
        have HE := Lib.hid (HYES.out HPBB.out)
        go_wp2
        go_ret2
        exact HP.out _ _ _ (by rw [HE.out]; exact HRR.out) HBF.out HPBB.out
end Go.Proofs.YtnildbalaedlgaaDoor
