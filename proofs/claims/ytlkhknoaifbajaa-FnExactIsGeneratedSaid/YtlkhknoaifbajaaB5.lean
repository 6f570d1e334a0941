/- Merged: Op U8 TeLink TeLinkS TeCandidate TeCandidateS TmLinkS TmCandidateS ThLinkS ThCandidateS. -/
import Derived.Test.YtlkhknoaifbajaaA1
import Derived.Test.YtlkhknoaifbajaaRows
import Derived.Deep.Slices
import Derived.Lib.SmallJoins
import Derived.ChangeSame
import Derived.WalkKit
import Derived.BigQuiet
import Derived.Lib.QuietBelow
/- Arguments: what the caller's cells stand for. -/
namespace Go.Proofs.Ytlkhknoaifbajaa
set_option maxRecDepth 100000
open Go.ChangeShapes Go.WideShapes Go.RowKit Go.Deep
set_option linter.unusedVariables false

def Opens {α H : Type} (enc : TypeId × Value → H) (W : World) (base : Nat) (spare : Nat → Bool) (held : Bool) (E : Rep α) (t : TypeId) : Prop :=
  ∀ (fuel : Nat) (cs : List Value) (y : DataW H × List MemPlace), DataW.trod enc Try.prog W base spare held fuel t cs = some y → ∃ (ys : List Value) (x : α) (F : Addr → Prop), (∀ (j : Nat) (u : Value), ys[j]? = some u → cs[j]? = some u) ∧ E.rd false W ys x F
theorem pick_of {α : Type} {n : Nat} {p : Nat → α → Prop} (h : ∀ i, i < n → ∃ x, p i x) : ∃ l : List α, l.length = n ∧ ∀ i x, l[i]? = some x → p i x := by
  induction n with
  | zero => exact ⟨[], rfl, fun i x h => by simp at h⟩
  | succ n ih =>
    obtain ⟨l, hl, hp⟩ := ih fun i hi => h i (by omega)
    obtain ⟨x, hx⟩ := h n (by omega)
    refine ⟨l ++ [x], by simp [hl], fun i y hy => ?_⟩
    by_cases hi : i < n
    · rw [List.getElem?_append_left (by omega)] at hy; exact hp i y hy
    · have hin : i < n + 1 := by have := (List.getElem?_eq_some_iff.1 hy).1; simpa [hl] using this
      obtain rfl : i = n := by omega
      rw [List.getElem?_append_right (by omega), hl, Nat.sub_self] at hy
      simp at hy
      subst hy
      exact hx
section
variable {H : Type} {enc : TypeId × Value → H} {W : World} {base : Nat} {spare : Nat → Bool} {held : Bool}
theorem opens_int : Opens enc W base spare held Rep.int 3 := fun fuel cs y h => by
  obtain ⟨n, rfl, _, hw⟩ := DataW.trod_int Try.underlying3 h
  refine ⟨[.int .i64 n], n, fun _ => False, fun j u h => h, rfl, ?_⟩
  simpa [Lit.wf, I64, IntKind.min, IntKind.max, IntKind.signed, IntKind.bits] using hw
theorem opens_row {α : Type} {E : Rep α} {e t : TypeId} (he : Opens enc W base spare held E e) (ht : Try.prog.underlying t = some (.slice e)) (hc : Try.prog.cellsOf e = E.size) (hpos : 0 < E.size) : Opens enc W base spare held (Rep.row E) t := fun fuel cs y h => by
  rcases open_slice ht h with ⟨rfl, _⟩ | ⟨a, len, cap, m, n, D, Pl, rfl, _, hl, hm, hmm, _, hi⟩
  · exact ⟨[.slice none 0 0], [], fun _ => False, fun j u h => h, _, rfl, RowRd.nil _ _ _⟩
  · have hlm : len ≤ m := by rw [hmm]; split <;> omega
    obtain ⟨l, hln, hel⟩ := pick_of (n := len) (p := fun i (x : α × (List Value × (Addr → Prop))) => E.rd false W x.2.1 x.1 x.2.2 ∧ ∀ j u, x.2.1[j]? = some u → W.cell? (a.add (i * E.size + j)) = some u) fun i hin => by
      obtain ⟨cs', hcc, htr⟩ := hi i (by omega)
      obtain ⟨ys, x, F, h1, h2⟩ := he _ _ _ htr
      refine ⟨⟨x, ys, F⟩, h2, fun j u hj => ?_⟩
      obtain ⟨_, hlen, hat⟩ := World.cells?_some hcc
      have hj' : j < Try.prog.cellsOf e := by rw [← hlen]; exact (List.getElem?_eq_some_iff.1 (h1 j u hj)).1
      have := hat j hj'
      rw [h1 j u hj, add_add, hc] at this
      exact this
    have hmx : len ≤ 9223372036854775807 := by unfold maxLen at hm; omega
    refine ⟨[.slice (some a) len cap], l.map (·.1), fun _ => True, fun j u h => h, _, rfl, some a, cap, fun k => ((l.map (·.2.2))[k]?).getD (fun _ => False), by simp [hln], ⟨by simpa [hln] using hmx, fun h => by cases h⟩, fun k x hk => ?_⟩
    rw [List.getElem?_map] at hk
    cases hz : l[k]? with
    | none => rw [hz] at hk; cases hk
    | some z =>
      rw [hz] at hk
      cases hk
      obtain ⟨h1, h2⟩ := hel k z hz
      obtain ⟨b, off, spot⟩ := a
      have hsp : spot = none := by
        have hk0 : 0 < l.length := Nat.lt_of_le_of_lt (Nat.zero_le _) (List.getElem?_eq_some_iff.1 hz).1
        obtain ⟨g1, g2⟩ := hel 0 _ (List.getElem?_eq_getElem hk0)
        have hj0 : 0 < (l[0]).2.1.length := by rw [E.len g1]; exact hpos
        have := g2 0 _ (List.getElem?_eq_getElem hj0)
        simpa [Addr.add] using World.cell?_spot this
      subst hsp
      have he2 : ∀ j, (⟨b, off, none⟩ : Addr).add j = ⟨b, off + j, none⟩ := fun j => by unfold Addr.add; split <;> simp_all
      refine ⟨b, off, z.2.1, rfl, ?_, fun _ _ => trivial, fun j u hj => ⟨?_, trivial, fun hs => by cases hs⟩, fun hs => by cases hs⟩
      · simpa [List.getElem?_map, hz] using h1
      · have := h2 j u hj
        rw [he2, ← Nat.add_assoc] at this
        exact this
theorem arg_int {v : Value} {d : DataW H} {p : List MemPlace} {b0 : Nat} (hval : Value.okWide Try.prog W .any b0 3 v) (h : DataW.Trod enc Try.prog W 0 (fun _ => true) held 3 v d p) : ∃ n : Int, v = .int .i64 n ∧ I64 n := by
  obtain ⟨fuel, hf⟩ := h
  obtain ⟨n, hv, _, hw⟩ := DataW.trod_int Try.underlying3 hf
  refine ⟨n, ?_, by simpa [Lit.wf, I64, IntKind.min, IntKind.max, IntKind.signed, IntKind.bits] using hw⟩
  obtain ⟨m, rfl⟩ := okWide_int Try.underlying3 hval
  simp [Value.cells] at hv
  rw [hv]
theorem arg_row {α : Type} {E : Rep α} {e t : TypeId} (he : Opens enc W 0 (fun _ => true) held E e) (ht : Try.prog.underlying t = some (.slice e)) (hc : Try.prog.cellsOf e = E.size) (hpos : 0 < E.size)
    {v : Value} {d : DataW H} {p : List MemPlace} {b0 : Nat} (hval : Value.okWide Try.prog W .any b0 t v) (h : DataW.Trod enc Try.prog W 0 (fun _ => true) held t v d p) : ∃ (l : List α) (F : Addr → Prop), RowRd E false W v l F := by
  obtain ⟨a0, len0, cap0, rfl⟩ := okWide_slice ht hval
  obtain ⟨fuel, hf⟩ := h
  obtain ⟨ys, l, F, hy, v', rfl, hr⟩ := opens_row he ht hc hpos _ _ _ hf
  have := hy 0 v' rfl
  simp [Value.cells] at this
  subst this
  exact ⟨l, F, hr⟩
end
/-- An argument that is a struct by value: its cells. -/
theorem agg_of {cs : Array Value} {ys : List Value} (h : ∀ (j : Nat) (u : Value), ys[j]? = some u → cs.toList[j]? = some u) (hl : ys.length = cs.size) : cs = ys.toArray := by
  apply Array.toList_inj.1
  apply List.ext_getElem?
  intro j
  by_cases hj : j < ys.length
  · rw [h j _ (List.getElem?_eq_getElem hj)]; simp [hj]
  · rw [List.getElem?_eq_none (by simp; omega), List.getElem?_eq_none (by simp; omega)]
theorem at_part {cs : List Value} {k n : Nat} {j : Nat} {u : Value} (h : ((cs.drop k).take n)[j]? = some u) : cs[k + j]? = some u := by
  have hj : j < n := by
    have := (List.getElem?_eq_some_iff.1 h).1
    rw [List.length_take] at this
    omega
  rwa [List.getElem?_take_of_lt hj, List.getElem?_drop] at h
end Go.Proofs.Ytlkhknoaifbajaa

/- Bytes: marks in them; arguments of them. -/
namespace Go.Proofs.Ytlkhknoaifbajaa
set_option maxRecDepth 100000
open Go.ChangeShapes Go.WideShapes Go.RowKit Go.Deep Go.ChangeAt
set_option linter.unusedVariables false
set_option linter.unusedSimpArgs false

theorem u8_wrap (k : Nat) : (k : Int) % 256 = ((UInt8.ofNat k).toNat : Int) := by
  rw [UInt8.toNat_ofNat']
  omega
section
variable {H : Type} {enc : TypeId × Value → H} {W : World} {base : Nat} {spare : Nat → Bool} {held : Bool}
theorem opens_byte : Opens enc W base spare held Rep.byte 5 := fun fuel cs y h => by
  obtain ⟨n, rfl, _, hw⟩ := DataW.trod_int Try.underlying5 h
  have hb : 0 ≤ n ∧ n ≤ 255 := bounds_u8 hw
  refine ⟨[.int .u8 n], UInt8.ofNat n.toNat, fun _ => False, fun j u h => h, ?_⟩
  show [Value.int .u8 n] = [.int .u8 ((UInt8.ofNat n.toNat).toNat : Int)]
  rw [UInt8.toNat_ofNat']
  congr 2
  omega
end
end Go.Proofs.Ytlkhknoaifbajaa

/- The laws' eqLink. -/
namespace Go.Proofs.Ytlkhknoaifbajaa
set_option maxRecDepth 100000
open Go.RowKit Go.Sort
set_option linter.unusedVariables false
set_option linter.unusedSimpArgs false

theorem eqLink_any (x : DLink) (F G : Addr → Prop) (w : World) :
    Calls Try.prog 107 #[.agg #[.int .u8 (x.In.toNat : Int), .int .u8 (x.Out.toNat : Int)], .agg #[.int .u8 (x.In.toNat : Int), .int .u8 (x.Out.toNat : Int)]] w fun e w' => e = .returned (.bool true) ∧ Below w.heap.size w w' := by
  generalize x.In = y0 at *
  generalize x.Out = y1 at *
  go_enter Try.func107, Try.ntmps107
  go_wp2
  go_ret
  exact ⟨rfl, ((Below.refl _ _).alloc (Nat.le_refl _) _).alloc (by simp) _⟩
end Go.Proofs.Ytlkhknoaifbajaa

/- The laws' eqLinkS. -/
namespace Go.Proofs.Ytlkhknoaifbajaa
set_option maxRecDepth 100000
open Go.RowKit Go.Sort
set_option linter.unusedVariables false
set_option linter.unusedSimpArgs false

set_option maxHeartbeats 1000000 in
theorem eqLinkS_any (v u : Value) (l : List DLink) (F G : Addr → Prop) (w : World) (hv : RowRd rLink false w v l F) (hu : RowRd rLink false w u l G) :
    Calls Try.prog 91 #[v, u] w fun e w' => e = .returned (.bool true) ∧ Below w.heap.size w w' := by
  obtain ⟨A, cap, rfl⟩ := hv.form
  obtain ⟨A2, cap2, rfl⟩ := hu.form
  have hmx := hv.max
  have HV := Lib.hid hv
  have HU := Lib.hid hu
  clear hv hu
  have HX : Hid (∀ k, k < l.length → ∃ x, l[k]? = some x) := fun k hk => ⟨_, List.getElem?_eq_getElem hk⟩
  generalize hll : l.length = n at *
  clear hll
  go_enter Try.func91, Try.ntmps91
  go_wp2
  go_loopw [5] (fun i wr => ∃ (k : Nat), k ≤ n ∧ i = .int .i64 k ∧ Below w.heap.size w wr) (fun i _ => n - (intOf i).toNat)
  case atStart => exact ⟨0, by omega, rfl, Below.refl _ _⟩
  case round =>
    obtain ⟨k, hk, rfl, hbe⟩ := hrel
    have HBE := Lib.hid hbe
    clear hbe
    by_cases hkl : k < n
    · obtain ⟨x, hx⟩ := HX.out k hkl
      obtain ⟨g, off, xs, Fk, rfl, _, rc, _, hc⟩ := (HV.out.kept HBE.out).get hx
      obtain ⟨g2, off2, ys, Gk, rfl, _, rd, _, hd⟩ := (HU.out.kept HBE.out).get hx
      have eec := rLink_rd rc
      subst eec
      have eed := rLink_rd rd
      subst eed
      rw [rLink_size] at hc hd
      have c0 := fun d os => cell_regrown (hc 0 _ rfl) d os
      have c1 := fun d os => cell_regrown (hc 1 _ rfl) d os
      have d0 := fun d os => cell_regrown (hd 0 _ rfl) d os
      have d1 := fun d os => cell_regrown (hd 1 _ rfl) d os
      clear hc hd
      simp only [Nat.add_zero] at c0 d0
      have cS : ∀ d os, Calls Try.prog 107 #[.agg #[.int .u8 (x.In.toNat : Int), .int .u8 (x.Out.toNat : Int)], .agg #[.int .u8 (x.In.toNat : Int), .int .u8 (x.Out.toNat : Int)]] (grow (redrawn wr d) os) fun e w'' => e = .returned (.bool true) ∧ ∃ p : Regrown, w'' = grow (redrawn wr p.d) p.os :=
        fun d os => Calls.regrown_of (eqLink_any x Fk Gk _)
      clear  hx
      generalize x.In = y0 at *
      generalize x.Out = y1 at *
      go_wp2
      refine wp_region_quiet_below (by kernel_rfl) (by kernel_rfl) ?_
      repeat (quiet_step (exact cS _ _))
      refine wpQuiet_nil ?_
      intro _ hw'
      obtain ⟨⟨dq, osq⟩, hw''⟩ := hw'
      subst hw''
      go_wp2
      go_roundw
      case rel => exact ⟨k + 1, by omega, by go_num, HBE.out.trans ((below_regrown wr dq osq).mono HBE.out.size)⟩
      case measure => simp [intOf]; omega
    · obtain rfl : k = n := by omega
      go_wp2
      go_ret
      exact ⟨rfl, HBE.out⟩
end Go.Proofs.Ytlkhknoaifbajaa

/- The laws' eqCandidate. -/
namespace Go.Proofs.Ytlkhknoaifbajaa
set_option maxRecDepth 100000
open Go.RowKit Go.Sort
set_option linter.unusedVariables false
set_option linter.unusedSimpArgs false

theorem eqCandidate_any (x : DCandidate) (F G : Addr → Prop) (w : World) (v0 u0 : Value) (hv0 : RowRd rLink false w v0 x.Links F) (hu0 : RowRd rLink false w u0 x.Links G) :
    Calls Try.prog 55 #[.agg #[v0], .agg #[u0]] w fun e w' => e = .returned (.bool true) ∧ Below w.heap.size w w' := by
  have HR0 : Hid (∀ W, Below w.heap.size w W → Calls Try.prog 91 #[v0, u0] W fun e w' => e = .returned (.bool true) ∧ Below W.heap.size W w') := fun W hW => eqLinkS_any v0 u0 _ F G W (hv0.kept hW) (hu0.kept hW)
  clear hv0 hu0
  go_enter Try.func55, Try.ntmps55
  go_wp2_with fail
  refine (HR0.out _ (((Below.refl _ _).alloc (Nat.le_refl _) _).alloc (by simp) _)).mono ?_
  rintro e w1 ⟨rfl, hb1⟩
  have HB1 : Hid (Below w.heap.size w w1) := (((Below.refl _ _).alloc (Nat.le_refl _) _).alloc (by simp) _).trans (hb1.mono (by simp; try omega))
  have hA1 : w1.heap[w.heap.size]? = some (.cells #[v0] 26 (0, 0)) := (hb1.block _ (by simp; try omega)).trans (box1 _ _ _)
  have hB1 : w1.heap[w.heap.size + 1]? = some (.cells #[u0] 26 (0, 0)) := (hb1.block _ (by simp; try omega)).trans (box2 _ _ _)
  clear hb1
  go_wp2
  go_ret
  exact ⟨rfl, HB1.out⟩
end Go.Proofs.Ytlkhknoaifbajaa

/- The laws' eqCandidateS. -/
namespace Go.Proofs.Ytlkhknoaifbajaa
set_option maxRecDepth 100000
open Go.RowKit Go.Sort
set_option linter.unusedVariables false
set_option linter.unusedSimpArgs false

set_option maxHeartbeats 1000000 in
theorem eqCandidateS_any (v u : Value) (l : List DCandidate) (F G : Addr → Prop) (w : World) (hv : RowRd rCandidate false w v l F) (hu : RowRd rCandidate false w u l G) :
    Calls Try.prog 49 #[v, u] w fun e w' => e = .returned (.bool true) ∧ Below w.heap.size w w' := by
  obtain ⟨A, cap, rfl⟩ := hv.form
  obtain ⟨A2, cap2, rfl⟩ := hu.form
  have hmx := hv.max
  have HV := Lib.hid hv
  have HU := Lib.hid hu
  clear hv hu
  have HX : Hid (∀ k, k < l.length → ∃ x, l[k]? = some x) := fun k hk => ⟨_, List.getElem?_eq_getElem hk⟩
  generalize hll : l.length = n at *
  clear hll
  go_enter Try.func49, Try.ntmps49
  go_wp2
  go_loopw [5] (fun i wr => ∃ (k : Nat), k ≤ n ∧ i = .int .i64 k ∧ Below w.heap.size w wr) (fun i _ => n - (intOf i).toNat)
  case atStart => exact ⟨0, by omega, rfl, Below.refl _ _⟩
  case round =>
    obtain ⟨k, hk, rfl, hbe⟩ := hrel
    have HBE := Lib.hid hbe
    clear hbe
    by_cases hkl : k < n
    · obtain ⟨x, hx⟩ := HX.out k hkl
      obtain ⟨g, off, xs, Fk, rfl, _, rc, _, hc⟩ := (HV.out.kept HBE.out).get hx
      obtain ⟨g2, off2, ys, Gk, rfl, _, rd, _, hd⟩ := (HU.out.kept HBE.out).get hx
      obtain ⟨v0, rfl, qc0⟩ := rCandidate_rd rc
      obtain ⟨u0, rfl, qd0⟩ := rCandidate_rd rd
      rw [rCandidate_size] at hc hd
      have c0 := fun d os => cell_regrown (hc 0 _ rfl) d os
      have d0 := fun d os => cell_regrown (hd 0 _ rfl) d os
      clear hc hd
      simp only [Nat.add_zero, Nat.mul_one] at c0 d0
      have cS : ∀ d os, Calls Try.prog 55 #[.agg #[v0], .agg #[u0]] (grow (redrawn wr d) os) fun e w'' => e = .returned (.bool true) ∧ ∃ p : Regrown, w'' = grow (redrawn wr p.d) p.os :=
        fun d os => Calls.regrown_of (eqCandidate_any x Fk Gk _ v0 u0 (qc0.kept (below_regrown wr d os)) (qd0.kept (below_regrown wr d os)))
      clear qc0 qd0 hx
      go_wp2
      refine wp_region_quiet_below (by kernel_rfl) (by kernel_rfl) ?_
      repeat (quiet_step (exact cS _ _))
      refine wpQuiet_nil ?_
      intro _ hw'
      obtain ⟨⟨dq, osq⟩, hw''⟩ := hw'
      subst hw''
      go_wp2
      go_roundw
      case rel => exact ⟨k + 1, by omega, by go_num, HBE.out.trans ((below_regrown wr dq osq).mono HBE.out.size)⟩
      case measure => simp [intOf]; omega
    · obtain rfl : k = n := by omega
      go_wp2
      go_ret
      exact ⟨rfl, HBE.out⟩
end Go.Proofs.Ytlkhknoaifbajaa

/- The laws' markLinkS. -/
namespace Go.Proofs.Ytlkhknoaifbajaa
set_option maxRecDepth 100000
open Go.RowKit Go.Sort
set_option linter.unusedVariables false
set_option linter.unusedSimpArgs false

set_option maxHeartbeats 2000000 in
theorem markLinkS_any (v : Value) (l : List DLink) (z : Int) (k0 : Nat) (hz : z = (k0 : Int)) (base : Nat) (F0 : Addr → Prop) (w : World) (hF0 : ∀ a, F0 a → base ≤ a.block) (hk : k0 + cntRow rLink l ≤ 1000000000) (h1k : 1 ≤ k0) (hv0 : RowRd rLink true w v l F0) :
    Calls Try.prog 87 #[v, .int .i64 z] w fun e w' => e = .returned (.int .i64 ((k0 + cntRow rLink l : Nat) : Int)) ∧ RowRd rLink true w' v (labRow rLink k0 l) F0 ∧ Unch F0 w w' ∧ Below base w w' := by
  subst hz
  have hv := hv0.tight
  have HG : Hid (∀ a, (F0 a ∧ a.block < w.heap.size) → F0 a) := fun _ h => h.1
  have HFS : Hid (∀ a, (F0 a ∧ a.block < w.heap.size) → a.block < w.heap.size) := fun _ h => h.2
  have HFB : Hid (∀ a, (F0 a ∧ a.block < w.heap.size) → base ≤ a.block) := fun a h => hF0 a h.1
  generalize hF : (fun a => F0 a ∧ a.block < w.heap.size) = F at hv
  have HG : Hid (∀ a, F a → F0 a) := by subst hF; exact HG
  have HFS : Hid (∀ a, F a → a.block < w.heap.size) := by subst hF; exact HFS
  have HFB : Hid (∀ a, F a → base ≤ a.block) := by subst hF; exact HFB
  clear hF hF0
  have hmx := hv.max
  have HMX := Lib.hid hmx
  obtain ⟨A, cap, rfl⟩ := hv.form
  have HV := Lib.hid hv
  clear hv hv0
  have HX : Hid (∀ k, k < l.length → ∃ x, l[k]? = some x) := fun k hk => ⟨_, List.getElem?_eq_getElem hk⟩
  have HEND : Hid (labTo rLink k0 l l.length = labRow rLink k0 l ∧ cntTo rLink l l.length = cntRow rLink l) := ⟨labTo_all _ _ _, cntTo_all _ _⟩
  have HLE := Lib.hid (cntTo_le rLink l)
  have H0 := Lib.hid (labTo_zero rLink k0 l)
  have H00 : Hid (cntTo rLink l 0 = 0) := rfl
  generalize hll : l.length = n at *
  clear hll
  generalize cntRow rLink l = cr at *
  go_enter Try.func87, Try.ntmps87
  go_wp2
  go_loopw [1, 5] (fun q i wr => ∃ (k : Nat), k ≤ n ∧ i = .int .i64 k ∧ q = .int .i64 ((k0 + cntTo rLink l k : Nat) : Int) ∧ RowRd rLink true wr (.slice A n cap) (labTo rLink k0 l k) F ∧ Unch F w wr ∧ Below base w wr) (fun _ i _ => n - (intOf i).toNat)
  case atStart => exact ⟨0, by omega, rfl, by rw [H00.out]; rfl, by rw [H0.out]; exact HV.out, Unch.refl _ _, Below.refl _ _⟩
  case round =>
    obtain ⟨k, hk, rfl, rfl, hrow, hun, hbe⟩ := hrel
    have HUN := Lib.hid hun
    have HBE := Lib.hid hbe
    clear hun hbe
    by_cases hkl : k < n
    · obtain ⟨x, hx⟩ := HX.out k hkl
      have hcs := cntTo_step rLink l k hx
      have hle := HLE.out (k + 1)
      have HLS := Lib.hid (labTo_step rLink k0 l k hx)
      obtain ⟨g, off, xs, Fk, rfl, hrd, hel, hFk, hcl, hput⟩ := hrow.open (labTo_at rLink k0 l k hx)
      rw [show rLink.size = 2 from rfl] at hel hcl hput
      rw [rLink_cnt] at hcs
      have HCL := Lib.hid hcl
      have HFK := Lib.hid hFk
      have HPUT := Lib.hid hput
      have HCS := Lib.hid hcs
      have hcb0 : k0 + cntTo rLink l k + (1 + (1)) ≤ 1000000000 := by omega
      clear hrow hcl hFk hput hcs
      generalize hc : k0 + cntTo rLink l k = c at *
      have hcb : c + 1 ≤ 1000000001 := by omega
      have HC := Lib.hid hc
      clear hc
      have eehrd := rLink_rd hrd
      subst eehrd
      clear hrd
      have c0 := hel.cell 0 rfl
      have f0 := hel.free 0 (by decide)
      have hs0 := hel.set 0 (by decide) (.int .u8 ((((c : Nat) : Int)) % 256))
      simp only [Nat.add_zero] at c0 f0 hs0
      simp only [List.set] at hs0
      have c1 := hs0.cell 1 rfl
      have f1 := hs0.free 1 (by decide)
      have hs1 := hs0.set 1 (by decide) (.int .u8 ((((c : Nat) : Int) + 1) % 256))
      simp only [List.set] at hs1
      have HUE := Lib.hid ((HUN.out.trans (Unch.set (p := ⟨g, off + k * 2, none⟩) (HCL.out 0 (by decide)).1 (.int .u8 ((((c : Nat) : Int)) % 256)))).trans (Unch.set (p := ⟨g, off + k * 2 + 1, none⟩) (HCL.out 1 (by decide)).1 (.int .u8 ((((c : Nat) : Int) + 1) % 256))))
      have HBB := Lib.hid ((HBE.out.setCell (p := ⟨g, off + k * 2, none⟩) (HFB.out _ (HCL.out 0 (by decide)).1) (.int .u8 ((((c : Nat) : Int)) % 256))).setCell (p := ⟨g, off + k * 2 + 1, none⟩) (HFB.out _ (HCL.out 1 (by decide)).1) (.int .u8 ((((c : Nat) : Int) + 1) % 256)))
      have HEE := Lib.hid hs1
      clear hs0 hs1 hel
      go_wp2
      go_roundw
      case rel =>
        refine ⟨k + 1, by omega, by go_num, ?_, ?_, HUE.out, HBB.out⟩
        · have e1 := HCS.out
          have e2 := HC.out
          congr 1
          omega
        · rw [← HLS.out]
          exact (HPUT.out _ _ (rLink.lab c x) Fk HEE.out (rLink_mk (x := rLink.lab c x) ) (fun a h => Or.inl h)).mono (fun a h => h.elim id (HFK.out a))
      case measure => simp [intOf]; omega
    · obtain rfl : k = n := by omega
      rw [HEND.out.1] at hrow
      have HR := Lib.hid (hrow.mono HG.out)
      have HCN := Lib.hid HEND.out.2
      clear hrow
      go_wp2
      go_ret
      exact ⟨ret_i64 (by rw [HCN.out]), HR.out, HUN.out.mono HG.out, HBE.out⟩
end Go.Proofs.Ytlkhknoaifbajaa

/- The laws' markCandidateS. -/
namespace Go.Proofs.Ytlkhknoaifbajaa
set_option maxRecDepth 100000
open Go.RowKit Go.Sort
set_option linter.unusedVariables false
set_option linter.unusedSimpArgs false

set_option maxHeartbeats 2000000 in
theorem markCandidateS_any (v : Value) (l : List DCandidate) (z : Int) (k0 : Nat) (hz : z = (k0 : Int)) (base : Nat) (F0 : Addr → Prop) (w : World) (hF0 : ∀ a, F0 a → base ≤ a.block) (hk : k0 + cntRow rCandidate l ≤ 1000000000) (h1k : 1 ≤ k0) (hv0 : RowRd rCandidate true w v l F0) :
    Calls Try.prog 50 #[v, .int .i64 z] w fun e w' => e = .returned (.int .i64 ((k0 + cntRow rCandidate l : Nat) : Int)) ∧ RowRd rCandidate true w' v (labRow rCandidate k0 l) F0 ∧ Unch F0 w w' ∧ Below base w w' := by
  subst hz
  have hv := hv0.tight
  have HG : Hid (∀ a, (F0 a ∧ a.block < w.heap.size) → F0 a) := fun _ h => h.1
  have HFS : Hid (∀ a, (F0 a ∧ a.block < w.heap.size) → a.block < w.heap.size) := fun _ h => h.2
  have HFB : Hid (∀ a, (F0 a ∧ a.block < w.heap.size) → base ≤ a.block) := fun a h => hF0 a h.1
  generalize hF : (fun a => F0 a ∧ a.block < w.heap.size) = F at hv
  have HG : Hid (∀ a, F a → F0 a) := by subst hF; exact HG
  have HFS : Hid (∀ a, F a → a.block < w.heap.size) := by subst hF; exact HFS
  have HFB : Hid (∀ a, F a → base ≤ a.block) := by subst hF; exact HFB
  clear hF hF0
  have hmx := hv.max
  have HMX := Lib.hid hmx
  obtain ⟨A, cap, rfl⟩ := hv.form
  have HV := Lib.hid hv
  clear hv hv0
  have HX : Hid (∀ k, k < l.length → ∃ x, l[k]? = some x) := fun k hk => ⟨_, List.getElem?_eq_getElem hk⟩
  have HEND : Hid (labTo rCandidate k0 l l.length = labRow rCandidate k0 l ∧ cntTo rCandidate l l.length = cntRow rCandidate l) := ⟨labTo_all _ _ _, cntTo_all _ _⟩
  have HLE := Lib.hid (cntTo_le rCandidate l)
  have H0 := Lib.hid (labTo_zero rCandidate k0 l)
  have H00 : Hid (cntTo rCandidate l 0 = 0) := rfl
  generalize hll : l.length = n at *
  clear hll
  generalize cntRow rCandidate l = cr at *
  go_enter Try.func50, Try.ntmps50
  go_wp2
  go_loopw [1, 5] (fun q i wr => ∃ (k : Nat), k ≤ n ∧ i = .int .i64 k ∧ q = .int .i64 ((k0 + cntTo rCandidate l k : Nat) : Int) ∧ RowRd rCandidate true wr (.slice A n cap) (labTo rCandidate k0 l k) F ∧ Unch F w wr ∧ Below base w wr) (fun _ i _ => n - (intOf i).toNat)
  case atStart => exact ⟨0, by omega, rfl, by rw [H00.out]; rfl, by rw [H0.out]; exact HV.out, Unch.refl _ _, Below.refl _ _⟩
  case round =>
    obtain ⟨k, hk, rfl, rfl, hrow, hun, hbe⟩ := hrel
    have HUN := Lib.hid hun
    have HBE := Lib.hid hbe
    clear hun hbe
    by_cases hkl : k < n
    · obtain ⟨x, hx⟩ := HX.out k hkl
      have hcs := cntTo_step rCandidate l k hx
      have hle := HLE.out (k + 1)
      have HLS := Lib.hid (labTo_step rCandidate k0 l k hx)
      obtain ⟨g, off, xs, Fk, rfl, hrd, hel, hFk, hcl, hput⟩ := hrow.open (labTo_at rCandidate k0 l k hx)
      simp only [show rCandidate.size = 1 from rfl, Nat.mul_one] at hel hcl hput
      rw [rCandidate_cnt] at hcs
      have HCL := Lib.hid hcl
      have HFK := Lib.hid hFk
      have HPUT := Lib.hid hput
      have HCS := Lib.hid hcs
      have hcb0 : k0 + cntTo rCandidate l k + (cntRow rLink x.Links) ≤ 1000000000 := by omega
      clear hrow hcl hFk hput hcs
      generalize hc : k0 + cntTo rCandidate l k = c at *
      have hc1 : 1 ≤ c := by omega
      have hcb : c + 1 ≤ 1000000001 := by omega
      have HC := Lib.hid hc
      clear hc
      obtain ⟨v0, rfl, q0⟩ := rCandidate_rd hrd
      clear hrd
      obtain ⟨c0', hc0⟩ : ∃ q, c + 0 + cntRow rLink x.Links = q := ⟨_, rfl⟩
      have HM0 := Lib.hid (markLinkS_any v0 x.Links (((c : Nat) : Int)) (c + 0) (by omega) base Fk _ (fun a ha => HFB.out a (HFK.out a ha)) (by omega) (by omega) q0)
      rw [hc0] at HM0
      have c0 := hel.cell 0 rfl
      simp only [Nat.add_zero, Nat.mul_one] at c0
      have HEL0 := Lib.hid hel
      clear hel q0
      go_wp2_with fail
      refine HM0.out.mono ?_
      rintro e w0 ⟨rfl, qq0, hu0, hb0⟩
      have hm0 := HEL0.out.call hu0 (fun j hj => (HCL.out j hj).2) (fun a ha => Nat.lt_of_lt_of_le (HFS.out a ha) (Nat.le_trans HUN.out.size (by simp [World.setCell])))
      clear c0
      have HUE := Lib.hid (HUN.out.trans (hu0.mono HFK.out))
      have HBB := Lib.hid (HBE.out.trans hb0)
      have HEE := Lib.hid hm0
      have HQ0 := Lib.hid qq0
      clear hm0 hu0 hb0 qq0
      go_wp2
      go_roundw
      case rel =>
        subst hc0
        refine ⟨k + 1, by omega, by go_num, ?_, ?_, HUE.out, HBB.out⟩
        · have e1 := HCS.out
          have e2 := HC.out
          congr 1
          omega
        · rw [← HLS.out]
          exact (HPUT.out _ _ (rCandidate.lab c x) Fk HEE.out (rCandidate_mk (x := rCandidate.lab c x) HQ0.out) (fun a h => Or.inl h)).mono (fun a h => h.elim id (HFK.out a))
      case measure => simp [intOf]; omega
    · obtain rfl : k = n := by omega
      rw [HEND.out.1] at hrow
      have HR := Lib.hid (hrow.mono HG.out)
      have HCN := Lib.hid HEND.out.2
      clear hrow
      go_wp2
      go_ret
      exact ⟨ret_i64 (by rw [HCN.out]), HR.out, HUN.out.mono HG.out, HBE.out⟩
end Go.Proofs.Ytlkhknoaifbajaa

/- The laws' heldLinkS. -/
namespace Go.Proofs.Ytlkhknoaifbajaa
set_option maxRecDepth 100000
open Go.RowKit Go.Sort
set_option linter.unusedVariables false
set_option linter.unusedSimpArgs false

set_option maxHeartbeats 1000000 in
theorem heldLinkS_any (v : Value) (l : List DLink) (z : Int) (k0 : Nat) (hz : z = (k0 : Int)) (F : Addr → Prop) (w : World) (hk : k0 + cntRow rLink l ≤ 1000000000) (h1k : 1 ≤ k0) (hv : RowRd rLink false w v (labRow rLink k0 l) F) :
    Calls Try.prog 88 #[v, .int .i64 z] w fun e w' => e = .returned (.int .i64 ((k0 + cntRow rLink l : Nat) : Int)) ∧ Below w.heap.size w w' := by
  subst hz
  have hmx := hv.max
  rw [labRow_len] at hmx
  obtain ⟨A, cap, rfl⟩ := hv.form
  rw [labRow_len]
  rw [labRow_len] at hv
  have HV := Lib.hid hv
  clear hv
  have HX : Hid (∀ k, k < l.length → ∃ x, l[k]? = some x) := fun k hk => ⟨_, List.getElem?_eq_getElem hk⟩
  have HEND : Hid (cntTo rLink l l.length = cntRow rLink l) := cntTo_all _ _
  have HLE := Lib.hid (cntTo_le rLink l)
  have H00 : Hid (cntTo rLink l 0 = 0) := rfl
  generalize hll : l.length = n at *
  clear hll
  generalize cntRow rLink l = cr at *
  go_enter Try.func88, Try.ntmps88
  go_wp2
  go_loopw [1, 5] (fun q i wr => ∃ (k : Nat), k ≤ n ∧ i = .int .i64 k ∧ q = .int .i64 ((k0 + cntTo rLink l k : Nat) : Int) ∧ Below w.heap.size w wr) (fun _ i _ => n - (intOf i).toNat)
  case atStart => exact ⟨0, by omega, rfl, by rw [H00.out]; rfl, Below.refl _ _⟩
  case round =>
    obtain ⟨k, hk, rfl, rfl, hbe⟩ := hrel
    have HBE := Lib.hid hbe
    clear hbe
    by_cases hkl : k < n
    · obtain ⟨x, hx⟩ := HX.out k hkl
      have hcs := cntTo_step rLink l k hx
      have hle := HLE.out (k + 1)
      obtain ⟨g, off, xs, Fk, rfl, _, hrd, _, hc⟩ := (HV.out.kept HBE.out).get (labRow_at rLink k0 l k hx)
      rw [show rLink.size = 2 from rfl] at hc
      rw [rLink_cnt] at hcs
      have HCS := Lib.hid hcs
      have hcb0 : k0 + cntTo rLink l k + (1 + (1)) ≤ 1000000000 := by omega
      clear hcs
      generalize hcc : k0 + cntTo rLink l k = c at *
      have hcb : c + 1 ≤ 1000000001 := by omega
      have HC := Lib.hid hcc
      clear hcc
      have eehrd := rLink_rd hrd
      subst eehrd
      clear hrd hx
      have c0 : wr.cell? ⟨g, off + k * 2, none⟩ = some (.int .u8 ((((c : Nat) : Int)) % 256)) := by
        have e := u8_wrap (c)
        try simp only [Int.natCast_add, Int.natCast_one, Int.cast_ofNat_Int] at e
        rw [e]
        exact hc 0 _ rfl
      have c1 : wr.cell? ⟨g, off + k * 2 + 1, none⟩ = some (.int .u8 ((((c : Nat) : Int) + 1) % 256)) := by
        have e := u8_wrap (c + 1)
        try simp only [Int.natCast_add, Int.natCast_one, Int.cast_ofNat_Int] at e
        rw [e]
        exact hc 1 _ rfl
      have HBB := Lib.hid HBE.out
      clear hc
      go_wp2
      go_roundw
      case rel =>
        refine ⟨k + 1, by omega, by go_num, ?_, HBB.out⟩
        have e1 := HCS.out
        have e2 := HC.out
        congr 1
        omega
      case measure => simp [intOf]; omega
    · obtain rfl : k = n := by omega
      have HCN := Lib.hid HEND.out
      go_wp2
      go_ret
      exact ⟨ret_i64 (by rw [HCN.out]), HBE.out⟩
end Go.Proofs.Ytlkhknoaifbajaa

/- The laws' heldCandidateS. -/
namespace Go.Proofs.Ytlkhknoaifbajaa
set_option maxRecDepth 100000
open Go.RowKit Go.Sort
set_option linter.unusedVariables false
set_option linter.unusedSimpArgs false

set_option maxHeartbeats 1000000 in
theorem heldCandidateS_any (v : Value) (l : List DCandidate) (z : Int) (k0 : Nat) (hz : z = (k0 : Int)) (F : Addr → Prop) (w : World) (hk : k0 + cntRow rCandidate l ≤ 1000000000) (h1k : 1 ≤ k0) (hv : RowRd rCandidate false w v (labRow rCandidate k0 l) F) :
    Calls Try.prog 51 #[v, .int .i64 z] w fun e w' => e = .returned (.int .i64 ((k0 + cntRow rCandidate l : Nat) : Int)) ∧ Below w.heap.size w w' := by
  subst hz
  have hmx := hv.max
  rw [labRow_len] at hmx
  obtain ⟨A, cap, rfl⟩ := hv.form
  rw [labRow_len]
  rw [labRow_len] at hv
  have HV := Lib.hid hv
  clear hv
  have HX : Hid (∀ k, k < l.length → ∃ x, l[k]? = some x) := fun k hk => ⟨_, List.getElem?_eq_getElem hk⟩
  have HEND : Hid (cntTo rCandidate l l.length = cntRow rCandidate l) := cntTo_all _ _
  have HLE := Lib.hid (cntTo_le rCandidate l)
  have H00 : Hid (cntTo rCandidate l 0 = 0) := rfl
  generalize hll : l.length = n at *
  clear hll
  generalize cntRow rCandidate l = cr at *
  go_enter Try.func51, Try.ntmps51
  go_wp2
  go_loopw [1, 5] (fun q i wr => ∃ (k : Nat), k ≤ n ∧ i = .int .i64 k ∧ q = .int .i64 ((k0 + cntTo rCandidate l k : Nat) : Int) ∧ Below w.heap.size w wr) (fun _ i _ => n - (intOf i).toNat)
  case atStart => exact ⟨0, by omega, rfl, by rw [H00.out]; rfl, Below.refl _ _⟩
  case round =>
    obtain ⟨k, hk, rfl, rfl, hbe⟩ := hrel
    have HBE := Lib.hid hbe
    clear hbe
    by_cases hkl : k < n
    · obtain ⟨x, hx⟩ := HX.out k hkl
      have hcs := cntTo_step rCandidate l k hx
      have hle := HLE.out (k + 1)
      obtain ⟨g, off, xs, Fk, rfl, _, hrd, _, hc⟩ := (HV.out.kept HBE.out).get (labRow_at rCandidate k0 l k hx)
      simp only [show rCandidate.size = 1 from rfl, Nat.mul_one] at hc
      rw [rCandidate_cnt] at hcs
      have HCS := Lib.hid hcs
      have hcb0 : k0 + cntTo rCandidate l k + (cntRow rLink x.Links) ≤ 1000000000 := by omega
      clear hcs
      generalize hcc : k0 + cntTo rCandidate l k = c at *
      have hc1 : 1 ≤ c := by omega
      have hcb : c + 1 ≤ 1000000001 := by omega
      have HC := Lib.hid hcc
      clear hcc
      obtain ⟨v0, rfl, q0⟩ := rCandidate_rd hrd
      clear hrd hx
      have c0 : wr.cell? ⟨g, off + k, none⟩ = some v0 := hc 0 _ rfl
      obtain ⟨c0', hc0⟩ : ∃ q, c + 0 + cntRow rLink x.Links = q := ⟨_, rfl⟩
      have HM0 := Lib.hid (heldLinkS_any v0 x.Links (((c : Nat) : Int)) (c + 0) (by omega) Fk wr (by omega) (by omega) q0)
      rw [hc0] at HM0
      have hnn0 : ¬ ((c0' : Nat) : Int) < 0 := by omega
      have HHC := Lib.hid hc
      clear hc q0
      go_wp2_with fail
      refine HM0.out.mono ?_
      rintro e w0 ⟨rfl, hb0⟩
      have hc := HHC.out
      have HBB := Lib.hid (HBE.out.trans (hb0.mono HBE.out.size))
      clear hc hb0
      go_wp2
      go_roundw
      case rel =>
        subst hc0
        refine ⟨k + 1, by omega, by go_num, ?_, HBB.out⟩
        have e1 := HCS.out
        have e2 := HC.out
        congr 1
        omega
      case measure => simp [intOf]; omega
    · obtain rfl : k = n := by omega
      have HCN := Lib.hid HEND.out
      go_wp2
      go_ret
      exact ⟨ret_i64 (by rw [HCN.out]), HBE.out⟩
end Go.Proofs.Ytlkhknoaifbajaa
