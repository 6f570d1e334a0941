/- The model's drawing of footings. Of what there was before the call only the cursor's own block turns. -/
import Derived.Test.YtifmcbhgoncgjaaDoorDm
import Derived.Test.YtifmcbhgoncgjaaDoorSf7
import Derived.Deep.RegionLaw
import Derived.Lib.BufferMore
namespace Go.Proofs.YtifmcbhgoncgjaaDoor
open Go.RowKit M
set_option linter.unusedVariables false
set_option linter.unusedSimpArgs false

/-- A footing, the cursor behind it. -/
def FtPost (w : World) (g : Nat) (A : Option Addr) (len cap : Nat) (e : Ending) (w' : World) : Prop :=
  ∃ (f : DFooting) (u : Value), e = .returned (.agg #[.int .i64 f.Syllables, u, .int .i64 f.Main]) ∧ RowRd rFoot true w' u f.Feet (fun a => w.heap.size ≤ a.block) ∧ f.Feet.length ≤ 4 ∧ I64 f.Syllables ∧ I64 f.Main ∧ CurOk w' g A len cap ∧ w.grownBy w' (some g)
theorem footAll_pos {n : Int} (h : 1 ≤ n ∧ n ≤ 4) : 1 ≤ (footAll n).length := by
  obtain ⟨N, rfl⟩ := Int.eq_ofNat_of_zero_le (show 0 ≤ n by omega)
  rcases (show N = 1 ∨ N = 2 ∨ N = 3 ∨ N = 4 by omega) with rfl | rfl | rfl | rfl <;> decide
theorem footAll_I64 {n : Int} {f : DFooting} (hn : n ≤ 4) (h : f ∈ footAll n) : 1 ≤ f.Feet.length := by
  unfold footAll at h
  split at h
  · unfold footL at h
    obtain ⟨r, hr, hf⟩ := List.mem_flatMap.1 h
    unfold footR at hf
    obtain ⟨m, hm, rfl⟩ := List.mem_map.1 hf
    rw [List.mem_range] at hm
    simp only
    omega
  · simp at h
theorem CurOk.set {w : World} {g : Nat} {A : Option Addr} {len cap : Nat} (h : CurOk w g A len cap) (p : Addr) (hp : p.block ≠ g) (hA : ∀ k, k < len → ∀ (b off : Nat), A = some ⟨b, off, none⟩ → b ≠ p.block) (v : Value) : CurOk (w.setCell p v) g A len cap := by
  obtain ⟨hl, ⟨i, q, hc⟩, hcode⟩ := h
  refine ⟨hl, ⟨i, q, (Below.heap_setCell w p v g (fun e => hp e.symm)).trans hc⟩, fun k hk => ?_⟩
  obtain ⟨b, off, z, hb, hbg, hbs, h0, h1, hcell⟩ := hcode k hk
  refine ⟨b, off, z, hb, hbg, by simpa [World.setCell] using hbs, h0, h1, ?_⟩
  rw [World.cell?_of_block (w := w) (Below.heap_setCell w p v b (hA k hk b off hb))]
  exact hcell
theorem CurOk.far_code {w : World} {g : Nat} {A : Option Addr} {len cap : Nat} (h : CurOk w g A len cap) : ∀ k, k < len → ∀ (b off : Nat), A = some ⟨b, off, none⟩ → b < w.heap.size := fun k hk b off hb => by
  obtain ⟨b', off', z, hb', _, hbs, _⟩ := h.2.2 k hk
  rw [hb] at hb'
  cases hb'
  exact hbs
theorem RowRd.setOther {α : Type} {E : Rep α} {s : Bool} {w : World} {v : Value} {l : List α} {F : Addr → Prop} (h : RowRd E s w v l F) (p : Addr) (hF : ∀ a, F a → a.block ≠ p.block) (u : Value) : RowRd E s (w.setCell p u) v l F :=
  h.frame fun a ha => ⟨World.cell?_of_block (w := w) (Below.heap_setCell w p u a.block (hF a ha)), World.frozen?_of_block (w := w) (Below.heap_setCell w p u a.block (hF a ha))⟩
theorem InC.put {w : World} {B : Nat} {cs : Array Value} {t : TypeId} (h : InC w B cs t) (j : Nat) (u : Value) : InC (w.setCell ⟨B, j, none⟩ u) B (cs.setIfInBounds j u) t := Go.Lib.heap_setCell_same h u
theorem grown_setC {w W : World} {g : Nat} (h : w.grownBy W (some g)) (p : Addr) (hp : w.heap.size ≤ p.block) (u : Value) : w.grownBy (W.setCell p u) (some g) := grown_below h ((Below.refl w.heap.size W).setCell hp u)
/-- Three cells of the call's own block are written. -/
def set3 (w : World) (B : Nat) (a b c : Value) : World := ((w.setCell ⟨B, 0, none⟩ a).setCell ⟨B, 1, none⟩ b).setCell ⟨B, 2, none⟩ c
theorem InC.set3 {w : World} {B : Nat} {x y z : Value} {t : TypeId} (h : InC w B #[x, y, z] t) (a b c : Value) : InC (set3 w B a b c) B #[a, b, c] t := ((h.put 0 a).put 1 b).put 2 c
theorem ft_fin {w W : World} {g : Nat} {A : Option Addr} {len cap : Nat} {u : Value} {f : DFooting} {F : Addr → Prop} {B : Nat} (hB : w.heap.size ≤ B) (hgl : g < w.heap.size) (hA : ∀ k, k < len → ∀ (b off : Nat), A = some ⟨b, off, none⟩ → b < w.heap.size)
    (hc : CurOk W g A len cap) (hg : w.grownBy W (some g)) (hq : RowRd rFoot true W u f.Feet F) (hF : ∀ a, F a → w.heap.size ≤ a.block ∧ a.block ≠ B) (hl : f.Feet.length ≤ 4) (i0 : I64 f.Syllables) (i2 : I64 f.Main) (a b c : Value) :
    FtPost w g A len cap (.returned (.agg #[.int .i64 f.Syllables, u, .int .i64 f.Main])) (set3 W B a b c) :=
  ⟨f, u, rfl, (((hq.setOther ⟨B, 0, none⟩ (fun a ha => (hF a ha).2) _).setOther ⟨B, 1, none⟩ (fun a ha => (hF a ha).2) _).setOther ⟨B, 2, none⟩ (fun a ha => (hF a ha).2) _).mono (fun a ha => (hF a ha).1), hl, i0, i2,
    ((hc.set ⟨B, 0, none⟩ (by simp; omega) (fun k hk b off hb => by have := hA k hk b off hb; simp; omega) _).set ⟨B, 1, none⟩ (by simp; omega) (fun k hk b off hb => by have := hA k hk b off hb; simp; omega) _).set ⟨B, 2, none⟩ (by simp; omega) (fun k hk b off hb => by have := hA k hk b off hb; simp; omega) _,
    grown_setC (grown_setC (grown_setC hg _ hB _) _ hB _) _ hB _⟩
/-- The draw's state behind its first choice: the result's box, the footing's box, its feet. -/
structure KSt (w : World) (g : Nat) (A : Option Addr) (len cap : Nat) (b4 : Nat) (cs : Array Value) (u : Value) (l : List DFoot) (F : Addr → Prop) (W : World) : Prop where
  cur : CurOk W g A len cap
  gr : w.grownBy W (some g)
  res : InC W w.heap.size #[.int .i64 0, .slice none 0 0, .int .i64 0] 31
  box : InC W b4 cs 31
  row : RowRd rFoot true W u l F
  lo : w.heap.size < b4 ∧ g < w.heap.size
  far : ∀ a, F a → w.heap.size < a.block ∧ a.block ≠ b4
  code : ∀ k, k < len → ∀ (b off : Nat), A = some ⟨b, off, none⟩ → b < w.heap.size
section
variable {w : World} {g : Nat} {A : Option Addr} {len cap b4 : Nat} {cs : Array Value} {u : Value} {l : List DFoot} {F : Addr → Prop} {W Wa W5 : World}
theorem KSt.step (h : KSt w g A len cap b4 cs u l F W) (hb : Below W.heap.size W Wa) (hg : Wa.grownBy W5 (some g)) (hc : CurOk W5 g A len cap) : KSt w g A len cap b4 cs u l F W5 :=
  ⟨hc, grown_trans (grown_below h.gr (hb.mono h.gr.size)) hg, (h.res.kept hb).grown hg (by have := h.lo; omega), (h.box.kept hb).grown hg (by have := h.lo; omega), (h.row.kept hb).grown hg (fun a ha => by have := h.far a ha; have := h.lo; omega), h.lo, h.far, h.code⟩
theorem KSt.put (h : KSt w g A len cap b4 cs u l F W) (j : Nat) (v : Value) : KSt w g A len cap b4 (cs.setIfInBounds j v) u l F (W.setCell ⟨b4, j, none⟩ v) :=
  ⟨h.cur.set ⟨b4, j, none⟩ (by have := h.lo; simp; omega) (fun k hk b off hb => by have := h.code k hk b off hb; have := h.lo; simp; omega) v, grown_setC h.gr ⟨b4, j, none⟩ (by have := h.lo; simp; omega) v,
    h.res.other (by have := h.lo; simp; omega) v, h.box.put j v, h.row.setOther ⟨b4, j, none⟩ (fun a ha => (h.far a ha).2) v, h.lo, h.far, h.code⟩
theorem KSt.fin (h : KSt w g A len cap b4 cs u l F W) {S M : Int} (hl : l.length ≤ 4) (i0 : I64 S) (i2 : I64 M) : InC (set3 W w.heap.size (.int .i64 S) u (.int .i64 M)) w.heap.size #[.int .i64 S, u, .int .i64 M] 31 ∧
    FtPost w g A len cap (.returned (.agg #[.int .i64 S, u, .int .i64 M])) (set3 W w.heap.size (.int .i64 S) u (.int .i64 M)) :=
  ⟨h.res.set3 _ _ _, ft_fin (B := w.heap.size) (f := ⟨S, l, M⟩) (Nat.le_refl _) h.lo.2 h.code h.cur h.gr h.row (fun a ha => by have := h.far a ha; omega) hl i0 i2 _ _ _⟩
theorem KSt.pick (h : KSt w g A len cap b4 cs u l F W) (zs : List Int) (h1 : 1 ≤ zs.length) (h2 : zs.length ≤ 1000) (hz : ∀ z ∈ zs, I64 z) {Wb : World} (hb : Below (W.heap.size + 1) (W.alloc (.cells (cellsN zs).toArray 3)) Wb) :
    Calls Tryd.prog 45 #[.pointer (some ⟨g, 0, none⟩), .slice (some ⟨W.heap.size, 0, none⟩) zs.length zs.length] Wb fun e w' => ∃ v : Int, I64 v ∧ e = .returned (.int .i64 v) ∧ KSt w g A len cap b4 cs u l F w' := by
  have hba : Below W.heap.size W (W.alloc (.cells (cellsN zs).toArray 3)) := (Below.refl _ _).alloc (Nat.le_refl _) _
  have hin : InC (W.alloc (.cells (cellsN zs).toArray 3)) W.heap.size (cellsN zs).toArray 3 := heap_alloc_new _ _
  have hlt := h.cur.lt
  have hbw : Below W.heap.size W Wb := hba.trans (hb.mono (by omega))
  refine (pick_ok Wb g A len cap W.heap.size zs.length (h.cur.below hbw) h1 h2 (Nums.of (hin.kept (by simpa using hb)) (by omega) hz)).mono ?_
  rintro e w' ⟨v, hv, rfl, hc, hg⟩
  exact ⟨v, hv, rfl, h.step hbw hg hc⟩
/-- The first foot's size is written. -/
theorem KSt.head {A1 : Option Addr} {cap1 : Nat} {gr off : Nat} (hA : A1 = some ⟨gr, off, none⟩) (h : KSt w g A len cap b4 cs (.slice A1 l.length cap1) l F W) {x : DFoot} (hx : l[0]? = some x) {v : Int} (hv : I64 v) :
    W.cell? ⟨gr, off + 1, none⟩ = some (.int .i64 x.Size) ∧ W.frozen? ⟨gr, off + 1, none⟩ = false ∧ KSt w g A len cap b4 cs (.slice A1 l.length cap1) (l.set 0 ⟨x.From, v, x.Head⟩) F (W.setCell ⟨gr, off + 1, none⟩ (.int .i64 v)) := by
  obtain ⟨g', off', xs, Fk, ha, hrd, hel, hFk, hc, hfin⟩ := h.row.open hx
  rw [hA] at ha
  cases ha
  obtain ⟨rfl, i0, i1, i2⟩ := rFoot_rd hrd
  simp only [Nat.zero_mul, Nat.add_zero, rFoot_size] at hel hc hfin
  have hF1 := (hc 1 (by omega)).1
  have hfar := h.far _ hF1
  have hset := hel.set 1 (by omega) (.int .i64 v)
  have hrow := hfin _ _ (⟨x.From, v, x.Head⟩ : DFoot) (fun _ => False) hset (rFoot_mk (x := ⟨x.From, v, x.Head⟩) i0 hv i2) (fun a ha => ha.elim)
  refine ⟨hel.cells 1 _ rfl, hel.free 1 (by omega), ⟨h.cur.set ⟨gr, off + 1, none⟩ (by have := h.lo; simp at hfar; simp; omega) (fun k hk b o hb => by have := h.code k hk b o hb; have := h.lo; simp at hfar; simp; omega) _,
    grown_setC h.gr ⟨gr, off + 1, none⟩ (by have := h.lo; simp at hfar; simp; omega) _, h.res.other (by simp at hfar; simp; omega) _, h.box.other (by simp at hfar; simp; omega) _, hrow.mono (fun a ha => ha.elim id (fun h => h.elim)), h.lo, h.far, h.code⟩⟩
end
theorem infoFt31 : (Tryd.prog.info? 31).map (·.size) = some 3 := by kernel_rfl
set_option maxHeartbeats 8000000 in
theorem l5Ft_ok (w : World) (g : Nat) (A : Option Addr) (len cap : Nat) (hc : CurOk w g A len cap) :
    Calls Tryd.prog 29 #[.pointer (some ⟨g, 0, none⟩)] w (FtPost w g A len cap) := by
  have hgl := hc.lt
  have HCA := Lib.hid hc.far_code
  have HC := Lib.hid (hc.alloc (.cells #[.int .i64 0, .slice none 0 0, .int .i64 0] 31))
  have HIN := Lib.hid (show InC (w.alloc (.cells #[.int .i64 0, .slice none 0 0, .int .i64 0] 31)) w.heap.size #[.int .i64 0, .slice none 0 0, .int .i64 0] 31 from heap_alloc_new _ _)
  have HG0 : Hid (w.grownBy (w.alloc (.cells #[.int .i64 0, .slice none 0 0, .int .i64 0] 31)) (some g)) := World.grownBy_alloc w _ _
  have hs0 : (w.alloc (.cells #[.int .i64 0, .slice none 0 0, .int .i64 0] 31)).heap.size = w.heap.size + 1 := by simp
  have HS0 := Lib.hid hs0
  clear hc hs0
  go_enter Tryd.func29, Tryd.ntmps29
  go_wp2_with fail
  refine (below_ok _ g A len cap 4 HC.out (by omega) (by omega)).mono ?_
  rintro e w1 ⟨x, ⟨x0, x1⟩, rfl, hc1, hg1⟩
  have HC1 := Lib.hid hc1
  have HG1 := Lib.hid (grown_trans HG0.out hg1)
  have HIN1 := Lib.hid (HIN.out.grown hg1 (by omega))
  have hw1 : IntKind.i64.wrap (1 + x) = 1 + x := IntWalk.i64_in _ (by omega)
  have hsz1 : w.heap.size + 1 ≤ w1.heap.size := by have := hg1.size; rw [HS0.out] at this; exact this
  clear hc1 hg1 HC HIN HG0 HS0
  have HP : Hid (1 ≤ (footAll (1 + x)).length) := footAll_pos (by omega)
  have HL : Hid ((footAll (1 + x)).length ≤ 176) := footAll_len _
  have HR4 : Hid (∀ f ∈ footAll (1 + x), 1 ≤ f.Feet.length ∧ f.Feet.length ≤ 4) := fun f hf => ⟨footAll_I64 (by omega) hf, footAll_row hf⟩
  have HFO : Hid (∀ W, Calls Tryd.prog 15 #[.int .i64 (1 + x)] W (OwnPost rFooting (footAll (1 + x)) W)) := fun W => specFOf_any (1 + x) W
  generalize footAll (1 + x) = R at *
  have HX : Hid (∀ k, k < R.length → ∃ r, R[k]? = some r) := fun k hk => ⟨_, List.getElem?_eq_getElem hk⟩
  go_wp2_with fail
  refine (HFO.out _).mono ?_
  rintro e w2 ⟨u2, rfl, hrow2, hb2⟩
  obtain ⟨A2, cap2, rfl⟩ := hrow2.form
  have HROW2 := Lib.hid hrow2.tight
  have HC2 := Lib.hid (HC1.out.below hb2)
  have HG2 := Lib.hid (grown_below HG1.out (hb2.mono (by omega)))
  have HIN2 := Lib.hid (HIN1.out.kept hb2)
  have hsz2 := hb2.size
  have hp := HP.out
  have hl := HL.out
  clear hrow2 hb2 HC1 HG1 HIN1 HFO
  go_wp2_with fail
  refine (below_ok _ g A len cap (R.length : Int) HC2.out (by omega) (by omega)).mono ?_
  rintro e w3 ⟨y, ⟨y0, y1⟩, rfl, hc3, hg3⟩
  obtain ⟨k, rfl⟩ := Int.eq_ofNat_of_zero_le y0
  obtain ⟨f, hf⟩ := HX.out k (by omega)
  obtain ⟨q1, q2⟩ := HR4.out f (List.mem_of_getElem? hf)
  have hrow3 : RowRd rFooting true w3 (.slice A2 R.length cap2) R (fun a => w1.heap.size ≤ a.block ∧ a.block < w2.heap.size) := HROW2.out.grown hg3 (fun a ha => by omega)
  obtain ⟨g2, off, xs, Fk, rfl, _, hrd, hFk, hcs⟩ := hrow3.get hf
  obtain ⟨v1, rfl, i0, hq, i2⟩ := rFooting_rd hrd
  obtain ⟨A1, cap1, rfl⟩ := hq.form
  have c0 := hcs 0 _ rfl
  have c1 := hcs 1 _ rfl
  have c2 := hcs 2 _ rfl
  rw [rFooting_size] at c0 c1 c2
  simp only [Nat.add_zero] at c0
  have HQ : Hid (RowRd rFoot true w3 (.slice A1 f.Feet.length cap1) f.Feet (fun a => w1.heap.size ≤ a.block ∧ a.block < w2.heap.size)) := hq.mono hFk
  have HC3 := Lib.hid hc3
  have HG3 := Lib.hid (grown_trans HG2.out hg3)
  have HIN3 := Lib.hid (HIN2.out.grown hg3 (by omega))
  have hsz3 := hg3.size
  have HI0 := Lib.hid i0
  have HI2 := Lib.hid i2
  have HXF : Hid (∃ x, f.Feet[0]? = some x) := ⟨_, List.getElem?_eq_getElem (by omega)⟩
  clear hrow3 hcs hq hFk hrd hc3 hg3 HC2 HG2 HIN2 HROW2 hf i0 i2
  generalize f.Syllables = fS at *
  generalize f.Main = fM at *
  generalize f.Feet = l at *
  have HCa := Lib.hid (HC3.out.alloc (.cells #[.int .i64 fS, .slice A1 l.length cap1, .int .i64 fM] 31))
  have HBa := Lib.hid (show InC (w3.alloc (.cells #[.int .i64 fS, .slice A1 l.length cap1, .int .i64 fM] 31)) w3.heap.size #[.int .i64 fS, .slice A1 l.length cap1, .int .i64 fM] 31 from heap_alloc_new _ _)
  have hba : Below w3.heap.size w3 (w3.alloc (.cells #[.int .i64 fS, .slice A1 l.length cap1, .int .i64 fM] 31)) := (Below.refl _ _).alloc (Nat.le_refl _) _
  have HBEL := Lib.hid hba
  have hsa : (w3.alloc (.cells #[.int .i64 fS, .slice A1 l.length cap1, .int .i64 fM] 31)).heap.size = w3.heap.size + 1 := by simp
  clear hba
  go_wp2_with fail
  refine (below_ok _ g A len cap 12 HCa.out (by omega) (by omega)).mono ?_
  rintro e w4 ⟨z, ⟨z0, z1⟩, rfl, hc4, hg4⟩
  have hsz4 : w3.heap.size + 1 ≤ w4.heap.size := by have := hg4.size; rw [hsa] at this; exact this
  have hlt3 : w.heap.size < w3.heap.size := by omega
  have HK : Hid (KSt w g A len cap w3.heap.size #[.int .i64 fS, .slice A1 l.length cap1, .int .i64 fM] (.slice A1 l.length cap1) l (fun a => w1.heap.size ≤ a.block ∧ a.block < w2.heap.size) w4) :=
    ⟨hc4, grown_trans (grown_below HG3.out (HBEL.out.mono (by omega))) hg4, (HIN3.out.kept HBEL.out).grown hg4 (by omega), HBa.out.grown hg4 (by omega), (HQ.out.kept HBEL.out).grown hg4 (fun a ha => by omega), ⟨hlt3, hgl⟩, fun a ha => by omega, HCA.out⟩
  clear hc4 hg4 HC3 HG3 HIN3 HCa HBa HBEL hsa HQ c0 c1 c2 HCA hlt3
  generalize hb4 : w3.heap.size = b4 at *
  have d0 := HK.out.box.cell 0 rfl
  have d1 := HK.out.box.cell 1 rfl
  have d2 := HK.out.box.cell 2 rfl
  have e0 := HK.out.res.cell 0 rfl
  have e1 := HK.out.res.cell 1 rfl
  have e2 := HK.out.res.cell 2 rfl
  have f0 := HK.out.res.free 0
  have f1 := HK.out.res.free 1
  have f2 := HK.out.res.free 2
  rcases (show z = 0 ∨ z = 1 ∨ z = 2 ∨ 3 ≤ z by omega) with rfl | rfl | rfl | hz
  · have HP := Lib.hid (HK.out.pick [-1, 4] (by simp) (by simp) (by unfold I64; simp) (Below.refl _ _))
    clear d0 d1 d2 e0 e1 e2 f0 f1 f2
    go_wp2_with fail
    refine HP.out.mono ?_
    rintro e w5 ⟨v, hv, rfl, hk5⟩
    have hk6 := hk5.put 2 (.int .i64 v)
    have d2 := hk5.box.cell 2 rfl
    have g2 := hk5.box.free 2
    have a0 := hk6.box.cell 0 rfl
    have a1 := hk6.box.cell 1 rfl
    have a2 := hk6.box.cell 2 rfl
    have e0 := hk6.res.cell 0 rfl
    have e1 := hk6.res.cell 1 rfl
    have e2 := hk6.res.cell 2 rfl
    have f0 := hk6.res.free 0
    have f1 := hk6.res.free 1
    have f2 := hk6.res.free 2
    have HFIN := Lib.hid (hk6.fin q2 HI0.out hv)
    clear hk5 hk6 hv
    go_wp2
    exact bodyPost_ret (results_cell_row rfl _ _ w.heap.size _ _ _ _ rfl HFIN.out.1 Tryd.underlying31 rfl infoFt31) rfl HFIN.out.2
  · have HP := Lib.hid (HK.out.pick [0, 6, 7] (by simp) (by simp) (by unfold I64; simp) (Below.refl _ _))
    have n0 : ¬ (1 : Int) = 0 := by omega
    clear d0 d1 d2 e0 e1 e2 f0 f1 f2
    go_wp2_with fail
    refine HP.out.mono ?_
    rintro e w5 ⟨v, hv, rfl, hk5⟩
    have hk6 := hk5.put 0 (.int .i64 v)
    have d2 := hk5.box.cell 0 rfl
    have g2 := hk5.box.free 0
    have a0 := hk6.box.cell 0 rfl
    have a1 := hk6.box.cell 1 rfl
    have a2 := hk6.box.cell 2 rfl
    have e0 := hk6.res.cell 0 rfl
    have e1 := hk6.res.cell 1 rfl
    have e2 := hk6.res.cell 2 rfl
    have f0 := hk6.res.free 0
    have f1 := hk6.res.free 1
    have f2 := hk6.res.free 2
    have HFIN := Lib.hid (hk6.fin q2 hv HI2.out)
    clear hk5 hk6 hv
    go_wp2
    exact bodyPost_ret (results_cell_row rfl _ _ w.heap.size _ _ _ _ rfl HFIN.out.1 Tryd.underlying31 rfl infoFt31) rfl HFIN.out.2
  · have HP : Hid (∀ Wb, Below (w4.heap.size + 1) (w4.alloc (.cells (cellsN [0, 3, 9223372036854775807]).toArray 3)) Wb → _) := fun Wb hb => HK.out.pick [0, 3, 9223372036854775807] (by simp) (by simp) (by unfold I64; simp) hb
    have n0 : ¬ (2 : Int) = 0 := by omega
    have n1 : ¬ (2 : Int) = 1 := by omega
    obtain ⟨x, hx⟩ := HXF.out
    obtain ⟨gr, ofr, _, _, rfl, _⟩ := HK.out.row.get hx
    have HD : Hid (∀ (W : World) (v : Int), I64 v → KSt w g A len cap b4 #[.int .i64 fS, .slice (some ⟨gr, ofr, none⟩) l.length cap1, .int .i64 fM] (.slice (some ⟨gr, ofr, none⟩) l.length cap1) l (fun a => w1.heap.size ≤ a.block ∧ a.block < w2.heap.size) W → _) := fun W v hv hk => hk.head rfl hx hv
    have hl0 : (0 : Int) < (l.length : Int) := by omega
    have hl1 : 0 < l.length := by omega
    have HLS : Hid ((l.set 0 ⟨x.From, 0, x.Head⟩).length = l.length) := by simp [Hid]
    have hq2 := q2
    have d1o : ∀ o, (w4.alloc o).cell? ⟨b4, 1, none⟩ = some (.slice (some ⟨gr, ofr, none⟩) l.length cap1) := fun o => (((Below.refl w4.heap.size w4).alloc (Nat.le_refl _) o).cell (block_lt_of_cell d1)).trans d1
    clear e0 e1 e2 f0 f1 f2 hx
    go_wp2_with fail
    go_region_law ((go_simp; go_at_call 45; refine (HP.out _ ?_).mono ?_; exact ⟨rfl, rfl, rfl, Nat.le_refl _, fun _ _ => rfl⟩; rintro e w5 ⟨v, hv, rfl, hk5⟩; have k1 := hk5.box.cell 1 rfl; obtain ⟨m1, m2, hk6⟩ := HD.out _ v hv hk5; have HK6 := Lib.hid hk6; clear hk5 hk6 hv))
    all_goals
      have a0 := HK6.out.box.cell 0 rfl
      have a1 := HK6.out.box.cell 1 rfl
      have a2 := HK6.out.box.cell 2 rfl
      have e0 := HK6.out.res.cell 0 rfl
      have e1 := HK6.out.res.cell 1 rfl
      have e2 := HK6.out.res.cell 2 rfl
      have f0 := HK6.out.res.free 0
      have f1 := HK6.out.res.free 1
      have f2 := HK6.out.res.free 2
      have HFIN := Lib.hid (HK6.out.fin (by simpa using hq2) HI0.out HI2.out)
      go_wp2
      exact bodyPost_ret (results_cell_row rfl _ _ w.heap.size _ _ _ _ rfl HFIN.out.1 Tryd.underlying31 rfl infoFt31) rfl HFIN.out.2
  · have n0 : ¬ z = 0 := by omega
    have n1 : ¬ z = 1 := by omega
    have n2 : ¬ z = 2 := by omega
    have HFIN := Lib.hid (HK.out.fin q2 HI0.out HI2.out)
    go_wp2
    exact bodyPost_ret (results_cell_row rfl _ _ w.heap.size _ _ _ _ rfl HFIN.out.1 Tryd.underlying31 rfl infoFt31) rfl HFIN.out.2
end Go.Proofs.YtifmcbhgoncgjaaDoor
