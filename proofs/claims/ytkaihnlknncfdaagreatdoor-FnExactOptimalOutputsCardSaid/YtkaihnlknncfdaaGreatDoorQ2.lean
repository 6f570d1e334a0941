/- Merged: Sl Lk0 Lk TrTableau U8 ToLink ToCandidate ToTableau Rk12. -/
import Derived.Test.YtkaihnlknncfdaaGreatDoorQ1
import Derived.Laws.IdiomStrings
import Derived.Lib.Slices
import Derived.BigQuiet
import Derived.Lib.QuietBelow
import Derived.Below
/- A slice of one sound; sums of short texts. -/
namespace Go.Proofs.YtkaihnlknncfdaaGreatDoor
set_option maxRecDepth 100000
open Go.RowKit M

/-- A slice of one sound. -/
theorem snd_slice (j : Nat) (h : j < 7) (w : World) : (Instr.slice 9 (.string ⟨#[112, 116, 98, 100, 110, 97, 105]⟩) (some (.int .i64 j)) (some (.int .i64 ((j : Int) + 1))) none).run Tryz.prog w = .ok (.string ⟨#[byt (sndAt j)]⟩) w := by
  rcases (show j = 0 ∨ j = 1 ∨ j = 2 ∨ j = 3 ∨ j = 4 ∨ j = 5 ∨ j = 6 by omega) with rfl | rfl | rfl | rfl | rfl | rfl | rfl <;> kernel_rfl
theorem snd_extract (j : Nat) (h : j < 7) : (⟨#[112, 116, 98, 100, 110, 97, 105]⟩ : ByteArray).extract j (j + 1) = ⟨#[byt (sndAt j)]⟩ := by
  rcases (show j = 0 ∨ j = 1 ∨ j = 2 ∨ j = 3 ∨ j = 4 ∨ j = 5 ∨ j = 6 by omega) with rfl | rfl | rfl | rfl | rfl | rfl | rfl <;> rfl
theorem cat_last (l : List UInt8) (a : UInt8) : (⟨l.toArray⟩ : ByteArray) ++ ⟨#[a]⟩ = ⟨(l ++ [a]).toArray⟩ := by
  apply ByteArray.ext
  simp
theorem str_add (t u : ByteArray) (h : t.size + u.size ≤ 100) (w : World) : (Op.stringOp .add t u).run Tryz.prog w = .ok (.string (t ++ u)) w := by
  rw [run_string_add_sum _ _ _ (by omega)]
end Go.Proofs.YtkaihnlknncfdaaGreatDoor

/- What is kept over calls. -/
namespace Go.Proofs.YtkaihnlknncfdaaGreatDoor
set_option maxRecDepth 100000
open Go.RowKit Go.Sort M

theorem cell_kept {w w' : World} (hb : Below w.heap.size w w') {p : Addr} {v : Value} (h : w.cell? p = some v) : w'.cell? p = some v := (hb.cell (block_lt_of_cell h)).trans h
theorem own_kept {w w' : World} {base : Nat} {e : TypeId} {size : Nat} {v : Value} {n : Nat} {xs : List Value} (hb : Below w.heap.size w w') (h : w.ownsRow base e size v n xs) : w'.ownsRow base e size v n xs := by
  obtain ⟨h1, h2⟩ := h
  refine ⟨h1, ?_⟩
  rcases h2 with h2 | ⟨g, cap, cur, hv, hg, hh, r⟩
  · exact Or.inl h2
  · exact Or.inr ⟨g, cap, cur, hv, hg, (hb.block g (Array.getElem?_eq_some_iff.1 hh).1).trans hh, r⟩
theorem below_drewN {B : Nat} {a w : World} (h : Below B a w) (q : Nat) : Below B a (w.drewN q) := ⟨h.os, h.tape, h.output, h.size, h.block⟩
end Go.Proofs.YtkaihnlknncfdaaGreatDoor

/- The laws' marks of texts: what markText answers; what is kept over calls. -/
namespace Go.Proofs.YtkaihnlknncfdaaGreatDoor
set_option maxRecDepth 100000
open Go.RowKit Go.Sort M

theorem byt_dig (c : Nat) : byt ((48 + c % 10 : Nat) : Int) = 48 + UInt8.ofNat (c % 10) := by
  unfold byt
  rw [Int.toNat_natCast]
  apply UInt8.toNat_inj.1
  simp [UInt8.toNat_add]
theorem cat_one9 (a : UInt8) (l : List UInt8) : (⟨#[a]⟩ : ByteArray) ++ ⟨l.toArray⟩ = ⟨(a :: l).toArray⟩ := by
  apply ByteArray.ext
  simp
/-- 'string([]byte{b})': the conversion of a new block of one byte. -/
theorem mark_conv (w : World) (u : Int) :
    (convert 112 9 (.slice (some ⟨w.heap.size, 0, none⟩) 1 1)).run Tryz.prog (w.alloc (.cells #[.int .u8 u] 5)) = .ok (.string ⟨#[UInt8.ofNat u.toNat]⟩) (w.alloc (.cells #[.int .u8 u] 5)) := by
  rw [run_convert_bytes_string _ 112 9 5 _ _ _ Tryz.underlying112 Tryz.underlying5 Tryz.underlying9]
  rw [run_bytesToString _ _ 1 1 [u]]
  · rfl
  · have := run_loadCells_list (P := Tryz.prog) (w.alloc (.cells #[.int .u8 u] 5)) ⟨w.heap.size, 0, none⟩ [.int .u8 u] (cell_one_new _ _ _)
    simpa using this
/-- The mark's text: m and the numeral. -/
def mkD : Nat → Nat → List UInt8 → List UInt8
  | 0, _, out => out
  | f + 1, c, out => if c = 0 then out else mkD f (c / 10) (byt ((48 + c % 10 : Nat) : Int) :: out)
theorem mkD_zero (f : Nat) (out : List UInt8) : mkD f 0 out = out := by cases f <;> simp [mkD]
theorem mkD_pos (f c : Nat) (out : List UInt8) (h : c ≠ 0) : mkD (f + 1) c out = mkD f (c / 10) (byt ((48 + c % 10 : Nat) : Int) :: out) := by simp [mkD, h]
def mkT (k : Nat) : ByteArray := ⟨(109 :: mkD 20 k []).toArray⟩
set_option maxHeartbeats 400000 in
theorem markText_any (k : Nat) (w : World) (h1 : 1 ≤ k) (h2 : k ≤ 1000000000) :
    Calls Tryz.prog 65 #[.int .i64 k] w fun e w' => e = .returned (.string (mkT k)) ∧ Below w.heap.size w w' := by
  have kc := mark_conv
  have hk0 : ¬ (k : Int) ≤ 0 := by omega
  go_enter Tryz.func65, Tryz.ntmps65
  go_wp2
  go_loopw [0, 3] (fun x o wr => ∃ (c f : Nat) (out : List UInt8), c ≤ 1000000000 ∧ x = .int .i64 c ∧ o = .string ⟨out.toArray⟩ ∧ Hid (mkD 20 k [] = mkD f c out) ∧ Hid (c < 10 ^ f) ∧ out.length + f ≤ 20 ∧ Below w.heap.size w wr) (fun x _ _ => (intOf x).toNat)
  case atStart => exact ⟨k, 20, [], h2, rfl, rfl, rfl, by unfold Hid; omega, by simp, Below.refl _ _⟩
  case round =>
    obtain ⟨c, f, out, hc, rfl, rfl, hd, hlt, hlen, hb⟩ := hrel
    by_cases hz : c = 0
    · subst hz
      have HE : Hid (mkT k = ⟨(109 :: out).toArray⟩) := by unfold Hid mkT; rw [hd.out, mkD_zero]
      have hadd : ∀ w : World, (Op.stringOp .add ⟨#[109]⟩ ⟨out.toArray⟩).run Tryz.prog w = .ok (.string ⟨(109 :: out).toArray⟩) w := by
        intro w; rw [run_string_add_sum _ _ _ (by show 1 + out.toArray.size ≤ _; rw [List.size_toArray]; omega), cat_one9]
      go_wp2
      go_ret
      exact ⟨ret_str HE.out.symm, hb⟩
    · obtain ⟨f, rfl⟩ : ∃ g, f = g + 1 := by
        rcases f with _ | f
        · have := hlt.out; omega
        · exact ⟨f, rfl⟩
      have hcp : (0 : Int) < (c : Int) := by omega
      have hd10 : ((c : Int)).tmod 10 = (c : Int) % 10 := Int.tmod_eq_emod_of_nonneg (by omega)
      have hq10 : ((c : Int)).tdiv 10 = (c : Int) / 10 := Int.tdiv_eq_ediv_of_nonneg (by omega)
      have hw8 : IntKind.u8.wrap (48 + (c : Int) % 10) = 48 + (c : Int) % 10 := IntWalk.u8_in _ (by omega)
      clear kc
      have kc := mark_conv
      go_wp2
      go_roundw
      case rel =>
        refine ⟨c / 10, f, byt ((48 + c % 10 : Nat) : Int) :: out, by omega, by go_num, ?_, ?_, ?_, by simp; omega, hb.alloc hb.size _⟩
        · rw [byt_dig, cat_one9]
        · unfold Hid; rw [hd.out, mkD_pos f c out hz]
        · have h9 := hlt.out
          rw [Nat.pow_succ] at h9
          unfold Hid
          omega
      case measure => simp [intOf]; omega
end Go.Proofs.YtkaihnlknncfdaaGreatDoor

/- The struct Tableau: its data in cells. -/
namespace Go.Proofs.YtkaihnlknncfdaaGreatDoor
set_option maxRecDepth 100000
open Go.RowKit M
set_option linter.unusedVariables false
set_option linter.unusedSimpArgs false

structure DTableau where
  Input : ByteArray
  Names : (List ByteArray)
  Rows : (List DCandidate)
  Marks : (List (List Int))
deriving DecidableEq
def rTableau : Rep DTableau := Rep.map (Rep.pair (Rep.str mkT) (Rep.pair (Rep.row (Rep.str mkT)) (Rep.pair (Rep.row rCandidate) (Rep.row (Rep.row Rep.int))))) (fun x => (x.Input, (x.Names, (x.Rows, x.Marks)))) (fun p => ⟨p.1, p.2.1, p.2.2.1, p.2.2.2⟩)
theorem rTableau_size : rTableau.size = 4 := rfl
def zTableau : DTableau := ⟨ByteArray.empty, [], [], []⟩
/-- A table's three rows. -/
structure TabRd (s : Bool) (w : World) (v1 v2 v3 : Value) (x : DTableau) (F1 F2 F3 : Addr → Prop) : Prop where
  inp : x.Input.size ≤ 9223372036854775807
  names : RowRd (Rep.str mkT) s w v1 x.Names F1
  rows : RowRd rCandidate s w v2 x.Rows F2
  marks : RowRd (Rep.row Rep.int) s w v3 x.Marks F3
  d12 : s = true → ∀ a, F1 a → ¬ F2 a
  d13 : s = true → ∀ a, F1 a → ¬ F3 a
  d23 : s = true → ∀ a, F2 a → ¬ F3 a
theorem TabRd.kept {s : Bool} {w w' : World} {v1 v2 v3 : Value} {x : DTableau} {F1 F2 F3 : Addr → Prop} (h : TabRd s w v1 v2 v3 x F1 F2 F3) (hb : Below w.heap.size w w') : TabRd s w' v1 v2 v3 x F1 F2 F3 :=
  ⟨h.inp, h.names.kept hb, h.rows.kept hb, h.marks.kept hb, h.d12, h.d13, h.d23⟩
theorem TabRd.weak {s : Bool} {w : World} {v1 v2 v3 : Value} {x : DTableau} {F1 F2 F3 : Addr → Prop} (h : TabRd s w v1 v2 v3 x F1 F2 F3) : TabRd false w v1 v2 v3 x F1 F2 F3 :=
  ⟨h.inp, h.names.weak, h.rows.weak, h.marks.weak, (fun h => by cases h), (fun h => by cases h), (fun h => by cases h)⟩
theorem TabRd.frame {s : Bool} {w w' : World} {v1 v2 v3 : Value} {x : DTableau} {F1 F2 F3 : Addr → Prop} (h : TabRd s w v1 v2 v3 x F1 F2 F3) (hw : ∀ a, F1 a ∨ F2 a ∨ F3 a → w'.cell? a = w.cell? a ∧ w'.frozen? a = w.frozen? a) : TabRd s w' v1 v2 v3 x F1 F2 F3 :=
  ⟨h.inp, h.names.frame fun a ha => hw a (.inl ha), h.rows.frame fun a ha => hw a (.inr (.inl ha)), h.marks.frame fun a ha => hw a (.inr (.inr ha)), h.d12, h.d13, h.d23⟩
theorem TabRd.apart {s : Bool} {w w' : World} {v1 v2 v3 : Value} {x : DTableau} {F F1 F2 F3 : Addr → Prop} (h : TabRd s w v1 v2 v3 x F1 F2 F3) (hu : Unch F w w') (hd : ∀ a, F1 a ∨ F2 a ∨ F3 a → ¬ F a) : TabRd s w' v1 v2 v3 x F1 F2 F3 :=
  ⟨h.inp, h.names.apart hu fun a ha => hd a (.inl ha), h.rows.apart hu fun a ha => hd a (.inr (.inl ha)), h.marks.apart hu fun a ha => hd a (.inr (.inr ha)), h.d12, h.d13, h.d23⟩
theorem TabRd.tight {s : Bool} {w : World} {v1 v2 v3 : Value} {x : DTableau} {F1 F2 F3 : Addr → Prop} (h : TabRd s w v1 v2 v3 x F1 F2 F3) : TabRd s w v1 v2 v3 x (fun a => F1 a ∧ a.block < w.heap.size) (fun a => F2 a ∧ a.block < w.heap.size) (fun a => F3 a ∧ a.block < w.heap.size) :=
  ⟨h.inp, h.names.tight, h.rows.tight, h.marks.tight, fun hs a h1 h2 => h.d12 hs a h1.1 h2.1, fun hs a h1 h2 => h.d13 hs a h1.1 h2.1, fun hs a h1 h2 => h.d23 hs a h1.1 h2.1⟩
theorem rTableau_rd {s : Bool} {w : World} {vs : List Value} {x : DTableau} {F : Addr → Prop} (h : rTableau.rd s w vs x F) :
    ∃ v1 v2 v3 F1 F2 F3, vs = [.string x.Input, v1, v2, v3] ∧ TabRd s w v1 v2 v3 x F1 F2 F3 ∧ (∀ a, F1 a ∨ F2 a ∨ F3 a → F a) := by
  obtain ⟨a0, b0, F0, G0, rfl, h0, ⟨a1, b1, F1, G1, rfl, h1, ⟨a2, b2, F2, G2, rfl, h2, h3, k2, l2, d2⟩, k1, l1, d1⟩, k0, l0, d0⟩ := h
  obtain ⟨rfl, i0⟩ := h0
  obtain ⟨v1, rfl, q1⟩ := h1
  obtain ⟨v2, rfl, q2⟩ := h2
  obtain ⟨v3, rfl, q3⟩ := h3
  exact ⟨v1, v2, v3, F1, F2, G2, rfl, ⟨i0, q1, q2, q3, fun hs a h1 h2 => d1 hs a h1 (k2 a h2), fun hs a h1 h2 => d1 hs a h1 (l2 a h2), d2⟩, fun a ha => l0 a (ha.elim (k1 a) fun h => l1 a (h.elim (k2 a) (l2 a)))⟩
theorem rTableau_mk {s : Bool} {w : World} {x : DTableau} {v1 v2 v3 : Value} {F F1 F2 F3 : Addr → Prop} (h : TabRd s w v1 v2 v3 x F1 F2 F3) (hF : ∀ a, F1 a ∨ F2 a ∨ F3 a → F a) : rTableau.rd s w [.string x.Input, v1, v2, v3] x F :=
  ⟨[.string x.Input], [v1, v2, v3], fun _ => False, fun a => F1 a ∨ F2 a ∨ F3 a, rfl, ⟨rfl, h.inp⟩,
    ⟨[v1], [v2, v3], F1, fun a => F2 a ∨ F3 a, rfl, ⟨v1, rfl, h.names⟩,
      ⟨[v2], [v3], F2, F3, rfl, ⟨v2, rfl, h.rows⟩, ⟨v3, rfl, h.marks⟩, fun _ h => .inl h, fun _ h => .inr h, h.d23⟩,
      fun _ h => .inl h, fun _ h => .inr h, fun hs a h1 h2 => h2.elim (h.d12 hs a h1) (h.d13 hs a h1)⟩,
    fun _ h => h.elim, hF, fun _ _ h _ => h.elim⟩
theorem rTableau_sz (x : DTableau) : rTableau.sz x = x.Input.size + (szRow (Rep.str mkT) x.Names + (szRow rCandidate x.Rows + szRow (Rep.row Rep.int) x.Marks)) := rfl
/-- A table's marks, beginning at k. -/
def cntTab (x : DTableau) : Nat := cntRow (Rep.str mkT) x.Names + cntRow rCandidate x.Rows + cntRow (Rep.row Rep.int) x.Marks
def labTab (k : Nat) (x : DTableau) : DTableau := ⟨x.Input, labRow (Rep.str mkT) k x.Names, labRow rCandidate (k + cntRow (Rep.str mkT) x.Names) x.Rows, labRow (Rep.row Rep.int) (k + cntRow (Rep.str mkT) x.Names + cntRow rCandidate x.Rows) x.Marks⟩
end Go.Proofs.YtkaihnlknncfdaaGreatDoor

/- Bytes: marks in them; arguments of them. -/
namespace Go.Proofs.YtkaihnlknncfdaaGreatDoor
set_option maxRecDepth 100000
open Go.ChangeShapes Go.WideShapes Go.RowKit Go.Deep Go.ChangeAt
set_option linter.unusedVariables false
set_option linter.unusedSimpArgs false

theorem u8_wrap (k : Nat) : (k : Int) % 256 = ((UInt8.ofNat k).toNat : Int) := by
  rw [UInt8.toNat_ofNat']
  omega
section
variable {H : Type} {enc : TypeId × Value → H} {W : World} {base : Nat} {spare : Nat → Bool} {held : Bool}
theorem opens_byte : Opens enc W base spare held Rep.byte 5 := fun fuel cs y h => by
  obtain ⟨n, rfl, _, hw⟩ := DataW.trod_int Tryz.underlying5 h
  have hb : 0 ≤ n ∧ n ≤ 255 := bounds_u8 hw
  refine ⟨[.int .u8 n], UInt8.ofNat n.toNat, fun _ => False, fun j u h => h, ?_⟩
  show [Value.int .u8 n] = [.int .u8 ((UInt8.ofNat n.toNat).toNat : Int)]
  rw [UInt8.toNat_ofNat']
  congr 2
  omega
end
end Go.Proofs.YtkaihnlknncfdaaGreatDoor

/- Arguments of the struct Link. -/
namespace Go.Proofs.YtkaihnlknncfdaaGreatDoor
set_option maxRecDepth 100000
open Go.ChangeShapes Go.WideShapes Go.RowKit Go.Deep
set_option linter.unusedVariables false
set_option linter.unusedSimpArgs false

section
variable {H : Type} {enc : TypeId × Value → H} {W : World} {base : Nat} {spare : Nat → Bool} {held : Bool}
theorem opens_Link : Opens enc W base spare held rLink 124 := fun fuel cs y h => by
  obtain ⟨xs, n, _, _, _, hl, hf⟩ := DataW.trod_struct Tryz.underlying124 h
  have hl3 : xs.length = 2 := hl
  have get : ∀ i, i < 2 → ∃ z, xs[i]? = some z := fun i hi => ⟨_, List.getElem?_eq_getElem (by omega)⟩
  obtain ⟨z0, e0⟩ := get 0 (by omega)
  obtain ⟨y0, x0, F0, p0, r0⟩ := opens_byte _ _ _ ((hf 0 _ rfl).trans e0)
  have ee0 : y0 = [.int .u8 (x0.toNat : Int)] := r0
  subst ee0
  have c0 : cs[0]? = some (.int .u8 (x0.toNat : Int)) := at_part (k := 0) (n := 1) (j := 0) (p0 0 _ rfl)
  obtain ⟨z1, e1⟩ := get 1 (by omega)
  obtain ⟨y1, x1, F1, p1, r1⟩ := opens_byte _ _ _ ((hf 1 _ rfl).trans e1)
  have ee1 : y1 = [.int .u8 (x1.toNat : Int)] := r1
  subst ee1
  have c1 : cs[1]? = some (.int .u8 (x1.toNat : Int)) := at_part (k := 1) (n := 1) (j := 0) (p1 0 _ rfl)
  refine ⟨[.int .u8 (x0.toNat : Int), .int .u8 (x1.toNat : Int)], ⟨x0, x1⟩, fun _ => True, ?_, rLink_mk (x := ⟨x0, x1⟩) ⟩
  intro j u hj
  match j, hj with
  | 0, hj => simp at hj; subst hj; exact c0
  | 1, hj => simp at hj; subst hj; exact c1
theorem arg_Link {v : Value} {d : DataW H} {p : List MemPlace} {b0 : Nat} (hval : Value.okWide Tryz.prog W .any b0 124 v) (h : DataW.Trod enc Tryz.prog W 0 (fun _ => true) held 124 v d p) :
    ∃ (x : DLink) (F : Addr → Prop), v = .agg #[.int .u8 (x.In.toNat : Int), .int .u8 (x.Out.toNat : Int)] := by
  obtain ⟨cs, rfl, hsz⟩ := okWide_struct Tryz.underlying124 hval
  have hC : Tryz.prog.cellsOf 124 = 2 := by kernel_rfl
  rw [hC] at hsz
  obtain ⟨fuel, hf⟩ := h
  obtain ⟨ys, x, F, hy, hr⟩ := opens_Link _ _ _ hf
  have ee := rLink_rd hr
  subst ee
  obtain rfl := agg_of (cs := cs) hy (by rw [hsz]; rfl)
  exact ⟨x, F, rfl⟩
end
end Go.Proofs.YtkaihnlknncfdaaGreatDoor

/- Arguments of the struct Candidate. -/
namespace Go.Proofs.YtkaihnlknncfdaaGreatDoor
set_option maxRecDepth 100000
open Go.ChangeShapes Go.WideShapes Go.RowKit Go.Deep
set_option linter.unusedVariables false
set_option linter.unusedSimpArgs false

section
variable {H : Type} {enc : TypeId × Value → H} {W : World} {base : Nat} {spare : Nat → Bool} {held : Bool}
theorem opens_Candidate : Opens enc W base spare held rCandidate 49 := fun fuel cs y h => by
  obtain ⟨xs, n, _, _, _, hl, hf⟩ := DataW.trod_struct Tryz.underlying49 h
  have hl3 : xs.length = 1 := hl
  have get : ∀ i, i < 1 → ∃ z, xs[i]? = some z := fun i hi => ⟨_, List.getElem?_eq_getElem (by omega)⟩
  obtain ⟨z0, e0⟩ := get 0 (by omega)
  obtain ⟨y0, x0, F0, p0, r0⟩ := (opens_row opens_Link Tryz.underlying47 (by kernel_rfl) (by decide)) _ _ _ ((hf 0 _ rfl).trans e0)
  obtain ⟨v0, rfl, q0⟩ := r0
  have c0 : cs[0]? = some (v0) := at_part (k := 0) (n := 1) (j := 0) (p0 0 _ rfl)
  refine ⟨[v0], ⟨x0⟩, fun _ => True, ?_, rCandidate_mk (x := ⟨x0⟩) (q0.mono (fun _ _ => trivial))⟩
  intro j u hj
  match j, hj with
  | 0, hj => simp at hj; subst hj; exact c0
theorem arg_Candidate {v : Value} {d : DataW H} {p : List MemPlace} {b0 : Nat} (hval : Value.okWide Tryz.prog W .any b0 49 v) (h : DataW.Trod enc Tryz.prog W 0 (fun _ => true) held 49 v d p) :
    ∃ (x : DCandidate) (F : Addr → Prop) (v0 : Value), v = .agg #[v0] ∧ RowRd rLink false W v0 x.Links F := by
  obtain ⟨cs, rfl, hsz⟩ := okWide_struct Tryz.underlying49 hval
  have hC : Tryz.prog.cellsOf 49 = 1 := by kernel_rfl
  rw [hC] at hsz
  obtain ⟨fuel, hf⟩ := h
  obtain ⟨ys, x, F, hy, hr⟩ := opens_Candidate _ _ _ hf
  obtain ⟨v0, rfl, q0⟩ := rCandidate_rd hr
  obtain rfl := agg_of (cs := cs) hy (by rw [hsz]; rfl)
  exact ⟨x, F, v0, rfl, q0⟩
end
end Go.Proofs.YtkaihnlknncfdaaGreatDoor

/- Arguments of the struct Tableau. -/
namespace Go.Proofs.YtkaihnlknncfdaaGreatDoor
set_option maxRecDepth 100000
open Go.ChangeShapes Go.WideShapes Go.RowKit Go.Deep M
set_option linter.unusedVariables false
set_option linter.unusedSimpArgs false

section
variable {H : Type} {enc : TypeId × Value → H} {W : World} {base : Nat} {spare : Nat → Bool} {held : Bool}
theorem opens_Tableau : Opens enc W base spare held rTableau 26 := fun fuel cs y h => by
  obtain ⟨xs, n, _, _, _, hl, hf⟩ := DataW.trod_struct Tryz.underlying26 h
  have hl3 : xs.length = 4 := hl
  have get : ∀ i, i < 4 → ∃ z, xs[i]? = some z := fun i hi => ⟨_, List.getElem?_eq_getElem (by omega)⟩
  obtain ⟨z0, e0⟩ := get 0 (by omega)
  obtain ⟨y0, x0, F0, p0, r0⟩ := opens_str mkT _ _ _ ((hf 0 _ rfl).trans e0)
  obtain ⟨rfl, i0⟩ := r0
  have c0 : cs[0]? = some (.string x0) := at_part (k := 0) (n := 1) (j := 0) (p0 0 _ rfl)
  obtain ⟨z1, e1⟩ := get 1 (by omega)
  obtain ⟨y1, x1, F1, p1, r1⟩ := (opens_row (opens_str mkT) Tryz.underlying22 (by kernel_rfl) Nat.one_pos) _ _ _ ((hf 1 _ rfl).trans e1)
  obtain ⟨v1, rfl, q1⟩ := r1
  have c1 : cs[1]? = some v1 := at_part (k := 1) (n := 1) (j := 0) (p1 0 _ rfl)
  obtain ⟨z2, e2⟩ := get 2 (by omega)
  obtain ⟨y2, x2, F2, p2, r2⟩ := (opens_row opens_Candidate Tryz.underlying23 (by kernel_rfl) (by decide)) _ _ _ ((hf 2 _ rfl).trans e2)
  obtain ⟨v2, rfl, q2⟩ := r2
  have c2 : cs[2]? = some v2 := at_part (k := 2) (n := 1) (j := 0) (p2 0 _ rfl)
  obtain ⟨z3, e3⟩ := get 3 (by omega)
  obtain ⟨y3, x3, F3, p3, r3⟩ := (opens_row (opens_row opens_int Tryz.underlying27 (by kernel_rfl) (by decide)) Tryz.underlying24 (by kernel_rfl) (by decide)) _ _ _ ((hf 3 _ rfl).trans e3)
  obtain ⟨v3, rfl, q3⟩ := r3
  have c3 : cs[3]? = some v3 := at_part (k := 3) (n := 1) (j := 0) (p3 0 _ rfl)
  refine ⟨[.string x0, v1, v2, v3], ⟨x0, x1, x2, x3⟩, fun _ => True, ?_, rTableau_mk (x := ⟨x0, x1, x2, x3⟩) (F1 := F1) (F2 := F2) (F3 := F3) ⟨i0, q1, q2, q3, (fun h => by cases h), (fun h => by cases h), (fun h => by cases h)⟩ (fun _ _ => trivial)⟩
  intro j u hj
  match j, hj with
  | 0, hj => simp at hj; subst hj; exact c0
  | 1, hj => simp at hj; subst hj; exact c1
  | 2, hj => simp at hj; subst hj; exact c2
  | 3, hj => simp at hj; subst hj; exact c3
theorem arg_Tableau {v : Value} {d : DataW H} {p : List MemPlace} {b0 : Nat} (hval : Value.okWide Tryz.prog W .any b0 26 v) (h : DataW.Trod enc Tryz.prog W 0 (fun _ => true) held 26 v d p) :
    ∃ (x : DTableau) (F1 F2 F3 : Addr → Prop) (v1 v2 v3 : Value), v = .agg #[.string x.Input, v1, v2, v3] ∧ TabRd false W v1 v2 v3 x F1 F2 F3 := by
  obtain ⟨cs, rfl, hsz⟩ := okWide_struct Tryz.underlying26 hval
  have hC : Tryz.prog.cellsOf 26 = 4 := by kernel_rfl
  rw [hC] at hsz
  obtain ⟨fuel, hf⟩ := h
  obtain ⟨ys, x, F, hy, hr⟩ := opens_Tableau _ _ _ hf
  obtain ⟨v1, v2, v3, F1, F2, F3, rfl, hT, _⟩ := rTableau_rd hr
  obtain rfl := agg_of (cs := cs) hy (by rw [hsz]; rfl)
  exact ⟨x, F1, F2, F3, v1, v2, v3, rfl, hT⟩
end
end Go.Proofs.YtkaihnlknncfdaaGreatDoor

/- Rankings: mathematics. -/
namespace Go.Proofs.YtkaihnlknncfdaaGreatDoor
set_option maxRecDepth 100000
set_option linter.unusedVariables false
set_option linter.unusedSimpArgs false

/-- All numbers below n lie in the list. -/
def covB (l : List Int) (n : Nat) : Bool := (List.range n).all fun k => decide ((k : Int) ∈ l)
theorem covB_iff {l : List Int} {n : Nat} : covB l n = true ↔ ∀ k : Nat, k < n → (k : Int) ∈ l := by simp [covB]
/-- A ranking of n constraints. -/
def rkB (l : List Int) (n : Int) : Bool := decide (1 ≤ n) && (decide (n ≤ 5) && (decide ((l.length : Int) = n) && covB l l.length))
theorem rkB_iff {l : List Int} {n : Int} : rkB l n = true ↔ 1 ≤ n ∧ n ≤ 5 ∧ (l.length : Int) = n ∧ ∀ k : Nat, k < l.length → (k : Int) ∈ l := by
  unfold rkB
  simp only [Bool.and_eq_true, decide_eq_true_eq, covB_iff]
theorem cover : ∀ (n : Nat) (l : List Int), (∀ k : Nat, k < n → (k : Int) ∈ l) → n ≤ l.length ∧ (l.length = n → (∀ x ∈ l, 0 ≤ x ∧ x < (n : Int)) ∧ l.Nodup)
  | 0, l, _ => ⟨Nat.zero_le _, fun h => by have := List.eq_nil_of_length_eq_zero h; subst this; exact ⟨fun x hx => by simp at hx, List.nodup_nil⟩⟩
  | n + 1, l, h => by
    have hn : (n : Int) ∈ l := h n (Nat.lt_succ_self n)
    have hp := List.perm_cons_erase hn
    have hl := hp.length_eq
    rw [List.length_cons] at hl
    obtain ⟨h1, h2⟩ := cover n (l.erase (n : Int)) fun k hk => (List.mem_erase_of_ne (by omega)).2 (h k (by omega))
    refine ⟨by omega, fun hlen => ?_⟩
    obtain ⟨h3, h4⟩ := h2 (by omega)
    have hx : (n : Int) ∉ l.erase (n : Int) := fun hm => by have := h3 _ hm; omega
    refine ⟨fun x hx' => ?_, hp.symm.nodup (List.nodup_cons.2 ⟨hx, h4⟩)⟩
    rcases List.mem_cons.1 (hp.mem_iff.1 hx') with rfl | hm
    · omega
    · have := h3 x hm; omega
theorem nodup_le : ∀ (l S : List Int), l.Nodup → (∀ x ∈ l, x ∈ S) → l.length ≤ S.length
  | [], S, _, _ => Nat.zero_le _
  | x :: l, S, hn, hs => by
    obtain ⟨hx, hn2⟩ := List.nodup_cons.1 hn
    have hxS := hs x (List.mem_cons_self ..)
    have := nodup_le l (S.erase x) hn2 fun y hy => (List.mem_erase_of_ne (fun e => by subst e; exact hx hy)).2 (hs y (List.mem_cons_of_mem _ hy))
    have hl := (List.perm_cons_erase hxS).length_eq
    rw [List.length_cons] at hl ⊢
    omega
/-- A list of n different numbers below n has all of them. -/
theorem fills {l : List Int} (hn : l.Nodup) (hr : ∀ x ∈ l, 0 ≤ x ∧ x < (l.length : Int)) (k : Nat) (hk : k < l.length) : (k : Int) ∈ l := by
  by_cases h : (k : Int) ∈ l
  · exact h
  · have hin : ∀ x ∈ l, x ∈ ((List.range l.length).map (fun (i : Nat) => (i : Int))).erase (k : Int) := fun x hx => by
      obtain ⟨h0, h1⟩ := hr x hx
      refine (List.mem_erase_of_ne (fun e => by subst e; exact h hx)).2 (List.mem_map.2 ⟨x.toNat, List.mem_range.2 (by omega), by omega⟩)
    have hk2 : (k : Int) ∈ (List.range l.length).map (fun (i : Nat) => (i : Int)) := List.mem_map.2 ⟨k, List.mem_range.2 hk, rfl⟩
    have h1 := nodup_le _ _ hn hin
    have h2 := (List.perm_cons_erase hk2).length_eq
    simp at h2
    omega
/-- The first k places of the list are different numbers from 0 up to n. -/
def goodTo (l : List Int) (n : Int) (k : Nat) : Prop := ∀ (j : Nat) (x : Int), j < k → l[j]? = some x → 0 ≤ x ∧ x < n ∧ x ∉ l.take j
theorem nodup_take {l : List Int} {n : Int} : ∀ k, k ≤ l.length → goodTo l n k → (l.take k).Nodup ∧ ∀ x ∈ l.take k, 0 ≤ x ∧ x < n
  | 0, _, _ => ⟨by simp, fun x hx => by simp at hx⟩
  | k + 1, hk, h => by
    obtain ⟨h1, h2⟩ := nodup_take k (by omega) fun j x hj hx => h j x (by omega) hx
    obtain ⟨y, hy⟩ : ∃ y, l[k]? = some y := ⟨_, List.getElem?_eq_getElem (by omega)⟩
    obtain ⟨h3, h4, h5⟩ := h k y (by omega) hy
    rw [List.take_add_one, hy]
    refine ⟨?_, fun x hx => ?_⟩
    · refine (List.perm_append_comm (l₁ := l.take k) (l₂ := [y])).symm.nodup ?_
      simpa using ⟨h5, h1⟩
    · rcases List.mem_append.1 hx with hx | hx
      · exact h2 x hx
      · simp at hx; subst hx; exact ⟨h3, h4⟩
theorem rk_of_good {l : List Int} {n : Int} (hg : goodTo l n l.length) : rkB l n = (decide (1 ≤ n) && (decide (n ≤ 5) && decide ((l.length : Int) = n))) := by
  by_cases h : (l.length : Int) = n
  · obtain ⟨h1, h2⟩ := nodup_take l.length (Nat.le_refl _) hg
    rw [List.take_length] at h1 h2
    have hc : covB l l.length = true := covB_iff.2 (fills h1 fun x hx => by rw [h]; exact h2 x hx)
    unfold rkB
    rw [hc, Bool.and_true]
  · unfold rkB
    simp [h]
theorem good_of_rk {l : List Int} {n : Int} (h : rkB l n = true) : goodTo l n l.length := by
  obtain ⟨h1, h2, h3, h4⟩ := rkB_iff.1 h
  obtain ⟨_, hc⟩ := cover l.length l h4
  obtain ⟨h5, h6⟩ := hc rfl
  intro j x hj hx
  obtain ⟨h7, h8⟩ := h5 x (List.mem_of_getElem? hx)
  refine ⟨h7, by omega, fun hm => ?_⟩
  obtain ⟨i, hi, he⟩ := List.mem_take_iff_getElem.1 hm
  have hij : i < j := by omega
  have he2 : l[j]'hj = x := by rw [List.getElem?_eq_getElem hj] at hx; exact Option.some.inj hx
  exact (List.pairwise_iff_getElem.1 h6 i j (by omega) hj hij) (he.trans he2.symm)
theorem rk_bad {l : List Int} {n : Int} {k : Nat} {x : Int} (hk : l[k]? = some x) (h : x < 0 ∨ n ≤ x ∨ x ∈ l.take k) : rkB l n = false := by
  cases hr : rkB l n with
  | false => rfl
  | true =>
    obtain ⟨h1, h2, h3⟩ := good_of_rk hr k x (List.getElem?_eq_some_iff.1 hk).1 hk
    rcases h with h | h | h
    · omega
    · omega
    · exact (h3 h).elim
/-- What a ranking is made of. -/
theorem rk_at {l : List Int} {n : Int} (h : rkB l n = true) {k : Nat} {x : Int} (hk : l[k]? = some x) : 0 ≤ x ∧ x < n :=
  let g := good_of_rk h k x (List.getElem?_eq_some_iff.1 hk).1 hk
  ⟨g.1, g.2.1⟩
theorem rk_len {l : List Int} {n : Int} (h : rkB l n = true) : 1 ≤ n ∧ n ≤ 5 ∧ (l.length : Int) = n :=
  let g := rkB_iff.1 h
  ⟨g.1, g.2.1, g.2.2.1⟩
theorem rk_short {l : List Int} {n : Int} (h : ¬ (1 ≤ n ∧ n ≤ 5 ∧ (l.length : Int) = n)) : rkB l n = false := by
  cases hr : rkB l n with
  | false => rfl
  | true => exact (h (rk_len hr)).elim
theorem rk_not {l : List Int} {n : Int} {k : Nat} (hk : (k : Int) < n) (h : (k : Int) ∉ l) : rkB l n = false := by
  cases hr : rkB l n with
  | false => rfl
  | true =>
    obtain ⟨h1, h2, h3, h4⟩ := rkB_iff.1 hr
    exact (h (h4 k (by omega))).elim
theorem rk_yes {l : List Int} {n : Int} (h1 : 1 ≤ n) (h2 : n ≤ 5) (h3 : (l.length : Int) = n) (h4 : ∀ k : Nat, (k : Int) < n → (k : Int) ∈ l) : rkB l n = true :=
  rkB_iff.2 ⟨h1, h2, h3, fun k hk => h4 k (by omega)⟩
/-- Is the number in the list: its first place. -/
def idxN12 (l : List Int) (x : Int) : Int := if x ∈ l then (l.findIdx fun y => decide (y = x) : Nat) else -1
theorem idxN12_no {l : List Int} {x : Int} (h : ∀ (j : Nat) (y : Int), l[j]? = some y → ¬ y = x) : idxN12 l x = -1 := by
  unfold idxN12
  rw [if_neg]
  intro hm
  obtain ⟨j, hj⟩ := List.mem_iff_getElem?.1 hm
  exact h j x hj rfl
theorem idxN12_yes {l : List Int} {k : Nat} {x : Int} (h : l[k]? = some x) (hf : ∀ (j : Nat) (y : Int), j < k → l[j]? = some y → ¬ y = x) : idxN12 l x = k := by
  obtain ⟨hl, he⟩ := List.getElem?_eq_some_iff.1 h
  have h1 : (l.findIdx fun y => decide (y = x)) = k := by
    rw [List.findIdx_eq hl]
    exact ⟨by simp [he], fun j hj => by simpa using hf j _ hj (List.getElem?_eq_getElem (by omega))⟩
  unfold idxN12
  rw [if_pos (List.mem_of_getElem? h), h1]
theorem mem_idx (l : List Int) (x : Int) : decide (x ∈ l) = decide (0 ≤ idxN12 l x) := by
  unfold idxN12
  by_cases h : x ∈ l
  · rw [if_pos h, decide_eq_true h, decide_eq_true (by omega)]
  · rw [if_neg h, decide_eq_false h]; rfl
theorem idxN12_rng (l : List Int) (x : Int) : -1 ≤ idxN12 l x := by unfold idxN12; split <;> omega

/-- Which of two lists has less at a place. -/
def diffAt (a b : List Int) (k : Int) : Int := if a.getD k.toNat 0 < b.getD k.toNat 0 then -1 else if b.getD k.toNat 0 < a.getD k.toNat 0 then 1 else 0
/-- The first place of a ranking at which they differ, and how. -/
def fdiff (a b : List Int) : List Int → Nat → Int × Int
  | [], _ => (-1, 0)
  | k :: r, i => if diffAt a b k = 0 then fdiff a b r (i + 1) else (i, diffAt a b k)
def cmpL (a b r : List Int) : Int := (fdiff a b r 0).2
def cmpV (a b r : List Int) : Int := if rkB r a.length && decide (a.length = b.length) then cmpL a b r else 0
theorem diffAt_rng (a b : List Int) (k : Int) : diffAt a b k = -1 ∨ diffAt a b k = 0 ∨ diffAt a b k = 1 := by
  unfold diffAt; split
  · exact .inl rfl
  · split
    · exact .inr (.inr rfl)
    · exact .inr (.inl rfl)
theorem diffAt_swap (a b : List Int) (k : Int) : diffAt b a k = - diffAt a b k := by
  unfold diffAt
  generalize a.getD k.toNat 0 = x
  generalize b.getD k.toNat 0 = y
  rcases Int.lt_trichotomy x y with h | h | h
  · rw [if_neg (by omega), if_pos h, if_pos h]; rfl
  · rw [if_neg (by omega), if_neg (by omega), if_neg (by omega), if_neg (by omega)]; rfl
  · rw [if_pos h, if_neg (by omega), if_pos h]
theorem fdiff_shift (a b : List Int) : ∀ (r : List Int) (i j : Nat), (fdiff a b r i).2 = (fdiff a b r j).2
  | [], _, _ => rfl
  | k :: r, i, j => by
    unfold fdiff
    split
    · exact fdiff_shift a b r _ _
    · rfl
theorem cmpL_cons (a b : List Int) (k : Int) (r : List Int) : cmpL a b (k :: r) = if diffAt a b k = 0 then cmpL a b r else diffAt a b k := by
  unfold cmpL
  rw [fdiff]
  split
  · exact fdiff_shift a b r _ _
  · rfl
theorem cmpL_rng (a b : List Int) : ∀ r : List Int, cmpL a b r = -1 ∨ cmpL a b r = 0 ∨ cmpL a b r = 1
  | [] => .inr (.inl rfl)
  | k :: r => by
    rw [cmpL_cons]
    split
    · exact cmpL_rng a b r
    · exact diffAt_rng a b k
theorem cmpL_swap (a b : List Int) : ∀ r : List Int, cmpL b a r = - cmpL a b r
  | [] => rfl
  | k :: r => by
    rw [cmpL_cons, cmpL_cons, diffAt_swap a b k, cmpL_swap a b r]
    by_cases h : diffAt a b k = 0
    · rw [if_pos h, if_pos (by omega)]
    · rw [if_neg h, if_neg (by omega)]
theorem cmpL_self (a : List Int) (r : List Int) : cmpL a a r = 0 := by have := cmpL_swap a a r; omega
theorem diffAt_le (a b : List Int) (k : Int) : diffAt a b k ≤ 0 ↔ a.getD k.toNat 0 ≤ b.getD k.toNat 0 := by
  unfold diffAt
  split
  · constructor <;> intro <;> omega
  · split
    · constructor <;> intro <;> omega
    · constructor <;> intro <;> omega
theorem diffAt_eq (a b : List Int) (k : Int) : diffAt a b k = 0 ↔ a.getD k.toNat 0 = b.getD k.toNat 0 := by
  unfold diffAt
  split
  · constructor <;> intro <;> omega
  · split
    · constructor <;> intro <;> omega
    · constructor <;> intro <;> omega
theorem cmpL_trans (a b c : List Int) : ∀ r : List Int, cmpL a b r ≤ 0 → cmpL b c r ≤ 0 → cmpL a c r ≤ 0 ∧ (cmpL a b r < 0 ∨ cmpL b c r < 0 → cmpL a c r < 0)
  | [] => fun _ _ => by
    have e : ∀ x y : List Int, cmpL x y [] = 0 := fun _ _ => rfl
    rw [e, e, e]
    omega
  | k :: r => by
    rw [cmpL_cons, cmpL_cons, cmpL_cons]
    intro h1 h2
    have ih := cmpL_trans a b c r
    have e1 := diffAt_eq a b k
    have e2 := diffAt_eq b c k
    have e3 := diffAt_eq a c k
    have l1 := diffAt_le a b k
    have l2 := diffAt_le b c k
    have l3 := diffAt_le a c k
    by_cases q1 : diffAt a b k = 0
    · rw [if_pos q1] at h1 ⊢
      by_cases q2 : diffAt b c k = 0
      · rw [if_pos q2] at h2 ⊢
        rw [if_pos (e3.2 ((e1.1 q1).trans (e2.1 q2)))]
        exact ih h1 h2
      · rw [if_neg q2] at h2 ⊢
        have x1 := e1.1 q1
        have x2 := l2.1 h2
        have q3 : ¬ diffAt a c k = 0 := fun h => q2 (e2.2 (by have := e3.1 h; omega))
        have := l3.2 (by omega)
        rw [if_neg q3]
        exact ⟨this, fun _ => by omega⟩
    · rw [if_neg q1] at h1 ⊢
      have x1 := l1.1 h1
      have n1 : ¬ a.getD k.toNat 0 = b.getD k.toNat 0 := fun h => q1 (e1.2 h)
      by_cases q2 : diffAt b c k = 0
      · rw [if_pos q2] at h2 ⊢
        have x2 := e2.1 q2
        have q3 : ¬ diffAt a c k = 0 := fun h => n1 (by have := e3.1 h; omega)
        have := l3.2 (by omega)
        rw [if_neg q3]
        exact ⟨this, fun _ => by omega⟩
      · rw [if_neg q2] at h2 ⊢
        have x2 := l2.1 h2
        have q3 : ¬ diffAt a c k = 0 := fun h => n1 (by have := e3.1 h; omega)
        have := l3.2 (by omega)
        rw [if_neg q3]
        exact ⟨this, fun _ => by omega⟩
end Go.Proofs.YtkaihnlknncfdaaGreatDoor
