/- The program's shared signs of a text: what they are. -/
import Derived.Test.YtpcggbpfpicjiaaDoorS4
import Derived.Laws.Tables
import Derived.Deep.RegionLaw
import Derived.Laws.IdiomStrings
import Derived.Lib.Slices
namespace Go.Proofs.YtpcggbpfpicjiaaDoor
open Go.RowKit

/-- What the texts that have shared signs share; zeros for the others. -/
def shc (l : List UInt8) (k : Nat) : Int := if okCls l then shv l k else 0
def ShPost (l : List UInt8) (w : World) (e : Ending) (w' : World) : Prop := e = .returned (.tuple #[.agg (five (shc l)), .bool (okCls l)]) ∧ Below w.heap.size w w'
theorem five_no {l : List UInt8} (h : okCls l = false) : five (shc l) = #[.int .i64 0, .int .i64 0, .int .i64 0, .int .i64 0, .int .i64 0] := by
  unfold five shc; simp [h]
theorem five_yes {l : List UInt8} (h : okCls l = true) : five (shc l) = five (shv l) := by
  unfold five shc; simp [h]
theorem sh_no {l : List UInt8} {w w' : World} (h : okCls l = false) (hb : Below w.heap.size w w') : ShPost l w (.returned (.tuple #[.agg #[.int .i64 0, .int .i64 0, .int .i64 0, .int .i64 0, .int .i64 0], .bool false])) w' :=
  ⟨by rw [five_no h, h], hb⟩
theorem ok_nil {s : ByteArray} (h : s.size = 0) : okCls s.data.toList = false := by
  have : s.data.toList = [] := List.eq_nil_of_length_eq_zero (by simpa using h)
  rw [this]; rfl
theorem ok_long {s : ByteArray} (h : 20 < s.size) : okCls s.data.toList = false := by
  unfold okCls
  have : s.data.toList.length = s.size := by simp
  rw [this]
  simp
  omega
theorem all_take (s : ByteArray) (i : Nat) (h : i < s.size) : s.data.toList.take (i + 1) = s.data.toList.take i ++ [s[i]] := by
  rw [List.take_add_one]
  have hl : i < s.data.toList.length := by simpa using h
  rw [List.getElem?_eq_getElem hl]
  rfl
theorem ok_not {s : ByteArray} (i : Nat) (h : i < s.size) (hn : isSnd (s[i].toNat : Int) = false) : okCls s.data.toList = false := by
  unfold okCls
  have hm : s[i] ∈ s.data.toList := by
    have hl : i < s.data.toList.length := by simpa using h
    exact List.getElem_mem (n := i) hl
  have : s.data.toList.all (fun b => isSnd (nb b)) = false := by
    rw [List.all_eq_false]
    exact ⟨s[i], hm, by show ¬ isSnd (s[i].toNat : Int) = true; simp [hn]⟩
  rw [this]
  simp
theorem isEmpty_no {s : ByteArray} (h : 0 < s.size) : s.toList.isEmpty = false := by
  rw [Lib.toList_data]
  cases e : s.data.toList with
  | nil => have := congrArg List.length e; simp at this; exact absurd h (by rw [show s.size = s.data.size from rfl, this]; simp)
  | cons _ _ => rfl
theorem isEmpty_yes {s : ByteArray} (h : s.size = 0) : s.toList.isEmpty = true := by
  rw [Lib.toList_data, List.eq_nil_of_length_eq_zero (l := s.data.toList) (by simpa using h)]; rfl
/-- Results of which the first lies in a row. -/
theorem results_row_tmp {P : Program} {fn : Func} {p u : Tmp} {ty : TypeId} (h : fn.results = #[.cell p ty, .tmp u]) (tmps : Array Value) (w : World) (g : Nat) (t : TypeId) (cs : Array Value) (fr : Nat × Nat) (d : TypeDesc)
    (hp : tmps.getD p undef = .pointer (some ⟨g, 0, none⟩)) (hg : w.heap[g]? = some (.cells cs t fr))
    (hu : P.underlying ty = some d) (hd : (match d with | .struct _ | .array _ _ => true | _ => false) = true) (hi : (P.info? ty).map (·.size) = some cs.size) :
    (results fn tmps).run P w = .ok (.tuple #[.agg cs, tmps.getD u undef]) w := by
  have hp' : tmps[p]?.getD undef = .pointer (some ⟨g, 0, none⟩) := by simpa using hp
  rw [results_cell_tmp h]
  simp [hp', asAddr, run_loadVar_row w g t ty cs fr d hg hu hd hi, Result.andThen]
theorem ret_row_tmp {P : Program} {fn : Func} {p u : Tmp} {ty : TypeId} {R : Ending → World → Prop} {a : Act} {w : World} {g : Nat} {t : TypeId} {cs : Array Value} {fr : Nat × Nat} {d : TypeDesc} {b : Value} (h : fn.results = #[.cell p ty, .tmp u])
    (hd : a.defers = []) (hp : a.tmps.getD p undef = .pointer (some ⟨g, 0, none⟩)) (hb : a.tmps.getD u undef = b) (hg : w.heap[g]? = some (.cells cs t fr))
    (hu : P.underlying ty = some d) (hk : (match d with | .struct _ | .array _ _ => true | _ => false) = true) (hi : (P.info? ty).map (·.size) = some cs.size)
    (hR : R (.returned (.tuple #[.agg cs, b])) w) : bodyPost P fn R .ret a w := by
  subst hb
  exact bodyPost_ret (results_row_tmp h _ _ g t cs fr d hp hg hu hk hi) hd hR
/-- Five stores into a row. -/
theorem heap_five {w : World} {g : Nat} {t : TypeId} {F G : Nat → Int} (h : w.heap[g]? = some (.cells (five F) t (0, 0))) :
    (((((w.setCell ⟨g, 0, none⟩ (.int .i64 (G 0))).setCell ⟨g, 1, none⟩ (.int .i64 (G 1))).setCell ⟨g, 2, none⟩ (.int .i64 (G 2))).setCell ⟨g, 3, none⟩ (.int .i64 (G 3))).setCell ⟨g, 4, none⟩ (.int .i64 (G 4))).heap[g]? = some (.cells (five G) t (0, 0)) := by
  have h0 := heap_setCell_same _ g 0 _ _ (.int .i64 (G 0)) h
  have h1 := heap_setCell_same _ g 1 _ _ (.int .i64 (G 1)) h0
  have h2 := heap_setCell_same _ g 2 _ _ (.int .i64 (G 2)) h1
  have h3 := heap_setCell_same _ g 3 _ _ (.int .i64 (G 3)) h2
  have h4 := heap_setCell_same _ g 4 _ _ (.int .i64 (G 4)) h3
  rw [h4]
  rfl
theorem heap_five_other {w : World} {g k : Nat} {G : Nat → Int} (h : k ≠ g) :
    (((((w.setCell ⟨g, 0, none⟩ (.int .i64 (G 0))).setCell ⟨g, 1, none⟩ (.int .i64 (G 1))).setCell ⟨g, 2, none⟩ (.int .i64 (G 2))).setCell ⟨g, 3, none⟩ (.int .i64 (G 3))).setCell ⟨g, 4, none⟩ (.int .i64 (G 4))).heap[k]? = w.heap[k]? := by
  rw [heap_setCell_other _ _ _ _ h, heap_setCell_other _ _ _ _ h, heap_setCell_other _ _ _ _ h, heap_setCell_other _ _ _ _ h, heap_setCell_other _ _ _ _ h]
theorem below_five {B : Nat} {a w : World} {g : Nat} {G : Nat → Int} (h : Below B a w) (hg : B ≤ g) :
    Below B a (((((w.setCell ⟨g, 0, none⟩ (.int .i64 (G 0))).setCell ⟨g, 1, none⟩ (.int .i64 (G 1))).setCell ⟨g, 2, none⟩ (.int .i64 (G 2))).setCell ⟨g, 3, none⟩ (.int .i64 (G 3))).setCell ⟨g, 4, none⟩ (.int .i64 (G 4))) :=
  ((((h.setCell (p := ⟨g, 0, none⟩) hg _).setCell (p := ⟨g, 1, none⟩) hg _).setCell (p := ⟨g, 2, none⟩) hg _).setCell (p := ⟨g, 3, none⟩) hg _).setCell (p := ⟨g, 4, none⟩) hg _
theorem implShared_nil (s : ByteArray) (w : World) (hs : s.size = 0) :
    Calls Tryd.prog 38 #[.string s] w (ShPost s.data.toList w) := by
  have HN := Lib.hid (ok_nil hs)
  have he := isEmpty_yes hs
  clear hs
  go_enter Tryd.func38, Tryd.ntmps38
  go_wp2
  refine ret_row_tmp (fn := Tryd.f38) (p := 2) (u := 3) (ty := 48) (g := w.heap.size) rfl rfl rfl rfl (heap_alloc_new _ _) Tryd.underlying48 rfl (by kernel_rfl) (sh_no HN.out ((Below.refl _ _).alloc (Nat.le_refl _) _))
theorem implShared_long (s : ByteArray) (w : World) (hs : 20 < s.size) :
    Calls Tryd.prog 38 #[.string s] w (ShPost s.data.toList w) := by
  have HN := Lib.hid (ok_long hs)
  have he := isEmpty_no (Nat.lt_of_le_of_lt (Nat.zero_le 20) hs)
  have h20 : (20 : Int) < (s.size : Int) := by omega
  clear hs
  go_enter Tryd.func38, Tryd.ntmps38
  go_wp2
  refine ret_row_tmp (fn := Tryd.f38) (p := 2) (u := 3) (ty := 48) (g := w.heap.size) rfl rfl rfl rfl (heap_alloc_new _ _) Tryd.underlying48 rfl (by kernel_rfl) (sh_no HN.out ((Below.refl _ _).alloc (Nat.le_refl _) _))
theorem ok_all {s : ByteArray} (h0 : 0 < s.size) (h1 : s.size ≤ 20) (h : ∀ i, (hi : i < s.size) → isSnd (s[i].toNat : Int) = true) : okCls s.data.toList = true := by
  unfold okCls
  have hl : s.data.toList.length = s.size := by simp
  have he : s.data.toList.isEmpty = false := by rw [← Lib.toList_data]; exact isEmpty_no h0
  have ha : s.data.toList.all (fun b => isSnd (nb b)) = true := by
    rw [List.all_eq_true]
    intro b hb
    obtain ⟨i, hi, rfl⟩ := List.mem_iff_getElem.1 hb
    exact h i (by simpa using hi)
  rw [he, ha, hl]
  simp [h1]
theorem of_not_true {b : Bool} (h : (!b) = true) : b = false := by simpa using h
theorem of_not_false {b : Bool} (h : (!b) = false) : b = true := by simpa using h
theorem row_facts {w : World} {g : Nat} {t : TypeId} {F : Nat → Int} (h : w.heap[g]? = some (.cells (five F) t (0, 0))) :
    (w.cell? ⟨g, 0, none⟩ = some (.int .i64 (F 0)) ∧ w.cell? ⟨g, 1, none⟩ = some (.int .i64 (F 1)) ∧ w.cell? ⟨g, 2, none⟩ = some (.int .i64 (F 2)) ∧ w.cell? ⟨g, 3, none⟩ = some (.int .i64 (F 3)) ∧ w.cell? ⟨g, 4, none⟩ = some (.int .i64 (F 4))) ∧
    w.frozen? ⟨g, 0, none⟩ = false ∧ w.frozen? ⟨g, 1, none⟩ = false ∧ w.frozen? ⟨g, 2, none⟩ = false ∧ w.frozen? ⟨g, 3, none⟩ = false ∧ w.frozen? ⟨g, 4, none⟩ = false :=
  ⟨⟨cell_of_row w g 0 _ t _ h, cell_of_row w g 1 _ t _ h, cell_of_row w g 2 _ t _ h, cell_of_row w g 3 _ t _ h, cell_of_row w g 4 _ t _ h⟩,
   frozen_of_row w g 0 _ t h, frozen_of_row w g 1 _ t h, frozen_of_row w g 2 _ t h, frozen_of_row w g 3 _ t h, frozen_of_row w g 4 _ t h⟩
theorem block_lt {w : World} {g : Nat} {o : Obj} (h : w.heap[g]? = some o) : g < w.heap.size := (Array.getElem?_eq_some_iff.1 h).1
set_option maxHeartbeats 2000000 in
theorem implShared_in (s : ByteArray) (w : World) (hs0 : 0 < s.size) (hs1 : s.size ≤ 20) (hT : FeatTab w) :
    Calls Tryd.prog 38 #[.string s] w (ShPost s.data.toList w) := by
  have HT := Lib.hid hT
  have he := isEmpty_no hs0
  have h20 : (s.size : Int) ≤ 20 := by omega
  have hb8 : (s[0].toNat : Int) < 256 := by have := UInt8.toNat_lt s[0]; omega
  have hb0 : 0 ≤ (s[0].toNat : Int) := by omega
  have HB := Lib.hid (And.intro hb0 hb8)
  clear hT hb0 hb8
  go_enter Tryd.func38, Tryd.ntmps38
  go_wp2_with fail
  refine (implSigns_any _ _ HB.out.1 HB.out.2 (feat_below HT.out ((Below.refl _ _).alloc (Nat.le_refl _) _))).mono ?_
  rintro e w1 ⟨rfl, hb1⟩
  have H1 := Lib.hid hb1
  have hlt1 : Hid (w.heap.size < w1.heap.size) := by have := hb1.size; unfold Hid; simp at this; omega
  clear hb1
  unfold five
  go_wp2
  go_loopw [19] (fun i wr => ∃ (j : Nat) (F : Nat → Int), j ≤ s.size ∧ i = .int .i64 j ∧ Hid (wr.heap[w.heap.size]? = some (.cells (five fun _ => 0) 48 (0, 0))) ∧
      Hid (wr.heap[w1.heap.size]? = some (.cells (five F) 48 (0, 0))) ∧ Hid (F = shv (s.data.toList.take (max 1 j))) ∧ Hid (∀ k, (hk : k < s.size) → k < j → isSnd (s[k].toNat : Int) = true) ∧ Hid (Below w.heap.size w wr)) (fun i _ => s.size - (intOf i).toNat)
  case atStart =>
    refine ⟨0, sg (s[0].toNat : Int), by omega, rfl, ?_, ?_, ?_, fun k _ hk => by omega, ?_⟩
    · unfold Hid
      rw [heap_alloc_old _ _ hlt1.out, H1.out.block _ (by simp), heap_alloc_new]
      rfl
    · exact heap_alloc_new _ _
    · unfold Hid
      rw [show max 1 0 = 0 + 1 from rfl, all_take s 0 hs0, List.take_zero, List.nil_append, shv_one]
      rfl
    · exact ((Below.refl _ _).alloc (Nat.le_refl _) _).trans (H1.out.mono (by simp)) |>.alloc (Nat.le_of_lt hlt1.out) _
  case round =>
    obtain ⟨j, F, hj, rfl, hr2, hr4, hF, hall, hb⟩ := hrel
    by_cases hlt : j < s.size
    · have hx8 : (s[j].toNat : Int) < 256 := by have := UInt8.toNat_lt s[j]; omega
      have hx0 : 0 ≤ (s[j].toNat : Int) := by omega
      have HX := Lib.hid (And.intro hx0 hx8)
      clear hx0 hx8
      go_wp2_with fail
      refine (implIsSound_any _ _ HX.out.1 HX.out.2).mono ?_
      rintro e w2 ⟨rfl, rfl⟩
      obtain ⟨⟨c20, c21, c22, c23, c24⟩, f20, f21, f22, f23, f24⟩ := row_facts hr2.out
      obtain ⟨⟨c40, c41, c42, c43, c44⟩, f40, f41, f42, f43, f44⟩ := row_facts hr4.out
      go_wp2_with fail
      · have hn : isSnd (s[j].toNat : Int) = false := of_not_true (by assumption)
        refine ret_row_tmp (fn := Tryd.f38) (p := 2) (u := 3) (ty := 48) (g := w.heap.size) rfl rfl rfl rfl (heap_five (G := fun _ => 0) hr2.out) Tryd.underlying48 rfl (by kernel_rfl) (sh_no (ok_not j hlt hn) (below_five (G := fun _ => 0) hb.out (Nat.le_refl _)))
      · go_region_law (first | (go_simp; go_at_call 42; refine (implSigns_any _ _ HX.out.1 HX.out.2 ?_).mono ?_; exact feat_below HT.out hb.out.drew; rintro e w' ⟨rfl, hb'⟩; have hr2 := Lib.hid ((hb'.block _ (block_lt hr2.out)).trans hr2.out);  have hr4 := Lib.hid ((hb'.block _ (block_lt hr4.out)).trans hr4.out); have hb := Lib.hid (hb.out.drew.trans (hb'.mono hb.out.size)); clear hb'; obtain ⟨⟨d40, d41, d42, d43, d44⟩, g40, g41, g42, g43, g44⟩ := row_facts hr4.out) | (go_simp; go_at_call 41; refine (implCommon_any _ _ _).mono ?_; rintro e w' ⟨rfl, hb'⟩; unfold five; have hr2 := Lib.hid ((hb'.block _ (block_lt hr2.out)).trans hr2.out);  have hr4 := Lib.hid ((hb'.block _ (block_lt hr4.out)).trans hr4.out); have hb := Lib.hid (hb.out.trans (hb'.mono hb.out.size)); clear hb'; obtain ⟨⟨d40, d41, d42, d43, d44⟩, g40, g41, g42, g43, g44⟩ := row_facts hr4.out))
        all_goals
          have hn : isSnd (s[j].toNat : Int) = true := of_not_false (by assumption)
          go_wp2
          go_roundw
          case rel =>
            refine ⟨j + 1, com F (sg (s[j].toNat : Int)), by omega, by go_num, ?_, heap_five hr4.out, ?_, ?_, below_five hb.out (Nat.le_of_lt hlt1.out)⟩
            · exact (heap_five_other (Nat.ne_of_lt hlt1.out)).trans hr2.out
            · unfold Hid
              rw [hF.out]
              by_cases hj0 : j = 0
              · subst hj0
                rw [show max 1 0 = 0 + 1 from rfl, show max 1 (0 + 1) = 0 + 1 from rfl, all_take s 0 hs0, List.take_zero, List.nil_append]
                exact shv_self _
              · rw [show max 1 j = j by omega, show max 1 (j + 1) = j + 1 by omega, all_take s j hlt]
                refine shv_step _ _ fun h0 => hj0 ?_
                have h2 := congrArg List.length h0
                have hl : s.data.toList.length = s.size := by simp
                rw [List.length_take, List.length_nil, hl] at h2
                omega
            · intro k hk hkj
              by_cases hkj2 : k = j
              · subst hkj2; exact hn
              · exact hall.out k hk (by omega)
          case measure => simp [intOf]; omega
    · obtain rfl : j = s.size := by omega
      obtain ⟨⟨c20, c21, c22, c23, c24⟩, f20, f21, f22, f23, f24⟩ := row_facts hr2.out
      obtain ⟨⟨c40, c41, c42, c43, c44⟩, f40, f41, f42, f43, f44⟩ := row_facts hr4.out
      have HO := Lib.hid (ok_all hs0 hs1 fun i hi => hall.out i hi hi)
      go_wp2
      refine ret_row_tmp (fn := Tryd.f38) (p := 2) (u := 3) (ty := 48) (g := w.heap.size) rfl rfl rfl rfl (heap_five (G := F) hr2.out) Tryd.underlying48 rfl (by kernel_rfl) ⟨?_, below_five (G := F) hb.out (Nat.le_refl _)⟩
      rw [five_yes HO.out, HO.out, hF.out, show max 1 s.size = s.size by omega, List.take_of_length_le (by simp)]
      rfl
theorem implShared_any (s : ByteArray) (w : World) (hT : FeatTab w) :
    Calls Tryd.prog 38 #[.string s] w (ShPost s.data.toList w) := by
  by_cases h0 : s.size = 0
  · exact implShared_nil s w h0
  · by_cases h1 : s.size ≤ 20
    · exact implShared_in s w (by omega) h1 hT
    · exact implShared_long s w (by omega)
end Go.Proofs.YtpcggbpfpicjiaaDoor
