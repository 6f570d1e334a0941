/- The program's table of features, as the rows list it: what the list gives, and that it stands behind a call that keeps what there was. No condition. -/
import Derived.Test.YtlcjpbjnjnolfaaDoorCards
import Derived.Test.YtlcjpbjnjnolfaaDoorSnd
import Derived.ChangeVars
import Derived.WalkSmall
import Derived.ChangeArms
import Derived.Below
import Derived.Lib.LaidTab
namespace Go.Proofs.YtlcjpbjnjnolfaaDoor
set_option maxRecDepth 100000
open Go.RowKit Go.ChangeShapes Go.Lib

def featCells : Array Value := #[.string ⟨#[97, 105]⟩, .string ⟨#[98, 100, 110, 97, 105]⟩, .string ⟨#[110]⟩, .string ⟨#[112, 98]⟩, .string ⟨#[105]⟩]
/-- The table reads as laid. -/
def FeatTab (W : World) : Prop := W.var? Tryd.prog "loop.example/g02080/impl.featureSounds" = some featCells
theorem gFeat : Tryd.prog.globalNamed "loop.example/g02080/impl.featureSounds" = some 0 := by kernel_rfl
theorem gFeatType : (Tryd.prog.globals[0]?).map (·.type) = some 33 := by kernel_rfl
theorem cells33 : Tryd.prog.cellsOf 33 = 5 := by kernel_rfl
theorem cells9 : Tryd.prog.cellsOf 9 = 1 := by kernel_rfl
theorem feat_of {W : World} (h : laidMet Tryd.prog [("loop.example/g02080/impl.featureSounds", Rows.laid_loop_example_g02080_impl_featureSounds)] W) : FeatTab W := by
  obtain ⟨ps, ⟨g, t, cs, fuel, p, q, hg, ht, hvar, hd, _, _⟩, _⟩ := h
  obtain rfl := Option.some.inj (gFeat.symm.trans hg)
  obtain rfl := Option.some.inj (gFeatType.symm.trans ht)
  unfold FeatTab
  rw [hvar]
  congr 1
  obtain ⟨l⟩ := cs
  cases fuel with
  | zero => simp [DataW.trod] at hd
  | succ fuel =>
    simp only [DataW.trod, Tryd.underlying33, cells33, cells9] at hd
    split at hd
    · rename_i hl
      obtain ⟨c0, c1, c2, c3, c4, rfl⟩ : ∃ c0 c1 c2 c3 c4, l = [c0, c1, c2, c3, c4] := by
        match l, hl with
        | [a, b, c, d, e], _ => exact ⟨a, b, c, d, e, rfl⟩
      have e : List.range 5 = [0, 1, 2, 3, 4] := rfl
      rw [e] at hd
      simp only [Option.map_eq_some_iff, List.mapM_cons, List.mapM_nil, Option.bind_eq_bind, Option.bind_eq_some_iff, Option.pure_def, Option.some.injEq] at hd
      obtain ⟨xs, ⟨y0, h0, _, ⟨y1, h1, _, ⟨y2, h2, _, ⟨y3, h3, _, ⟨y4, h4, _, rfl, rfl⟩, rfl⟩, rfl⟩, rfl⟩, rfl⟩, hx⟩ := hd
      obtain ⟨s0, e0, rfl, _⟩ := DataW.trod_string Tryd.underlying9 h0
      obtain ⟨s1, e1, rfl, _⟩ := DataW.trod_string Tryd.underlying9 h1
      obtain ⟨s2, e2, rfl, _⟩ := DataW.trod_string Tryd.underlying9 h2
      obtain ⟨s3, e3, rfl, _⟩ := DataW.trod_string Tryd.underlying9 h3
      obtain ⟨s4, e4, rfl, _⟩ := DataW.trod_string Tryd.underlying9 h4
      simp at e0 e1 e2 e3 e4
      subst e0 e1 e2 e3 e4
      have hy := congrArg Prod.fst hx
      simp [Rows.laid_loop_example_g02080_impl_featureSounds] at hy
      obtain ⟨h0, h1, h2, h3, h4⟩ := hy
      have str : ∀ {s : ByteArray} {l : List UInt8}, s.data.toList = l → s = ⟨l.toArray⟩ := by
        rintro ⟨⟨x⟩⟩ l rfl
        rfl
      rw [str h0, str h1, str h2, str h3, str h4]
      rfl
    · cases hd
theorem feat_cell {W : World} (h : FeatTab W) (k : Nat) (hk : k < 5) : W.cell? ⟨0, k, none⟩ = some (.string ⟨(featL k).toArray⟩) := by
  rw [World.var?_cell gFeat h k]
  match k, hk with
  | 0, _ => rfl | 1, _ => rfl | 2, _ => rfl | 3, _ => rfl | 4, _ => rfl
theorem feat_pos {W : World} (h : FeatTab W) : 0 < W.heap.size := Nat.lt_of_le_of_lt (Nat.zero_le _) (block_lt_of_cell (feat_cell h 0 (by decide)))
theorem feat_lt {W : World} (h : FeatTab W) : 0 < W.heap.size := block_lt_of_cell (feat_cell h 0 (by decide))
theorem feat_below {W W' : World} (h : FeatTab W) (hb : Below W.heap.size W W') : FeatTab W' := var?_below hb gFeat (feat_lt h) h
theorem feat_reads {H : Type} (enc : TypeId × Value → H) (W : World) (sp : Nat → Bool) (n : Nat) :
    DataW.trod enc Tryd.prog W 0 sp true (n + 2) 33 featCells.toList = some (Rows.laid_loop_example_g02080_impl_featureSounds, []) := by kernel_rfl
theorem feat_reads1 {H : Type} (enc : TypeId × Value → H) (W : World) (sp : Nat → Bool) : DataW.trod enc Tryd.prog W 0 sp true 1 33 featCells.toList = none := by kernel_rfl
/-- What a row reads of the table, it reads behind a call that keeps it. -/
theorem feat_vars {H : Type} {enc : TypeId × Value → H} {W : World} {sp : Nat → Bool} {gs : List (DataW H)} {ps : List MemPlace} (hF : FeatTab W)
    (hV : DataW.TrodVars enc Tryd.prog W sp ["loop.example/g02080/impl.featureSounds"] gs ps) :
    gs = [Rows.laid_loop_example_g02080_impl_featureSounds] ∧ ∀ W' sp', FeatTab W' → DataW.TrodVars enc Tryd.prog W' sp' ["loop.example/g02080/impl.featureSounds"] [Rows.laid_loop_example_g02080_impl_featureSounds] ps := by
  obtain ⟨g, t, cs, fuel, d, p, rfl, hg, ht, hvar, hd, rfl⟩ := trodVars_one hV
  obtain rfl := Option.some.inj (gFeat.symm.trans hg)
  obtain rfl := Option.some.inj (gFeatType.symm.trans ht)
  obtain rfl := Option.some.inj ((show W.var? Tryd.prog _ = some featCells from hF).symm.trans hvar)
  obtain ⟨n, rfl⟩ : ∃ n, fuel = n + 2 := by
    match fuel, hd with
    | 0, hd => simp [DataW.trod] at hd
    | 1, hd => rw [feat_reads1] at hd; cases hd
    | n + 2, _ => exact ⟨n, rfl⟩
  rw [feat_reads] at hd
  obtain ⟨rfl, rfl⟩ := Prod.mk.inj (Option.some.inj hd)
  exact ⟨rfl, fun W' sp' h' => trodVars_mk1 gFeat gFeatType h' (feat_reads enc W' sp' n)⟩
end Go.Proofs.YtlcjpbjnjnolfaaDoor
