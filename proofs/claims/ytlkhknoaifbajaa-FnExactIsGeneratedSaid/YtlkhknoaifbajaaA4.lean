/- Merged: Lt2. -/
import Derived.Test.YtlkhknoaifbajaaA3
/- The operations that the program's own text is made of are tame. -/
namespace Go.Proofs.Ytlkhknoaifbajaa
open Go Go.Conc
set_option linter.unusedVariables false
set_option linter.unusedSimpArgs false
set_option maxRecDepth 4000

abbrev Any {α : Type} : α → Prop := fun _ => True

section
variable {p : Program} {α β : Type}
theorem Tame.any {ok : α → Prop} {s : Sem α} (h : Tame p ok s) : Tame p Any s := h.mono fun _ _ => trivial
theorem tame_bind {ok' : β → Prop} {f : α → Sem β} {s : Sem α} (h : Tame p Any s) (hf : ∀ a, Tame p ok' (f a)) : Tame p ok' (s >>= f) := Tame.bind (fun a _ => hf a) h
theorem tame_map {ok : β → Prop} {f : α → β} {s : Sem α} (h : Tame p Any s) (hf : ∀ a, ok (f a)) : Tame p ok (f <$> s) :=
  Tame.bind (f := fun a => Sem.pure (f a)) (fun a _ => hf a) h
theorem tame_jp {γ δ : Type} {ok : β → Prop} {jp : γ → Sem δ} {body : (γ → Sem δ) → Sem β} (h : ∀ x, Tame p Any (jp x)) (hb : ∀ j, (∀ x, Tame p Any (j x)) → Tame p ok (body j)) : Tame p ok (have j := jp; body j) := hb jp h
theorem tame_jq {δ : Type} {ok : β → Prop} {jp : Sem δ} {body : Sem δ → Sem β} (h : Tame p Any jp) (hb : ∀ j, Tame p Any j → Tame p ok (body j)) : Tame p ok (have j := jp; body j) := hb jp h
theorem tame_jv {δ : Type} {ok : β → Prop} {jp : δ} {body : δ → Sem β} (hb : ∀ j, Tame p ok (body j)) : Tame p ok (have j := jp; body j) := hb jp
theorem tame_pureA {a : α} : Tame p Any (Pure.pure a : Sem α) := trivial
theorem tame_pureB {a : α} : Tame p Any (Sem.pure a : Sem α) := trivial
theorem tame_stuck {ok : α → Prop} {s : String} : Tame p ok (stuck s : Sem α) := trivial
theorem tame_unsup {ok : α → Prop} {s : Unsupported} : Tame p ok (unsupported s : Sem α) := trivial
theorem tame_goPanic {ok : α → Prop} {s : Value} : Tame p ok (goPanic s : Sem α) := trivial
theorem tame_load {a : Addr} : Tame p Any (load a) := fun _ => trivial
theorem tame_store {a : Addr} {v : Value} : Tame p Any (store a v) := trivial
theorem tame_new {o : Obj} : Tame p Any (newObj o) := fun _ => trivial
theorem tame_shape {r : Nat} : Tame p Any (shape r) := fun _ => trivial
theorem tame_freeze {a : Addr} {n : Nat} : Tame p Any (freeze a n) := trivial
theorem tame_frozen {a : Addr} : Tame p Any (frozen a) := fun _ => trivial
theorem tame_getObj {r : Nat} : Tame p Any (getObj r) := fun _ => trivial
theorem tame_setObj {r : Nat} {o : Obj} : Tame p Any (setObj r o) := trivial
theorem tame_choose {q : Question} : Tame p Any (choose q) := fun _ => trivial
theorem tame_program : Tame p Any program := trivial
theorem tame_noRoom : Tame p Any (mark .noRoom) := ⟨.inl rfl, trivial⟩
theorem tame_room {n : Nat} : Tame p Any (askRoom n) := by
  unfold askRoom
  repeat' (first
    | with_reducible exact tame_pureA
    | with_reducible exact tame_pureB
    | with_reducible exact tame_stuck
    | with_reducible exact tame_unsup
    | with_reducible exact tame_goPanic
    | with_reducible exact tame_noRoom
    | with_reducible exact tame_program
    | with_reducible exact tame_choose
    | with_reducible exact tame_setObj
    | with_reducible exact tame_getObj
    | with_reducible exact tame_frozen
    | with_reducible exact tame_freeze
    | with_reducible exact tame_shape
    | with_reducible exact tame_new
    | with_reducible exact tame_store
    | with_reducible exact tame_load
    | with_reducible refine tame_map ?_ (fun _ => True.intro)
    | with_reducible refine tame_bind ?_ (fun _ => ?_)
    | split
    | dsimp only
    | exact True.intro)
theorem tame_typeInfo {t : TypeId} : Tame p Any (typeInfo t) := by
  unfold typeInfo
  repeat' (first
    | with_reducible exact tame_pureA
    | with_reducible exact tame_pureB
    | with_reducible exact tame_stuck
    | with_reducible exact tame_unsup
    | with_reducible exact tame_goPanic
    | with_reducible exact tame_room
    | with_reducible exact tame_noRoom
    | with_reducible exact tame_program
    | with_reducible exact tame_choose
    | with_reducible exact tame_setObj
    | with_reducible exact tame_getObj
    | with_reducible exact tame_frozen
    | with_reducible exact tame_freeze
    | with_reducible exact tame_shape
    | with_reducible exact tame_new
    | with_reducible exact tame_store
    | with_reducible exact tame_load
    | with_reducible refine tame_map ?_ (fun _ => True.intro)
    | with_reducible refine tame_bind ?_ (fun _ => ?_)
    | split
    | dsimp only
    | exact True.intro)
theorem tame_underlying {t : TypeId} : Tame p Any (underlying t) := by
  unfold underlying
  repeat' (first
    | with_reducible exact tame_pureA
    | with_reducible exact tame_pureB
    | with_reducible exact tame_stuck
    | with_reducible exact tame_unsup
    | with_reducible exact tame_goPanic
    | with_reducible exact tame_typeInfo
    | with_reducible exact tame_room
    | with_reducible exact tame_noRoom
    | with_reducible exact tame_program
    | with_reducible exact tame_choose
    | with_reducible exact tame_setObj
    | with_reducible exact tame_getObj
    | with_reducible exact tame_frozen
    | with_reducible exact tame_freeze
    | with_reducible exact tame_shape
    | with_reducible exact tame_new
    | with_reducible exact tame_store
    | with_reducible exact tame_load
    | with_reducible refine tame_map ?_ (fun _ => True.intro)
    | with_reducible refine tame_bind ?_ (fun _ => ?_)
    | split
    | dsimp only
    | exact True.intro)
theorem tame_zeroValue {t : TypeId} : Tame p Any (zeroValue t) := by
  unfold zeroValue
  repeat' (first
    | with_reducible exact tame_pureA
    | with_reducible exact tame_pureB
    | with_reducible exact tame_stuck
    | with_reducible exact tame_unsup
    | with_reducible exact tame_goPanic
    | with_reducible exact tame_underlying
    | with_reducible exact tame_typeInfo
    | with_reducible exact tame_room
    | with_reducible exact tame_noRoom
    | with_reducible exact tame_program
    | with_reducible exact tame_choose
    | with_reducible exact tame_setObj
    | with_reducible exact tame_getObj
    | with_reducible exact tame_frozen
    | with_reducible exact tame_freeze
    | with_reducible exact tame_shape
    | with_reducible exact tame_new
    | with_reducible exact tame_store
    | with_reducible exact tame_load
    | with_reducible refine tame_map ?_ (fun _ => True.intro)
    | with_reducible refine tame_bind ?_ (fun _ => ?_)
    | split
    | dsimp only
    | exact True.intro)
theorem tame_sizeOf {t : TypeId} : Tame p Any (sizeOf t) := by
  unfold sizeOf
  repeat' (first
    | with_reducible exact tame_pureA
    | with_reducible exact tame_pureB
    | with_reducible exact tame_stuck
    | with_reducible exact tame_unsup
    | with_reducible exact tame_goPanic
    | with_reducible exact tame_zeroValue
    | with_reducible exact tame_underlying
    | with_reducible exact tame_typeInfo
    | with_reducible exact tame_room
    | with_reducible exact tame_noRoom
    | with_reducible exact tame_program
    | with_reducible exact tame_choose
    | with_reducible exact tame_setObj
    | with_reducible exact tame_getObj
    | with_reducible exact tame_frozen
    | with_reducible exact tame_freeze
    | with_reducible exact tame_shape
    | with_reducible exact tame_new
    | with_reducible exact tame_store
    | with_reducible exact tame_load
    | with_reducible refine tame_map ?_ (fun _ => True.intro)
    | with_reducible refine tame_bind ?_ (fun _ => ?_)
    | split
    | dsimp only
    | exact True.intro)
theorem tame_isAgg {t : TypeId} : Tame p Any (isAgg t) := by
  unfold isAgg
  repeat' (first
    | with_reducible exact tame_pureA
    | with_reducible exact tame_pureB
    | with_reducible exact tame_stuck
    | with_reducible exact tame_unsup
    | with_reducible exact tame_goPanic
    | with_reducible exact tame_sizeOf
    | with_reducible exact tame_zeroValue
    | with_reducible exact tame_underlying
    | with_reducible exact tame_typeInfo
    | with_reducible exact tame_room
    | with_reducible exact tame_noRoom
    | with_reducible exact tame_program
    | with_reducible exact tame_choose
    | with_reducible exact tame_setObj
    | with_reducible exact tame_getObj
    | with_reducible exact tame_frozen
    | with_reducible exact tame_freeze
    | with_reducible exact tame_shape
    | with_reducible exact tame_new
    | with_reducible exact tame_store
    | with_reducible exact tame_load
    | with_reducible refine tame_map ?_ (fun _ => True.intro)
    | with_reducible refine tame_bind ?_ (fun _ => ?_)
    | split
    | dsimp only
    | exact True.intro)
theorem tame_elemOf {t : TypeId} : Tame p Any (elemOf t) := by
  unfold elemOf
  repeat' (first
    | with_reducible exact tame_pureA
    | with_reducible exact tame_pureB
    | with_reducible exact tame_stuck
    | with_reducible exact tame_unsup
    | with_reducible exact tame_goPanic
    | with_reducible exact tame_isAgg
    | with_reducible exact tame_sizeOf
    | with_reducible exact tame_zeroValue
    | with_reducible exact tame_underlying
    | with_reducible exact tame_typeInfo
    | with_reducible exact tame_room
    | with_reducible exact tame_noRoom
    | with_reducible exact tame_program
    | with_reducible exact tame_choose
    | with_reducible exact tame_setObj
    | with_reducible exact tame_getObj
    | with_reducible exact tame_frozen
    | with_reducible exact tame_freeze
    | with_reducible exact tame_shape
    | with_reducible exact tame_new
    | with_reducible exact tame_store
    | with_reducible exact tame_load
    | with_reducible refine tame_map ?_ (fun _ => True.intro)
    | with_reducible refine tame_bind ?_ (fun _ => ?_)
    | split
    | dsimp only
    | exact True.intro)
theorem tame_loadCellsFrom {a : Addr} : ∀ (n i : Nat) (acc : Array Value), Tame p Any (loadCellsFrom a i n acc)
  | 0, _, _ => trivial
  | n + 1, i, acc => by
    unfold loadCellsFrom
    exact tame_bind tame_load fun v => tame_loadCellsFrom n (i + 1) (acc.push v)
theorem tame_loadCells {a : Addr} {n : Nat} : Tame p Any (loadCells a n) := tame_loadCellsFrom n 0 #[]
theorem tame_storeCells {a : Addr} : ∀ (vs : List Value) (i : Nat), Tame p Any (storeCells a vs i)
  | [], _ => trivial
  | v :: vs, i => by
    unfold storeCells
    exact tame_bind tame_store fun _ => tame_storeCells vs (i + 1)
theorem tame_loadVar {t : TypeId} {a : Addr} : Tame p Any (loadVar t a) := by
  unfold loadVar
  repeat' (first
    | with_reducible exact tame_pureA
    | with_reducible exact tame_pureB
    | with_reducible exact tame_stuck
    | with_reducible exact tame_unsup
    | with_reducible exact tame_goPanic
    | with_reducible exact (tame_storeCells _ _)
    | with_reducible exact tame_loadCells
    | with_reducible exact tame_elemOf
    | with_reducible exact tame_isAgg
    | with_reducible exact tame_sizeOf
    | with_reducible exact tame_zeroValue
    | with_reducible exact tame_underlying
    | with_reducible exact tame_typeInfo
    | with_reducible exact tame_room
    | with_reducible exact tame_noRoom
    | with_reducible exact tame_program
    | with_reducible exact tame_choose
    | with_reducible exact tame_setObj
    | with_reducible exact tame_getObj
    | with_reducible exact tame_frozen
    | with_reducible exact tame_freeze
    | with_reducible exact tame_shape
    | with_reducible exact tame_new
    | with_reducible exact tame_store
    | with_reducible exact tame_load
    | with_reducible refine tame_map ?_ (fun _ => True.intro)
    | with_reducible refine tame_bind ?_ (fun _ => ?_)
    | split
    | dsimp only
    | exact True.intro)
theorem tame_storeVar {t : TypeId} {a : Addr} {v : Value} : Tame p Any (storeVar t a v) := by
  unfold storeVar
  repeat' (first
    | with_reducible exact tame_pureA
    | with_reducible exact tame_pureB
    | with_reducible exact tame_stuck
    | with_reducible exact tame_unsup
    | with_reducible exact tame_goPanic
    | with_reducible exact tame_loadVar
    | with_reducible exact (tame_storeCells _ _)
    | with_reducible exact tame_loadCells
    | with_reducible exact tame_elemOf
    | with_reducible exact tame_isAgg
    | with_reducible exact tame_sizeOf
    | with_reducible exact tame_zeroValue
    | with_reducible exact tame_underlying
    | with_reducible exact tame_typeInfo
    | with_reducible exact tame_room
    | with_reducible exact tame_noRoom
    | with_reducible exact tame_program
    | with_reducible exact tame_choose
    | with_reducible exact tame_setObj
    | with_reducible exact tame_getObj
    | with_reducible exact tame_frozen
    | with_reducible exact tame_freeze
    | with_reducible exact tame_shape
    | with_reducible exact tame_new
    | with_reducible exact tame_store
    | with_reducible exact tame_load
    | with_reducible refine tame_map ?_ (fun _ => True.intro)
    | with_reducible refine tame_bind ?_ (fun _ => ?_)
    | split
    | dsimp only
    | exact True.intro)
theorem tame_newRow {t : TypeId} {cs : Array Value} : Tame p Any (newRow t cs) := by
  unfold newRow
  repeat' (first
    | with_reducible exact tame_pureA
    | with_reducible exact tame_pureB
    | with_reducible exact tame_stuck
    | with_reducible exact tame_unsup
    | with_reducible exact tame_goPanic
    | with_reducible exact tame_storeVar
    | with_reducible exact tame_loadVar
    | with_reducible exact (tame_storeCells _ _)
    | with_reducible exact tame_loadCells
    | with_reducible exact tame_elemOf
    | with_reducible exact tame_isAgg
    | with_reducible exact tame_sizeOf
    | with_reducible exact tame_zeroValue
    | with_reducible exact tame_underlying
    | with_reducible exact tame_typeInfo
    | with_reducible exact tame_room
    | with_reducible exact tame_noRoom
    | with_reducible exact tame_program
    | with_reducible exact tame_choose
    | with_reducible exact tame_setObj
    | with_reducible exact tame_getObj
    | with_reducible exact tame_frozen
    | with_reducible exact tame_freeze
    | with_reducible exact tame_shape
    | with_reducible exact tame_new
    | with_reducible exact tame_store
    | with_reducible exact tame_load
    | with_reducible refine tame_map ?_ (fun _ => True.intro)
    | with_reducible refine tame_bind ?_ (fun _ => ?_)
    | split
    | dsimp only
    | exact True.intro)
theorem tame_newVar {t : TypeId} {v : Value} : Tame p Any (newVar t v) := by
  unfold newVar
  repeat' (first
    | with_reducible exact tame_pureA
    | with_reducible exact tame_pureB
    | with_reducible exact tame_stuck
    | with_reducible exact tame_unsup
    | with_reducible exact tame_goPanic
    | with_reducible exact tame_newRow
    | with_reducible exact tame_storeVar
    | with_reducible exact tame_loadVar
    | with_reducible exact (tame_storeCells _ _)
    | with_reducible exact tame_loadCells
    | with_reducible exact tame_elemOf
    | with_reducible exact tame_isAgg
    | with_reducible exact tame_sizeOf
    | with_reducible exact tame_zeroValue
    | with_reducible exact tame_underlying
    | with_reducible exact tame_typeInfo
    | with_reducible exact tame_room
    | with_reducible exact tame_noRoom
    | with_reducible exact tame_program
    | with_reducible exact tame_choose
    | with_reducible exact tame_setObj
    | with_reducible exact tame_getObj
    | with_reducible exact tame_frozen
    | with_reducible exact tame_freeze
    | with_reducible exact tame_shape
    | with_reducible exact tame_new
    | with_reducible exact tame_store
    | with_reducible exact tame_load
    | with_reducible refine tame_map ?_ (fun _ => True.intro)
    | with_reducible refine tame_bind ?_ (fun _ => ?_)
    | split
    | dsimp only
    | exact True.intro)
theorem tame_part {t : TypeId} {cs : Array Value} {o : Nat} : Tame p Any (part t cs o) := by
  unfold part
  repeat' (first
    | with_reducible exact tame_pureA
    | with_reducible exact tame_pureB
    | with_reducible exact tame_stuck
    | with_reducible exact tame_unsup
    | with_reducible exact tame_goPanic
    | with_reducible exact tame_newVar
    | with_reducible exact tame_newRow
    | with_reducible exact tame_storeVar
    | with_reducible exact tame_loadVar
    | with_reducible exact (tame_storeCells _ _)
    | with_reducible exact tame_loadCells
    | with_reducible exact tame_elemOf
    | with_reducible exact tame_isAgg
    | with_reducible exact tame_sizeOf
    | with_reducible exact tame_zeroValue
    | with_reducible exact tame_underlying
    | with_reducible exact tame_typeInfo
    | with_reducible exact tame_room
    | with_reducible exact tame_noRoom
    | with_reducible exact tame_program
    | with_reducible exact tame_choose
    | with_reducible exact tame_setObj
    | with_reducible exact tame_getObj
    | with_reducible exact tame_frozen
    | with_reducible exact tame_freeze
    | with_reducible exact tame_shape
    | with_reducible exact tame_new
    | with_reducible exact tame_store
    | with_reducible exact tame_load
    | with_reducible refine tame_map ?_ (fun _ => True.intro)
    | with_reducible refine tame_bind ?_ (fun _ => ?_)
    | split
    | dsimp only
    | exact True.intro)
theorem tame_runtimePanic {ok : α → Prop} {e : RuntimeError} : Tame p ok (runtimePanic e : Sem α) := by
  unfold runtimePanic
  repeat' (first
    | with_reducible exact tame_pureA
    | with_reducible exact tame_pureB
    | with_reducible exact tame_stuck
    | with_reducible exact tame_unsup
    | with_reducible exact tame_goPanic
    | with_reducible exact tame_part
    | with_reducible exact tame_newVar
    | with_reducible exact tame_newRow
    | with_reducible exact tame_storeVar
    | with_reducible exact tame_loadVar
    | with_reducible exact (tame_storeCells _ _)
    | with_reducible exact tame_loadCells
    | with_reducible exact tame_elemOf
    | with_reducible exact tame_isAgg
    | with_reducible exact tame_sizeOf
    | with_reducible exact tame_zeroValue
    | with_reducible exact tame_underlying
    | with_reducible exact tame_typeInfo
    | with_reducible exact tame_room
    | with_reducible exact tame_noRoom
    | with_reducible exact tame_program
    | with_reducible exact tame_choose
    | with_reducible exact tame_setObj
    | with_reducible exact tame_getObj
    | with_reducible exact tame_frozen
    | with_reducible exact tame_freeze
    | with_reducible exact tame_shape
    | with_reducible exact tame_new
    | with_reducible exact tame_store
    | with_reducible exact tame_load
    | with_reducible refine tame_map ?_ (fun _ => True.intro)
    | with_reducible refine tame_bind ?_ (fun _ => ?_)
    | split
    | dsimp only
    | exact True.intro)
theorem tame_boundsPanic {ok : α → Prop} {k : IntKind} {x y : Int} {c : BoundsCode} : Tame p ok (boundsPanic k x y c : Sem α) := by
  unfold boundsPanic
  repeat' (first
    | with_reducible exact tame_pureA
    | with_reducible exact tame_pureB
    | with_reducible exact tame_stuck
    | with_reducible exact tame_unsup
    | with_reducible exact tame_goPanic
    | with_reducible exact tame_runtimePanic
    | with_reducible exact tame_part
    | with_reducible exact tame_newVar
    | with_reducible exact tame_newRow
    | with_reducible exact tame_storeVar
    | with_reducible exact tame_loadVar
    | with_reducible exact (tame_storeCells _ _)
    | with_reducible exact tame_loadCells
    | with_reducible exact tame_elemOf
    | with_reducible exact tame_isAgg
    | with_reducible exact tame_sizeOf
    | with_reducible exact tame_zeroValue
    | with_reducible exact tame_underlying
    | with_reducible exact tame_typeInfo
    | with_reducible exact tame_room
    | with_reducible exact tame_noRoom
    | with_reducible exact tame_program
    | with_reducible exact tame_choose
    | with_reducible exact tame_setObj
    | with_reducible exact tame_getObj
    | with_reducible exact tame_frozen
    | with_reducible exact tame_freeze
    | with_reducible exact tame_shape
    | with_reducible exact tame_new
    | with_reducible exact tame_store
    | with_reducible exact tame_load
    | with_reducible refine tame_map ?_ (fun _ => True.intro)
    | with_reducible refine tame_bind ?_ (fun _ => ?_)
    | split
    | dsimp only
    | exact True.intro)
theorem tame_asIntOf {v : Value} : Tame p Any (asIntOf v) := by
  unfold asIntOf
  repeat' (first
    | with_reducible exact tame_pureA
    | with_reducible exact tame_pureB
    | with_reducible exact tame_stuck
    | with_reducible exact tame_unsup
    | with_reducible exact tame_goPanic
    | with_reducible exact tame_boundsPanic
    | with_reducible exact tame_runtimePanic
    | with_reducible exact tame_part
    | with_reducible exact tame_newVar
    | with_reducible exact tame_newRow
    | with_reducible exact tame_storeVar
    | with_reducible exact tame_loadVar
    | with_reducible exact (tame_storeCells _ _)
    | with_reducible exact tame_loadCells
    | with_reducible exact tame_elemOf
    | with_reducible exact tame_isAgg
    | with_reducible exact tame_sizeOf
    | with_reducible exact tame_zeroValue
    | with_reducible exact tame_underlying
    | with_reducible exact tame_typeInfo
    | with_reducible exact tame_room
    | with_reducible exact tame_noRoom
    | with_reducible exact tame_program
    | with_reducible exact tame_choose
    | with_reducible exact tame_setObj
    | with_reducible exact tame_getObj
    | with_reducible exact tame_frozen
    | with_reducible exact tame_freeze
    | with_reducible exact tame_shape
    | with_reducible exact tame_new
    | with_reducible exact tame_store
    | with_reducible exact tame_load
    | with_reducible refine tame_map ?_ (fun _ => True.intro)
    | with_reducible refine tame_bind ?_ (fun _ => ?_)
    | split
    | dsimp only
    | exact True.intro)
theorem tame_asInt {v : Value} : Tame p Any (asInt v) := by
  unfold asInt
  repeat' (first
    | with_reducible exact tame_pureA
    | with_reducible exact tame_pureB
    | with_reducible exact tame_stuck
    | with_reducible exact tame_unsup
    | with_reducible exact tame_goPanic
    | with_reducible exact tame_asIntOf
    | with_reducible exact tame_boundsPanic
    | with_reducible exact tame_runtimePanic
    | with_reducible exact tame_part
    | with_reducible exact tame_newVar
    | with_reducible exact tame_newRow
    | with_reducible exact tame_storeVar
    | with_reducible exact tame_loadVar
    | with_reducible exact (tame_storeCells _ _)
    | with_reducible exact tame_loadCells
    | with_reducible exact tame_elemOf
    | with_reducible exact tame_isAgg
    | with_reducible exact tame_sizeOf
    | with_reducible exact tame_zeroValue
    | with_reducible exact tame_underlying
    | with_reducible exact tame_typeInfo
    | with_reducible exact tame_room
    | with_reducible exact tame_noRoom
    | with_reducible exact tame_program
    | with_reducible exact tame_choose
    | with_reducible exact tame_setObj
    | with_reducible exact tame_getObj
    | with_reducible exact tame_frozen
    | with_reducible exact tame_freeze
    | with_reducible exact tame_shape
    | with_reducible exact tame_new
    | with_reducible exact tame_store
    | with_reducible exact tame_load
    | with_reducible refine tame_map ?_ (fun _ => True.intro)
    | with_reducible refine tame_bind ?_ (fun _ => ?_)
    | split
    | dsimp only
    | exact True.intro)
theorem tame_asBool {v : Value} : Tame p Any (asBool v) := by
  unfold asBool
  repeat' (first
    | with_reducible exact tame_pureA
    | with_reducible exact tame_pureB
    | with_reducible exact tame_stuck
    | with_reducible exact tame_unsup
    | with_reducible exact tame_goPanic
    | with_reducible exact tame_asInt
    | with_reducible exact tame_asIntOf
    | with_reducible exact tame_boundsPanic
    | with_reducible exact tame_runtimePanic
    | with_reducible exact tame_part
    | with_reducible exact tame_newVar
    | with_reducible exact tame_newRow
    | with_reducible exact tame_storeVar
    | with_reducible exact tame_loadVar
    | with_reducible exact (tame_storeCells _ _)
    | with_reducible exact tame_loadCells
    | with_reducible exact tame_elemOf
    | with_reducible exact tame_isAgg
    | with_reducible exact tame_sizeOf
    | with_reducible exact tame_zeroValue
    | with_reducible exact tame_underlying
    | with_reducible exact tame_typeInfo
    | with_reducible exact tame_room
    | with_reducible exact tame_noRoom
    | with_reducible exact tame_program
    | with_reducible exact tame_choose
    | with_reducible exact tame_setObj
    | with_reducible exact tame_getObj
    | with_reducible exact tame_frozen
    | with_reducible exact tame_freeze
    | with_reducible exact tame_shape
    | with_reducible exact tame_new
    | with_reducible exact tame_store
    | with_reducible exact tame_load
    | with_reducible refine tame_map ?_ (fun _ => True.intro)
    | with_reducible refine tame_bind ?_ (fun _ => ?_)
    | split
    | dsimp only
    | exact True.intro)
theorem tame_asString {v : Value} : Tame p Any (asString v) := by
  unfold asString
  repeat' (first
    | with_reducible exact tame_pureA
    | with_reducible exact tame_pureB
    | with_reducible exact tame_stuck
    | with_reducible exact tame_unsup
    | with_reducible exact tame_goPanic
    | with_reducible exact tame_asBool
    | with_reducible exact tame_asInt
    | with_reducible exact tame_asIntOf
    | with_reducible exact tame_boundsPanic
    | with_reducible exact tame_runtimePanic
    | with_reducible exact tame_part
    | with_reducible exact tame_newVar
    | with_reducible exact tame_newRow
    | with_reducible exact tame_storeVar
    | with_reducible exact tame_loadVar
    | with_reducible exact (tame_storeCells _ _)
    | with_reducible exact tame_loadCells
    | with_reducible exact tame_elemOf
    | with_reducible exact tame_isAgg
    | with_reducible exact tame_sizeOf
    | with_reducible exact tame_zeroValue
    | with_reducible exact tame_underlying
    | with_reducible exact tame_typeInfo
    | with_reducible exact tame_room
    | with_reducible exact tame_noRoom
    | with_reducible exact tame_program
    | with_reducible exact tame_choose
    | with_reducible exact tame_setObj
    | with_reducible exact tame_getObj
    | with_reducible exact tame_frozen
    | with_reducible exact tame_freeze
    | with_reducible exact tame_shape
    | with_reducible exact tame_new
    | with_reducible exact tame_store
    | with_reducible exact tame_load
    | with_reducible refine tame_map ?_ (fun _ => True.intro)
    | with_reducible refine tame_bind ?_ (fun _ => ?_)
    | split
    | dsimp only
    | exact True.intro)
theorem tame_asAgg {v : Value} : Tame p Any (asAgg v) := by
  unfold asAgg
  repeat' (first
    | with_reducible exact tame_pureA
    | with_reducible exact tame_pureB
    | with_reducible exact tame_stuck
    | with_reducible exact tame_unsup
    | with_reducible exact tame_goPanic
    | with_reducible exact tame_asString
    | with_reducible exact tame_asBool
    | with_reducible exact tame_asInt
    | with_reducible exact tame_asIntOf
    | with_reducible exact tame_boundsPanic
    | with_reducible exact tame_runtimePanic
    | with_reducible exact tame_part
    | with_reducible exact tame_newVar
    | with_reducible exact tame_newRow
    | with_reducible exact tame_storeVar
    | with_reducible exact tame_loadVar
    | with_reducible exact (tame_storeCells _ _)
    | with_reducible exact tame_loadCells
    | with_reducible exact tame_elemOf
    | with_reducible exact tame_isAgg
    | with_reducible exact tame_sizeOf
    | with_reducible exact tame_zeroValue
    | with_reducible exact tame_underlying
    | with_reducible exact tame_typeInfo
    | with_reducible exact tame_room
    | with_reducible exact tame_noRoom
    | with_reducible exact tame_program
    | with_reducible exact tame_choose
    | with_reducible exact tame_setObj
    | with_reducible exact tame_getObj
    | with_reducible exact tame_frozen
    | with_reducible exact tame_freeze
    | with_reducible exact tame_shape
    | with_reducible exact tame_new
    | with_reducible exact tame_store
    | with_reducible exact tame_load
    | with_reducible refine tame_map ?_ (fun _ => True.intro)
    | with_reducible refine tame_bind ?_ (fun _ => ?_)
    | split
    | dsimp only
    | exact True.intro)
theorem tame_asAddr {v : Value} : Tame p Any (asAddr v) := by
  unfold asAddr
  repeat' (first
    | with_reducible exact tame_pureA
    | with_reducible exact tame_pureB
    | with_reducible exact tame_stuck
    | with_reducible exact tame_unsup
    | with_reducible exact tame_goPanic
    | with_reducible exact tame_asAgg
    | with_reducible exact tame_asString
    | with_reducible exact tame_asBool
    | with_reducible exact tame_asInt
    | with_reducible exact tame_asIntOf
    | with_reducible exact tame_boundsPanic
    | with_reducible exact tame_runtimePanic
    | with_reducible exact tame_part
    | with_reducible exact tame_newVar
    | with_reducible exact tame_newRow
    | with_reducible exact tame_storeVar
    | with_reducible exact tame_loadVar
    | with_reducible exact (tame_storeCells _ _)
    | with_reducible exact tame_loadCells
    | with_reducible exact tame_elemOf
    | with_reducible exact tame_isAgg
    | with_reducible exact tame_sizeOf
    | with_reducible exact tame_zeroValue
    | with_reducible exact tame_underlying
    | with_reducible exact tame_typeInfo
    | with_reducible exact tame_room
    | with_reducible exact tame_noRoom
    | with_reducible exact tame_program
    | with_reducible exact tame_choose
    | with_reducible exact tame_setObj
    | with_reducible exact tame_getObj
    | with_reducible exact tame_frozen
    | with_reducible exact tame_freeze
    | with_reducible exact tame_shape
    | with_reducible exact tame_new
    | with_reducible exact tame_store
    | with_reducible exact tame_load
    | with_reducible refine tame_map ?_ (fun _ => True.intro)
    | with_reducible refine tame_bind ?_ (fun _ => ?_)
    | split
    | dsimp only
    | exact True.intro)
theorem tame_sureAddr {v : Value} : Tame p Any (Instr.sureAddr v) := by
  unfold Instr.sureAddr
  repeat' (first
    | with_reducible exact tame_pureA
    | with_reducible exact tame_pureB
    | with_reducible exact tame_stuck
    | with_reducible exact tame_unsup
    | with_reducible exact tame_goPanic
    | with_reducible exact tame_asAddr
    | with_reducible exact tame_asAgg
    | with_reducible exact tame_asString
    | with_reducible exact tame_asBool
    | with_reducible exact tame_asInt
    | with_reducible exact tame_asIntOf
    | with_reducible exact tame_boundsPanic
    | with_reducible exact tame_runtimePanic
    | with_reducible exact tame_part
    | with_reducible exact tame_newVar
    | with_reducible exact tame_newRow
    | with_reducible exact tame_storeVar
    | with_reducible exact tame_loadVar
    | with_reducible exact (tame_storeCells _ _)
    | with_reducible exact tame_loadCells
    | with_reducible exact tame_elemOf
    | with_reducible exact tame_isAgg
    | with_reducible exact tame_sizeOf
    | with_reducible exact tame_zeroValue
    | with_reducible exact tame_underlying
    | with_reducible exact tame_typeInfo
    | with_reducible exact tame_room
    | with_reducible exact tame_noRoom
    | with_reducible exact tame_program
    | with_reducible exact tame_choose
    | with_reducible exact tame_setObj
    | with_reducible exact tame_getObj
    | with_reducible exact tame_frozen
    | with_reducible exact tame_freeze
    | with_reducible exact tame_shape
    | with_reducible exact tame_new
    | with_reducible exact tame_store
    | with_reducible exact tame_load
    | with_reducible refine tame_map ?_ (fun _ => True.intro)
    | with_reducible refine tame_bind ?_ (fun _ => ?_)
    | split
    | dsimp only
    | exact True.intro)
theorem tame_viewAt {r : Nat} : Tame p Any (viewAt r) := by
  unfold viewAt
  repeat' (first
    | with_reducible exact tame_pureA
    | with_reducible exact tame_pureB
    | with_reducible exact tame_stuck
    | with_reducible exact tame_unsup
    | with_reducible exact tame_goPanic
    | with_reducible exact tame_sureAddr
    | with_reducible exact tame_asAddr
    | with_reducible exact tame_asAgg
    | with_reducible exact tame_asString
    | with_reducible exact tame_asBool
    | with_reducible exact tame_asInt
    | with_reducible exact tame_asIntOf
    | with_reducible exact tame_boundsPanic
    | with_reducible exact tame_runtimePanic
    | with_reducible exact tame_part
    | with_reducible exact tame_newVar
    | with_reducible exact tame_newRow
    | with_reducible exact tame_storeVar
    | with_reducible exact tame_loadVar
    | with_reducible exact (tame_storeCells _ _)
    | with_reducible exact tame_loadCells
    | with_reducible exact tame_elemOf
    | with_reducible exact tame_isAgg
    | with_reducible exact tame_sizeOf
    | with_reducible exact tame_zeroValue
    | with_reducible exact tame_underlying
    | with_reducible exact tame_typeInfo
    | with_reducible exact tame_room
    | with_reducible exact tame_noRoom
    | with_reducible exact tame_program
    | with_reducible exact tame_choose
    | with_reducible exact tame_setObj
    | with_reducible exact tame_getObj
    | with_reducible exact tame_frozen
    | with_reducible exact tame_freeze
    | with_reducible exact tame_shape
    | with_reducible exact tame_new
    | with_reducible exact tame_store
    | with_reducible exact tame_load
    | with_reducible refine tame_map ?_ (fun _ => True.intro)
    | with_reducible refine tame_bind ?_ (fun _ => ?_)
    | split
    | dsimp only
    | exact True.intro)
theorem tame_numberAt {r : Nat} : Tame p Any (numberAt r) := by
  unfold numberAt
  repeat' (first
    | with_reducible exact tame_pureA
    | with_reducible exact tame_pureB
    | with_reducible exact tame_stuck
    | with_reducible exact tame_unsup
    | with_reducible exact tame_goPanic
    | with_reducible exact tame_viewAt
    | with_reducible exact tame_sureAddr
    | with_reducible exact tame_asAddr
    | with_reducible exact tame_asAgg
    | with_reducible exact tame_asString
    | with_reducible exact tame_asBool
    | with_reducible exact tame_asInt
    | with_reducible exact tame_asIntOf
    | with_reducible exact tame_boundsPanic
    | with_reducible exact tame_runtimePanic
    | with_reducible exact tame_part
    | with_reducible exact tame_newVar
    | with_reducible exact tame_newRow
    | with_reducible exact tame_storeVar
    | with_reducible exact tame_loadVar
    | with_reducible exact (tame_storeCells _ _)
    | with_reducible exact tame_loadCells
    | with_reducible exact tame_elemOf
    | with_reducible exact tame_isAgg
    | with_reducible exact tame_sizeOf
    | with_reducible exact tame_zeroValue
    | with_reducible exact tame_underlying
    | with_reducible exact tame_typeInfo
    | with_reducible exact tame_room
    | with_reducible exact tame_noRoom
    | with_reducible exact tame_program
    | with_reducible exact tame_choose
    | with_reducible exact tame_setObj
    | with_reducible exact tame_getObj
    | with_reducible exact tame_frozen
    | with_reducible exact tame_freeze
    | with_reducible exact tame_shape
    | with_reducible exact tame_new
    | with_reducible exact tame_store
    | with_reducible exact tame_load
    | with_reducible refine tame_map ?_ (fun _ => True.intro)
    | with_reducible refine tame_bind ?_ (fun _ => ?_)
    | split
    | dsimp only
    | exact True.intro)
theorem tame_behindNumber {a : Addr} : Tame p Any (behindNumber a) := by
  unfold behindNumber
  repeat' (first
    | with_reducible exact tame_pureA
    | with_reducible exact tame_pureB
    | with_reducible exact tame_stuck
    | with_reducible exact tame_unsup
    | with_reducible exact tame_goPanic
    | with_reducible exact tame_numberAt
    | with_reducible exact tame_viewAt
    | with_reducible exact tame_sureAddr
    | with_reducible exact tame_asAddr
    | with_reducible exact tame_asAgg
    | with_reducible exact tame_asString
    | with_reducible exact tame_asBool
    | with_reducible exact tame_asInt
    | with_reducible exact tame_asIntOf
    | with_reducible exact tame_boundsPanic
    | with_reducible exact tame_runtimePanic
    | with_reducible exact tame_part
    | with_reducible exact tame_newVar
    | with_reducible exact tame_newRow
    | with_reducible exact tame_storeVar
    | with_reducible exact tame_loadVar
    | with_reducible exact (tame_storeCells _ _)
    | with_reducible exact tame_loadCells
    | with_reducible exact tame_elemOf
    | with_reducible exact tame_isAgg
    | with_reducible exact tame_sizeOf
    | with_reducible exact tame_zeroValue
    | with_reducible exact tame_underlying
    | with_reducible exact tame_typeInfo
    | with_reducible exact tame_room
    | with_reducible exact tame_noRoom
    | with_reducible exact tame_program
    | with_reducible exact tame_choose
    | with_reducible exact tame_setObj
    | with_reducible exact tame_getObj
    | with_reducible exact tame_frozen
    | with_reducible exact tame_freeze
    | with_reducible exact tame_shape
    | with_reducible exact tame_new
    | with_reducible exact tame_store
    | with_reducible exact tame_load
    | with_reducible refine tame_map ?_ (fun _ => True.intro)
    | with_reducible refine tame_bind ?_ (fun _ => ?_)
    | split
    | dsimp only
    | exact True.intro)
theorem tame_noView {a : Addr} : Tame p Any (noView a) := by
  unfold noView
  repeat' (first
    | with_reducible exact tame_pureA
    | with_reducible exact tame_pureB
    | with_reducible exact tame_stuck
    | with_reducible exact tame_unsup
    | with_reducible exact tame_goPanic
    | with_reducible exact tame_behindNumber
    | with_reducible exact tame_numberAt
    | with_reducible exact tame_viewAt
    | with_reducible exact tame_sureAddr
    | with_reducible exact tame_asAddr
    | with_reducible exact tame_asAgg
    | with_reducible exact tame_asString
    | with_reducible exact tame_asBool
    | with_reducible exact tame_asInt
    | with_reducible exact tame_asIntOf
    | with_reducible exact tame_boundsPanic
    | with_reducible exact tame_runtimePanic
    | with_reducible exact tame_part
    | with_reducible exact tame_newVar
    | with_reducible exact tame_newRow
    | with_reducible exact tame_storeVar
    | with_reducible exact tame_loadVar
    | with_reducible exact (tame_storeCells _ _)
    | with_reducible exact tame_loadCells
    | with_reducible exact tame_elemOf
    | with_reducible exact tame_isAgg
    | with_reducible exact tame_sizeOf
    | with_reducible exact tame_zeroValue
    | with_reducible exact tame_underlying
    | with_reducible exact tame_typeInfo
    | with_reducible exact tame_room
    | with_reducible exact tame_noRoom
    | with_reducible exact tame_program
    | with_reducible exact tame_choose
    | with_reducible exact tame_setObj
    | with_reducible exact tame_getObj
    | with_reducible exact tame_frozen
    | with_reducible exact tame_freeze
    | with_reducible exact tame_shape
    | with_reducible exact tame_new
    | with_reducible exact tame_store
    | with_reducible exact tame_load
    | with_reducible refine tame_map ?_ (fun _ => True.intro)
    | with_reducible refine tame_bind ?_ (fun _ => ?_)
    | split
    | dsimp only
    | exact True.intro)
theorem tame_markStringish {a : Addr} : Tame p Any (markStringish a) := by
  unfold markStringish
  repeat' (first
    | with_reducible exact tame_pureA
    | with_reducible exact tame_pureB
    | with_reducible exact tame_stuck
    | with_reducible exact tame_unsup
    | with_reducible exact tame_goPanic
    | with_reducible exact tame_noView
    | with_reducible exact tame_behindNumber
    | with_reducible exact tame_numberAt
    | with_reducible exact tame_viewAt
    | with_reducible exact tame_sureAddr
    | with_reducible exact tame_asAddr
    | with_reducible exact tame_asAgg
    | with_reducible exact tame_asString
    | with_reducible exact tame_asBool
    | with_reducible exact tame_asInt
    | with_reducible exact tame_asIntOf
    | with_reducible exact tame_boundsPanic
    | with_reducible exact tame_runtimePanic
    | with_reducible exact tame_part
    | with_reducible exact tame_newVar
    | with_reducible exact tame_newRow
    | with_reducible exact tame_storeVar
    | with_reducible exact tame_loadVar
    | with_reducible exact (tame_storeCells _ _)
    | with_reducible exact tame_loadCells
    | with_reducible exact tame_elemOf
    | with_reducible exact tame_isAgg
    | with_reducible exact tame_sizeOf
    | with_reducible exact tame_zeroValue
    | with_reducible exact tame_underlying
    | with_reducible exact tame_typeInfo
    | with_reducible exact tame_room
    | with_reducible exact tame_noRoom
    | with_reducible exact tame_program
    | with_reducible exact tame_choose
    | with_reducible exact tame_setObj
    | with_reducible exact tame_getObj
    | with_reducible exact tame_frozen
    | with_reducible exact tame_freeze
    | with_reducible exact tame_shape
    | with_reducible exact tame_new
    | with_reducible exact tame_store
    | with_reducible exact tame_load
    | with_reducible refine tame_map ?_ (fun _ => True.intro)
    | with_reducible refine tame_bind ?_ (fun _ => ?_)
    | split
    | dsimp only
    | exact True.intro)
theorem tame_stringish {a : Addr} : Tame p Any (stringish a) := by
  unfold stringish
  repeat' (first
    | with_reducible exact tame_pureA
    | with_reducible exact tame_pureB
    | with_reducible exact tame_stuck
    | with_reducible exact tame_unsup
    | with_reducible exact tame_goPanic
    | with_reducible exact tame_markStringish
    | with_reducible exact tame_noView
    | with_reducible exact tame_behindNumber
    | with_reducible exact tame_numberAt
    | with_reducible exact tame_viewAt
    | with_reducible exact tame_sureAddr
    | with_reducible exact tame_asAddr
    | with_reducible exact tame_asAgg
    | with_reducible exact tame_asString
    | with_reducible exact tame_asBool
    | with_reducible exact tame_asInt
    | with_reducible exact tame_asIntOf
    | with_reducible exact tame_boundsPanic
    | with_reducible exact tame_runtimePanic
    | with_reducible exact tame_part
    | with_reducible exact tame_newVar
    | with_reducible exact tame_newRow
    | with_reducible exact tame_storeVar
    | with_reducible exact tame_loadVar
    | with_reducible exact (tame_storeCells _ _)
    | with_reducible exact tame_loadCells
    | with_reducible exact tame_elemOf
    | with_reducible exact tame_isAgg
    | with_reducible exact tame_sizeOf
    | with_reducible exact tame_zeroValue
    | with_reducible exact tame_underlying
    | with_reducible exact tame_typeInfo
    | with_reducible exact tame_room
    | with_reducible exact tame_noRoom
    | with_reducible exact tame_program
    | with_reducible exact tame_choose
    | with_reducible exact tame_setObj
    | with_reducible exact tame_getObj
    | with_reducible exact tame_frozen
    | with_reducible exact tame_freeze
    | with_reducible exact tame_shape
    | with_reducible exact tame_new
    | with_reducible exact tame_store
    | with_reducible exact tame_load
    | with_reducible refine tame_map ?_ (fun _ => True.intro)
    | with_reducible refine tame_bind ?_ (fun _ => ?_)
    | split
    | dsimp only
    | exact True.intro)
theorem tame_mayBeOne {a b : Addr} : Tame p Any (mayBeOne a b) := by
  unfold mayBeOne
  repeat' (first
    | with_reducible exact tame_pureA
    | with_reducible exact tame_pureB
    | with_reducible exact tame_stuck
    | with_reducible exact tame_unsup
    | with_reducible exact tame_goPanic
    | with_reducible exact tame_stringish
    | with_reducible exact tame_markStringish
    | with_reducible exact tame_noView
    | with_reducible exact tame_behindNumber
    | with_reducible exact tame_numberAt
    | with_reducible exact tame_viewAt
    | with_reducible exact tame_sureAddr
    | with_reducible exact tame_asAddr
    | with_reducible exact tame_asAgg
    | with_reducible exact tame_asString
    | with_reducible exact tame_asBool
    | with_reducible exact tame_asInt
    | with_reducible exact tame_asIntOf
    | with_reducible exact tame_boundsPanic
    | with_reducible exact tame_runtimePanic
    | with_reducible exact tame_part
    | with_reducible exact tame_newVar
    | with_reducible exact tame_newRow
    | with_reducible exact tame_storeVar
    | with_reducible exact tame_loadVar
    | with_reducible exact (tame_storeCells _ _)
    | with_reducible exact tame_loadCells
    | with_reducible exact tame_elemOf
    | with_reducible exact tame_isAgg
    | with_reducible exact tame_sizeOf
    | with_reducible exact tame_zeroValue
    | with_reducible exact tame_underlying
    | with_reducible exact tame_typeInfo
    | with_reducible exact tame_room
    | with_reducible exact tame_noRoom
    | with_reducible exact tame_program
    | with_reducible exact tame_choose
    | with_reducible exact tame_setObj
    | with_reducible exact tame_getObj
    | with_reducible exact tame_frozen
    | with_reducible exact tame_freeze
    | with_reducible exact tame_shape
    | with_reducible exact tame_new
    | with_reducible exact tame_store
    | with_reducible exact tame_load
    | with_reducible refine tame_map ?_ (fun _ => True.intro)
    | with_reducible refine tame_bind ?_ (fun _ => ?_)
    | split
    | dsimp only
    | exact True.intro)
theorem tame_sameAddr {a b : Addr} : Tame p Any (sameAddr a b) := by
  unfold sameAddr
  repeat' (first
    | with_reducible exact tame_pureA
    | with_reducible exact tame_pureB
    | with_reducible exact tame_stuck
    | with_reducible exact tame_unsup
    | with_reducible exact tame_goPanic
    | with_reducible exact tame_mayBeOne
    | with_reducible exact tame_stringish
    | with_reducible exact tame_markStringish
    | with_reducible exact tame_noView
    | with_reducible exact tame_behindNumber
    | with_reducible exact tame_numberAt
    | with_reducible exact tame_viewAt
    | with_reducible exact tame_sureAddr
    | with_reducible exact tame_asAddr
    | with_reducible exact tame_asAgg
    | with_reducible exact tame_asString
    | with_reducible exact tame_asBool
    | with_reducible exact tame_asInt
    | with_reducible exact tame_asIntOf
    | with_reducible exact tame_boundsPanic
    | with_reducible exact tame_runtimePanic
    | with_reducible exact tame_part
    | with_reducible exact tame_newVar
    | with_reducible exact tame_newRow
    | with_reducible exact tame_storeVar
    | with_reducible exact tame_loadVar
    | with_reducible exact (tame_storeCells _ _)
    | with_reducible exact tame_loadCells
    | with_reducible exact tame_elemOf
    | with_reducible exact tame_isAgg
    | with_reducible exact tame_sizeOf
    | with_reducible exact tame_zeroValue
    | with_reducible exact tame_underlying
    | with_reducible exact tame_typeInfo
    | with_reducible exact tame_room
    | with_reducible exact tame_noRoom
    | with_reducible exact tame_program
    | with_reducible exact tame_choose
    | with_reducible exact tame_setObj
    | with_reducible exact tame_getObj
    | with_reducible exact tame_frozen
    | with_reducible exact tame_freeze
    | with_reducible exact tame_shape
    | with_reducible exact tame_new
    | with_reducible exact tame_store
    | with_reducible exact tame_load
    | with_reducible refine tame_map ?_ (fun _ => True.intro)
    | with_reducible refine tame_bind ?_ (fun _ => ?_)
    | split
    | dsimp only
    | exact True.intro)
theorem tame_samePointer {a b : Option Addr} : Tame p Any (samePointer a b) := by
  unfold samePointer
  repeat' (first
    | with_reducible exact tame_pureA
    | with_reducible exact tame_pureB
    | with_reducible exact tame_stuck
    | with_reducible exact tame_unsup
    | with_reducible exact tame_goPanic
    | with_reducible exact tame_sameAddr
    | with_reducible exact tame_mayBeOne
    | with_reducible exact tame_stringish
    | with_reducible exact tame_markStringish
    | with_reducible exact tame_noView
    | with_reducible exact tame_behindNumber
    | with_reducible exact tame_numberAt
    | with_reducible exact tame_viewAt
    | with_reducible exact tame_sureAddr
    | with_reducible exact tame_asAddr
    | with_reducible exact tame_asAgg
    | with_reducible exact tame_asString
    | with_reducible exact tame_asBool
    | with_reducible exact tame_asInt
    | with_reducible exact tame_asIntOf
    | with_reducible exact tame_boundsPanic
    | with_reducible exact tame_runtimePanic
    | with_reducible exact tame_part
    | with_reducible exact tame_newVar
    | with_reducible exact tame_newRow
    | with_reducible exact tame_storeVar
    | with_reducible exact tame_loadVar
    | with_reducible exact (tame_storeCells _ _)
    | with_reducible exact tame_loadCells
    | with_reducible exact tame_elemOf
    | with_reducible exact tame_isAgg
    | with_reducible exact tame_sizeOf
    | with_reducible exact tame_zeroValue
    | with_reducible exact tame_underlying
    | with_reducible exact tame_typeInfo
    | with_reducible exact tame_room
    | with_reducible exact tame_noRoom
    | with_reducible exact tame_program
    | with_reducible exact tame_choose
    | with_reducible exact tame_setObj
    | with_reducible exact tame_getObj
    | with_reducible exact tame_frozen
    | with_reducible exact tame_freeze
    | with_reducible exact tame_shape
    | with_reducible exact tame_new
    | with_reducible exact tame_store
    | with_reducible exact tame_load
    | with_reducible refine tame_map ?_ (fun _ => True.intro)
    | with_reducible refine tame_bind ?_ (fun _ => ?_)
    | split
    | dsimp only
    | exact True.intro)
theorem tame_typeStr {t : TypeId} : Tame p Any (typeStr t) := by
  unfold typeStr
  repeat' (first
    | with_reducible exact tame_pureA
    | with_reducible exact tame_pureB
    | with_reducible exact tame_stuck
    | with_reducible exact tame_unsup
    | with_reducible exact tame_goPanic
    | with_reducible exact tame_samePointer
    | with_reducible exact tame_sameAddr
    | with_reducible exact tame_mayBeOne
    | with_reducible exact tame_stringish
    | with_reducible exact tame_markStringish
    | with_reducible exact tame_noView
    | with_reducible exact tame_behindNumber
    | with_reducible exact tame_numberAt
    | with_reducible exact tame_viewAt
    | with_reducible exact tame_sureAddr
    | with_reducible exact tame_asAddr
    | with_reducible exact tame_asAgg
    | with_reducible exact tame_asString
    | with_reducible exact tame_asBool
    | with_reducible exact tame_asInt
    | with_reducible exact tame_asIntOf
    | with_reducible exact tame_boundsPanic
    | with_reducible exact tame_runtimePanic
    | with_reducible exact tame_part
    | with_reducible exact tame_newVar
    | with_reducible exact tame_newRow
    | with_reducible exact tame_storeVar
    | with_reducible exact tame_loadVar
    | with_reducible exact (tame_storeCells _ _)
    | with_reducible exact tame_loadCells
    | with_reducible exact tame_elemOf
    | with_reducible exact tame_isAgg
    | with_reducible exact tame_sizeOf
    | with_reducible exact tame_zeroValue
    | with_reducible exact tame_underlying
    | with_reducible exact tame_typeInfo
    | with_reducible exact tame_room
    | with_reducible exact tame_noRoom
    | with_reducible exact tame_program
    | with_reducible exact tame_choose
    | with_reducible exact tame_setObj
    | with_reducible exact tame_getObj
    | with_reducible exact tame_frozen
    | with_reducible exact tame_freeze
    | with_reducible exact tame_shape
    | with_reducible exact tame_new
    | with_reducible exact tame_store
    | with_reducible exact tame_load
    | with_reducible refine tame_map ?_ (fun _ => True.intro)
    | with_reducible refine tame_bind ?_ (fun _ => ?_)
    | split
    | dsimp only
    | exact True.intro)
theorem tame_byteOf {a : Addr} : Tame p Any (byteOf a) := by
  unfold byteOf
  repeat' (first
    | with_reducible exact tame_pureA
    | with_reducible exact tame_pureB
    | with_reducible exact tame_stuck
    | with_reducible exact tame_unsup
    | with_reducible exact tame_goPanic
    | with_reducible exact tame_typeStr
    | with_reducible exact tame_samePointer
    | with_reducible exact tame_sameAddr
    | with_reducible exact tame_mayBeOne
    | with_reducible exact tame_stringish
    | with_reducible exact tame_markStringish
    | with_reducible exact tame_noView
    | with_reducible exact tame_behindNumber
    | with_reducible exact tame_numberAt
    | with_reducible exact tame_viewAt
    | with_reducible exact tame_sureAddr
    | with_reducible exact tame_asAddr
    | with_reducible exact tame_asAgg
    | with_reducible exact tame_asString
    | with_reducible exact tame_asBool
    | with_reducible exact tame_asInt
    | with_reducible exact tame_asIntOf
    | with_reducible exact tame_boundsPanic
    | with_reducible exact tame_runtimePanic
    | with_reducible exact tame_part
    | with_reducible exact tame_newVar
    | with_reducible exact tame_newRow
    | with_reducible exact tame_storeVar
    | with_reducible exact tame_loadVar
    | with_reducible exact (tame_storeCells _ _)
    | with_reducible exact tame_loadCells
    | with_reducible exact tame_elemOf
    | with_reducible exact tame_isAgg
    | with_reducible exact tame_sizeOf
    | with_reducible exact tame_zeroValue
    | with_reducible exact tame_underlying
    | with_reducible exact tame_typeInfo
    | with_reducible exact tame_room
    | with_reducible exact tame_noRoom
    | with_reducible exact tame_program
    | with_reducible exact tame_choose
    | with_reducible exact tame_setObj
    | with_reducible exact tame_getObj
    | with_reducible exact tame_frozen
    | with_reducible exact tame_freeze
    | with_reducible exact tame_shape
    | with_reducible exact tame_new
    | with_reducible exact tame_store
    | with_reducible exact tame_load
    | with_reducible refine tame_map ?_ (fun _ => True.intro)
    | with_reducible refine tame_bind ?_ (fun _ => ?_)
    | split
    | dsimp only
    | exact True.intro)
theorem tame_partAt {a : Addr} {c b : Nat} : Tame p Any (partAt a c b) := by
  unfold partAt
  repeat' (first
    | with_reducible exact tame_pureA
    | with_reducible exact tame_pureB
    | with_reducible exact tame_stuck
    | with_reducible exact tame_unsup
    | with_reducible exact tame_goPanic
    | with_reducible exact tame_byteOf
    | with_reducible exact tame_typeStr
    | with_reducible exact tame_samePointer
    | with_reducible exact tame_sameAddr
    | with_reducible exact tame_mayBeOne
    | with_reducible exact tame_stringish
    | with_reducible exact tame_markStringish
    | with_reducible exact tame_noView
    | with_reducible exact tame_behindNumber
    | with_reducible exact tame_numberAt
    | with_reducible exact tame_viewAt
    | with_reducible exact tame_sureAddr
    | with_reducible exact tame_asAddr
    | with_reducible exact tame_asAgg
    | with_reducible exact tame_asString
    | with_reducible exact tame_asBool
    | with_reducible exact tame_asInt
    | with_reducible exact tame_asIntOf
    | with_reducible exact tame_boundsPanic
    | with_reducible exact tame_runtimePanic
    | with_reducible exact tame_part
    | with_reducible exact tame_newVar
    | with_reducible exact tame_newRow
    | with_reducible exact tame_storeVar
    | with_reducible exact tame_loadVar
    | with_reducible exact (tame_storeCells _ _)
    | with_reducible exact tame_loadCells
    | with_reducible exact tame_elemOf
    | with_reducible exact tame_isAgg
    | with_reducible exact tame_sizeOf
    | with_reducible exact tame_zeroValue
    | with_reducible exact tame_underlying
    | with_reducible exact tame_typeInfo
    | with_reducible exact tame_room
    | with_reducible exact tame_noRoom
    | with_reducible exact tame_program
    | with_reducible exact tame_choose
    | with_reducible exact tame_setObj
    | with_reducible exact tame_getObj
    | with_reducible exact tame_frozen
    | with_reducible exact tame_freeze
    | with_reducible exact tame_shape
    | with_reducible exact tame_new
    | with_reducible exact tame_store
    | with_reducible exact tame_load
    | with_reducible refine tame_map ?_ (fun _ => True.intro)
    | with_reducible refine tame_bind ?_ (fun _ => ?_)
    | split
    | dsimp only
    | exact True.intro)
theorem tame_fieldPlace {a : Addr} {f : Field} : Tame p Any (fieldPlace a f) := by
  unfold fieldPlace
  repeat' (first
    | with_reducible exact tame_pureA
    | with_reducible exact tame_pureB
    | with_reducible exact tame_stuck
    | with_reducible exact tame_unsup
    | with_reducible exact tame_goPanic
    | with_reducible exact tame_partAt
    | with_reducible exact tame_byteOf
    | with_reducible exact tame_typeStr
    | with_reducible exact tame_samePointer
    | with_reducible exact tame_sameAddr
    | with_reducible exact tame_mayBeOne
    | with_reducible exact tame_stringish
    | with_reducible exact tame_markStringish
    | with_reducible exact tame_noView
    | with_reducible exact tame_behindNumber
    | with_reducible exact tame_numberAt
    | with_reducible exact tame_viewAt
    | with_reducible exact tame_sureAddr
    | with_reducible exact tame_asAddr
    | with_reducible exact tame_asAgg
    | with_reducible exact tame_asString
    | with_reducible exact tame_asBool
    | with_reducible exact tame_asInt
    | with_reducible exact tame_asIntOf
    | with_reducible exact tame_boundsPanic
    | with_reducible exact tame_runtimePanic
    | with_reducible exact tame_part
    | with_reducible exact tame_newVar
    | with_reducible exact tame_newRow
    | with_reducible exact tame_storeVar
    | with_reducible exact tame_loadVar
    | with_reducible exact (tame_storeCells _ _)
    | with_reducible exact tame_loadCells
    | with_reducible exact tame_elemOf
    | with_reducible exact tame_isAgg
    | with_reducible exact tame_sizeOf
    | with_reducible exact tame_zeroValue
    | with_reducible exact tame_underlying
    | with_reducible exact tame_typeInfo
    | with_reducible exact tame_room
    | with_reducible exact tame_noRoom
    | with_reducible exact tame_program
    | with_reducible exact tame_choose
    | with_reducible exact tame_setObj
    | with_reducible exact tame_getObj
    | with_reducible exact tame_frozen
    | with_reducible exact tame_freeze
    | with_reducible exact tame_shape
    | with_reducible exact tame_new
    | with_reducible exact tame_store
    | with_reducible exact tame_load
    | with_reducible refine tame_map ?_ (fun _ => True.intro)
    | with_reducible refine tame_bind ?_ (fun _ => ?_)
    | split
    | dsimp only
    | exact True.intro)
theorem tame_alloc {t : TypeId} : Tame p Any (Instr.alloc t true (.tuple #[])) := by
  unfold Instr.alloc
  repeat' (first
    | with_reducible exact tame_pureA
    | with_reducible exact tame_pureB
    | with_reducible exact tame_stuck
    | with_reducible exact tame_unsup
    | with_reducible exact tame_goPanic
    | with_reducible exact tame_fieldPlace
    | with_reducible exact tame_partAt
    | with_reducible exact tame_byteOf
    | with_reducible exact tame_typeStr
    | with_reducible exact tame_samePointer
    | with_reducible exact tame_sameAddr
    | with_reducible exact tame_mayBeOne
    | with_reducible exact tame_stringish
    | with_reducible exact tame_markStringish
    | with_reducible exact tame_noView
    | with_reducible exact tame_behindNumber
    | with_reducible exact tame_numberAt
    | with_reducible exact tame_viewAt
    | with_reducible exact tame_sureAddr
    | with_reducible exact tame_asAddr
    | with_reducible exact tame_asAgg
    | with_reducible exact tame_asString
    | with_reducible exact tame_asBool
    | with_reducible exact tame_asInt
    | with_reducible exact tame_asIntOf
    | with_reducible exact tame_boundsPanic
    | with_reducible exact tame_runtimePanic
    | with_reducible exact tame_part
    | with_reducible exact tame_newVar
    | with_reducible exact tame_newRow
    | with_reducible exact tame_storeVar
    | with_reducible exact tame_loadVar
    | with_reducible exact (tame_storeCells _ _)
    | with_reducible exact tame_loadCells
    | with_reducible exact tame_elemOf
    | with_reducible exact tame_isAgg
    | with_reducible exact tame_sizeOf
    | with_reducible exact tame_zeroValue
    | with_reducible exact tame_underlying
    | with_reducible exact tame_typeInfo
    | with_reducible exact tame_room
    | with_reducible exact tame_noRoom
    | with_reducible exact tame_program
    | with_reducible exact tame_choose
    | with_reducible exact tame_setObj
    | with_reducible exact tame_getObj
    | with_reducible exact tame_frozen
    | with_reducible exact tame_freeze
    | with_reducible exact tame_shape
    | with_reducible exact tame_new
    | with_reducible exact tame_store
    | with_reducible exact tame_load
    | with_reducible refine tame_map ?_ (fun _ => True.intro)
    | with_reducible refine tame_bind ?_ (fun _ => ?_)
    | split
    | dsimp only
    | exact True.intro)
theorem tame_box {t : TypeId} {v : Value} : Tame p Any (Instr.box t v) := by
  unfold Instr.box
  repeat' (first
    | with_reducible exact tame_pureA
    | with_reducible exact tame_pureB
    | with_reducible exact tame_stuck
    | with_reducible exact tame_unsup
    | with_reducible exact tame_goPanic
    | with_reducible exact tame_alloc
    | with_reducible exact tame_fieldPlace
    | with_reducible exact tame_partAt
    | with_reducible exact tame_byteOf
    | with_reducible exact tame_typeStr
    | with_reducible exact tame_samePointer
    | with_reducible exact tame_sameAddr
    | with_reducible exact tame_mayBeOne
    | with_reducible exact tame_stringish
    | with_reducible exact tame_markStringish
    | with_reducible exact tame_noView
    | with_reducible exact tame_behindNumber
    | with_reducible exact tame_numberAt
    | with_reducible exact tame_viewAt
    | with_reducible exact tame_sureAddr
    | with_reducible exact tame_asAddr
    | with_reducible exact tame_asAgg
    | with_reducible exact tame_asString
    | with_reducible exact tame_asBool
    | with_reducible exact tame_asInt
    | with_reducible exact tame_asIntOf
    | with_reducible exact tame_boundsPanic
    | with_reducible exact tame_runtimePanic
    | with_reducible exact tame_part
    | with_reducible exact tame_newVar
    | with_reducible exact tame_newRow
    | with_reducible exact tame_storeVar
    | with_reducible exact tame_loadVar
    | with_reducible exact (tame_storeCells _ _)
    | with_reducible exact tame_loadCells
    | with_reducible exact tame_elemOf
    | with_reducible exact tame_isAgg
    | with_reducible exact tame_sizeOf
    | with_reducible exact tame_zeroValue
    | with_reducible exact tame_underlying
    | with_reducible exact tame_typeInfo
    | with_reducible exact tame_room
    | with_reducible exact tame_noRoom
    | with_reducible exact tame_program
    | with_reducible exact tame_choose
    | with_reducible exact tame_setObj
    | with_reducible exact tame_getObj
    | with_reducible exact tame_frozen
    | with_reducible exact tame_freeze
    | with_reducible exact tame_shape
    | with_reducible exact tame_new
    | with_reducible exact tame_store
    | with_reducible exact tame_load
    | with_reducible refine tame_map ?_ (fun _ => True.intro)
    | with_reducible refine tame_bind ?_ (fun _ => ?_)
    | split
    | dsimp only
    | exact True.intro)
theorem tame_loadAt {t : TypeId} {v : Value} : Tame p Any (Instr.loadAt t v) := by
  unfold Instr.loadAt
  repeat' (first
    | with_reducible exact tame_pureA
    | with_reducible exact tame_pureB
    | with_reducible exact tame_stuck
    | with_reducible exact tame_unsup
    | with_reducible exact tame_goPanic
    | with_reducible exact tame_box
    | with_reducible exact tame_alloc
    | with_reducible exact tame_fieldPlace
    | with_reducible exact tame_partAt
    | with_reducible exact tame_byteOf
    | with_reducible exact tame_typeStr
    | with_reducible exact tame_samePointer
    | with_reducible exact tame_sameAddr
    | with_reducible exact tame_mayBeOne
    | with_reducible exact tame_stringish
    | with_reducible exact tame_markStringish
    | with_reducible exact tame_noView
    | with_reducible exact tame_behindNumber
    | with_reducible exact tame_numberAt
    | with_reducible exact tame_viewAt
    | with_reducible exact tame_sureAddr
    | with_reducible exact tame_asAddr
    | with_reducible exact tame_asAgg
    | with_reducible exact tame_asString
    | with_reducible exact tame_asBool
    | with_reducible exact tame_asInt
    | with_reducible exact tame_asIntOf
    | with_reducible exact tame_boundsPanic
    | with_reducible exact tame_runtimePanic
    | with_reducible exact tame_part
    | with_reducible exact tame_newVar
    | with_reducible exact tame_newRow
    | with_reducible exact tame_storeVar
    | with_reducible exact tame_loadVar
    | with_reducible exact (tame_storeCells _ _)
    | with_reducible exact tame_loadCells
    | with_reducible exact tame_elemOf
    | with_reducible exact tame_isAgg
    | with_reducible exact tame_sizeOf
    | with_reducible exact tame_zeroValue
    | with_reducible exact tame_underlying
    | with_reducible exact tame_typeInfo
    | with_reducible exact tame_room
    | with_reducible exact tame_noRoom
    | with_reducible exact tame_program
    | with_reducible exact tame_choose
    | with_reducible exact tame_setObj
    | with_reducible exact tame_getObj
    | with_reducible exact tame_frozen
    | with_reducible exact tame_freeze
    | with_reducible exact tame_shape
    | with_reducible exact tame_new
    | with_reducible exact tame_store
    | with_reducible exact tame_load
    | with_reducible refine tame_map ?_ (fun _ => True.intro)
    | with_reducible refine tame_bind ?_ (fun _ => ?_)
    | split
    | dsimp only
    | exact True.intro)
theorem tame_storeAt {t : TypeId} {v x : Value} : Tame p Any (Instr.storeAt t v x) := by
  unfold Instr.storeAt
  repeat' (first
    | with_reducible exact tame_pureA
    | with_reducible exact tame_pureB
    | with_reducible exact tame_stuck
    | with_reducible exact tame_unsup
    | with_reducible exact tame_goPanic
    | with_reducible exact tame_loadAt
    | with_reducible exact tame_box
    | with_reducible exact tame_alloc
    | with_reducible exact tame_fieldPlace
    | with_reducible exact tame_partAt
    | with_reducible exact tame_byteOf
    | with_reducible exact tame_typeStr
    | with_reducible exact tame_samePointer
    | with_reducible exact tame_sameAddr
    | with_reducible exact tame_mayBeOne
    | with_reducible exact tame_stringish
    | with_reducible exact tame_markStringish
    | with_reducible exact tame_noView
    | with_reducible exact tame_behindNumber
    | with_reducible exact tame_numberAt
    | with_reducible exact tame_viewAt
    | with_reducible exact tame_sureAddr
    | with_reducible exact tame_asAddr
    | with_reducible exact tame_asAgg
    | with_reducible exact tame_asString
    | with_reducible exact tame_asBool
    | with_reducible exact tame_asInt
    | with_reducible exact tame_asIntOf
    | with_reducible exact tame_boundsPanic
    | with_reducible exact tame_runtimePanic
    | with_reducible exact tame_part
    | with_reducible exact tame_newVar
    | with_reducible exact tame_newRow
    | with_reducible exact tame_storeVar
    | with_reducible exact tame_loadVar
    | with_reducible exact (tame_storeCells _ _)
    | with_reducible exact tame_loadCells
    | with_reducible exact tame_elemOf
    | with_reducible exact tame_isAgg
    | with_reducible exact tame_sizeOf
    | with_reducible exact tame_zeroValue
    | with_reducible exact tame_underlying
    | with_reducible exact tame_typeInfo
    | with_reducible exact tame_room
    | with_reducible exact tame_noRoom
    | with_reducible exact tame_program
    | with_reducible exact tame_choose
    | with_reducible exact tame_setObj
    | with_reducible exact tame_getObj
    | with_reducible exact tame_frozen
    | with_reducible exact tame_freeze
    | with_reducible exact tame_shape
    | with_reducible exact tame_new
    | with_reducible exact tame_store
    | with_reducible exact tame_load
    | with_reducible refine tame_map ?_ (fun _ => True.intro)
    | with_reducible refine tame_bind ?_ (fun _ => ?_)
    | split
    | dsimp only
    | exact True.intro)
theorem tame_fieldAt {t : TypeId} {v : Value} {n : Nat} : Tame p Any (Instr.fieldAt t v n) := by
  unfold Instr.fieldAt
  repeat' (first
    | with_reducible exact tame_pureA
    | with_reducible exact tame_pureB
    | with_reducible exact tame_stuck
    | with_reducible exact tame_unsup
    | with_reducible exact tame_goPanic
    | with_reducible exact tame_storeAt
    | with_reducible exact tame_loadAt
    | with_reducible exact tame_box
    | with_reducible exact tame_alloc
    | with_reducible exact tame_fieldPlace
    | with_reducible exact tame_partAt
    | with_reducible exact tame_byteOf
    | with_reducible exact tame_typeStr
    | with_reducible exact tame_samePointer
    | with_reducible exact tame_sameAddr
    | with_reducible exact tame_mayBeOne
    | with_reducible exact tame_stringish
    | with_reducible exact tame_markStringish
    | with_reducible exact tame_noView
    | with_reducible exact tame_behindNumber
    | with_reducible exact tame_numberAt
    | with_reducible exact tame_viewAt
    | with_reducible exact tame_sureAddr
    | with_reducible exact tame_asAddr
    | with_reducible exact tame_asAgg
    | with_reducible exact tame_asString
    | with_reducible exact tame_asBool
    | with_reducible exact tame_asInt
    | with_reducible exact tame_asIntOf
    | with_reducible exact tame_boundsPanic
    | with_reducible exact tame_runtimePanic
    | with_reducible exact tame_part
    | with_reducible exact tame_newVar
    | with_reducible exact tame_newRow
    | with_reducible exact tame_storeVar
    | with_reducible exact tame_loadVar
    | with_reducible exact (tame_storeCells _ _)
    | with_reducible exact tame_loadCells
    | with_reducible exact tame_elemOf
    | with_reducible exact tame_isAgg
    | with_reducible exact tame_sizeOf
    | with_reducible exact tame_zeroValue
    | with_reducible exact tame_underlying
    | with_reducible exact tame_typeInfo
    | with_reducible exact tame_room
    | with_reducible exact tame_noRoom
    | with_reducible exact tame_program
    | with_reducible exact tame_choose
    | with_reducible exact tame_setObj
    | with_reducible exact tame_getObj
    | with_reducible exact tame_frozen
    | with_reducible exact tame_freeze
    | with_reducible exact tame_shape
    | with_reducible exact tame_new
    | with_reducible exact tame_store
    | with_reducible exact tame_load
    | with_reducible refine tame_map ?_ (fun _ => True.intro)
    | with_reducible refine tame_bind ?_ (fun _ => ?_)
    | split
    | dsimp only
    | exact True.intro)
theorem tame_field {t : TypeId} {v : Value} {n : Nat} : Tame p Any (Instr.field t v n) := by
  unfold Instr.field
  repeat' (first
    | with_reducible exact tame_pureA
    | with_reducible exact tame_pureB
    | with_reducible exact tame_stuck
    | with_reducible exact tame_unsup
    | with_reducible exact tame_goPanic
    | with_reducible exact tame_fieldAt
    | with_reducible exact tame_storeAt
    | with_reducible exact tame_loadAt
    | with_reducible exact tame_box
    | with_reducible exact tame_alloc
    | with_reducible exact tame_fieldPlace
    | with_reducible exact tame_partAt
    | with_reducible exact tame_byteOf
    | with_reducible exact tame_typeStr
    | with_reducible exact tame_samePointer
    | with_reducible exact tame_sameAddr
    | with_reducible exact tame_mayBeOne
    | with_reducible exact tame_stringish
    | with_reducible exact tame_markStringish
    | with_reducible exact tame_noView
    | with_reducible exact tame_behindNumber
    | with_reducible exact tame_numberAt
    | with_reducible exact tame_viewAt
    | with_reducible exact tame_sureAddr
    | with_reducible exact tame_asAddr
    | with_reducible exact tame_asAgg
    | with_reducible exact tame_asString
    | with_reducible exact tame_asBool
    | with_reducible exact tame_asInt
    | with_reducible exact tame_asIntOf
    | with_reducible exact tame_boundsPanic
    | with_reducible exact tame_runtimePanic
    | with_reducible exact tame_part
    | with_reducible exact tame_newVar
    | with_reducible exact tame_newRow
    | with_reducible exact tame_storeVar
    | with_reducible exact tame_loadVar
    | with_reducible exact (tame_storeCells _ _)
    | with_reducible exact tame_loadCells
    | with_reducible exact tame_elemOf
    | with_reducible exact tame_isAgg
    | with_reducible exact tame_sizeOf
    | with_reducible exact tame_zeroValue
    | with_reducible exact tame_underlying
    | with_reducible exact tame_typeInfo
    | with_reducible exact tame_room
    | with_reducible exact tame_noRoom
    | with_reducible exact tame_program
    | with_reducible exact tame_choose
    | with_reducible exact tame_setObj
    | with_reducible exact tame_getObj
    | with_reducible exact tame_frozen
    | with_reducible exact tame_freeze
    | with_reducible exact tame_shape
    | with_reducible exact tame_new
    | with_reducible exact tame_store
    | with_reducible exact tame_load
    | with_reducible refine tame_map ?_ (fun _ => True.intro)
    | with_reducible refine tame_bind ?_ (fun _ => ?_)
    | split
    | dsimp only
    | exact True.intro)
theorem tame_indexAt {t : TypeId} {v x : Value} : Tame p Any (Instr.indexAt t v x) := by
  unfold Instr.indexAt
  repeat' (first
    | with_reducible exact tame_pureA
    | with_reducible exact tame_pureB
    | with_reducible exact tame_stuck
    | with_reducible exact tame_unsup
    | with_reducible exact tame_goPanic
    | with_reducible exact tame_field
    | with_reducible exact tame_fieldAt
    | with_reducible exact tame_storeAt
    | with_reducible exact tame_loadAt
    | with_reducible exact tame_box
    | with_reducible exact tame_alloc
    | with_reducible exact tame_fieldPlace
    | with_reducible exact tame_partAt
    | with_reducible exact tame_byteOf
    | with_reducible exact tame_typeStr
    | with_reducible exact tame_samePointer
    | with_reducible exact tame_sameAddr
    | with_reducible exact tame_mayBeOne
    | with_reducible exact tame_stringish
    | with_reducible exact tame_markStringish
    | with_reducible exact tame_noView
    | with_reducible exact tame_behindNumber
    | with_reducible exact tame_numberAt
    | with_reducible exact tame_viewAt
    | with_reducible exact tame_sureAddr
    | with_reducible exact tame_asAddr
    | with_reducible exact tame_asAgg
    | with_reducible exact tame_asString
    | with_reducible exact tame_asBool
    | with_reducible exact tame_asInt
    | with_reducible exact tame_asIntOf
    | with_reducible exact tame_boundsPanic
    | with_reducible exact tame_runtimePanic
    | with_reducible exact tame_part
    | with_reducible exact tame_newVar
    | with_reducible exact tame_newRow
    | with_reducible exact tame_storeVar
    | with_reducible exact tame_loadVar
    | with_reducible exact (tame_storeCells _ _)
    | with_reducible exact tame_loadCells
    | with_reducible exact tame_elemOf
    | with_reducible exact tame_isAgg
    | with_reducible exact tame_sizeOf
    | with_reducible exact tame_zeroValue
    | with_reducible exact tame_underlying
    | with_reducible exact tame_typeInfo
    | with_reducible exact tame_room
    | with_reducible exact tame_noRoom
    | with_reducible exact tame_program
    | with_reducible exact tame_choose
    | with_reducible exact tame_setObj
    | with_reducible exact tame_getObj
    | with_reducible exact tame_frozen
    | with_reducible exact tame_freeze
    | with_reducible exact tame_shape
    | with_reducible exact tame_new
    | with_reducible exact tame_store
    | with_reducible exact tame_load
    | with_reducible refine tame_map ?_ (fun _ => True.intro)
    | with_reducible refine tame_bind ?_ (fun _ => ?_)
    | split
    | dsimp only
    | exact True.intro)
theorem tame_index {t : TypeId} {v x : Value} : Tame p Any (Instr.index t v x) := by
  unfold Instr.index
  repeat' (first
    | with_reducible exact tame_pureA
    | with_reducible exact tame_pureB
    | with_reducible exact tame_stuck
    | with_reducible exact tame_unsup
    | with_reducible exact tame_goPanic
    | with_reducible exact tame_indexAt
    | with_reducible exact tame_field
    | with_reducible exact tame_fieldAt
    | with_reducible exact tame_storeAt
    | with_reducible exact tame_loadAt
    | with_reducible exact tame_box
    | with_reducible exact tame_alloc
    | with_reducible exact tame_fieldPlace
    | with_reducible exact tame_partAt
    | with_reducible exact tame_byteOf
    | with_reducible exact tame_typeStr
    | with_reducible exact tame_samePointer
    | with_reducible exact tame_sameAddr
    | with_reducible exact tame_mayBeOne
    | with_reducible exact tame_stringish
    | with_reducible exact tame_markStringish
    | with_reducible exact tame_noView
    | with_reducible exact tame_behindNumber
    | with_reducible exact tame_numberAt
    | with_reducible exact tame_viewAt
    | with_reducible exact tame_sureAddr
    | with_reducible exact tame_asAddr
    | with_reducible exact tame_asAgg
    | with_reducible exact tame_asString
    | with_reducible exact tame_asBool
    | with_reducible exact tame_asInt
    | with_reducible exact tame_asIntOf
    | with_reducible exact tame_boundsPanic
    | with_reducible exact tame_runtimePanic
    | with_reducible exact tame_part
    | with_reducible exact tame_newVar
    | with_reducible exact tame_newRow
    | with_reducible exact tame_storeVar
    | with_reducible exact tame_loadVar
    | with_reducible exact (tame_storeCells _ _)
    | with_reducible exact tame_loadCells
    | with_reducible exact tame_elemOf
    | with_reducible exact tame_isAgg
    | with_reducible exact tame_sizeOf
    | with_reducible exact tame_zeroValue
    | with_reducible exact tame_underlying
    | with_reducible exact tame_typeInfo
    | with_reducible exact tame_room
    | with_reducible exact tame_noRoom
    | with_reducible exact tame_program
    | with_reducible exact tame_choose
    | with_reducible exact tame_setObj
    | with_reducible exact tame_getObj
    | with_reducible exact tame_frozen
    | with_reducible exact tame_freeze
    | with_reducible exact tame_shape
    | with_reducible exact tame_new
    | with_reducible exact tame_store
    | with_reducible exact tame_load
    | with_reducible refine tame_map ?_ (fun _ => True.intro)
    | with_reducible refine tame_bind ?_ (fun _ => ?_)
    | split
    | dsimp only
    | exact True.intro)
theorem tame_sliceBound {x : Value} {y : Nat} {c : BoundsCode} : Tame p Any (Instr.sliceBound x y c) := by
  unfold Instr.sliceBound
  repeat' (first
    | with_reducible exact tame_pureA
    | with_reducible exact tame_pureB
    | with_reducible exact tame_stuck
    | with_reducible exact tame_unsup
    | with_reducible exact tame_goPanic
    | with_reducible exact tame_index
    | with_reducible exact tame_indexAt
    | with_reducible exact tame_field
    | with_reducible exact tame_fieldAt
    | with_reducible exact tame_storeAt
    | with_reducible exact tame_loadAt
    | with_reducible exact tame_box
    | with_reducible exact tame_alloc
    | with_reducible exact tame_fieldPlace
    | with_reducible exact tame_partAt
    | with_reducible exact tame_byteOf
    | with_reducible exact tame_typeStr
    | with_reducible exact tame_samePointer
    | with_reducible exact tame_sameAddr
    | with_reducible exact tame_mayBeOne
    | with_reducible exact tame_stringish
    | with_reducible exact tame_markStringish
    | with_reducible exact tame_noView
    | with_reducible exact tame_behindNumber
    | with_reducible exact tame_numberAt
    | with_reducible exact tame_viewAt
    | with_reducible exact tame_sureAddr
    | with_reducible exact tame_asAddr
    | with_reducible exact tame_asAgg
    | with_reducible exact tame_asString
    | with_reducible exact tame_asBool
    | with_reducible exact tame_asInt
    | with_reducible exact tame_asIntOf
    | with_reducible exact tame_boundsPanic
    | with_reducible exact tame_runtimePanic
    | with_reducible exact tame_part
    | with_reducible exact tame_newVar
    | with_reducible exact tame_newRow
    | with_reducible exact tame_storeVar
    | with_reducible exact tame_loadVar
    | with_reducible exact (tame_storeCells _ _)
    | with_reducible exact tame_loadCells
    | with_reducible exact tame_elemOf
    | with_reducible exact tame_isAgg
    | with_reducible exact tame_sizeOf
    | with_reducible exact tame_zeroValue
    | with_reducible exact tame_underlying
    | with_reducible exact tame_typeInfo
    | with_reducible exact tame_room
    | with_reducible exact tame_noRoom
    | with_reducible exact tame_program
    | with_reducible exact tame_choose
    | with_reducible exact tame_setObj
    | with_reducible exact tame_getObj
    | with_reducible exact tame_frozen
    | with_reducible exact tame_freeze
    | with_reducible exact tame_shape
    | with_reducible exact tame_new
    | with_reducible exact tame_store
    | with_reducible exact tame_load
    | with_reducible refine tame_map ?_ (fun _ => True.intro)
    | with_reducible refine tame_bind ?_ (fun _ => ?_)
    | split
    | dsimp only
    | exact True.intro)
theorem tame_sliceBounds {b : Bool} {l c : Nat} {x y z : Option Value} : Tame p Any (Instr.sliceBounds b l c x y z) := by
  unfold Instr.sliceBounds
  repeat' (first
    | with_reducible exact tame_pureA
    | with_reducible exact tame_pureB
    | with_reducible exact tame_stuck
    | with_reducible exact tame_unsup
    | with_reducible exact tame_goPanic
    | with_reducible exact tame_sliceBound
    | with_reducible exact tame_index
    | with_reducible exact tame_indexAt
    | with_reducible exact tame_field
    | with_reducible exact tame_fieldAt
    | with_reducible exact tame_storeAt
    | with_reducible exact tame_loadAt
    | with_reducible exact tame_box
    | with_reducible exact tame_alloc
    | with_reducible exact tame_fieldPlace
    | with_reducible exact tame_partAt
    | with_reducible exact tame_byteOf
    | with_reducible exact tame_typeStr
    | with_reducible exact tame_samePointer
    | with_reducible exact tame_sameAddr
    | with_reducible exact tame_mayBeOne
    | with_reducible exact tame_stringish
    | with_reducible exact tame_markStringish
    | with_reducible exact tame_noView
    | with_reducible exact tame_behindNumber
    | with_reducible exact tame_numberAt
    | with_reducible exact tame_viewAt
    | with_reducible exact tame_sureAddr
    | with_reducible exact tame_asAddr
    | with_reducible exact tame_asAgg
    | with_reducible exact tame_asString
    | with_reducible exact tame_asBool
    | with_reducible exact tame_asInt
    | with_reducible exact tame_asIntOf
    | with_reducible exact tame_boundsPanic
    | with_reducible exact tame_runtimePanic
    | with_reducible exact tame_part
    | with_reducible exact tame_newVar
    | with_reducible exact tame_newRow
    | with_reducible exact tame_storeVar
    | with_reducible exact tame_loadVar
    | with_reducible exact (tame_storeCells _ _)
    | with_reducible exact tame_loadCells
    | with_reducible exact tame_elemOf
    | with_reducible exact tame_isAgg
    | with_reducible exact tame_sizeOf
    | with_reducible exact tame_zeroValue
    | with_reducible exact tame_underlying
    | with_reducible exact tame_typeInfo
    | with_reducible exact tame_room
    | with_reducible exact tame_noRoom
    | with_reducible exact tame_program
    | with_reducible exact tame_choose
    | with_reducible exact tame_setObj
    | with_reducible exact tame_getObj
    | with_reducible exact tame_frozen
    | with_reducible exact tame_freeze
    | with_reducible exact tame_shape
    | with_reducible exact tame_new
    | with_reducible exact tame_store
    | with_reducible exact tame_load
    | with_reducible refine tame_map ?_ (fun _ => True.intro)
    | with_reducible refine tame_bind ?_ (fun _ => ?_)
    | split
    | dsimp only
    | exact True.intro)
theorem tame_slice {t : TypeId} {v : Value} {x y z : Option Value} : Tame p Any (Instr.slice t v x y z) := by
  unfold Instr.slice
  repeat' (first
    | with_reducible exact tame_pureA
    | with_reducible exact tame_pureB
    | with_reducible exact tame_stuck
    | with_reducible exact tame_unsup
    | with_reducible exact tame_goPanic
    | with_reducible exact tame_sliceBounds
    | with_reducible exact tame_sliceBound
    | with_reducible exact tame_index
    | with_reducible exact tame_indexAt
    | with_reducible exact tame_field
    | with_reducible exact tame_fieldAt
    | with_reducible exact tame_storeAt
    | with_reducible exact tame_loadAt
    | with_reducible exact tame_box
    | with_reducible exact tame_alloc
    | with_reducible exact tame_fieldPlace
    | with_reducible exact tame_partAt
    | with_reducible exact tame_byteOf
    | with_reducible exact tame_typeStr
    | with_reducible exact tame_samePointer
    | with_reducible exact tame_sameAddr
    | with_reducible exact tame_mayBeOne
    | with_reducible exact tame_stringish
    | with_reducible exact tame_markStringish
    | with_reducible exact tame_noView
    | with_reducible exact tame_behindNumber
    | with_reducible exact tame_numberAt
    | with_reducible exact tame_viewAt
    | with_reducible exact tame_sureAddr
    | with_reducible exact tame_asAddr
    | with_reducible exact tame_asAgg
    | with_reducible exact tame_asString
    | with_reducible exact tame_asBool
    | with_reducible exact tame_asInt
    | with_reducible exact tame_asIntOf
    | with_reducible exact tame_boundsPanic
    | with_reducible exact tame_runtimePanic
    | with_reducible exact tame_part
    | with_reducible exact tame_newVar
    | with_reducible exact tame_newRow
    | with_reducible exact tame_storeVar
    | with_reducible exact tame_loadVar
    | with_reducible exact (tame_storeCells _ _)
    | with_reducible exact tame_loadCells
    | with_reducible exact tame_elemOf
    | with_reducible exact tame_isAgg
    | with_reducible exact tame_sizeOf
    | with_reducible exact tame_zeroValue
    | with_reducible exact tame_underlying
    | with_reducible exact tame_typeInfo
    | with_reducible exact tame_room
    | with_reducible exact tame_noRoom
    | with_reducible exact tame_program
    | with_reducible exact tame_choose
    | with_reducible exact tame_setObj
    | with_reducible exact tame_getObj
    | with_reducible exact tame_frozen
    | with_reducible exact tame_freeze
    | with_reducible exact tame_shape
    | with_reducible exact tame_new
    | with_reducible exact tame_store
    | with_reducible exact tame_load
    | with_reducible refine tame_map ?_ (fun _ => True.intro)
    | with_reducible refine tame_bind ?_ (fun _ => ?_)
    | split
    | dsimp only
    | exact True.intro)
theorem tame_sliceAt {t : TypeId} {v : Value} {x y z : Option Value} : Tame p Any (Instr.sliceAt t v x y z) := by
  unfold Instr.sliceAt
  repeat' (first
    | with_reducible exact tame_pureA
    | with_reducible exact tame_pureB
    | with_reducible exact tame_stuck
    | with_reducible exact tame_unsup
    | with_reducible exact tame_goPanic
    | with_reducible exact tame_slice
    | with_reducible exact tame_sliceBounds
    | with_reducible exact tame_sliceBound
    | with_reducible exact tame_index
    | with_reducible exact tame_indexAt
    | with_reducible exact tame_field
    | with_reducible exact tame_fieldAt
    | with_reducible exact tame_storeAt
    | with_reducible exact tame_loadAt
    | with_reducible exact tame_box
    | with_reducible exact tame_alloc
    | with_reducible exact tame_fieldPlace
    | with_reducible exact tame_partAt
    | with_reducible exact tame_byteOf
    | with_reducible exact tame_typeStr
    | with_reducible exact tame_samePointer
    | with_reducible exact tame_sameAddr
    | with_reducible exact tame_mayBeOne
    | with_reducible exact tame_stringish
    | with_reducible exact tame_markStringish
    | with_reducible exact tame_noView
    | with_reducible exact tame_behindNumber
    | with_reducible exact tame_numberAt
    | with_reducible exact tame_viewAt
    | with_reducible exact tame_sureAddr
    | with_reducible exact tame_asAddr
    | with_reducible exact tame_asAgg
    | with_reducible exact tame_asString
    | with_reducible exact tame_asBool
    | with_reducible exact tame_asInt
    | with_reducible exact tame_asIntOf
    | with_reducible exact tame_boundsPanic
    | with_reducible exact tame_runtimePanic
    | with_reducible exact tame_part
    | with_reducible exact tame_newVar
    | with_reducible exact tame_newRow
    | with_reducible exact tame_storeVar
    | with_reducible exact tame_loadVar
    | with_reducible exact (tame_storeCells _ _)
    | with_reducible exact tame_loadCells
    | with_reducible exact tame_elemOf
    | with_reducible exact tame_isAgg
    | with_reducible exact tame_sizeOf
    | with_reducible exact tame_zeroValue
    | with_reducible exact tame_underlying
    | with_reducible exact tame_typeInfo
    | with_reducible exact tame_room
    | with_reducible exact tame_noRoom
    | with_reducible exact tame_program
    | with_reducible exact tame_choose
    | with_reducible exact tame_setObj
    | with_reducible exact tame_getObj
    | with_reducible exact tame_frozen
    | with_reducible exact tame_freeze
    | with_reducible exact tame_shape
    | with_reducible exact tame_new
    | with_reducible exact tame_store
    | with_reducible exact tame_load
    | with_reducible refine tame_map ?_ (fun _ => True.intro)
    | with_reducible refine tame_bind ?_ (fun _ => ?_)
    | split
    | dsimp only
    | exact True.intro)
theorem tame_makeSlice {t : TypeId} {l c : Value} : Tame p Any (Instr.makeSlice t l c) := by
  unfold Instr.makeSlice
  repeat' (first
    | with_reducible exact tame_pureA
    | with_reducible exact tame_pureB
    | with_reducible exact tame_stuck
    | with_reducible exact tame_unsup
    | with_reducible exact tame_goPanic
    | with_reducible exact tame_sliceAt
    | with_reducible exact tame_slice
    | with_reducible exact tame_sliceBounds
    | with_reducible exact tame_sliceBound
    | with_reducible exact tame_index
    | with_reducible exact tame_indexAt
    | with_reducible exact tame_field
    | with_reducible exact tame_fieldAt
    | with_reducible exact tame_storeAt
    | with_reducible exact tame_loadAt
    | with_reducible exact tame_box
    | with_reducible exact tame_alloc
    | with_reducible exact tame_fieldPlace
    | with_reducible exact tame_partAt
    | with_reducible exact tame_byteOf
    | with_reducible exact tame_typeStr
    | with_reducible exact tame_samePointer
    | with_reducible exact tame_sameAddr
    | with_reducible exact tame_mayBeOne
    | with_reducible exact tame_stringish
    | with_reducible exact tame_markStringish
    | with_reducible exact tame_noView
    | with_reducible exact tame_behindNumber
    | with_reducible exact tame_numberAt
    | with_reducible exact tame_viewAt
    | with_reducible exact tame_sureAddr
    | with_reducible exact tame_asAddr
    | with_reducible exact tame_asAgg
    | with_reducible exact tame_asString
    | with_reducible exact tame_asBool
    | with_reducible exact tame_asInt
    | with_reducible exact tame_asIntOf
    | with_reducible exact tame_boundsPanic
    | with_reducible exact tame_runtimePanic
    | with_reducible exact tame_part
    | with_reducible exact tame_newVar
    | with_reducible exact tame_newRow
    | with_reducible exact tame_storeVar
    | with_reducible exact tame_loadVar
    | with_reducible exact (tame_storeCells _ _)
    | with_reducible exact tame_loadCells
    | with_reducible exact tame_elemOf
    | with_reducible exact tame_isAgg
    | with_reducible exact tame_sizeOf
    | with_reducible exact tame_zeroValue
    | with_reducible exact tame_underlying
    | with_reducible exact tame_typeInfo
    | with_reducible exact tame_room
    | with_reducible exact tame_noRoom
    | with_reducible exact tame_program
    | with_reducible exact tame_choose
    | with_reducible exact tame_setObj
    | with_reducible exact tame_getObj
    | with_reducible exact tame_frozen
    | with_reducible exact tame_freeze
    | with_reducible exact tame_shape
    | with_reducible exact tame_new
    | with_reducible exact tame_store
    | with_reducible exact tame_load
    | with_reducible refine tame_map ?_ (fun _ => True.intro)
    | with_reducible refine tame_bind ?_ (fun _ => ?_)
    | split
    | dsimp only
    | exact True.intro)
theorem tame_mapM {γ δ : Type} {f : γ → Sem δ} (hf : ∀ x, Tame p Any (f x)) : ∀ (l : List γ), Tame p Any (l.mapM f)
  | [] => by rw [List.mapM_nil]; exact True.intro
  | x :: l => by
    rw [List.mapM_cons]
    exact tame_bind (hf x) fun _ => tame_bind (tame_mapM hf l) fun _ => tame_pureA
theorem tame_mapMA {γ δ : Type} {f : γ → Sem δ} (hf : ∀ x, Tame p Any (f x)) (l : Array γ) : Tame p Any (l.mapM f) := by
  rw [Array.mapM_eq_mapM_toList]
  exact tame_map (tame_mapM hf _) fun _ => True.intro
theorem tame_places (fs : Array Field) : Tame p Any (fs.mapM fun f => do pure (f.offset, ← sizeOf f.type)) :=
  tame_mapMA (fun f => tame_bind tame_sizeOf fun _ => tame_pureA) fs
theorem tame_build {t : TypeId} {ps : Array (Nat × Value)} : Tame p Any (Instr.build t ps) := by
  unfold Instr.build
  repeat' (first
    | with_reducible exact tame_pureA
    | with_reducible exact tame_pureB
    | with_reducible exact tame_stuck
    | with_reducible exact tame_unsup
    | with_reducible exact tame_goPanic
    | with_reducible exact (tame_places _)
    | with_reducible exact tame_makeSlice
    | with_reducible exact tame_sliceAt
    | with_reducible exact tame_slice
    | with_reducible exact tame_sliceBounds
    | with_reducible exact tame_sliceBound
    | with_reducible exact tame_index
    | with_reducible exact tame_indexAt
    | with_reducible exact tame_field
    | with_reducible exact tame_fieldAt
    | with_reducible exact tame_storeAt
    | with_reducible exact tame_loadAt
    | with_reducible exact tame_box
    | with_reducible exact tame_alloc
    | with_reducible exact tame_fieldPlace
    | with_reducible exact tame_partAt
    | with_reducible exact tame_byteOf
    | with_reducible exact tame_typeStr
    | with_reducible exact tame_samePointer
    | with_reducible exact tame_sameAddr
    | with_reducible exact tame_mayBeOne
    | with_reducible exact tame_stringish
    | with_reducible exact tame_markStringish
    | with_reducible exact tame_noView
    | with_reducible exact tame_behindNumber
    | with_reducible exact tame_numberAt
    | with_reducible exact tame_viewAt
    | with_reducible exact tame_sureAddr
    | with_reducible exact tame_asAddr
    | with_reducible exact tame_asAgg
    | with_reducible exact tame_asString
    | with_reducible exact tame_asBool
    | with_reducible exact tame_asInt
    | with_reducible exact tame_asIntOf
    | with_reducible exact tame_boundsPanic
    | with_reducible exact tame_runtimePanic
    | with_reducible exact tame_part
    | with_reducible exact tame_newVar
    | with_reducible exact tame_newRow
    | with_reducible exact tame_storeVar
    | with_reducible exact tame_loadVar
    | with_reducible exact (tame_storeCells _ _)
    | with_reducible exact tame_loadCells
    | with_reducible exact tame_elemOf
    | with_reducible exact tame_isAgg
    | with_reducible exact tame_sizeOf
    | with_reducible exact tame_zeroValue
    | with_reducible exact tame_underlying
    | with_reducible exact tame_typeInfo
    | with_reducible exact tame_room
    | with_reducible exact tame_noRoom
    | with_reducible exact tame_program
    | with_reducible exact tame_choose
    | with_reducible exact tame_setObj
    | with_reducible exact tame_getObj
    | with_reducible exact tame_frozen
    | with_reducible exact tame_freeze
    | with_reducible exact tame_shape
    | with_reducible exact tame_new
    | with_reducible exact tame_store
    | with_reducible exact tame_load
    | with_reducible refine tame_map ?_ (fun _ => True.intro)
    | with_reducible refine tame_bind ?_ (fun _ => ?_)
    | split
    | dsimp only
    | exact True.intro)
theorem tame_buildSlice {t : TypeId} {n : Nat} {ps : Array (Nat × Value)} : Tame p Any (Instr.buildSlice t n ps) := by
  unfold Instr.buildSlice
  repeat' (first
    | with_reducible exact tame_pureA
    | with_reducible exact tame_pureB
    | with_reducible exact tame_stuck
    | with_reducible exact tame_unsup
    | with_reducible exact tame_goPanic
    | with_reducible exact tame_build
    | with_reducible exact (tame_places _)
    | with_reducible exact tame_makeSlice
    | with_reducible exact tame_sliceAt
    | with_reducible exact tame_slice
    | with_reducible exact tame_sliceBounds
    | with_reducible exact tame_sliceBound
    | with_reducible exact tame_index
    | with_reducible exact tame_indexAt
    | with_reducible exact tame_field
    | with_reducible exact tame_fieldAt
    | with_reducible exact tame_storeAt
    | with_reducible exact tame_loadAt
    | with_reducible exact tame_box
    | with_reducible exact tame_alloc
    | with_reducible exact tame_fieldPlace
    | with_reducible exact tame_partAt
    | with_reducible exact tame_byteOf
    | with_reducible exact tame_typeStr
    | with_reducible exact tame_samePointer
    | with_reducible exact tame_sameAddr
    | with_reducible exact tame_mayBeOne
    | with_reducible exact tame_stringish
    | with_reducible exact tame_markStringish
    | with_reducible exact tame_noView
    | with_reducible exact tame_behindNumber
    | with_reducible exact tame_numberAt
    | with_reducible exact tame_viewAt
    | with_reducible exact tame_sureAddr
    | with_reducible exact tame_asAddr
    | with_reducible exact tame_asAgg
    | with_reducible exact tame_asString
    | with_reducible exact tame_asBool
    | with_reducible exact tame_asInt
    | with_reducible exact tame_asIntOf
    | with_reducible exact tame_boundsPanic
    | with_reducible exact tame_runtimePanic
    | with_reducible exact tame_part
    | with_reducible exact tame_newVar
    | with_reducible exact tame_newRow
    | with_reducible exact tame_storeVar
    | with_reducible exact tame_loadVar
    | with_reducible exact (tame_storeCells _ _)
    | with_reducible exact tame_loadCells
    | with_reducible exact tame_elemOf
    | with_reducible exact tame_isAgg
    | with_reducible exact tame_sizeOf
    | with_reducible exact tame_zeroValue
    | with_reducible exact tame_underlying
    | with_reducible exact tame_typeInfo
    | with_reducible exact tame_room
    | with_reducible exact tame_noRoom
    | with_reducible exact tame_program
    | with_reducible exact tame_choose
    | with_reducible exact tame_setObj
    | with_reducible exact tame_getObj
    | with_reducible exact tame_frozen
    | with_reducible exact tame_freeze
    | with_reducible exact tame_shape
    | with_reducible exact tame_new
    | with_reducible exact tame_store
    | with_reducible exact tame_load
    | with_reducible refine tame_map ?_ (fun _ => True.intro)
    | with_reducible refine tame_bind ?_ (fun _ => ?_)
    | split
    | dsimp only
    | exact True.intro)
theorem tame_makeInterface {t : TypeId} {v : Value} : Tame p Any (Instr.makeInterface t v) := by
  unfold Instr.makeInterface
  repeat' (first
    | with_reducible exact tame_pureA
    | with_reducible exact tame_pureB
    | with_reducible exact tame_stuck
    | with_reducible exact tame_unsup
    | with_reducible exact tame_goPanic
    | with_reducible exact tame_buildSlice
    | with_reducible exact tame_build
    | with_reducible exact (tame_places _)
    | with_reducible exact tame_makeSlice
    | with_reducible exact tame_sliceAt
    | with_reducible exact tame_slice
    | with_reducible exact tame_sliceBounds
    | with_reducible exact tame_sliceBound
    | with_reducible exact tame_index
    | with_reducible exact tame_indexAt
    | with_reducible exact tame_field
    | with_reducible exact tame_fieldAt
    | with_reducible exact tame_storeAt
    | with_reducible exact tame_loadAt
    | with_reducible exact tame_box
    | with_reducible exact tame_alloc
    | with_reducible exact tame_fieldPlace
    | with_reducible exact tame_partAt
    | with_reducible exact tame_byteOf
    | with_reducible exact tame_typeStr
    | with_reducible exact tame_samePointer
    | with_reducible exact tame_sameAddr
    | with_reducible exact tame_mayBeOne
    | with_reducible exact tame_stringish
    | with_reducible exact tame_markStringish
    | with_reducible exact tame_noView
    | with_reducible exact tame_behindNumber
    | with_reducible exact tame_numberAt
    | with_reducible exact tame_viewAt
    | with_reducible exact tame_sureAddr
    | with_reducible exact tame_asAddr
    | with_reducible exact tame_asAgg
    | with_reducible exact tame_asString
    | with_reducible exact tame_asBool
    | with_reducible exact tame_asInt
    | with_reducible exact tame_asIntOf
    | with_reducible exact tame_boundsPanic
    | with_reducible exact tame_runtimePanic
    | with_reducible exact tame_part
    | with_reducible exact tame_newVar
    | with_reducible exact tame_newRow
    | with_reducible exact tame_storeVar
    | with_reducible exact tame_loadVar
    | with_reducible exact (tame_storeCells _ _)
    | with_reducible exact tame_loadCells
    | with_reducible exact tame_elemOf
    | with_reducible exact tame_isAgg
    | with_reducible exact tame_sizeOf
    | with_reducible exact tame_zeroValue
    | with_reducible exact tame_underlying
    | with_reducible exact tame_typeInfo
    | with_reducible exact tame_room
    | with_reducible exact tame_noRoom
    | with_reducible exact tame_program
    | with_reducible exact tame_choose
    | with_reducible exact tame_setObj
    | with_reducible exact tame_getObj
    | with_reducible exact tame_frozen
    | with_reducible exact tame_freeze
    | with_reducible exact tame_shape
    | with_reducible exact tame_new
    | with_reducible exact tame_store
    | with_reducible exact tame_load
    | with_reducible refine tame_map ?_ (fun _ => True.intro)
    | with_reducible refine tame_bind ?_ (fun _ => ?_)
    | split
    | dsimp only
    | exact True.intro)
theorem tame_makeFunc {f : Fn} {a b : Array Value} : Tame p Any (Instr.makeFunc f a b) := by
  unfold Instr.makeFunc
  repeat' (first
    | with_reducible exact tame_pureA
    | with_reducible exact tame_pureB
    | with_reducible exact tame_stuck
    | with_reducible exact tame_unsup
    | with_reducible exact tame_goPanic
    | with_reducible exact tame_makeInterface
    | with_reducible exact tame_buildSlice
    | with_reducible exact tame_build
    | with_reducible exact (tame_places _)
    | with_reducible exact tame_makeSlice
    | with_reducible exact tame_sliceAt
    | with_reducible exact tame_slice
    | with_reducible exact tame_sliceBounds
    | with_reducible exact tame_sliceBound
    | with_reducible exact tame_index
    | with_reducible exact tame_indexAt
    | with_reducible exact tame_field
    | with_reducible exact tame_fieldAt
    | with_reducible exact tame_storeAt
    | with_reducible exact tame_loadAt
    | with_reducible exact tame_box
    | with_reducible exact tame_alloc
    | with_reducible exact tame_fieldPlace
    | with_reducible exact tame_partAt
    | with_reducible exact tame_byteOf
    | with_reducible exact tame_typeStr
    | with_reducible exact tame_samePointer
    | with_reducible exact tame_sameAddr
    | with_reducible exact tame_mayBeOne
    | with_reducible exact tame_stringish
    | with_reducible exact tame_markStringish
    | with_reducible exact tame_noView
    | with_reducible exact tame_behindNumber
    | with_reducible exact tame_numberAt
    | with_reducible exact tame_viewAt
    | with_reducible exact tame_sureAddr
    | with_reducible exact tame_asAddr
    | with_reducible exact tame_asAgg
    | with_reducible exact tame_asString
    | with_reducible exact tame_asBool
    | with_reducible exact tame_asInt
    | with_reducible exact tame_asIntOf
    | with_reducible exact tame_boundsPanic
    | with_reducible exact tame_runtimePanic
    | with_reducible exact tame_part
    | with_reducible exact tame_newVar
    | with_reducible exact tame_newRow
    | with_reducible exact tame_storeVar
    | with_reducible exact tame_loadVar
    | with_reducible exact (tame_storeCells _ _)
    | with_reducible exact tame_loadCells
    | with_reducible exact tame_elemOf
    | with_reducible exact tame_isAgg
    | with_reducible exact tame_sizeOf
    | with_reducible exact tame_zeroValue
    | with_reducible exact tame_underlying
    | with_reducible exact tame_typeInfo
    | with_reducible exact tame_room
    | with_reducible exact tame_noRoom
    | with_reducible exact tame_program
    | with_reducible exact tame_choose
    | with_reducible exact tame_setObj
    | with_reducible exact tame_getObj
    | with_reducible exact tame_frozen
    | with_reducible exact tame_freeze
    | with_reducible exact tame_shape
    | with_reducible exact tame_new
    | with_reducible exact tame_store
    | with_reducible exact tame_load
    | with_reducible refine tame_map ?_ (fun _ => True.intro)
    | with_reducible refine tame_bind ?_ (fun _ => ?_)
    | split
    | dsimp only
    | exact True.intro)
theorem tame_makeChan {t : TypeId} {v : Value} : Tame p Any (Instr.makeChan t v) := by
  unfold Instr.makeChan
  repeat' (first
    | with_reducible exact tame_pureA
    | with_reducible exact tame_pureB
    | with_reducible exact tame_stuck
    | with_reducible exact tame_unsup
    | with_reducible exact tame_goPanic
    | with_reducible exact tame_makeFunc
    | with_reducible exact tame_makeInterface
    | with_reducible exact tame_buildSlice
    | with_reducible exact tame_build
    | with_reducible exact (tame_places _)
    | with_reducible exact tame_makeSlice
    | with_reducible exact tame_sliceAt
    | with_reducible exact tame_slice
    | with_reducible exact tame_sliceBounds
    | with_reducible exact tame_sliceBound
    | with_reducible exact tame_index
    | with_reducible exact tame_indexAt
    | with_reducible exact tame_field
    | with_reducible exact tame_fieldAt
    | with_reducible exact tame_storeAt
    | with_reducible exact tame_loadAt
    | with_reducible exact tame_box
    | with_reducible exact tame_alloc
    | with_reducible exact tame_fieldPlace
    | with_reducible exact tame_partAt
    | with_reducible exact tame_byteOf
    | with_reducible exact tame_typeStr
    | with_reducible exact tame_samePointer
    | with_reducible exact tame_sameAddr
    | with_reducible exact tame_mayBeOne
    | with_reducible exact tame_stringish
    | with_reducible exact tame_markStringish
    | with_reducible exact tame_noView
    | with_reducible exact tame_behindNumber
    | with_reducible exact tame_numberAt
    | with_reducible exact tame_viewAt
    | with_reducible exact tame_sureAddr
    | with_reducible exact tame_asAddr
    | with_reducible exact tame_asAgg
    | with_reducible exact tame_asString
    | with_reducible exact tame_asBool
    | with_reducible exact tame_asInt
    | with_reducible exact tame_asIntOf
    | with_reducible exact tame_boundsPanic
    | with_reducible exact tame_runtimePanic
    | with_reducible exact tame_part
    | with_reducible exact tame_newVar
    | with_reducible exact tame_newRow
    | with_reducible exact tame_storeVar
    | with_reducible exact tame_loadVar
    | with_reducible exact (tame_storeCells _ _)
    | with_reducible exact tame_loadCells
    | with_reducible exact tame_elemOf
    | with_reducible exact tame_isAgg
    | with_reducible exact tame_sizeOf
    | with_reducible exact tame_zeroValue
    | with_reducible exact tame_underlying
    | with_reducible exact tame_typeInfo
    | with_reducible exact tame_room
    | with_reducible exact tame_noRoom
    | with_reducible exact tame_program
    | with_reducible exact tame_choose
    | with_reducible exact tame_setObj
    | with_reducible exact tame_getObj
    | with_reducible exact tame_frozen
    | with_reducible exact tame_freeze
    | with_reducible exact tame_shape
    | with_reducible exact tame_new
    | with_reducible exact tame_store
    | with_reducible exact tame_load
    | with_reducible refine tame_map ?_ (fun _ => True.intro)
    | with_reducible refine tame_bind ?_ (fun _ => ?_)
    | split
    | dsimp only
    | exact True.intro)
theorem tame_extract {v : Value} {n : Nat} : Tame p Any (Instr.extract v n) := by
  unfold Instr.extract
  repeat' (first
    | with_reducible exact tame_pureA
    | with_reducible exact tame_pureB
    | with_reducible exact tame_stuck
    | with_reducible exact tame_unsup
    | with_reducible exact tame_goPanic
    | with_reducible exact tame_makeChan
    | with_reducible exact tame_makeFunc
    | with_reducible exact tame_makeInterface
    | with_reducible exact tame_buildSlice
    | with_reducible exact tame_build
    | with_reducible exact (tame_places _)
    | with_reducible exact tame_makeSlice
    | with_reducible exact tame_sliceAt
    | with_reducible exact tame_slice
    | with_reducible exact tame_sliceBounds
    | with_reducible exact tame_sliceBound
    | with_reducible exact tame_index
    | with_reducible exact tame_indexAt
    | with_reducible exact tame_field
    | with_reducible exact tame_fieldAt
    | with_reducible exact tame_storeAt
    | with_reducible exact tame_loadAt
    | with_reducible exact tame_box
    | with_reducible exact tame_alloc
    | with_reducible exact tame_fieldPlace
    | with_reducible exact tame_partAt
    | with_reducible exact tame_byteOf
    | with_reducible exact tame_typeStr
    | with_reducible exact tame_samePointer
    | with_reducible exact tame_sameAddr
    | with_reducible exact tame_mayBeOne
    | with_reducible exact tame_stringish
    | with_reducible exact tame_markStringish
    | with_reducible exact tame_noView
    | with_reducible exact tame_behindNumber
    | with_reducible exact tame_numberAt
    | with_reducible exact tame_viewAt
    | with_reducible exact tame_sureAddr
    | with_reducible exact tame_asAddr
    | with_reducible exact tame_asAgg
    | with_reducible exact tame_asString
    | with_reducible exact tame_asBool
    | with_reducible exact tame_asInt
    | with_reducible exact tame_asIntOf
    | with_reducible exact tame_boundsPanic
    | with_reducible exact tame_runtimePanic
    | with_reducible exact tame_part
    | with_reducible exact tame_newVar
    | with_reducible exact tame_newRow
    | with_reducible exact tame_storeVar
    | with_reducible exact tame_loadVar
    | with_reducible exact (tame_storeCells _ _)
    | with_reducible exact tame_loadCells
    | with_reducible exact tame_elemOf
    | with_reducible exact tame_isAgg
    | with_reducible exact tame_sizeOf
    | with_reducible exact tame_zeroValue
    | with_reducible exact tame_underlying
    | with_reducible exact tame_typeInfo
    | with_reducible exact tame_room
    | with_reducible exact tame_noRoom
    | with_reducible exact tame_program
    | with_reducible exact tame_choose
    | with_reducible exact tame_setObj
    | with_reducible exact tame_getObj
    | with_reducible exact tame_frozen
    | with_reducible exact tame_freeze
    | with_reducible exact tame_shape
    | with_reducible exact tame_new
    | with_reducible exact tame_store
    | with_reducible exact tame_load
    | with_reducible refine tame_map ?_ (fun _ => True.intro)
    | with_reducible refine tame_bind ?_ (fun _ => ?_)
    | split
    | dsimp only
    | exact True.intro)
theorem tame_range {t : TypeId} {v : Value} : Tame p Any (Instr.range t v) := by
  unfold Instr.range
  repeat' (first
    | with_reducible exact tame_pureA
    | with_reducible exact tame_pureB
    | with_reducible exact tame_stuck
    | with_reducible exact tame_unsup
    | with_reducible exact tame_goPanic
    | with_reducible exact tame_extract
    | with_reducible exact tame_makeChan
    | with_reducible exact tame_makeFunc
    | with_reducible exact tame_makeInterface
    | with_reducible exact tame_buildSlice
    | with_reducible exact tame_build
    | with_reducible exact (tame_places _)
    | with_reducible exact tame_makeSlice
    | with_reducible exact tame_sliceAt
    | with_reducible exact tame_slice
    | with_reducible exact tame_sliceBounds
    | with_reducible exact tame_sliceBound
    | with_reducible exact tame_index
    | with_reducible exact tame_indexAt
    | with_reducible exact tame_field
    | with_reducible exact tame_fieldAt
    | with_reducible exact tame_storeAt
    | with_reducible exact tame_loadAt
    | with_reducible exact tame_box
    | with_reducible exact tame_alloc
    | with_reducible exact tame_fieldPlace
    | with_reducible exact tame_partAt
    | with_reducible exact tame_byteOf
    | with_reducible exact tame_typeStr
    | with_reducible exact tame_samePointer
    | with_reducible exact tame_sameAddr
    | with_reducible exact tame_mayBeOne
    | with_reducible exact tame_stringish
    | with_reducible exact tame_markStringish
    | with_reducible exact tame_noView
    | with_reducible exact tame_behindNumber
    | with_reducible exact tame_numberAt
    | with_reducible exact tame_viewAt
    | with_reducible exact tame_sureAddr
    | with_reducible exact tame_asAddr
    | with_reducible exact tame_asAgg
    | with_reducible exact tame_asString
    | with_reducible exact tame_asBool
    | with_reducible exact tame_asInt
    | with_reducible exact tame_asIntOf
    | with_reducible exact tame_boundsPanic
    | with_reducible exact tame_runtimePanic
    | with_reducible exact tame_part
    | with_reducible exact tame_newVar
    | with_reducible exact tame_newRow
    | with_reducible exact tame_storeVar
    | with_reducible exact tame_loadVar
    | with_reducible exact (tame_storeCells _ _)
    | with_reducible exact tame_loadCells
    | with_reducible exact tame_elemOf
    | with_reducible exact tame_isAgg
    | with_reducible exact tame_sizeOf
    | with_reducible exact tame_zeroValue
    | with_reducible exact tame_underlying
    | with_reducible exact tame_typeInfo
    | with_reducible exact tame_room
    | with_reducible exact tame_noRoom
    | with_reducible exact tame_program
    | with_reducible exact tame_choose
    | with_reducible exact tame_setObj
    | with_reducible exact tame_getObj
    | with_reducible exact tame_frozen
    | with_reducible exact tame_freeze
    | with_reducible exact tame_shape
    | with_reducible exact tame_new
    | with_reducible exact tame_store
    | with_reducible exact tame_load
    | with_reducible refine tame_map ?_ (fun _ => True.intro)
    | with_reducible refine tame_bind ?_ (fun _ => ?_)
    | split
    | dsimp only
    | exact True.intro)
theorem tame_next {v : Value} {b : Bool} {t : TypeId} : Tame p Any (Instr.next v b t) := by
  unfold Instr.next
  repeat' (first
    | with_reducible exact tame_pureA
    | with_reducible exact tame_pureB
    | with_reducible exact tame_stuck
    | with_reducible exact tame_unsup
    | with_reducible exact tame_goPanic
    | with_reducible exact tame_range
    | with_reducible exact tame_extract
    | with_reducible exact tame_makeChan
    | with_reducible exact tame_makeFunc
    | with_reducible exact tame_makeInterface
    | with_reducible exact tame_buildSlice
    | with_reducible exact tame_build
    | with_reducible exact (tame_places _)
    | with_reducible exact tame_makeSlice
    | with_reducible exact tame_sliceAt
    | with_reducible exact tame_slice
    | with_reducible exact tame_sliceBounds
    | with_reducible exact tame_sliceBound
    | with_reducible exact tame_index
    | with_reducible exact tame_indexAt
    | with_reducible exact tame_field
    | with_reducible exact tame_fieldAt
    | with_reducible exact tame_storeAt
    | with_reducible exact tame_loadAt
    | with_reducible exact tame_box
    | with_reducible exact tame_alloc
    | with_reducible exact tame_fieldPlace
    | with_reducible exact tame_partAt
    | with_reducible exact tame_byteOf
    | with_reducible exact tame_typeStr
    | with_reducible exact tame_samePointer
    | with_reducible exact tame_sameAddr
    | with_reducible exact tame_mayBeOne
    | with_reducible exact tame_stringish
    | with_reducible exact tame_markStringish
    | with_reducible exact tame_noView
    | with_reducible exact tame_behindNumber
    | with_reducible exact tame_numberAt
    | with_reducible exact tame_viewAt
    | with_reducible exact tame_sureAddr
    | with_reducible exact tame_asAddr
    | with_reducible exact tame_asAgg
    | with_reducible exact tame_asString
    | with_reducible exact tame_asBool
    | with_reducible exact tame_asInt
    | with_reducible exact tame_asIntOf
    | with_reducible exact tame_boundsPanic
    | with_reducible exact tame_runtimePanic
    | with_reducible exact tame_part
    | with_reducible exact tame_newVar
    | with_reducible exact tame_newRow
    | with_reducible exact tame_storeVar
    | with_reducible exact tame_loadVar
    | with_reducible exact (tame_storeCells _ _)
    | with_reducible exact tame_loadCells
    | with_reducible exact tame_elemOf
    | with_reducible exact tame_isAgg
    | with_reducible exact tame_sizeOf
    | with_reducible exact tame_zeroValue
    | with_reducible exact tame_underlying
    | with_reducible exact tame_typeInfo
    | with_reducible exact tame_room
    | with_reducible exact tame_noRoom
    | with_reducible exact tame_program
    | with_reducible exact tame_choose
    | with_reducible exact tame_setObj
    | with_reducible exact tame_getObj
    | with_reducible exact tame_frozen
    | with_reducible exact tame_freeze
    | with_reducible exact tame_shape
    | with_reducible exact tame_new
    | with_reducible exact tame_store
    | with_reducible exact tame_load
    | with_reducible refine tame_map ?_ (fun _ => True.intro)
    | with_reducible refine tame_bind ?_ (fun _ => ?_)
    | split
    | dsimp only
    | exact True.intro)
theorem tame_len {ts : Array TypeId} {t : TypeId} {as : Array Value} : Tame p Any (Builtin.len_ ts t as) := by
  unfold Builtin.len_
  repeat' (first
    | with_reducible exact tame_pureA
    | with_reducible exact tame_pureB
    | with_reducible exact tame_stuck
    | with_reducible exact tame_unsup
    | with_reducible exact tame_goPanic
    | with_reducible exact tame_next
    | with_reducible exact tame_range
    | with_reducible exact tame_extract
    | with_reducible exact tame_makeChan
    | with_reducible exact tame_makeFunc
    | with_reducible exact tame_makeInterface
    | with_reducible exact tame_buildSlice
    | with_reducible exact tame_build
    | with_reducible exact (tame_places _)
    | with_reducible exact tame_makeSlice
    | with_reducible exact tame_sliceAt
    | with_reducible exact tame_slice
    | with_reducible exact tame_sliceBounds
    | with_reducible exact tame_sliceBound
    | with_reducible exact tame_index
    | with_reducible exact tame_indexAt
    | with_reducible exact tame_field
    | with_reducible exact tame_fieldAt
    | with_reducible exact tame_storeAt
    | with_reducible exact tame_loadAt
    | with_reducible exact tame_box
    | with_reducible exact tame_alloc
    | with_reducible exact tame_fieldPlace
    | with_reducible exact tame_partAt
    | with_reducible exact tame_byteOf
    | with_reducible exact tame_typeStr
    | with_reducible exact tame_samePointer
    | with_reducible exact tame_sameAddr
    | with_reducible exact tame_mayBeOne
    | with_reducible exact tame_stringish
    | with_reducible exact tame_markStringish
    | with_reducible exact tame_noView
    | with_reducible exact tame_behindNumber
    | with_reducible exact tame_numberAt
    | with_reducible exact tame_viewAt
    | with_reducible exact tame_sureAddr
    | with_reducible exact tame_asAddr
    | with_reducible exact tame_asAgg
    | with_reducible exact tame_asString
    | with_reducible exact tame_asBool
    | with_reducible exact tame_asInt
    | with_reducible exact tame_asIntOf
    | with_reducible exact tame_boundsPanic
    | with_reducible exact tame_runtimePanic
    | with_reducible exact tame_part
    | with_reducible exact tame_newVar
    | with_reducible exact tame_newRow
    | with_reducible exact tame_storeVar
    | with_reducible exact tame_loadVar
    | with_reducible exact (tame_storeCells _ _)
    | with_reducible exact tame_loadCells
    | with_reducible exact tame_elemOf
    | with_reducible exact tame_isAgg
    | with_reducible exact tame_sizeOf
    | with_reducible exact tame_zeroValue
    | with_reducible exact tame_underlying
    | with_reducible exact tame_typeInfo
    | with_reducible exact tame_room
    | with_reducible exact tame_noRoom
    | with_reducible exact tame_program
    | with_reducible exact tame_choose
    | with_reducible exact tame_setObj
    | with_reducible exact tame_getObj
    | with_reducible exact tame_frozen
    | with_reducible exact tame_freeze
    | with_reducible exact tame_shape
    | with_reducible exact tame_new
    | with_reducible exact tame_store
    | with_reducible exact tame_load
    | with_reducible refine tame_map ?_ (fun _ => True.intro)
    | with_reducible refine tame_bind ?_ (fun _ => ?_)
    | split
    | dsimp only
    | exact True.intro)
theorem tame_cap {ts : Array TypeId} {t : TypeId} {as : Array Value} : Tame p Any (Builtin.cap_ ts t as) := by
  unfold Builtin.cap_
  repeat' (first
    | with_reducible exact tame_pureA
    | with_reducible exact tame_pureB
    | with_reducible exact tame_stuck
    | with_reducible exact tame_unsup
    | with_reducible exact tame_goPanic
    | with_reducible exact tame_len
    | with_reducible exact tame_next
    | with_reducible exact tame_range
    | with_reducible exact tame_extract
    | with_reducible exact tame_makeChan
    | with_reducible exact tame_makeFunc
    | with_reducible exact tame_makeInterface
    | with_reducible exact tame_buildSlice
    | with_reducible exact tame_build
    | with_reducible exact (tame_places _)
    | with_reducible exact tame_makeSlice
    | with_reducible exact tame_sliceAt
    | with_reducible exact tame_slice
    | with_reducible exact tame_sliceBounds
    | with_reducible exact tame_sliceBound
    | with_reducible exact tame_index
    | with_reducible exact tame_indexAt
    | with_reducible exact tame_field
    | with_reducible exact tame_fieldAt
    | with_reducible exact tame_storeAt
    | with_reducible exact tame_loadAt
    | with_reducible exact tame_box
    | with_reducible exact tame_alloc
    | with_reducible exact tame_fieldPlace
    | with_reducible exact tame_partAt
    | with_reducible exact tame_byteOf
    | with_reducible exact tame_typeStr
    | with_reducible exact tame_samePointer
    | with_reducible exact tame_sameAddr
    | with_reducible exact tame_mayBeOne
    | with_reducible exact tame_stringish
    | with_reducible exact tame_markStringish
    | with_reducible exact tame_noView
    | with_reducible exact tame_behindNumber
    | with_reducible exact tame_numberAt
    | with_reducible exact tame_viewAt
    | with_reducible exact tame_sureAddr
    | with_reducible exact tame_asAddr
    | with_reducible exact tame_asAgg
    | with_reducible exact tame_asString
    | with_reducible exact tame_asBool
    | with_reducible exact tame_asInt
    | with_reducible exact tame_asIntOf
    | with_reducible exact tame_boundsPanic
    | with_reducible exact tame_runtimePanic
    | with_reducible exact tame_part
    | with_reducible exact tame_newVar
    | with_reducible exact tame_newRow
    | with_reducible exact tame_storeVar
    | with_reducible exact tame_loadVar
    | with_reducible exact (tame_storeCells _ _)
    | with_reducible exact tame_loadCells
    | with_reducible exact tame_elemOf
    | with_reducible exact tame_isAgg
    | with_reducible exact tame_sizeOf
    | with_reducible exact tame_zeroValue
    | with_reducible exact tame_underlying
    | with_reducible exact tame_typeInfo
    | with_reducible exact tame_room
    | with_reducible exact tame_noRoom
    | with_reducible exact tame_program
    | with_reducible exact tame_choose
    | with_reducible exact tame_setObj
    | with_reducible exact tame_getObj
    | with_reducible exact tame_frozen
    | with_reducible exact tame_freeze
    | with_reducible exact tame_shape
    | with_reducible exact tame_new
    | with_reducible exact tame_store
    | with_reducible exact tame_load
    | with_reducible refine tame_map ?_ (fun _ => True.intro)
    | with_reducible refine tame_bind ?_ (fun _ => ?_)
    | split
    | dsimp only
    | exact True.intro)
theorem tame_holdsCells {a : Addr} {n : Nat} : Tame p Any (Builtin.holdsCells a n) := by
  unfold Builtin.holdsCells
  repeat' (first
    | with_reducible exact tame_pureA
    | with_reducible exact tame_pureB
    | with_reducible exact tame_stuck
    | with_reducible exact tame_unsup
    | with_reducible exact tame_goPanic
    | with_reducible exact tame_cap
    | with_reducible exact tame_len
    | with_reducible exact tame_next
    | with_reducible exact tame_range
    | with_reducible exact tame_extract
    | with_reducible exact tame_makeChan
    | with_reducible exact tame_makeFunc
    | with_reducible exact tame_makeInterface
    | with_reducible exact tame_buildSlice
    | with_reducible exact tame_build
    | with_reducible exact (tame_places _)
    | with_reducible exact tame_makeSlice
    | with_reducible exact tame_sliceAt
    | with_reducible exact tame_slice
    | with_reducible exact tame_sliceBounds
    | with_reducible exact tame_sliceBound
    | with_reducible exact tame_index
    | with_reducible exact tame_indexAt
    | with_reducible exact tame_field
    | with_reducible exact tame_fieldAt
    | with_reducible exact tame_storeAt
    | with_reducible exact tame_loadAt
    | with_reducible exact tame_box
    | with_reducible exact tame_alloc
    | with_reducible exact tame_fieldPlace
    | with_reducible exact tame_partAt
    | with_reducible exact tame_byteOf
    | with_reducible exact tame_typeStr
    | with_reducible exact tame_samePointer
    | with_reducible exact tame_sameAddr
    | with_reducible exact tame_mayBeOne
    | with_reducible exact tame_stringish
    | with_reducible exact tame_markStringish
    | with_reducible exact tame_noView
    | with_reducible exact tame_behindNumber
    | with_reducible exact tame_numberAt
    | with_reducible exact tame_viewAt
    | with_reducible exact tame_sureAddr
    | with_reducible exact tame_asAddr
    | with_reducible exact tame_asAgg
    | with_reducible exact tame_asString
    | with_reducible exact tame_asBool
    | with_reducible exact tame_asInt
    | with_reducible exact tame_asIntOf
    | with_reducible exact tame_boundsPanic
    | with_reducible exact tame_runtimePanic
    | with_reducible exact tame_part
    | with_reducible exact tame_newVar
    | with_reducible exact tame_newRow
    | with_reducible exact tame_storeVar
    | with_reducible exact tame_loadVar
    | with_reducible exact (tame_storeCells _ _)
    | with_reducible exact tame_loadCells
    | with_reducible exact tame_elemOf
    | with_reducible exact tame_isAgg
    | with_reducible exact tame_sizeOf
    | with_reducible exact tame_zeroValue
    | with_reducible exact tame_underlying
    | with_reducible exact tame_typeInfo
    | with_reducible exact tame_room
    | with_reducible exact tame_noRoom
    | with_reducible exact tame_program
    | with_reducible exact tame_choose
    | with_reducible exact tame_setObj
    | with_reducible exact tame_getObj
    | with_reducible exact tame_frozen
    | with_reducible exact tame_freeze
    | with_reducible exact tame_shape
    | with_reducible exact tame_new
    | with_reducible exact tame_store
    | with_reducible exact tame_load
    | with_reducible refine tame_map ?_ (fun _ => True.intro)
    | with_reducible refine tame_bind ?_ (fun _ => ?_)
    | split
    | dsimp only
    | exact True.intro)
theorem tame_mayShare {a b n : Nat} {o : Option Addr} {x : Value} : Tame p Any (Builtin.mayShare a b n o x) := by
  unfold Builtin.mayShare
  repeat' (first
    | with_reducible exact tame_pureA
    | with_reducible exact tame_pureB
    | with_reducible exact tame_stuck
    | with_reducible exact tame_unsup
    | with_reducible exact tame_goPanic
    | with_reducible exact tame_holdsCells
    | with_reducible exact tame_cap
    | with_reducible exact tame_len
    | with_reducible exact tame_next
    | with_reducible exact tame_range
    | with_reducible exact tame_extract
    | with_reducible exact tame_makeChan
    | with_reducible exact tame_makeFunc
    | with_reducible exact tame_makeInterface
    | with_reducible exact tame_buildSlice
    | with_reducible exact tame_build
    | with_reducible exact (tame_places _)
    | with_reducible exact tame_makeSlice
    | with_reducible exact tame_sliceAt
    | with_reducible exact tame_slice
    | with_reducible exact tame_sliceBounds
    | with_reducible exact tame_sliceBound
    | with_reducible exact tame_index
    | with_reducible exact tame_indexAt
    | with_reducible exact tame_field
    | with_reducible exact tame_fieldAt
    | with_reducible exact tame_storeAt
    | with_reducible exact tame_loadAt
    | with_reducible exact tame_box
    | with_reducible exact tame_alloc
    | with_reducible exact tame_fieldPlace
    | with_reducible exact tame_partAt
    | with_reducible exact tame_byteOf
    | with_reducible exact tame_typeStr
    | with_reducible exact tame_samePointer
    | with_reducible exact tame_sameAddr
    | with_reducible exact tame_mayBeOne
    | with_reducible exact tame_stringish
    | with_reducible exact tame_markStringish
    | with_reducible exact tame_noView
    | with_reducible exact tame_behindNumber
    | with_reducible exact tame_numberAt
    | with_reducible exact tame_viewAt
    | with_reducible exact tame_sureAddr
    | with_reducible exact tame_asAddr
    | with_reducible exact tame_asAgg
    | with_reducible exact tame_asString
    | with_reducible exact tame_asBool
    | with_reducible exact tame_asInt
    | with_reducible exact tame_asIntOf
    | with_reducible exact tame_boundsPanic
    | with_reducible exact tame_runtimePanic
    | with_reducible exact tame_part
    | with_reducible exact tame_newVar
    | with_reducible exact tame_newRow
    | with_reducible exact tame_storeVar
    | with_reducible exact tame_loadVar
    | with_reducible exact (tame_storeCells _ _)
    | with_reducible exact tame_loadCells
    | with_reducible exact tame_elemOf
    | with_reducible exact tame_isAgg
    | with_reducible exact tame_sizeOf
    | with_reducible exact tame_zeroValue
    | with_reducible exact tame_underlying
    | with_reducible exact tame_typeInfo
    | with_reducible exact tame_room
    | with_reducible exact tame_noRoom
    | with_reducible exact tame_program
    | with_reducible exact tame_choose
    | with_reducible exact tame_setObj
    | with_reducible exact tame_getObj
    | with_reducible exact tame_frozen
    | with_reducible exact tame_freeze
    | with_reducible exact tame_shape
    | with_reducible exact tame_new
    | with_reducible exact tame_store
    | with_reducible exact tame_load
    | with_reducible refine tame_map ?_ (fun _ => True.intro)
    | with_reducible refine tame_bind ?_ (fun _ => ?_)
    | split
    | dsimp only
    | exact True.intro)
theorem tame_lenOf {x : Value} : Tame p Any (Builtin.lenOf x) := by
  unfold Builtin.lenOf
  repeat' (first
    | with_reducible exact tame_pureA
    | with_reducible exact tame_pureB
    | with_reducible exact tame_stuck
    | with_reducible exact tame_unsup
    | with_reducible exact tame_goPanic
    | with_reducible exact tame_mayShare
    | with_reducible exact tame_holdsCells
    | with_reducible exact tame_cap
    | with_reducible exact tame_len
    | with_reducible exact tame_next
    | with_reducible exact tame_range
    | with_reducible exact tame_extract
    | with_reducible exact tame_makeChan
    | with_reducible exact tame_makeFunc
    | with_reducible exact tame_makeInterface
    | with_reducible exact tame_buildSlice
    | with_reducible exact tame_build
    | with_reducible exact (tame_places _)
    | with_reducible exact tame_makeSlice
    | with_reducible exact tame_sliceAt
    | with_reducible exact tame_slice
    | with_reducible exact tame_sliceBounds
    | with_reducible exact tame_sliceBound
    | with_reducible exact tame_index
    | with_reducible exact tame_indexAt
    | with_reducible exact tame_field
    | with_reducible exact tame_fieldAt
    | with_reducible exact tame_storeAt
    | with_reducible exact tame_loadAt
    | with_reducible exact tame_box
    | with_reducible exact tame_alloc
    | with_reducible exact tame_fieldPlace
    | with_reducible exact tame_partAt
    | with_reducible exact tame_byteOf
    | with_reducible exact tame_typeStr
    | with_reducible exact tame_samePointer
    | with_reducible exact tame_sameAddr
    | with_reducible exact tame_mayBeOne
    | with_reducible exact tame_stringish
    | with_reducible exact tame_markStringish
    | with_reducible exact tame_noView
    | with_reducible exact tame_behindNumber
    | with_reducible exact tame_numberAt
    | with_reducible exact tame_viewAt
    | with_reducible exact tame_sureAddr
    | with_reducible exact tame_asAddr
    | with_reducible exact tame_asAgg
    | with_reducible exact tame_asString
    | with_reducible exact tame_asBool
    | with_reducible exact tame_asInt
    | with_reducible exact tame_asIntOf
    | with_reducible exact tame_boundsPanic
    | with_reducible exact tame_runtimePanic
    | with_reducible exact tame_part
    | with_reducible exact tame_newVar
    | with_reducible exact tame_newRow
    | with_reducible exact tame_storeVar
    | with_reducible exact tame_loadVar
    | with_reducible exact (tame_storeCells _ _)
    | with_reducible exact tame_loadCells
    | with_reducible exact tame_elemOf
    | with_reducible exact tame_isAgg
    | with_reducible exact tame_sizeOf
    | with_reducible exact tame_zeroValue
    | with_reducible exact tame_underlying
    | with_reducible exact tame_typeInfo
    | with_reducible exact tame_room
    | with_reducible exact tame_noRoom
    | with_reducible exact tame_program
    | with_reducible exact tame_choose
    | with_reducible exact tame_setObj
    | with_reducible exact tame_getObj
    | with_reducible exact tame_frozen
    | with_reducible exact tame_freeze
    | with_reducible exact tame_shape
    | with_reducible exact tame_new
    | with_reducible exact tame_store
    | with_reducible exact tame_load
    | with_reducible refine tame_map ?_ (fun _ => True.intro)
    | with_reducible refine tame_bind ?_ (fun _ => ?_)
    | split
    | dsimp only
    | exact True.intro)
theorem tame_firstCells {a b : Nat} {x : Value} : Tame p Any (Builtin.firstCells a b x) := by
  unfold Builtin.firstCells
  repeat' (first
    | with_reducible exact tame_pureA
    | with_reducible exact tame_pureB
    | with_reducible exact tame_stuck
    | with_reducible exact tame_unsup
    | with_reducible exact tame_goPanic
    | with_reducible exact tame_lenOf
    | with_reducible exact tame_mayShare
    | with_reducible exact tame_holdsCells
    | with_reducible exact tame_cap
    | with_reducible exact tame_len
    | with_reducible exact tame_next
    | with_reducible exact tame_range
    | with_reducible exact tame_extract
    | with_reducible exact tame_makeChan
    | with_reducible exact tame_makeFunc
    | with_reducible exact tame_makeInterface
    | with_reducible exact tame_buildSlice
    | with_reducible exact tame_build
    | with_reducible exact (tame_places _)
    | with_reducible exact tame_makeSlice
    | with_reducible exact tame_sliceAt
    | with_reducible exact tame_slice
    | with_reducible exact tame_sliceBounds
    | with_reducible exact tame_sliceBound
    | with_reducible exact tame_index
    | with_reducible exact tame_indexAt
    | with_reducible exact tame_field
    | with_reducible exact tame_fieldAt
    | with_reducible exact tame_storeAt
    | with_reducible exact tame_loadAt
    | with_reducible exact tame_box
    | with_reducible exact tame_alloc
    | with_reducible exact tame_fieldPlace
    | with_reducible exact tame_partAt
    | with_reducible exact tame_byteOf
    | with_reducible exact tame_typeStr
    | with_reducible exact tame_samePointer
    | with_reducible exact tame_sameAddr
    | with_reducible exact tame_mayBeOne
    | with_reducible exact tame_stringish
    | with_reducible exact tame_markStringish
    | with_reducible exact tame_noView
    | with_reducible exact tame_behindNumber
    | with_reducible exact tame_numberAt
    | with_reducible exact tame_viewAt
    | with_reducible exact tame_sureAddr
    | with_reducible exact tame_asAddr
    | with_reducible exact tame_asAgg
    | with_reducible exact tame_asString
    | with_reducible exact tame_asBool
    | with_reducible exact tame_asInt
    | with_reducible exact tame_asIntOf
    | with_reducible exact tame_boundsPanic
    | with_reducible exact tame_runtimePanic
    | with_reducible exact tame_part
    | with_reducible exact tame_newVar
    | with_reducible exact tame_newRow
    | with_reducible exact tame_storeVar
    | with_reducible exact tame_loadVar
    | with_reducible exact (tame_storeCells _ _)
    | with_reducible exact tame_loadCells
    | with_reducible exact tame_elemOf
    | with_reducible exact tame_isAgg
    | with_reducible exact tame_sizeOf
    | with_reducible exact tame_zeroValue
    | with_reducible exact tame_underlying
    | with_reducible exact tame_typeInfo
    | with_reducible exact tame_room
    | with_reducible exact tame_noRoom
    | with_reducible exact tame_program
    | with_reducible exact tame_choose
    | with_reducible exact tame_setObj
    | with_reducible exact tame_getObj
    | with_reducible exact tame_frozen
    | with_reducible exact tame_freeze
    | with_reducible exact tame_shape
    | with_reducible exact tame_new
    | with_reducible exact tame_store
    | with_reducible exact tame_load
    | with_reducible refine tame_map ?_ (fun _ => True.intro)
    | with_reducible refine tame_bind ?_ (fun _ => ?_)
    | split
    | dsimp only
    | exact True.intro)
theorem tame_copy {ts : Array TypeId} {t : TypeId} {as : Array Value} : Tame p Any (Builtin.copy_ ts t as) := by
  unfold Builtin.copy_
  repeat' (first
    | with_reducible exact tame_pureA
    | with_reducible exact tame_pureB
    | with_reducible exact tame_stuck
    | with_reducible exact tame_unsup
    | with_reducible exact tame_goPanic
    | with_reducible exact tame_firstCells
    | with_reducible exact tame_lenOf
    | with_reducible exact tame_mayShare
    | with_reducible exact tame_holdsCells
    | with_reducible exact tame_cap
    | with_reducible exact tame_len
    | with_reducible exact tame_next
    | with_reducible exact tame_range
    | with_reducible exact tame_extract
    | with_reducible exact tame_makeChan
    | with_reducible exact tame_makeFunc
    | with_reducible exact tame_makeInterface
    | with_reducible exact tame_buildSlice
    | with_reducible exact tame_build
    | with_reducible exact (tame_places _)
    | with_reducible exact tame_makeSlice
    | with_reducible exact tame_sliceAt
    | with_reducible exact tame_slice
    | with_reducible exact tame_sliceBounds
    | with_reducible exact tame_sliceBound
    | with_reducible exact tame_index
    | with_reducible exact tame_indexAt
    | with_reducible exact tame_field
    | with_reducible exact tame_fieldAt
    | with_reducible exact tame_storeAt
    | with_reducible exact tame_loadAt
    | with_reducible exact tame_box
    | with_reducible exact tame_alloc
    | with_reducible exact tame_fieldPlace
    | with_reducible exact tame_partAt
    | with_reducible exact tame_byteOf
    | with_reducible exact tame_typeStr
    | with_reducible exact tame_samePointer
    | with_reducible exact tame_sameAddr
    | with_reducible exact tame_mayBeOne
    | with_reducible exact tame_stringish
    | with_reducible exact tame_markStringish
    | with_reducible exact tame_noView
    | with_reducible exact tame_behindNumber
    | with_reducible exact tame_numberAt
    | with_reducible exact tame_viewAt
    | with_reducible exact tame_sureAddr
    | with_reducible exact tame_asAddr
    | with_reducible exact tame_asAgg
    | with_reducible exact tame_asString
    | with_reducible exact tame_asBool
    | with_reducible exact tame_asInt
    | with_reducible exact tame_asIntOf
    | with_reducible exact tame_boundsPanic
    | with_reducible exact tame_runtimePanic
    | with_reducible exact tame_part
    | with_reducible exact tame_newVar
    | with_reducible exact tame_newRow
    | with_reducible exact tame_storeVar
    | with_reducible exact tame_loadVar
    | with_reducible exact (tame_storeCells _ _)
    | with_reducible exact tame_loadCells
    | with_reducible exact tame_elemOf
    | with_reducible exact tame_isAgg
    | with_reducible exact tame_sizeOf
    | with_reducible exact tame_zeroValue
    | with_reducible exact tame_underlying
    | with_reducible exact tame_typeInfo
    | with_reducible exact tame_room
    | with_reducible exact tame_noRoom
    | with_reducible exact tame_program
    | with_reducible exact tame_choose
    | with_reducible exact tame_setObj
    | with_reducible exact tame_getObj
    | with_reducible exact tame_frozen
    | with_reducible exact tame_freeze
    | with_reducible exact tame_shape
    | with_reducible exact tame_new
    | with_reducible exact tame_store
    | with_reducible exact tame_load
    | with_reducible refine tame_map ?_ (fun _ => True.intro)
    | with_reducible refine tame_bind ?_ (fun _ => ?_)
    | split
    | dsimp only
    | exact True.intro)
theorem tame_stringOp {o : BinOp} {x y : ByteArray} : Tame p Any (Op.stringOp o x y) := by
  unfold Op.stringOp
  repeat' (first
    | with_reducible exact tame_pureA
    | with_reducible exact tame_pureB
    | with_reducible exact tame_stuck
    | with_reducible exact tame_unsup
    | with_reducible exact tame_goPanic
    | with_reducible exact tame_copy
    | with_reducible exact tame_firstCells
    | with_reducible exact tame_lenOf
    | with_reducible exact tame_mayShare
    | with_reducible exact tame_holdsCells
    | with_reducible exact tame_cap
    | with_reducible exact tame_len
    | with_reducible exact tame_next
    | with_reducible exact tame_range
    | with_reducible exact tame_extract
    | with_reducible exact tame_makeChan
    | with_reducible exact tame_makeFunc
    | with_reducible exact tame_makeInterface
    | with_reducible exact tame_buildSlice
    | with_reducible exact tame_build
    | with_reducible exact (tame_places _)
    | with_reducible exact tame_makeSlice
    | with_reducible exact tame_sliceAt
    | with_reducible exact tame_slice
    | with_reducible exact tame_sliceBounds
    | with_reducible exact tame_sliceBound
    | with_reducible exact tame_index
    | with_reducible exact tame_indexAt
    | with_reducible exact tame_field
    | with_reducible exact tame_fieldAt
    | with_reducible exact tame_storeAt
    | with_reducible exact tame_loadAt
    | with_reducible exact tame_box
    | with_reducible exact tame_alloc
    | with_reducible exact tame_fieldPlace
    | with_reducible exact tame_partAt
    | with_reducible exact tame_byteOf
    | with_reducible exact tame_typeStr
    | with_reducible exact tame_samePointer
    | with_reducible exact tame_sameAddr
    | with_reducible exact tame_mayBeOne
    | with_reducible exact tame_stringish
    | with_reducible exact tame_markStringish
    | with_reducible exact tame_noView
    | with_reducible exact tame_behindNumber
    | with_reducible exact tame_numberAt
    | with_reducible exact tame_viewAt
    | with_reducible exact tame_sureAddr
    | with_reducible exact tame_asAddr
    | with_reducible exact tame_asAgg
    | with_reducible exact tame_asString
    | with_reducible exact tame_asBool
    | with_reducible exact tame_asInt
    | with_reducible exact tame_asIntOf
    | with_reducible exact tame_boundsPanic
    | with_reducible exact tame_runtimePanic
    | with_reducible exact tame_part
    | with_reducible exact tame_newVar
    | with_reducible exact tame_newRow
    | with_reducible exact tame_storeVar
    | with_reducible exact tame_loadVar
    | with_reducible exact (tame_storeCells _ _)
    | with_reducible exact tame_loadCells
    | with_reducible exact tame_elemOf
    | with_reducible exact tame_isAgg
    | with_reducible exact tame_sizeOf
    | with_reducible exact tame_zeroValue
    | with_reducible exact tame_underlying
    | with_reducible exact tame_typeInfo
    | with_reducible exact tame_room
    | with_reducible exact tame_noRoom
    | with_reducible exact tame_program
    | with_reducible exact tame_choose
    | with_reducible exact tame_setObj
    | with_reducible exact tame_getObj
    | with_reducible exact tame_frozen
    | with_reducible exact tame_freeze
    | with_reducible exact tame_shape
    | with_reducible exact tame_new
    | with_reducible exact tame_store
    | with_reducible exact tame_load
    | with_reducible refine tame_map ?_ (fun _ => True.intro)
    | with_reducible refine tame_bind ?_ (fun _ => ?_)
    | split
    | dsimp only
    | exact True.intro)
theorem tame_intToInt {k : IntKind} {n : Int} : Tame p Any (Conv.intToInt k n) := by
  unfold Conv.intToInt
  repeat' (first
    | with_reducible exact tame_pureA
    | with_reducible exact tame_pureB
    | with_reducible exact tame_stuck
    | with_reducible exact tame_unsup
    | with_reducible exact tame_goPanic
    | with_reducible exact tame_stringOp
    | with_reducible exact tame_copy
    | with_reducible exact tame_firstCells
    | with_reducible exact tame_lenOf
    | with_reducible exact tame_mayShare
    | with_reducible exact tame_holdsCells
    | with_reducible exact tame_cap
    | with_reducible exact tame_len
    | with_reducible exact tame_next
    | with_reducible exact tame_range
    | with_reducible exact tame_extract
    | with_reducible exact tame_makeChan
    | with_reducible exact tame_makeFunc
    | with_reducible exact tame_makeInterface
    | with_reducible exact tame_buildSlice
    | with_reducible exact tame_build
    | with_reducible exact (tame_places _)
    | with_reducible exact tame_makeSlice
    | with_reducible exact tame_sliceAt
    | with_reducible exact tame_slice
    | with_reducible exact tame_sliceBounds
    | with_reducible exact tame_sliceBound
    | with_reducible exact tame_index
    | with_reducible exact tame_indexAt
    | with_reducible exact tame_field
    | with_reducible exact tame_fieldAt
    | with_reducible exact tame_storeAt
    | with_reducible exact tame_loadAt
    | with_reducible exact tame_box
    | with_reducible exact tame_alloc
    | with_reducible exact tame_fieldPlace
    | with_reducible exact tame_partAt
    | with_reducible exact tame_byteOf
    | with_reducible exact tame_typeStr
    | with_reducible exact tame_samePointer
    | with_reducible exact tame_sameAddr
    | with_reducible exact tame_mayBeOne
    | with_reducible exact tame_stringish
    | with_reducible exact tame_markStringish
    | with_reducible exact tame_noView
    | with_reducible exact tame_behindNumber
    | with_reducible exact tame_numberAt
    | with_reducible exact tame_viewAt
    | with_reducible exact tame_sureAddr
    | with_reducible exact tame_asAddr
    | with_reducible exact tame_asAgg
    | with_reducible exact tame_asString
    | with_reducible exact tame_asBool
    | with_reducible exact tame_asInt
    | with_reducible exact tame_asIntOf
    | with_reducible exact tame_boundsPanic
    | with_reducible exact tame_runtimePanic
    | with_reducible exact tame_part
    | with_reducible exact tame_newVar
    | with_reducible exact tame_newRow
    | with_reducible exact tame_storeVar
    | with_reducible exact tame_loadVar
    | with_reducible exact (tame_storeCells _ _)
    | with_reducible exact tame_loadCells
    | with_reducible exact tame_elemOf
    | with_reducible exact tame_isAgg
    | with_reducible exact tame_sizeOf
    | with_reducible exact tame_zeroValue
    | with_reducible exact tame_underlying
    | with_reducible exact tame_typeInfo
    | with_reducible exact tame_room
    | with_reducible exact tame_noRoom
    | with_reducible exact tame_program
    | with_reducible exact tame_choose
    | with_reducible exact tame_setObj
    | with_reducible exact tame_getObj
    | with_reducible exact tame_frozen
    | with_reducible exact tame_freeze
    | with_reducible exact tame_shape
    | with_reducible exact tame_new
    | with_reducible exact tame_store
    | with_reducible exact tame_load
    | with_reducible refine tame_map ?_ (fun _ => True.intro)
    | with_reducible refine tame_bind ?_ (fun _ => ?_)
    | split
    | dsimp only
    | exact True.intro)
theorem tame_intToString {n : Int} : Tame p Any (Conv.intToString n) := by
  unfold Conv.intToString
  repeat' (first
    | with_reducible exact tame_pureA
    | with_reducible exact tame_pureB
    | with_reducible exact tame_stuck
    | with_reducible exact tame_unsup
    | with_reducible exact tame_goPanic
    | with_reducible exact tame_intToInt
    | with_reducible exact tame_stringOp
    | with_reducible exact tame_copy
    | with_reducible exact tame_firstCells
    | with_reducible exact tame_lenOf
    | with_reducible exact tame_mayShare
    | with_reducible exact tame_holdsCells
    | with_reducible exact tame_cap
    | with_reducible exact tame_len
    | with_reducible exact tame_next
    | with_reducible exact tame_range
    | with_reducible exact tame_extract
    | with_reducible exact tame_makeChan
    | with_reducible exact tame_makeFunc
    | with_reducible exact tame_makeInterface
    | with_reducible exact tame_buildSlice
    | with_reducible exact tame_build
    | with_reducible exact (tame_places _)
    | with_reducible exact tame_makeSlice
    | with_reducible exact tame_sliceAt
    | with_reducible exact tame_slice
    | with_reducible exact tame_sliceBounds
    | with_reducible exact tame_sliceBound
    | with_reducible exact tame_index
    | with_reducible exact tame_indexAt
    | with_reducible exact tame_field
    | with_reducible exact tame_fieldAt
    | with_reducible exact tame_storeAt
    | with_reducible exact tame_loadAt
    | with_reducible exact tame_box
    | with_reducible exact tame_alloc
    | with_reducible exact tame_fieldPlace
    | with_reducible exact tame_partAt
    | with_reducible exact tame_byteOf
    | with_reducible exact tame_typeStr
    | with_reducible exact tame_samePointer
    | with_reducible exact tame_sameAddr
    | with_reducible exact tame_mayBeOne
    | with_reducible exact tame_stringish
    | with_reducible exact tame_markStringish
    | with_reducible exact tame_noView
    | with_reducible exact tame_behindNumber
    | with_reducible exact tame_numberAt
    | with_reducible exact tame_viewAt
    | with_reducible exact tame_sureAddr
    | with_reducible exact tame_asAddr
    | with_reducible exact tame_asAgg
    | with_reducible exact tame_asString
    | with_reducible exact tame_asBool
    | with_reducible exact tame_asInt
    | with_reducible exact tame_asIntOf
    | with_reducible exact tame_boundsPanic
    | with_reducible exact tame_runtimePanic
    | with_reducible exact tame_part
    | with_reducible exact tame_newVar
    | with_reducible exact tame_newRow
    | with_reducible exact tame_storeVar
    | with_reducible exact tame_loadVar
    | with_reducible exact (tame_storeCells _ _)
    | with_reducible exact tame_loadCells
    | with_reducible exact tame_elemOf
    | with_reducible exact tame_isAgg
    | with_reducible exact tame_sizeOf
    | with_reducible exact tame_zeroValue
    | with_reducible exact tame_underlying
    | with_reducible exact tame_typeInfo
    | with_reducible exact tame_room
    | with_reducible exact tame_noRoom
    | with_reducible exact tame_program
    | with_reducible exact tame_choose
    | with_reducible exact tame_setObj
    | with_reducible exact tame_getObj
    | with_reducible exact tame_frozen
    | with_reducible exact tame_freeze
    | with_reducible exact tame_shape
    | with_reducible exact tame_new
    | with_reducible exact tame_store
    | with_reducible exact tame_load
    | with_reducible refine tame_map ?_ (fun _ => True.intro)
    | with_reducible refine tame_bind ?_ (fun _ => ?_)
    | split
    | dsimp only
    | exact True.intro)
theorem tame_stringToBytes {e : TypeId} {s : ByteArray} : Tame p Any (Conv.stringToBytes e s) := by
  unfold Conv.stringToBytes
  repeat' (first
    | with_reducible exact tame_pureA
    | with_reducible exact tame_pureB
    | with_reducible exact tame_stuck
    | with_reducible exact tame_unsup
    | with_reducible exact tame_goPanic
    | with_reducible exact tame_intToString
    | with_reducible exact tame_intToInt
    | with_reducible exact tame_stringOp
    | with_reducible exact tame_copy
    | with_reducible exact tame_firstCells
    | with_reducible exact tame_lenOf
    | with_reducible exact tame_mayShare
    | with_reducible exact tame_holdsCells
    | with_reducible exact tame_cap
    | with_reducible exact tame_len
    | with_reducible exact tame_next
    | with_reducible exact tame_range
    | with_reducible exact tame_extract
    | with_reducible exact tame_makeChan
    | with_reducible exact tame_makeFunc
    | with_reducible exact tame_makeInterface
    | with_reducible exact tame_buildSlice
    | with_reducible exact tame_build
    | with_reducible exact (tame_places _)
    | with_reducible exact tame_makeSlice
    | with_reducible exact tame_sliceAt
    | with_reducible exact tame_slice
    | with_reducible exact tame_sliceBounds
    | with_reducible exact tame_sliceBound
    | with_reducible exact tame_index
    | with_reducible exact tame_indexAt
    | with_reducible exact tame_field
    | with_reducible exact tame_fieldAt
    | with_reducible exact tame_storeAt
    | with_reducible exact tame_loadAt
    | with_reducible exact tame_box
    | with_reducible exact tame_alloc
    | with_reducible exact tame_fieldPlace
    | with_reducible exact tame_partAt
    | with_reducible exact tame_byteOf
    | with_reducible exact tame_typeStr
    | with_reducible exact tame_samePointer
    | with_reducible exact tame_sameAddr
    | with_reducible exact tame_mayBeOne
    | with_reducible exact tame_stringish
    | with_reducible exact tame_markStringish
    | with_reducible exact tame_noView
    | with_reducible exact tame_behindNumber
    | with_reducible exact tame_numberAt
    | with_reducible exact tame_viewAt
    | with_reducible exact tame_sureAddr
    | with_reducible exact tame_asAddr
    | with_reducible exact tame_asAgg
    | with_reducible exact tame_asString
    | with_reducible exact tame_asBool
    | with_reducible exact tame_asInt
    | with_reducible exact tame_asIntOf
    | with_reducible exact tame_boundsPanic
    | with_reducible exact tame_runtimePanic
    | with_reducible exact tame_part
    | with_reducible exact tame_newVar
    | with_reducible exact tame_newRow
    | with_reducible exact tame_storeVar
    | with_reducible exact tame_loadVar
    | with_reducible exact (tame_storeCells _ _)
    | with_reducible exact tame_loadCells
    | with_reducible exact tame_elemOf
    | with_reducible exact tame_isAgg
    | with_reducible exact tame_sizeOf
    | with_reducible exact tame_zeroValue
    | with_reducible exact tame_underlying
    | with_reducible exact tame_typeInfo
    | with_reducible exact tame_room
    | with_reducible exact tame_noRoom
    | with_reducible exact tame_program
    | with_reducible exact tame_choose
    | with_reducible exact tame_setObj
    | with_reducible exact tame_getObj
    | with_reducible exact tame_frozen
    | with_reducible exact tame_freeze
    | with_reducible exact tame_shape
    | with_reducible exact tame_new
    | with_reducible exact tame_store
    | with_reducible exact tame_load
    | with_reducible refine tame_map ?_ (fun _ => True.intro)
    | with_reducible refine tame_bind ?_ (fun _ => ?_)
    | split
    | dsimp only
    | exact True.intro)
theorem tame_shift {o : BinOp} {k j : IntKind} {a b : Int} : Tame p Any (Op.shift o k a j b) := by
  unfold Op.shift
  repeat' (first
    | with_reducible exact tame_pureA
    | with_reducible exact tame_pureB
    | with_reducible exact tame_stuck
    | with_reducible exact tame_unsup
    | with_reducible exact tame_goPanic
    | with_reducible exact tame_stringToBytes
    | with_reducible exact tame_intToString
    | with_reducible exact tame_intToInt
    | with_reducible exact tame_stringOp
    | with_reducible exact tame_copy
    | with_reducible exact tame_firstCells
    | with_reducible exact tame_lenOf
    | with_reducible exact tame_mayShare
    | with_reducible exact tame_holdsCells
    | with_reducible exact tame_cap
    | with_reducible exact tame_len
    | with_reducible exact tame_next
    | with_reducible exact tame_range
    | with_reducible exact tame_extract
    | with_reducible exact tame_makeChan
    | with_reducible exact tame_makeFunc
    | with_reducible exact tame_makeInterface
    | with_reducible exact tame_buildSlice
    | with_reducible exact tame_build
    | with_reducible exact (tame_places _)
    | with_reducible exact tame_makeSlice
    | with_reducible exact tame_sliceAt
    | with_reducible exact tame_slice
    | with_reducible exact tame_sliceBounds
    | with_reducible exact tame_sliceBound
    | with_reducible exact tame_index
    | with_reducible exact tame_indexAt
    | with_reducible exact tame_field
    | with_reducible exact tame_fieldAt
    | with_reducible exact tame_storeAt
    | with_reducible exact tame_loadAt
    | with_reducible exact tame_box
    | with_reducible exact tame_alloc
    | with_reducible exact tame_fieldPlace
    | with_reducible exact tame_partAt
    | with_reducible exact tame_byteOf
    | with_reducible exact tame_typeStr
    | with_reducible exact tame_samePointer
    | with_reducible exact tame_sameAddr
    | with_reducible exact tame_mayBeOne
    | with_reducible exact tame_stringish
    | with_reducible exact tame_markStringish
    | with_reducible exact tame_noView
    | with_reducible exact tame_behindNumber
    | with_reducible exact tame_numberAt
    | with_reducible exact tame_viewAt
    | with_reducible exact tame_sureAddr
    | with_reducible exact tame_asAddr
    | with_reducible exact tame_asAgg
    | with_reducible exact tame_asString
    | with_reducible exact tame_asBool
    | with_reducible exact tame_asInt
    | with_reducible exact tame_asIntOf
    | with_reducible exact tame_boundsPanic
    | with_reducible exact tame_runtimePanic
    | with_reducible exact tame_part
    | with_reducible exact tame_newVar
    | with_reducible exact tame_newRow
    | with_reducible exact tame_storeVar
    | with_reducible exact tame_loadVar
    | with_reducible exact (tame_storeCells _ _)
    | with_reducible exact tame_loadCells
    | with_reducible exact tame_elemOf
    | with_reducible exact tame_isAgg
    | with_reducible exact tame_sizeOf
    | with_reducible exact tame_zeroValue
    | with_reducible exact tame_underlying
    | with_reducible exact tame_typeInfo
    | with_reducible exact tame_room
    | with_reducible exact tame_noRoom
    | with_reducible exact tame_program
    | with_reducible exact tame_choose
    | with_reducible exact tame_setObj
    | with_reducible exact tame_getObj
    | with_reducible exact tame_frozen
    | with_reducible exact tame_freeze
    | with_reducible exact tame_shape
    | with_reducible exact tame_new
    | with_reducible exact tame_store
    | with_reducible exact tame_load
    | with_reducible refine tame_map ?_ (fun _ => True.intro)
    | with_reducible refine tame_bind ?_ (fun _ => ?_)
    | split
    | dsimp only
    | exact True.intro)
theorem tame_intArith {o : BinOp} {k : IntKind} {a b : Int} : Tame p Any (Op.intArith o k a b) := by
  unfold Op.intArith
  repeat' (first
    | with_reducible exact tame_pureA
    | with_reducible exact tame_pureB
    | with_reducible exact tame_stuck
    | with_reducible exact tame_unsup
    | with_reducible exact tame_goPanic
    | with_reducible exact tame_shift
    | with_reducible exact tame_stringToBytes
    | with_reducible exact tame_intToString
    | with_reducible exact tame_intToInt
    | with_reducible exact tame_stringOp
    | with_reducible exact tame_copy
    | with_reducible exact tame_firstCells
    | with_reducible exact tame_lenOf
    | with_reducible exact tame_mayShare
    | with_reducible exact tame_holdsCells
    | with_reducible exact tame_cap
    | with_reducible exact tame_len
    | with_reducible exact tame_next
    | with_reducible exact tame_range
    | with_reducible exact tame_extract
    | with_reducible exact tame_makeChan
    | with_reducible exact tame_makeFunc
    | with_reducible exact tame_makeInterface
    | with_reducible exact tame_buildSlice
    | with_reducible exact tame_build
    | with_reducible exact (tame_places _)
    | with_reducible exact tame_makeSlice
    | with_reducible exact tame_sliceAt
    | with_reducible exact tame_slice
    | with_reducible exact tame_sliceBounds
    | with_reducible exact tame_sliceBound
    | with_reducible exact tame_index
    | with_reducible exact tame_indexAt
    | with_reducible exact tame_field
    | with_reducible exact tame_fieldAt
    | with_reducible exact tame_storeAt
    | with_reducible exact tame_loadAt
    | with_reducible exact tame_box
    | with_reducible exact tame_alloc
    | with_reducible exact tame_fieldPlace
    | with_reducible exact tame_partAt
    | with_reducible exact tame_byteOf
    | with_reducible exact tame_typeStr
    | with_reducible exact tame_samePointer
    | with_reducible exact tame_sameAddr
    | with_reducible exact tame_mayBeOne
    | with_reducible exact tame_stringish
    | with_reducible exact tame_markStringish
    | with_reducible exact tame_noView
    | with_reducible exact tame_behindNumber
    | with_reducible exact tame_numberAt
    | with_reducible exact tame_viewAt
    | with_reducible exact tame_sureAddr
    | with_reducible exact tame_asAddr
    | with_reducible exact tame_asAgg
    | with_reducible exact tame_asString
    | with_reducible exact tame_asBool
    | with_reducible exact tame_asInt
    | with_reducible exact tame_asIntOf
    | with_reducible exact tame_boundsPanic
    | with_reducible exact tame_runtimePanic
    | with_reducible exact tame_part
    | with_reducible exact tame_newVar
    | with_reducible exact tame_newRow
    | with_reducible exact tame_storeVar
    | with_reducible exact tame_loadVar
    | with_reducible exact (tame_storeCells _ _)
    | with_reducible exact tame_loadCells
    | with_reducible exact tame_elemOf
    | with_reducible exact tame_isAgg
    | with_reducible exact tame_sizeOf
    | with_reducible exact tame_zeroValue
    | with_reducible exact tame_underlying
    | with_reducible exact tame_typeInfo
    | with_reducible exact tame_room
    | with_reducible exact tame_noRoom
    | with_reducible exact tame_program
    | with_reducible exact tame_choose
    | with_reducible exact tame_setObj
    | with_reducible exact tame_getObj
    | with_reducible exact tame_frozen
    | with_reducible exact tame_freeze
    | with_reducible exact tame_shape
    | with_reducible exact tame_new
    | with_reducible exact tame_store
    | with_reducible exact tame_load
    | with_reducible refine tame_map ?_ (fun _ => True.intro)
    | with_reducible refine tame_bind ?_ (fun _ => ?_)
    | split
    | dsimp only
    | exact True.intro)
theorem tame_intDiv {o : BinOp} {k : IntKind} {a b : Int} : Tame p Any (Op.intDiv o k a b) := by
  unfold Op.intDiv
  repeat' (first
    | with_reducible exact tame_pureA
    | with_reducible exact tame_pureB
    | with_reducible exact tame_stuck
    | with_reducible exact tame_unsup
    | with_reducible exact tame_goPanic
    | with_reducible exact tame_intArith
    | with_reducible exact tame_shift
    | with_reducible exact tame_stringToBytes
    | with_reducible exact tame_intToString
    | with_reducible exact tame_intToInt
    | with_reducible exact tame_stringOp
    | with_reducible exact tame_copy
    | with_reducible exact tame_firstCells
    | with_reducible exact tame_lenOf
    | with_reducible exact tame_mayShare
    | with_reducible exact tame_holdsCells
    | with_reducible exact tame_cap
    | with_reducible exact tame_len
    | with_reducible exact tame_next
    | with_reducible exact tame_range
    | with_reducible exact tame_extract
    | with_reducible exact tame_makeChan
    | with_reducible exact tame_makeFunc
    | with_reducible exact tame_makeInterface
    | with_reducible exact tame_buildSlice
    | with_reducible exact tame_build
    | with_reducible exact (tame_places _)
    | with_reducible exact tame_makeSlice
    | with_reducible exact tame_sliceAt
    | with_reducible exact tame_slice
    | with_reducible exact tame_sliceBounds
    | with_reducible exact tame_sliceBound
    | with_reducible exact tame_index
    | with_reducible exact tame_indexAt
    | with_reducible exact tame_field
    | with_reducible exact tame_fieldAt
    | with_reducible exact tame_storeAt
    | with_reducible exact tame_loadAt
    | with_reducible exact tame_box
    | with_reducible exact tame_alloc
    | with_reducible exact tame_fieldPlace
    | with_reducible exact tame_partAt
    | with_reducible exact tame_byteOf
    | with_reducible exact tame_typeStr
    | with_reducible exact tame_samePointer
    | with_reducible exact tame_sameAddr
    | with_reducible exact tame_mayBeOne
    | with_reducible exact tame_stringish
    | with_reducible exact tame_markStringish
    | with_reducible exact tame_noView
    | with_reducible exact tame_behindNumber
    | with_reducible exact tame_numberAt
    | with_reducible exact tame_viewAt
    | with_reducible exact tame_sureAddr
    | with_reducible exact tame_asAddr
    | with_reducible exact tame_asAgg
    | with_reducible exact tame_asString
    | with_reducible exact tame_asBool
    | with_reducible exact tame_asInt
    | with_reducible exact tame_asIntOf
    | with_reducible exact tame_boundsPanic
    | with_reducible exact tame_runtimePanic
    | with_reducible exact tame_part
    | with_reducible exact tame_newVar
    | with_reducible exact tame_newRow
    | with_reducible exact tame_storeVar
    | with_reducible exact tame_loadVar
    | with_reducible exact (tame_storeCells _ _)
    | with_reducible exact tame_loadCells
    | with_reducible exact tame_elemOf
    | with_reducible exact tame_isAgg
    | with_reducible exact tame_sizeOf
    | with_reducible exact tame_zeroValue
    | with_reducible exact tame_underlying
    | with_reducible exact tame_typeInfo
    | with_reducible exact tame_room
    | with_reducible exact tame_noRoom
    | with_reducible exact tame_program
    | with_reducible exact tame_choose
    | with_reducible exact tame_setObj
    | with_reducible exact tame_getObj
    | with_reducible exact tame_frozen
    | with_reducible exact tame_freeze
    | with_reducible exact tame_shape
    | with_reducible exact tame_new
    | with_reducible exact tame_store
    | with_reducible exact tame_load
    | with_reducible refine tame_map ?_ (fun _ => True.intro)
    | with_reducible refine tame_bind ?_ (fun _ => ?_)
    | split
    | dsimp only
    | exact True.intro)
theorem tame_intBits {o : BinOp} {k : IntKind} {a b : Int} : Tame p Any (Op.intBits o k a b) := by
  unfold Op.intBits
  repeat' (first
    | with_reducible exact tame_pureA
    | with_reducible exact tame_pureB
    | with_reducible exact tame_stuck
    | with_reducible exact tame_unsup
    | with_reducible exact tame_goPanic
    | with_reducible exact tame_intDiv
    | with_reducible exact tame_intArith
    | with_reducible exact tame_shift
    | with_reducible exact tame_stringToBytes
    | with_reducible exact tame_intToString
    | with_reducible exact tame_intToInt
    | with_reducible exact tame_stringOp
    | with_reducible exact tame_copy
    | with_reducible exact tame_firstCells
    | with_reducible exact tame_lenOf
    | with_reducible exact tame_mayShare
    | with_reducible exact tame_holdsCells
    | with_reducible exact tame_cap
    | with_reducible exact tame_len
    | with_reducible exact tame_next
    | with_reducible exact tame_range
    | with_reducible exact tame_extract
    | with_reducible exact tame_makeChan
    | with_reducible exact tame_makeFunc
    | with_reducible exact tame_makeInterface
    | with_reducible exact tame_buildSlice
    | with_reducible exact tame_build
    | with_reducible exact (tame_places _)
    | with_reducible exact tame_makeSlice
    | with_reducible exact tame_sliceAt
    | with_reducible exact tame_slice
    | with_reducible exact tame_sliceBounds
    | with_reducible exact tame_sliceBound
    | with_reducible exact tame_index
    | with_reducible exact tame_indexAt
    | with_reducible exact tame_field
    | with_reducible exact tame_fieldAt
    | with_reducible exact tame_storeAt
    | with_reducible exact tame_loadAt
    | with_reducible exact tame_box
    | with_reducible exact tame_alloc
    | with_reducible exact tame_fieldPlace
    | with_reducible exact tame_partAt
    | with_reducible exact tame_byteOf
    | with_reducible exact tame_typeStr
    | with_reducible exact tame_samePointer
    | with_reducible exact tame_sameAddr
    | with_reducible exact tame_mayBeOne
    | with_reducible exact tame_stringish
    | with_reducible exact tame_markStringish
    | with_reducible exact tame_noView
    | with_reducible exact tame_behindNumber
    | with_reducible exact tame_numberAt
    | with_reducible exact tame_viewAt
    | with_reducible exact tame_sureAddr
    | with_reducible exact tame_asAddr
    | with_reducible exact tame_asAgg
    | with_reducible exact tame_asString
    | with_reducible exact tame_asBool
    | with_reducible exact tame_asInt
    | with_reducible exact tame_asIntOf
    | with_reducible exact tame_boundsPanic
    | with_reducible exact tame_runtimePanic
    | with_reducible exact tame_part
    | with_reducible exact tame_newVar
    | with_reducible exact tame_newRow
    | with_reducible exact tame_storeVar
    | with_reducible exact tame_loadVar
    | with_reducible exact (tame_storeCells _ _)
    | with_reducible exact tame_loadCells
    | with_reducible exact tame_elemOf
    | with_reducible exact tame_isAgg
    | with_reducible exact tame_sizeOf
    | with_reducible exact tame_zeroValue
    | with_reducible exact tame_underlying
    | with_reducible exact tame_typeInfo
    | with_reducible exact tame_room
    | with_reducible exact tame_noRoom
    | with_reducible exact tame_program
    | with_reducible exact tame_choose
    | with_reducible exact tame_setObj
    | with_reducible exact tame_getObj
    | with_reducible exact tame_frozen
    | with_reducible exact tame_freeze
    | with_reducible exact tame_shape
    | with_reducible exact tame_new
    | with_reducible exact tame_store
    | with_reducible exact tame_load
    | with_reducible refine tame_map ?_ (fun _ => True.intro)
    | with_reducible refine tame_bind ?_ (fun _ => ?_)
    | split
    | dsimp only
    | exact True.intro)
theorem tame_intCmp {o : BinOp} {a b : Int} : Tame p Any (Op.intCmp o a b) := by
  unfold Op.intCmp
  repeat' (first
    | with_reducible exact tame_pureA
    | with_reducible exact tame_pureB
    | with_reducible exact tame_stuck
    | with_reducible exact tame_unsup
    | with_reducible exact tame_goPanic
    | with_reducible exact tame_intBits
    | with_reducible exact tame_intDiv
    | with_reducible exact tame_intArith
    | with_reducible exact tame_shift
    | with_reducible exact tame_stringToBytes
    | with_reducible exact tame_intToString
    | with_reducible exact tame_intToInt
    | with_reducible exact tame_stringOp
    | with_reducible exact tame_copy
    | with_reducible exact tame_firstCells
    | with_reducible exact tame_lenOf
    | with_reducible exact tame_mayShare
    | with_reducible exact tame_holdsCells
    | with_reducible exact tame_cap
    | with_reducible exact tame_len
    | with_reducible exact tame_next
    | with_reducible exact tame_range
    | with_reducible exact tame_extract
    | with_reducible exact tame_makeChan
    | with_reducible exact tame_makeFunc
    | with_reducible exact tame_makeInterface
    | with_reducible exact tame_buildSlice
    | with_reducible exact tame_build
    | with_reducible exact (tame_places _)
    | with_reducible exact tame_makeSlice
    | with_reducible exact tame_sliceAt
    | with_reducible exact tame_slice
    | with_reducible exact tame_sliceBounds
    | with_reducible exact tame_sliceBound
    | with_reducible exact tame_index
    | with_reducible exact tame_indexAt
    | with_reducible exact tame_field
    | with_reducible exact tame_fieldAt
    | with_reducible exact tame_storeAt
    | with_reducible exact tame_loadAt
    | with_reducible exact tame_box
    | with_reducible exact tame_alloc
    | with_reducible exact tame_fieldPlace
    | with_reducible exact tame_partAt
    | with_reducible exact tame_byteOf
    | with_reducible exact tame_typeStr
    | with_reducible exact tame_samePointer
    | with_reducible exact tame_sameAddr
    | with_reducible exact tame_mayBeOne
    | with_reducible exact tame_stringish
    | with_reducible exact tame_markStringish
    | with_reducible exact tame_noView
    | with_reducible exact tame_behindNumber
    | with_reducible exact tame_numberAt
    | with_reducible exact tame_viewAt
    | with_reducible exact tame_sureAddr
    | with_reducible exact tame_asAddr
    | with_reducible exact tame_asAgg
    | with_reducible exact tame_asString
    | with_reducible exact tame_asBool
    | with_reducible exact tame_asInt
    | with_reducible exact tame_asIntOf
    | with_reducible exact tame_boundsPanic
    | with_reducible exact tame_runtimePanic
    | with_reducible exact tame_part
    | with_reducible exact tame_newVar
    | with_reducible exact tame_newRow
    | with_reducible exact tame_storeVar
    | with_reducible exact tame_loadVar
    | with_reducible exact (tame_storeCells _ _)
    | with_reducible exact tame_loadCells
    | with_reducible exact tame_elemOf
    | with_reducible exact tame_isAgg
    | with_reducible exact tame_sizeOf
    | with_reducible exact tame_zeroValue
    | with_reducible exact tame_underlying
    | with_reducible exact tame_typeInfo
    | with_reducible exact tame_room
    | with_reducible exact tame_noRoom
    | with_reducible exact tame_program
    | with_reducible exact tame_choose
    | with_reducible exact tame_setObj
    | with_reducible exact tame_getObj
    | with_reducible exact tame_frozen
    | with_reducible exact tame_freeze
    | with_reducible exact tame_shape
    | with_reducible exact tame_new
    | with_reducible exact tame_store
    | with_reducible exact tame_load
    | with_reducible refine tame_map ?_ (fun _ => True.intro)
    | with_reducible refine tame_bind ?_ (fun _ => ?_)
    | split
    | dsimp only
    | exact True.intro)
theorem tame_unary {o : UnOp} {v : Value} : Tame p Any (Op.unary o v) := by
  unfold Op.unary
  repeat' (first
    | with_reducible exact tame_pureA
    | with_reducible exact tame_pureB
    | with_reducible exact tame_stuck
    | with_reducible exact tame_unsup
    | with_reducible exact tame_goPanic
    | with_reducible exact tame_intCmp
    | with_reducible exact tame_intBits
    | with_reducible exact tame_intDiv
    | with_reducible exact tame_intArith
    | with_reducible exact tame_shift
    | with_reducible exact tame_stringToBytes
    | with_reducible exact tame_intToString
    | with_reducible exact tame_intToInt
    | with_reducible exact tame_stringOp
    | with_reducible exact tame_copy
    | with_reducible exact tame_firstCells
    | with_reducible exact tame_lenOf
    | with_reducible exact tame_mayShare
    | with_reducible exact tame_holdsCells
    | with_reducible exact tame_cap
    | with_reducible exact tame_len
    | with_reducible exact tame_next
    | with_reducible exact tame_range
    | with_reducible exact tame_extract
    | with_reducible exact tame_makeChan
    | with_reducible exact tame_makeFunc
    | with_reducible exact tame_makeInterface
    | with_reducible exact tame_buildSlice
    | with_reducible exact tame_build
    | with_reducible exact (tame_places _)
    | with_reducible exact tame_makeSlice
    | with_reducible exact tame_sliceAt
    | with_reducible exact tame_slice
    | with_reducible exact tame_sliceBounds
    | with_reducible exact tame_sliceBound
    | with_reducible exact tame_index
    | with_reducible exact tame_indexAt
    | with_reducible exact tame_field
    | with_reducible exact tame_fieldAt
    | with_reducible exact tame_storeAt
    | with_reducible exact tame_loadAt
    | with_reducible exact tame_box
    | with_reducible exact tame_alloc
    | with_reducible exact tame_fieldPlace
    | with_reducible exact tame_partAt
    | with_reducible exact tame_byteOf
    | with_reducible exact tame_typeStr
    | with_reducible exact tame_samePointer
    | with_reducible exact tame_sameAddr
    | with_reducible exact tame_mayBeOne
    | with_reducible exact tame_stringish
    | with_reducible exact tame_markStringish
    | with_reducible exact tame_noView
    | with_reducible exact tame_behindNumber
    | with_reducible exact tame_numberAt
    | with_reducible exact tame_viewAt
    | with_reducible exact tame_sureAddr
    | with_reducible exact tame_asAddr
    | with_reducible exact tame_asAgg
    | with_reducible exact tame_asString
    | with_reducible exact tame_asBool
    | with_reducible exact tame_asInt
    | with_reducible exact tame_asIntOf
    | with_reducible exact tame_boundsPanic
    | with_reducible exact tame_runtimePanic
    | with_reducible exact tame_part
    | with_reducible exact tame_newVar
    | with_reducible exact tame_newRow
    | with_reducible exact tame_storeVar
    | with_reducible exact tame_loadVar
    | with_reducible exact (tame_storeCells _ _)
    | with_reducible exact tame_loadCells
    | with_reducible exact tame_elemOf
    | with_reducible exact tame_isAgg
    | with_reducible exact tame_sizeOf
    | with_reducible exact tame_zeroValue
    | with_reducible exact tame_underlying
    | with_reducible exact tame_typeInfo
    | with_reducible exact tame_room
    | with_reducible exact tame_noRoom
    | with_reducible exact tame_program
    | with_reducible exact tame_choose
    | with_reducible exact tame_setObj
    | with_reducible exact tame_getObj
    | with_reducible exact tame_frozen
    | with_reducible exact tame_freeze
    | with_reducible exact tame_shape
    | with_reducible exact tame_new
    | with_reducible exact tame_store
    | with_reducible exact tame_load
    | with_reducible refine tame_map ?_ (fun _ => True.intro)
    | with_reducible refine tame_bind ?_ (fun _ => ?_)
    | split
    | dsimp only
    | exact True.intro)
theorem tame_forIn {γ σ : Type} {f : γ → σ → Sem (ForInStep σ)} (hf : ∀ x s, Tame p Any (f x s)) : ∀ (l : List γ) (s : σ), Tame p Any (forIn l s f)
  | [], s => by rw [List.forIn_nil]; exact tame_pureA
  | x :: l, s => by
    rw [List.forIn_cons]
    refine tame_bind (hf x s) fun r => ?_
    cases r with
    | done b => exact tame_pureA
    | yield b => exact tame_forIn hf l b
theorem tame_forInA {γ σ : Type} {f : γ → σ → Sem (ForInStep σ)} (hf : ∀ x s, Tame p Any (f x s)) (l : Array γ) (s : σ) : Tame p Any (forIn l s f) := by
  rw [← Array.forIn_toList]
  exact tame_forIn hf _ _
theorem tame_bytesToString {x : Value} : Tame p Any (Conv.bytesToString x) := by
  unfold Conv.bytesToString
  split
  · exact tame_pureA
  · refine tame_bind tame_loadCells fun cs => tame_bind (tame_forInA (fun c s => ?_) _ _) fun _ => tame_pureA
    split
    · exact tame_pureA
    · exact tame_bind tame_stuck fun _ => tame_pureA
  · exact tame_stuck
end

end Go.Proofs.Ytlkhknoaifbajaa
