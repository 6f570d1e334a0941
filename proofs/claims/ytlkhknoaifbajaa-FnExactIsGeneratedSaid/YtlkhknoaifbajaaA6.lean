/- Merged: Lt4. -/
import Derived.Test.YtlkhknoaifbajaaA5
/- Operators, conversions and entries: tame. -/
namespace Go.Proofs.Ytlkhknoaifbajaa
open Go Go.Conc
set_option linter.unusedVariables false
set_option linter.unusedSimpArgs false
set_option maxRecDepth 4000
section
variable {p : Program}
theorem tame_cellsIn {r : Nat} : Tame p Any (cellsIn r) := by
  unfold cellsIn
  repeat' (first
    | with_reducible exact tame_pureA
    | with_reducible exact tame_pureB
    | with_reducible exact tame_stuck
    | with_reducible exact tame_unsup
    | with_reducible exact tame_goPanic
    | with_reducible exact tame_bytesToString
    | with_reducible exact tame_append
    | with_reducible exact tame_unary
    | with_reducible exact tame_intCmp
    | with_reducible exact tame_intBits
    | with_reducible exact tame_intDiv
    | with_reducible exact tame_intArith
    | with_reducible exact tame_shift
    | with_reducible exact tame_stringToBytes
    | with_reducible exact tame_intToString
    | with_reducible exact tame_intToInt
    | with_reducible exact tame_stringOp
    | with_reducible exact tame_copy
    | with_reducible exact tame_firstCells
    | with_reducible exact tame_lenOf
    | with_reducible exact tame_mayShare
    | with_reducible exact tame_holdsCells
    | with_reducible exact tame_cap
    | with_reducible exact tame_len
    | with_reducible exact tame_next
    | with_reducible exact tame_range
    | with_reducible exact tame_extract
    | with_reducible exact tame_makeChan
    | with_reducible exact tame_makeFunc
    | with_reducible exact tame_makeInterface
    | with_reducible exact tame_buildSlice
    | with_reducible exact tame_build
    | with_reducible exact (tame_places _)
    | with_reducible exact tame_makeSlice
    | with_reducible exact tame_sliceAt
    | with_reducible exact tame_slice
    | with_reducible exact tame_sliceBounds
    | with_reducible exact tame_sliceBound
    | with_reducible exact tame_index
    | with_reducible exact tame_indexAt
    | with_reducible exact tame_field
    | with_reducible exact tame_fieldAt
    | with_reducible exact tame_storeAt
    | with_reducible exact tame_loadAt
    | with_reducible exact tame_box
    | with_reducible exact tame_alloc
    | with_reducible exact tame_fieldPlace
    | with_reducible exact tame_partAt
    | with_reducible exact tame_byteOf
    | with_reducible exact tame_typeStr
    | with_reducible exact tame_samePointer
    | with_reducible exact tame_sameAddr
    | with_reducible exact tame_mayBeOne
    | with_reducible exact tame_stringish
    | with_reducible exact tame_markStringish
    | with_reducible exact tame_noView
    | with_reducible exact tame_behindNumber
    | with_reducible exact tame_numberAt
    | with_reducible exact tame_viewAt
    | with_reducible exact tame_sureAddr
    | with_reducible exact tame_asAddr
    | with_reducible exact tame_asAgg
    | with_reducible exact tame_asString
    | with_reducible exact tame_asBool
    | with_reducible exact tame_asInt
    | with_reducible exact tame_asIntOf
    | with_reducible exact tame_boundsPanic
    | with_reducible exact tame_runtimePanic
    | with_reducible exact tame_part
    | with_reducible exact tame_newVar
    | with_reducible exact tame_newRow
    | with_reducible exact tame_storeVar
    | with_reducible exact tame_loadVar
    | with_reducible exact (tame_storeCells _ _)
    | with_reducible exact tame_loadCells
    | with_reducible exact tame_elemOf
    | with_reducible exact tame_isAgg
    | with_reducible exact tame_sizeOf
    | with_reducible exact tame_zeroValue
    | with_reducible exact tame_underlying
    | with_reducible exact tame_typeInfo
    | with_reducible exact tame_room
    | with_reducible exact tame_noRoom
    | with_reducible exact tame_program
    | with_reducible exact tame_choose
    | with_reducible exact tame_setObj
    | with_reducible exact tame_getObj
    | with_reducible exact tame_frozen
    | with_reducible exact tame_freeze
    | with_reducible exact tame_shape
    | with_reducible exact tame_new
    | with_reducible exact tame_store
    | with_reducible exact tame_load
    | with_reducible refine tame_map ?_ (fun _ => True.intro)
    | with_reducible refine tame_bind ?_ (fun _ => ?_)
    | split
    | dsimp only
    | exact True.intro)
theorem tame_asNumber {a : Addr} {l : Bool} : Tame p Any (asNumber a l) := by
  unfold asNumber
  repeat' (first
    | with_reducible exact tame_pureA
    | with_reducible exact tame_pureB
    | with_reducible exact tame_stuck
    | with_reducible exact tame_unsup
    | with_reducible exact tame_goPanic
    | with_reducible exact tame_cellsIn
    | with_reducible exact tame_bytesToString
    | with_reducible exact tame_append
    | with_reducible exact tame_unary
    | with_reducible exact tame_intCmp
    | with_reducible exact tame_intBits
    | with_reducible exact tame_intDiv
    | with_reducible exact tame_intArith
    | with_reducible exact tame_shift
    | with_reducible exact tame_stringToBytes
    | with_reducible exact tame_intToString
    | with_reducible exact tame_intToInt
    | with_reducible exact tame_stringOp
    | with_reducible exact tame_copy
    | with_reducible exact tame_firstCells
    | with_reducible exact tame_lenOf
    | with_reducible exact tame_mayShare
    | with_reducible exact tame_holdsCells
    | with_reducible exact tame_cap
    | with_reducible exact tame_len
    | with_reducible exact tame_next
    | with_reducible exact tame_range
    | with_reducible exact tame_extract
    | with_reducible exact tame_makeChan
    | with_reducible exact tame_makeFunc
    | with_reducible exact tame_makeInterface
    | with_reducible exact tame_buildSlice
    | with_reducible exact tame_build
    | with_reducible exact (tame_places _)
    | with_reducible exact tame_makeSlice
    | with_reducible exact tame_sliceAt
    | with_reducible exact tame_slice
    | with_reducible exact tame_sliceBounds
    | with_reducible exact tame_sliceBound
    | with_reducible exact tame_index
    | with_reducible exact tame_indexAt
    | with_reducible exact tame_field
    | with_reducible exact tame_fieldAt
    | with_reducible exact tame_storeAt
    | with_reducible exact tame_loadAt
    | with_reducible exact tame_box
    | with_reducible exact tame_alloc
    | with_reducible exact tame_fieldPlace
    | with_reducible exact tame_partAt
    | with_reducible exact tame_byteOf
    | with_reducible exact tame_typeStr
    | with_reducible exact tame_samePointer
    | with_reducible exact tame_sameAddr
    | with_reducible exact tame_mayBeOne
    | with_reducible exact tame_stringish
    | with_reducible exact tame_markStringish
    | with_reducible exact tame_noView
    | with_reducible exact tame_behindNumber
    | with_reducible exact tame_numberAt
    | with_reducible exact tame_viewAt
    | with_reducible exact tame_sureAddr
    | with_reducible exact tame_asAddr
    | with_reducible exact tame_asAgg
    | with_reducible exact tame_asString
    | with_reducible exact tame_asBool
    | with_reducible exact tame_asInt
    | with_reducible exact tame_asIntOf
    | with_reducible exact tame_boundsPanic
    | with_reducible exact tame_runtimePanic
    | with_reducible exact tame_part
    | with_reducible exact tame_newVar
    | with_reducible exact tame_newRow
    | with_reducible exact tame_storeVar
    | with_reducible exact tame_loadVar
    | with_reducible exact (tame_storeCells _ _)
    | with_reducible exact tame_loadCells
    | with_reducible exact tame_elemOf
    | with_reducible exact tame_isAgg
    | with_reducible exact tame_sizeOf
    | with_reducible exact tame_zeroValue
    | with_reducible exact tame_underlying
    | with_reducible exact tame_typeInfo
    | with_reducible exact tame_room
    | with_reducible exact tame_noRoom
    | with_reducible exact tame_program
    | with_reducible exact tame_choose
    | with_reducible exact tame_setObj
    | with_reducible exact tame_getObj
    | with_reducible exact tame_frozen
    | with_reducible exact tame_freeze
    | with_reducible exact tame_shape
    | with_reducible exact tame_new
    | with_reducible exact tame_store
    | with_reducible exact tame_load
    | with_reducible refine tame_map ?_ (fun _ => True.intro)
    | with_reducible refine tame_bind ?_ (fun _ => ?_)
    | split
    | dsimp only
    | exact True.intro)
theorem tame_twoPlaces {a b : Addr} : Tame p Any (Op.twoPlaces a b) := by
  unfold Op.twoPlaces
  repeat' (first
    | with_reducible exact tame_pureA
    | with_reducible exact tame_pureB
    | with_reducible exact tame_stuck
    | with_reducible exact tame_unsup
    | with_reducible exact tame_goPanic
    | with_reducible exact tame_asNumber
    | with_reducible exact tame_cellsIn
    | with_reducible exact tame_bytesToString
    | with_reducible exact tame_append
    | with_reducible exact tame_unary
    | with_reducible exact tame_intCmp
    | with_reducible exact tame_intBits
    | with_reducible exact tame_intDiv
    | with_reducible exact tame_intArith
    | with_reducible exact tame_shift
    | with_reducible exact tame_stringToBytes
    | with_reducible exact tame_intToString
    | with_reducible exact tame_intToInt
    | with_reducible exact tame_stringOp
    | with_reducible exact tame_copy
    | with_reducible exact tame_firstCells
    | with_reducible exact tame_lenOf
    | with_reducible exact tame_mayShare
    | with_reducible exact tame_holdsCells
    | with_reducible exact tame_cap
    | with_reducible exact tame_len
    | with_reducible exact tame_next
    | with_reducible exact tame_range
    | with_reducible exact tame_extract
    | with_reducible exact tame_makeChan
    | with_reducible exact tame_makeFunc
    | with_reducible exact tame_makeInterface
    | with_reducible exact tame_buildSlice
    | with_reducible exact tame_build
    | with_reducible exact (tame_places _)
    | with_reducible exact tame_makeSlice
    | with_reducible exact tame_sliceAt
    | with_reducible exact tame_slice
    | with_reducible exact tame_sliceBounds
    | with_reducible exact tame_sliceBound
    | with_reducible exact tame_index
    | with_reducible exact tame_indexAt
    | with_reducible exact tame_field
    | with_reducible exact tame_fieldAt
    | with_reducible exact tame_storeAt
    | with_reducible exact tame_loadAt
    | with_reducible exact tame_box
    | with_reducible exact tame_alloc
    | with_reducible exact tame_fieldPlace
    | with_reducible exact tame_partAt
    | with_reducible exact tame_byteOf
    | with_reducible exact tame_typeStr
    | with_reducible exact tame_samePointer
    | with_reducible exact tame_sameAddr
    | with_reducible exact tame_mayBeOne
    | with_reducible exact tame_stringish
    | with_reducible exact tame_markStringish
    | with_reducible exact tame_noView
    | with_reducible exact tame_behindNumber
    | with_reducible exact tame_numberAt
    | with_reducible exact tame_viewAt
    | with_reducible exact tame_sureAddr
    | with_reducible exact tame_asAddr
    | with_reducible exact tame_asAgg
    | with_reducible exact tame_asString
    | with_reducible exact tame_asBool
    | with_reducible exact tame_asInt
    | with_reducible exact tame_asIntOf
    | with_reducible exact tame_boundsPanic
    | with_reducible exact tame_runtimePanic
    | with_reducible exact tame_part
    | with_reducible exact tame_newVar
    | with_reducible exact tame_newRow
    | with_reducible exact tame_storeVar
    | with_reducible exact tame_loadVar
    | with_reducible exact (tame_storeCells _ _)
    | with_reducible exact tame_loadCells
    | with_reducible exact tame_elemOf
    | with_reducible exact tame_isAgg
    | with_reducible exact tame_sizeOf
    | with_reducible exact tame_zeroValue
    | with_reducible exact tame_underlying
    | with_reducible exact tame_typeInfo
    | with_reducible exact tame_room
    | with_reducible exact tame_noRoom
    | with_reducible exact tame_program
    | with_reducible exact tame_choose
    | with_reducible exact tame_setObj
    | with_reducible exact tame_getObj
    | with_reducible exact tame_frozen
    | with_reducible exact tame_freeze
    | with_reducible exact tame_shape
    | with_reducible exact tame_new
    | with_reducible exact tame_store
    | with_reducible exact tame_load
    | with_reducible refine tame_map ?_ (fun _ => True.intro)
    | with_reducible refine tame_bind ?_ (fun _ => ?_)
    | split
    | dsimp only
    | exact True.intro)
theorem tame_addrSub {k : IntKind} {a b : Addr} : Tame p Any (Op.addrSub k a b) := by
  unfold Op.addrSub
  repeat' (first
    | with_reducible exact tame_pureA
    | with_reducible exact tame_pureB
    | with_reducible exact tame_stuck
    | with_reducible exact tame_unsup
    | with_reducible exact tame_goPanic
    | with_reducible exact tame_twoPlaces
    | with_reducible exact tame_asNumber
    | with_reducible exact tame_cellsIn
    | with_reducible exact tame_bytesToString
    | with_reducible exact tame_append
    | with_reducible exact tame_unary
    | with_reducible exact tame_intCmp
    | with_reducible exact tame_intBits
    | with_reducible exact tame_intDiv
    | with_reducible exact tame_intArith
    | with_reducible exact tame_shift
    | with_reducible exact tame_stringToBytes
    | with_reducible exact tame_intToString
    | with_reducible exact tame_intToInt
    | with_reducible exact tame_stringOp
    | with_reducible exact tame_copy
    | with_reducible exact tame_firstCells
    | with_reducible exact tame_lenOf
    | with_reducible exact tame_mayShare
    | with_reducible exact tame_holdsCells
    | with_reducible exact tame_cap
    | with_reducible exact tame_len
    | with_reducible exact tame_next
    | with_reducible exact tame_range
    | with_reducible exact tame_extract
    | with_reducible exact tame_makeChan
    | with_reducible exact tame_makeFunc
    | with_reducible exact tame_makeInterface
    | with_reducible exact tame_buildSlice
    | with_reducible exact tame_build
    | with_reducible exact (tame_places _)
    | with_reducible exact tame_makeSlice
    | with_reducible exact tame_sliceAt
    | with_reducible exact tame_slice
    | with_reducible exact tame_sliceBounds
    | with_reducible exact tame_sliceBound
    | with_reducible exact tame_index
    | with_reducible exact tame_indexAt
    | with_reducible exact tame_field
    | with_reducible exact tame_fieldAt
    | with_reducible exact tame_storeAt
    | with_reducible exact tame_loadAt
    | with_reducible exact tame_box
    | with_reducible exact tame_alloc
    | with_reducible exact tame_fieldPlace
    | with_reducible exact tame_partAt
    | with_reducible exact tame_byteOf
    | with_reducible exact tame_typeStr
    | with_reducible exact tame_samePointer
    | with_reducible exact tame_sameAddr
    | with_reducible exact tame_mayBeOne
    | with_reducible exact tame_stringish
    | with_reducible exact tame_markStringish
    | with_reducible exact tame_noView
    | with_reducible exact tame_behindNumber
    | with_reducible exact tame_numberAt
    | with_reducible exact tame_viewAt
    | with_reducible exact tame_sureAddr
    | with_reducible exact tame_asAddr
    | with_reducible exact tame_asAgg
    | with_reducible exact tame_asString
    | with_reducible exact tame_asBool
    | with_reducible exact tame_asInt
    | with_reducible exact tame_asIntOf
    | with_reducible exact tame_boundsPanic
    | with_reducible exact tame_runtimePanic
    | with_reducible exact tame_part
    | with_reducible exact tame_newVar
    | with_reducible exact tame_newRow
    | with_reducible exact tame_storeVar
    | with_reducible exact tame_loadVar
    | with_reducible exact (tame_storeCells _ _)
    | with_reducible exact tame_loadCells
    | with_reducible exact tame_elemOf
    | with_reducible exact tame_isAgg
    | with_reducible exact tame_sizeOf
    | with_reducible exact tame_zeroValue
    | with_reducible exact tame_underlying
    | with_reducible exact tame_typeInfo
    | with_reducible exact tame_room
    | with_reducible exact tame_noRoom
    | with_reducible exact tame_program
    | with_reducible exact tame_choose
    | with_reducible exact tame_setObj
    | with_reducible exact tame_getObj
    | with_reducible exact tame_frozen
    | with_reducible exact tame_freeze
    | with_reducible exact tame_shape
    | with_reducible exact tame_new
    | with_reducible exact tame_store
    | with_reducible exact tame_load
    | with_reducible refine tame_map ?_ (fun _ => True.intro)
    | with_reducible refine tame_bind ?_ (fun _ => ?_)
    | split
    | dsimp only
    | exact True.intro)
theorem tame_addrCmp {o : BinOp} {a b : Addr} : Tame p Any (Op.addrCmp o a b) := by
  unfold Op.addrCmp
  repeat' (first
    | with_reducible exact tame_pureA
    | with_reducible exact tame_pureB
    | with_reducible exact tame_stuck
    | with_reducible exact tame_unsup
    | with_reducible exact tame_goPanic
    | with_reducible exact tame_addrSub
    | with_reducible exact tame_twoPlaces
    | with_reducible exact tame_asNumber
    | with_reducible exact tame_cellsIn
    | with_reducible exact tame_bytesToString
    | with_reducible exact tame_append
    | with_reducible exact tame_unary
    | with_reducible exact tame_intCmp
    | with_reducible exact tame_intBits
    | with_reducible exact tame_intDiv
    | with_reducible exact tame_intArith
    | with_reducible exact tame_shift
    | with_reducible exact tame_stringToBytes
    | with_reducible exact tame_intToString
    | with_reducible exact tame_intToInt
    | with_reducible exact tame_stringOp
    | with_reducible exact tame_copy
    | with_reducible exact tame_firstCells
    | with_reducible exact tame_lenOf
    | with_reducible exact tame_mayShare
    | with_reducible exact tame_holdsCells
    | with_reducible exact tame_cap
    | with_reducible exact tame_len
    | with_reducible exact tame_next
    | with_reducible exact tame_range
    | with_reducible exact tame_extract
    | with_reducible exact tame_makeChan
    | with_reducible exact tame_makeFunc
    | with_reducible exact tame_makeInterface
    | with_reducible exact tame_buildSlice
    | with_reducible exact tame_build
    | with_reducible exact (tame_places _)
    | with_reducible exact tame_makeSlice
    | with_reducible exact tame_sliceAt
    | with_reducible exact tame_slice
    | with_reducible exact tame_sliceBounds
    | with_reducible exact tame_sliceBound
    | with_reducible exact tame_index
    | with_reducible exact tame_indexAt
    | with_reducible exact tame_field
    | with_reducible exact tame_fieldAt
    | with_reducible exact tame_storeAt
    | with_reducible exact tame_loadAt
    | with_reducible exact tame_box
    | with_reducible exact tame_alloc
    | with_reducible exact tame_fieldPlace
    | with_reducible exact tame_partAt
    | with_reducible exact tame_byteOf
    | with_reducible exact tame_typeStr
    | with_reducible exact tame_samePointer
    | with_reducible exact tame_sameAddr
    | with_reducible exact tame_mayBeOne
    | with_reducible exact tame_stringish
    | with_reducible exact tame_markStringish
    | with_reducible exact tame_noView
    | with_reducible exact tame_behindNumber
    | with_reducible exact tame_numberAt
    | with_reducible exact tame_viewAt
    | with_reducible exact tame_sureAddr
    | with_reducible exact tame_asAddr
    | with_reducible exact tame_asAgg
    | with_reducible exact tame_asString
    | with_reducible exact tame_asBool
    | with_reducible exact tame_asInt
    | with_reducible exact tame_asIntOf
    | with_reducible exact tame_boundsPanic
    | with_reducible exact tame_runtimePanic
    | with_reducible exact tame_part
    | with_reducible exact tame_newVar
    | with_reducible exact tame_newRow
    | with_reducible exact tame_storeVar
    | with_reducible exact tame_loadVar
    | with_reducible exact (tame_storeCells _ _)
    | with_reducible exact tame_loadCells
    | with_reducible exact tame_elemOf
    | with_reducible exact tame_isAgg
    | with_reducible exact tame_sizeOf
    | with_reducible exact tame_zeroValue
    | with_reducible exact tame_underlying
    | with_reducible exact tame_typeInfo
    | with_reducible exact tame_room
    | with_reducible exact tame_noRoom
    | with_reducible exact tame_program
    | with_reducible exact tame_choose
    | with_reducible exact tame_setObj
    | with_reducible exact tame_getObj
    | with_reducible exact tame_frozen
    | with_reducible exact tame_freeze
    | with_reducible exact tame_shape
    | with_reducible exact tame_new
    | with_reducible exact tame_store
    | with_reducible exact tame_load
    | with_reducible refine tame_map ?_ (fun _ => True.intro)
    | with_reducible refine tame_bind ?_ (fun _ => ?_)
    | split
    | dsimp only
    | exact True.intro)
theorem tame_addrMod {k : IntKind} {a : Addr} {n : Int} : Tame p Any (Op.addrMod k a n) := by
  unfold Op.addrMod
  repeat' (first
    | with_reducible exact tame_pureA
    | with_reducible exact tame_pureB
    | with_reducible exact tame_stuck
    | with_reducible exact tame_unsup
    | with_reducible exact tame_goPanic
    | with_reducible exact tame_addrCmp
    | with_reducible exact tame_addrSub
    | with_reducible exact tame_twoPlaces
    | with_reducible exact tame_asNumber
    | with_reducible exact tame_cellsIn
    | with_reducible exact tame_bytesToString
    | with_reducible exact tame_append
    | with_reducible exact tame_unary
    | with_reducible exact tame_intCmp
    | with_reducible exact tame_intBits
    | with_reducible exact tame_intDiv
    | with_reducible exact tame_intArith
    | with_reducible exact tame_shift
    | with_reducible exact tame_stringToBytes
    | with_reducible exact tame_intToString
    | with_reducible exact tame_intToInt
    | with_reducible exact tame_stringOp
    | with_reducible exact tame_copy
    | with_reducible exact tame_firstCells
    | with_reducible exact tame_lenOf
    | with_reducible exact tame_mayShare
    | with_reducible exact tame_holdsCells
    | with_reducible exact tame_cap
    | with_reducible exact tame_len
    | with_reducible exact tame_next
    | with_reducible exact tame_range
    | with_reducible exact tame_extract
    | with_reducible exact tame_makeChan
    | with_reducible exact tame_makeFunc
    | with_reducible exact tame_makeInterface
    | with_reducible exact tame_buildSlice
    | with_reducible exact tame_build
    | with_reducible exact (tame_places _)
    | with_reducible exact tame_makeSlice
    | with_reducible exact tame_sliceAt
    | with_reducible exact tame_slice
    | with_reducible exact tame_sliceBounds
    | with_reducible exact tame_sliceBound
    | with_reducible exact tame_index
    | with_reducible exact tame_indexAt
    | with_reducible exact tame_field
    | with_reducible exact tame_fieldAt
    | with_reducible exact tame_storeAt
    | with_reducible exact tame_loadAt
    | with_reducible exact tame_box
    | with_reducible exact tame_alloc
    | with_reducible exact tame_fieldPlace
    | with_reducible exact tame_partAt
    | with_reducible exact tame_byteOf
    | with_reducible exact tame_typeStr
    | with_reducible exact tame_samePointer
    | with_reducible exact tame_sameAddr
    | with_reducible exact tame_mayBeOne
    | with_reducible exact tame_stringish
    | with_reducible exact tame_markStringish
    | with_reducible exact tame_noView
    | with_reducible exact tame_behindNumber
    | with_reducible exact tame_numberAt
    | with_reducible exact tame_viewAt
    | with_reducible exact tame_sureAddr
    | with_reducible exact tame_asAddr
    | with_reducible exact tame_asAgg
    | with_reducible exact tame_asString
    | with_reducible exact tame_asBool
    | with_reducible exact tame_asInt
    | with_reducible exact tame_asIntOf
    | with_reducible exact tame_boundsPanic
    | with_reducible exact tame_runtimePanic
    | with_reducible exact tame_part
    | with_reducible exact tame_newVar
    | with_reducible exact tame_newRow
    | with_reducible exact tame_storeVar
    | with_reducible exact tame_loadVar
    | with_reducible exact (tame_storeCells _ _)
    | with_reducible exact tame_loadCells
    | with_reducible exact tame_elemOf
    | with_reducible exact tame_isAgg
    | with_reducible exact tame_sizeOf
    | with_reducible exact tame_zeroValue
    | with_reducible exact tame_underlying
    | with_reducible exact tame_typeInfo
    | with_reducible exact tame_room
    | with_reducible exact tame_noRoom
    | with_reducible exact tame_program
    | with_reducible exact tame_choose
    | with_reducible exact tame_setObj
    | with_reducible exact tame_getObj
    | with_reducible exact tame_frozen
    | with_reducible exact tame_freeze
    | with_reducible exact tame_shape
    | with_reducible exact tame_new
    | with_reducible exact tame_store
    | with_reducible exact tame_load
    | with_reducible refine tame_map ?_ (fun _ => True.intro)
    | with_reducible refine tame_bind ?_ (fun _ => ?_)
    | split
    | dsimp only
    | exact True.intro)
theorem tame_floatArith {o : BinOp} {k : FloatKind} {a b : Nat} : Tame p Any (Op.floatArith o k a b) := by
  unfold Op.floatArith
  repeat' (first
    | with_reducible exact tame_pureA
    | with_reducible exact tame_pureB
    | with_reducible exact tame_stuck
    | with_reducible exact tame_unsup
    | with_reducible exact tame_goPanic
    | with_reducible exact tame_addrMod
    | with_reducible exact tame_addrCmp
    | with_reducible exact tame_addrSub
    | with_reducible exact tame_twoPlaces
    | with_reducible exact tame_asNumber
    | with_reducible exact tame_cellsIn
    | with_reducible exact tame_bytesToString
    | with_reducible exact tame_append
    | with_reducible exact tame_unary
    | with_reducible exact tame_intCmp
    | with_reducible exact tame_intBits
    | with_reducible exact tame_intDiv
    | with_reducible exact tame_intArith
    | with_reducible exact tame_shift
    | with_reducible exact tame_stringToBytes
    | with_reducible exact tame_intToString
    | with_reducible exact tame_intToInt
    | with_reducible exact tame_stringOp
    | with_reducible exact tame_copy
    | with_reducible exact tame_firstCells
    | with_reducible exact tame_lenOf
    | with_reducible exact tame_mayShare
    | with_reducible exact tame_holdsCells
    | with_reducible exact tame_cap
    | with_reducible exact tame_len
    | with_reducible exact tame_next
    | with_reducible exact tame_range
    | with_reducible exact tame_extract
    | with_reducible exact tame_makeChan
    | with_reducible exact tame_makeFunc
    | with_reducible exact tame_makeInterface
    | with_reducible exact tame_buildSlice
    | with_reducible exact tame_build
    | with_reducible exact (tame_places _)
    | with_reducible exact tame_makeSlice
    | with_reducible exact tame_sliceAt
    | with_reducible exact tame_slice
    | with_reducible exact tame_sliceBounds
    | with_reducible exact tame_sliceBound
    | with_reducible exact tame_index
    | with_reducible exact tame_indexAt
    | with_reducible exact tame_field
    | with_reducible exact tame_fieldAt
    | with_reducible exact tame_storeAt
    | with_reducible exact tame_loadAt
    | with_reducible exact tame_box
    | with_reducible exact tame_alloc
    | with_reducible exact tame_fieldPlace
    | with_reducible exact tame_partAt
    | with_reducible exact tame_byteOf
    | with_reducible exact tame_typeStr
    | with_reducible exact tame_samePointer
    | with_reducible exact tame_sameAddr
    | with_reducible exact tame_mayBeOne
    | with_reducible exact tame_stringish
    | with_reducible exact tame_markStringish
    | with_reducible exact tame_noView
    | with_reducible exact tame_behindNumber
    | with_reducible exact tame_numberAt
    | with_reducible exact tame_viewAt
    | with_reducible exact tame_sureAddr
    | with_reducible exact tame_asAddr
    | with_reducible exact tame_asAgg
    | with_reducible exact tame_asString
    | with_reducible exact tame_asBool
    | with_reducible exact tame_asInt
    | with_reducible exact tame_asIntOf
    | with_reducible exact tame_boundsPanic
    | with_reducible exact tame_runtimePanic
    | with_reducible exact tame_part
    | with_reducible exact tame_newVar
    | with_reducible exact tame_newRow
    | with_reducible exact tame_storeVar
    | with_reducible exact tame_loadVar
    | with_reducible exact (tame_storeCells _ _)
    | with_reducible exact tame_loadCells
    | with_reducible exact tame_elemOf
    | with_reducible exact tame_isAgg
    | with_reducible exact tame_sizeOf
    | with_reducible exact tame_zeroValue
    | with_reducible exact tame_underlying
    | with_reducible exact tame_typeInfo
    | with_reducible exact tame_room
    | with_reducible exact tame_noRoom
    | with_reducible exact tame_program
    | with_reducible exact tame_choose
    | with_reducible exact tame_setObj
    | with_reducible exact tame_getObj
    | with_reducible exact tame_frozen
    | with_reducible exact tame_freeze
    | with_reducible exact tame_shape
    | with_reducible exact tame_new
    | with_reducible exact tame_store
    | with_reducible exact tame_load
    | with_reducible refine tame_map ?_ (fun _ => True.intro)
    | with_reducible refine tame_bind ?_ (fun _ => ?_)
    | split
    | dsimp only
    | exact True.intro)
theorem tame_floatToFloat {k : FloatKind} {b : Nat} {n : FloatKind} : Tame p Any (Conv.floatToFloat k b n) := by
  unfold Conv.floatToFloat
  repeat' (first
    | with_reducible exact tame_pureA
    | with_reducible exact tame_pureB
    | with_reducible exact tame_stuck
    | with_reducible exact tame_unsup
    | with_reducible exact tame_goPanic
    | with_reducible exact tame_floatArith
    | with_reducible exact tame_addrMod
    | with_reducible exact tame_addrCmp
    | with_reducible exact tame_addrSub
    | with_reducible exact tame_twoPlaces
    | with_reducible exact tame_asNumber
    | with_reducible exact tame_cellsIn
    | with_reducible exact tame_bytesToString
    | with_reducible exact tame_append
    | with_reducible exact tame_unary
    | with_reducible exact tame_intCmp
    | with_reducible exact tame_intBits
    | with_reducible exact tame_intDiv
    | with_reducible exact tame_intArith
    | with_reducible exact tame_shift
    | with_reducible exact tame_stringToBytes
    | with_reducible exact tame_intToString
    | with_reducible exact tame_intToInt
    | with_reducible exact tame_stringOp
    | with_reducible exact tame_copy
    | with_reducible exact tame_firstCells
    | with_reducible exact tame_lenOf
    | with_reducible exact tame_mayShare
    | with_reducible exact tame_holdsCells
    | with_reducible exact tame_cap
    | with_reducible exact tame_len
    | with_reducible exact tame_next
    | with_reducible exact tame_range
    | with_reducible exact tame_extract
    | with_reducible exact tame_makeChan
    | with_reducible exact tame_makeFunc
    | with_reducible exact tame_makeInterface
    | with_reducible exact tame_buildSlice
    | with_reducible exact tame_build
    | with_reducible exact (tame_places _)
    | with_reducible exact tame_makeSlice
    | with_reducible exact tame_sliceAt
    | with_reducible exact tame_slice
    | with_reducible exact tame_sliceBounds
    | with_reducible exact tame_sliceBound
    | with_reducible exact tame_index
    | with_reducible exact tame_indexAt
    | with_reducible exact tame_field
    | with_reducible exact tame_fieldAt
    | with_reducible exact tame_storeAt
    | with_reducible exact tame_loadAt
    | with_reducible exact tame_box
    | with_reducible exact tame_alloc
    | with_reducible exact tame_fieldPlace
    | with_reducible exact tame_partAt
    | with_reducible exact tame_byteOf
    | with_reducible exact tame_typeStr
    | with_reducible exact tame_samePointer
    | with_reducible exact tame_sameAddr
    | with_reducible exact tame_mayBeOne
    | with_reducible exact tame_stringish
    | with_reducible exact tame_markStringish
    | with_reducible exact tame_noView
    | with_reducible exact tame_behindNumber
    | with_reducible exact tame_numberAt
    | with_reducible exact tame_viewAt
    | with_reducible exact tame_sureAddr
    | with_reducible exact tame_asAddr
    | with_reducible exact tame_asAgg
    | with_reducible exact tame_asString
    | with_reducible exact tame_asBool
    | with_reducible exact tame_asInt
    | with_reducible exact tame_asIntOf
    | with_reducible exact tame_boundsPanic
    | with_reducible exact tame_runtimePanic
    | with_reducible exact tame_part
    | with_reducible exact tame_newVar
    | with_reducible exact tame_newRow
    | with_reducible exact tame_storeVar
    | with_reducible exact tame_loadVar
    | with_reducible exact (tame_storeCells _ _)
    | with_reducible exact tame_loadCells
    | with_reducible exact tame_elemOf
    | with_reducible exact tame_isAgg
    | with_reducible exact tame_sizeOf
    | with_reducible exact tame_zeroValue
    | with_reducible exact tame_underlying
    | with_reducible exact tame_typeInfo
    | with_reducible exact tame_room
    | with_reducible exact tame_noRoom
    | with_reducible exact tame_program
    | with_reducible exact tame_choose
    | with_reducible exact tame_setObj
    | with_reducible exact tame_getObj
    | with_reducible exact tame_frozen
    | with_reducible exact tame_freeze
    | with_reducible exact tame_shape
    | with_reducible exact tame_new
    | with_reducible exact tame_store
    | with_reducible exact tame_load
    | with_reducible refine tame_map ?_ (fun _ => True.intro)
    | with_reducible refine tame_bind ?_ (fun _ => ?_)
    | split
    | dsimp only
    | exact True.intro)
theorem tame_floatCmp {o : BinOp} {k : FloatKind} {a b : Nat} : Tame p Any (Op.floatCmp o k a b) := by
  unfold Op.floatCmp
  repeat' (first
    | with_reducible exact tame_pureA
    | with_reducible exact tame_pureB
    | with_reducible exact tame_stuck
    | with_reducible exact tame_unsup
    | with_reducible exact tame_goPanic
    | with_reducible exact tame_floatToFloat
    | with_reducible exact tame_floatArith
    | with_reducible exact tame_addrMod
    | with_reducible exact tame_addrCmp
    | with_reducible exact tame_addrSub
    | with_reducible exact tame_twoPlaces
    | with_reducible exact tame_asNumber
    | with_reducible exact tame_cellsIn
    | with_reducible exact tame_bytesToString
    | with_reducible exact tame_append
    | with_reducible exact tame_unary
    | with_reducible exact tame_intCmp
    | with_reducible exact tame_intBits
    | with_reducible exact tame_intDiv
    | with_reducible exact tame_intArith
    | with_reducible exact tame_shift
    | with_reducible exact tame_stringToBytes
    | with_reducible exact tame_intToString
    | with_reducible exact tame_intToInt
    | with_reducible exact tame_stringOp
    | with_reducible exact tame_copy
    | with_reducible exact tame_firstCells
    | with_reducible exact tame_lenOf
    | with_reducible exact tame_mayShare
    | with_reducible exact tame_holdsCells
    | with_reducible exact tame_cap
    | with_reducible exact tame_len
    | with_reducible exact tame_next
    | with_reducible exact tame_range
    | with_reducible exact tame_extract
    | with_reducible exact tame_makeChan
    | with_reducible exact tame_makeFunc
    | with_reducible exact tame_makeInterface
    | with_reducible exact tame_buildSlice
    | with_reducible exact tame_build
    | with_reducible exact (tame_places _)
    | with_reducible exact tame_makeSlice
    | with_reducible exact tame_sliceAt
    | with_reducible exact tame_slice
    | with_reducible exact tame_sliceBounds
    | with_reducible exact tame_sliceBound
    | with_reducible exact tame_index
    | with_reducible exact tame_indexAt
    | with_reducible exact tame_field
    | with_reducible exact tame_fieldAt
    | with_reducible exact tame_storeAt
    | with_reducible exact tame_loadAt
    | with_reducible exact tame_box
    | with_reducible exact tame_alloc
    | with_reducible exact tame_fieldPlace
    | with_reducible exact tame_partAt
    | with_reducible exact tame_byteOf
    | with_reducible exact tame_typeStr
    | with_reducible exact tame_samePointer
    | with_reducible exact tame_sameAddr
    | with_reducible exact tame_mayBeOne
    | with_reducible exact tame_stringish
    | with_reducible exact tame_markStringish
    | with_reducible exact tame_noView
    | with_reducible exact tame_behindNumber
    | with_reducible exact tame_numberAt
    | with_reducible exact tame_viewAt
    | with_reducible exact tame_sureAddr
    | with_reducible exact tame_asAddr
    | with_reducible exact tame_asAgg
    | with_reducible exact tame_asString
    | with_reducible exact tame_asBool
    | with_reducible exact tame_asInt
    | with_reducible exact tame_asIntOf
    | with_reducible exact tame_boundsPanic
    | with_reducible exact tame_runtimePanic
    | with_reducible exact tame_part
    | with_reducible exact tame_newVar
    | with_reducible exact tame_newRow
    | with_reducible exact tame_storeVar
    | with_reducible exact tame_loadVar
    | with_reducible exact (tame_storeCells _ _)
    | with_reducible exact tame_loadCells
    | with_reducible exact tame_elemOf
    | with_reducible exact tame_isAgg
    | with_reducible exact tame_sizeOf
    | with_reducible exact tame_zeroValue
    | with_reducible exact tame_underlying
    | with_reducible exact tame_typeInfo
    | with_reducible exact tame_room
    | with_reducible exact tame_noRoom
    | with_reducible exact tame_program
    | with_reducible exact tame_choose
    | with_reducible exact tame_setObj
    | with_reducible exact tame_getObj
    | with_reducible exact tame_frozen
    | with_reducible exact tame_freeze
    | with_reducible exact tame_shape
    | with_reducible exact tame_new
    | with_reducible exact tame_store
    | with_reducible exact tame_load
    | with_reducible refine tame_map ?_ (fun _ => True.intro)
    | with_reducible refine tame_bind ?_ (fun _ => ?_)
    | split
    | dsimp only
    | exact True.intro)
theorem tame_forInR {σ : Type} {f : Nat → σ → Sem (ForInStep σ)} (hf : ∀ x s, Tame p Any (f x s)) (n : Nat) (s : σ) : Tame p Any (forIn [0:n] s f) := by
  rw [Std.Legacy.Range.forIn_eq_forIn_range']
  exact tame_forIn hf _ _
theorem tame_equalIn : ∀ (d : Nat) (t : TypeId) (x y : Value), Tame p Any (Op.equalIn d t x y)
  | 0, _, _, _ => tame_unsup
  | d + 1, t, x, y => by
    have ih : ∀ (t : TypeId) (x y : Value), Tame p Any (Op.equalIn d t x y) := tame_equalIn d
    unfold Op.equalIn
    refine tame_bind tame_underlying fun u => ?_
    repeat' (first
      | with_reducible exact tame_pureA
      | with_reducible exact tame_pureB
      | with_reducible exact tame_stuck
      | with_reducible exact tame_unsup
      | with_reducible exact tame_goPanic
      | with_reducible exact (ih _ _ _)
      | with_reducible refine tame_forInA (fun _ _ => ?_) _ _
      | with_reducible refine tame_forInR (fun _ _ => ?_) _ _
      | with_reducible exact tame_floatCmp
      | with_reducible exact tame_floatToFloat
      | with_reducible exact tame_floatArith
      | with_reducible exact tame_addrMod
      | with_reducible exact tame_addrCmp
      | with_reducible exact tame_addrSub
      | with_reducible exact tame_twoPlaces
      | with_reducible exact tame_asNumber
      | with_reducible exact tame_cellsIn
      | with_reducible exact tame_bytesToString
      | with_reducible exact tame_append
      | with_reducible exact tame_unary
      | with_reducible exact tame_intCmp
      | with_reducible exact tame_intBits
      | with_reducible exact tame_intDiv
      | with_reducible exact tame_intArith
      | with_reducible exact tame_shift
      | with_reducible exact tame_stringToBytes
      | with_reducible exact tame_intToString
      | with_reducible exact tame_intToInt
      | with_reducible exact tame_stringOp
      | with_reducible exact tame_copy
      | with_reducible exact tame_firstCells
      | with_reducible exact tame_lenOf
      | with_reducible exact tame_mayShare
      | with_reducible exact tame_holdsCells
      | with_reducible exact tame_cap
      | with_reducible exact tame_len
      | with_reducible exact tame_next
      | with_reducible exact tame_range
      | with_reducible exact tame_extract
      | with_reducible exact tame_makeChan
      | with_reducible exact tame_makeFunc
      | with_reducible exact tame_makeInterface
      | with_reducible exact tame_buildSlice
      | with_reducible exact tame_build
      | with_reducible exact (tame_places _)
      | with_reducible exact tame_makeSlice
      | with_reducible exact tame_sliceAt
      | with_reducible exact tame_slice
      | with_reducible exact tame_sliceBounds
      | with_reducible exact tame_sliceBound
      | with_reducible exact tame_index
      | with_reducible exact tame_indexAt
      | with_reducible exact tame_field
      | with_reducible exact tame_fieldAt
      | with_reducible exact tame_storeAt
      | with_reducible exact tame_loadAt
      | with_reducible exact tame_box
      | with_reducible exact tame_alloc
      | with_reducible exact tame_fieldPlace
      | with_reducible exact tame_partAt
      | with_reducible exact tame_byteOf
      | with_reducible exact tame_typeStr
      | with_reducible exact tame_samePointer
      | with_reducible exact tame_sameAddr
      | with_reducible exact tame_mayBeOne
      | with_reducible exact tame_stringish
      | with_reducible exact tame_markStringish
      | with_reducible exact tame_noView
      | with_reducible exact tame_behindNumber
      | with_reducible exact tame_numberAt
      | with_reducible exact tame_viewAt
      | with_reducible exact tame_sureAddr
      | with_reducible exact tame_asAddr
      | with_reducible exact tame_asAgg
      | with_reducible exact tame_asString
      | with_reducible exact tame_asBool
      | with_reducible exact tame_asInt
      | with_reducible exact tame_asIntOf
      | with_reducible exact tame_boundsPanic
      | with_reducible exact tame_runtimePanic
      | with_reducible exact tame_part
      | with_reducible exact tame_newVar
      | with_reducible exact tame_newRow
      | with_reducible exact tame_storeVar
      | with_reducible exact tame_loadVar
      | with_reducible exact (tame_storeCells _ _)
      | with_reducible exact tame_loadCells
      | with_reducible exact tame_elemOf
      | with_reducible exact tame_isAgg
      | with_reducible exact tame_sizeOf
      | with_reducible exact tame_zeroValue
      | with_reducible exact tame_underlying
      | with_reducible exact tame_typeInfo
      | with_reducible exact tame_room
      | with_reducible exact tame_noRoom
      | with_reducible exact tame_program
      | with_reducible exact tame_choose
      | with_reducible exact tame_setObj
      | with_reducible exact tame_getObj
      | with_reducible exact tame_frozen
      | with_reducible exact tame_freeze
      | with_reducible exact tame_shape
      | with_reducible exact tame_new
      | with_reducible exact tame_store
      | with_reducible exact tame_load
      | with_reducible refine tame_map ?_ (fun _ => True.intro)
      | with_reducible refine tame_bind ?_ (fun _ => ?_)
      | split
      | dsimp only
      | exact True.intro)
theorem tame_eqGuardIn : ∀ (d : Nat) (t : TypeId) (x y : Value), Tame p Any (Op.eqGuardIn d t x y)
  | 0, _, _, _ => tame_unsup
  | d + 1, t, x, y => by
    have ih : ∀ (t : TypeId) (x y : Value), Tame p Any (Op.eqGuardIn d t x y) := tame_eqGuardIn d
    unfold Op.eqGuardIn
    refine tame_bind tame_underlying fun u => ?_
    repeat' (first
      | with_reducible exact tame_pureA
      | with_reducible exact tame_pureB
      | with_reducible exact tame_stuck
      | with_reducible exact tame_unsup
      | with_reducible exact tame_goPanic
      | with_reducible exact (ih _ _ _)
      | with_reducible refine tame_forInA (fun _ _ => ?_) _ _
      | with_reducible refine tame_forInR (fun _ _ => ?_) _ _
      | with_reducible exact tame_floatCmp
      | with_reducible exact tame_floatToFloat
      | with_reducible exact tame_floatArith
      | with_reducible exact tame_addrMod
      | with_reducible exact tame_addrCmp
      | with_reducible exact tame_addrSub
      | with_reducible exact tame_twoPlaces
      | with_reducible exact tame_asNumber
      | with_reducible exact tame_cellsIn
      | with_reducible exact tame_bytesToString
      | with_reducible exact tame_append
      | with_reducible exact tame_unary
      | with_reducible exact tame_intCmp
      | with_reducible exact tame_intBits
      | with_reducible exact tame_intDiv
      | with_reducible exact tame_intArith
      | with_reducible exact tame_shift
      | with_reducible exact tame_stringToBytes
      | with_reducible exact tame_intToString
      | with_reducible exact tame_intToInt
      | with_reducible exact tame_stringOp
      | with_reducible exact tame_copy
      | with_reducible exact tame_firstCells
      | with_reducible exact tame_lenOf
      | with_reducible exact tame_mayShare
      | with_reducible exact tame_holdsCells
      | with_reducible exact tame_cap
      | with_reducible exact tame_len
      | with_reducible exact tame_next
      | with_reducible exact tame_range
      | with_reducible exact tame_extract
      | with_reducible exact tame_makeChan
      | with_reducible exact tame_makeFunc
      | with_reducible exact tame_makeInterface
      | with_reducible exact tame_buildSlice
      | with_reducible exact tame_build
      | with_reducible exact (tame_places _)
      | with_reducible exact tame_makeSlice
      | with_reducible exact tame_sliceAt
      | with_reducible exact tame_slice
      | with_reducible exact tame_sliceBounds
      | with_reducible exact tame_sliceBound
      | with_reducible exact tame_index
      | with_reducible exact tame_indexAt
      | with_reducible exact tame_field
      | with_reducible exact tame_fieldAt
      | with_reducible exact tame_storeAt
      | with_reducible exact tame_loadAt
      | with_reducible exact tame_box
      | with_reducible exact tame_alloc
      | with_reducible exact tame_fieldPlace
      | with_reducible exact tame_partAt
      | with_reducible exact tame_byteOf
      | with_reducible exact tame_typeStr
      | with_reducible exact tame_samePointer
      | with_reducible exact tame_sameAddr
      | with_reducible exact tame_mayBeOne
      | with_reducible exact tame_stringish
      | with_reducible exact tame_markStringish
      | with_reducible exact tame_noView
      | with_reducible exact tame_behindNumber
      | with_reducible exact tame_numberAt
      | with_reducible exact tame_viewAt
      | with_reducible exact tame_sureAddr
      | with_reducible exact tame_asAddr
      | with_reducible exact tame_asAgg
      | with_reducible exact tame_asString
      | with_reducible exact tame_asBool
      | with_reducible exact tame_asInt
      | with_reducible exact tame_asIntOf
      | with_reducible exact tame_boundsPanic
      | with_reducible exact tame_runtimePanic
      | with_reducible exact tame_part
      | with_reducible exact tame_newVar
      | with_reducible exact tame_newRow
      | with_reducible exact tame_storeVar
      | with_reducible exact tame_loadVar
      | with_reducible exact (tame_storeCells _ _)
      | with_reducible exact tame_loadCells
      | with_reducible exact tame_elemOf
      | with_reducible exact tame_isAgg
      | with_reducible exact tame_sizeOf
      | with_reducible exact tame_zeroValue
      | with_reducible exact tame_underlying
      | with_reducible exact tame_typeInfo
      | with_reducible exact tame_room
      | with_reducible exact tame_noRoom
      | with_reducible exact tame_program
      | with_reducible exact tame_choose
      | with_reducible exact tame_setObj
      | with_reducible exact tame_getObj
      | with_reducible exact tame_frozen
      | with_reducible exact tame_freeze
      | with_reducible exact tame_shape
      | with_reducible exact tame_new
      | with_reducible exact tame_store
      | with_reducible exact tame_load
      | with_reducible refine tame_map ?_ (fun _ => True.intro)
      | with_reducible refine tame_bind ?_ (fun _ => ?_)
      | split
      | dsimp only
      | exact True.intro)
theorem tame_unsafeAdd {ts : Array TypeId} {t : TypeId} {as : Array Value} : Tame p Any (Builtin.unsafeAdd_ ts t as) := by
  unfold Builtin.unsafeAdd_
  obtain ⟨l⟩ := as
  rcases l with _ | ⟨x, _ | ⟨y, _ | ⟨z, l⟩⟩⟩
  · exact tame_stuck
  · exact tame_stuck
  · cases x
    all_goals try exact tame_stuck
    show Tame p Any (asInt y >>= _)
    repeat' (first
      | with_reducible exact tame_pureA
      | with_reducible exact tame_pureB
      | with_reducible exact tame_stuck
      | with_reducible exact tame_unsup
      | with_reducible exact tame_goPanic
      | with_reducible exact (tame_eqGuardIn _ _ _ _)
      | with_reducible exact (tame_equalIn _ _ _ _)
      | with_reducible exact tame_floatCmp
      | with_reducible exact tame_floatToFloat
      | with_reducible exact tame_floatArith
      | with_reducible exact tame_addrMod
      | with_reducible exact tame_addrCmp
      | with_reducible exact tame_addrSub
      | with_reducible exact tame_twoPlaces
      | with_reducible exact tame_asNumber
      | with_reducible exact tame_cellsIn
      | with_reducible exact tame_bytesToString
      | with_reducible exact tame_append
      | with_reducible exact tame_unary
      | with_reducible exact tame_intCmp
      | with_reducible exact tame_intBits
      | with_reducible exact tame_intDiv
      | with_reducible exact tame_intArith
      | with_reducible exact tame_shift
      | with_reducible exact tame_stringToBytes
      | with_reducible exact tame_intToString
      | with_reducible exact tame_intToInt
      | with_reducible exact tame_stringOp
      | with_reducible exact tame_copy
      | with_reducible exact tame_firstCells
      | with_reducible exact tame_lenOf
      | with_reducible exact tame_mayShare
      | with_reducible exact tame_holdsCells
      | with_reducible exact tame_cap
      | with_reducible exact tame_len
      | with_reducible exact tame_next
      | with_reducible exact tame_range
      | with_reducible exact tame_extract
      | with_reducible exact tame_makeChan
      | with_reducible exact tame_makeFunc
      | with_reducible exact tame_makeInterface
      | with_reducible exact tame_buildSlice
      | with_reducible exact tame_build
      | with_reducible exact (tame_places _)
      | with_reducible exact tame_makeSlice
      | with_reducible exact tame_sliceAt
      | with_reducible exact tame_slice
      | with_reducible exact tame_sliceBounds
      | with_reducible exact tame_sliceBound
      | with_reducible exact tame_index
      | with_reducible exact tame_indexAt
      | with_reducible exact tame_field
      | with_reducible exact tame_fieldAt
      | with_reducible exact tame_storeAt
      | with_reducible exact tame_loadAt
      | with_reducible exact tame_box
      | with_reducible exact tame_alloc
      | with_reducible exact tame_fieldPlace
      | with_reducible exact tame_partAt
      | with_reducible exact tame_byteOf
      | with_reducible exact tame_typeStr
      | with_reducible exact tame_samePointer
      | with_reducible exact tame_sameAddr
      | with_reducible exact tame_mayBeOne
      | with_reducible exact tame_stringish
      | with_reducible exact tame_markStringish
      | with_reducible exact tame_noView
      | with_reducible exact tame_behindNumber
      | with_reducible exact tame_numberAt
      | with_reducible exact tame_viewAt
      | with_reducible exact tame_sureAddr
      | with_reducible exact tame_asAddr
      | with_reducible exact tame_asAgg
      | with_reducible exact tame_asString
      | with_reducible exact tame_asBool
      | with_reducible exact tame_asInt
      | with_reducible exact tame_asIntOf
      | with_reducible exact tame_boundsPanic
      | with_reducible exact tame_runtimePanic
      | with_reducible exact tame_part
      | with_reducible exact tame_newVar
      | with_reducible exact tame_newRow
      | with_reducible exact tame_storeVar
      | with_reducible exact tame_loadVar
      | with_reducible exact (tame_storeCells _ _)
      | with_reducible exact tame_loadCells
      | with_reducible exact tame_elemOf
      | with_reducible exact tame_isAgg
      | with_reducible exact tame_sizeOf
      | with_reducible exact tame_zeroValue
      | with_reducible exact tame_underlying
      | with_reducible exact tame_typeInfo
      | with_reducible exact tame_room
      | with_reducible exact tame_noRoom
      | with_reducible exact tame_program
      | with_reducible exact tame_choose
      | with_reducible exact tame_setObj
      | with_reducible exact tame_getObj
      | with_reducible exact tame_frozen
      | with_reducible exact tame_freeze
      | with_reducible exact tame_shape
      | with_reducible exact tame_new
      | with_reducible exact tame_store
      | with_reducible exact tame_load
      | with_reducible refine tame_map ?_ (fun _ => True.intro)
      | with_reducible refine tame_bind ?_ (fun _ => ?_)
      | split
      | dsimp only
      | exact True.intro)
  · exact tame_stuck
theorem tame_carith {o : BinOp} {k : FloatKind} {a b : Nat} : Tame p Any (Op.Complex.arith o k a b) := by
  unfold Op.Complex.arith
  repeat' (first
    | with_reducible exact tame_pureA
    | with_reducible exact tame_pureB
    | with_reducible exact tame_stuck
    | with_reducible exact tame_unsup
    | with_reducible exact tame_goPanic
    | with_reducible exact tame_unsafeAdd
    | with_reducible exact (tame_eqGuardIn _ _ _ _)
    | with_reducible exact (tame_equalIn _ _ _ _)
    | with_reducible exact tame_floatCmp
    | with_reducible exact tame_floatToFloat
    | with_reducible exact tame_floatArith
    | with_reducible exact tame_addrMod
    | with_reducible exact tame_addrCmp
    | with_reducible exact tame_addrSub
    | with_reducible exact tame_twoPlaces
    | with_reducible exact tame_asNumber
    | with_reducible exact tame_cellsIn
    | with_reducible exact tame_bytesToString
    | with_reducible exact tame_append
    | with_reducible exact tame_unary
    | with_reducible exact tame_intCmp
    | with_reducible exact tame_intBits
    | with_reducible exact tame_intDiv
    | with_reducible exact tame_intArith
    | with_reducible exact tame_shift
    | with_reducible exact tame_stringToBytes
    | with_reducible exact tame_intToString
    | with_reducible exact tame_intToInt
    | with_reducible exact tame_stringOp
    | with_reducible exact tame_copy
    | with_reducible exact tame_firstCells
    | with_reducible exact tame_lenOf
    | with_reducible exact tame_mayShare
    | with_reducible exact tame_holdsCells
    | with_reducible exact tame_cap
    | with_reducible exact tame_len
    | with_reducible exact tame_next
    | with_reducible exact tame_range
    | with_reducible exact tame_extract
    | with_reducible exact tame_makeChan
    | with_reducible exact tame_makeFunc
    | with_reducible exact tame_makeInterface
    | with_reducible exact tame_buildSlice
    | with_reducible exact tame_build
    | with_reducible exact (tame_places _)
    | with_reducible exact tame_makeSlice
    | with_reducible exact tame_sliceAt
    | with_reducible exact tame_slice
    | with_reducible exact tame_sliceBounds
    | with_reducible exact tame_sliceBound
    | with_reducible exact tame_index
    | with_reducible exact tame_indexAt
    | with_reducible exact tame_field
    | with_reducible exact tame_fieldAt
    | with_reducible exact tame_storeAt
    | with_reducible exact tame_loadAt
    | with_reducible exact tame_box
    | with_reducible exact tame_alloc
    | with_reducible exact tame_fieldPlace
    | with_reducible exact tame_partAt
    | with_reducible exact tame_byteOf
    | with_reducible exact tame_typeStr
    | with_reducible exact tame_samePointer
    | with_reducible exact tame_sameAddr
    | with_reducible exact tame_mayBeOne
    | with_reducible exact tame_stringish
    | with_reducible exact tame_markStringish
    | with_reducible exact tame_noView
    | with_reducible exact tame_behindNumber
    | with_reducible exact tame_numberAt
    | with_reducible exact tame_viewAt
    | with_reducible exact tame_sureAddr
    | with_reducible exact tame_asAddr
    | with_reducible exact tame_asAgg
    | with_reducible exact tame_asString
    | with_reducible exact tame_asBool
    | with_reducible exact tame_asInt
    | with_reducible exact tame_asIntOf
    | with_reducible exact tame_boundsPanic
    | with_reducible exact tame_runtimePanic
    | with_reducible exact tame_part
    | with_reducible exact tame_newVar
    | with_reducible exact tame_newRow
    | with_reducible exact tame_storeVar
    | with_reducible exact tame_loadVar
    | with_reducible exact (tame_storeCells _ _)
    | with_reducible exact tame_loadCells
    | with_reducible exact tame_elemOf
    | with_reducible exact tame_isAgg
    | with_reducible exact tame_sizeOf
    | with_reducible exact tame_zeroValue
    | with_reducible exact tame_underlying
    | with_reducible exact tame_typeInfo
    | with_reducible exact tame_room
    | with_reducible exact tame_noRoom
    | with_reducible exact tame_program
    | with_reducible exact tame_choose
    | with_reducible exact tame_setObj
    | with_reducible exact tame_getObj
    | with_reducible exact tame_frozen
    | with_reducible exact tame_freeze
    | with_reducible exact tame_shape
    | with_reducible exact tame_new
    | with_reducible exact tame_store
    | with_reducible exact tame_load
    | with_reducible refine tame_map ?_ (fun _ => True.intro)
    | with_reducible refine tame_bind ?_ (fun _ => ?_)
    | split
    | dsimp only
    | exact True.intro)
theorem tame_ccmp {o : BinOp} {k : FloatKind} {a b : Nat} : Tame p Any (Op.Complex.cmp o k a b) := by
  unfold Op.Complex.cmp
  repeat' (first
    | with_reducible exact tame_pureA
    | with_reducible exact tame_pureB
    | with_reducible exact tame_stuck
    | with_reducible exact tame_unsup
    | with_reducible exact tame_goPanic
    | with_reducible exact tame_carith
    | with_reducible exact tame_unsafeAdd
    | with_reducible exact (tame_eqGuardIn _ _ _ _)
    | with_reducible exact (tame_equalIn _ _ _ _)
    | with_reducible exact tame_floatCmp
    | with_reducible exact tame_floatToFloat
    | with_reducible exact tame_floatArith
    | with_reducible exact tame_addrMod
    | with_reducible exact tame_addrCmp
    | with_reducible exact tame_addrSub
    | with_reducible exact tame_twoPlaces
    | with_reducible exact tame_asNumber
    | with_reducible exact tame_cellsIn
    | with_reducible exact tame_bytesToString
    | with_reducible exact tame_append
    | with_reducible exact tame_unary
    | with_reducible exact tame_intCmp
    | with_reducible exact tame_intBits
    | with_reducible exact tame_intDiv
    | with_reducible exact tame_intArith
    | with_reducible exact tame_shift
    | with_reducible exact tame_stringToBytes
    | with_reducible exact tame_intToString
    | with_reducible exact tame_intToInt
    | with_reducible exact tame_stringOp
    | with_reducible exact tame_copy
    | with_reducible exact tame_firstCells
    | with_reducible exact tame_lenOf
    | with_reducible exact tame_mayShare
    | with_reducible exact tame_holdsCells
    | with_reducible exact tame_cap
    | with_reducible exact tame_len
    | with_reducible exact tame_next
    | with_reducible exact tame_range
    | with_reducible exact tame_extract
    | with_reducible exact tame_makeChan
    | with_reducible exact tame_makeFunc
    | with_reducible exact tame_makeInterface
    | with_reducible exact tame_buildSlice
    | with_reducible exact tame_build
    | with_reducible exact (tame_places _)
    | with_reducible exact tame_makeSlice
    | with_reducible exact tame_sliceAt
    | with_reducible exact tame_slice
    | with_reducible exact tame_sliceBounds
    | with_reducible exact tame_sliceBound
    | with_reducible exact tame_index
    | with_reducible exact tame_indexAt
    | with_reducible exact tame_field
    | with_reducible exact tame_fieldAt
    | with_reducible exact tame_storeAt
    | with_reducible exact tame_loadAt
    | with_reducible exact tame_box
    | with_reducible exact tame_alloc
    | with_reducible exact tame_fieldPlace
    | with_reducible exact tame_partAt
    | with_reducible exact tame_byteOf
    | with_reducible exact tame_typeStr
    | with_reducible exact tame_samePointer
    | with_reducible exact tame_sameAddr
    | with_reducible exact tame_mayBeOne
    | with_reducible exact tame_stringish
    | with_reducible exact tame_markStringish
    | with_reducible exact tame_noView
    | with_reducible exact tame_behindNumber
    | with_reducible exact tame_numberAt
    | with_reducible exact tame_viewAt
    | with_reducible exact tame_sureAddr
    | with_reducible exact tame_asAddr
    | with_reducible exact tame_asAgg
    | with_reducible exact tame_asString
    | with_reducible exact tame_asBool
    | with_reducible exact tame_asInt
    | with_reducible exact tame_asIntOf
    | with_reducible exact tame_boundsPanic
    | with_reducible exact tame_runtimePanic
    | with_reducible exact tame_part
    | with_reducible exact tame_newVar
    | with_reducible exact tame_newRow
    | with_reducible exact tame_storeVar
    | with_reducible exact tame_loadVar
    | with_reducible exact (tame_storeCells _ _)
    | with_reducible exact tame_loadCells
    | with_reducible exact tame_elemOf
    | with_reducible exact tame_isAgg
    | with_reducible exact tame_sizeOf
    | with_reducible exact tame_zeroValue
    | with_reducible exact tame_underlying
    | with_reducible exact tame_typeInfo
    | with_reducible exact tame_room
    | with_reducible exact tame_noRoom
    | with_reducible exact tame_program
    | with_reducible exact tame_choose
    | with_reducible exact tame_setObj
    | with_reducible exact tame_getObj
    | with_reducible exact tame_frozen
    | with_reducible exact tame_freeze
    | with_reducible exact tame_shape
    | with_reducible exact tame_new
    | with_reducible exact tame_store
    | with_reducible exact tame_load
    | with_reducible refine tame_map ?_ (fun _ => True.intro)
    | with_reducible refine tame_bind ?_ (fun _ => ?_)
    | split
    | dsimp only
    | exact True.intro)
theorem tame_cconv {k n : FloatKind} {a : Nat} : Tame p Any (Op.Complex.conv k a n) := by
  unfold Op.Complex.conv
  repeat' (first
    | with_reducible exact tame_pureA
    | with_reducible exact tame_pureB
    | with_reducible exact tame_stuck
    | with_reducible exact tame_unsup
    | with_reducible exact tame_goPanic
    | with_reducible exact tame_ccmp
    | with_reducible exact tame_carith
    | with_reducible exact tame_unsafeAdd
    | with_reducible exact (tame_eqGuardIn _ _ _ _)
    | with_reducible exact (tame_equalIn _ _ _ _)
    | with_reducible exact tame_floatCmp
    | with_reducible exact tame_floatToFloat
    | with_reducible exact tame_floatArith
    | with_reducible exact tame_addrMod
    | with_reducible exact tame_addrCmp
    | with_reducible exact tame_addrSub
    | with_reducible exact tame_twoPlaces
    | with_reducible exact tame_asNumber
    | with_reducible exact tame_cellsIn
    | with_reducible exact tame_bytesToString
    | with_reducible exact tame_append
    | with_reducible exact tame_unary
    | with_reducible exact tame_intCmp
    | with_reducible exact tame_intBits
    | with_reducible exact tame_intDiv
    | with_reducible exact tame_intArith
    | with_reducible exact tame_shift
    | with_reducible exact tame_stringToBytes
    | with_reducible exact tame_intToString
    | with_reducible exact tame_intToInt
    | with_reducible exact tame_stringOp
    | with_reducible exact tame_copy
    | with_reducible exact tame_firstCells
    | with_reducible exact tame_lenOf
    | with_reducible exact tame_mayShare
    | with_reducible exact tame_holdsCells
    | with_reducible exact tame_cap
    | with_reducible exact tame_len
    | with_reducible exact tame_next
    | with_reducible exact tame_range
    | with_reducible exact tame_extract
    | with_reducible exact tame_makeChan
    | with_reducible exact tame_makeFunc
    | with_reducible exact tame_makeInterface
    | with_reducible exact tame_buildSlice
    | with_reducible exact tame_build
    | with_reducible exact (tame_places _)
    | with_reducible exact tame_makeSlice
    | with_reducible exact tame_sliceAt
    | with_reducible exact tame_slice
    | with_reducible exact tame_sliceBounds
    | with_reducible exact tame_sliceBound
    | with_reducible exact tame_index
    | with_reducible exact tame_indexAt
    | with_reducible exact tame_field
    | with_reducible exact tame_fieldAt
    | with_reducible exact tame_storeAt
    | with_reducible exact tame_loadAt
    | with_reducible exact tame_box
    | with_reducible exact tame_alloc
    | with_reducible exact tame_fieldPlace
    | with_reducible exact tame_partAt
    | with_reducible exact tame_byteOf
    | with_reducible exact tame_typeStr
    | with_reducible exact tame_samePointer
    | with_reducible exact tame_sameAddr
    | with_reducible exact tame_mayBeOne
    | with_reducible exact tame_stringish
    | with_reducible exact tame_markStringish
    | with_reducible exact tame_noView
    | with_reducible exact tame_behindNumber
    | with_reducible exact tame_numberAt
    | with_reducible exact tame_viewAt
    | with_reducible exact tame_sureAddr
    | with_reducible exact tame_asAddr
    | with_reducible exact tame_asAgg
    | with_reducible exact tame_asString
    | with_reducible exact tame_asBool
    | with_reducible exact tame_asInt
    | with_reducible exact tame_asIntOf
    | with_reducible exact tame_boundsPanic
    | with_reducible exact tame_runtimePanic
    | with_reducible exact tame_part
    | with_reducible exact tame_newVar
    | with_reducible exact tame_newRow
    | with_reducible exact tame_storeVar
    | with_reducible exact tame_loadVar
    | with_reducible exact (tame_storeCells _ _)
    | with_reducible exact tame_loadCells
    | with_reducible exact tame_elemOf
    | with_reducible exact tame_isAgg
    | with_reducible exact tame_sizeOf
    | with_reducible exact tame_zeroValue
    | with_reducible exact tame_underlying
    | with_reducible exact tame_typeInfo
    | with_reducible exact tame_room
    | with_reducible exact tame_noRoom
    | with_reducible exact tame_program
    | with_reducible exact tame_choose
    | with_reducible exact tame_setObj
    | with_reducible exact tame_getObj
    | with_reducible exact tame_frozen
    | with_reducible exact tame_freeze
    | with_reducible exact tame_shape
    | with_reducible exact tame_new
    | with_reducible exact tame_store
    | with_reducible exact tame_load
    | with_reducible refine tame_map ?_ (fun _ => True.intro)
    | with_reducible refine tame_bind ?_ (fun _ => ?_)
    | split
    | dsimp only
    | exact True.intro)
theorem tame_cadd {a b : Nat} : Tame p Any (Op.Complex.add a b) := by
  unfold Op.Complex.add
  repeat' (first
    | with_reducible exact tame_pureA
    | with_reducible exact tame_pureB
    | with_reducible exact tame_stuck
    | with_reducible exact tame_unsup
    | with_reducible exact tame_goPanic
    | with_reducible exact tame_cconv
    | with_reducible exact tame_ccmp
    | with_reducible exact tame_carith
    | with_reducible exact tame_unsafeAdd
    | with_reducible exact (tame_eqGuardIn _ _ _ _)
    | with_reducible exact (tame_equalIn _ _ _ _)
    | with_reducible exact tame_floatCmp
    | with_reducible exact tame_floatToFloat
    | with_reducible exact tame_floatArith
    | with_reducible exact tame_addrMod
    | with_reducible exact tame_addrCmp
    | with_reducible exact tame_addrSub
    | with_reducible exact tame_twoPlaces
    | with_reducible exact tame_asNumber
    | with_reducible exact tame_cellsIn
    | with_reducible exact tame_bytesToString
    | with_reducible exact tame_append
    | with_reducible exact tame_unary
    | with_reducible exact tame_intCmp
    | with_reducible exact tame_intBits
    | with_reducible exact tame_intDiv
    | with_reducible exact tame_intArith
    | with_reducible exact tame_shift
    | with_reducible exact tame_stringToBytes
    | with_reducible exact tame_intToString
    | with_reducible exact tame_intToInt
    | with_reducible exact tame_stringOp
    | with_reducible exact tame_copy
    | with_reducible exact tame_firstCells
    | with_reducible exact tame_lenOf
    | with_reducible exact tame_mayShare
    | with_reducible exact tame_holdsCells
    | with_reducible exact tame_cap
    | with_reducible exact tame_len
    | with_reducible exact tame_next
    | with_reducible exact tame_range
    | with_reducible exact tame_extract
    | with_reducible exact tame_makeChan
    | with_reducible exact tame_makeFunc
    | with_reducible exact tame_makeInterface
    | with_reducible exact tame_buildSlice
    | with_reducible exact tame_build
    | with_reducible exact (tame_places _)
    | with_reducible exact tame_makeSlice
    | with_reducible exact tame_sliceAt
    | with_reducible exact tame_slice
    | with_reducible exact tame_sliceBounds
    | with_reducible exact tame_sliceBound
    | with_reducible exact tame_index
    | with_reducible exact tame_indexAt
    | with_reducible exact tame_field
    | with_reducible exact tame_fieldAt
    | with_reducible exact tame_storeAt
    | with_reducible exact tame_loadAt
    | with_reducible exact tame_box
    | with_reducible exact tame_alloc
    | with_reducible exact tame_fieldPlace
    | with_reducible exact tame_partAt
    | with_reducible exact tame_byteOf
    | with_reducible exact tame_typeStr
    | with_reducible exact tame_samePointer
    | with_reducible exact tame_sameAddr
    | with_reducible exact tame_mayBeOne
    | with_reducible exact tame_stringish
    | with_reducible exact tame_markStringish
    | with_reducible exact tame_noView
    | with_reducible exact tame_behindNumber
    | with_reducible exact tame_numberAt
    | with_reducible exact tame_viewAt
    | with_reducible exact tame_sureAddr
    | with_reducible exact tame_asAddr
    | with_reducible exact tame_asAgg
    | with_reducible exact tame_asString
    | with_reducible exact tame_asBool
    | with_reducible exact tame_asInt
    | with_reducible exact tame_asIntOf
    | with_reducible exact tame_boundsPanic
    | with_reducible exact tame_runtimePanic
    | with_reducible exact tame_part
    | with_reducible exact tame_newVar
    | with_reducible exact tame_newRow
    | with_reducible exact tame_storeVar
    | with_reducible exact tame_loadVar
    | with_reducible exact (tame_storeCells _ _)
    | with_reducible exact tame_loadCells
    | with_reducible exact tame_elemOf
    | with_reducible exact tame_isAgg
    | with_reducible exact tame_sizeOf
    | with_reducible exact tame_zeroValue
    | with_reducible exact tame_underlying
    | with_reducible exact tame_typeInfo
    | with_reducible exact tame_room
    | with_reducible exact tame_noRoom
    | with_reducible exact tame_program
    | with_reducible exact tame_choose
    | with_reducible exact tame_setObj
    | with_reducible exact tame_getObj
    | with_reducible exact tame_frozen
    | with_reducible exact tame_freeze
    | with_reducible exact tame_shape
    | with_reducible exact tame_new
    | with_reducible exact tame_store
    | with_reducible exact tame_load
    | with_reducible refine tame_map ?_ (fun _ => True.intro)
    | with_reducible refine tame_bind ?_ (fun _ => ?_)
    | split
    | dsimp only
    | exact True.intro)
theorem tame_csub {a b : Nat} : Tame p Any (Op.Complex.sub a b) := by
  unfold Op.Complex.sub
  repeat' (first
    | with_reducible exact tame_pureA
    | with_reducible exact tame_pureB
    | with_reducible exact tame_stuck
    | with_reducible exact tame_unsup
    | with_reducible exact tame_goPanic
    | with_reducible exact tame_cadd
    | with_reducible exact tame_cconv
    | with_reducible exact tame_ccmp
    | with_reducible exact tame_carith
    | with_reducible exact tame_unsafeAdd
    | with_reducible exact (tame_eqGuardIn _ _ _ _)
    | with_reducible exact (tame_equalIn _ _ _ _)
    | with_reducible exact tame_floatCmp
    | with_reducible exact tame_floatToFloat
    | with_reducible exact tame_floatArith
    | with_reducible exact tame_addrMod
    | with_reducible exact tame_addrCmp
    | with_reducible exact tame_addrSub
    | with_reducible exact tame_twoPlaces
    | with_reducible exact tame_asNumber
    | with_reducible exact tame_cellsIn
    | with_reducible exact tame_bytesToString
    | with_reducible exact tame_append
    | with_reducible exact tame_unary
    | with_reducible exact tame_intCmp
    | with_reducible exact tame_intBits
    | with_reducible exact tame_intDiv
    | with_reducible exact tame_intArith
    | with_reducible exact tame_shift
    | with_reducible exact tame_stringToBytes
    | with_reducible exact tame_intToString
    | with_reducible exact tame_intToInt
    | with_reducible exact tame_stringOp
    | with_reducible exact tame_copy
    | with_reducible exact tame_firstCells
    | with_reducible exact tame_lenOf
    | with_reducible exact tame_mayShare
    | with_reducible exact tame_holdsCells
    | with_reducible exact tame_cap
    | with_reducible exact tame_len
    | with_reducible exact tame_next
    | with_reducible exact tame_range
    | with_reducible exact tame_extract
    | with_reducible exact tame_makeChan
    | with_reducible exact tame_makeFunc
    | with_reducible exact tame_makeInterface
    | with_reducible exact tame_buildSlice
    | with_reducible exact tame_build
    | with_reducible exact (tame_places _)
    | with_reducible exact tame_makeSlice
    | with_reducible exact tame_sliceAt
    | with_reducible exact tame_slice
    | with_reducible exact tame_sliceBounds
    | with_reducible exact tame_sliceBound
    | with_reducible exact tame_index
    | with_reducible exact tame_indexAt
    | with_reducible exact tame_field
    | with_reducible exact tame_fieldAt
    | with_reducible exact tame_storeAt
    | with_reducible exact tame_loadAt
    | with_reducible exact tame_box
    | with_reducible exact tame_alloc
    | with_reducible exact tame_fieldPlace
    | with_reducible exact tame_partAt
    | with_reducible exact tame_byteOf
    | with_reducible exact tame_typeStr
    | with_reducible exact tame_samePointer
    | with_reducible exact tame_sameAddr
    | with_reducible exact tame_mayBeOne
    | with_reducible exact tame_stringish
    | with_reducible exact tame_markStringish
    | with_reducible exact tame_noView
    | with_reducible exact tame_behindNumber
    | with_reducible exact tame_numberAt
    | with_reducible exact tame_viewAt
    | with_reducible exact tame_sureAddr
    | with_reducible exact tame_asAddr
    | with_reducible exact tame_asAgg
    | with_reducible exact tame_asString
    | with_reducible exact tame_asBool
    | with_reducible exact tame_asInt
    | with_reducible exact tame_asIntOf
    | with_reducible exact tame_boundsPanic
    | with_reducible exact tame_runtimePanic
    | with_reducible exact tame_part
    | with_reducible exact tame_newVar
    | with_reducible exact tame_newRow
    | with_reducible exact tame_storeVar
    | with_reducible exact tame_loadVar
    | with_reducible exact (tame_storeCells _ _)
    | with_reducible exact tame_loadCells
    | with_reducible exact tame_elemOf
    | with_reducible exact tame_isAgg
    | with_reducible exact tame_sizeOf
    | with_reducible exact tame_zeroValue
    | with_reducible exact tame_underlying
    | with_reducible exact tame_typeInfo
    | with_reducible exact tame_room
    | with_reducible exact tame_noRoom
    | with_reducible exact tame_program
    | with_reducible exact tame_choose
    | with_reducible exact tame_setObj
    | with_reducible exact tame_getObj
    | with_reducible exact tame_frozen
    | with_reducible exact tame_freeze
    | with_reducible exact tame_shape
    | with_reducible exact tame_new
    | with_reducible exact tame_store
    | with_reducible exact tame_load
    | with_reducible refine tame_map ?_ (fun _ => True.intro)
    | with_reducible refine tame_bind ?_ (fun _ => ?_)
    | split
    | dsimp only
    | exact True.intro)
theorem tame_cmul {a b : Nat} : Tame p Any (Op.Complex.mul a b) := by
  unfold Op.Complex.mul
  repeat' (first
    | with_reducible exact tame_pureA
    | with_reducible exact tame_pureB
    | with_reducible exact tame_stuck
    | with_reducible exact tame_unsup
    | with_reducible exact tame_goPanic
    | with_reducible exact tame_csub
    | with_reducible exact tame_cadd
    | with_reducible exact tame_cconv
    | with_reducible exact tame_ccmp
    | with_reducible exact tame_carith
    | with_reducible exact tame_unsafeAdd
    | with_reducible exact (tame_eqGuardIn _ _ _ _)
    | with_reducible exact (tame_equalIn _ _ _ _)
    | with_reducible exact tame_floatCmp
    | with_reducible exact tame_floatToFloat
    | with_reducible exact tame_floatArith
    | with_reducible exact tame_addrMod
    | with_reducible exact tame_addrCmp
    | with_reducible exact tame_addrSub
    | with_reducible exact tame_twoPlaces
    | with_reducible exact tame_asNumber
    | with_reducible exact tame_cellsIn
    | with_reducible exact tame_bytesToString
    | with_reducible exact tame_append
    | with_reducible exact tame_unary
    | with_reducible exact tame_intCmp
    | with_reducible exact tame_intBits
    | with_reducible exact tame_intDiv
    | with_reducible exact tame_intArith
    | with_reducible exact tame_shift
    | with_reducible exact tame_stringToBytes
    | with_reducible exact tame_intToString
    | with_reducible exact tame_intToInt
    | with_reducible exact tame_stringOp
    | with_reducible exact tame_copy
    | with_reducible exact tame_firstCells
    | with_reducible exact tame_lenOf
    | with_reducible exact tame_mayShare
    | with_reducible exact tame_holdsCells
    | with_reducible exact tame_cap
    | with_reducible exact tame_len
    | with_reducible exact tame_next
    | with_reducible exact tame_range
    | with_reducible exact tame_extract
    | with_reducible exact tame_makeChan
    | with_reducible exact tame_makeFunc
    | with_reducible exact tame_makeInterface
    | with_reducible exact tame_buildSlice
    | with_reducible exact tame_build
    | with_reducible exact (tame_places _)
    | with_reducible exact tame_makeSlice
    | with_reducible exact tame_sliceAt
    | with_reducible exact tame_slice
    | with_reducible exact tame_sliceBounds
    | with_reducible exact tame_sliceBound
    | with_reducible exact tame_index
    | with_reducible exact tame_indexAt
    | with_reducible exact tame_field
    | with_reducible exact tame_fieldAt
    | with_reducible exact tame_storeAt
    | with_reducible exact tame_loadAt
    | with_reducible exact tame_box
    | with_reducible exact tame_alloc
    | with_reducible exact tame_fieldPlace
    | with_reducible exact tame_partAt
    | with_reducible exact tame_byteOf
    | with_reducible exact tame_typeStr
    | with_reducible exact tame_samePointer
    | with_reducible exact tame_sameAddr
    | with_reducible exact tame_mayBeOne
    | with_reducible exact tame_stringish
    | with_reducible exact tame_markStringish
    | with_reducible exact tame_noView
    | with_reducible exact tame_behindNumber
    | with_reducible exact tame_numberAt
    | with_reducible exact tame_viewAt
    | with_reducible exact tame_sureAddr
    | with_reducible exact tame_asAddr
    | with_reducible exact tame_asAgg
    | with_reducible exact tame_asString
    | with_reducible exact tame_asBool
    | with_reducible exact tame_asInt
    | with_reducible exact tame_asIntOf
    | with_reducible exact tame_boundsPanic
    | with_reducible exact tame_runtimePanic
    | with_reducible exact tame_part
    | with_reducible exact tame_newVar
    | with_reducible exact tame_newRow
    | with_reducible exact tame_storeVar
    | with_reducible exact tame_loadVar
    | with_reducible exact (tame_storeCells _ _)
    | with_reducible exact tame_loadCells
    | with_reducible exact tame_elemOf
    | with_reducible exact tame_isAgg
    | with_reducible exact tame_sizeOf
    | with_reducible exact tame_zeroValue
    | with_reducible exact tame_underlying
    | with_reducible exact tame_typeInfo
    | with_reducible exact tame_room
    | with_reducible exact tame_noRoom
    | with_reducible exact tame_program
    | with_reducible exact tame_choose
    | with_reducible exact tame_setObj
    | with_reducible exact tame_getObj
    | with_reducible exact tame_frozen
    | with_reducible exact tame_freeze
    | with_reducible exact tame_shape
    | with_reducible exact tame_new
    | with_reducible exact tame_store
    | with_reducible exact tame_load
    | with_reducible refine tame_map ?_ (fun _ => True.intro)
    | with_reducible refine tame_bind ?_ (fun _ => ?_)
    | split
    | dsimp only
    | exact True.intro)
theorem tame_cquo {a b : Nat} : Tame p Any (Op.Complex.quo a b) := by
  unfold Op.Complex.quo
  repeat' (first
    | with_reducible exact tame_pureA
    | with_reducible exact tame_pureB
    | with_reducible exact tame_stuck
    | with_reducible exact tame_unsup
    | with_reducible exact tame_goPanic
    | with_reducible exact tame_cmul
    | with_reducible exact tame_csub
    | with_reducible exact tame_cadd
    | with_reducible exact tame_cconv
    | with_reducible exact tame_ccmp
    | with_reducible exact tame_carith
    | with_reducible exact tame_unsafeAdd
    | with_reducible exact (tame_eqGuardIn _ _ _ _)
    | with_reducible exact (tame_equalIn _ _ _ _)
    | with_reducible exact tame_floatCmp
    | with_reducible exact tame_floatToFloat
    | with_reducible exact tame_floatArith
    | with_reducible exact tame_addrMod
    | with_reducible exact tame_addrCmp
    | with_reducible exact tame_addrSub
    | with_reducible exact tame_twoPlaces
    | with_reducible exact tame_asNumber
    | with_reducible exact tame_cellsIn
    | with_reducible exact tame_bytesToString
    | with_reducible exact tame_append
    | with_reducible exact tame_unary
    | with_reducible exact tame_intCmp
    | with_reducible exact tame_intBits
    | with_reducible exact tame_intDiv
    | with_reducible exact tame_intArith
    | with_reducible exact tame_shift
    | with_reducible exact tame_stringToBytes
    | with_reducible exact tame_intToString
    | with_reducible exact tame_intToInt
    | with_reducible exact tame_stringOp
    | with_reducible exact tame_copy
    | with_reducible exact tame_firstCells
    | with_reducible exact tame_lenOf
    | with_reducible exact tame_mayShare
    | with_reducible exact tame_holdsCells
    | with_reducible exact tame_cap
    | with_reducible exact tame_len
    | with_reducible exact tame_next
    | with_reducible exact tame_range
    | with_reducible exact tame_extract
    | with_reducible exact tame_makeChan
    | with_reducible exact tame_makeFunc
    | with_reducible exact tame_makeInterface
    | with_reducible exact tame_buildSlice
    | with_reducible exact tame_build
    | with_reducible exact (tame_places _)
    | with_reducible exact tame_makeSlice
    | with_reducible exact tame_sliceAt
    | with_reducible exact tame_slice
    | with_reducible exact tame_sliceBounds
    | with_reducible exact tame_sliceBound
    | with_reducible exact tame_index
    | with_reducible exact tame_indexAt
    | with_reducible exact tame_field
    | with_reducible exact tame_fieldAt
    | with_reducible exact tame_storeAt
    | with_reducible exact tame_loadAt
    | with_reducible exact tame_box
    | with_reducible exact tame_alloc
    | with_reducible exact tame_fieldPlace
    | with_reducible exact tame_partAt
    | with_reducible exact tame_byteOf
    | with_reducible exact tame_typeStr
    | with_reducible exact tame_samePointer
    | with_reducible exact tame_sameAddr
    | with_reducible exact tame_mayBeOne
    | with_reducible exact tame_stringish
    | with_reducible exact tame_markStringish
    | with_reducible exact tame_noView
    | with_reducible exact tame_behindNumber
    | with_reducible exact tame_numberAt
    | with_reducible exact tame_viewAt
    | with_reducible exact tame_sureAddr
    | with_reducible exact tame_asAddr
    | with_reducible exact tame_asAgg
    | with_reducible exact tame_asString
    | with_reducible exact tame_asBool
    | with_reducible exact tame_asInt
    | with_reducible exact tame_asIntOf
    | with_reducible exact tame_boundsPanic
    | with_reducible exact tame_runtimePanic
    | with_reducible exact tame_part
    | with_reducible exact tame_newVar
    | with_reducible exact tame_newRow
    | with_reducible exact tame_storeVar
    | with_reducible exact tame_loadVar
    | with_reducible exact (tame_storeCells _ _)
    | with_reducible exact tame_loadCells
    | with_reducible exact tame_elemOf
    | with_reducible exact tame_isAgg
    | with_reducible exact tame_sizeOf
    | with_reducible exact tame_zeroValue
    | with_reducible exact tame_underlying
    | with_reducible exact tame_typeInfo
    | with_reducible exact tame_room
    | with_reducible exact tame_noRoom
    | with_reducible exact tame_program
    | with_reducible exact tame_choose
    | with_reducible exact tame_setObj
    | with_reducible exact tame_getObj
    | with_reducible exact tame_frozen
    | with_reducible exact tame_freeze
    | with_reducible exact tame_shape
    | with_reducible exact tame_new
    | with_reducible exact tame_store
    | with_reducible exact tame_load
    | with_reducible refine tame_map ?_ (fun _ => True.intro)
    | with_reducible refine tame_bind ?_ (fun _ => ?_)
    | split
    | dsimp only
    | exact True.intro)
theorem tame_cproduct {a b c d : Nat} : Tame p Any (Op.Complex.product a b c d) := by
  unfold Op.Complex.product
  repeat' (first
    | with_reducible exact tame_pureA
    | with_reducible exact tame_pureB
    | with_reducible exact tame_stuck
    | with_reducible exact tame_unsup
    | with_reducible exact tame_goPanic
    | with_reducible exact tame_cquo
    | with_reducible exact tame_cmul
    | with_reducible exact tame_csub
    | with_reducible exact tame_cadd
    | with_reducible exact tame_cconv
    | with_reducible exact tame_ccmp
    | with_reducible exact tame_carith
    | with_reducible exact tame_unsafeAdd
    | with_reducible exact (tame_eqGuardIn _ _ _ _)
    | with_reducible exact (tame_equalIn _ _ _ _)
    | with_reducible exact tame_floatCmp
    | with_reducible exact tame_floatToFloat
    | with_reducible exact tame_floatArith
    | with_reducible exact tame_addrMod
    | with_reducible exact tame_addrCmp
    | with_reducible exact tame_addrSub
    | with_reducible exact tame_twoPlaces
    | with_reducible exact tame_asNumber
    | with_reducible exact tame_cellsIn
    | with_reducible exact tame_bytesToString
    | with_reducible exact tame_append
    | with_reducible exact tame_unary
    | with_reducible exact tame_intCmp
    | with_reducible exact tame_intBits
    | with_reducible exact tame_intDiv
    | with_reducible exact tame_intArith
    | with_reducible exact tame_shift
    | with_reducible exact tame_stringToBytes
    | with_reducible exact tame_intToString
    | with_reducible exact tame_intToInt
    | with_reducible exact tame_stringOp
    | with_reducible exact tame_copy
    | with_reducible exact tame_firstCells
    | with_reducible exact tame_lenOf
    | with_reducible exact tame_mayShare
    | with_reducible exact tame_holdsCells
    | with_reducible exact tame_cap
    | with_reducible exact tame_len
    | with_reducible exact tame_next
    | with_reducible exact tame_range
    | with_reducible exact tame_extract
    | with_reducible exact tame_makeChan
    | with_reducible exact tame_makeFunc
    | with_reducible exact tame_makeInterface
    | with_reducible exact tame_buildSlice
    | with_reducible exact tame_build
    | with_reducible exact (tame_places _)
    | with_reducible exact tame_makeSlice
    | with_reducible exact tame_sliceAt
    | with_reducible exact tame_slice
    | with_reducible exact tame_sliceBounds
    | with_reducible exact tame_sliceBound
    | with_reducible exact tame_index
    | with_reducible exact tame_indexAt
    | with_reducible exact tame_field
    | with_reducible exact tame_fieldAt
    | with_reducible exact tame_storeAt
    | with_reducible exact tame_loadAt
    | with_reducible exact tame_box
    | with_reducible exact tame_alloc
    | with_reducible exact tame_fieldPlace
    | with_reducible exact tame_partAt
    | with_reducible exact tame_byteOf
    | with_reducible exact tame_typeStr
    | with_reducible exact tame_samePointer
    | with_reducible exact tame_sameAddr
    | with_reducible exact tame_mayBeOne
    | with_reducible exact tame_stringish
    | with_reducible exact tame_markStringish
    | with_reducible exact tame_noView
    | with_reducible exact tame_behindNumber
    | with_reducible exact tame_numberAt
    | with_reducible exact tame_viewAt
    | with_reducible exact tame_sureAddr
    | with_reducible exact tame_asAddr
    | with_reducible exact tame_asAgg
    | with_reducible exact tame_asString
    | with_reducible exact tame_asBool
    | with_reducible exact tame_asInt
    | with_reducible exact tame_asIntOf
    | with_reducible exact tame_boundsPanic
    | with_reducible exact tame_runtimePanic
    | with_reducible exact tame_part
    | with_reducible exact tame_newVar
    | with_reducible exact tame_newRow
    | with_reducible exact tame_storeVar
    | with_reducible exact tame_loadVar
    | with_reducible exact (tame_storeCells _ _)
    | with_reducible exact tame_loadCells
    | with_reducible exact tame_elemOf
    | with_reducible exact tame_isAgg
    | with_reducible exact tame_sizeOf
    | with_reducible exact tame_zeroValue
    | with_reducible exact tame_underlying
    | with_reducible exact tame_typeInfo
    | with_reducible exact tame_room
    | with_reducible exact tame_noRoom
    | with_reducible exact tame_program
    | with_reducible exact tame_choose
    | with_reducible exact tame_setObj
    | with_reducible exact tame_getObj
    | with_reducible exact tame_frozen
    | with_reducible exact tame_freeze
    | with_reducible exact tame_shape
    | with_reducible exact tame_new
    | with_reducible exact tame_store
    | with_reducible exact tame_load
    | with_reducible refine tame_map ?_ (fun _ => True.intro)
    | with_reducible refine tame_bind ?_ (fun _ => ?_)
    | split
    | dsimp only
    | exact True.intro)
theorem tame_ccorrected {s a b c d : Nat} : Tame p Any (Op.Complex.corrected s a b c d) := by
  unfold Op.Complex.corrected
  repeat' (first
    | with_reducible exact tame_pureA
    | with_reducible exact tame_pureB
    | with_reducible exact tame_stuck
    | with_reducible exact tame_unsup
    | with_reducible exact tame_goPanic
    | with_reducible exact tame_cproduct
    | with_reducible exact tame_cquo
    | with_reducible exact tame_cmul
    | with_reducible exact tame_csub
    | with_reducible exact tame_cadd
    | with_reducible exact tame_cconv
    | with_reducible exact tame_ccmp
    | with_reducible exact tame_carith
    | with_reducible exact tame_unsafeAdd
    | with_reducible exact (tame_eqGuardIn _ _ _ _)
    | with_reducible exact (tame_equalIn _ _ _ _)
    | with_reducible exact tame_floatCmp
    | with_reducible exact tame_floatToFloat
    | with_reducible exact tame_floatArith
    | with_reducible exact tame_addrMod
    | with_reducible exact tame_addrCmp
    | with_reducible exact tame_addrSub
    | with_reducible exact tame_twoPlaces
    | with_reducible exact tame_asNumber
    | with_reducible exact tame_cellsIn
    | with_reducible exact tame_bytesToString
    | with_reducible exact tame_append
    | with_reducible exact tame_unary
    | with_reducible exact tame_intCmp
    | with_reducible exact tame_intBits
    | with_reducible exact tame_intDiv
    | with_reducible exact tame_intArith
    | with_reducible exact tame_shift
    | with_reducible exact tame_stringToBytes
    | with_reducible exact tame_intToString
    | with_reducible exact tame_intToInt
    | with_reducible exact tame_stringOp
    | with_reducible exact tame_copy
    | with_reducible exact tame_firstCells
    | with_reducible exact tame_lenOf
    | with_reducible exact tame_mayShare
    | with_reducible exact tame_holdsCells
    | with_reducible exact tame_cap
    | with_reducible exact tame_len
    | with_reducible exact tame_next
    | with_reducible exact tame_range
    | with_reducible exact tame_extract
    | with_reducible exact tame_makeChan
    | with_reducible exact tame_makeFunc
    | with_reducible exact tame_makeInterface
    | with_reducible exact tame_buildSlice
    | with_reducible exact tame_build
    | with_reducible exact (tame_places _)
    | with_reducible exact tame_makeSlice
    | with_reducible exact tame_sliceAt
    | with_reducible exact tame_slice
    | with_reducible exact tame_sliceBounds
    | with_reducible exact tame_sliceBound
    | with_reducible exact tame_index
    | with_reducible exact tame_indexAt
    | with_reducible exact tame_field
    | with_reducible exact tame_fieldAt
    | with_reducible exact tame_storeAt
    | with_reducible exact tame_loadAt
    | with_reducible exact tame_box
    | with_reducible exact tame_alloc
    | with_reducible exact tame_fieldPlace
    | with_reducible exact tame_partAt
    | with_reducible exact tame_byteOf
    | with_reducible exact tame_typeStr
    | with_reducible exact tame_samePointer
    | with_reducible exact tame_sameAddr
    | with_reducible exact tame_mayBeOne
    | with_reducible exact tame_stringish
    | with_reducible exact tame_markStringish
    | with_reducible exact tame_noView
    | with_reducible exact tame_behindNumber
    | with_reducible exact tame_numberAt
    | with_reducible exact tame_viewAt
    | with_reducible exact tame_sureAddr
    | with_reducible exact tame_asAddr
    | with_reducible exact tame_asAgg
    | with_reducible exact tame_asString
    | with_reducible exact tame_asBool
    | with_reducible exact tame_asInt
    | with_reducible exact tame_asIntOf
    | with_reducible exact tame_boundsPanic
    | with_reducible exact tame_runtimePanic
    | with_reducible exact tame_part
    | with_reducible exact tame_newVar
    | with_reducible exact tame_newRow
    | with_reducible exact tame_storeVar
    | with_reducible exact tame_loadVar
    | with_reducible exact (tame_storeCells _ _)
    | with_reducible exact tame_loadCells
    | with_reducible exact tame_elemOf
    | with_reducible exact tame_isAgg
    | with_reducible exact tame_sizeOf
    | with_reducible exact tame_zeroValue
    | with_reducible exact tame_underlying
    | with_reducible exact tame_typeInfo
    | with_reducible exact tame_room
    | with_reducible exact tame_noRoom
    | with_reducible exact tame_program
    | with_reducible exact tame_choose
    | with_reducible exact tame_setObj
    | with_reducible exact tame_getObj
    | with_reducible exact tame_frozen
    | with_reducible exact tame_freeze
    | with_reducible exact tame_shape
    | with_reducible exact tame_new
    | with_reducible exact tame_store
    | with_reducible exact tame_load
    | with_reducible refine tame_map ?_ (fun _ => True.intro)
    | with_reducible refine tame_bind ?_ (fun _ => ?_)
    | split
    | dsimp only
    | exact True.intro)
theorem tame_cquotient {a b c d : Nat} : Tame p Any (Op.Complex.quotient a b c d) := by
  unfold Op.Complex.quotient
  repeat' (first
    | with_reducible exact tame_pureA
    | with_reducible exact tame_pureB
    | with_reducible exact tame_stuck
    | with_reducible exact tame_unsup
    | with_reducible exact tame_goPanic
    | with_reducible exact tame_ccorrected
    | with_reducible exact tame_cproduct
    | with_reducible exact tame_cquo
    | with_reducible exact tame_cmul
    | with_reducible exact tame_csub
    | with_reducible exact tame_cadd
    | with_reducible exact tame_cconv
    | with_reducible exact tame_ccmp
    | with_reducible exact tame_carith
    | with_reducible exact tame_unsafeAdd
    | with_reducible exact (tame_eqGuardIn _ _ _ _)
    | with_reducible exact (tame_equalIn _ _ _ _)
    | with_reducible exact tame_floatCmp
    | with_reducible exact tame_floatToFloat
    | with_reducible exact tame_floatArith
    | with_reducible exact tame_addrMod
    | with_reducible exact tame_addrCmp
    | with_reducible exact tame_addrSub
    | with_reducible exact tame_twoPlaces
    | with_reducible exact tame_asNumber
    | with_reducible exact tame_cellsIn
    | with_reducible exact tame_bytesToString
    | with_reducible exact tame_append
    | with_reducible exact tame_unary
    | with_reducible exact tame_intCmp
    | with_reducible exact tame_intBits
    | with_reducible exact tame_intDiv
    | with_reducible exact tame_intArith
    | with_reducible exact tame_shift
    | with_reducible exact tame_stringToBytes
    | with_reducible exact tame_intToString
    | with_reducible exact tame_intToInt
    | with_reducible exact tame_stringOp
    | with_reducible exact tame_copy
    | with_reducible exact tame_firstCells
    | with_reducible exact tame_lenOf
    | with_reducible exact tame_mayShare
    | with_reducible exact tame_holdsCells
    | with_reducible exact tame_cap
    | with_reducible exact tame_len
    | with_reducible exact tame_next
    | with_reducible exact tame_range
    | with_reducible exact tame_extract
    | with_reducible exact tame_makeChan
    | with_reducible exact tame_makeFunc
    | with_reducible exact tame_makeInterface
    | with_reducible exact tame_buildSlice
    | with_reducible exact tame_build
    | with_reducible exact (tame_places _)
    | with_reducible exact tame_makeSlice
    | with_reducible exact tame_sliceAt
    | with_reducible exact tame_slice
    | with_reducible exact tame_sliceBounds
    | with_reducible exact tame_sliceBound
    | with_reducible exact tame_index
    | with_reducible exact tame_indexAt
    | with_reducible exact tame_field
    | with_reducible exact tame_fieldAt
    | with_reducible exact tame_storeAt
    | with_reducible exact tame_loadAt
    | with_reducible exact tame_box
    | with_reducible exact tame_alloc
    | with_reducible exact tame_fieldPlace
    | with_reducible exact tame_partAt
    | with_reducible exact tame_byteOf
    | with_reducible exact tame_typeStr
    | with_reducible exact tame_samePointer
    | with_reducible exact tame_sameAddr
    | with_reducible exact tame_mayBeOne
    | with_reducible exact tame_stringish
    | with_reducible exact tame_markStringish
    | with_reducible exact tame_noView
    | with_reducible exact tame_behindNumber
    | with_reducible exact tame_numberAt
    | with_reducible exact tame_viewAt
    | with_reducible exact tame_sureAddr
    | with_reducible exact tame_asAddr
    | with_reducible exact tame_asAgg
    | with_reducible exact tame_asString
    | with_reducible exact tame_asBool
    | with_reducible exact tame_asInt
    | with_reducible exact tame_asIntOf
    | with_reducible exact tame_boundsPanic
    | with_reducible exact tame_runtimePanic
    | with_reducible exact tame_part
    | with_reducible exact tame_newVar
    | with_reducible exact tame_newRow
    | with_reducible exact tame_storeVar
    | with_reducible exact tame_loadVar
    | with_reducible exact (tame_storeCells _ _)
    | with_reducible exact tame_loadCells
    | with_reducible exact tame_elemOf
    | with_reducible exact tame_isAgg
    | with_reducible exact tame_sizeOf
    | with_reducible exact tame_zeroValue
    | with_reducible exact tame_underlying
    | with_reducible exact tame_typeInfo
    | with_reducible exact tame_room
    | with_reducible exact tame_noRoom
    | with_reducible exact tame_program
    | with_reducible exact tame_choose
    | with_reducible exact tame_setObj
    | with_reducible exact tame_getObj
    | with_reducible exact tame_frozen
    | with_reducible exact tame_freeze
    | with_reducible exact tame_shape
    | with_reducible exact tame_new
    | with_reducible exact tame_store
    | with_reducible exact tame_load
    | with_reducible refine tame_map ?_ (fun _ => True.intro)
    | with_reducible refine tame_bind ?_ (fun _ => ?_)
    | split
    | dsimp only
    | exact True.intro)
theorem tame_equal {t : TypeId} {x y : Value} : Tame p Any (Op.equal t x y) := by
  unfold Op.equal
  repeat' (first
    | with_reducible exact tame_pureA
    | with_reducible exact tame_pureB
    | with_reducible exact tame_stuck
    | with_reducible exact tame_unsup
    | with_reducible exact tame_goPanic
    | with_reducible exact tame_cquotient
    | with_reducible exact tame_ccorrected
    | with_reducible exact tame_cproduct
    | with_reducible exact tame_cquo
    | with_reducible exact tame_cmul
    | with_reducible exact tame_csub
    | with_reducible exact tame_cadd
    | with_reducible exact tame_cconv
    | with_reducible exact tame_ccmp
    | with_reducible exact tame_carith
    | with_reducible exact tame_unsafeAdd
    | with_reducible exact (tame_eqGuardIn _ _ _ _)
    | with_reducible exact (tame_equalIn _ _ _ _)
    | with_reducible exact tame_floatCmp
    | with_reducible exact tame_floatToFloat
    | with_reducible exact tame_floatArith
    | with_reducible exact tame_addrMod
    | with_reducible exact tame_addrCmp
    | with_reducible exact tame_addrSub
    | with_reducible exact tame_twoPlaces
    | with_reducible exact tame_asNumber
    | with_reducible exact tame_cellsIn
    | with_reducible exact tame_bytesToString
    | with_reducible exact tame_append
    | with_reducible exact tame_unary
    | with_reducible exact tame_intCmp
    | with_reducible exact tame_intBits
    | with_reducible exact tame_intDiv
    | with_reducible exact tame_intArith
    | with_reducible exact tame_shift
    | with_reducible exact tame_stringToBytes
    | with_reducible exact tame_intToString
    | with_reducible exact tame_intToInt
    | with_reducible exact tame_stringOp
    | with_reducible exact tame_copy
    | with_reducible exact tame_firstCells
    | with_reducible exact tame_lenOf
    | with_reducible exact tame_mayShare
    | with_reducible exact tame_holdsCells
    | with_reducible exact tame_cap
    | with_reducible exact tame_len
    | with_reducible exact tame_next
    | with_reducible exact tame_range
    | with_reducible exact tame_extract
    | with_reducible exact tame_makeChan
    | with_reducible exact tame_makeFunc
    | with_reducible exact tame_makeInterface
    | with_reducible exact tame_buildSlice
    | with_reducible exact tame_build
    | with_reducible exact (tame_places _)
    | with_reducible exact tame_makeSlice
    | with_reducible exact tame_sliceAt
    | with_reducible exact tame_slice
    | with_reducible exact tame_sliceBounds
    | with_reducible exact tame_sliceBound
    | with_reducible exact tame_index
    | with_reducible exact tame_indexAt
    | with_reducible exact tame_field
    | with_reducible exact tame_fieldAt
    | with_reducible exact tame_storeAt
    | with_reducible exact tame_loadAt
    | with_reducible exact tame_box
    | with_reducible exact tame_alloc
    | with_reducible exact tame_fieldPlace
    | with_reducible exact tame_partAt
    | with_reducible exact tame_byteOf
    | with_reducible exact tame_typeStr
    | with_reducible exact tame_samePointer
    | with_reducible exact tame_sameAddr
    | with_reducible exact tame_mayBeOne
    | with_reducible exact tame_stringish
    | with_reducible exact tame_markStringish
    | with_reducible exact tame_noView
    | with_reducible exact tame_behindNumber
    | with_reducible exact tame_numberAt
    | with_reducible exact tame_viewAt
    | with_reducible exact tame_sureAddr
    | with_reducible exact tame_asAddr
    | with_reducible exact tame_asAgg
    | with_reducible exact tame_asString
    | with_reducible exact tame_asBool
    | with_reducible exact tame_asInt
    | with_reducible exact tame_asIntOf
    | with_reducible exact tame_boundsPanic
    | with_reducible exact tame_runtimePanic
    | with_reducible exact tame_part
    | with_reducible exact tame_newVar
    | with_reducible exact tame_newRow
    | with_reducible exact tame_storeVar
    | with_reducible exact tame_loadVar
    | with_reducible exact (tame_storeCells _ _)
    | with_reducible exact tame_loadCells
    | with_reducible exact tame_elemOf
    | with_reducible exact tame_isAgg
    | with_reducible exact tame_sizeOf
    | with_reducible exact tame_zeroValue
    | with_reducible exact tame_underlying
    | with_reducible exact tame_typeInfo
    | with_reducible exact tame_room
    | with_reducible exact tame_noRoom
    | with_reducible exact tame_program
    | with_reducible exact tame_choose
    | with_reducible exact tame_setObj
    | with_reducible exact tame_getObj
    | with_reducible exact tame_frozen
    | with_reducible exact tame_freeze
    | with_reducible exact tame_shape
    | with_reducible exact tame_new
    | with_reducible exact tame_store
    | with_reducible exact tame_load
    | with_reducible refine tame_map ?_ (fun _ => True.intro)
    | with_reducible refine tame_bind ?_ (fun _ => ?_)
    | split
    | dsimp only
    | exact True.intro)
theorem tame_eqGuard {o : BinOp} {t : TypeId} {x y : Operand} {a b : Value} : Tame p Any (eqGuard o t x y a b) := by
  unfold eqGuard
  repeat' (first
    | with_reducible exact tame_pureA
    | with_reducible exact tame_pureB
    | with_reducible exact tame_stuck
    | with_reducible exact tame_unsup
    | with_reducible exact tame_goPanic
    | with_reducible exact tame_equal
    | with_reducible exact tame_cquotient
    | with_reducible exact tame_ccorrected
    | with_reducible exact tame_cproduct
    | with_reducible exact tame_cquo
    | with_reducible exact tame_cmul
    | with_reducible exact tame_csub
    | with_reducible exact tame_cadd
    | with_reducible exact tame_cconv
    | with_reducible exact tame_ccmp
    | with_reducible exact tame_carith
    | with_reducible exact tame_unsafeAdd
    | with_reducible exact (tame_eqGuardIn _ _ _ _)
    | with_reducible exact (tame_equalIn _ _ _ _)
    | with_reducible exact tame_floatCmp
    | with_reducible exact tame_floatToFloat
    | with_reducible exact tame_floatArith
    | with_reducible exact tame_addrMod
    | with_reducible exact tame_addrCmp
    | with_reducible exact tame_addrSub
    | with_reducible exact tame_twoPlaces
    | with_reducible exact tame_asNumber
    | with_reducible exact tame_cellsIn
    | with_reducible exact tame_bytesToString
    | with_reducible exact tame_append
    | with_reducible exact tame_unary
    | with_reducible exact tame_intCmp
    | with_reducible exact tame_intBits
    | with_reducible exact tame_intDiv
    | with_reducible exact tame_intArith
    | with_reducible exact tame_shift
    | with_reducible exact tame_stringToBytes
    | with_reducible exact tame_intToString
    | with_reducible exact tame_intToInt
    | with_reducible exact tame_stringOp
    | with_reducible exact tame_copy
    | with_reducible exact tame_firstCells
    | with_reducible exact tame_lenOf
    | with_reducible exact tame_mayShare
    | with_reducible exact tame_holdsCells
    | with_reducible exact tame_cap
    | with_reducible exact tame_len
    | with_reducible exact tame_next
    | with_reducible exact tame_range
    | with_reducible exact tame_extract
    | with_reducible exact tame_makeChan
    | with_reducible exact tame_makeFunc
    | with_reducible exact tame_makeInterface
    | with_reducible exact tame_buildSlice
    | with_reducible exact tame_build
    | with_reducible exact (tame_places _)
    | with_reducible exact tame_makeSlice
    | with_reducible exact tame_sliceAt
    | with_reducible exact tame_slice
    | with_reducible exact tame_sliceBounds
    | with_reducible exact tame_sliceBound
    | with_reducible exact tame_index
    | with_reducible exact tame_indexAt
    | with_reducible exact tame_field
    | with_reducible exact tame_fieldAt
    | with_reducible exact tame_storeAt
    | with_reducible exact tame_loadAt
    | with_reducible exact tame_box
    | with_reducible exact tame_alloc
    | with_reducible exact tame_fieldPlace
    | with_reducible exact tame_partAt
    | with_reducible exact tame_byteOf
    | with_reducible exact tame_typeStr
    | with_reducible exact tame_samePointer
    | with_reducible exact tame_sameAddr
    | with_reducible exact tame_mayBeOne
    | with_reducible exact tame_stringish
    | with_reducible exact tame_markStringish
    | with_reducible exact tame_noView
    | with_reducible exact tame_behindNumber
    | with_reducible exact tame_numberAt
    | with_reducible exact tame_viewAt
    | with_reducible exact tame_sureAddr
    | with_reducible exact tame_asAddr
    | with_reducible exact tame_asAgg
    | with_reducible exact tame_asString
    | with_reducible exact tame_asBool
    | with_reducible exact tame_asInt
    | with_reducible exact tame_asIntOf
    | with_reducible exact tame_boundsPanic
    | with_reducible exact tame_runtimePanic
    | with_reducible exact tame_part
    | with_reducible exact tame_newVar
    | with_reducible exact tame_newRow
    | with_reducible exact tame_storeVar
    | with_reducible exact tame_loadVar
    | with_reducible exact (tame_storeCells _ _)
    | with_reducible exact tame_loadCells
    | with_reducible exact tame_elemOf
    | with_reducible exact tame_isAgg
    | with_reducible exact tame_sizeOf
    | with_reducible exact tame_zeroValue
    | with_reducible exact tame_underlying
    | with_reducible exact tame_typeInfo
    | with_reducible exact tame_room
    | with_reducible exact tame_noRoom
    | with_reducible exact tame_program
    | with_reducible exact tame_choose
    | with_reducible exact tame_setObj
    | with_reducible exact tame_getObj
    | with_reducible exact tame_frozen
    | with_reducible exact tame_freeze
    | with_reducible exact tame_shape
    | with_reducible exact tame_new
    | with_reducible exact tame_store
    | with_reducible exact tame_load
    | with_reducible refine tame_map ?_ (fun _ => True.intro)
    | with_reducible refine tame_bind ?_ (fun _ => ?_)
    | split
    | dsimp only
    | exact True.intro)
theorem tame_movedNumber {t : TypeId} {x y : Value} : Tame p Any (movedNumber t x y) := by
  unfold movedNumber
  repeat' (first
    | with_reducible exact tame_pureA
    | with_reducible exact tame_pureB
    | with_reducible exact tame_stuck
    | with_reducible exact tame_unsup
    | with_reducible exact tame_goPanic
    | with_reducible exact tame_eqGuard
    | with_reducible exact tame_equal
    | with_reducible exact tame_cquotient
    | with_reducible exact tame_ccorrected
    | with_reducible exact tame_cproduct
    | with_reducible exact tame_cquo
    | with_reducible exact tame_cmul
    | with_reducible exact tame_csub
    | with_reducible exact tame_cadd
    | with_reducible exact tame_cconv
    | with_reducible exact tame_ccmp
    | with_reducible exact tame_carith
    | with_reducible exact tame_unsafeAdd
    | with_reducible exact (tame_eqGuardIn _ _ _ _)
    | with_reducible exact (tame_equalIn _ _ _ _)
    | with_reducible exact tame_floatCmp
    | with_reducible exact tame_floatToFloat
    | with_reducible exact tame_floatArith
    | with_reducible exact tame_addrMod
    | with_reducible exact tame_addrCmp
    | with_reducible exact tame_addrSub
    | with_reducible exact tame_twoPlaces
    | with_reducible exact tame_asNumber
    | with_reducible exact tame_cellsIn
    | with_reducible exact tame_bytesToString
    | with_reducible exact tame_append
    | with_reducible exact tame_unary
    | with_reducible exact tame_intCmp
    | with_reducible exact tame_intBits
    | with_reducible exact tame_intDiv
    | with_reducible exact tame_intArith
    | with_reducible exact tame_shift
    | with_reducible exact tame_stringToBytes
    | with_reducible exact tame_intToString
    | with_reducible exact tame_intToInt
    | with_reducible exact tame_stringOp
    | with_reducible exact tame_copy
    | with_reducible exact tame_firstCells
    | with_reducible exact tame_lenOf
    | with_reducible exact tame_mayShare
    | with_reducible exact tame_holdsCells
    | with_reducible exact tame_cap
    | with_reducible exact tame_len
    | with_reducible exact tame_next
    | with_reducible exact tame_range
    | with_reducible exact tame_extract
    | with_reducible exact tame_makeChan
    | with_reducible exact tame_makeFunc
    | with_reducible exact tame_makeInterface
    | with_reducible exact tame_buildSlice
    | with_reducible exact tame_build
    | with_reducible exact (tame_places _)
    | with_reducible exact tame_makeSlice
    | with_reducible exact tame_sliceAt
    | with_reducible exact tame_slice
    | with_reducible exact tame_sliceBounds
    | with_reducible exact tame_sliceBound
    | with_reducible exact tame_index
    | with_reducible exact tame_indexAt
    | with_reducible exact tame_field
    | with_reducible exact tame_fieldAt
    | with_reducible exact tame_storeAt
    | with_reducible exact tame_loadAt
    | with_reducible exact tame_box
    | with_reducible exact tame_alloc
    | with_reducible exact tame_fieldPlace
    | with_reducible exact tame_partAt
    | with_reducible exact tame_byteOf
    | with_reducible exact tame_typeStr
    | with_reducible exact tame_samePointer
    | with_reducible exact tame_sameAddr
    | with_reducible exact tame_mayBeOne
    | with_reducible exact tame_stringish
    | with_reducible exact tame_markStringish
    | with_reducible exact tame_noView
    | with_reducible exact tame_behindNumber
    | with_reducible exact tame_numberAt
    | with_reducible exact tame_viewAt
    | with_reducible exact tame_sureAddr
    | with_reducible exact tame_asAddr
    | with_reducible exact tame_asAgg
    | with_reducible exact tame_asString
    | with_reducible exact tame_asBool
    | with_reducible exact tame_asInt
    | with_reducible exact tame_asIntOf
    | with_reducible exact tame_boundsPanic
    | with_reducible exact tame_runtimePanic
    | with_reducible exact tame_part
    | with_reducible exact tame_newVar
    | with_reducible exact tame_newRow
    | with_reducible exact tame_storeVar
    | with_reducible exact tame_loadVar
    | with_reducible exact (tame_storeCells _ _)
    | with_reducible exact tame_loadCells
    | with_reducible exact tame_elemOf
    | with_reducible exact tame_isAgg
    | with_reducible exact tame_sizeOf
    | with_reducible exact tame_zeroValue
    | with_reducible exact tame_underlying
    | with_reducible exact tame_typeInfo
    | with_reducible exact tame_room
    | with_reducible exact tame_noRoom
    | with_reducible exact tame_program
    | with_reducible exact tame_choose
    | with_reducible exact tame_setObj
    | with_reducible exact tame_getObj
    | with_reducible exact tame_frozen
    | with_reducible exact tame_freeze
    | with_reducible exact tame_shape
    | with_reducible exact tame_new
    | with_reducible exact tame_store
    | with_reducible exact tame_load
    | with_reducible refine tame_map ?_ (fun _ => True.intro)
    | with_reducible refine tame_bind ?_ (fun _ => ?_)
    | split
    | dsimp only
    | exact True.intro)
theorem tame_movedPointer {t : TypeId} {x y : Value} : Tame p Any (movedPointer t x y) := by
  unfold movedPointer
  repeat' (first
    | with_reducible exact tame_pureA
    | with_reducible exact tame_pureB
    | with_reducible exact tame_stuck
    | with_reducible exact tame_unsup
    | with_reducible exact tame_goPanic
    | with_reducible exact tame_movedNumber
    | with_reducible exact tame_eqGuard
    | with_reducible exact tame_equal
    | with_reducible exact tame_cquotient
    | with_reducible exact tame_ccorrected
    | with_reducible exact tame_cproduct
    | with_reducible exact tame_cquo
    | with_reducible exact tame_cmul
    | with_reducible exact tame_csub
    | with_reducible exact tame_cadd
    | with_reducible exact tame_cconv
    | with_reducible exact tame_ccmp
    | with_reducible exact tame_carith
    | with_reducible exact tame_unsafeAdd
    | with_reducible exact (tame_eqGuardIn _ _ _ _)
    | with_reducible exact (tame_equalIn _ _ _ _)
    | with_reducible exact tame_floatCmp
    | with_reducible exact tame_floatToFloat
    | with_reducible exact tame_floatArith
    | with_reducible exact tame_addrMod
    | with_reducible exact tame_addrCmp
    | with_reducible exact tame_addrSub
    | with_reducible exact tame_twoPlaces
    | with_reducible exact tame_asNumber
    | with_reducible exact tame_cellsIn
    | with_reducible exact tame_bytesToString
    | with_reducible exact tame_append
    | with_reducible exact tame_unary
    | with_reducible exact tame_intCmp
    | with_reducible exact tame_intBits
    | with_reducible exact tame_intDiv
    | with_reducible exact tame_intArith
    | with_reducible exact tame_shift
    | with_reducible exact tame_stringToBytes
    | with_reducible exact tame_intToString
    | with_reducible exact tame_intToInt
    | with_reducible exact tame_stringOp
    | with_reducible exact tame_copy
    | with_reducible exact tame_firstCells
    | with_reducible exact tame_lenOf
    | with_reducible exact tame_mayShare
    | with_reducible exact tame_holdsCells
    | with_reducible exact tame_cap
    | with_reducible exact tame_len
    | with_reducible exact tame_next
    | with_reducible exact tame_range
    | with_reducible exact tame_extract
    | with_reducible exact tame_makeChan
    | with_reducible exact tame_makeFunc
    | with_reducible exact tame_makeInterface
    | with_reducible exact tame_buildSlice
    | with_reducible exact tame_build
    | with_reducible exact (tame_places _)
    | with_reducible exact tame_makeSlice
    | with_reducible exact tame_sliceAt
    | with_reducible exact tame_slice
    | with_reducible exact tame_sliceBounds
    | with_reducible exact tame_sliceBound
    | with_reducible exact tame_index
    | with_reducible exact tame_indexAt
    | with_reducible exact tame_field
    | with_reducible exact tame_fieldAt
    | with_reducible exact tame_storeAt
    | with_reducible exact tame_loadAt
    | with_reducible exact tame_box
    | with_reducible exact tame_alloc
    | with_reducible exact tame_fieldPlace
    | with_reducible exact tame_partAt
    | with_reducible exact tame_byteOf
    | with_reducible exact tame_typeStr
    | with_reducible exact tame_samePointer
    | with_reducible exact tame_sameAddr
    | with_reducible exact tame_mayBeOne
    | with_reducible exact tame_stringish
    | with_reducible exact tame_markStringish
    | with_reducible exact tame_noView
    | with_reducible exact tame_behindNumber
    | with_reducible exact tame_numberAt
    | with_reducible exact tame_viewAt
    | with_reducible exact tame_sureAddr
    | with_reducible exact tame_asAddr
    | with_reducible exact tame_asAgg
    | with_reducible exact tame_asString
    | with_reducible exact tame_asBool
    | with_reducible exact tame_asInt
    | with_reducible exact tame_asIntOf
    | with_reducible exact tame_boundsPanic
    | with_reducible exact tame_runtimePanic
    | with_reducible exact tame_part
    | with_reducible exact tame_newVar
    | with_reducible exact tame_newRow
    | with_reducible exact tame_storeVar
    | with_reducible exact tame_loadVar
    | with_reducible exact (tame_storeCells _ _)
    | with_reducible exact tame_loadCells
    | with_reducible exact tame_elemOf
    | with_reducible exact tame_isAgg
    | with_reducible exact tame_sizeOf
    | with_reducible exact tame_zeroValue
    | with_reducible exact tame_underlying
    | with_reducible exact tame_typeInfo
    | with_reducible exact tame_room
    | with_reducible exact tame_noRoom
    | with_reducible exact tame_program
    | with_reducible exact tame_choose
    | with_reducible exact tame_setObj
    | with_reducible exact tame_getObj
    | with_reducible exact tame_frozen
    | with_reducible exact tame_freeze
    | with_reducible exact tame_shape
    | with_reducible exact tame_new
    | with_reducible exact tame_store
    | with_reducible exact tame_load
    | with_reducible refine tame_map ?_ (fun _ => True.intro)
    | with_reducible refine tame_bind ?_ (fun _ => ?_)
    | split
    | dsimp only
    | exact True.intro)
theorem tame_complexOp {o : BinOp} {k : FloatKind} {a b c d : Nat} : Tame p Any (Op.complexOp o k a b c d) := by
  unfold Op.complexOp
  repeat' (first
    | with_reducible exact tame_pureA
    | with_reducible exact tame_pureB
    | with_reducible exact tame_stuck
    | with_reducible exact tame_unsup
    | with_reducible exact tame_goPanic
    | with_reducible exact tame_movedPointer
    | with_reducible exact tame_movedNumber
    | with_reducible exact tame_eqGuard
    | with_reducible exact tame_equal
    | with_reducible exact tame_cquotient
    | with_reducible exact tame_ccorrected
    | with_reducible exact tame_cproduct
    | with_reducible exact tame_cquo
    | with_reducible exact tame_cmul
    | with_reducible exact tame_csub
    | with_reducible exact tame_cadd
    | with_reducible exact tame_cconv
    | with_reducible exact tame_ccmp
    | with_reducible exact tame_carith
    | with_reducible exact tame_unsafeAdd
    | with_reducible exact (tame_eqGuardIn _ _ _ _)
    | with_reducible exact (tame_equalIn _ _ _ _)
    | with_reducible exact tame_floatCmp
    | with_reducible exact tame_floatToFloat
    | with_reducible exact tame_floatArith
    | with_reducible exact tame_addrMod
    | with_reducible exact tame_addrCmp
    | with_reducible exact tame_addrSub
    | with_reducible exact tame_twoPlaces
    | with_reducible exact tame_asNumber
    | with_reducible exact tame_cellsIn
    | with_reducible exact tame_bytesToString
    | with_reducible exact tame_append
    | with_reducible exact tame_unary
    | with_reducible exact tame_intCmp
    | with_reducible exact tame_intBits
    | with_reducible exact tame_intDiv
    | with_reducible exact tame_intArith
    | with_reducible exact tame_shift
    | with_reducible exact tame_stringToBytes
    | with_reducible exact tame_intToString
    | with_reducible exact tame_intToInt
    | with_reducible exact tame_stringOp
    | with_reducible exact tame_copy
    | with_reducible exact tame_firstCells
    | with_reducible exact tame_lenOf
    | with_reducible exact tame_mayShare
    | with_reducible exact tame_holdsCells
    | with_reducible exact tame_cap
    | with_reducible exact tame_len
    | with_reducible exact tame_next
    | with_reducible exact tame_range
    | with_reducible exact tame_extract
    | with_reducible exact tame_makeChan
    | with_reducible exact tame_makeFunc
    | with_reducible exact tame_makeInterface
    | with_reducible exact tame_buildSlice
    | with_reducible exact tame_build
    | with_reducible exact (tame_places _)
    | with_reducible exact tame_makeSlice
    | with_reducible exact tame_sliceAt
    | with_reducible exact tame_slice
    | with_reducible exact tame_sliceBounds
    | with_reducible exact tame_sliceBound
    | with_reducible exact tame_index
    | with_reducible exact tame_indexAt
    | with_reducible exact tame_field
    | with_reducible exact tame_fieldAt
    | with_reducible exact tame_storeAt
    | with_reducible exact tame_loadAt
    | with_reducible exact tame_box
    | with_reducible exact tame_alloc
    | with_reducible exact tame_fieldPlace
    | with_reducible exact tame_partAt
    | with_reducible exact tame_byteOf
    | with_reducible exact tame_typeStr
    | with_reducible exact tame_samePointer
    | with_reducible exact tame_sameAddr
    | with_reducible exact tame_mayBeOne
    | with_reducible exact tame_stringish
    | with_reducible exact tame_markStringish
    | with_reducible exact tame_noView
    | with_reducible exact tame_behindNumber
    | with_reducible exact tame_numberAt
    | with_reducible exact tame_viewAt
    | with_reducible exact tame_sureAddr
    | with_reducible exact tame_asAddr
    | with_reducible exact tame_asAgg
    | with_reducible exact tame_asString
    | with_reducible exact tame_asBool
    | with_reducible exact tame_asInt
    | with_reducible exact tame_asIntOf
    | with_reducible exact tame_boundsPanic
    | with_reducible exact tame_runtimePanic
    | with_reducible exact tame_part
    | with_reducible exact tame_newVar
    | with_reducible exact tame_newRow
    | with_reducible exact tame_storeVar
    | with_reducible exact tame_loadVar
    | with_reducible exact (tame_storeCells _ _)
    | with_reducible exact tame_loadCells
    | with_reducible exact tame_elemOf
    | with_reducible exact tame_isAgg
    | with_reducible exact tame_sizeOf
    | with_reducible exact tame_zeroValue
    | with_reducible exact tame_underlying
    | with_reducible exact tame_typeInfo
    | with_reducible exact tame_room
    | with_reducible exact tame_noRoom
    | with_reducible exact tame_program
    | with_reducible exact tame_choose
    | with_reducible exact tame_setObj
    | with_reducible exact tame_getObj
    | with_reducible exact tame_frozen
    | with_reducible exact tame_freeze
    | with_reducible exact tame_shape
    | with_reducible exact tame_new
    | with_reducible exact tame_store
    | with_reducible exact tame_load
    | with_reducible refine tame_map ?_ (fun _ => True.intro)
    | with_reducible refine tame_bind ?_ (fun _ => ?_)
    | split
    | dsimp only
    | exact True.intro)
theorem tame_binOp {o : BinOp} {t : TypeId} {x y : Value} : Tame p Any (binOp o t x y) := by
  unfold binOp
  repeat' (first
    | with_reducible exact tame_pureA
    | with_reducible exact tame_pureB
    | with_reducible exact tame_stuck
    | with_reducible exact tame_unsup
    | with_reducible exact tame_goPanic
    | with_reducible exact tame_complexOp
    | with_reducible exact tame_movedPointer
    | with_reducible exact tame_movedNumber
    | with_reducible exact tame_eqGuard
    | with_reducible exact tame_equal
    | with_reducible exact tame_cquotient
    | with_reducible exact tame_ccorrected
    | with_reducible exact tame_cproduct
    | with_reducible exact tame_cquo
    | with_reducible exact tame_cmul
    | with_reducible exact tame_csub
    | with_reducible exact tame_cadd
    | with_reducible exact tame_cconv
    | with_reducible exact tame_ccmp
    | with_reducible exact tame_carith
    | with_reducible exact tame_unsafeAdd
    | with_reducible exact (tame_eqGuardIn _ _ _ _)
    | with_reducible exact (tame_equalIn _ _ _ _)
    | with_reducible exact tame_floatCmp
    | with_reducible exact tame_floatToFloat
    | with_reducible exact tame_floatArith
    | with_reducible exact tame_addrMod
    | with_reducible exact tame_addrCmp
    | with_reducible exact tame_addrSub
    | with_reducible exact tame_twoPlaces
    | with_reducible exact tame_asNumber
    | with_reducible exact tame_cellsIn
    | with_reducible exact tame_bytesToString
    | with_reducible exact tame_append
    | with_reducible exact tame_unary
    | with_reducible exact tame_intCmp
    | with_reducible exact tame_intBits
    | with_reducible exact tame_intDiv
    | with_reducible exact tame_intArith
    | with_reducible exact tame_shift
    | with_reducible exact tame_stringToBytes
    | with_reducible exact tame_intToString
    | with_reducible exact tame_intToInt
    | with_reducible exact tame_stringOp
    | with_reducible exact tame_copy
    | with_reducible exact tame_firstCells
    | with_reducible exact tame_lenOf
    | with_reducible exact tame_mayShare
    | with_reducible exact tame_holdsCells
    | with_reducible exact tame_cap
    | with_reducible exact tame_len
    | with_reducible exact tame_next
    | with_reducible exact tame_range
    | with_reducible exact tame_extract
    | with_reducible exact tame_makeChan
    | with_reducible exact tame_makeFunc
    | with_reducible exact tame_makeInterface
    | with_reducible exact tame_buildSlice
    | with_reducible exact tame_build
    | with_reducible exact (tame_places _)
    | with_reducible exact tame_makeSlice
    | with_reducible exact tame_sliceAt
    | with_reducible exact tame_slice
    | with_reducible exact tame_sliceBounds
    | with_reducible exact tame_sliceBound
    | with_reducible exact tame_index
    | with_reducible exact tame_indexAt
    | with_reducible exact tame_field
    | with_reducible exact tame_fieldAt
    | with_reducible exact tame_storeAt
    | with_reducible exact tame_loadAt
    | with_reducible exact tame_box
    | with_reducible exact tame_alloc
    | with_reducible exact tame_fieldPlace
    | with_reducible exact tame_partAt
    | with_reducible exact tame_byteOf
    | with_reducible exact tame_typeStr
    | with_reducible exact tame_samePointer
    | with_reducible exact tame_sameAddr
    | with_reducible exact tame_mayBeOne
    | with_reducible exact tame_stringish
    | with_reducible exact tame_markStringish
    | with_reducible exact tame_noView
    | with_reducible exact tame_behindNumber
    | with_reducible exact tame_numberAt
    | with_reducible exact tame_viewAt
    | with_reducible exact tame_sureAddr
    | with_reducible exact tame_asAddr
    | with_reducible exact tame_asAgg
    | with_reducible exact tame_asString
    | with_reducible exact tame_asBool
    | with_reducible exact tame_asInt
    | with_reducible exact tame_asIntOf
    | with_reducible exact tame_boundsPanic
    | with_reducible exact tame_runtimePanic
    | with_reducible exact tame_part
    | with_reducible exact tame_newVar
    | with_reducible exact tame_newRow
    | with_reducible exact tame_storeVar
    | with_reducible exact tame_loadVar
    | with_reducible exact (tame_storeCells _ _)
    | with_reducible exact tame_loadCells
    | with_reducible exact tame_elemOf
    | with_reducible exact tame_isAgg
    | with_reducible exact tame_sizeOf
    | with_reducible exact tame_zeroValue
    | with_reducible exact tame_underlying
    | with_reducible exact tame_typeInfo
    | with_reducible exact tame_room
    | with_reducible exact tame_noRoom
    | with_reducible exact tame_program
    | with_reducible exact tame_choose
    | with_reducible exact tame_setObj
    | with_reducible exact tame_getObj
    | with_reducible exact tame_frozen
    | with_reducible exact tame_freeze
    | with_reducible exact tame_shape
    | with_reducible exact tame_new
    | with_reducible exact tame_store
    | with_reducible exact tame_load
    | with_reducible refine tame_map ?_ (fun _ => True.intro)
    | with_reducible refine tame_bind ?_ (fun _ => ?_)
    | split
    | dsimp only
    | exact True.intro)
theorem tame_intToFloat {k : FloatKind} {n : Int} : Tame p Any (Conv.intToFloat k n) := by
  unfold Conv.intToFloat
  repeat' (first
    | with_reducible exact tame_pureA
    | with_reducible exact tame_pureB
    | with_reducible exact tame_stuck
    | with_reducible exact tame_unsup
    | with_reducible exact tame_goPanic
    | with_reducible exact tame_binOp
    | with_reducible exact tame_complexOp
    | with_reducible exact tame_movedPointer
    | with_reducible exact tame_movedNumber
    | with_reducible exact tame_eqGuard
    | with_reducible exact tame_equal
    | with_reducible exact tame_cquotient
    | with_reducible exact tame_ccorrected
    | with_reducible exact tame_cproduct
    | with_reducible exact tame_cquo
    | with_reducible exact tame_cmul
    | with_reducible exact tame_csub
    | with_reducible exact tame_cadd
    | with_reducible exact tame_cconv
    | with_reducible exact tame_ccmp
    | with_reducible exact tame_carith
    | with_reducible exact tame_unsafeAdd
    | with_reducible exact (tame_eqGuardIn _ _ _ _)
    | with_reducible exact (tame_equalIn _ _ _ _)
    | with_reducible exact tame_floatCmp
    | with_reducible exact tame_floatToFloat
    | with_reducible exact tame_floatArith
    | with_reducible exact tame_addrMod
    | with_reducible exact tame_addrCmp
    | with_reducible exact tame_addrSub
    | with_reducible exact tame_twoPlaces
    | with_reducible exact tame_asNumber
    | with_reducible exact tame_cellsIn
    | with_reducible exact tame_bytesToString
    | with_reducible exact tame_append
    | with_reducible exact tame_unary
    | with_reducible exact tame_intCmp
    | with_reducible exact tame_intBits
    | with_reducible exact tame_intDiv
    | with_reducible exact tame_intArith
    | with_reducible exact tame_shift
    | with_reducible exact tame_stringToBytes
    | with_reducible exact tame_intToString
    | with_reducible exact tame_intToInt
    | with_reducible exact tame_stringOp
    | with_reducible exact tame_copy
    | with_reducible exact tame_firstCells
    | with_reducible exact tame_lenOf
    | with_reducible exact tame_mayShare
    | with_reducible exact tame_holdsCells
    | with_reducible exact tame_cap
    | with_reducible exact tame_len
    | with_reducible exact tame_next
    | with_reducible exact tame_range
    | with_reducible exact tame_extract
    | with_reducible exact tame_makeChan
    | with_reducible exact tame_makeFunc
    | with_reducible exact tame_makeInterface
    | with_reducible exact tame_buildSlice
    | with_reducible exact tame_build
    | with_reducible exact (tame_places _)
    | with_reducible exact tame_makeSlice
    | with_reducible exact tame_sliceAt
    | with_reducible exact tame_slice
    | with_reducible exact tame_sliceBounds
    | with_reducible exact tame_sliceBound
    | with_reducible exact tame_index
    | with_reducible exact tame_indexAt
    | with_reducible exact tame_field
    | with_reducible exact tame_fieldAt
    | with_reducible exact tame_storeAt
    | with_reducible exact tame_loadAt
    | with_reducible exact tame_box
    | with_reducible exact tame_alloc
    | with_reducible exact tame_fieldPlace
    | with_reducible exact tame_partAt
    | with_reducible exact tame_byteOf
    | with_reducible exact tame_typeStr
    | with_reducible exact tame_samePointer
    | with_reducible exact tame_sameAddr
    | with_reducible exact tame_mayBeOne
    | with_reducible exact tame_stringish
    | with_reducible exact tame_markStringish
    | with_reducible exact tame_noView
    | with_reducible exact tame_behindNumber
    | with_reducible exact tame_numberAt
    | with_reducible exact tame_viewAt
    | with_reducible exact tame_sureAddr
    | with_reducible exact tame_asAddr
    | with_reducible exact tame_asAgg
    | with_reducible exact tame_asString
    | with_reducible exact tame_asBool
    | with_reducible exact tame_asInt
    | with_reducible exact tame_asIntOf
    | with_reducible exact tame_boundsPanic
    | with_reducible exact tame_runtimePanic
    | with_reducible exact tame_part
    | with_reducible exact tame_newVar
    | with_reducible exact tame_newRow
    | with_reducible exact tame_storeVar
    | with_reducible exact tame_loadVar
    | with_reducible exact (tame_storeCells _ _)
    | with_reducible exact tame_loadCells
    | with_reducible exact tame_elemOf
    | with_reducible exact tame_isAgg
    | with_reducible exact tame_sizeOf
    | with_reducible exact tame_zeroValue
    | with_reducible exact tame_underlying
    | with_reducible exact tame_typeInfo
    | with_reducible exact tame_room
    | with_reducible exact tame_noRoom
    | with_reducible exact tame_program
    | with_reducible exact tame_choose
    | with_reducible exact tame_setObj
    | with_reducible exact tame_getObj
    | with_reducible exact tame_frozen
    | with_reducible exact tame_freeze
    | with_reducible exact tame_shape
    | with_reducible exact tame_new
    | with_reducible exact tame_store
    | with_reducible exact tame_load
    | with_reducible refine tame_map ?_ (fun _ => True.intro)
    | with_reducible refine tame_bind ?_ (fun _ => ?_)
    | split
    | dsimp only
    | exact True.intro)
theorem tame_floatToInt {k : FloatKind} {b : Nat} {n : IntKind} : Tame p Any (Conv.floatToInt k b n) := by
  unfold Conv.floatToInt
  repeat' (first
    | with_reducible exact tame_pureA
    | with_reducible exact tame_pureB
    | with_reducible exact tame_stuck
    | with_reducible exact tame_unsup
    | with_reducible exact tame_goPanic
    | with_reducible exact tame_intToFloat
    | with_reducible exact tame_binOp
    | with_reducible exact tame_complexOp
    | with_reducible exact tame_movedPointer
    | with_reducible exact tame_movedNumber
    | with_reducible exact tame_eqGuard
    | with_reducible exact tame_equal
    | with_reducible exact tame_cquotient
    | with_reducible exact tame_ccorrected
    | with_reducible exact tame_cproduct
    | with_reducible exact tame_cquo
    | with_reducible exact tame_cmul
    | with_reducible exact tame_csub
    | with_reducible exact tame_cadd
    | with_reducible exact tame_cconv
    | with_reducible exact tame_ccmp
    | with_reducible exact tame_carith
    | with_reducible exact tame_unsafeAdd
    | with_reducible exact (tame_eqGuardIn _ _ _ _)
    | with_reducible exact (tame_equalIn _ _ _ _)
    | with_reducible exact tame_floatCmp
    | with_reducible exact tame_floatToFloat
    | with_reducible exact tame_floatArith
    | with_reducible exact tame_addrMod
    | with_reducible exact tame_addrCmp
    | with_reducible exact tame_addrSub
    | with_reducible exact tame_twoPlaces
    | with_reducible exact tame_asNumber
    | with_reducible exact tame_cellsIn
    | with_reducible exact tame_bytesToString
    | with_reducible exact tame_append
    | with_reducible exact tame_unary
    | with_reducible exact tame_intCmp
    | with_reducible exact tame_intBits
    | with_reducible exact tame_intDiv
    | with_reducible exact tame_intArith
    | with_reducible exact tame_shift
    | with_reducible exact tame_stringToBytes
    | with_reducible exact tame_intToString
    | with_reducible exact tame_intToInt
    | with_reducible exact tame_stringOp
    | with_reducible exact tame_copy
    | with_reducible exact tame_firstCells
    | with_reducible exact tame_lenOf
    | with_reducible exact tame_mayShare
    | with_reducible exact tame_holdsCells
    | with_reducible exact tame_cap
    | with_reducible exact tame_len
    | with_reducible exact tame_next
    | with_reducible exact tame_range
    | with_reducible exact tame_extract
    | with_reducible exact tame_makeChan
    | with_reducible exact tame_makeFunc
    | with_reducible exact tame_makeInterface
    | with_reducible exact tame_buildSlice
    | with_reducible exact tame_build
    | with_reducible exact (tame_places _)
    | with_reducible exact tame_makeSlice
    | with_reducible exact tame_sliceAt
    | with_reducible exact tame_slice
    | with_reducible exact tame_sliceBounds
    | with_reducible exact tame_sliceBound
    | with_reducible exact tame_index
    | with_reducible exact tame_indexAt
    | with_reducible exact tame_field
    | with_reducible exact tame_fieldAt
    | with_reducible exact tame_storeAt
    | with_reducible exact tame_loadAt
    | with_reducible exact tame_box
    | with_reducible exact tame_alloc
    | with_reducible exact tame_fieldPlace
    | with_reducible exact tame_partAt
    | with_reducible exact tame_byteOf
    | with_reducible exact tame_typeStr
    | with_reducible exact tame_samePointer
    | with_reducible exact tame_sameAddr
    | with_reducible exact tame_mayBeOne
    | with_reducible exact tame_stringish
    | with_reducible exact tame_markStringish
    | with_reducible exact tame_noView
    | with_reducible exact tame_behindNumber
    | with_reducible exact tame_numberAt
    | with_reducible exact tame_viewAt
    | with_reducible exact tame_sureAddr
    | with_reducible exact tame_asAddr
    | with_reducible exact tame_asAgg
    | with_reducible exact tame_asString
    | with_reducible exact tame_asBool
    | with_reducible exact tame_asInt
    | with_reducible exact tame_asIntOf
    | with_reducible exact tame_boundsPanic
    | with_reducible exact tame_runtimePanic
    | with_reducible exact tame_part
    | with_reducible exact tame_newVar
    | with_reducible exact tame_newRow
    | with_reducible exact tame_storeVar
    | with_reducible exact tame_loadVar
    | with_reducible exact (tame_storeCells _ _)
    | with_reducible exact tame_loadCells
    | with_reducible exact tame_elemOf
    | with_reducible exact tame_isAgg
    | with_reducible exact tame_sizeOf
    | with_reducible exact tame_zeroValue
    | with_reducible exact tame_underlying
    | with_reducible exact tame_typeInfo
    | with_reducible exact tame_room
    | with_reducible exact tame_noRoom
    | with_reducible exact tame_program
    | with_reducible exact tame_choose
    | with_reducible exact tame_setObj
    | with_reducible exact tame_getObj
    | with_reducible exact tame_frozen
    | with_reducible exact tame_freeze
    | with_reducible exact tame_shape
    | with_reducible exact tame_new
    | with_reducible exact tame_store
    | with_reducible exact tame_load
    | with_reducible refine tame_map ?_ (fun _ => True.intro)
    | with_reducible refine tame_bind ?_ (fun _ => ?_)
    | split
    | dsimp only
    | exact True.intro)
theorem tame_complexToComplex {k : FloatKind} {a b : Nat} {n : FloatKind} : Tame p Any (Conv.complexToComplex k a b n) := by
  unfold Conv.complexToComplex
  repeat' (first
    | with_reducible exact tame_pureA
    | with_reducible exact tame_pureB
    | with_reducible exact tame_stuck
    | with_reducible exact tame_unsup
    | with_reducible exact tame_goPanic
    | with_reducible exact tame_floatToInt
    | with_reducible exact tame_intToFloat
    | with_reducible exact tame_binOp
    | with_reducible exact tame_complexOp
    | with_reducible exact tame_movedPointer
    | with_reducible exact tame_movedNumber
    | with_reducible exact tame_eqGuard
    | with_reducible exact tame_equal
    | with_reducible exact tame_cquotient
    | with_reducible exact tame_ccorrected
    | with_reducible exact tame_cproduct
    | with_reducible exact tame_cquo
    | with_reducible exact tame_cmul
    | with_reducible exact tame_csub
    | with_reducible exact tame_cadd
    | with_reducible exact tame_cconv
    | with_reducible exact tame_ccmp
    | with_reducible exact tame_carith
    | with_reducible exact tame_unsafeAdd
    | with_reducible exact (tame_eqGuardIn _ _ _ _)
    | with_reducible exact (tame_equalIn _ _ _ _)
    | with_reducible exact tame_floatCmp
    | with_reducible exact tame_floatToFloat
    | with_reducible exact tame_floatArith
    | with_reducible exact tame_addrMod
    | with_reducible exact tame_addrCmp
    | with_reducible exact tame_addrSub
    | with_reducible exact tame_twoPlaces
    | with_reducible exact tame_asNumber
    | with_reducible exact tame_cellsIn
    | with_reducible exact tame_bytesToString
    | with_reducible exact tame_append
    | with_reducible exact tame_unary
    | with_reducible exact tame_intCmp
    | with_reducible exact tame_intBits
    | with_reducible exact tame_intDiv
    | with_reducible exact tame_intArith
    | with_reducible exact tame_shift
    | with_reducible exact tame_stringToBytes
    | with_reducible exact tame_intToString
    | with_reducible exact tame_intToInt
    | with_reducible exact tame_stringOp
    | with_reducible exact tame_copy
    | with_reducible exact tame_firstCells
    | with_reducible exact tame_lenOf
    | with_reducible exact tame_mayShare
    | with_reducible exact tame_holdsCells
    | with_reducible exact tame_cap
    | with_reducible exact tame_len
    | with_reducible exact tame_next
    | with_reducible exact tame_range
    | with_reducible exact tame_extract
    | with_reducible exact tame_makeChan
    | with_reducible exact tame_makeFunc
    | with_reducible exact tame_makeInterface
    | with_reducible exact tame_buildSlice
    | with_reducible exact tame_build
    | with_reducible exact (tame_places _)
    | with_reducible exact tame_makeSlice
    | with_reducible exact tame_sliceAt
    | with_reducible exact tame_slice
    | with_reducible exact tame_sliceBounds
    | with_reducible exact tame_sliceBound
    | with_reducible exact tame_index
    | with_reducible exact tame_indexAt
    | with_reducible exact tame_field
    | with_reducible exact tame_fieldAt
    | with_reducible exact tame_storeAt
    | with_reducible exact tame_loadAt
    | with_reducible exact tame_box
    | with_reducible exact tame_alloc
    | with_reducible exact tame_fieldPlace
    | with_reducible exact tame_partAt
    | with_reducible exact tame_byteOf
    | with_reducible exact tame_typeStr
    | with_reducible exact tame_samePointer
    | with_reducible exact tame_sameAddr
    | with_reducible exact tame_mayBeOne
    | with_reducible exact tame_stringish
    | with_reducible exact tame_markStringish
    | with_reducible exact tame_noView
    | with_reducible exact tame_behindNumber
    | with_reducible exact tame_numberAt
    | with_reducible exact tame_viewAt
    | with_reducible exact tame_sureAddr
    | with_reducible exact tame_asAddr
    | with_reducible exact tame_asAgg
    | with_reducible exact tame_asString
    | with_reducible exact tame_asBool
    | with_reducible exact tame_asInt
    | with_reducible exact tame_asIntOf
    | with_reducible exact tame_boundsPanic
    | with_reducible exact tame_runtimePanic
    | with_reducible exact tame_part
    | with_reducible exact tame_newVar
    | with_reducible exact tame_newRow
    | with_reducible exact tame_storeVar
    | with_reducible exact tame_loadVar
    | with_reducible exact (tame_storeCells _ _)
    | with_reducible exact tame_loadCells
    | with_reducible exact tame_elemOf
    | with_reducible exact tame_isAgg
    | with_reducible exact tame_sizeOf
    | with_reducible exact tame_zeroValue
    | with_reducible exact tame_underlying
    | with_reducible exact tame_typeInfo
    | with_reducible exact tame_room
    | with_reducible exact tame_noRoom
    | with_reducible exact tame_program
    | with_reducible exact tame_choose
    | with_reducible exact tame_setObj
    | with_reducible exact tame_getObj
    | with_reducible exact tame_frozen
    | with_reducible exact tame_freeze
    | with_reducible exact tame_shape
    | with_reducible exact tame_new
    | with_reducible exact tame_store
    | with_reducible exact tame_load
    | with_reducible refine tame_map ?_ (fun _ => True.intro)
    | with_reducible refine tame_bind ?_ (fun _ => ?_)
    | split
    | dsimp only
    | exact True.intro)
theorem tame_stringToRunes {e : TypeId} {s : ByteArray} : Tame p Any (Conv.stringToRunes e s) := by
  unfold Conv.stringToRunes
  repeat' (first
    | with_reducible exact tame_pureA
    | with_reducible exact tame_pureB
    | with_reducible exact tame_stuck
    | with_reducible exact tame_unsup
    | with_reducible exact tame_goPanic
    | with_reducible exact tame_complexToComplex
    | with_reducible exact tame_floatToInt
    | with_reducible exact tame_intToFloat
    | with_reducible exact tame_binOp
    | with_reducible exact tame_complexOp
    | with_reducible exact tame_movedPointer
    | with_reducible exact tame_movedNumber
    | with_reducible exact tame_eqGuard
    | with_reducible exact tame_equal
    | with_reducible exact tame_cquotient
    | with_reducible exact tame_ccorrected
    | with_reducible exact tame_cproduct
    | with_reducible exact tame_cquo
    | with_reducible exact tame_cmul
    | with_reducible exact tame_csub
    | with_reducible exact tame_cadd
    | with_reducible exact tame_cconv
    | with_reducible exact tame_ccmp
    | with_reducible exact tame_carith
    | with_reducible exact tame_unsafeAdd
    | with_reducible exact (tame_eqGuardIn _ _ _ _)
    | with_reducible exact (tame_equalIn _ _ _ _)
    | with_reducible exact tame_floatCmp
    | with_reducible exact tame_floatToFloat
    | with_reducible exact tame_floatArith
    | with_reducible exact tame_addrMod
    | with_reducible exact tame_addrCmp
    | with_reducible exact tame_addrSub
    | with_reducible exact tame_twoPlaces
    | with_reducible exact tame_asNumber
    | with_reducible exact tame_cellsIn
    | with_reducible exact tame_bytesToString
    | with_reducible exact tame_append
    | with_reducible exact tame_unary
    | with_reducible exact tame_intCmp
    | with_reducible exact tame_intBits
    | with_reducible exact tame_intDiv
    | with_reducible exact tame_intArith
    | with_reducible exact tame_shift
    | with_reducible exact tame_stringToBytes
    | with_reducible exact tame_intToString
    | with_reducible exact tame_intToInt
    | with_reducible exact tame_stringOp
    | with_reducible exact tame_copy
    | with_reducible exact tame_firstCells
    | with_reducible exact tame_lenOf
    | with_reducible exact tame_mayShare
    | with_reducible exact tame_holdsCells
    | with_reducible exact tame_cap
    | with_reducible exact tame_len
    | with_reducible exact tame_next
    | with_reducible exact tame_range
    | with_reducible exact tame_extract
    | with_reducible exact tame_makeChan
    | with_reducible exact tame_makeFunc
    | with_reducible exact tame_makeInterface
    | with_reducible exact tame_buildSlice
    | with_reducible exact tame_build
    | with_reducible exact (tame_places _)
    | with_reducible exact tame_makeSlice
    | with_reducible exact tame_sliceAt
    | with_reducible exact tame_slice
    | with_reducible exact tame_sliceBounds
    | with_reducible exact tame_sliceBound
    | with_reducible exact tame_index
    | with_reducible exact tame_indexAt
    | with_reducible exact tame_field
    | with_reducible exact tame_fieldAt
    | with_reducible exact tame_storeAt
    | with_reducible exact tame_loadAt
    | with_reducible exact tame_box
    | with_reducible exact tame_alloc
    | with_reducible exact tame_fieldPlace
    | with_reducible exact tame_partAt
    | with_reducible exact tame_byteOf
    | with_reducible exact tame_typeStr
    | with_reducible exact tame_samePointer
    | with_reducible exact tame_sameAddr
    | with_reducible exact tame_mayBeOne
    | with_reducible exact tame_stringish
    | with_reducible exact tame_markStringish
    | with_reducible exact tame_noView
    | with_reducible exact tame_behindNumber
    | with_reducible exact tame_numberAt
    | with_reducible exact tame_viewAt
    | with_reducible exact tame_sureAddr
    | with_reducible exact tame_asAddr
    | with_reducible exact tame_asAgg
    | with_reducible exact tame_asString
    | with_reducible exact tame_asBool
    | with_reducible exact tame_asInt
    | with_reducible exact tame_asIntOf
    | with_reducible exact tame_boundsPanic
    | with_reducible exact tame_runtimePanic
    | with_reducible exact tame_part
    | with_reducible exact tame_newVar
    | with_reducible exact tame_newRow
    | with_reducible exact tame_storeVar
    | with_reducible exact tame_loadVar
    | with_reducible exact (tame_storeCells _ _)
    | with_reducible exact tame_loadCells
    | with_reducible exact tame_elemOf
    | with_reducible exact tame_isAgg
    | with_reducible exact tame_sizeOf
    | with_reducible exact tame_zeroValue
    | with_reducible exact tame_underlying
    | with_reducible exact tame_typeInfo
    | with_reducible exact tame_room
    | with_reducible exact tame_noRoom
    | with_reducible exact tame_program
    | with_reducible exact tame_choose
    | with_reducible exact tame_setObj
    | with_reducible exact tame_getObj
    | with_reducible exact tame_frozen
    | with_reducible exact tame_freeze
    | with_reducible exact tame_shape
    | with_reducible exact tame_new
    | with_reducible exact tame_store
    | with_reducible exact tame_load
    | with_reducible refine tame_map ?_ (fun _ => True.intro)
    | with_reducible refine tame_bind ?_ (fun _ => ?_)
    | split
    | dsimp only
    | exact True.intro)
theorem tame_seenAt {a : Addr} : Tame p Any (Conv.seenAt a) := by
  unfold Conv.seenAt
  repeat' (first
    | with_reducible exact tame_pureA
    | with_reducible exact tame_pureB
    | with_reducible exact tame_stuck
    | with_reducible exact tame_unsup
    | with_reducible exact tame_goPanic
    | with_reducible exact tame_stringToRunes
    | with_reducible exact tame_complexToComplex
    | with_reducible exact tame_floatToInt
    | with_reducible exact tame_intToFloat
    | with_reducible exact tame_binOp
    | with_reducible exact tame_complexOp
    | with_reducible exact tame_movedPointer
    | with_reducible exact tame_movedNumber
    | with_reducible exact tame_eqGuard
    | with_reducible exact tame_equal
    | with_reducible exact tame_cquotient
    | with_reducible exact tame_ccorrected
    | with_reducible exact tame_cproduct
    | with_reducible exact tame_cquo
    | with_reducible exact tame_cmul
    | with_reducible exact tame_csub
    | with_reducible exact tame_cadd
    | with_reducible exact tame_cconv
    | with_reducible exact tame_ccmp
    | with_reducible exact tame_carith
    | with_reducible exact tame_unsafeAdd
    | with_reducible exact (tame_eqGuardIn _ _ _ _)
    | with_reducible exact (tame_equalIn _ _ _ _)
    | with_reducible exact tame_floatCmp
    | with_reducible exact tame_floatToFloat
    | with_reducible exact tame_floatArith
    | with_reducible exact tame_addrMod
    | with_reducible exact tame_addrCmp
    | with_reducible exact tame_addrSub
    | with_reducible exact tame_twoPlaces
    | with_reducible exact tame_asNumber
    | with_reducible exact tame_cellsIn
    | with_reducible exact tame_bytesToString
    | with_reducible exact tame_append
    | with_reducible exact tame_unary
    | with_reducible exact tame_intCmp
    | with_reducible exact tame_intBits
    | with_reducible exact tame_intDiv
    | with_reducible exact tame_intArith
    | with_reducible exact tame_shift
    | with_reducible exact tame_stringToBytes
    | with_reducible exact tame_intToString
    | with_reducible exact tame_intToInt
    | with_reducible exact tame_stringOp
    | with_reducible exact tame_copy
    | with_reducible exact tame_firstCells
    | with_reducible exact tame_lenOf
    | with_reducible exact tame_mayShare
    | with_reducible exact tame_holdsCells
    | with_reducible exact tame_cap
    | with_reducible exact tame_len
    | with_reducible exact tame_next
    | with_reducible exact tame_range
    | with_reducible exact tame_extract
    | with_reducible exact tame_makeChan
    | with_reducible exact tame_makeFunc
    | with_reducible exact tame_makeInterface
    | with_reducible exact tame_buildSlice
    | with_reducible exact tame_build
    | with_reducible exact (tame_places _)
    | with_reducible exact tame_makeSlice
    | with_reducible exact tame_sliceAt
    | with_reducible exact tame_slice
    | with_reducible exact tame_sliceBounds
    | with_reducible exact tame_sliceBound
    | with_reducible exact tame_index
    | with_reducible exact tame_indexAt
    | with_reducible exact tame_field
    | with_reducible exact tame_fieldAt
    | with_reducible exact tame_storeAt
    | with_reducible exact tame_loadAt
    | with_reducible exact tame_box
    | with_reducible exact tame_alloc
    | with_reducible exact tame_fieldPlace
    | with_reducible exact tame_partAt
    | with_reducible exact tame_byteOf
    | with_reducible exact tame_typeStr
    | with_reducible exact tame_samePointer
    | with_reducible exact tame_sameAddr
    | with_reducible exact tame_mayBeOne
    | with_reducible exact tame_stringish
    | with_reducible exact tame_markStringish
    | with_reducible exact tame_noView
    | with_reducible exact tame_behindNumber
    | with_reducible exact tame_numberAt
    | with_reducible exact tame_viewAt
    | with_reducible exact tame_sureAddr
    | with_reducible exact tame_asAddr
    | with_reducible exact tame_asAgg
    | with_reducible exact tame_asString
    | with_reducible exact tame_asBool
    | with_reducible exact tame_asInt
    | with_reducible exact tame_asIntOf
    | with_reducible exact tame_boundsPanic
    | with_reducible exact tame_runtimePanic
    | with_reducible exact tame_part
    | with_reducible exact tame_newVar
    | with_reducible exact tame_newRow
    | with_reducible exact tame_storeVar
    | with_reducible exact tame_loadVar
    | with_reducible exact (tame_storeCells _ _)
    | with_reducible exact tame_loadCells
    | with_reducible exact tame_elemOf
    | with_reducible exact tame_isAgg
    | with_reducible exact tame_sizeOf
    | with_reducible exact tame_zeroValue
    | with_reducible exact tame_underlying
    | with_reducible exact tame_typeInfo
    | with_reducible exact tame_room
    | with_reducible exact tame_noRoom
    | with_reducible exact tame_program
    | with_reducible exact tame_choose
    | with_reducible exact tame_setObj
    | with_reducible exact tame_getObj
    | with_reducible exact tame_frozen
    | with_reducible exact tame_freeze
    | with_reducible exact tame_shape
    | with_reducible exact tame_new
    | with_reducible exact tame_store
    | with_reducible exact tame_load
    | with_reducible refine tame_map ?_ (fun _ => True.intro)
    | with_reducible refine tame_bind ?_ (fun _ => ?_)
    | split
    | dsimp only
    | exact True.intro)
theorem tame_variablesAt {a : Addr} {u : TypeId} {n : Nat} : Tame p Any (variablesAt a u n) := by
  unfold variablesAt
  repeat' (first
    | with_reducible exact tame_pureA
    | with_reducible exact tame_pureB
    | with_reducible exact tame_stuck
    | with_reducible exact tame_unsup
    | with_reducible exact tame_goPanic
    | with_reducible exact tame_seenAt
    | with_reducible exact tame_stringToRunes
    | with_reducible exact tame_complexToComplex
    | with_reducible exact tame_floatToInt
    | with_reducible exact tame_intToFloat
    | with_reducible exact tame_binOp
    | with_reducible exact tame_complexOp
    | with_reducible exact tame_movedPointer
    | with_reducible exact tame_movedNumber
    | with_reducible exact tame_eqGuard
    | with_reducible exact tame_equal
    | with_reducible exact tame_cquotient
    | with_reducible exact tame_ccorrected
    | with_reducible exact tame_cproduct
    | with_reducible exact tame_cquo
    | with_reducible exact tame_cmul
    | with_reducible exact tame_csub
    | with_reducible exact tame_cadd
    | with_reducible exact tame_cconv
    | with_reducible exact tame_ccmp
    | with_reducible exact tame_carith
    | with_reducible exact tame_unsafeAdd
    | with_reducible exact (tame_eqGuardIn _ _ _ _)
    | with_reducible exact (tame_equalIn _ _ _ _)
    | with_reducible exact tame_floatCmp
    | with_reducible exact tame_floatToFloat
    | with_reducible exact tame_floatArith
    | with_reducible exact tame_addrMod
    | with_reducible exact tame_addrCmp
    | with_reducible exact tame_addrSub
    | with_reducible exact tame_twoPlaces
    | with_reducible exact tame_asNumber
    | with_reducible exact tame_cellsIn
    | with_reducible exact tame_bytesToString
    | with_reducible exact tame_append
    | with_reducible exact tame_unary
    | with_reducible exact tame_intCmp
    | with_reducible exact tame_intBits
    | with_reducible exact tame_intDiv
    | with_reducible exact tame_intArith
    | with_reducible exact tame_shift
    | with_reducible exact tame_stringToBytes
    | with_reducible exact tame_intToString
    | with_reducible exact tame_intToInt
    | with_reducible exact tame_stringOp
    | with_reducible exact tame_copy
    | with_reducible exact tame_firstCells
    | with_reducible exact tame_lenOf
    | with_reducible exact tame_mayShare
    | with_reducible exact tame_holdsCells
    | with_reducible exact tame_cap
    | with_reducible exact tame_len
    | with_reducible exact tame_next
    | with_reducible exact tame_range
    | with_reducible exact tame_extract
    | with_reducible exact tame_makeChan
    | with_reducible exact tame_makeFunc
    | with_reducible exact tame_makeInterface
    | with_reducible exact tame_buildSlice
    | with_reducible exact tame_build
    | with_reducible exact (tame_places _)
    | with_reducible exact tame_makeSlice
    | with_reducible exact tame_sliceAt
    | with_reducible exact tame_slice
    | with_reducible exact tame_sliceBounds
    | with_reducible exact tame_sliceBound
    | with_reducible exact tame_index
    | with_reducible exact tame_indexAt
    | with_reducible exact tame_field
    | with_reducible exact tame_fieldAt
    | with_reducible exact tame_storeAt
    | with_reducible exact tame_loadAt
    | with_reducible exact tame_box
    | with_reducible exact tame_alloc
    | with_reducible exact tame_fieldPlace
    | with_reducible exact tame_partAt
    | with_reducible exact tame_byteOf
    | with_reducible exact tame_typeStr
    | with_reducible exact tame_samePointer
    | with_reducible exact tame_sameAddr
    | with_reducible exact tame_mayBeOne
    | with_reducible exact tame_stringish
    | with_reducible exact tame_markStringish
    | with_reducible exact tame_noView
    | with_reducible exact tame_behindNumber
    | with_reducible exact tame_numberAt
    | with_reducible exact tame_viewAt
    | with_reducible exact tame_sureAddr
    | with_reducible exact tame_asAddr
    | with_reducible exact tame_asAgg
    | with_reducible exact tame_asString
    | with_reducible exact tame_asBool
    | with_reducible exact tame_asInt
    | with_reducible exact tame_asIntOf
    | with_reducible exact tame_boundsPanic
    | with_reducible exact tame_runtimePanic
    | with_reducible exact tame_part
    | with_reducible exact tame_newVar
    | with_reducible exact tame_newRow
    | with_reducible exact tame_storeVar
    | with_reducible exact tame_loadVar
    | with_reducible exact (tame_storeCells _ _)
    | with_reducible exact tame_loadCells
    | with_reducible exact tame_elemOf
    | with_reducible exact tame_isAgg
    | with_reducible exact tame_sizeOf
    | with_reducible exact tame_zeroValue
    | with_reducible exact tame_underlying
    | with_reducible exact tame_typeInfo
    | with_reducible exact tame_room
    | with_reducible exact tame_noRoom
    | with_reducible exact tame_program
    | with_reducible exact tame_choose
    | with_reducible exact tame_setObj
    | with_reducible exact tame_getObj
    | with_reducible exact tame_frozen
    | with_reducible exact tame_freeze
    | with_reducible exact tame_shape
    | with_reducible exact tame_new
    | with_reducible exact tame_store
    | with_reducible exact tame_load
    | with_reducible refine tame_map ?_ (fun _ => True.intro)
    | with_reducible refine tame_bind ?_ (fun _ => ?_)
    | split
    | dsimp only
    | exact True.intro)
theorem tame_unsafePointer {s d : TypeId} {x : Value} : Tame p Any (Conv.unsafePointer s d x) := by
  unfold Conv.unsafePointer
  repeat' (first
    | with_reducible exact tame_pureA
    | with_reducible exact tame_pureB
    | with_reducible exact tame_stuck
    | with_reducible exact tame_unsup
    | with_reducible exact tame_goPanic
    | with_reducible exact tame_variablesAt
    | with_reducible exact tame_seenAt
    | with_reducible exact tame_stringToRunes
    | with_reducible exact tame_complexToComplex
    | with_reducible exact tame_floatToInt
    | with_reducible exact tame_intToFloat
    | with_reducible exact tame_binOp
    | with_reducible exact tame_complexOp
    | with_reducible exact tame_movedPointer
    | with_reducible exact tame_movedNumber
    | with_reducible exact tame_eqGuard
    | with_reducible exact tame_equal
    | with_reducible exact tame_cquotient
    | with_reducible exact tame_ccorrected
    | with_reducible exact tame_cproduct
    | with_reducible exact tame_cquo
    | with_reducible exact tame_cmul
    | with_reducible exact tame_csub
    | with_reducible exact tame_cadd
    | with_reducible exact tame_cconv
    | with_reducible exact tame_ccmp
    | with_reducible exact tame_carith
    | with_reducible exact tame_unsafeAdd
    | with_reducible exact (tame_eqGuardIn _ _ _ _)
    | with_reducible exact (tame_equalIn _ _ _ _)
    | with_reducible exact tame_floatCmp
    | with_reducible exact tame_floatToFloat
    | with_reducible exact tame_floatArith
    | with_reducible exact tame_addrMod
    | with_reducible exact tame_addrCmp
    | with_reducible exact tame_addrSub
    | with_reducible exact tame_twoPlaces
    | with_reducible exact tame_asNumber
    | with_reducible exact tame_cellsIn
    | with_reducible exact tame_bytesToString
    | with_reducible exact tame_append
    | with_reducible exact tame_unary
    | with_reducible exact tame_intCmp
    | with_reducible exact tame_intBits
    | with_reducible exact tame_intDiv
    | with_reducible exact tame_intArith
    | with_reducible exact tame_shift
    | with_reducible exact tame_stringToBytes
    | with_reducible exact tame_intToString
    | with_reducible exact tame_intToInt
    | with_reducible exact tame_stringOp
    | with_reducible exact tame_copy
    | with_reducible exact tame_firstCells
    | with_reducible exact tame_lenOf
    | with_reducible exact tame_mayShare
    | with_reducible exact tame_holdsCells
    | with_reducible exact tame_cap
    | with_reducible exact tame_len
    | with_reducible exact tame_next
    | with_reducible exact tame_range
    | with_reducible exact tame_extract
    | with_reducible exact tame_makeChan
    | with_reducible exact tame_makeFunc
    | with_reducible exact tame_makeInterface
    | with_reducible exact tame_buildSlice
    | with_reducible exact tame_build
    | with_reducible exact (tame_places _)
    | with_reducible exact tame_makeSlice
    | with_reducible exact tame_sliceAt
    | with_reducible exact tame_slice
    | with_reducible exact tame_sliceBounds
    | with_reducible exact tame_sliceBound
    | with_reducible exact tame_index
    | with_reducible exact tame_indexAt
    | with_reducible exact tame_field
    | with_reducible exact tame_fieldAt
    | with_reducible exact tame_storeAt
    | with_reducible exact tame_loadAt
    | with_reducible exact tame_box
    | with_reducible exact tame_alloc
    | with_reducible exact tame_fieldPlace
    | with_reducible exact tame_partAt
    | with_reducible exact tame_byteOf
    | with_reducible exact tame_typeStr
    | with_reducible exact tame_samePointer
    | with_reducible exact tame_sameAddr
    | with_reducible exact tame_mayBeOne
    | with_reducible exact tame_stringish
    | with_reducible exact tame_markStringish
    | with_reducible exact tame_noView
    | with_reducible exact tame_behindNumber
    | with_reducible exact tame_numberAt
    | with_reducible exact tame_viewAt
    | with_reducible exact tame_sureAddr
    | with_reducible exact tame_asAddr
    | with_reducible exact tame_asAgg
    | with_reducible exact tame_asString
    | with_reducible exact tame_asBool
    | with_reducible exact tame_asInt
    | with_reducible exact tame_asIntOf
    | with_reducible exact tame_boundsPanic
    | with_reducible exact tame_runtimePanic
    | with_reducible exact tame_part
    | with_reducible exact tame_newVar
    | with_reducible exact tame_newRow
    | with_reducible exact tame_storeVar
    | with_reducible exact tame_loadVar
    | with_reducible exact (tame_storeCells _ _)
    | with_reducible exact tame_loadCells
    | with_reducible exact tame_elemOf
    | with_reducible exact tame_isAgg
    | with_reducible exact tame_sizeOf
    | with_reducible exact tame_zeroValue
    | with_reducible exact tame_underlying
    | with_reducible exact tame_typeInfo
    | with_reducible exact tame_room
    | with_reducible exact tame_noRoom
    | with_reducible exact tame_program
    | with_reducible exact tame_choose
    | with_reducible exact tame_setObj
    | with_reducible exact tame_getObj
    | with_reducible exact tame_frozen
    | with_reducible exact tame_freeze
    | with_reducible exact tame_shape
    | with_reducible exact tame_new
    | with_reducible exact tame_store
    | with_reducible exact tame_load
    | with_reducible refine tame_map ?_ (fun _ => True.intro)
    | with_reducible refine tame_bind ?_ (fun _ => ?_)
    | split
    | dsimp only
    | exact True.intro)
theorem tame_runesToString {x : Value} : Tame p Any (Conv.runesToString x) := by
  unfold Conv.runesToString
  split
  · exact tame_pureA
  · refine tame_bind tame_loadCells fun cs => tame_bind (tame_forInA (fun c s => ?_) _ _) fun _ => tame_pureA
    split
    · exact tame_pureA
    · exact tame_bind tame_stuck fun _ => tame_pureA
  · exact tame_stuck
theorem tame_convert {s d : TypeId} {x : Value} : Tame p Any (convert s d x) := by
  unfold convert
  repeat' (first
    | with_reducible exact tame_pureA
    | with_reducible exact tame_pureB
    | with_reducible exact tame_stuck
    | with_reducible exact tame_unsup
    | with_reducible exact tame_goPanic
    | with_reducible exact tame_runesToString
    | with_reducible exact tame_unsafePointer
    | with_reducible exact tame_variablesAt
    | with_reducible exact tame_seenAt
    | with_reducible exact tame_stringToRunes
    | with_reducible exact tame_complexToComplex
    | with_reducible exact tame_floatToInt
    | with_reducible exact tame_intToFloat
    | with_reducible exact tame_binOp
    | with_reducible exact tame_complexOp
    | with_reducible exact tame_movedPointer
    | with_reducible exact tame_movedNumber
    | with_reducible exact tame_eqGuard
    | with_reducible exact tame_equal
    | with_reducible exact tame_cquotient
    | with_reducible exact tame_ccorrected
    | with_reducible exact tame_cproduct
    | with_reducible exact tame_cquo
    | with_reducible exact tame_cmul
    | with_reducible exact tame_csub
    | with_reducible exact tame_cadd
    | with_reducible exact tame_cconv
    | with_reducible exact tame_ccmp
    | with_reducible exact tame_carith
    | with_reducible exact tame_unsafeAdd
    | with_reducible exact (tame_eqGuardIn _ _ _ _)
    | with_reducible exact (tame_equalIn _ _ _ _)
    | with_reducible exact tame_floatCmp
    | with_reducible exact tame_floatToFloat
    | with_reducible exact tame_floatArith
    | with_reducible exact tame_addrMod
    | with_reducible exact tame_addrCmp
    | with_reducible exact tame_addrSub
    | with_reducible exact tame_twoPlaces
    | with_reducible exact tame_asNumber
    | with_reducible exact tame_cellsIn
    | with_reducible exact tame_bytesToString
    | with_reducible exact tame_append
    | with_reducible exact tame_unary
    | with_reducible exact tame_intCmp
    | with_reducible exact tame_intBits
    | with_reducible exact tame_intDiv
    | with_reducible exact tame_intArith
    | with_reducible exact tame_shift
    | with_reducible exact tame_stringToBytes
    | with_reducible exact tame_intToString
    | with_reducible exact tame_intToInt
    | with_reducible exact tame_stringOp
    | with_reducible exact tame_copy
    | with_reducible exact tame_firstCells
    | with_reducible exact tame_lenOf
    | with_reducible exact tame_mayShare
    | with_reducible exact tame_holdsCells
    | with_reducible exact tame_cap
    | with_reducible exact tame_len
    | with_reducible exact tame_next
    | with_reducible exact tame_range
    | with_reducible exact tame_extract
    | with_reducible exact tame_makeChan
    | with_reducible exact tame_makeFunc
    | with_reducible exact tame_makeInterface
    | with_reducible exact tame_buildSlice
    | with_reducible exact tame_build
    | with_reducible exact (tame_places _)
    | with_reducible exact tame_makeSlice
    | with_reducible exact tame_sliceAt
    | with_reducible exact tame_slice
    | with_reducible exact tame_sliceBounds
    | with_reducible exact tame_sliceBound
    | with_reducible exact tame_index
    | with_reducible exact tame_indexAt
    | with_reducible exact tame_field
    | with_reducible exact tame_fieldAt
    | with_reducible exact tame_storeAt
    | with_reducible exact tame_loadAt
    | with_reducible exact tame_box
    | with_reducible exact tame_alloc
    | with_reducible exact tame_fieldPlace
    | with_reducible exact tame_partAt
    | with_reducible exact tame_byteOf
    | with_reducible exact tame_typeStr
    | with_reducible exact tame_samePointer
    | with_reducible exact tame_sameAddr
    | with_reducible exact tame_mayBeOne
    | with_reducible exact tame_stringish
    | with_reducible exact tame_markStringish
    | with_reducible exact tame_noView
    | with_reducible exact tame_behindNumber
    | with_reducible exact tame_numberAt
    | with_reducible exact tame_viewAt
    | with_reducible exact tame_sureAddr
    | with_reducible exact tame_asAddr
    | with_reducible exact tame_asAgg
    | with_reducible exact tame_asString
    | with_reducible exact tame_asBool
    | with_reducible exact tame_asInt
    | with_reducible exact tame_asIntOf
    | with_reducible exact tame_boundsPanic
    | with_reducible exact tame_runtimePanic
    | with_reducible exact tame_part
    | with_reducible exact tame_newVar
    | with_reducible exact tame_newRow
    | with_reducible exact tame_storeVar
    | with_reducible exact tame_loadVar
    | with_reducible exact (tame_storeCells _ _)
    | with_reducible exact tame_loadCells
    | with_reducible exact tame_elemOf
    | with_reducible exact tame_isAgg
    | with_reducible exact tame_sizeOf
    | with_reducible exact tame_zeroValue
    | with_reducible exact tame_underlying
    | with_reducible exact tame_typeInfo
    | with_reducible exact tame_room
    | with_reducible exact tame_noRoom
    | with_reducible exact tame_program
    | with_reducible exact tame_choose
    | with_reducible exact tame_setObj
    | with_reducible exact tame_getObj
    | with_reducible exact tame_frozen
    | with_reducible exact tame_freeze
    | with_reducible exact tame_shape
    | with_reducible exact tame_new
    | with_reducible exact tame_store
    | with_reducible exact tame_load
    | with_reducible refine tame_map ?_ (fun _ => True.intro)
    | with_reducible refine tame_bind ?_ (fun _ => ?_)
    | split
    | dsimp only
    | exact True.intro)
end

end Go.Proofs.Ytlkhknoaifbajaa
