/- Merged: Lt3. -/
import Derived.Test.YtlkhknoaifbajaaA4
/- 'append' and 'copy' and the other entries are tame: every operation that the program's own text is made of. -/
namespace Go.Proofs.Ytlkhknoaifbajaa
open Go Go.Conc
set_option linter.unusedVariables false
set_option linter.unusedSimpArgs false
set_option maxRecDepth 4000
section
variable {p : Program}
theorem tame_append {ts : Array TypeId} {t : TypeId} {as : Array Value} : Tame p Any (Builtin.append_ ts t as) := by
  unfold Builtin.append_
  split
  · refine tame_bind tame_underlying fun _ => ?_
    split
    · split
      · refine tame_bind tame_sizeOf fun size => ?_
        lift_lets
        intro jp0 jp
        have hj0 : ∀ z, Tame p Any (jp0 z) := fun _ => tame_unsup
        clear_value jp0
        have hjp : ∀ z, Tame p Any (jp z) := by
          intro z
          simp (config := { zeta := false }) only [jp]
          lift_lets
          intro jp1
          have h1 : ∀ n, Tame p Any (jp1 n) := by
            intro n
            simp (config := { zeta := false }) only [jp1]
            lift_lets
            intro ap need ja jb jc
            have hap : Tame p Any ap := by
              simp only [ap]
              repeat' (first
                | with_reducible exact tame_pureA
                | with_reducible exact tame_pureB
                | with_reducible exact tame_stuck
                | with_reducible exact tame_unsup
                | with_reducible exact tame_goPanic
                | with_reducible exact tame_unary
                | with_reducible exact tame_intCmp
                | with_reducible exact tame_intBits
                | with_reducible exact tame_intDiv
                | with_reducible exact tame_intArith
                | with_reducible exact tame_shift
                | with_reducible exact tame_stringToBytes
                | with_reducible exact tame_intToString
                | with_reducible exact tame_intToInt
                | with_reducible exact tame_stringOp
                | with_reducible exact tame_copy
                | with_reducible exact tame_firstCells
                | with_reducible exact tame_lenOf
                | with_reducible exact tame_mayShare
                | with_reducible exact tame_holdsCells
                | with_reducible exact tame_cap
                | with_reducible exact tame_len
                | with_reducible exact tame_next
                | with_reducible exact tame_range
                | with_reducible exact tame_extract
                | with_reducible exact tame_makeChan
                | with_reducible exact tame_makeFunc
                | with_reducible exact tame_makeInterface
                | with_reducible exact tame_buildSlice
                | with_reducible exact tame_build
                | with_reducible exact (tame_places _)
                | with_reducible exact tame_makeSlice
                | with_reducible exact tame_sliceAt
                | with_reducible exact tame_slice
                | with_reducible exact tame_sliceBounds
                | with_reducible exact tame_sliceBound
                | with_reducible exact tame_index
                | with_reducible exact tame_indexAt
                | with_reducible exact tame_field
                | with_reducible exact tame_fieldAt
                | with_reducible exact tame_storeAt
                | with_reducible exact tame_loadAt
                | with_reducible exact tame_box
                | with_reducible exact tame_alloc
                | with_reducible exact tame_fieldPlace
                | with_reducible exact tame_partAt
                | with_reducible exact tame_byteOf
                | with_reducible exact tame_typeStr
                | with_reducible exact tame_samePointer
                | with_reducible exact tame_sameAddr
                | with_reducible exact tame_mayBeOne
                | with_reducible exact tame_stringish
                | with_reducible exact tame_markStringish
                | with_reducible exact tame_noView
                | with_reducible exact tame_behindNumber
                | with_reducible exact tame_numberAt
                | with_reducible exact tame_viewAt
                | with_reducible exact tame_sureAddr
                | with_reducible exact tame_asAddr
                | with_reducible exact tame_asAgg
                | with_reducible exact tame_asString
                | with_reducible exact tame_asBool
                | with_reducible exact tame_asInt
                | with_reducible exact tame_asIntOf
                | with_reducible exact tame_boundsPanic
                | with_reducible exact tame_runtimePanic
                | with_reducible exact tame_part
                | with_reducible exact tame_newVar
                | with_reducible exact tame_newRow
                | with_reducible exact tame_storeVar
                | with_reducible exact tame_loadVar
                | with_reducible exact (tame_storeCells _ _)
                | with_reducible exact tame_loadCells
                | with_reducible exact tame_elemOf
                | with_reducible exact tame_isAgg
                | with_reducible exact tame_sizeOf
                | with_reducible exact tame_zeroValue
                | with_reducible exact tame_underlying
                | with_reducible exact tame_typeInfo
                | with_reducible exact tame_room
                | with_reducible exact tame_noRoom
                | with_reducible exact tame_program
                | with_reducible exact tame_choose
                | with_reducible exact tame_setObj
                | with_reducible exact tame_getObj
                | with_reducible exact tame_frozen
                | with_reducible exact tame_freeze
                | with_reducible exact tame_shape
                | with_reducible exact tame_new
                | with_reducible exact tame_store
                | with_reducible exact tame_load
                | with_reducible refine tame_map ?_ (fun _ => True.intro)
                | with_reducible refine tame_bind ?_ (fun _ => ?_)
                | split
                | dsimp only
                | exact True.intro)
            have hja : ∀ r, Tame p Any (ja r) := fun _ => tame_pureA
            clear_value ja
            have hjb : ∀ r, Tame p Any (jb r) := by
              intro r
              simp only [jb]
              clear_value ap
              repeat' (first
                | with_reducible exact tame_pureA
                | with_reducible exact tame_pureB
                | with_reducible exact tame_stuck
                | with_reducible exact tame_unsup
                | with_reducible exact tame_goPanic
                | with_reducible exact hap
                | with_reducible exact tame_unary
                | with_reducible exact tame_intCmp
                | with_reducible exact tame_intBits
                | with_reducible exact tame_intDiv
                | with_reducible exact tame_intArith
                | with_reducible exact tame_shift
                | with_reducible exact tame_stringToBytes
                | with_reducible exact tame_intToString
                | with_reducible exact tame_intToInt
                | with_reducible exact tame_stringOp
                | with_reducible exact tame_copy
                | with_reducible exact tame_firstCells
                | with_reducible exact tame_lenOf
                | with_reducible exact tame_mayShare
                | with_reducible exact tame_holdsCells
                | with_reducible exact tame_cap
                | with_reducible exact tame_len
                | with_reducible exact tame_next
                | with_reducible exact tame_range
                | with_reducible exact tame_extract
                | with_reducible exact tame_makeChan
                | with_reducible exact tame_makeFunc
                | with_reducible exact tame_makeInterface
                | with_reducible exact tame_buildSlice
                | with_reducible exact tame_build
                | with_reducible exact (tame_places _)
                | with_reducible exact tame_makeSlice
                | with_reducible exact tame_sliceAt
                | with_reducible exact tame_slice
                | with_reducible exact tame_sliceBounds
                | with_reducible exact tame_sliceBound
                | with_reducible exact tame_index
                | with_reducible exact tame_indexAt
                | with_reducible exact tame_field
                | with_reducible exact tame_fieldAt
                | with_reducible exact tame_storeAt
                | with_reducible exact tame_loadAt
                | with_reducible exact tame_box
                | with_reducible exact tame_alloc
                | with_reducible exact tame_fieldPlace
                | with_reducible exact tame_partAt
                | with_reducible exact tame_byteOf
                | with_reducible exact tame_typeStr
                | with_reducible exact tame_samePointer
                | with_reducible exact tame_sameAddr
                | with_reducible exact tame_mayBeOne
                | with_reducible exact tame_stringish
                | with_reducible exact tame_markStringish
                | with_reducible exact tame_noView
                | with_reducible exact tame_behindNumber
                | with_reducible exact tame_numberAt
                | with_reducible exact tame_viewAt
                | with_reducible exact tame_sureAddr
                | with_reducible exact tame_asAddr
                | with_reducible exact tame_asAgg
                | with_reducible exact tame_asString
                | with_reducible exact tame_asBool
                | with_reducible exact tame_asInt
                | with_reducible exact tame_asIntOf
                | with_reducible exact tame_boundsPanic
                | with_reducible exact tame_runtimePanic
                | with_reducible exact tame_part
                | with_reducible exact tame_newVar
                | with_reducible exact tame_newRow
                | with_reducible exact tame_storeVar
                | with_reducible exact tame_loadVar
                | with_reducible exact (tame_storeCells _ _)
                | with_reducible exact tame_loadCells
                | with_reducible exact tame_elemOf
                | with_reducible exact tame_isAgg
                | with_reducible exact tame_sizeOf
                | with_reducible exact tame_zeroValue
                | with_reducible exact tame_underlying
                | with_reducible exact tame_typeInfo
                | with_reducible exact tame_room
                | with_reducible exact tame_noRoom
                | with_reducible exact tame_program
                | with_reducible exact tame_choose
                | with_reducible exact tame_setObj
                | with_reducible exact tame_getObj
                | with_reducible exact tame_frozen
                | with_reducible exact tame_freeze
                | with_reducible exact tame_shape
                | with_reducible exact tame_new
                | with_reducible exact tame_store
                | with_reducible exact tame_load
                | with_reducible refine tame_map ?_ (fun _ => True.intro)
                | with_reducible refine tame_bind ?_ (fun _ => ?_)
                | split
                | dsimp only
                | exact True.intro)
            clear_value jb
            have hjc : ∀ r, Tame p Any (jc r) := by
              intro r
              simp only [jc]
              clear_value ap
              repeat' (first
                | with_reducible exact tame_pureA
                | with_reducible exact tame_pureB
                | with_reducible exact tame_stuck
                | with_reducible exact tame_unsup
                | with_reducible exact tame_goPanic
                | with_reducible exact hap
                | with_reducible exact (hjb _)
                | with_reducible exact (hj0 _)
                | with_reducible exact tame_unary
                | with_reducible exact tame_intCmp
                | with_reducible exact tame_intBits
                | with_reducible exact tame_intDiv
                | with_reducible exact tame_intArith
                | with_reducible exact tame_shift
                | with_reducible exact tame_stringToBytes
                | with_reducible exact tame_intToString
                | with_reducible exact tame_intToInt
                | with_reducible exact tame_stringOp
                | with_reducible exact tame_copy
                | with_reducible exact tame_firstCells
                | with_reducible exact tame_lenOf
                | with_reducible exact tame_mayShare
                | with_reducible exact tame_holdsCells
                | with_reducible exact tame_cap
                | with_reducible exact tame_len
                | with_reducible exact tame_next
                | with_reducible exact tame_range
                | with_reducible exact tame_extract
                | with_reducible exact tame_makeChan
                | with_reducible exact tame_makeFunc
                | with_reducible exact tame_makeInterface
                | with_reducible exact tame_buildSlice
                | with_reducible exact tame_build
                | with_reducible exact (tame_places _)
                | with_reducible exact tame_makeSlice
                | with_reducible exact tame_sliceAt
                | with_reducible exact tame_slice
                | with_reducible exact tame_sliceBounds
                | with_reducible exact tame_sliceBound
                | with_reducible exact tame_index
                | with_reducible exact tame_indexAt
                | with_reducible exact tame_field
                | with_reducible exact tame_fieldAt
                | with_reducible exact tame_storeAt
                | with_reducible exact tame_loadAt
                | with_reducible exact tame_box
                | with_reducible exact tame_alloc
                | with_reducible exact tame_fieldPlace
                | with_reducible exact tame_partAt
                | with_reducible exact tame_byteOf
                | with_reducible exact tame_typeStr
                | with_reducible exact tame_samePointer
                | with_reducible exact tame_sameAddr
                | with_reducible exact tame_mayBeOne
                | with_reducible exact tame_stringish
                | with_reducible exact tame_markStringish
                | with_reducible exact tame_noView
                | with_reducible exact tame_behindNumber
                | with_reducible exact tame_numberAt
                | with_reducible exact tame_viewAt
                | with_reducible exact tame_sureAddr
                | with_reducible exact tame_asAddr
                | with_reducible exact tame_asAgg
                | with_reducible exact tame_asString
                | with_reducible exact tame_asBool
                | with_reducible exact tame_asInt
                | with_reducible exact tame_asIntOf
                | with_reducible exact tame_boundsPanic
                | with_reducible exact tame_runtimePanic
                | with_reducible exact tame_part
                | with_reducible exact tame_newVar
                | with_reducible exact tame_newRow
                | with_reducible exact tame_storeVar
                | with_reducible exact tame_loadVar
                | with_reducible exact (tame_storeCells _ _)
                | with_reducible exact tame_loadCells
                | with_reducible exact tame_elemOf
                | with_reducible exact tame_isAgg
                | with_reducible exact tame_sizeOf
                | with_reducible exact tame_zeroValue
                | with_reducible exact tame_underlying
                | with_reducible exact tame_typeInfo
                | with_reducible exact tame_room
                | with_reducible exact tame_noRoom
                | with_reducible exact tame_program
                | with_reducible exact tame_choose
                | with_reducible exact tame_setObj
                | with_reducible exact tame_getObj
                | with_reducible exact tame_frozen
                | with_reducible exact tame_freeze
                | with_reducible exact tame_shape
                | with_reducible exact tame_new
                | with_reducible exact tame_store
                | with_reducible exact tame_load
                | with_reducible refine tame_map ?_ (fun _ => True.intro)
                | with_reducible refine tame_bind ?_ (fun _ => ?_)
                | split
                | dsimp only
                | exact True.intro)
            clear_value jc ap
            repeat' (first
              | with_reducible exact tame_pureA
              | with_reducible exact tame_pureB
              | with_reducible exact tame_stuck
              | with_reducible exact tame_unsup
              | with_reducible exact tame_goPanic
              | with_reducible exact hap
              | with_reducible exact (hjb _)
              | with_reducible exact (hjc _)
              | with_reducible exact (hja _)
              | with_reducible exact tame_unary
              | with_reducible exact tame_intCmp
              | with_reducible exact tame_intBits
              | with_reducible exact tame_intDiv
              | with_reducible exact tame_intArith
              | with_reducible exact tame_shift
              | with_reducible exact tame_stringToBytes
              | with_reducible exact tame_intToString
              | with_reducible exact tame_intToInt
              | with_reducible exact tame_stringOp
              | with_reducible exact tame_copy
              | with_reducible exact tame_firstCells
              | with_reducible exact tame_lenOf
              | with_reducible exact tame_mayShare
              | with_reducible exact tame_holdsCells
              | with_reducible exact tame_cap
              | with_reducible exact tame_len
              | with_reducible exact tame_next
              | with_reducible exact tame_range
              | with_reducible exact tame_extract
              | with_reducible exact tame_makeChan
              | with_reducible exact tame_makeFunc
              | with_reducible exact tame_makeInterface
              | with_reducible exact tame_buildSlice
              | with_reducible exact tame_build
              | with_reducible exact (tame_places _)
              | with_reducible exact tame_makeSlice
              | with_reducible exact tame_sliceAt
              | with_reducible exact tame_slice
              | with_reducible exact tame_sliceBounds
              | with_reducible exact tame_sliceBound
              | with_reducible exact tame_index
              | with_reducible exact tame_indexAt
              | with_reducible exact tame_field
              | with_reducible exact tame_fieldAt
              | with_reducible exact tame_storeAt
              | with_reducible exact tame_loadAt
              | with_reducible exact tame_box
              | with_reducible exact tame_alloc
              | with_reducible exact tame_fieldPlace
              | with_reducible exact tame_partAt
              | with_reducible exact tame_byteOf
              | with_reducible exact tame_typeStr
              | with_reducible exact tame_samePointer
              | with_reducible exact tame_sameAddr
              | with_reducible exact tame_mayBeOne
              | with_reducible exact tame_stringish
              | with_reducible exact tame_markStringish
              | with_reducible exact tame_noView
              | with_reducible exact tame_behindNumber
              | with_reducible exact tame_numberAt
              | with_reducible exact tame_viewAt
              | with_reducible exact tame_sureAddr
              | with_reducible exact tame_asAddr
              | with_reducible exact tame_asAgg
              | with_reducible exact tame_asString
              | with_reducible exact tame_asBool
              | with_reducible exact tame_asInt
              | with_reducible exact tame_asIntOf
              | with_reducible exact tame_boundsPanic
              | with_reducible exact tame_runtimePanic
              | with_reducible exact tame_part
              | with_reducible exact tame_newVar
              | with_reducible exact tame_newRow
              | with_reducible exact tame_storeVar
              | with_reducible exact tame_loadVar
              | with_reducible exact (tame_storeCells _ _)
              | with_reducible exact tame_loadCells
              | with_reducible exact tame_elemOf
              | with_reducible exact tame_isAgg
              | with_reducible exact tame_sizeOf
              | with_reducible exact tame_zeroValue
              | with_reducible exact tame_underlying
              | with_reducible exact tame_typeInfo
              | with_reducible exact tame_room
              | with_reducible exact tame_noRoom
              | with_reducible exact tame_program
              | with_reducible exact tame_choose
              | with_reducible exact tame_setObj
              | with_reducible exact tame_getObj
              | with_reducible exact tame_frozen
              | with_reducible exact tame_freeze
              | with_reducible exact tame_shape
              | with_reducible exact tame_new
              | with_reducible exact tame_store
              | with_reducible exact tame_load
              | with_reducible refine tame_map ?_ (fun _ => True.intro)
              | with_reducible refine tame_bind ?_ (fun _ => ?_)
              | split
              | dsimp only
              | exact True.intro)
          clear_value jp1
          repeat' (first
            | with_reducible exact tame_pureA
            | with_reducible exact tame_pureB
            | with_reducible exact tame_stuck
            | with_reducible exact tame_unsup
            | with_reducible exact tame_goPanic
            | with_reducible exact (h1 _)
            | with_reducible exact tame_unary
            | with_reducible exact tame_intCmp
            | with_reducible exact tame_intBits
            | with_reducible exact tame_intDiv
            | with_reducible exact tame_intArith
            | with_reducible exact tame_shift
            | with_reducible exact tame_stringToBytes
            | with_reducible exact tame_intToString
            | with_reducible exact tame_intToInt
            | with_reducible exact tame_stringOp
            | with_reducible exact tame_copy
            | with_reducible exact tame_firstCells
            | with_reducible exact tame_lenOf
            | with_reducible exact tame_mayShare
            | with_reducible exact tame_holdsCells
            | with_reducible exact tame_cap
            | with_reducible exact tame_len
            | with_reducible exact tame_next
            | with_reducible exact tame_range
            | with_reducible exact tame_extract
            | with_reducible exact tame_makeChan
            | with_reducible exact tame_makeFunc
            | with_reducible exact tame_makeInterface
            | with_reducible exact tame_buildSlice
            | with_reducible exact tame_build
            | with_reducible exact (tame_places _)
            | with_reducible exact tame_makeSlice
            | with_reducible exact tame_sliceAt
            | with_reducible exact tame_slice
            | with_reducible exact tame_sliceBounds
            | with_reducible exact tame_sliceBound
            | with_reducible exact tame_index
            | with_reducible exact tame_indexAt
            | with_reducible exact tame_field
            | with_reducible exact tame_fieldAt
            | with_reducible exact tame_storeAt
            | with_reducible exact tame_loadAt
            | with_reducible exact tame_box
            | with_reducible exact tame_alloc
            | with_reducible exact tame_fieldPlace
            | with_reducible exact tame_partAt
            | with_reducible exact tame_byteOf
            | with_reducible exact tame_typeStr
            | with_reducible exact tame_samePointer
            | with_reducible exact tame_sameAddr
            | with_reducible exact tame_mayBeOne
            | with_reducible exact tame_stringish
            | with_reducible exact tame_markStringish
            | with_reducible exact tame_noView
            | with_reducible exact tame_behindNumber
            | with_reducible exact tame_numberAt
            | with_reducible exact tame_viewAt
            | with_reducible exact tame_sureAddr
            | with_reducible exact tame_asAddr
            | with_reducible exact tame_asAgg
            | with_reducible exact tame_asString
            | with_reducible exact tame_asBool
            | with_reducible exact tame_asInt
            | with_reducible exact tame_asIntOf
            | with_reducible exact tame_boundsPanic
            | with_reducible exact tame_runtimePanic
            | with_reducible exact tame_part
            | with_reducible exact tame_newVar
            | with_reducible exact tame_newRow
            | with_reducible exact tame_storeVar
            | with_reducible exact tame_loadVar
            | with_reducible exact (tame_storeCells _ _)
            | with_reducible exact tame_loadCells
            | with_reducible exact tame_elemOf
            | with_reducible exact tame_isAgg
            | with_reducible exact tame_sizeOf
            | with_reducible exact tame_zeroValue
            | with_reducible exact tame_underlying
            | with_reducible exact tame_typeInfo
            | with_reducible exact tame_room
            | with_reducible exact tame_noRoom
            | with_reducible exact tame_program
            | with_reducible exact tame_choose
            | with_reducible exact tame_setObj
            | with_reducible exact tame_getObj
            | with_reducible exact tame_frozen
            | with_reducible exact tame_freeze
            | with_reducible exact tame_shape
            | with_reducible exact tame_new
            | with_reducible exact tame_store
            | with_reducible exact tame_load
            | with_reducible refine tame_map ?_ (fun _ => True.intro)
            | with_reducible refine tame_bind ?_ (fun _ => ?_)
            | split
            | dsimp only
            | exact True.intro)
        clear_value jp
        repeat' (first
          | with_reducible exact tame_pureA
          | with_reducible exact tame_pureB
          | with_reducible exact tame_stuck
          | with_reducible exact tame_unsup
          | with_reducible exact tame_goPanic
          | with_reducible exact (hjp _)
          | with_reducible exact tame_unary
          | with_reducible exact tame_intCmp
          | with_reducible exact tame_intBits
          | with_reducible exact tame_intDiv
          | with_reducible exact tame_intArith
          | with_reducible exact tame_shift
          | with_reducible exact tame_stringToBytes
          | with_reducible exact tame_intToString
          | with_reducible exact tame_intToInt
          | with_reducible exact tame_stringOp
          | with_reducible exact tame_copy
          | with_reducible exact tame_firstCells
          | with_reducible exact tame_lenOf
          | with_reducible exact tame_mayShare
          | with_reducible exact tame_holdsCells
          | with_reducible exact tame_cap
          | with_reducible exact tame_len
          | with_reducible exact tame_next
          | with_reducible exact tame_range
          | with_reducible exact tame_extract
          | with_reducible exact tame_makeChan
          | with_reducible exact tame_makeFunc
          | with_reducible exact tame_makeInterface
          | with_reducible exact tame_buildSlice
          | with_reducible exact tame_build
          | with_reducible exact (tame_places _)
          | with_reducible exact tame_makeSlice
          | with_reducible exact tame_sliceAt
          | with_reducible exact tame_slice
          | with_reducible exact tame_sliceBounds
          | with_reducible exact tame_sliceBound
          | with_reducible exact tame_index
          | with_reducible exact tame_indexAt
          | with_reducible exact tame_field
          | with_reducible exact tame_fieldAt
          | with_reducible exact tame_storeAt
          | with_reducible exact tame_loadAt
          | with_reducible exact tame_box
          | with_reducible exact tame_alloc
          | with_reducible exact tame_fieldPlace
          | with_reducible exact tame_partAt
          | with_reducible exact tame_byteOf
          | with_reducible exact tame_typeStr
          | with_reducible exact tame_samePointer
          | with_reducible exact tame_sameAddr
          | with_reducible exact tame_mayBeOne
          | with_reducible exact tame_stringish
          | with_reducible exact tame_markStringish
          | with_reducible exact tame_noView
          | with_reducible exact tame_behindNumber
          | with_reducible exact tame_numberAt
          | with_reducible exact tame_viewAt
          | with_reducible exact tame_sureAddr
          | with_reducible exact tame_asAddr
          | with_reducible exact tame_asAgg
          | with_reducible exact tame_asString
          | with_reducible exact tame_asBool
          | with_reducible exact tame_asInt
          | with_reducible exact tame_asIntOf
          | with_reducible exact tame_boundsPanic
          | with_reducible exact tame_runtimePanic
          | with_reducible exact tame_part
          | with_reducible exact tame_newVar
          | with_reducible exact tame_newRow
          | with_reducible exact tame_storeVar
          | with_reducible exact tame_loadVar
          | with_reducible exact (tame_storeCells _ _)
          | with_reducible exact tame_loadCells
          | with_reducible exact tame_elemOf
          | with_reducible exact tame_isAgg
          | with_reducible exact tame_sizeOf
          | with_reducible exact tame_zeroValue
          | with_reducible exact tame_underlying
          | with_reducible exact tame_typeInfo
          | with_reducible exact tame_room
          | with_reducible exact tame_noRoom
          | with_reducible exact tame_program
          | with_reducible exact tame_choose
          | with_reducible exact tame_setObj
          | with_reducible exact tame_getObj
          | with_reducible exact tame_frozen
          | with_reducible exact tame_freeze
          | with_reducible exact tame_shape
          | with_reducible exact tame_new
          | with_reducible exact tame_store
          | with_reducible exact tame_load
          | with_reducible refine tame_map ?_ (fun _ => True.intro)
          | with_reducible refine tame_bind ?_ (fun _ => ?_)
          | split
          | dsimp only
          | exact True.intro)
      · exact tame_stuck
    · exact tame_stuck
  · exact tame_stuck

theorem tame_yields {o : Value} : Tame p Any (Pure.pure o : Sem Value) := tame_pureA
end

end Go.Proofs.Ytlkhknoaifbajaa
