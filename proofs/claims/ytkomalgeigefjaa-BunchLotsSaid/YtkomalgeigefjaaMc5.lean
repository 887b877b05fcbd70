/- Own work of the verifier of watercress: FzP. -/
import Derived.Shelf.Abstract
import Derived.Test.YtkomalgeigefjaaProg
import Derived.Test.YtkomalgeigefjaaMc4
set_option linter.unusedVariables false
set_option linter.unusedSimpArgs false
namespace Go.Fz
open Go.Proofs
def tys : List (Option TI) :=
 [some (TI.mk (TypeDesc.tuple (Array.mk [])) 1 0 [Value.tuple (Array.mk [])] true),
  some (TI.mk (TypeDesc.func (Array.mk []) (Array.mk []) false) 1 8 [Value.nilFunc] true),
  some (TI.mk (TypeDesc.int IntKind.i64) 1 8 [Value.int IntKind.i64 (Int.ofNat 0)] true),
  some (TI.mk (TypeDesc.int IntKind.i64) 1 8 [Value.int IntKind.i64 (Int.ofNat 0)] true),
  some (TI.mk TypeDesc.bool 1 1 [Value.bool false] true),
  some (TI.mk (TypeDesc.int IntKind.u8) 1 1 [Value.int IntKind.u8 (Int.ofNat 0)] true),
  some (TI.mk (TypeDesc.int IntKind.u8) 1 1 [Value.int IntKind.u8 (Int.ofNat 0)] true),
  some (TI.mk (TypeDesc.struct (Array.mk [Field.mk "x" 2 0 false "" "runtime" 0, Field.mk "y" 3 1 false "" "runtime" 8, Field.mk "signed" 4 2 false "" "runtime" 16, Field.mk "code" 6 3 false "" "runtime" 17])) 4 24 [Value.int IntKind.i64 (Int.ofNat 0), Value.int IntKind.i64 (Int.ofNat 0), Value.bool false, Value.int IntKind.u8 (Int.ofNat 0)] true),
  some (TI.mk (TypeDesc.struct (Array.mk [Field.mk "x" 2 0 false "" "runtime" 0, Field.mk "y" 3 1 false "" "runtime" 8, Field.mk "signed" 4 2 false "" "runtime" 16, Field.mk "code" 6 3 false "" "runtime" 17])) 4 24 [Value.int IntKind.i64 (Int.ofNat 0), Value.int IntKind.i64 (Int.ofNat 0), Value.bool false, Value.int IntKind.u8 (Int.ofNat 0)] true),
  some (TI.mk TypeDesc.string 1 16 [Value.string (ByteArray.mk (Array.mk []))] true),
  some (TI.mk TypeDesc.string 1 16 [Value.string (ByteArray.mk (Array.mk []))] true),
  some (TI.mk TypeDesc.string 1 16 [Value.string (ByteArray.mk (Array.mk []))] true),
  some (TI.mk (TypeDesc.int IntKind.u64) 1 8 [Value.int IntKind.u64 (Int.ofNat 0)] true),
  some (TI.mk (TypeDesc.struct (Array.mk [Field.mk "msg" 9 0 false "" "runtime" 0, Field.mk "addr" 12 1 false "" "runtime" 16])) 2 24 [Value.string (ByteArray.mk (Array.mk [])), Value.int IntKind.u64 (Int.ofNat 0)] false),
  some (TI.mk (TypeDesc.struct (Array.mk [Field.mk "msg" 9 0 false "" "runtime" 0, Field.mk "addr" 12 1 false "" "runtime" 16])) 2 24 [Value.string (ByteArray.mk (Array.mk [])), Value.int IntKind.u64 (Int.ofNat 0)] false),
  some (TI.mk (TypeDesc.pointer 160) 1 8 [Value.pointer none] true),
  some (TI.mk (TypeDesc.pointer 163) 1 8 [Value.pointer none] true),
  some (TI.mk (TypeDesc.pointer 172) 1 8 [Value.pointer none] true),
  some (TI.mk (TypeDesc.struct (Array.mk [Field.mk "typ" 17 0 false "" "internal/runtime/maps" 0])) 1 8 [Value.pointer none] false),
  some (TI.mk (TypeDesc.struct (Array.mk [Field.mk "typ" 17 0 false "" "internal/runtime/maps" 0])) 1 8 [Value.pointer none] false),
  some (TI.mk (TypeDesc.interface (Array.mk [])) 1 16 [Value.nilIface] true),
  some (TI.mk (TypeDesc.int IntKind.i32) 1 4 [Value.int IntKind.i32 (Int.ofNat 0)] true),
  some (TI.mk (TypeDesc.slice 64) 1 24 [Value.slice none 0 0] true),
  some (TI.mk (TypeDesc.slice 76) 1 24 [Value.slice none 0 0] true),
  some (TI.mk (TypeDesc.slice 83) 1 24 [Value.slice none 0 0] true),
  some (TI.mk (TypeDesc.struct (Array.mk [Field.mk "Hand" 3 0 false "" "" 0, Field.mk "Flat" 3 1 false "" "" 8, Field.mk "Women" 22 2 false "" "" 16, Field.mk "Lots" 23 3 false "" "" 40, Field.mk "Counts" 24 4 false "" "" 64])) 5 88 [Value.int IntKind.i64 (Int.ofNat 0), Value.int IntKind.i64 (Int.ofNat 0), Value.slice none 0 0, Value.slice none 0 0, Value.slice none 0 0] true),
  some (TI.mk (TypeDesc.struct (Array.mk [Field.mk "Hand" 3 0 false "" "" 0, Field.mk "Flat" 3 1 false "" "" 8, Field.mk "Women" 22 2 false "" "" 16, Field.mk "Lots" 23 3 false "" "" 40, Field.mk "Counts" 24 4 false "" "" 64])) 5 88 [Value.int IntKind.i64 (Int.ofNat 0), Value.int IntKind.i64 (Int.ofNat 0), Value.slice none 0 0, Value.slice none 0 0, Value.slice none 0 0] true),
  some (TI.mk (TypeDesc.slice 3) 1 24 [Value.slice none 0 0] true),
  some (TI.mk (TypeDesc.struct (Array.mk [Field.mk "Feels" 27 0 false "" "" 0, Field.mk "Stems" 27 1 false "" "" 24])) 2 48 [Value.slice none 0 0, Value.slice none 0 0] true),
  some (TI.mk (TypeDesc.struct (Array.mk [Field.mk "Feels" 27 0 false "" "" 0, Field.mk "Stems" 27 1 false "" "" 24])) 2 48 [Value.slice none 0 0, Value.slice none 0 0] true),
  some (TI.mk (TypeDesc.func (Array.mk [26]) (Array.mk [4]) false) 1 8 [Value.nilFunc] true),
  some (TI.mk (TypeDesc.func (Array.mk []) (Array.mk [4]) false) 1 8 [Value.nilFunc] true),
  some (TI.mk (TypeDesc.struct (Array.mk [Field.mk "Bunches" 27 0 false "" "" 0, Field.mk "Left" 27 1 false "" "" 24, Field.mk "Hands" 3 2 false "" "" 48, Field.mk "Loose" 3 3 false "" "" 56, Field.mk "Flats" 3 4 false "" "" 64, Field.mk "Spare" 3 5 false "" "" 72])) 6 80 [Value.slice none 0 0, Value.slice none 0 0, Value.int IntKind.i64 (Int.ofNat 0), Value.int IntKind.i64 (Int.ofNat 0), Value.int IntKind.i64 (Int.ofNat 0), Value.int IntKind.i64 (Int.ofNat 0)] true),
  some (TI.mk (TypeDesc.struct (Array.mk [Field.mk "Bunches" 27 0 false "" "" 0, Field.mk "Left" 27 1 false "" "" 24, Field.mk "Hands" 3 2 false "" "" 48, Field.mk "Loose" 3 3 false "" "" 56, Field.mk "Flats" 3 4 false "" "" 64, Field.mk "Spare" 3 5 false "" "" 72])) 6 80 [Value.slice none 0 0, Value.slice none 0 0, Value.int IntKind.i64 (Int.ofNat 0), Value.int IntKind.i64 (Int.ofNat 0), Value.int IntKind.i64 (Int.ofNat 0), Value.int IntKind.i64 (Int.ofNat 0)] true),
  some (TI.mk (TypeDesc.int IntKind.i64) 1 8 [Value.int IntKind.i64 (Int.ofNat 0)] true),
  some (TI.mk (TypeDesc.tuple (Array.mk [33, 34])) 1 0 [Value.tuple (Array.mk [Value.agg (Array.mk [Value.slice none 0 0, Value.slice none 0 0, Value.int IntKind.i64 (Int.ofNat 0), Value.int IntKind.i64 (Int.ofNat 0), Value.int IntKind.i64 (Int.ofNat 0), Value.int IntKind.i64 (Int.ofNat 0)]), Value.int IntKind.i64 (Int.ofNat 0)])] true),
  some (TI.mk (TypeDesc.func (Array.mk [41, 43]) (Array.mk [33, 34]) false) 1 8 [Value.nilFunc] true),
  some (TI.mk (TypeDesc.slice 53) 1 24 [Value.slice none 0 0] true),
  some (TI.mk (TypeDesc.slice 68) 1 24 [Value.slice none 0 0] true),
  some (TI.mk (TypeDesc.slice 70) 1 24 [Value.slice none 0 0] true),
  some (TI.mk (TypeDesc.struct (Array.mk [Field.mk "Hand" 3 0 false "" "" 0, Field.mk "Flat" 3 1 false "" "" 8, Field.mk "Women" 37 2 false "" "" 16, Field.mk "Lots" 38 3 false "" "" 40, Field.mk "Counts" 39 4 false "" "" 64])) 5 88 [Value.int IntKind.i64 (Int.ofNat 0), Value.int IntKind.i64 (Int.ofNat 0), Value.slice none 0 0, Value.slice none 0 0, Value.slice none 0 0] true),
  some (TI.mk (TypeDesc.struct (Array.mk [Field.mk "Hand" 3 0 false "" "" 0, Field.mk "Flat" 3 1 false "" "" 8, Field.mk "Women" 37 2 false "" "" 16, Field.mk "Lots" 38 3 false "" "" 40, Field.mk "Counts" 39 4 false "" "" 64])) 5 88 [Value.int IntKind.i64 (Int.ofNat 0), Value.int IntKind.i64 (Int.ofNat 0), Value.slice none 0 0, Value.slice none 0 0, Value.slice none 0 0] true),
  some (TI.mk (TypeDesc.func (Array.mk [26]) (Array.mk [41]) false) 1 8 [Value.nilFunc] true),
  some (TI.mk (TypeDesc.struct (Array.mk [Field.mk "Feels" 27 0 false "" "" 0, Field.mk "Stems" 27 1 false "" "" 24])) 2 48 [Value.slice none 0 0, Value.slice none 0 0] true),
  some (TI.mk (TypeDesc.func (Array.mk [29]) (Array.mk [43]) false) 1 8 [Value.nilFunc] true),
  some (TI.mk (TypeDesc.func (Array.mk [41, 43]) (Array.mk [4]) false) 1 8 [Value.nilFunc] true),
  some (TI.mk (TypeDesc.func (Array.mk [26]) (Array.mk [34]) false) 1 8 [Value.nilFunc] true),
  some (TI.mk (TypeDesc.func (Array.mk [41]) (Array.mk [34]) false) 1 8 [Value.nilFunc] true),
  some (TI.mk (TypeDesc.func (Array.mk [26, 29]) (Array.mk [4]) false) 1 8 [Value.nilFunc] true),
  some (TI.mk (TypeDesc.func (Array.mk [33, 50]) (Array.mk [4]) false) 1 8 [Value.nilFunc] true),
  some (TI.mk (TypeDesc.struct (Array.mk [Field.mk "Bunches" 27 0 false "" "" 0, Field.mk "Left" 27 1 false "" "" 24, Field.mk "Hands" 3 2 false "" "" 48, Field.mk "Loose" 3 3 false "" "" 56, Field.mk "Flats" 3 4 false "" "" 64, Field.mk "Spare" 3 5 false "" "" 72])) 6 80 [Value.slice none 0 0, Value.slice none 0 0, Value.int IntKind.i64 (Int.ofNat 0), Value.int IntKind.i64 (Int.ofNat 0), Value.int IntKind.i64 (Int.ofNat 0), Value.int IntKind.i64 (Int.ofNat 0)] true),
  some (TI.mk (TypeDesc.func (Array.mk [26, 29]) (Array.mk [50]) false) 1 8 [Value.nilFunc] true),
  some (TI.mk (TypeDesc.struct (Array.mk [Field.mk "Lo" 3 0 false "" "" 0, Field.mk "Hi" 3 1 false "" "" 8])) 2 16 [Value.int IntKind.i64 (Int.ofNat 0), Value.int IntKind.i64 (Int.ofNat 0)] true),
  some (TI.mk (TypeDesc.struct (Array.mk [Field.mk "Lo" 3 0 false "" "" 0, Field.mk "Hi" 3 1 false "" "" 8])) 2 16 [Value.int IntKind.i64 (Int.ofNat 0), Value.int IntKind.i64 (Int.ofNat 0)] true),
  some (TI.mk (TypeDesc.struct (Array.mk [Field.mk "Feel" 37 0 false "" "" 0, Field.mk "Bunches" 37 1 false "" "" 24, Field.mk "Left" 37 2 false "" "" 48, Field.mk "Hands" 53 3 false "" "" 72, Field.mk "Loose" 53 5 false "" "" 88, Field.mk "Flats" 53 7 false "" "" 104, Field.mk "Spare" 53 9 false "" "" 120])) 11 136 [Value.slice none 0 0, Value.slice none 0 0, Value.slice none 0 0, Value.int IntKind.i64 (Int.ofNat 0), Value.int IntKind.i64 (Int.ofNat 0), Value.int IntKind.i64 (Int.ofNat 0), Value.int IntKind.i64 (Int.ofNat 0), Value.int IntKind.i64 (Int.ofNat 0), Value.int IntKind.i64 (Int.ofNat 0), Value.int IntKind.i64 (Int.ofNat 0), Value.int IntKind.i64 (Int.ofNat 0)] true),
  some (TI.mk (TypeDesc.struct (Array.mk [Field.mk "Feel" 37 0 false "" "" 0, Field.mk "Bunches" 37 1 false "" "" 24, Field.mk "Left" 37 2 false "" "" 48, Field.mk "Hands" 53 3 false "" "" 72, Field.mk "Loose" 53 5 false "" "" 88, Field.mk "Flats" 53 7 false "" "" 104, Field.mk "Spare" 53 9 false "" "" 120])) 11 136 [Value.slice none 0 0, Value.slice none 0 0, Value.slice none 0 0, Value.int IntKind.i64 (Int.ofNat 0), Value.int IntKind.i64 (Int.ofNat 0), Value.int IntKind.i64 (Int.ofNat 0), Value.int IntKind.i64 (Int.ofNat 0), Value.int IntKind.i64 (Int.ofNat 0), Value.int IntKind.i64 (Int.ofNat 0), Value.int IntKind.i64 (Int.ofNat 0), Value.int IntKind.i64 (Int.ofNat 0)] true),
  some (TI.mk (TypeDesc.tuple (Array.mk [55, 34])) 1 0 [Value.tuple (Array.mk [Value.agg (Array.mk [Value.slice none 0 0, Value.slice none 0 0, Value.slice none 0 0, Value.int IntKind.i64 (Int.ofNat 0), Value.int IntKind.i64 (Int.ofNat 0), Value.int IntKind.i64 (Int.ofNat 0), Value.int IntKind.i64 (Int.ofNat 0), Value.int IntKind.i64 (Int.ofNat 0), Value.int IntKind.i64 (Int.ofNat 0), Value.int IntKind.i64 (Int.ofNat 0), Value.int IntKind.i64 (Int.ofNat 0)]), Value.int IntKind.i64 (Int.ofNat 0)])] true),
  some (TI.mk (TypeDesc.func (Array.mk [41]) (Array.mk [55, 34]) false) 1 8 [Value.nilFunc] true),
  some (TI.mk (TypeDesc.func (Array.mk [3]) (Array.mk [41]) false) 1 8 [Value.nilFunc] true),
  some (TI.mk (TypeDesc.tuple (Array.mk [3, 34])) 1 0 [Value.tuple (Array.mk [Value.int IntKind.i64 (Int.ofNat 0), Value.int IntKind.i64 (Int.ofNat 0)])] true),
  some (TI.mk (TypeDesc.func (Array.mk [41, 3, 3]) (Array.mk [3, 34]) false) 1 8 [Value.nilFunc] true),
  some (TI.mk (TypeDesc.tuple (Array.mk [27, 34])) 1 0 [Value.tuple (Array.mk [Value.slice none 0 0, Value.int IntKind.i64 (Int.ofNat 0)])] true),
  some (TI.mk (TypeDesc.func (Array.mk [41]) (Array.mk [27, 34]) false) 1 8 [Value.nilFunc] true),
  some (TI.mk (TypeDesc.func (Array.mk [37, 22]) (Array.mk [4]) false) 1 8 [Value.nilFunc] true),
  some (TI.mk (TypeDesc.struct (Array.mk [Field.mk "Lo" 3 0 false "" "" 0, Field.mk "Hi" 3 1 false "" "" 8])) 2 16 [Value.int IntKind.i64 (Int.ofNat 0), Value.int IntKind.i64 (Int.ofNat 0)] true),
  some (TI.mk (TypeDesc.func (Array.mk [3, 3]) (Array.mk [53]) false) 1 8 [Value.nilFunc] true),
  some (TI.mk (TypeDesc.func (Array.mk [41]) (Array.mk [3, 34]) false) 1 8 [Value.nilFunc] true),
  some (TI.mk (TypeDesc.struct (Array.mk [Field.mk "Woman" 3 0 false "" "" 0, Field.mk "Stems" 53 1 false "" "" 8])) 3 24 [Value.int IntKind.i64 (Int.ofNat 0), Value.int IntKind.i64 (Int.ofNat 0), Value.int IntKind.i64 (Int.ofNat 0)] true),
  some (TI.mk (TypeDesc.struct (Array.mk [Field.mk "Woman" 3 0 false "" "" 0, Field.mk "Stems" 53 1 false "" "" 8])) 3 24 [Value.int IntKind.i64 (Int.ofNat 0), Value.int IntKind.i64 (Int.ofNat 0), Value.int IntKind.i64 (Int.ofNat 0)] true),
  some (TI.mk (TypeDesc.struct (Array.mk [Field.mk "Kind" 3 0 false "" "" 0, Field.mk "Woman" 3 1 false "" "" 8, Field.mk "Number" 53 2 false "" "" 16])) 4 32 [Value.int IntKind.i64 (Int.ofNat 0), Value.int IntKind.i64 (Int.ofNat 0), Value.int IntKind.i64 (Int.ofNat 0), Value.int IntKind.i64 (Int.ofNat 0)] true),
  some (TI.mk (TypeDesc.struct (Array.mk [Field.mk "Kind" 3 0 false "" "" 0, Field.mk "Woman" 3 1 false "" "" 8, Field.mk "Number" 53 2 false "" "" 16])) 4 32 [Value.int IntKind.i64 (Int.ofNat 0), Value.int IntKind.i64 (Int.ofNat 0), Value.int IntKind.i64 (Int.ofNat 0), Value.int IntKind.i64 (Int.ofNat 0)] true),
  some (TI.mk (TypeDesc.int IntKind.u16) 1 2 [Value.int IntKind.u16 (Int.ofNat 0)] true),
  some (TI.mk (TypeDesc.func (Array.mk [26, 3]) (Array.mk [29]) false) 1 8 [Value.nilFunc] true),
  some (TI.mk (TypeDesc.func (Array.mk [26]) (Array.mk [3]) false) 1 8 [Value.nilFunc] true),
  some (TI.mk (TypeDesc.func (Array.mk [27]) (Array.mk [27]) false) 1 8 [Value.nilFunc] true),
  some (TI.mk (TypeDesc.struct (Array.mk [Field.mk "Woman" 3 0 false "" "" 0, Field.mk "Stems" 64 1 false "" "" 8])) 3 24 [Value.int IntKind.i64 (Int.ofNat 0), Value.int IntKind.i64 (Int.ofNat 0), Value.int IntKind.i64 (Int.ofNat 0)] true),
  some (TI.mk (TypeDesc.struct (Array.mk [Field.mk "Woman" 3 0 false "" "" 0, Field.mk "Stems" 64 1 false "" "" 8])) 3 24 [Value.int IntKind.i64 (Int.ofNat 0), Value.int IntKind.i64 (Int.ofNat 0), Value.int IntKind.i64 (Int.ofNat 0)] true),
  some (TI.mk (TypeDesc.func (Array.mk [26, 71, 5, 5]) (Array.mk [4]) false) 1 8 [Value.nilFunc] true),
  some (TI.mk (TypeDesc.func (Array.mk [27, 27]) (Array.mk [4]) false) 1 8 [Value.nilFunc] true),
  some (TI.mk (TypeDesc.func (Array.mk [43]) (Array.mk [4]) false) 1 8 [Value.nilFunc] true),
  some (TI.mk (TypeDesc.func (Array.mk [43]) (Array.mk [33]) false) 1 8 [Value.nilFunc] true),
  some (TI.mk (TypeDesc.func (Array.mk [64]) (Array.mk [53]) false) 1 8 [Value.nilFunc] true),
  some (TI.mk (TypeDesc.struct (Array.mk [Field.mk "Kind" 3 0 false "" "" 0, Field.mk "Woman" 3 1 false "" "" 8, Field.mk "Number" 64 2 false "" "" 16])) 4 32 [Value.int IntKind.i64 (Int.ofNat 0), Value.int IntKind.i64 (Int.ofNat 0), Value.int IntKind.i64 (Int.ofNat 0), Value.int IntKind.i64 (Int.ofNat 0)] true),
  some (TI.mk (TypeDesc.struct (Array.mk [Field.mk "Kind" 3 0 false "" "" 0, Field.mk "Woman" 3 1 false "" "" 8, Field.mk "Number" 64 2 false "" "" 16])) 4 32 [Value.int IntKind.i64 (Int.ofNat 0), Value.int IntKind.i64 (Int.ofNat 0), Value.int IntKind.i64 (Int.ofNat 0), Value.int IntKind.i64 (Int.ofNat 0)] true),
  some (TI.mk (TypeDesc.array 5 4) 5 5 [Value.bool false, Value.bool false, Value.bool false, Value.bool false, Value.bool false] true),
  some (TI.mk (TypeDesc.array 5 4) 5 5 [Value.bool false, Value.bool false, Value.bool false, Value.bool false, Value.bool false] true),
  some (TI.mk (TypeDesc.func (Array.mk [33]) (Array.mk [85]) false) 1 8 [Value.nilFunc] true),
  some (TI.mk (TypeDesc.func (Array.mk [50, 83]) (Array.mk [4]) false) 1 8 [Value.nilFunc] true),
  some (TI.mk (TypeDesc.func (Array.mk [3, 3, 3]) (Array.mk [4]) false) 1 8 [Value.nilFunc] true),
  some (TI.mk (TypeDesc.slice 109) 1 24 [Value.slice none 0 0] true),
  some (TI.mk (TypeDesc.map 85 4) 1 8 [Value.map none] true),
  some (TI.mk (TypeDesc.struct (Array.mk [Field.mk "Day" 41 0 true "" "" 0, Field.mk "outcomes" 89 5 false "" "watercress/bunch" 88, Field.mk "wrong" 90 6 false "" "watercress/bunch" 112])) 7 120 [Value.int IntKind.i64 (Int.ofNat 0), Value.int IntKind.i64 (Int.ofNat 0), Value.slice none 0 0, Value.slice none 0 0, Value.slice none 0 0, Value.slice none 0 0, Value.map none] true),
  some (TI.mk (TypeDesc.struct (Array.mk [Field.mk "Day" 41 0 true "" "" 0, Field.mk "outcomes" 89 5 false "" "watercress/bunch" 88, Field.mk "wrong" 90 6 false "" "watercress/bunch" 112])) 7 120 [Value.int IntKind.i64 (Int.ofNat 0), Value.int IntKind.i64 (Int.ofNat 0), Value.slice none 0 0, Value.slice none 0 0, Value.slice none 0 0, Value.slice none 0 0, Value.map none] true),
  some (TI.mk (TypeDesc.tuple (Array.mk [92, 34])) 1 0 [Value.tuple (Array.mk [Value.agg (Array.mk [Value.int IntKind.i64 (Int.ofNat 0), Value.int IntKind.i64 (Int.ofNat 0), Value.slice none 0 0, Value.slice none 0 0, Value.slice none 0 0, Value.slice none 0 0, Value.map none]), Value.int IntKind.i64 (Int.ofNat 0)])] true),
  some (TI.mk (TypeDesc.func (Array.mk [41, 4]) (Array.mk [92, 34]) false) 1 8 [Value.nilFunc] true),
  some (TI.mk (TypeDesc.map 99 4) 1 8 [Value.map none] true),
  some (TI.mk (TypeDesc.func (Array.mk [3]) (Array.mk [95]) false) 1 8 [Value.nilFunc] true),
  some (TI.mk (TypeDesc.func (Array.mk [101, 103]) (Array.mk [53]) false) 1 8 [Value.nilFunc] true),
  some (TI.mk (TypeDesc.struct (Array.mk [Field.mk "feel" 3 0 false "" "watercress/bunch" 0, Field.mk "stems" 3 1 false "" "watercress/bunch" 8])) 2 16 [Value.int IntKind.i64 (Int.ofNat 0), Value.int IntKind.i64 (Int.ofNat 0)] true),
  some (TI.mk (TypeDesc.struct (Array.mk [Field.mk "feel" 3 0 false "" "watercress/bunch" 0, Field.mk "stems" 3 1 false "" "watercress/bunch" 8])) 2 16 [Value.int IntKind.i64 (Int.ofNat 0), Value.int IntKind.i64 (Int.ofNat 0)] true),
  some (TI.mk (TypeDesc.func (Array.mk [136]) (Array.mk []) false) 1 8 [Value.nilFunc] true),
  some (TI.mk (TypeDesc.func (Array.mk [136]) (Array.mk []) false) 1 8 [Value.nilFunc] true),
  some (TI.mk (TypeDesc.func (Array.mk [95]) (Array.mk [101]) false) 1 8 [Value.nilFunc] true),
  some (TI.mk (TypeDesc.func (Array.mk [99]) (Array.mk [3]) false) 1 8 [Value.nilFunc] true),
  some (TI.mk (TypeDesc.func (Array.mk []) (Array.mk [3]) false) 1 8 [Value.nilFunc] true),
  some (TI.mk (TypeDesc.func (Array.mk [137]) (Array.mk []) false) 1 8 [Value.nilFunc] true),
  some (TI.mk (TypeDesc.func (Array.mk [137]) (Array.mk []) false) 1 8 [Value.nilFunc] true),
  some (TI.mk (TypeDesc.func (Array.mk [89]) (Array.mk [106]) false) 1 8 [Value.nilFunc] true),
  some (TI.mk (TypeDesc.struct (Array.mk [Field.mk "Truth" 43 0 true "" "" 0, Field.mk "Tally" 33 2 true "" "" 48])) 8 128 [Value.slice none 0 0, Value.slice none 0 0, Value.slice none 0 0, Value.slice none 0 0, Value.int IntKind.i64 (Int.ofNat 0), Value.int IntKind.i64 (Int.ofNat 0), Value.int IntKind.i64 (Int.ofNat 0), Value.int IntKind.i64 (Int.ofNat 0)] true),
  some (TI.mk (TypeDesc.struct (Array.mk [Field.mk "Truth" 43 0 true "" "" 0, Field.mk "Tally" 33 2 true "" "" 48])) 8 128 [Value.slice none 0 0, Value.slice none 0 0, Value.slice none 0 0, Value.slice none 0 0, Value.int IntKind.i64 (Int.ofNat 0), Value.int IntKind.i64 (Int.ofNat 0), Value.int IntKind.i64 (Int.ofNat 0), Value.int IntKind.i64 (Int.ofNat 0)] true),
  some (TI.mk (TypeDesc.func (Array.mk [106, 111]) (Array.mk [53]) false) 1 8 [Value.nilFunc] true),
  some (TI.mk (TypeDesc.func (Array.mk [109]) (Array.mk [3]) false) 1 8 [Value.nilFunc] true),
  some (TI.mk (TypeDesc.func (Array.mk [3]) (Array.mk [4]) false) 1 8 [Value.nilFunc] true),
  some (TI.mk (TypeDesc.map 4 4) 1 8 [Value.map none] true),
  some (TI.mk (TypeDesc.func (Array.mk [41]) (Array.mk [92]) false) 1 8 [Value.nilFunc] true),
  some (TI.mk (TypeDesc.func (Array.mk [118]) (Array.mk []) false) 1 8 [Value.nilFunc] true),
  some (TI.mk (TypeDesc.func (Array.mk [118]) (Array.mk []) false) 1 8 [Value.nilFunc] true),
  some (TI.mk (TypeDesc.func (Array.mk [3]) (Array.mk [116]) false) 1 8 [Value.nilFunc] true),
  some (TI.mk (TypeDesc.func (Array.mk [27]) (Array.mk [4]) false) 1 8 [Value.nilFunc] true),
  some (TI.mk (TypeDesc.func (Array.mk [64]) (Array.mk [3]) false) 1 8 [Value.nilFunc] true),
  some (TI.mk (TypeDesc.func (Array.mk [64, 3, 3]) (Array.mk [4]) false) 1 8 [Value.nilFunc] true),
  some (TI.mk (TypeDesc.func (Array.mk [26, 83]) (Array.mk [4]) false) 1 8 [Value.nilFunc] true),
  some (TI.mk (TypeDesc.func (Array.mk [27, 123]) (Array.mk [4]) false) 1 8 [Value.nilFunc] true),
  some (TI.mk (TypeDesc.func (Array.mk [3, 3]) (Array.mk [4]) false) 1 8 [Value.nilFunc] true),
  some (TI.mk (TypeDesc.func (Array.mk [43, 3]) (Array.mk [99]) false) 1 8 [Value.nilFunc] true),
  some (TI.mk (TypeDesc.func (Array.mk [33]) (Array.mk [4]) false) 1 8 [Value.nilFunc] true),
  some (TI.mk (TypeDesc.func (Array.mk [37, 127]) (Array.mk [4]) false) 1 8 [Value.nilFunc] true),
  some (TI.mk (TypeDesc.func (Array.mk [3, 53]) (Array.mk [4]) false) 1 8 [Value.nilFunc] true),
  some (TI.mk (TypeDesc.func (Array.mk [38, 129]) (Array.mk [4]) false) 1 8 [Value.nilFunc] true),
  some (TI.mk (TypeDesc.func (Array.mk [3, 68]) (Array.mk [4]) false) 1 8 [Value.nilFunc] true),
  some (TI.mk (TypeDesc.func (Array.mk [39, 131]) (Array.mk [4]) false) 1 8 [Value.nilFunc] true),
  some (TI.mk (TypeDesc.func (Array.mk [3, 70]) (Array.mk [4]) false) 1 8 [Value.nilFunc] true),
  some (TI.mk (TypeDesc.func (Array.mk []) (Array.mk [37]) false) 1 8 [Value.nilFunc] true),
  some (TI.mk (TypeDesc.func (Array.mk [50, 83]) (Array.mk [3]) false) 1 8 [Value.nilFunc] true),
  some (TI.mk (TypeDesc.func (Array.mk [3, 27]) (Array.mk [3]) true) 1 8 [Value.nilFunc] true),
  some (TI.mk (TypeDesc.func (Array.mk [27]) (Array.mk [3]) false) 1 8 [Value.nilFunc] true),
  some (TI.mk (TypeDesc.func (Array.mk [99]) (Array.mk [4]) false) 1 8 [Value.nilFunc] true),
  some (TI.mk (TypeDesc.func (Array.mk [109]) (Array.mk [4]) false) 1 8 [Value.nilFunc] true),
  some (TI.mk (TypeDesc.func (Array.mk [79]) (Array.mk []) false) 1 8 [Value.nilFunc] true),
  some (TI.mk (TypeDesc.func (Array.mk [79]) (Array.mk []) false) 1 8 [Value.nilFunc] true),
  some (TI.mk (TypeDesc.func (Array.mk []) (Array.mk [139]) false) 1 8 [Value.nilFunc] true),
  some (TI.mk (TypeDesc.func (Array.mk [142, 144]) (Array.mk [4]) false) 1 8 [Value.nilFunc] true),
  some (TI.mk (TypeDesc.slice 4) 1 24 [Value.slice none 0 0] true),
  some (TI.mk (TypeDesc.func (Array.mk [27, 3]) (Array.mk [4]) false) 1 8 [Value.nilFunc] true),
  some (TI.mk (TypeDesc.func (Array.mk [3, 4]) (Array.mk [4]) false) 1 8 [Value.nilFunc] true),
  some (TI.mk (TypeDesc.map 147 3) 1 8 [Value.map none] true),
  some (TI.mk (TypeDesc.array 4 3) 4 32 [Value.int IntKind.i64 (Int.ofNat 0), Value.int IntKind.i64 (Int.ofNat 0), Value.int IntKind.i64 (Int.ofNat 0), Value.int IntKind.i64 (Int.ofNat 0)] true),
  some (TI.mk (TypeDesc.array 4 3) 4 32 [Value.int IntKind.i64 (Int.ofNat 0), Value.int IntKind.i64 (Int.ofNat 0), Value.int IntKind.i64 (Int.ofNat 0), Value.int IntKind.i64 (Int.ofNat 0)] true),
  some (TI.mk (TypeDesc.func (Array.mk [27]) (Array.mk [147]) false) 1 8 [Value.nilFunc] true),
  some (TI.mk (TypeDesc.tuple (Array.mk [3, 4])) 1 0 [Value.tuple (Array.mk [Value.int IntKind.i64 (Int.ofNat 0), Value.bool false])] true),
  some (TI.mk (TypeDesc.func (Array.mk [33, 3]) (Array.mk [3]) false) 1 8 [Value.nilFunc] true),
  some (TI.mk (TypeDesc.struct (Array.mk [Field.mk "of" 150 0 false "" "watercress/bunch" 0, Field.mk "ofWoman" 4 1 false "" "watercress/bunch" 8])) 2 16 [Value.nilFunc, Value.bool false] true),
  some (TI.mk (TypeDesc.struct (Array.mk [Field.mk "of" 150 0 false "" "watercress/bunch" 0, Field.mk "ofWoman" 4 1 false "" "watercress/bunch" 8])) 2 16 [Value.nilFunc, Value.bool false] true),
  some (TI.mk (TypeDesc.func (Array.mk []) (Array.mk [152]) false) 1 8 [Value.nilFunc] true),
  some (TI.mk (TypeDesc.func (Array.mk [27, 3]) (Array.mk [3]) false) 1 8 [Value.nilFunc] true),
  some (TI.mk (TypeDesc.slice 152) 1 24 [Value.slice none 0 0] true),
  some (TI.mk (TypeDesc.func (Array.mk []) (Array.mk [155]) false) 1 8 [Value.nilFunc] true),
  some (TI.mk (TypeDesc.func (Array.mk [3]) (Array.mk [3]) false) 1 8 [Value.nilFunc] true),
  some (TI.mk (TypeDesc.func (Array.mk []) (Array.mk [9]) false) 1 8 [Value.nilFunc] true),
  some (TI.mk (TypeDesc.struct (Array.mk [Field.mk "_interface" 17 0 false "" "runtime" 0, Field.mk "concrete" 17 1 false "" "runtime" 8, Field.mk "asserted" 17 2 false "" "runtime" 16, Field.mk "missingMethod" 9 3 false "" "runtime" 24])) 4 40 [Value.pointer none, Value.pointer none, Value.pointer none, Value.string (ByteArray.mk (Array.mk []))] false),
  some (TI.mk (TypeDesc.struct (Array.mk [Field.mk "_interface" 17 0 false "" "runtime" 0, Field.mk "concrete" 17 1 false "" "runtime" 8, Field.mk "asserted" 17 2 false "" "runtime" 16, Field.mk "missingMethod" 9 3 false "" "runtime" 24])) 4 40 [Value.pointer none, Value.pointer none, Value.pointer none, Value.string (ByteArray.mk (Array.mk []))] false),
  some (TI.mk (TypeDesc.array 0 16) 0 0 [] true),
  some (TI.mk (TypeDesc.struct (Array.mk [Field.mk "_" 161 0 false "" "runtime" 0])) 0 0 [] false),
  some (TI.mk (TypeDesc.struct (Array.mk [Field.mk "_" 161 0 false "" "runtime" 0])) 0 0 [] false),
  some (TI.mk (TypeDesc.int IntKind.u32) 1 4 [Value.int IntKind.u32 (Int.ofNat 0)] true),
  some (TI.mk (TypeDesc.int IntKind.u8) 1 1 [Value.int IntKind.u8 (Int.ofNat 0)] true),
  some (TI.mk (TypeDesc.int IntKind.u8) 1 1 [Value.int IntKind.u8 (Int.ofNat 0)] true),
  some (TI.mk (TypeDesc.func (Array.mk [173, 173]) (Array.mk [4]) false) 1 8 [Value.nilFunc] true),
  some (TI.mk (TypeDesc.pointer 5) 1 8 [Value.pointer none] true),
  some (TI.mk (TypeDesc.int IntKind.i32) 1 4 [Value.int IntKind.i32 (Int.ofNat 0)] true),
  some (TI.mk (TypeDesc.int IntKind.i32) 1 4 [Value.int IntKind.i32 (Int.ofNat 0)] true),
  some (TI.mk (TypeDesc.struct (Array.mk [Field.mk "Size_" 12 0 false "" "" 0, Field.mk "PtrBytes" 12 1 false "" "" 8, Field.mk "Hash" 164 2 false "" "" 16, Field.mk "TFlag" 165 3 false "" "" 20, Field.mk "Align_" 5 4 false "" "" 21, Field.mk "FieldAlign_" 5 5 false "" "" 22, Field.mk "Kind_" 166 6 false "" "" 23, Field.mk "Equal" 167 7 false "" "" 24, Field.mk "GCData" 168 8 false "" "" 32, Field.mk "Str" 169 9 false "" "" 40, Field.mk "PtrToThis" 170 10 false "" "" 44])) 11 48 [Value.int IntKind.u64 (Int.ofNat 0), Value.int IntKind.u64 (Int.ofNat 0), Value.int IntKind.u32 (Int.ofNat 0), Value.int IntKind.u8 (Int.ofNat 0), Value.int IntKind.u8 (Int.ofNat 0), Value.int IntKind.u8 (Int.ofNat 0), Value.int IntKind.u8 (Int.ofNat 0), Value.nilFunc, Value.pointer none, Value.int IntKind.i32 (Int.ofNat 0), Value.int IntKind.i32 (Int.ofNat 0)] false),
  some (TI.mk (TypeDesc.struct (Array.mk [Field.mk "Size_" 12 0 false "" "" 0, Field.mk "PtrBytes" 12 1 false "" "" 8, Field.mk "Hash" 164 2 false "" "" 16, Field.mk "TFlag" 165 3 false "" "" 20, Field.mk "Align_" 5 4 false "" "" 21, Field.mk "FieldAlign_" 5 5 false "" "" 22, Field.mk "Kind_" 166 6 false "" "" 23, Field.mk "Equal" 167 7 false "" "" 24, Field.mk "GCData" 168 8 false "" "" 32, Field.mk "Str" 169 9 false "" "" 40, Field.mk "PtrToThis" 170 10 false "" "" 44])) 11 48 [Value.int IntKind.u64 (Int.ofNat 0), Value.int IntKind.u64 (Int.ofNat 0), Value.int IntKind.u32 (Int.ofNat 0), Value.int IntKind.u8 (Int.ofNat 0), Value.int IntKind.u8 (Int.ofNat 0), Value.int IntKind.u8 (Int.ofNat 0), Value.int IntKind.u8 (Int.ofNat 0), Value.nilFunc, Value.pointer none, Value.int IntKind.i32 (Int.ofNat 0), Value.int IntKind.i32 (Int.ofNat 0)] false),
  some (TI.mk TypeDesc.unsafePointer 1 8 [Value.pointer none] true)]
theorem tys_eq : tys = (List.range 174).map (tab Try.prog) := by kernel_rfl
def T : Ti := ofTab tys
theorem tok : TOk Try.prog T := ofTab_ok tys_eq
theorem mixed : Try.prog.follows .mixedOrders = true := by kernel_rfl
theorem en6 : Enters Try.prog 6 := fun args w => Go.Proofs.enters_of Try.func6 (by kernel_rfl) rfl args w
theorem en7 : Enters Try.prog 7 := fun args w => Go.Proofs.enters_of Try.func7 (by kernel_rfl) rfl args w
theorem en9 : Enters Try.prog 9 := fun args w => Go.Proofs.enters_of Try.func9 (by kernel_rfl) rfl args w
theorem en10 : Enters Try.prog 10 := fun args w => Go.Proofs.enters_of Try.func10 (by kernel_rfl) rfl args w
theorem en11 : Enters Try.prog 11 := fun args w => Go.Proofs.enters_of Try.func11 (by kernel_rfl) rfl args w
theorem en14 : Enters Try.prog 14 := fun args w => Go.Proofs.enters_of Try.func14 (by kernel_rfl) rfl args w
theorem en27 : Enters Try.prog 27 := fun args w => Go.Proofs.enters_of Try.func27 (by kernel_rfl) rfl args w
theorem en28 : Enters Try.prog 28 := fun args w => Go.Proofs.enters_of Try.func28 (by kernel_rfl) rfl args w
theorem en29 : Enters Try.prog 29 := fun args w => Go.Proofs.enters_of Try.func29 (by kernel_rfl) rfl args w
theorem en30 : Enters Try.prog 30 := fun args w => Go.Proofs.enters_of Try.func30 (by kernel_rfl) rfl args w
theorem en31 : Enters Try.prog 31 := fun args w => Go.Proofs.enters_of Try.func31 (by kernel_rfl) rfl args w
theorem en32 : Enters Try.prog 32 := fun args w => Go.Proofs.enters_of Try.func32 (by kernel_rfl) rfl args w
theorem en33 : Enters Try.prog 33 := fun args w => Go.Proofs.enters_of Try.func33 (by kernel_rfl) rfl args w
theorem en34 : Enters Try.prog 34 := fun args w => Go.Proofs.enters_of Try.func34 (by kernel_rfl) rfl args w
theorem en35 : Enters Try.prog 35 := fun args w => Go.Proofs.enters_of Try.func35 (by kernel_rfl) rfl args w
theorem en37 : Enters Try.prog 37 := fun args w => Go.Proofs.enters_of Try.func37 (by kernel_rfl) rfl args w
theorem en38 : Enters Try.prog 38 := fun args w => Go.Proofs.enters_of Try.func38 (by kernel_rfl) rfl args w
theorem en39 : Enters Try.prog 39 := fun args w => Go.Proofs.enters_of Try.func39 (by kernel_rfl) rfl args w
theorem en41 : Enters Try.prog 41 := fun args w => Go.Proofs.enters_of Try.func41 (by kernel_rfl) rfl args w
theorem en47 : Enters Try.prog 47 := fun args w => Go.Proofs.enters_of Try.func47 (by kernel_rfl) rfl args w
theorem en48 : Enters Try.prog 48 := fun args w => Go.Proofs.enters_of Try.func48 (by kernel_rfl) rfl args w
theorem en55 : Enters Try.prog 55 := fun args w => Go.Proofs.enters_of Try.func55 (by kernel_rfl) rfl args w
theorem en61 : Enters Try.prog 61 := fun args w => Go.Proofs.enters_of Try.func61 (by kernel_rfl) rfl args w
theorem en62 : Enters Try.prog 62 := fun args w => Go.Proofs.enters_of Try.func62 (by kernel_rfl) rfl args w
theorem en63 : Enters Try.prog 63 := fun args w => Go.Proofs.enters_of Try.func63 (by kernel_rfl) rfl args w
theorem en64 : Enters Try.prog 64 := fun args w => Go.Proofs.enters_of Try.func64 (by kernel_rfl) rfl args w
theorem en65 : Enters Try.prog 65 := fun args w => Go.Proofs.enters_of Try.func65 (by kernel_rfl) rfl args w
theorem en66 : Enters Try.prog 66 := fun args w => Go.Proofs.enters_of Try.func66 (by kernel_rfl) rfl args w
theorem en67 : Enters Try.prog 67 := fun args w => Go.Proofs.enters_of Try.func67 (by kernel_rfl) rfl args w
theorem en68 : Enters Try.prog 68 := fun args w => Go.Proofs.enters_of Try.func68 (by kernel_rfl) rfl args w
theorem en70 : Enters Try.prog 70 := fun args w => Go.Proofs.enters_of Try.func70 (by kernel_rfl) rfl args w
theorem en71 : Enters Try.prog 71 := fun args w => Go.Proofs.enters_of Try.func71 (by kernel_rfl) rfl args w
theorem en72 : Enters Try.prog 72 := fun args w => Go.Proofs.enters_of Try.func72 (by kernel_rfl) rfl args w
theorem en73 : Enters Try.prog 73 := fun args w => Go.Proofs.enters_of Try.func73 (by kernel_rfl) rfl args w
theorem en74 : Enters Try.prog 74 := fun args w => Go.Proofs.enters_of Try.func74 (by kernel_rfl) rfl args w
theorem en75 : Enters Try.prog 75 := fun args w => Go.Proofs.enters_of Try.func75 (by kernel_rfl) rfl args w
theorem en76 : Enters Try.prog 76 := fun args w => Go.Proofs.enters_of Try.func76 (by kernel_rfl) rfl args w
theorem en77 : Enters Try.prog 77 := fun args w => Go.Proofs.enters_of Try.func77 (by kernel_rfl) rfl args w
theorem en91 : Enters Try.prog 91 := fun args w => Go.Proofs.enters_of Try.func91 (by kernel_rfl) rfl args w
theorem en92 : Enters Try.prog 92 := fun args w => Go.Proofs.enters_of Try.func92 (by kernel_rfl) rfl args w
theorem en93 : Enters Try.prog 93 := fun args w => Go.Proofs.enters_of Try.func93 (by kernel_rfl) rfl args w
theorem en97 : Enters Try.prog 97 := fun args w => Go.Proofs.enters_of Try.func97 (by kernel_rfl) rfl args w
end Go.Fz
