/- Own work of the verifier of watercress: FzP. -/
import Derived.Shelf.Abstract
import Derived.Test.YtpefamheopplnaaProg
import Derived.Test.YtpefamheopplnaaMm5
set_option linter.unusedVariables false
set_option linter.unusedSimpArgs false
namespace Go.Fz
open Go.Proofs
def tys : List (Option TI) :=
 [some (TI.mk (TypeDesc.tuple (Array.mk [])) 1 0 [Value.tuple (Array.mk [])] true),
  some (TI.mk (TypeDesc.func (Array.mk []) (Array.mk []) false) 1 8 [Value.nilFunc] true),
  some (TI.mk (TypeDesc.int IntKind.i64) 1 8 [Value.int IntKind.i64 (Int.ofNat 0)] true),
  some (TI.mk (TypeDesc.int IntKind.i64) 1 8 [Value.int IntKind.i64 (Int.ofNat 0)] true),
  some (TI.mk TypeDesc.bool 1 1 [Value.bool false] true),
  some (TI.mk (TypeDesc.int IntKind.u8) 1 1 [Value.int IntKind.u8 (Int.ofNat 0)] true),
  some (TI.mk (TypeDesc.int IntKind.u8) 1 1 [Value.int IntKind.u8 (Int.ofNat 0)] true),
  some (TI.mk (TypeDesc.struct (Array.mk [Field.mk "x" 2 0 false "" "runtime" 0, Field.mk "y" 3 1 false "" "runtime" 8, Field.mk "signed" 4 2 false "" "runtime" 16, Field.mk "code" 6 3 false "" "runtime" 17])) 4 24 [Value.int IntKind.i64 (Int.ofNat 0), Value.int IntKind.i64 (Int.ofNat 0), Value.bool false, Value.int IntKind.u8 (Int.ofNat 0)] true),
  some (TI.mk (TypeDesc.struct (Array.mk [Field.mk "x" 2 0 false "" "runtime" 0, Field.mk "y" 3 1 false "" "runtime" 8, Field.mk "signed" 4 2 false "" "runtime" 16, Field.mk "code" 6 3 false "" "runtime" 17])) 4 24 [Value.int IntKind.i64 (Int.ofNat 0), Value.int IntKind.i64 (Int.ofNat 0), Value.bool false, Value.int IntKind.u8 (Int.ofNat 0)] true),
  some (TI.mk TypeDesc.string 1 16 [Value.string (ByteArray.mk (Array.mk []))] true),
  some (TI.mk TypeDesc.string 1 16 [Value.string (ByteArray.mk (Array.mk []))] true),
  some (TI.mk TypeDesc.string 1 16 [Value.string (ByteArray.mk (Array.mk []))] true),
  some (TI.mk (TypeDesc.int IntKind.u64) 1 8 [Value.int IntKind.u64 (Int.ofNat 0)] true),
  some (TI.mk (TypeDesc.struct (Array.mk [Field.mk "msg" 9 0 false "" "runtime" 0, Field.mk "addr" 12 1 false "" "runtime" 16])) 2 24 [Value.string (ByteArray.mk (Array.mk [])), Value.int IntKind.u64 (Int.ofNat 0)] false),
  some (TI.mk (TypeDesc.struct (Array.mk [Field.mk "msg" 9 0 false "" "runtime" 0, Field.mk "addr" 12 1 false "" "runtime" 16])) 2 24 [Value.string (ByteArray.mk (Array.mk [])), Value.int IntKind.u64 (Int.ofNat 0)] false),
  some (TI.mk (TypeDesc.pointer 194) 1 8 [Value.pointer none] true),
  some (TI.mk (TypeDesc.pointer 197) 1 8 [Value.pointer none] true),
  some (TI.mk (TypeDesc.pointer 206) 1 8 [Value.pointer none] true),
  some (TI.mk (TypeDesc.struct (Array.mk [Field.mk "typ" 17 0 false "" "internal/runtime/maps" 0])) 1 8 [Value.pointer none] false),
  some (TI.mk (TypeDesc.struct (Array.mk [Field.mk "typ" 17 0 false "" "internal/runtime/maps" 0])) 1 8 [Value.pointer none] false),
  some (TI.mk (TypeDesc.interface (Array.mk [])) 1 16 [Value.nilIface] true),
  some (TI.mk (TypeDesc.int IntKind.i32) 1 4 [Value.int IntKind.i32 (Int.ofNat 0)] true),
  some (TI.mk (TypeDesc.slice 46) 1 24 [Value.slice none 0 0] true),
  some (TI.mk (TypeDesc.slice 102) 1 24 [Value.slice none 0 0] true),
  some (TI.mk (TypeDesc.slice 97) 1 24 [Value.slice none 0 0] true),
  some (TI.mk (TypeDesc.struct (Array.mk [Field.mk "Hand" 3 0 false "" "" 0, Field.mk "Flat" 3 1 false "" "" 8, Field.mk "Women" 22 2 false "" "" 16, Field.mk "Lots" 23 3 false "" "" 40, Field.mk "Counts" 24 4 false "" "" 64])) 5 88 [Value.int IntKind.i64 (Int.ofNat 0), Value.int IntKind.i64 (Int.ofNat 0), Value.slice none 0 0, Value.slice none 0 0, Value.slice none 0 0] true),
  some (TI.mk (TypeDesc.struct (Array.mk [Field.mk "Hand" 3 0 false "" "" 0, Field.mk "Flat" 3 1 false "" "" 8, Field.mk "Women" 22 2 false "" "" 16, Field.mk "Lots" 23 3 false "" "" 40, Field.mk "Counts" 24 4 false "" "" 64])) 5 88 [Value.int IntKind.i64 (Int.ofNat 0), Value.int IntKind.i64 (Int.ofNat 0), Value.slice none 0 0, Value.slice none 0 0, Value.slice none 0 0] true),
  some (TI.mk (TypeDesc.func (Array.mk [26]) (Array.mk [4]) false) 1 8 [Value.nilFunc] true),
  some (TI.mk (TypeDesc.func (Array.mk []) (Array.mk [4]) false) 1 8 [Value.nilFunc] true),
  some (TI.mk (TypeDesc.slice 31) 1 24 [Value.slice none 0 0] true),
  some (TI.mk (TypeDesc.struct (Array.mk [Field.mk "Lo" 3 0 false "" "" 0, Field.mk "Hi" 3 1 false "" "" 8])) 2 16 [Value.int IntKind.i64 (Int.ofNat 0), Value.int IntKind.i64 (Int.ofNat 0)] true),
  some (TI.mk (TypeDesc.struct (Array.mk [Field.mk "Lo" 3 0 false "" "" 0, Field.mk "Hi" 3 1 false "" "" 8])) 2 16 [Value.int IntKind.i64 (Int.ofNat 0), Value.int IntKind.i64 (Int.ofNat 0)] true),
  some (TI.mk (TypeDesc.struct (Array.mk [Field.mk "Feel" 29 0 false "" "" 0, Field.mk "Bunches" 29 1 false "" "" 24, Field.mk "Left" 29 2 false "" "" 48, Field.mk "Hands" 31 3 false "" "" 72, Field.mk "Loose" 31 5 false "" "" 88, Field.mk "Flats" 31 7 false "" "" 104, Field.mk "Spare" 31 9 false "" "" 120])) 11 136 [Value.slice none 0 0, Value.slice none 0 0, Value.slice none 0 0, Value.int IntKind.i64 (Int.ofNat 0), Value.int IntKind.i64 (Int.ofNat 0), Value.int IntKind.i64 (Int.ofNat 0), Value.int IntKind.i64 (Int.ofNat 0), Value.int IntKind.i64 (Int.ofNat 0), Value.int IntKind.i64 (Int.ofNat 0), Value.int IntKind.i64 (Int.ofNat 0), Value.int IntKind.i64 (Int.ofNat 0)] true),
  some (TI.mk (TypeDesc.struct (Array.mk [Field.mk "Feel" 29 0 false "" "" 0, Field.mk "Bunches" 29 1 false "" "" 24, Field.mk "Left" 29 2 false "" "" 48, Field.mk "Hands" 31 3 false "" "" 72, Field.mk "Loose" 31 5 false "" "" 88, Field.mk "Flats" 31 7 false "" "" 104, Field.mk "Spare" 31 9 false "" "" 120])) 11 136 [Value.slice none 0 0, Value.slice none 0 0, Value.slice none 0 0, Value.int IntKind.i64 (Int.ofNat 0), Value.int IntKind.i64 (Int.ofNat 0), Value.int IntKind.i64 (Int.ofNat 0), Value.int IntKind.i64 (Int.ofNat 0), Value.int IntKind.i64 (Int.ofNat 0), Value.int IntKind.i64 (Int.ofNat 0), Value.int IntKind.i64 (Int.ofNat 0), Value.int IntKind.i64 (Int.ofNat 0)] true),
  some (TI.mk (TypeDesc.int IntKind.i64) 1 8 [Value.int IntKind.i64 (Int.ofNat 0)] true),
  some (TI.mk (TypeDesc.tuple (Array.mk [33, 34])) 1 0 [Value.tuple (Array.mk [Value.agg (Array.mk [Value.slice none 0 0, Value.slice none 0 0, Value.slice none 0 0, Value.int IntKind.i64 (Int.ofNat 0), Value.int IntKind.i64 (Int.ofNat 0), Value.int IntKind.i64 (Int.ofNat 0), Value.int IntKind.i64 (Int.ofNat 0), Value.int IntKind.i64 (Int.ofNat 0), Value.int IntKind.i64 (Int.ofNat 0), Value.int IntKind.i64 (Int.ofNat 0), Value.int IntKind.i64 (Int.ofNat 0)]), Value.int IntKind.i64 (Int.ofNat 0)])] true),
  some (TI.mk (TypeDesc.func (Array.mk [40]) (Array.mk [33, 34]) false) 1 8 [Value.nilFunc] true),
  some (TI.mk (TypeDesc.slice 77) 1 24 [Value.slice none 0 0] true),
  some (TI.mk (TypeDesc.slice 79) 1 24 [Value.slice none 0 0] true),
  some (TI.mk (TypeDesc.struct (Array.mk [Field.mk "Hand" 3 0 false "" "" 0, Field.mk "Flat" 3 1 false "" "" 8, Field.mk "Women" 29 2 false "" "" 16, Field.mk "Lots" 37 3 false "" "" 40, Field.mk "Counts" 38 4 false "" "" 64])) 5 88 [Value.int IntKind.i64 (Int.ofNat 0), Value.int IntKind.i64 (Int.ofNat 0), Value.slice none 0 0, Value.slice none 0 0, Value.slice none 0 0] true),
  some (TI.mk (TypeDesc.struct (Array.mk [Field.mk "Hand" 3 0 false "" "" 0, Field.mk "Flat" 3 1 false "" "" 8, Field.mk "Women" 29 2 false "" "" 16, Field.mk "Lots" 37 3 false "" "" 40, Field.mk "Counts" 38 4 false "" "" 64])) 5 88 [Value.int IntKind.i64 (Int.ofNat 0), Value.int IntKind.i64 (Int.ofNat 0), Value.slice none 0 0, Value.slice none 0 0, Value.slice none 0 0] true),
  some (TI.mk (TypeDesc.func (Array.mk [26]) (Array.mk [40]) false) 1 8 [Value.nilFunc] true),
  some (TI.mk (TypeDesc.slice 83) 1 24 [Value.slice none 0 0] true),
  some (TI.mk (TypeDesc.tuple (Array.mk [42, 34])) 1 0 [Value.tuple (Array.mk [Value.slice none 0 0, Value.int IntKind.i64 (Int.ofNat 0)])] true),
  some (TI.mk (TypeDesc.func (Array.mk [26]) (Array.mk [42, 34]) false) 1 8 [Value.nilFunc] true),
  some (TI.mk (TypeDesc.func (Array.mk [33, 48]) (Array.mk [4]) false) 1 8 [Value.nilFunc] true),
  some (TI.mk (TypeDesc.struct (Array.mk [Field.mk "Lo" 3 0 false "" "" 0, Field.mk "Hi" 3 1 false "" "" 8])) 2 16 [Value.int IntKind.i64 (Int.ofNat 0), Value.int IntKind.i64 (Int.ofNat 0)] true),
  some (TI.mk (TypeDesc.struct (Array.mk [Field.mk "Feel" 22 0 false "" "" 0, Field.mk "Bunches" 22 1 false "" "" 24, Field.mk "Left" 22 2 false "" "" 48, Field.mk "Hands" 46 3 false "" "" 72, Field.mk "Loose" 46 5 false "" "" 88, Field.mk "Flats" 46 7 false "" "" 104, Field.mk "Spare" 46 9 false "" "" 120])) 11 136 [Value.slice none 0 0, Value.slice none 0 0, Value.slice none 0 0, Value.int IntKind.i64 (Int.ofNat 0), Value.int IntKind.i64 (Int.ofNat 0), Value.int IntKind.i64 (Int.ofNat 0), Value.int IntKind.i64 (Int.ofNat 0), Value.int IntKind.i64 (Int.ofNat 0), Value.int IntKind.i64 (Int.ofNat 0), Value.int IntKind.i64 (Int.ofNat 0), Value.int IntKind.i64 (Int.ofNat 0)] true),
  some (TI.mk (TypeDesc.struct (Array.mk [Field.mk "Feel" 22 0 false "" "" 0, Field.mk "Bunches" 22 1 false "" "" 24, Field.mk "Left" 22 2 false "" "" 48, Field.mk "Hands" 46 3 false "" "" 72, Field.mk "Loose" 46 5 false "" "" 88, Field.mk "Flats" 46 7 false "" "" 104, Field.mk "Spare" 46 9 false "" "" 120])) 11 136 [Value.slice none 0 0, Value.slice none 0 0, Value.slice none 0 0, Value.int IntKind.i64 (Int.ofNat 0), Value.int IntKind.i64 (Int.ofNat 0), Value.int IntKind.i64 (Int.ofNat 0), Value.int IntKind.i64 (Int.ofNat 0), Value.int IntKind.i64 (Int.ofNat 0), Value.int IntKind.i64 (Int.ofNat 0), Value.int IntKind.i64 (Int.ofNat 0), Value.int IntKind.i64 (Int.ofNat 0)] true),
  some (TI.mk (TypeDesc.func (Array.mk [26, 42]) (Array.mk [48]) false) 1 8 [Value.nilFunc] true),
  some (TI.mk (TypeDesc.tuple (Array.mk [3, 34])) 1 0 [Value.tuple (Array.mk [Value.int IntKind.i64 (Int.ofNat 0), Value.int IntKind.i64 (Int.ofNat 0)])] true),
  some (TI.mk (TypeDesc.func (Array.mk [40, 3, 3]) (Array.mk [3, 34]) false) 1 8 [Value.nilFunc] true),
  some (TI.mk (TypeDesc.func (Array.mk [26]) (Array.mk [34]) false) 1 8 [Value.nilFunc] true),
  some (TI.mk (TypeDesc.func (Array.mk [3, 3, 3]) (Array.mk [4]) false) 1 8 [Value.nilFunc] true),
  some (TI.mk (TypeDesc.func (Array.mk [42, 3, 3]) (Array.mk [3]) false) 1 8 [Value.nilFunc] true),
  some (TI.mk (TypeDesc.func (Array.mk [26, 3, 3]) (Array.mk [4]) false) 1 8 [Value.nilFunc] true),
  some (TI.mk (TypeDesc.slice 3) 1 24 [Value.slice none 0 0] true),
  some (TI.mk (TypeDesc.tuple (Array.mk [56, 34])) 1 0 [Value.tuple (Array.mk [Value.slice none 0 0, Value.int IntKind.i64 (Int.ofNat 0)])] true),
  some (TI.mk (TypeDesc.func (Array.mk [40]) (Array.mk [56, 34]) false) 1 8 [Value.nilFunc] true),
  some (TI.mk (TypeDesc.tuple (Array.mk [56, 4])) 1 0 [Value.tuple (Array.mk [Value.slice none 0 0, Value.bool false])] true),
  some (TI.mk (TypeDesc.func (Array.mk [26, 42]) (Array.mk [56, 4]) false) 1 8 [Value.nilFunc] true),
  some (TI.mk (TypeDesc.func (Array.mk [56, 56]) (Array.mk [4]) false) 1 8 [Value.nilFunc] true),
  some (TI.mk (TypeDesc.func (Array.mk [40]) (Array.mk [3, 34]) false) 1 8 [Value.nilFunc] true),
  some (TI.mk (TypeDesc.func (Array.mk [26]) (Array.mk [56]) false) 1 8 [Value.nilFunc] true),
  some (TI.mk (TypeDesc.func (Array.mk [26, 56]) (Array.mk [56]) false) 1 8 [Value.nilFunc] true),
  some (TI.mk (TypeDesc.func (Array.mk [26, 56]) (Array.mk [3]) false) 1 8 [Value.nilFunc] true),
  some (TI.mk (TypeDesc.func (Array.mk [3]) (Array.mk [40]) false) 1 8 [Value.nilFunc] true),
  some (TI.mk (TypeDesc.func (Array.mk [29, 22]) (Array.mk [4]) false) 1 8 [Value.nilFunc] true),
  some (TI.mk (TypeDesc.func (Array.mk [3, 3]) (Array.mk [31]) false) 1 8 [Value.nilFunc] true),
  some (TI.mk (TypeDesc.func (Array.mk [40, 71]) (Array.mk [4]) false) 1 8 [Value.nilFunc] true),
  some (TI.mk (TypeDesc.struct (Array.mk [Field.mk "Feels" 56 0 false "" "" 0, Field.mk "Stems" 56 1 false "" "" 24])) 2 48 [Value.slice none 0 0, Value.slice none 0 0] true),
  some (TI.mk (TypeDesc.struct (Array.mk [Field.mk "Feels" 56 0 false "" "" 0, Field.mk "Stems" 56 1 false "" "" 24])) 2 48 [Value.slice none 0 0, Value.slice none 0 0] true),
  some (TI.mk (TypeDesc.struct (Array.mk [Field.mk "Bunches" 56 0 false "" "" 0, Field.mk "Left" 56 1 false "" "" 24, Field.mk "Hands" 3 2 false "" "" 48, Field.mk "Loose" 3 3 false "" "" 56, Field.mk "Flats" 3 4 false "" "" 64, Field.mk "Spare" 3 5 false "" "" 72])) 6 80 [Value.slice none 0 0, Value.slice none 0 0, Value.int IntKind.i64 (Int.ofNat 0), Value.int IntKind.i64 (Int.ofNat 0), Value.int IntKind.i64 (Int.ofNat 0), Value.int IntKind.i64 (Int.ofNat 0)] true),
  some (TI.mk (TypeDesc.struct (Array.mk [Field.mk "Bunches" 56 0 false "" "" 0, Field.mk "Left" 56 1 false "" "" 24, Field.mk "Hands" 3 2 false "" "" 48, Field.mk "Loose" 3 3 false "" "" 56, Field.mk "Flats" 3 4 false "" "" 64, Field.mk "Spare" 3 5 false "" "" 72])) 6 80 [Value.slice none 0 0, Value.slice none 0 0, Value.int IntKind.i64 (Int.ofNat 0), Value.int IntKind.i64 (Int.ofNat 0), Value.int IntKind.i64 (Int.ofNat 0), Value.int IntKind.i64 (Int.ofNat 0)] true),
  some (TI.mk (TypeDesc.tuple (Array.mk [73, 34])) 1 0 [Value.tuple (Array.mk [Value.agg (Array.mk [Value.slice none 0 0, Value.slice none 0 0, Value.int IntKind.i64 (Int.ofNat 0), Value.int IntKind.i64 (Int.ofNat 0), Value.int IntKind.i64 (Int.ofNat 0), Value.int IntKind.i64 (Int.ofNat 0)]), Value.int IntKind.i64 (Int.ofNat 0)])] true),
  some (TI.mk (TypeDesc.func (Array.mk [40, 71]) (Array.mk [73, 34]) false) 1 8 [Value.nilFunc] true),
  some (TI.mk (TypeDesc.struct (Array.mk [Field.mk "Woman" 3 0 false "" "" 0, Field.mk "Stems" 31 1 false "" "" 8])) 3 24 [Value.int IntKind.i64 (Int.ofNat 0), Value.int IntKind.i64 (Int.ofNat 0), Value.int IntKind.i64 (Int.ofNat 0)] true),
  some (TI.mk (TypeDesc.struct (Array.mk [Field.mk "Woman" 3 0 false "" "" 0, Field.mk "Stems" 31 1 false "" "" 8])) 3 24 [Value.int IntKind.i64 (Int.ofNat 0), Value.int IntKind.i64 (Int.ofNat 0), Value.int IntKind.i64 (Int.ofNat 0)] true),
  some (TI.mk (TypeDesc.struct (Array.mk [Field.mk "Kind" 3 0 false "" "" 0, Field.mk "Woman" 3 1 false "" "" 8, Field.mk "Number" 31 2 false "" "" 16])) 4 32 [Value.int IntKind.i64 (Int.ofNat 0), Value.int IntKind.i64 (Int.ofNat 0), Value.int IntKind.i64 (Int.ofNat 0), Value.int IntKind.i64 (Int.ofNat 0)] true),
  some (TI.mk (TypeDesc.struct (Array.mk [Field.mk "Kind" 3 0 false "" "" 0, Field.mk "Woman" 3 1 false "" "" 8, Field.mk "Number" 31 2 false "" "" 16])) 4 32 [Value.int IntKind.i64 (Int.ofNat 0), Value.int IntKind.i64 (Int.ofNat 0), Value.int IntKind.i64 (Int.ofNat 0), Value.int IntKind.i64 (Int.ofNat 0)] true),
  some (TI.mk (TypeDesc.func (Array.mk [40]) (Array.mk [34]) false) 1 8 [Value.nilFunc] true),
  some (TI.mk (TypeDesc.int IntKind.u16) 1 2 [Value.int IntKind.u16 (Int.ofNat 0)] true),
  some (TI.mk (TypeDesc.slice 81) 1 24 [Value.slice none 0 0] true),
  some (TI.mk (TypeDesc.struct (Array.mk [Field.mk "Feels" 56 0 false "" "" 0, Field.mk "Stems" 56 1 false "" "" 24])) 2 48 [Value.slice none 0 0, Value.slice none 0 0] true),
  some (TI.mk (TypeDesc.tuple (Array.mk [26, 83])) 1 0 [Value.tuple (Array.mk [Value.agg (Array.mk [Value.int IntKind.i64 (Int.ofNat 0), Value.int IntKind.i64 (Int.ofNat 0), Value.slice none 0 0, Value.slice none 0 0, Value.slice none 0 0]), Value.agg (Array.mk [Value.slice none 0 0, Value.slice none 0 0])])] true),
  some (TI.mk (TypeDesc.func (Array.mk [26, 81, 82]) (Array.mk [26, 83]) false) 1 8 [Value.nilFunc] true),
  some (TI.mk (TypeDesc.func (Array.mk [83]) (Array.mk [71]) false) 1 8 [Value.nilFunc] true),
  some (TI.mk (TypeDesc.func (Array.mk [26, 83, 3]) (Array.mk [3]) false) 1 8 [Value.nilFunc] true),
  some (TI.mk (TypeDesc.func (Array.mk [3, 31]) (Array.mk [4]) false) 1 8 [Value.nilFunc] true),
  some (TI.mk (TypeDesc.func (Array.mk [26, 81, 82]) (Array.mk [4]) false) 1 8 [Value.nilFunc] true),
  some (TI.mk (TypeDesc.func (Array.mk [26]) (Array.mk [42]) false) 1 8 [Value.nilFunc] true),
  some (TI.mk (TypeDesc.struct (Array.mk [Field.mk "Bunches" 56 0 false "" "" 0, Field.mk "Left" 56 1 false "" "" 24, Field.mk "Hands" 3 2 false "" "" 48, Field.mk "Loose" 3 3 false "" "" 56, Field.mk "Flats" 3 4 false "" "" 64, Field.mk "Spare" 3 5 false "" "" 72])) 6 80 [Value.slice none 0 0, Value.slice none 0 0, Value.int IntKind.i64 (Int.ofNat 0), Value.int IntKind.i64 (Int.ofNat 0), Value.int IntKind.i64 (Int.ofNat 0), Value.int IntKind.i64 (Int.ofNat 0)] true),
  some (TI.mk (TypeDesc.func (Array.mk [26, 83]) (Array.mk [91]) false) 1 8 [Value.nilFunc] true),
  some (TI.mk (TypeDesc.array 10 4) 10 10 [Value.bool false, Value.bool false, Value.bool false, Value.bool false, Value.bool false, Value.bool false, Value.bool false, Value.bool false, Value.bool false, Value.bool false] true),
  some (TI.mk (TypeDesc.int IntKind.u64) 1 8 [Value.int IntKind.u64 (Int.ofNat 0)] true),
  some (TI.mk (TypeDesc.func (Array.mk [26, 5, 5]) (Array.mk [4]) false) 1 8 [Value.nilFunc] true),
  some (TI.mk (TypeDesc.struct (Array.mk [Field.mk "Kind" 3 0 false "" "" 0, Field.mk "Woman" 3 1 false "" "" 8, Field.mk "Number" 46 2 false "" "" 16])) 4 32 [Value.int IntKind.i64 (Int.ofNat 0), Value.int IntKind.i64 (Int.ofNat 0), Value.int IntKind.i64 (Int.ofNat 0), Value.int IntKind.i64 (Int.ofNat 0)] true),
  some (TI.mk (TypeDesc.struct (Array.mk [Field.mk "Kind" 3 0 false "" "" 0, Field.mk "Woman" 3 1 false "" "" 8, Field.mk "Number" 46 2 false "" "" 16])) 4 32 [Value.int IntKind.i64 (Int.ofNat 0), Value.int IntKind.i64 (Int.ofNat 0), Value.int IntKind.i64 (Int.ofNat 0), Value.int IntKind.i64 (Int.ofNat 0)] true),
  some (TI.mk (TypeDesc.func (Array.mk [33, 33]) (Array.mk [4]) false) 1 8 [Value.nilFunc] true),
  some (TI.mk (TypeDesc.func (Array.mk [26, 97, 5, 5]) (Array.mk [4]) false) 1 8 [Value.nilFunc] true),
  some (TI.mk (TypeDesc.pointer 46) 1 8 [Value.pointer none] true),
  some (TI.mk (TypeDesc.struct (Array.mk [Field.mk "Woman" 3 0 false "" "" 0, Field.mk "Stems" 46 1 false "" "" 8])) 3 24 [Value.int IntKind.i64 (Int.ofNat 0), Value.int IntKind.i64 (Int.ofNat 0), Value.int IntKind.i64 (Int.ofNat 0)] true),
  some (TI.mk (TypeDesc.struct (Array.mk [Field.mk "Woman" 3 0 false "" "" 0, Field.mk "Stems" 46 1 false "" "" 8])) 3 24 [Value.int IntKind.i64 (Int.ofNat 0), Value.int IntKind.i64 (Int.ofNat 0), Value.int IntKind.i64 (Int.ofNat 0)] true),
  some (TI.mk (TypeDesc.func (Array.mk [26, 42, 3]) (Array.mk [4]) false) 1 8 [Value.nilFunc] true),
  some (TI.mk (TypeDesc.func (Array.mk [3]) (Array.mk [56]) false) 1 8 [Value.nilFunc] true),
  some (TI.mk (TypeDesc.func (Array.mk [26, 81, 5]) (Array.mk [4]) false) 1 8 [Value.nilFunc] true),
  some (TI.mk (TypeDesc.func (Array.mk [26, 3]) (Array.mk [26]) false) 1 8 [Value.nilFunc] true),
  some (TI.mk (TypeDesc.func (Array.mk [26]) (Array.mk [3]) false) 1 8 [Value.nilFunc] true),
  some (TI.mk (TypeDesc.func (Array.mk [26, 5]) (Array.mk [4]) false) 1 8 [Value.nilFunc] true),
  some (TI.mk (TypeDesc.func (Array.mk [26, 5, 5, 5]) (Array.mk [4]) false) 1 8 [Value.nilFunc] true),
  some (TI.mk (TypeDesc.func (Array.mk [73, 91]) (Array.mk [4]) false) 1 8 [Value.nilFunc] true),
  some (TI.mk (TypeDesc.slice 131) 1 24 [Value.slice none 0 0] true),
  some (TI.mk (TypeDesc.map 145 4) 1 8 [Value.map none] true),
  some (TI.mk (TypeDesc.struct (Array.mk [Field.mk "Day" 40 0 true "" "" 0, Field.mk "outcomes" 111 5 false "" "watercress/bunch" 88, Field.mk "wrong" 112 6 false "" "watercress/bunch" 112])) 7 120 [Value.int IntKind.i64 (Int.ofNat 0), Value.int IntKind.i64 (Int.ofNat 0), Value.slice none 0 0, Value.slice none 0 0, Value.slice none 0 0, Value.slice none 0 0, Value.map none] true),
  some (TI.mk (TypeDesc.struct (Array.mk [Field.mk "Day" 40 0 true "" "" 0, Field.mk "outcomes" 111 5 false "" "watercress/bunch" 88, Field.mk "wrong" 112 6 false "" "watercress/bunch" 112])) 7 120 [Value.int IntKind.i64 (Int.ofNat 0), Value.int IntKind.i64 (Int.ofNat 0), Value.slice none 0 0, Value.slice none 0 0, Value.slice none 0 0, Value.slice none 0 0, Value.map none] true),
  some (TI.mk (TypeDesc.tuple (Array.mk [114, 34])) 1 0 [Value.tuple (Array.mk [Value.agg (Array.mk [Value.int IntKind.i64 (Int.ofNat 0), Value.int IntKind.i64 (Int.ofNat 0), Value.slice none 0 0, Value.slice none 0 0, Value.slice none 0 0, Value.slice none 0 0, Value.map none]), Value.int IntKind.i64 (Int.ofNat 0)])] true),
  some (TI.mk (TypeDesc.func (Array.mk [40, 4]) (Array.mk [114, 34]) false) 1 8 [Value.nilFunc] true),
  some (TI.mk (TypeDesc.map 121 4) 1 8 [Value.map none] true),
  some (TI.mk (TypeDesc.func (Array.mk [3]) (Array.mk [117]) false) 1 8 [Value.nilFunc] true),
  some (TI.mk (TypeDesc.func (Array.mk [123, 125]) (Array.mk [31]) false) 1 8 [Value.nilFunc] true),
  some (TI.mk (TypeDesc.struct (Array.mk [Field.mk "feel" 3 0 false "" "watercress/bunch" 0, Field.mk "stems" 3 1 false "" "watercress/bunch" 8])) 2 16 [Value.int IntKind.i64 (Int.ofNat 0), Value.int IntKind.i64 (Int.ofNat 0)] true),
  some (TI.mk (TypeDesc.struct (Array.mk [Field.mk "feel" 3 0 false "" "watercress/bunch" 0, Field.mk "stems" 3 1 false "" "watercress/bunch" 8])) 2 16 [Value.int IntKind.i64 (Int.ofNat 0), Value.int IntKind.i64 (Int.ofNat 0)] true),
  some (TI.mk (TypeDesc.func (Array.mk [162]) (Array.mk []) false) 1 8 [Value.nilFunc] true),
  some (TI.mk (TypeDesc.func (Array.mk [162]) (Array.mk []) false) 1 8 [Value.nilFunc] true),
  some (TI.mk (TypeDesc.func (Array.mk [117]) (Array.mk [123]) false) 1 8 [Value.nilFunc] true),
  some (TI.mk (TypeDesc.func (Array.mk [121]) (Array.mk [3]) false) 1 8 [Value.nilFunc] true),
  some (TI.mk (TypeDesc.func (Array.mk []) (Array.mk [3]) false) 1 8 [Value.nilFunc] true),
  some (TI.mk (TypeDesc.func (Array.mk [163]) (Array.mk []) false) 1 8 [Value.nilFunc] true),
  some (TI.mk (TypeDesc.func (Array.mk [163]) (Array.mk []) false) 1 8 [Value.nilFunc] true),
  some (TI.mk (TypeDesc.func (Array.mk [111]) (Array.mk [128]) false) 1 8 [Value.nilFunc] true),
  some (TI.mk (TypeDesc.struct (Array.mk [Field.mk "Truth" 71 0 true "" "" 0, Field.mk "Tally" 73 2 true "" "" 48])) 8 128 [Value.slice none 0 0, Value.slice none 0 0, Value.slice none 0 0, Value.slice none 0 0, Value.int IntKind.i64 (Int.ofNat 0), Value.int IntKind.i64 (Int.ofNat 0), Value.int IntKind.i64 (Int.ofNat 0), Value.int IntKind.i64 (Int.ofNat 0)] true),
  some (TI.mk (TypeDesc.struct (Array.mk [Field.mk "Truth" 71 0 true "" "" 0, Field.mk "Tally" 73 2 true "" "" 48])) 8 128 [Value.slice none 0 0, Value.slice none 0 0, Value.slice none 0 0, Value.slice none 0 0, Value.int IntKind.i64 (Int.ofNat 0), Value.int IntKind.i64 (Int.ofNat 0), Value.int IntKind.i64 (Int.ofNat 0), Value.int IntKind.i64 (Int.ofNat 0)] true),
  some (TI.mk (TypeDesc.func (Array.mk [128, 133]) (Array.mk [31]) false) 1 8 [Value.nilFunc] true),
  some (TI.mk (TypeDesc.func (Array.mk [131]) (Array.mk [3]) false) 1 8 [Value.nilFunc] true),
  some (TI.mk (TypeDesc.func (Array.mk [46]) (Array.mk [31]) false) 1 8 [Value.nilFunc] true),
  some (TI.mk (TypeDesc.func (Array.mk []) (Array.mk [46]) false) 1 8 [Value.nilFunc] true),
  some (TI.mk (TypeDesc.func (Array.mk [46, 3]) (Array.mk [46]) false) 1 8 [Value.nilFunc] true),
  some (TI.mk (TypeDesc.func (Array.mk [3]) (Array.mk [4]) false) 1 8 [Value.nilFunc] true),
  some (TI.mk (TypeDesc.map 4 4) 1 8 [Value.map none] true),
  some (TI.mk (TypeDesc.func (Array.mk [142]) (Array.mk []) false) 1 8 [Value.nilFunc] true),
  some (TI.mk (TypeDesc.func (Array.mk [142]) (Array.mk []) false) 1 8 [Value.nilFunc] true),
  some (TI.mk (TypeDesc.func (Array.mk [3]) (Array.mk [140]) false) 1 8 [Value.nilFunc] true),
  some (TI.mk (TypeDesc.func (Array.mk [56]) (Array.mk [4]) false) 1 8 [Value.nilFunc] true),
  some (TI.mk (TypeDesc.func (Array.mk [40]) (Array.mk [114]) false) 1 8 [Value.nilFunc] true),
  some (TI.mk (TypeDesc.array 5 4) 5 5 [Value.bool false, Value.bool false, Value.bool false, Value.bool false, Value.bool false] true),
  some (TI.mk (TypeDesc.array 5 4) 5 5 [Value.bool false, Value.bool false, Value.bool false, Value.bool false, Value.bool false] true),
  some (TI.mk (TypeDesc.func (Array.mk [26, 3]) (Array.mk [83]) false) 1 8 [Value.nilFunc] true),
  some (TI.mk (TypeDesc.func (Array.mk [91, 97]) (Array.mk [4]) false) 1 8 [Value.nilFunc] true),
  some (TI.mk (TypeDesc.func (Array.mk [56, 3]) (Array.mk [4]) false) 1 8 [Value.nilFunc] true),
  some (TI.mk (TypeDesc.func (Array.mk [71]) (Array.mk [4]) false) 1 8 [Value.nilFunc] true),
  some (TI.mk (TypeDesc.func (Array.mk [73]) (Array.mk [145]) false) 1 8 [Value.nilFunc] true),
  some (TI.mk (TypeDesc.func (Array.mk [71]) (Array.mk [73]) false) 1 8 [Value.nilFunc] true),
  some (TI.mk (TypeDesc.func (Array.mk [82, 3]) (Array.mk [3]) false) 1 8 [Value.nilFunc] true),
  some (TI.mk (TypeDesc.func (Array.mk [91, 97]) (Array.mk [3]) false) 1 8 [Value.nilFunc] true),
  some (TI.mk (TypeDesc.func (Array.mk [56]) (Array.mk [56]) false) 1 8 [Value.nilFunc] true),
  some (TI.mk (TypeDesc.func (Array.mk [31, 31]) (Array.mk [4]) false) 1 8 [Value.nilFunc] true),
  some (TI.mk (TypeDesc.func (Array.mk [46, 3, 3]) (Array.mk [4]) false) 1 8 [Value.nilFunc] true),
  some (TI.mk (TypeDesc.func (Array.mk [26, 97]) (Array.mk [4]) false) 1 8 [Value.nilFunc] true),
  some (TI.mk (TypeDesc.func (Array.mk [46]) (Array.mk [3]) false) 1 8 [Value.nilFunc] true),
  some (TI.mk (TypeDesc.func (Array.mk [71, 3]) (Array.mk [121]) false) 1 8 [Value.nilFunc] true),
  some (TI.mk (TypeDesc.func (Array.mk [3, 56]) (Array.mk [3]) true) 1 8 [Value.nilFunc] true),
  some (TI.mk (TypeDesc.func (Array.mk [56]) (Array.mk [3]) false) 1 8 [Value.nilFunc] true),
  some (TI.mk (TypeDesc.func (Array.mk [121]) (Array.mk [4]) false) 1 8 [Value.nilFunc] true),
  some (TI.mk (TypeDesc.func (Array.mk [131]) (Array.mk [4]) false) 1 8 [Value.nilFunc] true),
  some (TI.mk (TypeDesc.func (Array.mk [3, 3]) (Array.mk [4]) false) 1 8 [Value.nilFunc] true),
  some (TI.mk (TypeDesc.map 167 3) 1 8 [Value.map none] true),
  some (TI.mk (TypeDesc.array 4 3) 4 32 [Value.int IntKind.i64 (Int.ofNat 0), Value.int IntKind.i64 (Int.ofNat 0), Value.int IntKind.i64 (Int.ofNat 0), Value.int IntKind.i64 (Int.ofNat 0)] true),
  some (TI.mk (TypeDesc.array 4 3) 4 32 [Value.int IntKind.i64 (Int.ofNat 0), Value.int IntKind.i64 (Int.ofNat 0), Value.int IntKind.i64 (Int.ofNat 0), Value.int IntKind.i64 (Int.ofNat 0)] true),
  some (TI.mk (TypeDesc.func (Array.mk [56]) (Array.mk [167]) false) 1 8 [Value.nilFunc] true),
  some (TI.mk (TypeDesc.tuple (Array.mk [3, 4])) 1 0 [Value.tuple (Array.mk [Value.int IntKind.i64 (Int.ofNat 0), Value.bool false])] true),
  some (TI.mk (TypeDesc.func (Array.mk [149]) (Array.mk []) false) 1 8 [Value.nilFunc] true),
  some (TI.mk (TypeDesc.func (Array.mk [149]) (Array.mk []) false) 1 8 [Value.nilFunc] true),
  some (TI.mk (TypeDesc.func (Array.mk []) (Array.mk [171]) false) 1 8 [Value.nilFunc] true),
  some (TI.mk (TypeDesc.func (Array.mk [174, 175]) (Array.mk [4]) false) 1 8 [Value.nilFunc] true),
  some (TI.mk (TypeDesc.slice 4) 1 24 [Value.slice none 0 0] true),
  some (TI.mk (TypeDesc.func (Array.mk [3, 4]) (Array.mk [4]) false) 1 8 [Value.nilFunc] true),
  some (TI.mk (TypeDesc.func (Array.mk [56, 164]) (Array.mk [4]) false) 1 8 [Value.nilFunc] true),
  some (TI.mk (TypeDesc.func (Array.mk [73]) (Array.mk [4]) false) 1 8 [Value.nilFunc] true),
  some (TI.mk (TypeDesc.func (Array.mk [29, 88]) (Array.mk [4]) false) 1 8 [Value.nilFunc] true),
  some (TI.mk (TypeDesc.func (Array.mk [37, 180]) (Array.mk [4]) false) 1 8 [Value.nilFunc] true),
  some (TI.mk (TypeDesc.func (Array.mk [3, 77]) (Array.mk [4]) false) 1 8 [Value.nilFunc] true),
  some (TI.mk (TypeDesc.func (Array.mk [38, 182]) (Array.mk [4]) false) 1 8 [Value.nilFunc] true),
  some (TI.mk (TypeDesc.func (Array.mk [3, 79]) (Array.mk [4]) false) 1 8 [Value.nilFunc] true),
  some (TI.mk (TypeDesc.func (Array.mk []) (Array.mk [29]) false) 1 8 [Value.nilFunc] true),
  some (TI.mk (TypeDesc.func (Array.mk [56, 3]) (Array.mk [3]) false) 1 8 [Value.nilFunc] true),
  some (TI.mk (TypeDesc.func (Array.mk [73, 3]) (Array.mk [3]) false) 1 8 [Value.nilFunc] true),
  some (TI.mk (TypeDesc.struct (Array.mk [Field.mk "of" 185 0 false "" "watercress/bunch" 0, Field.mk "ofWoman" 4 1 false "" "watercress/bunch" 8])) 2 16 [Value.nilFunc, Value.bool false] true),
  some (TI.mk (TypeDesc.struct (Array.mk [Field.mk "of" 185 0 false "" "watercress/bunch" 0, Field.mk "ofWoman" 4 1 false "" "watercress/bunch" 8])) 2 16 [Value.nilFunc, Value.bool false] true),
  some (TI.mk (TypeDesc.func (Array.mk []) (Array.mk [187]) false) 1 8 [Value.nilFunc] true),
  some (TI.mk (TypeDesc.slice 187) 1 24 [Value.slice none 0 0] true),
  some (TI.mk (TypeDesc.func (Array.mk []) (Array.mk [189]) false) 1 8 [Value.nilFunc] true),
  some (TI.mk (TypeDesc.func (Array.mk [3]) (Array.mk [3]) false) 1 8 [Value.nilFunc] true),
  some (TI.mk (TypeDesc.func (Array.mk []) (Array.mk [9]) false) 1 8 [Value.nilFunc] true),
  some (TI.mk (TypeDesc.struct (Array.mk [Field.mk "_interface" 17 0 false "" "runtime" 0, Field.mk "concrete" 17 1 false "" "runtime" 8, Field.mk "asserted" 17 2 false "" "runtime" 16, Field.mk "missingMethod" 9 3 false "" "runtime" 24])) 4 40 [Value.pointer none, Value.pointer none, Value.pointer none, Value.string (ByteArray.mk (Array.mk []))] false),
  some (TI.mk (TypeDesc.struct (Array.mk [Field.mk "_interface" 17 0 false "" "runtime" 0, Field.mk "concrete" 17 1 false "" "runtime" 8, Field.mk "asserted" 17 2 false "" "runtime" 16, Field.mk "missingMethod" 9 3 false "" "runtime" 24])) 4 40 [Value.pointer none, Value.pointer none, Value.pointer none, Value.string (ByteArray.mk (Array.mk []))] false),
  some (TI.mk (TypeDesc.array 0 16) 0 0 [] true),
  some (TI.mk (TypeDesc.struct (Array.mk [Field.mk "_" 195 0 false "" "runtime" 0])) 0 0 [] false),
  some (TI.mk (TypeDesc.struct (Array.mk [Field.mk "_" 195 0 false "" "runtime" 0])) 0 0 [] false),
  some (TI.mk (TypeDesc.int IntKind.u32) 1 4 [Value.int IntKind.u32 (Int.ofNat 0)] true),
  some (TI.mk (TypeDesc.int IntKind.u8) 1 1 [Value.int IntKind.u8 (Int.ofNat 0)] true),
  some (TI.mk (TypeDesc.int IntKind.u8) 1 1 [Value.int IntKind.u8 (Int.ofNat 0)] true),
  some (TI.mk (TypeDesc.func (Array.mk [207, 207]) (Array.mk [4]) false) 1 8 [Value.nilFunc] true),
  some (TI.mk (TypeDesc.pointer 5) 1 8 [Value.pointer none] true),
  some (TI.mk (TypeDesc.int IntKind.i32) 1 4 [Value.int IntKind.i32 (Int.ofNat 0)] true),
  some (TI.mk (TypeDesc.int IntKind.i32) 1 4 [Value.int IntKind.i32 (Int.ofNat 0)] true),
  some (TI.mk (TypeDesc.struct (Array.mk [Field.mk "Size_" 12 0 false "" "" 0, Field.mk "PtrBytes" 12 1 false "" "" 8, Field.mk "Hash" 198 2 false "" "" 16, Field.mk "TFlag" 199 3 false "" "" 20, Field.mk "Align_" 5 4 false "" "" 21, Field.mk "FieldAlign_" 5 5 false "" "" 22, Field.mk "Kind_" 200 6 false "" "" 23, Field.mk "Equal" 201 7 false "" "" 24, Field.mk "GCData" 202 8 false "" "" 32, Field.mk "Str" 203 9 false "" "" 40, Field.mk "PtrToThis" 204 10 false "" "" 44])) 11 48 [Value.int IntKind.u64 (Int.ofNat 0), Value.int IntKind.u64 (Int.ofNat 0), Value.int IntKind.u32 (Int.ofNat 0), Value.int IntKind.u8 (Int.ofNat 0), Value.int IntKind.u8 (Int.ofNat 0), Value.int IntKind.u8 (Int.ofNat 0), Value.int IntKind.u8 (Int.ofNat 0), Value.nilFunc, Value.pointer none, Value.int IntKind.i32 (Int.ofNat 0), Value.int IntKind.i32 (Int.ofNat 0)] false),
  some (TI.mk (TypeDesc.struct (Array.mk [Field.mk "Size_" 12 0 false "" "" 0, Field.mk "PtrBytes" 12 1 false "" "" 8, Field.mk "Hash" 198 2 false "" "" 16, Field.mk "TFlag" 199 3 false "" "" 20, Field.mk "Align_" 5 4 false "" "" 21, Field.mk "FieldAlign_" 5 5 false "" "" 22, Field.mk "Kind_" 200 6 false "" "" 23, Field.mk "Equal" 201 7 false "" "" 24, Field.mk "GCData" 202 8 false "" "" 32, Field.mk "Str" 203 9 false "" "" 40, Field.mk "PtrToThis" 204 10 false "" "" 44])) 11 48 [Value.int IntKind.u64 (Int.ofNat 0), Value.int IntKind.u64 (Int.ofNat 0), Value.int IntKind.u32 (Int.ofNat 0), Value.int IntKind.u8 (Int.ofNat 0), Value.int IntKind.u8 (Int.ofNat 0), Value.int IntKind.u8 (Int.ofNat 0), Value.int IntKind.u8 (Int.ofNat 0), Value.nilFunc, Value.pointer none, Value.int IntKind.i32 (Int.ofNat 0), Value.int IntKind.i32 (Int.ofNat 0)] false),
  some (TI.mk TypeDesc.unsafePointer 1 8 [Value.pointer none] true)]
theorem tys_eq : tys = (List.range 208).map (tab Try.prog) := by kernel_rfl
def T : Ti := ofTab tys
theorem tok : TOk Try.prog T := ofTab_ok tys_eq
theorem mixed : Try.prog.follows .mixedOrders = true := by kernel_rfl
theorem en7 : Enters Try.prog 7 := fun args w => Go.Proofs.enters_of Try.func7 (by kernel_rfl) rfl args w
theorem en17 : Enters Try.prog 17 := fun args w => Go.Proofs.enters_of Try.func17 (by kernel_rfl) rfl args w
theorem en18 : Enters Try.prog 18 := fun args w => Go.Proofs.enters_of Try.func18 (by kernel_rfl) rfl args w
theorem en23 : Enters Try.prog 23 := fun args w => Go.Proofs.enters_of Try.func23 (by kernel_rfl) rfl args w
theorem en25 : Enters Try.prog 25 := fun args w => Go.Proofs.enters_of Try.func25 (by kernel_rfl) rfl args w
theorem en27 : Enters Try.prog 27 := fun args w => Go.Proofs.enters_of Try.func27 (by kernel_rfl) rfl args w
theorem en29 : Enters Try.prog 29 := fun args w => Go.Proofs.enters_of Try.func29 (by kernel_rfl) rfl args w
theorem en30 : Enters Try.prog 30 := fun args w => Go.Proofs.enters_of Try.func30 (by kernel_rfl) rfl args w
theorem en31 : Enters Try.prog 31 := fun args w => Go.Proofs.enters_of Try.func31 (by kernel_rfl) rfl args w
theorem en35 : Enters Try.prog 35 := fun args w => Go.Proofs.enters_of Try.func35 (by kernel_rfl) rfl args w
theorem en36 : Enters Try.prog 36 := fun args w => Go.Proofs.enters_of Try.func36 (by kernel_rfl) rfl args w
theorem en37 : Enters Try.prog 37 := fun args w => Go.Proofs.enters_of Try.func37 (by kernel_rfl) rfl args w
theorem en38 : Enters Try.prog 38 := fun args w => Go.Proofs.enters_of Try.func38 (by kernel_rfl) rfl args w
theorem en39 : Enters Try.prog 39 := fun args w => Go.Proofs.enters_of Try.func39 (by kernel_rfl) rfl args w
theorem en40 : Enters Try.prog 40 := fun args w => Go.Proofs.enters_of Try.func40 (by kernel_rfl) rfl args w
theorem en56 : Enters Try.prog 56 := fun args w => Go.Proofs.enters_of Try.func56 (by kernel_rfl) rfl args w
theorem en57 : Enters Try.prog 57 := fun args w => Go.Proofs.enters_of Try.func57 (by kernel_rfl) rfl args w
theorem en58 : Enters Try.prog 58 := fun args w => Go.Proofs.enters_of Try.func58 (by kernel_rfl) rfl args w
theorem en59 : Enters Try.prog 59 := fun args w => Go.Proofs.enters_of Try.func59 (by kernel_rfl) rfl args w
theorem en60 : Enters Try.prog 60 := fun args w => Go.Proofs.enters_of Try.func60 (by kernel_rfl) rfl args w
theorem en61 : Enters Try.prog 61 := fun args w => Go.Proofs.enters_of Try.func61 (by kernel_rfl) rfl args w
theorem en62 : Enters Try.prog 62 := fun args w => Go.Proofs.enters_of Try.func62 (by kernel_rfl) rfl args w
theorem en63 : Enters Try.prog 63 := fun args w => Go.Proofs.enters_of Try.func63 (by kernel_rfl) rfl args w
theorem en64 : Enters Try.prog 64 := fun args w => Go.Proofs.enters_of Try.func64 (by kernel_rfl) rfl args w
theorem en65 : Enters Try.prog 65 := fun args w => Go.Proofs.enters_of Try.func65 (by kernel_rfl) rfl args w
theorem en66 : Enters Try.prog 66 := fun args w => Go.Proofs.enters_of Try.func66 (by kernel_rfl) rfl args w
theorem en67 : Enters Try.prog 67 := fun args w => Go.Proofs.enters_of Try.func67 (by kernel_rfl) rfl args w
theorem en68 : Enters Try.prog 68 := fun args w => Go.Proofs.enters_of Try.func68 (by kernel_rfl) rfl args w
theorem en69 : Enters Try.prog 69 := fun args w => Go.Proofs.enters_of Try.func69 (by kernel_rfl) rfl args w
theorem en70 : Enters Try.prog 70 := fun args w => Go.Proofs.enters_of Try.func70 (by kernel_rfl) rfl args w
theorem en73 : Enters Try.prog 73 := fun args w => Go.Proofs.enters_of Try.func73 (by kernel_rfl) rfl args w
theorem en74 : Enters Try.prog 74 := fun args w => Go.Proofs.enters_of Try.func74 (by kernel_rfl) rfl args w
theorem en75 : Enters Try.prog 75 := fun args w => Go.Proofs.enters_of Try.func75 (by kernel_rfl) rfl args w
theorem en76 : Enters Try.prog 76 := fun args w => Go.Proofs.enters_of Try.func76 (by kernel_rfl) rfl args w
theorem en77 : Enters Try.prog 77 := fun args w => Go.Proofs.enters_of Try.func77 (by kernel_rfl) rfl args w
theorem en78 : Enters Try.prog 78 := fun args w => Go.Proofs.enters_of Try.func78 (by kernel_rfl) rfl args w
theorem en82 : Enters Try.prog 82 := fun args w => Go.Proofs.enters_of Try.func82 (by kernel_rfl) rfl args w
theorem en83 : Enters Try.prog 83 := fun args w => Go.Proofs.enters_of Try.func83 (by kernel_rfl) rfl args w
theorem en84 : Enters Try.prog 84 := fun args w => Go.Proofs.enters_of Try.func84 (by kernel_rfl) rfl args w
theorem en85 : Enters Try.prog 85 := fun args w => Go.Proofs.enters_of Try.func85 (by kernel_rfl) rfl args w
theorem en86 : Enters Try.prog 86 := fun args w => Go.Proofs.enters_of Try.func86 (by kernel_rfl) rfl args w
theorem en87 : Enters Try.prog 87 := fun args w => Go.Proofs.enters_of Try.func87 (by kernel_rfl) rfl args w
theorem en96 : Enters Try.prog 96 := fun args w => Go.Proofs.enters_of Try.func96 (by kernel_rfl) rfl args w
theorem en97 : Enters Try.prog 97 := fun args w => Go.Proofs.enters_of Try.func97 (by kernel_rfl) rfl args w
theorem en98 : Enters Try.prog 98 := fun args w => Go.Proofs.enters_of Try.func98 (by kernel_rfl) rfl args w
theorem en99 : Enters Try.prog 99 := fun args w => Go.Proofs.enters_of Try.func99 (by kernel_rfl) rfl args w
theorem en100 : Enters Try.prog 100 := fun args w => Go.Proofs.enters_of Try.func100 (by kernel_rfl) rfl args w
theorem en101 : Enters Try.prog 101 := fun args w => Go.Proofs.enters_of Try.func101 (by kernel_rfl) rfl args w
theorem en102 : Enters Try.prog 102 := fun args w => Go.Proofs.enters_of Try.func102 (by kernel_rfl) rfl args w
theorem en103 : Enters Try.prog 103 := fun args w => Go.Proofs.enters_of Try.func103 (by kernel_rfl) rfl args w
theorem en104 : Enters Try.prog 104 := fun args w => Go.Proofs.enters_of Try.func104 (by kernel_rfl) rfl args w
theorem en105 : Enters Try.prog 105 := fun args w => Go.Proofs.enters_of Try.func105 (by kernel_rfl) rfl args w
theorem en106 : Enters Try.prog 106 := fun args w => Go.Proofs.enters_of Try.func106 (by kernel_rfl) rfl args w
theorem en107 : Enters Try.prog 107 := fun args w => Go.Proofs.enters_of Try.func107 (by kernel_rfl) rfl args w
theorem en108 : Enters Try.prog 108 := fun args w => Go.Proofs.enters_of Try.func108 (by kernel_rfl) rfl args w
theorem en109 : Enters Try.prog 109 := fun args w => Go.Proofs.enters_of Try.func109 (by kernel_rfl) rfl args w
theorem en110 : Enters Try.prog 110 := fun args w => Go.Proofs.enters_of Try.func110 (by kernel_rfl) rfl args w
theorem en111 : Enters Try.prog 111 := fun args w => Go.Proofs.enters_of Try.func111 (by kernel_rfl) rfl args w
theorem en112 : Enters Try.prog 112 := fun args w => Go.Proofs.enters_of Try.func112 (by kernel_rfl) rfl args w
theorem en113 : Enters Try.prog 113 := fun args w => Go.Proofs.enters_of Try.func113 (by kernel_rfl) rfl args w
theorem en114 : Enters Try.prog 114 := fun args w => Go.Proofs.enters_of Try.func114 (by kernel_rfl) rfl args w
theorem en115 : Enters Try.prog 115 := fun args w => Go.Proofs.enters_of Try.func115 (by kernel_rfl) rfl args w
theorem en116 : Enters Try.prog 116 := fun args w => Go.Proofs.enters_of Try.func116 (by kernel_rfl) rfl args w
theorem en117 : Enters Try.prog 117 := fun args w => Go.Proofs.enters_of Try.func117 (by kernel_rfl) rfl args w
theorem en118 : Enters Try.prog 118 := fun args w => Go.Proofs.enters_of Try.func118 (by kernel_rfl) rfl args w
theorem en119 : Enters Try.prog 119 := fun args w => Go.Proofs.enters_of Try.func119 (by kernel_rfl) rfl args w
theorem en120 : Enters Try.prog 120 := fun args w => Go.Proofs.enters_of Try.func120 (by kernel_rfl) rfl args w
theorem en121 : Enters Try.prog 121 := fun args w => Go.Proofs.enters_of Try.func121 (by kernel_rfl) rfl args w
theorem en122 : Enters Try.prog 122 := fun args w => Go.Proofs.enters_of Try.func122 (by kernel_rfl) rfl args w
theorem en123 : Enters Try.prog 123 := fun args w => Go.Proofs.enters_of Try.func123 (by kernel_rfl) rfl args w
theorem en124 : Enters Try.prog 124 := fun args w => Go.Proofs.enters_of Try.func124 (by kernel_rfl) rfl args w
theorem en125 : Enters Try.prog 125 := fun args w => Go.Proofs.enters_of Try.func125 (by kernel_rfl) rfl args w
theorem en126 : Enters Try.prog 126 := fun args w => Go.Proofs.enters_of Try.func126 (by kernel_rfl) rfl args w
theorem en127 : Enters Try.prog 127 := fun args w => Go.Proofs.enters_of Try.func127 (by kernel_rfl) rfl args w
theorem en128 : Enters Try.prog 128 := fun args w => Go.Proofs.enters_of Try.func128 (by kernel_rfl) rfl args w
theorem en129 : Enters Try.prog 129 := fun args w => Go.Proofs.enters_of Try.func129 (by kernel_rfl) rfl args w
theorem en130 : Enters Try.prog 130 := fun args w => Go.Proofs.enters_of Try.func130 (by kernel_rfl) rfl args w
theorem en131 : Enters Try.prog 131 := fun args w => Go.Proofs.enters_of Try.func131 (by kernel_rfl) rfl args w
theorem en132 : Enters Try.prog 132 := fun args w => Go.Proofs.enters_of Try.func132 (by kernel_rfl) rfl args w
theorem en133 : Enters Try.prog 133 := fun args w => Go.Proofs.enters_of Try.func133 (by kernel_rfl) rfl args w
theorem en134 : Enters Try.prog 134 := fun args w => Go.Proofs.enters_of Try.func134 (by kernel_rfl) rfl args w
end Go.Fz
