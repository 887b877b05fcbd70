/- Own work of the verifier of watercress: EvP. -/
import Derived.Shelf.Abstract
import Derived.Test.YtpefamheopplnaaProg
import Derived.Test.YtpefamheopplnaaMc3
set_option linter.unusedVariables false
set_option linter.unusedSimpArgs false
namespace Go.Ev
open Go.Proofs
def tys:List (Option TI) :=
 [some (TI.mk (TypeDesc.tuple (Array.mk [])) 1 0 [Value.tuple (Array.mk [])] true),
 some (TI.mk (TypeDesc.func (Array.mk []) (Array.mk []) false) 1 8 [Value.nilFunc] true),
 some (TI.mk (TypeDesc.int IntKind.i64) 1 8 [Value.int IntKind.i64 (Int.ofNat 0)] true),
 some (TI.mk (TypeDesc.int IntKind.i64) 1 8 [Value.int IntKind.i64 (Int.ofNat 0)] true),
 some (TI.mk TypeDesc.bool 1 1 [Value.bool false] true),
 some (TI.mk (TypeDesc.int IntKind.u8) 1 1 [Value.int IntKind.u8 (Int.ofNat 0)] true),
 some (TI.mk (TypeDesc.int IntKind.u8) 1 1 [Value.int IntKind.u8 (Int.ofNat 0)] true),
 some (TI.mk (TypeDesc.struct (Array.mk [Field.mk "x" 2 0 false "" "runtime" 0,Field.mk "y" 3 1 false "" "runtime" 8,Field.mk "signed" 4 2 false "" "runtime" 16,Field.mk "code" 6 3 false "" "runtime" 17])) 4 24 [Value.int IntKind.i64 (Int.ofNat 0),Value.int IntKind.i64 (Int.ofNat 0),Value.bool false,Value.int IntKind.u8 (Int.ofNat 0)] true),
 some (TI.mk (TypeDesc.struct (Array.mk [Field.mk "x" 2 0 false "" "runtime" 0,Field.mk "y" 3 1 false "" "runtime" 8,Field.mk "signed" 4 2 false "" "runtime" 16,Field.mk "code" 6 3 false "" "runtime" 17])) 4 24 [Value.int IntKind.i64 (Int.ofNat 0),Value.int IntKind.i64 (Int.ofNat 0),Value.bool false,Value.int IntKind.u8 (Int.ofNat 0)] true),
 some (TI.mk TypeDesc.string 1 16 [Value.string (ByteArray.mk (Array.mk []))] true),
 some (TI.mk TypeDesc.string 1 16 [Value.string (ByteArray.mk (Array.mk []))] true),
 some (TI.mk TypeDesc.string 1 16 [Value.string (ByteArray.mk (Array.mk []))] true),
 some (TI.mk (TypeDesc.int IntKind.u64) 1 8 [Value.int IntKind.u64 (Int.ofNat 0)] true),
 some (TI.mk (TypeDesc.struct (Array.mk [Field.mk "msg" 9 0 false "" "runtime" 0,Field.mk "addr" 12 1 false "" "runtime" 16])) 2 24 [Value.string (ByteArray.mk (Array.mk [])),Value.int IntKind.u64 (Int.ofNat 0)] false),
 some (TI.mk (TypeDesc.struct (Array.mk [Field.mk "msg" 9 0 false "" "runtime" 0,Field.mk "addr" 12 1 false "" "runtime" 16])) 2 24 [Value.string (ByteArray.mk (Array.mk [])),Value.int IntKind.u64 (Int.ofNat 0)] false),
 some (TI.mk (TypeDesc.pointer 194) 1 8 [Value.pointer none] true),
 some (TI.mk (TypeDesc.pointer 197) 1 8 [Value.pointer none] true),
 some (TI.mk (TypeDesc.pointer 206) 1 8 [Value.pointer none] true),
 some (TI.mk (TypeDesc.struct (Array.mk [Field.mk "typ" 17 0 false "" "internal/runtime/maps" 0])) 1 8 [Value.pointer none] false),
 some (TI.mk (TypeDesc.struct (Array.mk [Field.mk "typ" 17 0 false "" "internal/runtime/maps" 0])) 1 8 [Value.pointer none] false),
 some (TI.mk (TypeDesc.interface (Array.mk [])) 1 16 [Value.nilIface] true),
 some (TI.mk (TypeDesc.int IntKind.i32) 1 4 [Value.int IntKind.i32 (Int.ofNat 0)] true),
 some (TI.mk (TypeDesc.slice 46) 1 24 [Value.slice none 0 0] true),
 some (TI.mk (TypeDesc.slice 102) 1 24 [Value.slice none 0 0] true),
 some (TI.mk (TypeDesc.slice 97) 1 24 [Value.slice none 0 0] true),
 some (TI.mk (TypeDesc.struct (Array.mk [Field.mk "Hand" 3 0 false "" "" 0,Field.mk "Flat" 3 1 false "" "" 8,Field.mk "Women" 22 2 false "" "" 16,Field.mk "Lots" 23 3 false "" "" 40,Field.mk "Counts" 24 4 false "" "" 64])) 5 88 [Value.int IntKind.i64 (Int.ofNat 0),Value.int IntKind.i64 (Int.ofNat 0),Value.slice none 0 0,Value.slice none 0 0,Value.slice none 0 0] true),
 some (TI.mk (TypeDesc.struct (Array.mk [Field.mk "Hand" 3 0 false "" "" 0,Field.mk "Flat" 3 1 false "" "" 8,Field.mk "Women" 22 2 false "" "" 16,Field.mk "Lots" 23 3 false "" "" 40,Field.mk "Counts" 24 4 false "" "" 64])) 5 88 [Value.int IntKind.i64 (Int.ofNat 0),Value.int IntKind.i64 (Int.ofNat 0),Value.slice none 0 0,Value.slice none 0 0,Value.slice none 0 0] true),
 some (TI.mk (TypeDesc.func (Array.mk [26]) (Array.mk [4]) false) 1 8 [Value.nilFunc] true),
 some (TI.mk (TypeDesc.func (Array.mk []) (Array.mk [4]) false) 1 8 [Value.nilFunc] true),
 some (TI.mk (TypeDesc.slice 31) 1 24 [Value.slice none 0 0] true),
 some (TI.mk (TypeDesc.struct (Array.mk [Field.mk "Lo" 3 0 false "" "" 0,Field.mk "Hi" 3 1 false "" "" 8])) 2 16 [Value.int IntKind.i64 (Int.ofNat 0),Value.int IntKind.i64 (Int.ofNat 0)] true),
 some (TI.mk (TypeDesc.struct (Array.mk [Field.mk "Lo" 3 0 false "" "" 0,Field.mk "Hi" 3 1 false "" "" 8])) 2 16 [Value.int IntKind.i64 (Int.ofNat 0),Value.int IntKind.i64 (Int.ofNat 0)] true),
 some (TI.mk (TypeDesc.struct (Array.mk [Field.mk "Feel" 29 0 false "" "" 0,Field.mk "Bunches" 29 1 false "" "" 24,Field.mk "Left" 29 2 false "" "" 48,Field.mk "Hands" 31 3 false "" "" 72,Field.mk "Loose" 31 5 false "" "" 88,Field.mk "Flats" 31 7 false "" "" 104,Field.mk "Spare" 31 9 false "" "" 120])) 11 136 [Value.slice none 0 0,Value.slice none 0 0,Value.slice none 0 0,Value.int IntKind.i64 (Int.ofNat 0),Value.int IntKind.i64 (Int.ofNat 0),Value.int IntKind.i64 (Int.ofNat 0),Value.int IntKind.i64 (Int.ofNat 0),Value.int IntKind.i64 (Int.ofNat 0),Value.int IntKind.i64 (Int.ofNat 0),Value.int IntKind.i64 (Int.ofNat 0),Value.int IntKind.i64 (Int.ofNat 0)] true),
 some (TI.mk (TypeDesc.struct (Array.mk [Field.mk "Feel" 29 0 false "" "" 0,Field.mk "Bunches" 29 1 false "" "" 24,Field.mk "Left" 29 2 false "" "" 48,Field.mk "Hands" 31 3 false "" "" 72,Field.mk "Loose" 31 5 false "" "" 88,Field.mk "Flats" 31 7 false "" "" 104,Field.mk "Spare" 31 9 false "" "" 120])) 11 136 [Value.slice none 0 0,Value.slice none 0 0,Value.slice none 0 0,Value.int IntKind.i64 (Int.ofNat 0),Value.int IntKind.i64 (Int.ofNat 0),Value.int IntKind.i64 (Int.ofNat 0),Value.int IntKind.i64 (Int.ofNat 0),Value.int IntKind.i64 (Int.ofNat 0),Value.int IntKind.i64 (Int.ofNat 0),Value.int IntKind.i64 (Int.ofNat 0),Value.int IntKind.i64 (Int.ofNat 0)] true),
 some (TI.mk (TypeDesc.int IntKind.i64) 1 8 [Value.int IntKind.i64 (Int.ofNat 0)] true),
 some (TI.mk (TypeDesc.tuple (Array.mk [33,34])) 1 0 [Value.tuple (Array.mk [Value.agg (Array.mk [Value.slice none 0 0,Value.slice none 0 0,Value.slice none 0 0,Value.int IntKind.i64 (Int.ofNat 0),Value.int IntKind.i64 (Int.ofNat 0),Value.int IntKind.i64 (Int.ofNat 0),Value.int IntKind.i64 (Int.ofNat 0),Value.int IntKind.i64 (Int.ofNat 0),Value.int IntKind.i64 (Int.ofNat 0),Value.int IntKind.i64 (Int.ofNat 0),Value.int IntKind.i64 (Int.ofNat 0)]),Value.int IntKind.i64 (Int.ofNat 0)])] true),
 some (TI.mk (TypeDesc.func (Array.mk [40]) (Array.mk [33,34]) false) 1 8 [Value.nilFunc] true),
 some (TI.mk (TypeDesc.slice 77) 1 24 [Value.slice none 0 0] true),
 some (TI.mk (TypeDesc.slice 79) 1 24 [Value.slice none 0 0] true),
 some (TI.mk (TypeDesc.struct (Array.mk [Field.mk "Hand" 3 0 false "" "" 0,Field.mk "Flat" 3 1 false "" "" 8,Field.mk "Women" 29 2 false "" "" 16,Field.mk "Lots" 37 3 false "" "" 40,Field.mk "Counts" 38 4 false "" "" 64])) 5 88 [Value.int IntKind.i64 (Int.ofNat 0),Value.int IntKind.i64 (Int.ofNat 0),Value.slice none 0 0,Value.slice none 0 0,Value.slice none 0 0] true),
 some (TI.mk (TypeDesc.struct (Array.mk [Field.mk "Hand" 3 0 false "" "" 0,Field.mk "Flat" 3 1 false "" "" 8,Field.mk "Women" 29 2 false "" "" 16,Field.mk "Lots" 37 3 false "" "" 40,Field.mk "Counts" 38 4 false "" "" 64])) 5 88 [Value.int IntKind.i64 (Int.ofNat 0),Value.int IntKind.i64 (Int.ofNat 0),Value.slice none 0 0,Value.slice none 0 0,Value.slice none 0 0] true),
 some (TI.mk (TypeDesc.func (Array.mk [26]) (Array.mk [40]) false) 1 8 [Value.nilFunc] true),
 some (TI.mk (TypeDesc.slice 83) 1 24 [Value.slice none 0 0] true),
 some (TI.mk (TypeDesc.tuple (Array.mk [42,34])) 1 0 [Value.tuple (Array.mk [Value.slice none 0 0,Value.int IntKind.i64 (Int.ofNat 0)])] true),
 some (TI.mk (TypeDesc.func (Array.mk [26]) (Array.mk [42,34]) false) 1 8 [Value.nilFunc] true),
 some (TI.mk (TypeDesc.func (Array.mk [33,48]) (Array.mk [4]) false) 1 8 [Value.nilFunc] true),
 some (TI.mk (TypeDesc.struct (Array.mk [Field.mk "Lo" 3 0 false "" "" 0,Field.mk "Hi" 3 1 false "" "" 8])) 2 16 [Value.int IntKind.i64 (Int.ofNat 0),Value.int IntKind.i64 (Int.ofNat 0)] true),
 some (TI.mk (TypeDesc.struct (Array.mk [Field.mk "Feel" 22 0 false "" "" 0,Field.mk "Bunches" 22 1 false "" "" 24,Field.mk "Left" 22 2 false "" "" 48,Field.mk "Hands" 46 3 false "" "" 72,Field.mk "Loose" 46 5 false "" "" 88,Field.mk "Flats" 46 7 false "" "" 104,Field.mk "Spare" 46 9 false "" "" 120])) 11 136 [Value.slice none 0 0,Value.slice none 0 0,Value.slice none 0 0,Value.int IntKind.i64 (Int.ofNat 0),Value.int IntKind.i64 (Int.ofNat 0),Value.int IntKind.i64 (Int.ofNat 0),Value.int IntKind.i64 (Int.ofNat 0),Value.int IntKind.i64 (Int.ofNat 0),Value.int IntKind.i64 (Int.ofNat 0),Value.int IntKind.i64 (Int.ofNat 0),Value.int IntKind.i64 (Int.ofNat 0)] true),
 some (TI.mk (TypeDesc.struct (Array.mk [Field.mk "Feel" 22 0 false "" "" 0,Field.mk "Bunches" 22 1 false "" "" 24,Field.mk "Left" 22 2 false "" "" 48,Field.mk "Hands" 46 3 false "" "" 72,Field.mk "Loose" 46 5 false "" "" 88,Field.mk "Flats" 46 7 false "" "" 104,Field.mk "Spare" 46 9 false "" "" 120])) 11 136 [Value.slice none 0 0,Value.slice none 0 0,Value.slice none 0 0,Value.int IntKind.i64 (Int.ofNat 0),Value.int IntKind.i64 (Int.ofNat 0),Value.int IntKind.i64 (Int.ofNat 0),Value.int IntKind.i64 (Int.ofNat 0),Value.int IntKind.i64 (Int.ofNat 0),Value.int IntKind.i64 (Int.ofNat 0),Value.int IntKind.i64 (Int.ofNat 0),Value.int IntKind.i64 (Int.ofNat 0)] true),
 some (TI.mk (TypeDesc.func (Array.mk [26,42]) (Array.mk [48]) false) 1 8 [Value.nilFunc] true),
 some (TI.mk (TypeDesc.tuple (Array.mk [3,34])) 1 0 [Value.tuple (Array.mk [Value.int IntKind.i64 (Int.ofNat 0),Value.int IntKind.i64 (Int.ofNat 0)])] true),
 some (TI.mk (TypeDesc.func (Array.mk [40,3,3]) (Array.mk [3,34]) false) 1 8 [Value.nilFunc] true),
 some (TI.mk (TypeDesc.func (Array.mk [26]) (Array.mk [34]) false) 1 8 [Value.nilFunc] true),
 some (TI.mk (TypeDesc.func (Array.mk [3,3,3]) (Array.mk [4]) false) 1 8 [Value.nilFunc] true),
 some (TI.mk (TypeDesc.func (Array.mk [42,3,3]) (Array.mk [3]) false) 1 8 [Value.nilFunc] true),
 some (TI.mk (TypeDesc.func (Array.mk [26,3,3]) (Array.mk [4]) false) 1 8 [Value.nilFunc] true),
 some (TI.mk (TypeDesc.slice 3) 1 24 [Value.slice none 0 0] true),
 some (TI.mk (TypeDesc.tuple (Array.mk [56,34])) 1 0 [Value.tuple (Array.mk [Value.slice none 0 0,Value.int IntKind.i64 (Int.ofNat 0)])] true),
 some (TI.mk (TypeDesc.func (Array.mk [40]) (Array.mk [56,34]) false) 1 8 [Value.nilFunc] true),
 some (TI.mk (TypeDesc.tuple (Array.mk [56,4])) 1 0 [Value.tuple (Array.mk [Value.slice none 0 0,Value.bool false])] true),
 some (TI.mk (TypeDesc.func (Array.mk [26,42]) (Array.mk [56,4]) false) 1 8 [Value.nilFunc] true),
 some (TI.mk (TypeDesc.func (Array.mk [56,56]) (Array.mk [4]) false) 1 8 [Value.nilFunc] true),
 some (TI.mk (TypeDesc.func (Array.mk [40]) (Array.mk [3,34]) false) 1 8 [Value.nilFunc] true),
 some (TI.mk (TypeDesc.func (Array.mk [26]) (Array.mk [56]) false) 1 8 [Value.nilFunc] true),
 some (TI.mk (TypeDesc.func (Array.mk [26,56]) (Array.mk [56]) false) 1 8 [Value.nilFunc] true),
 some (TI.mk (TypeDesc.func (Array.mk [26,56]) (Array.mk [3]) false) 1 8 [Value.nilFunc] true),
 some (TI.mk (TypeDesc.func (Array.mk [3]) (Array.mk [40]) false) 1 8 [Value.nilFunc] true),
 some (TI.mk (TypeDesc.func (Array.mk [29,22]) (Array.mk [4]) false) 1 8 [Value.nilFunc] true),
 some (TI.mk (TypeDesc.func (Array.mk [3,3]) (Array.mk [31]) false) 1 8 [Value.nilFunc] true),
 some (TI.mk (TypeDesc.func (Array.mk [40,71]) (Array.mk [4]) false) 1 8 [Value.nilFunc] true),
 some (TI.mk (TypeDesc.struct (Array.mk [Field.mk "Feels" 56 0 false "" "" 0,Field.mk "Stems" 56 1 false "" "" 24])) 2 48 [Value.slice none 0 0,Value.slice none 0 0] true),
 some (TI.mk (TypeDesc.struct (Array.mk [Field.mk "Feels" 56 0 false "" "" 0,Field.mk "Stems" 56 1 false "" "" 24])) 2 48 [Value.slice none 0 0,Value.slice none 0 0] true),
 some (TI.mk (TypeDesc.struct (Array.mk [Field.mk "Bunches" 56 0 false "" "" 0,Field.mk "Left" 56 1 false "" "" 24,Field.mk "Hands" 3 2 false "" "" 48,Field.mk "Loose" 3 3 false "" "" 56,Field.mk "Flats" 3 4 false "" "" 64,Field.mk "Spare" 3 5 false "" "" 72])) 6 80 [Value.slice none 0 0,Value.slice none 0 0,Value.int IntKind.i64 (Int.ofNat 0),Value.int IntKind.i64 (Int.ofNat 0),Value.int IntKind.i64 (Int.ofNat 0),Value.int IntKind.i64 (Int.ofNat 0)] true),
 some (TI.mk (TypeDesc.struct (Array.mk [Field.mk "Bunches" 56 0 false "" "" 0,Field.mk "Left" 56 1 false "" "" 24,Field.mk "Hands" 3 2 false "" "" 48,Field.mk "Loose" 3 3 false "" "" 56,Field.mk "Flats" 3 4 false "" "" 64,Field.mk "Spare" 3 5 false "" "" 72])) 6 80 [Value.slice none 0 0,Value.slice none 0 0,Value.int IntKind.i64 (Int.ofNat 0),Value.int IntKind.i64 (Int.ofNat 0),Value.int IntKind.i64 (Int.ofNat 0),Value.int IntKind.i64 (Int.ofNat 0)] true),
 some (TI.mk (TypeDesc.tuple (Array.mk [73,34])) 1 0 [Value.tuple (Array.mk [Value.agg (Array.mk [Value.slice none 0 0,Value.slice none 0 0,Value.int IntKind.i64 (Int.ofNat 0),Value.int IntKind.i64 (Int.ofNat 0),Value.int IntKind.i64 (Int.ofNat 0),Value.int IntKind.i64 (Int.ofNat 0)]),Value.int IntKind.i64 (Int.ofNat 0)])] true),
 some (TI.mk (TypeDesc.func (Array.mk [40,71]) (Array.mk [73,34]) false) 1 8 [Value.nilFunc] true),
 some (TI.mk (TypeDesc.struct (Array.mk [Field.mk "Woman" 3 0 false "" "" 0,Field.mk "Stems" 31 1 false "" "" 8])) 3 24 [Value.int IntKind.i64 (Int.ofNat 0),Value.int IntKind.i64 (Int.ofNat 0),Value.int IntKind.i64 (Int.ofNat 0)] true),
 some (TI.mk (TypeDesc.struct (Array.mk [Field.mk "Woman" 3 0 false "" "" 0,Field.mk "Stems" 31 1 false "" "" 8])) 3 24 [Value.int IntKind.i64 (Int.ofNat 0),Value.int IntKind.i64 (Int.ofNat 0),Value.int IntKind.i64 (Int.ofNat 0)] true),
 some (TI.mk (TypeDesc.struct (Array.mk [Field.mk "Kind" 3 0 false "" "" 0,Field.mk "Woman" 3 1 false "" "" 8,Field.mk "Number" 31 2 false "" "" 16])) 4 32 [Value.int IntKind.i64 (Int.ofNat 0),Value.int IntKind.i64 (Int.ofNat 0),Value.int IntKind.i64 (Int.ofNat 0),Value.int IntKind.i64 (Int.ofNat 0)] true),
 some (TI.mk (TypeDesc.struct (Array.mk [Field.mk "Kind" 3 0 false "" "" 0,Field.mk "Woman" 3 1 false "" "" 8,Field.mk "Number" 31 2 false "" "" 16])) 4 32 [Value.int IntKind.i64 (Int.ofNat 0),Value.int IntKind.i64 (Int.ofNat 0),Value.int IntKind.i64 (Int.ofNat 0),Value.int IntKind.i64 (Int.ofNat 0)] true),
 some (TI.mk (TypeDesc.func (Array.mk [40]) (Array.mk [34]) false) 1 8 [Value.nilFunc] true),
 some (TI.mk (TypeDesc.int IntKind.u16) 1 2 [Value.int IntKind.u16 (Int.ofNat 0)] true),
 some (TI.mk (TypeDesc.slice 81) 1 24 [Value.slice none 0 0] true),
 some (TI.mk (TypeDesc.struct (Array.mk [Field.mk "Feels" 56 0 false "" "" 0,Field.mk "Stems" 56 1 false "" "" 24])) 2 48 [Value.slice none 0 0,Value.slice none 0 0] true),
 some (TI.mk (TypeDesc.tuple (Array.mk [26,83])) 1 0 [Value.tuple (Array.mk [Value.agg (Array.mk [Value.int IntKind.i64 (Int.ofNat 0),Value.int IntKind.i64 (Int.ofNat 0),Value.slice none 0 0,Value.slice none 0 0,Value.slice none 0 0]),Value.agg (Array.mk [Value.slice none 0 0,Value.slice none 0 0])])] true),
 some (TI.mk (TypeDesc.func (Array.mk [26,81,82]) (Array.mk [26,83]) false) 1 8 [Value.nilFunc] true),
 some (TI.mk (TypeDesc.func (Array.mk [83]) (Array.mk [71]) false) 1 8 [Value.nilFunc] true),
 some (TI.mk (TypeDesc.func (Array.mk [26,83,3]) (Array.mk [3]) false) 1 8 [Value.nilFunc] true),
 some (TI.mk (TypeDesc.func (Array.mk [3,31]) (Array.mk [4]) false) 1 8 [Value.nilFunc] true),
 some (TI.mk (TypeDesc.func (Array.mk [26,81,82]) (Array.mk [4]) false) 1 8 [Value.nilFunc] true),
 some (TI.mk (TypeDesc.func (Array.mk [26]) (Array.mk [42]) false) 1 8 [Value.nilFunc] true),
 some (TI.mk (TypeDesc.struct (Array.mk [Field.mk "Bunches" 56 0 false "" "" 0,Field.mk "Left" 56 1 false "" "" 24,Field.mk "Hands" 3 2 false "" "" 48,Field.mk "Loose" 3 3 false "" "" 56,Field.mk "Flats" 3 4 false "" "" 64,Field.mk "Spare" 3 5 false "" "" 72])) 6 80 [Value.slice none 0 0,Value.slice none 0 0,Value.int IntKind.i64 (Int.ofNat 0),Value.int IntKind.i64 (Int.ofNat 0),Value.int IntKind.i64 (Int.ofNat 0),Value.int IntKind.i64 (Int.ofNat 0)] true),
 some (TI.mk (TypeDesc.func (Array.mk [26,83]) (Array.mk [91]) false) 1 8 [Value.nilFunc] true),
 some (TI.mk (TypeDesc.array 10 4) 10 10 [Value.bool false,Value.bool false,Value.bool false,Value.bool false,Value.bool false,Value.bool false,Value.bool false,Value.bool false,Value.bool false,Value.bool false] true),
 some (TI.mk (TypeDesc.int IntKind.u64) 1 8 [Value.int IntKind.u64 (Int.ofNat 0)] true),
 some (TI.mk (TypeDesc.func (Array.mk [26,5,5]) (Array.mk [4]) false) 1 8 [Value.nilFunc] true),
 some (TI.mk (TypeDesc.struct (Array.mk [Field.mk "Kind" 3 0 false "" "" 0,Field.mk "Woman" 3 1 false "" "" 8,Field.mk "Number" 46 2 false "" "" 16])) 4 32 [Value.int IntKind.i64 (Int.ofNat 0),Value.int IntKind.i64 (Int.ofNat 0),Value.int IntKind.i64 (Int.ofNat 0),Value.int IntKind.i64 (Int.ofNat 0)] true),
 some (TI.mk (TypeDesc.struct (Array.mk [Field.mk "Kind" 3 0 false "" "" 0,Field.mk "Woman" 3 1 false "" "" 8,Field.mk "Number" 46 2 false "" "" 16])) 4 32 [Value.int IntKind.i64 (Int.ofNat 0),Value.int IntKind.i64 (Int.ofNat 0),Value.int IntKind.i64 (Int.ofNat 0),Value.int IntKind.i64 (Int.ofNat 0)] true),
 some (TI.mk (TypeDesc.func (Array.mk [33,33]) (Array.mk [4]) false) 1 8 [Value.nilFunc] true),
 some (TI.mk (TypeDesc.func (Array.mk [26,97,5,5]) (Array.mk [4]) false) 1 8 [Value.nilFunc] true),
 some (TI.mk (TypeDesc.pointer 46) 1 8 [Value.pointer none] true),
 some (TI.mk (TypeDesc.struct (Array.mk [Field.mk "Woman" 3 0 false "" "" 0,Field.mk "Stems" 46 1 false "" "" 8])) 3 24 [Value.int IntKind.i64 (Int.ofNat 0),Value.int IntKind.i64 (Int.ofNat 0),Value.int IntKind.i64 (Int.ofNat 0)] true),
 some (TI.mk (TypeDesc.struct (Array.mk [Field.mk "Woman" 3 0 false "" "" 0,Field.mk "Stems" 46 1 false "" "" 8])) 3 24 [Value.int IntKind.i64 (Int.ofNat 0),Value.int IntKind.i64 (Int.ofNat 0),Value.int IntKind.i64 (Int.ofNat 0)] true),
 some (TI.mk (TypeDesc.func (Array.mk [26,42,3]) (Array.mk [4]) false) 1 8 [Value.nilFunc] true),
 some (TI.mk (TypeDesc.func (Array.mk [3]) (Array.mk [56]) false) 1 8 [Value.nilFunc] true),
 some (TI.mk (TypeDesc.func (Array.mk [26,81,5]) (Array.mk [4]) false) 1 8 [Value.nilFunc] true),
 some (TI.mk (TypeDesc.func (Array.mk [26,3]) (Array.mk [26]) false) 1 8 [Value.nilFunc] true),
 some (TI.mk (TypeDesc.func (Array.mk [26]) (Array.mk [3]) false) 1 8 [Value.nilFunc] true),
 some (TI.mk (TypeDesc.func (Array.mk [26,5]) (Array.mk [4]) false) 1 8 [Value.nilFunc] true),
 some (TI.mk (TypeDesc.func (Array.mk [26,5,5,5]) (Array.mk [4]) false) 1 8 [Value.nilFunc] true),
 some (TI.mk (TypeDesc.func (Array.mk [73,91]) (Array.mk [4]) false) 1 8 [Value.nilFunc] true),
 some (TI.mk (TypeDesc.slice 131) 1 24 [Value.slice none 0 0] true),
 some (TI.mk (TypeDesc.map 145 4) 1 8 [Value.map none] true),
 some (TI.mk (TypeDesc.struct (Array.mk [Field.mk "Day" 40 0 true "" "" 0,Field.mk "outcomes" 111 5 false "" "watercress/bunch" 88,Field.mk "wrong" 112 6 false "" "watercress/bunch" 112])) 7 120 [Value.int IntKind.i64 (Int.ofNat 0),Value.int IntKind.i64 (Int.ofNat 0),Value.slice none 0 0,Value.slice none 0 0,Value.slice none 0 0,Value.slice none 0 0,Value.map none] true),
 some (TI.mk (TypeDesc.struct (Array.mk [Field.mk "Day" 40 0 true "" "" 0,Field.mk "outcomes" 111 5 false "" "watercress/bunch" 88,Field.mk "wrong" 112 6 false "" "watercress/bunch" 112])) 7 120 [Value.int IntKind.i64 (Int.ofNat 0),Value.int IntKind.i64 (Int.ofNat 0),Value.slice none 0 0,Value.slice none 0 0,Value.slice none 0 0,Value.slice none 0 0,Value.map none] true),
 some (TI.mk (TypeDesc.tuple (Array.mk [114,34])) 1 0 [Value.tuple (Array.mk [Value.agg (Array.mk [Value.int IntKind.i64 (Int.ofNat 0),Value.int IntKind.i64 (Int.ofNat 0),Value.slice none 0 0,Value.slice none 0 0,Value.slice none 0 0,Value.slice none 0 0,Value.map none]),Value.int IntKind.i64 (Int.ofNat 0)])] true),
 some (TI.mk (TypeDesc.func (Array.mk [40,4]) (Array.mk [114,34]) false) 1 8 [Value.nilFunc] true),
 some (TI.mk (TypeDesc.map 121 4) 1 8 [Value.map none] true),
 some (TI.mk (TypeDesc.func (Array.mk [3]) (Array.mk [117]) false) 1 8 [Value.nilFunc] true),
 some (TI.mk (TypeDesc.func (Array.mk [123,125]) (Array.mk [31]) false) 1 8 [Value.nilFunc] true),
 some (TI.mk (TypeDesc.struct (Array.mk [Field.mk "feel" 3 0 false "" "watercress/bunch" 0,Field.mk "stems" 3 1 false "" "watercress/bunch" 8])) 2 16 [Value.int IntKind.i64 (Int.ofNat 0),Value.int IntKind.i64 (Int.ofNat 0)] true),
 some (TI.mk (TypeDesc.struct (Array.mk [Field.mk "feel" 3 0 false "" "watercress/bunch" 0,Field.mk "stems" 3 1 false "" "watercress/bunch" 8])) 2 16 [Value.int IntKind.i64 (Int.ofNat 0),Value.int IntKind.i64 (Int.ofNat 0)] true),
 some (TI.mk (TypeDesc.func (Array.mk [162]) (Array.mk []) false) 1 8 [Value.nilFunc] true),
 some (TI.mk (TypeDesc.func (Array.mk [162]) (Array.mk []) false) 1 8 [Value.nilFunc] true),
 some (TI.mk (TypeDesc.func (Array.mk [117]) (Array.mk [123]) false) 1 8 [Value.nilFunc] true),
 some (TI.mk (TypeDesc.func (Array.mk [121]) (Array.mk [3]) false) 1 8 [Value.nilFunc] true),
 some (TI.mk (TypeDesc.func (Array.mk []) (Array.mk [3]) false) 1 8 [Value.nilFunc] true),
 some (TI.mk (TypeDesc.func (Array.mk [163]) (Array.mk []) false) 1 8 [Value.nilFunc] true),
 some (TI.mk (TypeDesc.func (Array.mk [163]) (Array.mk []) false) 1 8 [Value.nilFunc] true),
 some (TI.mk (TypeDesc.func (Array.mk [111]) (Array.mk [128]) false) 1 8 [Value.nilFunc] true),
 some (TI.mk (TypeDesc.struct (Array.mk [Field.mk "Truth" 71 0 true "" "" 0,Field.mk "Tally" 73 2 true "" "" 48])) 8 128 [Value.slice none 0 0,Value.slice none 0 0,Value.slice none 0 0,Value.slice none 0 0,Value.int IntKind.i64 (Int.ofNat 0),Value.int IntKind.i64 (Int.ofNat 0),Value.int IntKind.i64 (Int.ofNat 0),Value.int IntKind.i64 (Int.ofNat 0)] true),
 some (TI.mk (TypeDesc.struct (Array.mk [Field.mk "Truth" 71 0 true "" "" 0,Field.mk "Tally" 73 2 true "" "" 48])) 8 128 [Value.slice none 0 0,Value.slice none 0 0,Value.slice none 0 0,Value.slice none 0 0,Value.int IntKind.i64 (Int.ofNat 0),Value.int IntKind.i64 (Int.ofNat 0),Value.int IntKind.i64 (Int.ofNat 0),Value.int IntKind.i64 (Int.ofNat 0)] true),
 some (TI.mk (TypeDesc.func (Array.mk [128,133]) (Array.mk [31]) false) 1 8 [Value.nilFunc] true),
 some (TI.mk (TypeDesc.func (Array.mk [131]) (Array.mk [3]) false) 1 8 [Value.nilFunc] true),
 some (TI.mk (TypeDesc.func (Array.mk [46]) (Array.mk [31]) false) 1 8 [Value.nilFunc] true),
 some (TI.mk (TypeDesc.func (Array.mk []) (Array.mk [46]) false) 1 8 [Value.nilFunc] true),
 some (TI.mk (TypeDesc.func (Array.mk [46,3]) (Array.mk [46]) false) 1 8 [Value.nilFunc] true),
 some (TI.mk (TypeDesc.func (Array.mk [3]) (Array.mk [4]) false) 1 8 [Value.nilFunc] true),
 some (TI.mk (TypeDesc.map 4 4) 1 8 [Value.map none] true),
 some (TI.mk (TypeDesc.func (Array.mk [142]) (Array.mk []) false) 1 8 [Value.nilFunc] true),
 some (TI.mk (TypeDesc.func (Array.mk [142]) (Array.mk []) false) 1 8 [Value.nilFunc] true),
 some (TI.mk (TypeDesc.func (Array.mk [3]) (Array.mk [140]) false) 1 8 [Value.nilFunc] true),
 some (TI.mk (TypeDesc.func (Array.mk [56]) (Array.mk [4]) false) 1 8 [Value.nilFunc] true),
 some (TI.mk (TypeDesc.func (Array.mk [40]) (Array.mk [114]) false) 1 8 [Value.nilFunc] true),
 some (TI.mk (TypeDesc.array 5 4) 5 5 [Value.bool false,Value.bool false,Value.bool false,Value.bool false,Value.bool false] true),
 some (TI.mk (TypeDesc.array 5 4) 5 5 [Value.bool false,Value.bool false,Value.bool false,Value.bool false,Value.bool false] true),
 some (TI.mk (TypeDesc.func (Array.mk [26,3]) (Array.mk [83]) false) 1 8 [Value.nilFunc] true),
 some (TI.mk (TypeDesc.func (Array.mk [91,97]) (Array.mk [4]) false) 1 8 [Value.nilFunc] true),
 some (TI.mk (TypeDesc.func (Array.mk [56,3]) (Array.mk [4]) false) 1 8 [Value.nilFunc] true),
 some (TI.mk (TypeDesc.func (Array.mk [71]) (Array.mk [4]) false) 1 8 [Value.nilFunc] true),
 some (TI.mk (TypeDesc.func (Array.mk [73]) (Array.mk [145]) false) 1 8 [Value.nilFunc] true),
 some (TI.mk (TypeDesc.func (Array.mk [71]) (Array.mk [73]) false) 1 8 [Value.nilFunc] true),
 some (TI.mk (TypeDesc.func (Array.mk [82,3]) (Array.mk [3]) false) 1 8 [Value.nilFunc] true),
 some (TI.mk (TypeDesc.func (Array.mk [91,97]) (Array.mk [3]) false) 1 8 [Value.nilFunc] true),
 some (TI.mk (TypeDesc.func (Array.mk [56]) (Array.mk [56]) false) 1 8 [Value.nilFunc] true),
 some (TI.mk (TypeDesc.func (Array.mk [31,31]) (Array.mk [4]) false) 1 8 [Value.nilFunc] true),
 some (TI.mk (TypeDesc.func (Array.mk [46,3,3]) (Array.mk [4]) false) 1 8 [Value.nilFunc] true),
 some (TI.mk (TypeDesc.func (Array.mk [26,97]) (Array.mk [4]) false) 1 8 [Value.nilFunc] true),
 some (TI.mk (TypeDesc.func (Array.mk [46]) (Array.mk [3]) false) 1 8 [Value.nilFunc] true),
 some (TI.mk (TypeDesc.func (Array.mk [71,3]) (Array.mk [121]) false) 1 8 [Value.nilFunc] true),
 some (TI.mk (TypeDesc.func (Array.mk [3,56]) (Array.mk [3]) true) 1 8 [Value.nilFunc] true),
 some (TI.mk (TypeDesc.func (Array.mk [56]) (Array.mk [3]) false) 1 8 [Value.nilFunc] true),
 some (TI.mk (TypeDesc.func (Array.mk [121]) (Array.mk [4]) false) 1 8 [Value.nilFunc] true),
 some (TI.mk (TypeDesc.func (Array.mk [131]) (Array.mk [4]) false) 1 8 [Value.nilFunc] true),
 some (TI.mk (TypeDesc.func (Array.mk [3,3]) (Array.mk [4]) false) 1 8 [Value.nilFunc] true),
 some (TI.mk (TypeDesc.map 167 3) 1 8 [Value.map none] true),
 some (TI.mk (TypeDesc.array 4 3) 4 32 [Value.int IntKind.i64 (Int.ofNat 0),Value.int IntKind.i64 (Int.ofNat 0),Value.int IntKind.i64 (Int.ofNat 0),Value.int IntKind.i64 (Int.ofNat 0)] true),
 some (TI.mk (TypeDesc.array 4 3) 4 32 [Value.int IntKind.i64 (Int.ofNat 0),Value.int IntKind.i64 (Int.ofNat 0),Value.int IntKind.i64 (Int.ofNat 0),Value.int IntKind.i64 (Int.ofNat 0)] true),
 some (TI.mk (TypeDesc.func (Array.mk [56]) (Array.mk [167]) false) 1 8 [Value.nilFunc] true),
 some (TI.mk (TypeDesc.tuple (Array.mk [3,4])) 1 0 [Value.tuple (Array.mk [Value.int IntKind.i64 (Int.ofNat 0),Value.bool false])] true),
 some (TI.mk (TypeDesc.func (Array.mk [149]) (Array.mk []) false) 1 8 [Value.nilFunc] true),
 some (TI.mk (TypeDesc.func (Array.mk [149]) (Array.mk []) false) 1 8 [Value.nilFunc] true),
 some (TI.mk (TypeDesc.func (Array.mk []) (Array.mk [171]) false) 1 8 [Value.nilFunc] true),
 some (TI.mk (TypeDesc.func (Array.mk [174,175]) (Array.mk [4]) false) 1 8 [Value.nilFunc] true),
 some (TI.mk (TypeDesc.slice 4) 1 24 [Value.slice none 0 0] true),
 some (TI.mk (TypeDesc.func (Array.mk [3,4]) (Array.mk [4]) false) 1 8 [Value.nilFunc] true),
 some (TI.mk (TypeDesc.func (Array.mk [56,164]) (Array.mk [4]) false) 1 8 [Value.nilFunc] true),
 some (TI.mk (TypeDesc.func (Array.mk [73]) (Array.mk [4]) false) 1 8 [Value.nilFunc] true),
 some (TI.mk (TypeDesc.func (Array.mk [29,88]) (Array.mk [4]) false) 1 8 [Value.nilFunc] true),
 some (TI.mk (TypeDesc.func (Array.mk [37,180]) (Array.mk [4]) false) 1 8 [Value.nilFunc] true),
 some (TI.mk (TypeDesc.func (Array.mk [3,77]) (Array.mk [4]) false) 1 8 [Value.nilFunc] true),
 some (TI.mk (TypeDesc.func (Array.mk [38,182]) (Array.mk [4]) false) 1 8 [Value.nilFunc] true),
 some (TI.mk (TypeDesc.func (Array.mk [3,79]) (Array.mk [4]) false) 1 8 [Value.nilFunc] true),
 some (TI.mk (TypeDesc.func (Array.mk []) (Array.mk [29]) false) 1 8 [Value.nilFunc] true),
 some (TI.mk (TypeDesc.func (Array.mk [56,3]) (Array.mk [3]) false) 1 8 [Value.nilFunc] true),
 some (TI.mk (TypeDesc.func (Array.mk [73,3]) (Array.mk [3]) false) 1 8 [Value.nilFunc] true),
 some (TI.mk (TypeDesc.struct (Array.mk [Field.mk "of" 185 0 false "" "watercress/bunch" 0,Field.mk "ofWoman" 4 1 false "" "watercress/bunch" 8])) 2 16 [Value.nilFunc,Value.bool false] true),
 some (TI.mk (TypeDesc.struct (Array.mk [Field.mk "of" 185 0 false "" "watercress/bunch" 0,Field.mk "ofWoman" 4 1 false "" "watercress/bunch" 8])) 2 16 [Value.nilFunc,Value.bool false] true),
 some (TI.mk (TypeDesc.func (Array.mk []) (Array.mk [187]) false) 1 8 [Value.nilFunc] true),
 some (TI.mk (TypeDesc.slice 187) 1 24 [Value.slice none 0 0] true),
 some (TI.mk (TypeDesc.func (Array.mk []) (Array.mk [189]) false) 1 8 [Value.nilFunc] true),
 some (TI.mk (TypeDesc.func (Array.mk [3]) (Array.mk [3]) false) 1 8 [Value.nilFunc] true),
 some (TI.mk (TypeDesc.func (Array.mk []) (Array.mk [9]) false) 1 8 [Value.nilFunc] true),
 some (TI.mk (TypeDesc.struct (Array.mk [Field.mk "_interface" 17 0 false "" "runtime" 0,Field.mk "concrete" 17 1 false "" "runtime" 8,Field.mk "asserted" 17 2 false "" "runtime" 16,Field.mk "missingMethod" 9 3 false "" "runtime" 24])) 4 40 [Value.pointer none,Value.pointer none,Value.pointer none,Value.string (ByteArray.mk (Array.mk []))] false),
 some (TI.mk (TypeDesc.struct (Array.mk [Field.mk "_interface" 17 0 false "" "runtime" 0,Field.mk "concrete" 17 1 false "" "runtime" 8,Field.mk "asserted" 17 2 false "" "runtime" 16,Field.mk "missingMethod" 9 3 false "" "runtime" 24])) 4 40 [Value.pointer none,Value.pointer none,Value.pointer none,Value.string (ByteArray.mk (Array.mk []))] false),
 some (TI.mk (TypeDesc.array 0 16) 0 0 [] true),
 some (TI.mk (TypeDesc.struct (Array.mk [Field.mk "_" 195 0 false "" "runtime" 0])) 0 0 [] false),
 some (TI.mk (TypeDesc.struct (Array.mk [Field.mk "_" 195 0 false "" "runtime" 0])) 0 0 [] false),
 some (TI.mk (TypeDesc.int IntKind.u32) 1 4 [Value.int IntKind.u32 (Int.ofNat 0)] true),
 some (TI.mk (TypeDesc.int IntKind.u8) 1 1 [Value.int IntKind.u8 (Int.ofNat 0)] true),
 some (TI.mk (TypeDesc.int IntKind.u8) 1 1 [Value.int IntKind.u8 (Int.ofNat 0)] true),
 some (TI.mk (TypeDesc.func (Array.mk [207,207]) (Array.mk [4]) false) 1 8 [Value.nilFunc] true),
 some (TI.mk (TypeDesc.pointer 5) 1 8 [Value.pointer none] true),
 some (TI.mk (TypeDesc.int IntKind.i32) 1 4 [Value.int IntKind.i32 (Int.ofNat 0)] true),
 some (TI.mk (TypeDesc.int IntKind.i32) 1 4 [Value.int IntKind.i32 (Int.ofNat 0)] true),
 some (TI.mk (TypeDesc.struct (Array.mk [Field.mk "Size_" 12 0 false "" "" 0,Field.mk "PtrBytes" 12 1 false "" "" 8,Field.mk "Hash" 198 2 false "" "" 16,Field.mk "TFlag" 199 3 false "" "" 20,Field.mk "Align_" 5 4 false "" "" 21,Field.mk "FieldAlign_" 5 5 false "" "" 22,Field.mk "Kind_" 200 6 false "" "" 23,Field.mk "Equal" 201 7 false "" "" 24,Field.mk "GCData" 202 8 false "" "" 32,Field.mk "Str" 203 9 false "" "" 40,Field.mk "PtrToThis" 204 10 false "" "" 44])) 11 48 [Value.int IntKind.u64 (Int.ofNat 0),Value.int IntKind.u64 (Int.ofNat 0),Value.int IntKind.u32 (Int.ofNat 0),Value.int IntKind.u8 (Int.ofNat 0),Value.int IntKind.u8 (Int.ofNat 0),Value.int IntKind.u8 (Int.ofNat 0),Value.int IntKind.u8 (Int.ofNat 0),Value.nilFunc,Value.pointer none,Value.int IntKind.i32 (Int.ofNat 0),Value.int IntKind.i32 (Int.ofNat 0)] false),
 some (TI.mk (TypeDesc.struct (Array.mk [Field.mk "Size_" 12 0 false "" "" 0,Field.mk "PtrBytes" 12 1 false "" "" 8,Field.mk "Hash" 198 2 false "" "" 16,Field.mk "TFlag" 199 3 false "" "" 20,Field.mk "Align_" 5 4 false "" "" 21,Field.mk "FieldAlign_" 5 5 false "" "" 22,Field.mk "Kind_" 200 6 false "" "" 23,Field.mk "Equal" 201 7 false "" "" 24,Field.mk "GCData" 202 8 false "" "" 32,Field.mk "Str" 203 9 false "" "" 40,Field.mk "PtrToThis" 204 10 false "" "" 44])) 11 48 [Value.int IntKind.u64 (Int.ofNat 0),Value.int IntKind.u64 (Int.ofNat 0),Value.int IntKind.u32 (Int.ofNat 0),Value.int IntKind.u8 (Int.ofNat 0),Value.int IntKind.u8 (Int.ofNat 0),Value.int IntKind.u8 (Int.ofNat 0),Value.int IntKind.u8 (Int.ofNat 0),Value.nilFunc,Value.pointer none,Value.int IntKind.i32 (Int.ofNat 0),Value.int IntKind.i32 (Int.ofNat 0)] false),
 some (TI.mk TypeDesc.unsafePointer 1 8 [Value.pointer none] true)]
theorem cH:tys=(List.range 208).map (tab Try.prog):=by kernel_rfl
def T:Ti:=To tys
theorem tok:TOk Try.prog T:=Tn cH
theorem mixed:Try.prog.follows .mixedOrders=true:=by kernel_rfl
theorem en3:Enters Try.prog 3:=fun args w=>Go.Proofs.enters_of Try.func3 (by kernel_rfl) rfl args w
theorem en4:Enters Try.prog 4:=fun args w=>Go.Proofs.enters_of Try.func4 (by kernel_rfl) rfl args w
theorem en5:Enters Try.prog 5:=fun args w=>Go.Proofs.enters_of Try.func5 (by kernel_rfl) rfl args w
theorem en6:Enters Try.prog 6:=fun args w=>Go.Proofs.enters_of Try.func6 (by kernel_rfl) rfl args w
theorem en7:Enters Try.prog 7:=fun args w=>Go.Proofs.enters_of Try.func7 (by kernel_rfl) rfl args w
theorem en8:Enters Try.prog 8:=fun args w=>Go.Proofs.enters_of Try.func8 (by kernel_rfl) rfl args w
theorem en9:Enters Try.prog 9:=fun args w=>Go.Proofs.enters_of Try.func9 (by kernel_rfl) rfl args w
theorem zS:Enters Try.prog 10:=fun args w=>Go.Proofs.enters_of Try.func10 (by kernel_rfl) rfl args w
theorem zR:Enters Try.prog 11:=fun args w=>Go.Proofs.enters_of Try.func11 (by kernel_rfl) rfl args w
theorem zQ:Enters Try.prog 12:=fun args w=>Go.Proofs.enters_of Try.func12 (by kernel_rfl) rfl args w
theorem zP:Enters Try.prog 13:=fun args w=>Go.Proofs.enters_of Try.func13 (by kernel_rfl) rfl args w
theorem uL:Enters Try.prog 14:=fun args w=>Go.Proofs.enters_of Try.func14 (by kernel_rfl) rfl args w
theorem zO:Enters Try.prog 15:=fun args w=>Go.Proofs.enters_of Try.func15 (by kernel_rfl) rfl args w
theorem uK:Enters Try.prog 16:=fun args w=>Go.Proofs.enters_of Try.func16 (by kernel_rfl) rfl args w
theorem zN:Enters Try.prog 17:=fun args w=>Go.Proofs.enters_of Try.func17 (by kernel_rfl) rfl args w
theorem qG:Enters Try.prog 18:=fun args w=>Go.Proofs.enters_of Try.func18 (by kernel_rfl) rfl args w
theorem uJ:Enters Try.prog 19:=fun args w=>Go.Proofs.enters_of Try.func19 (by kernel_rfl) rfl args w
theorem zM:Enters Try.prog 20:=fun args w=>Go.Proofs.enters_of Try.func20 (by kernel_rfl) rfl args w
theorem zL:Enters Try.prog 21:=fun args w=>Go.Proofs.enters_of Try.func21 (by kernel_rfl) rfl args w
theorem zK:Enters Try.prog 22:=fun args w=>Go.Proofs.enters_of Try.func22 (by kernel_rfl) rfl args w
theorem zJ:Enters Try.prog 23:=fun args w=>Go.Proofs.enters_of Try.func23 (by kernel_rfl) rfl args w
theorem zI:Enters Try.prog 24:=fun args w=>Go.Proofs.enters_of Try.func24 (by kernel_rfl) rfl args w
theorem uI:Enters Try.prog 25:=fun args w=>Go.Proofs.enters_of Try.func25 (by kernel_rfl) rfl args w
theorem zH:Enters Try.prog 26:=fun args w=>Go.Proofs.enters_of Try.func26 (by kernel_rfl) rfl args w
theorem zG:Enters Try.prog 27:=fun args w=>Go.Proofs.enters_of Try.func27 (by kernel_rfl) rfl args w
theorem zF:Enters Try.prog 28:=fun args w=>Go.Proofs.enters_of Try.func28 (by kernel_rfl) rfl args w
theorem zE:Enters Try.prog 29:=fun args w=>Go.Proofs.enters_of Try.func29 (by kernel_rfl) rfl args w
theorem zD:Enters Try.prog 30:=fun args w=>Go.Proofs.enters_of Try.func30 (by kernel_rfl) rfl args w
theorem uH:Enters Try.prog 31:=fun args w=>Go.Proofs.enters_of Try.func31 (by kernel_rfl) rfl args w
theorem zC:Enters Try.prog 32:=fun args w=>Go.Proofs.enters_of Try.func32 (by kernel_rfl) rfl args w
theorem zB:Enters Try.prog 33:=fun args w=>Go.Proofs.enters_of Try.func33 (by kernel_rfl) rfl args w
theorem zA:Enters Try.prog 34:=fun args w=>Go.Proofs.enters_of Try.func34 (by kernel_rfl) rfl args w
theorem yZ:Enters Try.prog 35:=fun args w=>Go.Proofs.enters_of Try.func35 (by kernel_rfl) rfl args w
theorem yY:Enters Try.prog 36:=fun args w=>Go.Proofs.enters_of Try.func36 (by kernel_rfl) rfl args w
theorem yX:Enters Try.prog 37:=fun args w=>Go.Proofs.enters_of Try.func37 (by kernel_rfl) rfl args w
theorem yW:Enters Try.prog 38:=fun args w=>Go.Proofs.enters_of Try.func38 (by kernel_rfl) rfl args w
theorem yV:Enters Try.prog 39:=fun args w=>Go.Proofs.enters_of Try.func39 (by kernel_rfl) rfl args w
theorem uG:Enters Try.prog 40:=fun args w=>Go.Proofs.enters_of Try.func40 (by kernel_rfl) rfl args w
theorem uF:Enters Try.prog 41:=fun args w=>Go.Proofs.enters_of Try.func41 (by kernel_rfl) rfl args w
theorem yU:Enters Try.prog 42:=fun args w=>Go.Proofs.enters_of Try.func42 (by kernel_rfl) rfl args w
theorem yT:Enters Try.prog 43:=fun args w=>Go.Proofs.enters_of Try.func43 (by kernel_rfl) rfl args w
theorem yS:Enters Try.prog 44:=fun args w=>Go.Proofs.enters_of Try.func44 (by kernel_rfl) rfl args w
theorem yR:Enters Try.prog 45:=fun args w=>Go.Proofs.enters_of Try.func45 (by kernel_rfl) rfl args w
theorem yQ:Enters Try.prog 46:=fun args w=>Go.Proofs.enters_of Try.func46 (by kernel_rfl) rfl args w
theorem yP:Enters Try.prog 47:=fun args w=>Go.Proofs.enters_of Try.func47 (by kernel_rfl) rfl args w
theorem yO:Enters Try.prog 48:=fun args w=>Go.Proofs.enters_of Try.func48 (by kernel_rfl) rfl args w
theorem yN:Enters Try.prog 49:=fun args w=>Go.Proofs.enters_of Try.func49 (by kernel_rfl) rfl args w
theorem uE:Enters Try.prog 50:=fun args w=>Go.Proofs.enters_of Try.func50 (by kernel_rfl) rfl args w
theorem uD:Enters Try.prog 51:=fun args w=>Go.Proofs.enters_of Try.func51 (by kernel_rfl) rfl args w
theorem uC:Enters Try.prog 52:=fun args w=>Go.Proofs.enters_of Try.func52 (by kernel_rfl) rfl args w
theorem uB:Enters Try.prog 53:=fun args w=>Go.Proofs.enters_of Try.func53 (by kernel_rfl) rfl args w
theorem uA:Enters Try.prog 54:=fun args w=>Go.Proofs.enters_of Try.func54 (by kernel_rfl) rfl args w
theorem tZ:Enters Try.prog 55:=fun args w=>Go.Proofs.enters_of Try.func55 (by kernel_rfl) rfl args w
theorem yM:Enters Try.prog 56:=fun args w=>Go.Proofs.enters_of Try.func56 (by kernel_rfl) rfl args w
theorem qF:Enters Try.prog 57:=fun args w=>Go.Proofs.enters_of Try.func57 (by kernel_rfl) rfl args w
theorem mR:Enters Try.prog 58:=fun args w=>Go.Proofs.enters_of Try.func58 (by kernel_rfl) rfl args w
theorem Yb:Enters Try.prog 59:=fun args w=>Go.Proofs.enters_of Try.func59 (by kernel_rfl) rfl args w
theorem bN:Enters Try.prog 60:=fun args w=>Go.Proofs.enters_of Try.func60 (by kernel_rfl) rfl args w
theorem qE:Enters Try.prog 61:=fun args w=>Go.Proofs.enters_of Try.func61 (by kernel_rfl) rfl args w
theorem qD:Enters Try.prog 62:=fun args w=>Go.Proofs.enters_of Try.func62 (by kernel_rfl) rfl args w
theorem qC:Enters Try.prog 63:=fun args w=>Go.Proofs.enters_of Try.func63 (by kernel_rfl) rfl args w
theorem tY:Enters Try.prog 64:=fun args w=>Go.Proofs.enters_of Try.func64 (by kernel_rfl) rfl args w
theorem jE:Enters Try.prog 65:=fun args w=>Go.Proofs.enters_of Try.func65 (by kernel_rfl) rfl args w
theorem tX:Enters Try.prog 66:=fun args w=>Go.Proofs.enters_of Try.func66 (by kernel_rfl) rfl args w
theorem tW:Enters Try.prog 67:=fun args w=>Go.Proofs.enters_of Try.func67 (by kernel_rfl) rfl args w
theorem tV:Enters Try.prog 68:=fun args w=>Go.Proofs.enters_of Try.func68 (by kernel_rfl) rfl args w
theorem tU:Enters Try.prog 69:=fun args w=>Go.Proofs.enters_of Try.func69 (by kernel_rfl) rfl args w
theorem tT:Enters Try.prog 70:=fun args w=>Go.Proofs.enters_of Try.func70 (by kernel_rfl) rfl args w
theorem yL:Enters Try.prog 71:=fun args w=>Go.Proofs.enters_of Try.func71 (by kernel_rfl) rfl args w
theorem yK:Enters Try.prog 72:=fun args w=>Go.Proofs.enters_of Try.func72 (by kernel_rfl) rfl args w
theorem tS:Enters Try.prog 73:=fun args w=>Go.Proofs.enters_of Try.func73 (by kernel_rfl) rfl args w
theorem tR:Enters Try.prog 74:=fun args w=>Go.Proofs.enters_of Try.func74 (by kernel_rfl) rfl args w
theorem yJ:Enters Try.prog 75:=fun args w=>Go.Proofs.enters_of Try.func75 (by kernel_rfl) rfl args w
theorem tQ:Enters Try.prog 76:=fun args w=>Go.Proofs.enters_of Try.func76 (by kernel_rfl) rfl args w
theorem yI:Enters Try.prog 77:=fun args w=>Go.Proofs.enters_of Try.func77 (by kernel_rfl) rfl args w
theorem tP:Enters Try.prog 78:=fun args w=>Go.Proofs.enters_of Try.func78 (by kernel_rfl) rfl args w
theorem yH:Enters Try.prog 79:=fun args w=>Go.Proofs.enters_of Try.func79 (by kernel_rfl) rfl args w
theorem yG:Enters Try.prog 80:=fun args w=>Go.Proofs.enters_of Try.func80 (by kernel_rfl) rfl args w
theorem yF:Enters Try.prog 81:=fun args w=>Go.Proofs.enters_of Try.func81 (by kernel_rfl) rfl args w
theorem yE:Enters Try.prog 82:=fun args w=>Go.Proofs.enters_of Try.func82 (by kernel_rfl) rfl args w
theorem tO:Enters Try.prog 83:=fun args w=>Go.Proofs.enters_of Try.func83 (by kernel_rfl) rfl args w
theorem tN:Enters Try.prog 84:=fun args w=>Go.Proofs.enters_of Try.func84 (by kernel_rfl) rfl args w
theorem tM:Enters Try.prog 85:=fun args w=>Go.Proofs.enters_of Try.func85 (by kernel_rfl) rfl args w
theorem tL:Enters Try.prog 86:=fun args w=>Go.Proofs.enters_of Try.func86 (by kernel_rfl) rfl args w
theorem tK:Enters Try.prog 87:=fun args w=>Go.Proofs.enters_of Try.func87 (by kernel_rfl) rfl args w
theorem yD:Enters Try.prog 88:=fun args w=>Go.Proofs.enters_of Try.func88 (by kernel_rfl) rfl args w
theorem yC:Enters Try.prog 89:=fun args w=>Go.Proofs.enters_of Try.func89 (by kernel_rfl) rfl args w
theorem yB:Enters Try.prog 90:=fun args w=>Go.Proofs.enters_of Try.func90 (by kernel_rfl) rfl args w
theorem xZ:Enters Try.prog 91:=fun args w=>Go.Proofs.enters_of Try.func91 (by kernel_rfl) rfl args w
theorem tJ:Enters Try.prog 92:=fun args w=>Go.Proofs.enters_of Try.func92 (by kernel_rfl) rfl args w
theorem tI:Enters Try.prog 93:=fun args w=>Go.Proofs.enters_of Try.func93 (by kernel_rfl) rfl args w
theorem tH:Enters Try.prog 94:=fun args w=>Go.Proofs.enters_of Try.func94 (by kernel_rfl) rfl args w
theorem tG:Enters Try.prog 95:=fun args w=>Go.Proofs.enters_of Try.func95 (by kernel_rfl) rfl args w
theorem tF:Enters Try.prog 96:=fun args w=>Go.Proofs.enters_of Try.func96 (by kernel_rfl) rfl args w
theorem tE:Enters Try.prog 97:=fun args w=>Go.Proofs.enters_of Try.func97 (by kernel_rfl) rfl args w
theorem tD:Enters Try.prog 98:=fun args w=>Go.Proofs.enters_of Try.func98 (by kernel_rfl) rfl args w
theorem qB:Enters Try.prog 99:=fun args w=>Go.Proofs.enters_of Try.func99 (by kernel_rfl) rfl args w
theorem nP:Enters Try.prog 100:=fun args w=>Go.Proofs.enters_of Try.func100 (by kernel_rfl) rfl args w
theorem nO:Enters Try.prog 101:=fun args w=>Go.Proofs.enters_of Try.func101 (by kernel_rfl) rfl args w
theorem gA:Enters Try.prog 102:=fun args w=>Go.Proofs.enters_of Try.func102 (by kernel_rfl) rfl args w
theorem Un:Enters Try.prog 103:=fun args w=>Go.Proofs.enters_of Try.func103 (by kernel_rfl) rfl args w
theorem xI:Enters Try.prog 104:=fun args w=>Go.Proofs.enters_of Try.func104 (by kernel_rfl) rfl args w
theorem nN:Enters Try.prog 105:=fun args w=>Go.Proofs.enters_of Try.func105 (by kernel_rfl) rfl args w
theorem nM:Enters Try.prog 106:=fun args w=>Go.Proofs.enters_of Try.func106 (by kernel_rfl) rfl args w
theorem nL:Enters Try.prog 107:=fun args w=>Go.Proofs.enters_of Try.func107 (by kernel_rfl) rfl args w
theorem nK:Enters Try.prog 108:=fun args w=>Go.Proofs.enters_of Try.func108 (by kernel_rfl) rfl args w
theorem xH:Enters Try.prog 109:=fun args w=>Go.Proofs.enters_of Try.func109 (by kernel_rfl) rfl args w
theorem xG:Enters Try.prog 110:=fun args w=>Go.Proofs.enters_of Try.func110 (by kernel_rfl) rfl args w
theorem nJ:Enters Try.prog 111:=fun args w=>Go.Proofs.enters_of Try.func111 (by kernel_rfl) rfl args w
theorem xF:Enters Try.prog 112:=fun args w=>Go.Proofs.enters_of Try.func112 (by kernel_rfl) rfl args w
theorem Rk:Enters Try.prog 113:=fun args w=>Go.Proofs.enters_of Try.func113 (by kernel_rfl) rfl args w
theorem nI:Enters Try.prog 114:=fun args w=>Go.Proofs.enters_of Try.func114 (by kernel_rfl) rfl args w
theorem nH:Enters Try.prog 115:=fun args w=>Go.Proofs.enters_of Try.func115 (by kernel_rfl) rfl args w
theorem nG:Enters Try.prog 116:=fun args w=>Go.Proofs.enters_of Try.func116 (by kernel_rfl) rfl args w
theorem nF:Enters Try.prog 117:=fun args w=>Go.Proofs.enters_of Try.func117 (by kernel_rfl) rfl args w
theorem nE:Enters Try.prog 118:=fun args w=>Go.Proofs.enters_of Try.func118 (by kernel_rfl) rfl args w
theorem Qb:Enters Try.prog 119:=fun args w=>Go.Proofs.enters_of Try.func119 (by kernel_rfl) rfl args w
theorem nD:Enters Try.prog 120:=fun args w=>Go.Proofs.enters_of Try.func120 (by kernel_rfl) rfl args w
theorem nC:Enters Try.prog 121:=fun args w=>Go.Proofs.enters_of Try.func121 (by kernel_rfl) rfl args w
theorem nB:Enters Try.prog 122:=fun args w=>Go.Proofs.enters_of Try.func122 (by kernel_rfl) rfl args w
theorem Wo:Enters Try.prog 123:=fun args w=>Go.Proofs.enters_of Try.func123 (by kernel_rfl) rfl args w
theorem fZ:Enters Try.prog 124:=fun args w=>Go.Proofs.enters_of Try.func124 (by kernel_rfl) rfl args w
theorem Rj:Enters Try.prog 125:=fun args w=>Go.Proofs.enters_of Try.func125 (by kernel_rfl) rfl args w
theorem nA:Enters Try.prog 126:=fun args w=>Go.Proofs.enters_of Try.func126 (by kernel_rfl) rfl args w
theorem mZ:Enters Try.prog 127:=fun args w=>Go.Proofs.enters_of Try.func127 (by kernel_rfl) rfl args w
theorem mY:Enters Try.prog 128:=fun args w=>Go.Proofs.enters_of Try.func128 (by kernel_rfl) rfl args w
theorem mX:Enters Try.prog 129:=fun args w=>Go.Proofs.enters_of Try.func129 (by kernel_rfl) rfl args w
theorem mW:Enters Try.prog 130:=fun args w=>Go.Proofs.enters_of Try.func130 (by kernel_rfl) rfl args w
theorem mV:Enters Try.prog 131:=fun args w=>Go.Proofs.enters_of Try.func131 (by kernel_rfl) rfl args w
theorem mU:Enters Try.prog 132:=fun args w=>Go.Proofs.enters_of Try.func132 (by kernel_rfl) rfl args w
theorem mT:Enters Try.prog 133:=fun args w=>Go.Proofs.enters_of Try.func133 (by kernel_rfl) rfl args w
theorem mS:Enters Try.prog 134:=fun args w=>Go.Proofs.enters_of Try.func134 (by kernel_rfl) rfl args w
noncomputable def fns:List (FuncId × Func):=[(3,Try.f3),(4,Try.f4),(5,Try.f5),(6,Try.f6),(7,Try.f7),(8,Try.f8),(9,Try.f9),(10,Try.f10),(11,Try.f11),(12,Try.f12),(13,Try.f13),(14,Try.f14),(15,Try.f15),(16,Try.f16),(17,Try.f17),(18,Try.f18),(19,Try.f19),(20,Try.f20),(21,Try.f21),(22,Try.f22),(23,Try.f23),(24,Try.f24),(25,Try.f25),(26,Try.f26),(27,Try.f27),(28,Try.f28),(29,Try.f29),(30,Try.f30),(31,Try.f31),(32,Try.f32),(33,Try.f33),(34,Try.f34),(35,Try.f35),(36,Try.f36),(37,Try.f37),(38,Try.f38),(39,Try.f39),(40,Try.f40),(41,Try.f41),(42,Try.f42),(43,Try.f43),(44,Try.f44),(45,Try.f45),(46,Try.f46),(47,Try.f47),(48,Try.f48),(49,Try.f49),(50,Try.f50),(51,Try.f51),(52,Try.f52),(53,Try.f53),(54,Try.f54),(55,Try.f55),(56,Try.f56),(57,Try.f57),(58,Try.f58),(59,Try.f59),(60,Try.f60),(61,Try.f61),(62,Try.f62),(63,Try.f63),(64,Try.f64),(65,Try.f65),(66,Try.f66),(67,Try.f67),(68,Try.f68),(69,Try.f69),(70,Try.f70),(71,Try.f71),(72,Try.f72),(73,Try.f73),(74,Try.f74),(75,Try.f75),(76,Try.f76),(77,Try.f77),(78,Try.f78),(79,Try.f79),(80,Try.f80),(81,Try.f81),(82,Try.f82),(83,Try.f83),(84,Try.f84),(85,Try.f85),(86,Try.f86),(87,Try.f87),(88,Try.f88),(89,Try.f89),(90,Try.f90),(91,Try.f91),(92,Try.f92),(93,Try.f93),(94,Try.f94),(95,Try.f95),(96,Try.f96),(97,Try.f97),(98,Try.f98),(99,Try.f99),(100,Try.f100),(101,Try.f101),(102,Try.f102),(103,Try.f103),(104,Try.f104),(105,Try.f105),(106,Try.f106),(107,Try.f107),(108,Try.f108),(109,Try.f109),(110,Try.f110),(111,Try.f111),(112,Try.f112),(113,Try.f113),(114,Try.f114),(115,Try.f115),(116,Try.f116),(117,Try.f117),(118,Try.f118),(119,Try.f119),(120,Try.f120),(121,Try.f121),(122,Try.f122),(123,Try.f123),(124,Try.f124),(125,Try.f125),(126,Try.f126),(127,Try.f127),(128,Try.f128),(129,Try.f129),(130,Try.f130),(131,Try.f131),(132,Try.f132),(133,Try.f133),(134,Try.f134)]
theorem sY:sZ Try.prog fns:=⟨⟨Try.func3,en3,by kernel_rfl⟩,⟨Try.func4,en4,by kernel_rfl⟩,⟨Try.func5,en5,by kernel_rfl⟩,⟨Try.func6,en6,by kernel_rfl⟩,⟨Try.func7,en7,by kernel_rfl⟩,⟨Try.func8,en8,by kernel_rfl⟩,⟨Try.func9,en9,by kernel_rfl⟩,⟨Try.func10,zS,by kernel_rfl⟩,⟨Try.func11,zR,by kernel_rfl⟩,⟨Try.func12,zQ,by kernel_rfl⟩,⟨Try.func13,zP,by kernel_rfl⟩,⟨Try.func14,uL,by kernel_rfl⟩,⟨Try.func15,zO,by kernel_rfl⟩,⟨Try.func16,uK,by kernel_rfl⟩,⟨Try.func17,zN,by kernel_rfl⟩,⟨Try.func18,qG,by kernel_rfl⟩,⟨Try.func19,uJ,by kernel_rfl⟩,⟨Try.func20,zM,by kernel_rfl⟩,⟨Try.func21,zL,by kernel_rfl⟩,⟨Try.func22,zK,by kernel_rfl⟩,⟨Try.func23,zJ,by kernel_rfl⟩,⟨Try.func24,zI,by kernel_rfl⟩,⟨Try.func25,uI,by kernel_rfl⟩,⟨Try.func26,zH,by kernel_rfl⟩,⟨Try.func27,zG,by kernel_rfl⟩,⟨Try.func28,zF,by kernel_rfl⟩,⟨Try.func29,zE,by kernel_rfl⟩,⟨Try.func30,zD,by kernel_rfl⟩,⟨Try.func31,uH,by kernel_rfl⟩,⟨Try.func32,zC,by kernel_rfl⟩,⟨Try.func33,zB,by kernel_rfl⟩,⟨Try.func34,zA,by kernel_rfl⟩,⟨Try.func35,yZ,by kernel_rfl⟩,⟨Try.func36,yY,by kernel_rfl⟩,⟨Try.func37,yX,by kernel_rfl⟩,⟨Try.func38,yW,by kernel_rfl⟩,⟨Try.func39,yV,by kernel_rfl⟩,⟨Try.func40,uG,by kernel_rfl⟩,⟨Try.func41,uF,by kernel_rfl⟩,⟨Try.func42,yU,by kernel_rfl⟩,⟨Try.func43,yT,by kernel_rfl⟩,⟨Try.func44,yS,by kernel_rfl⟩,⟨Try.func45,yR,by kernel_rfl⟩,⟨Try.func46,yQ,by kernel_rfl⟩,⟨Try.func47,yP,by kernel_rfl⟩,⟨Try.func48,yO,by kernel_rfl⟩,⟨Try.func49,yN,by kernel_rfl⟩,⟨Try.func50,uE,by kernel_rfl⟩,⟨Try.func51,uD,by kernel_rfl⟩,⟨Try.func52,uC,by kernel_rfl⟩,⟨Try.func53,uB,by kernel_rfl⟩,⟨Try.func54,uA,by kernel_rfl⟩,⟨Try.func55,tZ,by kernel_rfl⟩,⟨Try.func56,yM,by kernel_rfl⟩,⟨Try.func57,qF,by kernel_rfl⟩,⟨Try.func58,mR,by kernel_rfl⟩,⟨Try.func59,Yb,by kernel_rfl⟩,⟨Try.func60,bN,by kernel_rfl⟩,⟨Try.func61,qE,by kernel_rfl⟩,⟨Try.func62,qD,by kernel_rfl⟩,⟨Try.func63,qC,by kernel_rfl⟩,⟨Try.func64,tY,by kernel_rfl⟩,⟨Try.func65,jE,by kernel_rfl⟩,⟨Try.func66,tX,by kernel_rfl⟩,⟨Try.func67,tW,by kernel_rfl⟩,⟨Try.func68,tV,by kernel_rfl⟩,⟨Try.func69,tU,by kernel_rfl⟩,⟨Try.func70,tT,by kernel_rfl⟩,⟨Try.func71,yL,by kernel_rfl⟩,⟨Try.func72,yK,by kernel_rfl⟩,⟨Try.func73,tS,by kernel_rfl⟩,⟨Try.func74,tR,by kernel_rfl⟩,⟨Try.func75,yJ,by kernel_rfl⟩,⟨Try.func76,tQ,by kernel_rfl⟩,⟨Try.func77,yI,by kernel_rfl⟩,⟨Try.func78,tP,by kernel_rfl⟩,⟨Try.func79,yH,by kernel_rfl⟩,⟨Try.func80,yG,by kernel_rfl⟩,⟨Try.func81,yF,by kernel_rfl⟩,⟨Try.func82,yE,by kernel_rfl⟩,⟨Try.func83,tO,by kernel_rfl⟩,⟨Try.func84,tN,by kernel_rfl⟩,⟨Try.func85,tM,by kernel_rfl⟩,⟨Try.func86,tL,by kernel_rfl⟩,⟨Try.func87,tK,by kernel_rfl⟩,⟨Try.func88,yD,by kernel_rfl⟩,⟨Try.func89,yC,by kernel_rfl⟩,⟨Try.func90,yB,by kernel_rfl⟩,⟨Try.func91,xZ,by kernel_rfl⟩,⟨Try.func92,tJ,by kernel_rfl⟩,⟨Try.func93,tI,by kernel_rfl⟩,⟨Try.func94,tH,by kernel_rfl⟩,⟨Try.func95,tG,by kernel_rfl⟩,⟨Try.func96,tF,by kernel_rfl⟩,⟨Try.func97,tE,by kernel_rfl⟩,⟨Try.func98,tD,by kernel_rfl⟩,⟨Try.func99,qB,by kernel_rfl⟩,⟨Try.func100,nP,by kernel_rfl⟩,⟨Try.func101,nO,by kernel_rfl⟩,⟨Try.func102,gA,by kernel_rfl⟩,⟨Try.func103,Un,by kernel_rfl⟩,⟨Try.func104,xI,by kernel_rfl⟩,⟨Try.func105,nN,by kernel_rfl⟩,⟨Try.func106,nM,by kernel_rfl⟩,⟨Try.func107,nL,by kernel_rfl⟩,⟨Try.func108,nK,by kernel_rfl⟩,⟨Try.func109,xH,by kernel_rfl⟩,⟨Try.func110,xG,by kernel_rfl⟩,⟨Try.func111,nJ,by kernel_rfl⟩,⟨Try.func112,xF,by kernel_rfl⟩,⟨Try.func113,Rk,by kernel_rfl⟩,⟨Try.func114,nI,by kernel_rfl⟩,⟨Try.func115,nH,by kernel_rfl⟩,⟨Try.func116,nG,by kernel_rfl⟩,⟨Try.func117,nF,by kernel_rfl⟩,⟨Try.func118,nE,by kernel_rfl⟩,⟨Try.func119,Qb,by kernel_rfl⟩,⟨Try.func120,nD,by kernel_rfl⟩,⟨Try.func121,nC,by kernel_rfl⟩,⟨Try.func122,nB,by kernel_rfl⟩,⟨Try.func123,Wo,by kernel_rfl⟩,⟨Try.func124,fZ,by kernel_rfl⟩,⟨Try.func125,Rj,by kernel_rfl⟩,⟨Try.func126,nA,by kernel_rfl⟩,⟨Try.func127,mZ,by kernel_rfl⟩,⟨Try.func128,mY,by kernel_rfl⟩,⟨Try.func129,mX,by kernel_rfl⟩,⟨Try.func130,mW,by kernel_rfl⟩,⟨Try.func131,mV,by kernel_rfl⟩,⟨Try.func132,mU,by kernel_rfl⟩,⟨Try.func133,mT,by kernel_rfl⟩,⟨Try.func134,mS,by kernel_rfl⟩,trivial⟩
theorem gok:GOk Try.prog (ofFns fns):=Zr sY
end Go.Ev
