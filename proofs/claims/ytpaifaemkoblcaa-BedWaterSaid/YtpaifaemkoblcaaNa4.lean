/- Own work of the verifier of watercress: Lb4. -/
import Derived.Shelf.Abstract
import Derived.Test.YtpaifaemkoblcaaProg
import Derived.Test.YtpaifaemkoblcaaNa3
set_option linter.unusedVariables false
set_option linter.unusedSimpArgs false
namespace Go.Fz
open Go.Proofs
def tys : List (Option TI) :=
 [some (TI.mk (TypeDesc.tuple (Array.mk [])) 1 0 [Value.tuple (Array.mk [])] true),
  some (TI.mk (TypeDesc.func (Array.mk []) (Array.mk []) false) 1 8 [Value.nilFunc] true),
  some (TI.mk (TypeDesc.int IntKind.i64) 1 8 [Value.int IntKind.i64 (Int.ofNat 0)] true),
  some (TI.mk (TypeDesc.int IntKind.i64) 1 8 [Value.int IntKind.i64 (Int.ofNat 0)] true),
  some (TI.mk TypeDesc.bool 1 1 [Value.bool false] true),
  some (TI.mk (TypeDesc.int IntKind.u8) 1 1 [Value.int IntKind.u8 (Int.ofNat 0)] true),
  some (TI.mk (TypeDesc.int IntKind.u8) 1 1 [Value.int IntKind.u8 (Int.ofNat 0)] true),
  some (TI.mk (TypeDesc.struct (Array.mk [Field.mk "x" 2 0 false "" "runtime" 0, Field.mk "y" 3 1 false "" "runtime" 8, Field.mk "signed" 4 2 false "" "runtime" 16, Field.mk "code" 6 3 false "" "runtime" 17])) 4 24 [Value.int IntKind.i64 (Int.ofNat 0), Value.int IntKind.i64 (Int.ofNat 0), Value.bool false, Value.int IntKind.u8 (Int.ofNat 0)] true),
  some (TI.mk (TypeDesc.struct (Array.mk [Field.mk "x" 2 0 false "" "runtime" 0, Field.mk "y" 3 1 false "" "runtime" 8, Field.mk "signed" 4 2 false "" "runtime" 16, Field.mk "code" 6 3 false "" "runtime" 17])) 4 24 [Value.int IntKind.i64 (Int.ofNat 0), Value.int IntKind.i64 (Int.ofNat 0), Value.bool false, Value.int IntKind.u8 (Int.ofNat 0)] true),
  some (TI.mk TypeDesc.string 1 16 [Value.string (ByteArray.mk (Array.mk []))] true),
  some (TI.mk TypeDesc.string 1 16 [Value.string (ByteArray.mk (Array.mk []))] true),
  some (TI.mk TypeDesc.string 1 16 [Value.string (ByteArray.mk (Array.mk []))] true),
  some (TI.mk (TypeDesc.int IntKind.u64) 1 8 [Value.int IntKind.u64 (Int.ofNat 0)] true),
  some (TI.mk (TypeDesc.struct (Array.mk [Field.mk "msg" 9 0 false "" "runtime" 0, Field.mk "addr" 12 1 false "" "runtime" 16])) 2 24 [Value.string (ByteArray.mk (Array.mk [])), Value.int IntKind.u64 (Int.ofNat 0)] false),
  some (TI.mk (TypeDesc.struct (Array.mk [Field.mk "msg" 9 0 false "" "runtime" 0, Field.mk "addr" 12 1 false "" "runtime" 16])) 2 24 [Value.string (ByteArray.mk (Array.mk [])), Value.int IntKind.u64 (Int.ofNat 0)] false),
  some (TI.mk (TypeDesc.pointer 177) 1 8 [Value.pointer none] true),
  some (TI.mk (TypeDesc.pointer 180) 1 8 [Value.pointer none] true),
  some (TI.mk (TypeDesc.pointer 189) 1 8 [Value.pointer none] true),
  some (TI.mk (TypeDesc.struct (Array.mk [Field.mk "typ" 17 0 false "" "internal/runtime/maps" 0])) 1 8 [Value.pointer none] false),
  some (TI.mk (TypeDesc.struct (Array.mk [Field.mk "typ" 17 0 false "" "internal/runtime/maps" 0])) 1 8 [Value.pointer none] false),
  some (TI.mk (TypeDesc.interface (Array.mk [])) 1 16 [Value.nilIface] true),
  some (TI.mk (TypeDesc.int IntKind.i32) 1 4 [Value.int IntKind.i32 (Int.ofNat 0)] true),
  some (TI.mk (TypeDesc.slice 110) 1 24 [Value.slice none 0 0] true),
  some (TI.mk (TypeDesc.slice 97) 1 24 [Value.slice none 0 0] true),
  some (TI.mk (TypeDesc.slice 115) 1 24 [Value.slice none 0 0] true),
  some (TI.mk (TypeDesc.struct (Array.mk [Field.mk "Springs" 22 0 false "" "" 0, Field.mk "Beds" 23 1 false "" "" 24, Field.mk "Looks" 24 2 false "" "" 48])) 3 72 [Value.slice none 0 0, Value.slice none 0 0, Value.slice none 0 0] true),
  some (TI.mk (TypeDesc.struct (Array.mk [Field.mk "Springs" 22 0 false "" "" 0, Field.mk "Beds" 23 1 false "" "" 24, Field.mk "Looks" 24 2 false "" "" 48])) 3 72 [Value.slice none 0 0, Value.slice none 0 0, Value.slice none 0 0] true),
  some (TI.mk (TypeDesc.slice 3) 1 24 [Value.slice none 0 0] true),
  some (TI.mk (TypeDesc.func (Array.mk [26]) (Array.mk [4]) false) 1 8 [Value.nilFunc] true),
  some (TI.mk (TypeDesc.func (Array.mk []) (Array.mk [4]) false) 1 8 [Value.nilFunc] true),
  some (TI.mk (TypeDesc.slice 48) 1 24 [Value.slice none 0 0] true),
  some (TI.mk (TypeDesc.int IntKind.i64) 1 8 [Value.int IntKind.i64 (Int.ofNat 0)] true),
  some (TI.mk (TypeDesc.tuple (Array.mk [30, 31])) 1 0 [Value.tuple (Array.mk [Value.slice none 0 0, Value.int IntKind.i64 (Int.ofNat 0)])] true),
  some (TI.mk (TypeDesc.func (Array.mk [38, 27]) (Array.mk [30, 31]) false) 1 8 [Value.nilFunc] true),
  some (TI.mk (TypeDesc.slice 89) 1 24 [Value.slice none 0 0] true),
  some (TI.mk (TypeDesc.slice 87) 1 24 [Value.slice none 0 0] true),
  some (TI.mk (TypeDesc.slice 92) 1 24 [Value.slice none 0 0] true),
  some (TI.mk (TypeDesc.struct (Array.mk [Field.mk "Springs" 34 0 false "" "" 0, Field.mk "Beds" 35 1 false "" "" 24, Field.mk "Looks" 36 2 false "" "" 48])) 3 72 [Value.slice none 0 0, Value.slice none 0 0, Value.slice none 0 0] true),
  some (TI.mk (TypeDesc.struct (Array.mk [Field.mk "Springs" 34 0 false "" "" 0, Field.mk "Beds" 35 1 false "" "" 24, Field.mk "Looks" 36 2 false "" "" 48])) 3 72 [Value.slice none 0 0, Value.slice none 0 0, Value.slice none 0 0] true),
  some (TI.mk (TypeDesc.func (Array.mk [26]) (Array.mk [38]) false) 1 8 [Value.nilFunc] true),
  some (TI.mk (TypeDesc.func (Array.mk [27]) (Array.mk [27]) false) 1 8 [Value.nilFunc] true),
  some (TI.mk (TypeDesc.func (Array.mk [38, 27]) (Array.mk [4]) false) 1 8 [Value.nilFunc] true),
  some (TI.mk (TypeDesc.func (Array.mk [26]) (Array.mk [31]) false) 1 8 [Value.nilFunc] true),
  some (TI.mk (TypeDesc.func (Array.mk [38]) (Array.mk [31]) false) 1 8 [Value.nilFunc] true),
  some (TI.mk (TypeDesc.func (Array.mk [26, 27]) (Array.mk [4]) false) 1 8 [Value.nilFunc] true),
  some (TI.mk (TypeDesc.struct (Array.mk [Field.mk "In" 3 0 false "" "" 0, Field.mk "Kept" 3 1 false "" "" 8, Field.mk "Over" 3 2 false "" "" 16])) 3 24 [Value.int IntKind.i64 (Int.ofNat 0), Value.int IntKind.i64 (Int.ofNat 0), Value.int IntKind.i64 (Int.ofNat 0)] true),
  some (TI.mk (TypeDesc.struct (Array.mk [Field.mk "In" 3 0 false "" "" 0, Field.mk "Kept" 3 1 false "" "" 8, Field.mk "Over" 3 2 false "" "" 16])) 3 24 [Value.int IntKind.i64 (Int.ofNat 0), Value.int IntKind.i64 (Int.ofNat 0), Value.int IntKind.i64 (Int.ofNat 0)] true),
  some (TI.mk (TypeDesc.func (Array.mk [26, 27, 3]) (Array.mk [46]) false) 1 8 [Value.nilFunc] true),
  some (TI.mk (TypeDesc.struct (Array.mk [Field.mk "In" 3 0 false "" "" 0, Field.mk "Kept" 3 1 false "" "" 8, Field.mk "Over" 3 2 false "" "" 16])) 3 24 [Value.int IntKind.i64 (Int.ofNat 0), Value.int IntKind.i64 (Int.ofNat 0), Value.int IntKind.i64 (Int.ofNat 0)] true),
  some (TI.mk (TypeDesc.slice 63) 1 24 [Value.slice none 0 0] true),
  some (TI.mk (TypeDesc.tuple (Array.mk [49, 31])) 1 0 [Value.tuple (Array.mk [Value.slice none 0 0, Value.int IntKind.i64 (Int.ofNat 0)])] true),
  some (TI.mk (TypeDesc.func (Array.mk [38]) (Array.mk [49, 31]) false) 1 8 [Value.nilFunc] true),
  some (TI.mk (TypeDesc.tuple (Array.mk [3, 31])) 1 0 [Value.tuple (Array.mk [Value.int IntKind.i64 (Int.ofNat 0), Value.int IntKind.i64 (Int.ofNat 0)])] true),
  some (TI.mk (TypeDesc.func (Array.mk [38, 3]) (Array.mk [3, 31]) false) 1 8 [Value.nilFunc] true),
  some (TI.mk (TypeDesc.slice 27) 1 24 [Value.slice none 0 0] true),
  some (TI.mk (TypeDesc.tuple (Array.mk [54, 31])) 1 0 [Value.tuple (Array.mk [Value.slice none 0 0, Value.int IntKind.i64 (Int.ofNat 0)])] true),
  some (TI.mk (TypeDesc.func (Array.mk [26]) (Array.mk [54, 31]) false) 1 8 [Value.nilFunc] true),
  some (TI.mk (TypeDesc.func (Array.mk [26, 3]) (Array.mk [4]) false) 1 8 [Value.nilFunc] true),
  some (TI.mk (TypeDesc.func (Array.mk [26, 54, 3]) (Array.mk [3]) false) 1 8 [Value.nilFunc] true),
  some (TI.mk (TypeDesc.func (Array.mk [63, 66]) (Array.mk [4]) false) 1 8 [Value.nilFunc] true),
  some (TI.mk (TypeDesc.struct (Array.mk [Field.mk "Lo" 3 0 false "" "" 0, Field.mk "Hi" 3 1 false "" "" 8])) 2 16 [Value.int IntKind.i64 (Int.ofNat 0), Value.int IntKind.i64 (Int.ofNat 0)] true),
  some (TI.mk (TypeDesc.struct (Array.mk [Field.mk "Lo" 3 0 false "" "" 0, Field.mk "Hi" 3 1 false "" "" 8])) 2 16 [Value.int IntKind.i64 (Int.ofNat 0), Value.int IntKind.i64 (Int.ofNat 0)] true),
  some (TI.mk (TypeDesc.struct (Array.mk [Field.mk "In" 61 0 false "" "" 0, Field.mk "Kept" 61 2 false "" "" 16, Field.mk "Over" 61 4 false "" "" 32])) 6 48 [Value.int IntKind.i64 (Int.ofNat 0), Value.int IntKind.i64 (Int.ofNat 0), Value.int IntKind.i64 (Int.ofNat 0), Value.int IntKind.i64 (Int.ofNat 0), Value.int IntKind.i64 (Int.ofNat 0), Value.int IntKind.i64 (Int.ofNat 0)] true),
  some (TI.mk (TypeDesc.struct (Array.mk [Field.mk "In" 61 0 false "" "" 0, Field.mk "Kept" 61 2 false "" "" 16, Field.mk "Over" 61 4 false "" "" 32])) 6 48 [Value.int IntKind.i64 (Int.ofNat 0), Value.int IntKind.i64 (Int.ofNat 0), Value.int IntKind.i64 (Int.ofNat 0), Value.int IntKind.i64 (Int.ofNat 0), Value.int IntKind.i64 (Int.ofNat 0), Value.int IntKind.i64 (Int.ofNat 0)] true),
  some (TI.mk (TypeDesc.struct (Array.mk [Field.mk "Lo" 3 0 false "" "" 0, Field.mk "Hi" 3 1 false "" "" 8])) 2 16 [Value.int IntKind.i64 (Int.ofNat 0), Value.int IntKind.i64 (Int.ofNat 0)] true),
  some (TI.mk (TypeDesc.struct (Array.mk [Field.mk "In" 64 0 false "" "" 0, Field.mk "Kept" 64 2 false "" "" 16, Field.mk "Over" 64 4 false "" "" 32])) 6 48 [Value.int IntKind.i64 (Int.ofNat 0), Value.int IntKind.i64 (Int.ofNat 0), Value.int IntKind.i64 (Int.ofNat 0), Value.int IntKind.i64 (Int.ofNat 0), Value.int IntKind.i64 (Int.ofNat 0), Value.int IntKind.i64 (Int.ofNat 0)] true),
  some (TI.mk (TypeDesc.struct (Array.mk [Field.mk "In" 64 0 false "" "" 0, Field.mk "Kept" 64 2 false "" "" 16, Field.mk "Over" 64 4 false "" "" 32])) 6 48 [Value.int IntKind.i64 (Int.ofNat 0), Value.int IntKind.i64 (Int.ofNat 0), Value.int IntKind.i64 (Int.ofNat 0), Value.int IntKind.i64 (Int.ofNat 0), Value.int IntKind.i64 (Int.ofNat 0), Value.int IntKind.i64 (Int.ofNat 0)] true),
  some (TI.mk (TypeDesc.func (Array.mk [26, 54, 3]) (Array.mk [66]) false) 1 8 [Value.nilFunc] true),
  some (TI.mk (TypeDesc.func (Array.mk [26]) (Array.mk [3]) false) 1 8 [Value.nilFunc] true),
  some (TI.mk (TypeDesc.func (Array.mk [26, 27, 3]) (Array.mk [4]) false) 1 8 [Value.nilFunc] true),
  some (TI.mk (TypeDesc.func (Array.mk [38, 3, 27]) (Array.mk [4]) false) 1 8 [Value.nilFunc] true),
  some (TI.mk (TypeDesc.func (Array.mk [26, 3, 27]) (Array.mk [4]) false) 1 8 [Value.nilFunc] true),
  some (TI.mk (TypeDesc.tuple (Array.mk [27, 31])) 1 0 [Value.tuple (Array.mk [Value.slice none 0 0, Value.int IntKind.i64 (Int.ofNat 0)])] true),
  some (TI.mk (TypeDesc.func (Array.mk [38, 3, 3]) (Array.mk [27, 31]) false) 1 8 [Value.nilFunc] true),
  some (TI.mk (TypeDesc.func (Array.mk [3, 3, 3]) (Array.mk [4]) false) 1 8 [Value.nilFunc] true),
  some (TI.mk (TypeDesc.func (Array.mk [27, 27]) (Array.mk [4]) false) 1 8 [Value.nilFunc] true),
  some (TI.mk (TypeDesc.func (Array.mk [26, 54, 3, 3]) (Array.mk [27]) false) 1 8 [Value.nilFunc] true),
  some (TI.mk (TypeDesc.func (Array.mk [26, 3, 3]) (Array.mk [4]) false) 1 8 [Value.nilFunc] true),
  some (TI.mk (TypeDesc.func (Array.mk [38]) (Array.mk [3, 31]) false) 1 8 [Value.nilFunc] true),
  some (TI.mk (TypeDesc.func (Array.mk [38]) (Array.mk [27, 31]) false) 1 8 [Value.nilFunc] true),
  some (TI.mk (TypeDesc.func (Array.mk [26]) (Array.mk [27]) false) 1 8 [Value.nilFunc] true),
  some (TI.mk (TypeDesc.func (Array.mk [26, 27]) (Array.mk [27]) false) 1 8 [Value.nilFunc] true),
  some (TI.mk (TypeDesc.func (Array.mk [26, 27]) (Array.mk [3]) false) 1 8 [Value.nilFunc] true),
  some (TI.mk (TypeDesc.func (Array.mk [3]) (Array.mk [38]) false) 1 8 [Value.nilFunc] true),
  some (TI.mk (TypeDesc.tuple (Array.mk [3, 27, 31])) 1 0 [Value.tuple (Array.mk [Value.int IntKind.i64 (Int.ofNat 0), Value.slice none 0 0, Value.int IntKind.i64 (Int.ofNat 0)])] true),
  some (TI.mk (TypeDesc.func (Array.mk [38]) (Array.mk [3, 27, 31]) false) 1 8 [Value.nilFunc] true),
  some (TI.mk (TypeDesc.struct (Array.mk [Field.mk "Need" 3 0 false "" "" 0, Field.mk "Notch" 3 1 false "" "" 8, Field.mk "Down" 3 2 false "" "" 16])) 3 24 [Value.int IntKind.i64 (Int.ofNat 0), Value.int IntKind.i64 (Int.ofNat 0), Value.int IntKind.i64 (Int.ofNat 0)] true),
  some (TI.mk (TypeDesc.struct (Array.mk [Field.mk "Need" 3 0 false "" "" 0, Field.mk "Notch" 3 1 false "" "" 8, Field.mk "Down" 3 2 false "" "" 16])) 3 24 [Value.int IntKind.i64 (Int.ofNat 0), Value.int IntKind.i64 (Int.ofNat 0), Value.int IntKind.i64 (Int.ofNat 0)] true),
  some (TI.mk (TypeDesc.struct (Array.mk [Field.mk "Bed" 3 0 false "" "" 0, Field.mk "Flow" 61 1 false "" "" 8])) 3 24 [Value.int IntKind.i64 (Int.ofNat 0), Value.int IntKind.i64 (Int.ofNat 0), Value.int IntKind.i64 (Int.ofNat 0)] true),
  some (TI.mk (TypeDesc.struct (Array.mk [Field.mk "Bed" 3 0 false "" "" 0, Field.mk "Flow" 61 1 false "" "" 8])) 3 24 [Value.int IntKind.i64 (Int.ofNat 0), Value.int IntKind.i64 (Int.ofNat 0), Value.int IntKind.i64 (Int.ofNat 0)] true),
  some (TI.mk (TypeDesc.func (Array.mk [3, 3]) (Array.mk [61]) false) 1 8 [Value.nilFunc] true),
  some (TI.mk (TypeDesc.struct (Array.mk [Field.mk "Bed" 3 0 false "" "" 0, Field.mk "Over" 4 1 false "" "" 8, Field.mk "Water" 61 2 false "" "" 16])) 4 32 [Value.int IntKind.i64 (Int.ofNat 0), Value.bool false, Value.int IntKind.i64 (Int.ofNat 0), Value.int IntKind.i64 (Int.ofNat 0)] true),
  some (TI.mk (TypeDesc.struct (Array.mk [Field.mk "Bed" 3 0 false "" "" 0, Field.mk "Over" 4 1 false "" "" 8, Field.mk "Water" 61 2 false "" "" 16])) 4 32 [Value.int IntKind.i64 (Int.ofNat 0), Value.bool false, Value.int IntKind.i64 (Int.ofNat 0), Value.int IntKind.i64 (Int.ofNat 0)] true),
  some (TI.mk (TypeDesc.int IntKind.u16) 1 2 [Value.int IntKind.u16 (Int.ofNat 0)] true),
  some (TI.mk (TypeDesc.slice 93) 1 24 [Value.slice none 0 0] true),
  some (TI.mk (TypeDesc.tuple (Array.mk [26, 27])) 1 0 [Value.tuple (Array.mk [Value.agg (Array.mk [Value.slice none 0 0, Value.slice none 0 0, Value.slice none 0 0]), Value.slice none 0 0])] true),
  some (TI.mk (TypeDesc.func (Array.mk [26, 93, 94]) (Array.mk [26, 27]) false) 1 8 [Value.nilFunc] true),
  some (TI.mk (TypeDesc.struct (Array.mk [Field.mk "Need" 3 0 false "" "" 0, Field.mk "Notch" 3 1 false "" "" 8, Field.mk "Down" 3 2 false "" "" 16])) 3 24 [Value.int IntKind.i64 (Int.ofNat 0), Value.int IntKind.i64 (Int.ofNat 0), Value.int IntKind.i64 (Int.ofNat 0)] true),
  some (TI.mk (TypeDesc.func (Array.mk [3, 61]) (Array.mk [4]) false) 1 8 [Value.nilFunc] true),
  some (TI.mk (TypeDesc.func (Array.mk [26, 93, 94]) (Array.mk [4]) false) 1 8 [Value.nilFunc] true),
  some (TI.mk (TypeDesc.func (Array.mk [26]) (Array.mk [54]) false) 1 8 [Value.nilFunc] true),
  some (TI.mk (TypeDesc.array 6 4) 6 6 [Value.bool false, Value.bool false, Value.bool false, Value.bool false, Value.bool false, Value.bool false] true),
  some (TI.mk (TypeDesc.int IntKind.u64) 1 8 [Value.int IntKind.u64 (Int.ofNat 0)] true),
  some (TI.mk (TypeDesc.func (Array.mk [26, 5]) (Array.mk [4]) false) 1 8 [Value.nilFunc] true),
  some (TI.mk (TypeDesc.func (Array.mk [26, 54, 3]) (Array.mk [4]) false) 1 8 [Value.nilFunc] true),
  some (TI.mk (TypeDesc.tuple (Array.mk [3, 4])) 1 0 [Value.tuple (Array.mk [Value.int IntKind.i64 (Int.ofNat 0), Value.bool false])] true),
  some (TI.mk (TypeDesc.func (Array.mk [27, 3]) (Array.mk [3, 4]) false) 1 8 [Value.nilFunc] true),
  some (TI.mk (TypeDesc.func (Array.mk [3]) (Array.mk [27]) false) 1 8 [Value.nilFunc] true),
  some (TI.mk (TypeDesc.func (Array.mk [26, 3]) (Array.mk [27]) false) 1 8 [Value.nilFunc] true),
  some (TI.mk (TypeDesc.struct (Array.mk [Field.mk "Bed" 3 0 false "" "" 0, Field.mk "Flow" 64 1 false "" "" 8])) 3 24 [Value.int IntKind.i64 (Int.ofNat 0), Value.int IntKind.i64 (Int.ofNat 0), Value.int IntKind.i64 (Int.ofNat 0)] true),
  some (TI.mk (TypeDesc.struct (Array.mk [Field.mk "Bed" 3 0 false "" "" 0, Field.mk "Flow" 64 1 false "" "" 8])) 3 24 [Value.int IntKind.i64 (Int.ofNat 0), Value.int IntKind.i64 (Int.ofNat 0), Value.int IntKind.i64 (Int.ofNat 0)] true),
  some (TI.mk (TypeDesc.pointer 64) 1 8 [Value.pointer none] true),
  some (TI.mk (TypeDesc.func (Array.mk [49, 49]) (Array.mk [4]) false) 1 8 [Value.nilFunc] true),
  some (TI.mk (TypeDesc.func (Array.mk [26, 93, 5, 5]) (Array.mk [4]) false) 1 8 [Value.nilFunc] true),
  some (TI.mk (TypeDesc.struct (Array.mk [Field.mk "Bed" 3 0 false "" "" 0, Field.mk "Over" 4 1 false "" "" 8, Field.mk "Water" 64 2 false "" "" 16])) 4 32 [Value.int IntKind.i64 (Int.ofNat 0), Value.bool false, Value.int IntKind.i64 (Int.ofNat 0), Value.int IntKind.i64 (Int.ofNat 0)] true),
  some (TI.mk (TypeDesc.struct (Array.mk [Field.mk "Bed" 3 0 false "" "" 0, Field.mk "Over" 4 1 false "" "" 8, Field.mk "Water" 64 2 false "" "" 16])) 4 32 [Value.int IntKind.i64 (Int.ofNat 0), Value.bool false, Value.int IntKind.i64 (Int.ofNat 0), Value.int IntKind.i64 (Int.ofNat 0)] true),
  some (TI.mk (TypeDesc.func (Array.mk [26, 115, 5]) (Array.mk [4]) false) 1 8 [Value.nilFunc] true),
  some (TI.mk (TypeDesc.func (Array.mk [26, 3]) (Array.mk [26]) false) 1 8 [Value.nilFunc] true),
  some (TI.mk (TypeDesc.func (Array.mk [26, 5, 5]) (Array.mk [4]) false) 1 8 [Value.nilFunc] true),
  some (TI.mk (TypeDesc.func (Array.mk [27]) (Array.mk [4]) false) 1 8 [Value.nilFunc] true),
  some (TI.mk (TypeDesc.array 8 48) 24 192 [Value.int IntKind.i64 (Int.ofNat 0), Value.int IntKind.i64 (Int.ofNat 0), Value.int IntKind.i64 (Int.ofNat 0), Value.int IntKind.i64 (Int.ofNat 0), Value.int IntKind.i64 (Int.ofNat 0), Value.int IntKind.i64 (Int.ofNat 0), Value.int IntKind.i64 (Int.ofNat 0), Value.int IntKind.i64 (Int.ofNat 0), Value.int IntKind.i64 (Int.ofNat 0), Value.int IntKind.i64 (Int.ofNat 0), Value.int IntKind.i64 (Int.ofNat 0), Value.int IntKind.i64 (Int.ofNat 0), Value.int IntKind.i64 (Int.ofNat 0), Value.int IntKind.i64 (Int.ofNat 0), Value.int IntKind.i64 (Int.ofNat 0), Value.int IntKind.i64 (Int.ofNat 0), Value.int IntKind.i64 (Int.ofNat 0), Value.int IntKind.i64 (Int.ofNat 0), Value.int IntKind.i64 (Int.ofNat 0), Value.int IntKind.i64 (Int.ofNat 0), Value.int IntKind.i64 (Int.ofNat 0), Value.int IntKind.i64 (Int.ofNat 0), Value.int IntKind.i64 (Int.ofNat 0), Value.int IntKind.i64 (Int.ofNat 0)] true),
  some (TI.mk (TypeDesc.array 8 48) 24 192 [Value.int IntKind.i64 (Int.ofNat 0), Value.int IntKind.i64 (Int.ofNat 0), Value.int IntKind.i64 (Int.ofNat 0), Value.int IntKind.i64 (Int.ofNat 0), Value.int IntKind.i64 (Int.ofNat 0), Value.int IntKind.i64 (Int.ofNat 0), Value.int IntKind.i64 (Int.ofNat 0), Value.int IntKind.i64 (Int.ofNat 0), Value.int IntKind.i64 (Int.ofNat 0), Value.int IntKind.i64 (Int.ofNat 0), Value.int IntKind.i64 (Int.ofNat 0), Value.int IntKind.i64 (Int.ofNat 0), Value.int IntKind.i64 (Int.ofNat 0), Value.int IntKind.i64 (Int.ofNat 0), Value.int IntKind.i64 (Int.ofNat 0), Value.int IntKind.i64 (Int.ofNat 0), Value.int IntKind.i64 (Int.ofNat 0), Value.int IntKind.i64 (Int.ofNat 0), Value.int IntKind.i64 (Int.ofNat 0), Value.int IntKind.i64 (Int.ofNat 0), Value.int IntKind.i64 (Int.ofNat 0), Value.int IntKind.i64 (Int.ofNat 0), Value.int IntKind.i64 (Int.ofNat 0), Value.int IntKind.i64 (Int.ofNat 0)] true),
  some (TI.mk (TypeDesc.array 8 3) 8 64 [Value.int IntKind.i64 (Int.ofNat 0), Value.int IntKind.i64 (Int.ofNat 0), Value.int IntKind.i64 (Int.ofNat 0), Value.int IntKind.i64 (Int.ofNat 0), Value.int IntKind.i64 (Int.ofNat 0), Value.int IntKind.i64 (Int.ofNat 0), Value.int IntKind.i64 (Int.ofNat 0), Value.int IntKind.i64 (Int.ofNat 0)] true),
  some (TI.mk (TypeDesc.struct (Array.mk [Field.mk "Farm" 38 0 true "" "" 0, Field.mk "truths" 54 3 false "" "watercress/bed" 72, Field.mk "notches" 122 4 false "" "watercress/bed" 96])) 12 160 [Value.slice none 0 0, Value.slice none 0 0, Value.slice none 0 0, Value.slice none 0 0, Value.int IntKind.i64 (Int.ofNat 0), Value.int IntKind.i64 (Int.ofNat 0), Value.int IntKind.i64 (Int.ofNat 0), Value.int IntKind.i64 (Int.ofNat 0), Value.int IntKind.i64 (Int.ofNat 0), Value.int IntKind.i64 (Int.ofNat 0), Value.int IntKind.i64 (Int.ofNat 0), Value.int IntKind.i64 (Int.ofNat 0)] true),
  some (TI.mk (TypeDesc.struct (Array.mk [Field.mk "Farm" 38 0 true "" "" 0, Field.mk "truths" 54 3 false "" "watercress/bed" 72, Field.mk "notches" 122 4 false "" "watercress/bed" 96])) 12 160 [Value.slice none 0 0, Value.slice none 0 0, Value.slice none 0 0, Value.slice none 0 0, Value.int IntKind.i64 (Int.ofNat 0), Value.int IntKind.i64 (Int.ofNat 0), Value.int IntKind.i64 (Int.ofNat 0), Value.int IntKind.i64 (Int.ofNat 0), Value.int IntKind.i64 (Int.ofNat 0), Value.int IntKind.i64 (Int.ofNat 0), Value.int IntKind.i64 (Int.ofNat 0), Value.int IntKind.i64 (Int.ofNat 0)] true),
  some (TI.mk (TypeDesc.func (Array.mk [38]) (Array.mk [124]) false) 1 8 [Value.nilFunc] true),
  some (TI.mk (TypeDesc.func (Array.mk [27]) (Array.mk [121]) false) 1 8 [Value.nilFunc] true),
  some (TI.mk (TypeDesc.func (Array.mk [30]) (Array.mk [30]) false) 1 8 [Value.nilFunc] true),
  some (TI.mk (TypeDesc.func (Array.mk [64]) (Array.mk [61]) false) 1 8 [Value.nilFunc] true),
  some (TI.mk (TypeDesc.func (Array.mk [27, 121]) (Array.mk [4]) false) 1 8 [Value.nilFunc] true),
  some (TI.mk (TypeDesc.func (Array.mk []) (Array.mk [3]) false) 1 8 [Value.nilFunc] true),
  some (TI.mk (TypeDesc.func (Array.mk [26, 27, 115]) (Array.mk [4]) false) 1 8 [Value.nilFunc] true),
  some (TI.mk (TypeDesc.func (Array.mk [26, 27, 3]) (Array.mk [3]) false) 1 8 [Value.nilFunc] true),
  some (TI.mk (TypeDesc.tuple (Array.mk [124, 31])) 1 0 [Value.tuple (Array.mk [Value.agg (Array.mk [Value.slice none 0 0, Value.slice none 0 0, Value.slice none 0 0, Value.slice none 0 0, Value.int IntKind.i64 (Int.ofNat 0), Value.int IntKind.i64 (Int.ofNat 0), Value.int IntKind.i64 (Int.ofNat 0), Value.int IntKind.i64 (Int.ofNat 0), Value.int IntKind.i64 (Int.ofNat 0), Value.int IntKind.i64 (Int.ofNat 0), Value.int IntKind.i64 (Int.ofNat 0), Value.int IntKind.i64 (Int.ofNat 0)]), Value.int IntKind.i64 (Int.ofNat 0)])] true),
  some (TI.mk (TypeDesc.func (Array.mk [38, 4]) (Array.mk [124, 31]) false) 1 8 [Value.nilFunc] true),
  some (TI.mk (TypeDesc.func (Array.mk [48]) (Array.mk [3]) false) 1 8 [Value.nilFunc] true),
  some (TI.mk (TypeDesc.struct (Array.mk [Field.mk "of" 135 0 false "" "watercress/bed" 0])) 1 8 [Value.nilFunc] true),
  some (TI.mk (TypeDesc.struct (Array.mk [Field.mk "of" 135 0 false "" "watercress/bed" 0])) 1 8 [Value.nilFunc] true),
  some (TI.mk (TypeDesc.map 48 4) 1 8 [Value.map none] true),
  some (TI.mk (TypeDesc.func (Array.mk [3]) (Array.mk [138]) false) 1 8 [Value.nilFunc] true),
  some (TI.mk (TypeDesc.func (Array.mk [138]) (Array.mk [61]) false) 1 8 [Value.nilFunc] true),
  some (TI.mk (TypeDesc.func (Array.mk [3]) (Array.mk [4]) false) 1 8 [Value.nilFunc] true),
  some (TI.mk (TypeDesc.func (Array.mk []) (Array.mk [64]) false) 1 8 [Value.nilFunc] true),
  some (TI.mk (TypeDesc.func (Array.mk [64, 3]) (Array.mk [64]) false) 1 8 [Value.nilFunc] true),
  some (TI.mk (TypeDesc.func (Array.mk [64, 3, 3]) (Array.mk [4]) false) 1 8 [Value.nilFunc] true),
  some (TI.mk (TypeDesc.func (Array.mk [3, 27]) (Array.mk [4]) false) 1 8 [Value.nilFunc] true),
  some (TI.mk (TypeDesc.func (Array.mk [3, 3]) (Array.mk [124]) false) 1 8 [Value.nilFunc] true),
  some (TI.mk (TypeDesc.array 8 4) 8 8 [Value.bool false, Value.bool false, Value.bool false, Value.bool false, Value.bool false, Value.bool false, Value.bool false, Value.bool false] true),
  some (TI.mk (TypeDesc.func (Array.mk [121, 3]) (Array.mk [4]) false) 1 8 [Value.nilFunc] true),
  some (TI.mk (TypeDesc.func (Array.mk [119]) (Array.mk []) false) 1 8 [Value.nilFunc] true),
  some (TI.mk (TypeDesc.func (Array.mk [119]) (Array.mk []) false) 1 8 [Value.nilFunc] true),
  some (TI.mk (TypeDesc.func (Array.mk [3]) (Array.mk [150]) false) 1 8 [Value.nilFunc] true),
  some (TI.mk (TypeDesc.func (Array.mk []) (Array.mk [150]) false) 1 8 [Value.nilFunc] true),
  some (TI.mk (TypeDesc.func (Array.mk [27, 3]) (Array.mk [4]) false) 1 8 [Value.nilFunc] true),
  some (TI.mk (TypeDesc.func (Array.mk [27]) (Array.mk [124]) false) 1 8 [Value.nilFunc] true),
  some (TI.mk (TypeDesc.func (Array.mk [54, 119]) (Array.mk [3]) false) 1 8 [Value.nilFunc] true),
  some (TI.mk (TypeDesc.func (Array.mk [94, 3]) (Array.mk [3]) false) 1 8 [Value.nilFunc] true),
  some (TI.mk (TypeDesc.func (Array.mk [64]) (Array.mk [3]) false) 1 8 [Value.nilFunc] true),
  some (TI.mk (TypeDesc.func (Array.mk [61, 61]) (Array.mk [4]) false) 1 8 [Value.nilFunc] true),
  some (TI.mk (TypeDesc.func (Array.mk [27, 160]) (Array.mk [4]) false) 1 8 [Value.nilFunc] true),
  some (TI.mk (TypeDesc.func (Array.mk [3, 3]) (Array.mk [4]) false) 1 8 [Value.nilFunc] true),
  some (TI.mk (TypeDesc.func (Array.mk [3, 27]) (Array.mk [3]) true) 1 8 [Value.nilFunc] true),
  some (TI.mk (TypeDesc.func (Array.mk [36, 164]) (Array.mk [4]) false) 1 8 [Value.nilFunc] true),
  some (TI.mk (TypeDesc.func (Array.mk [121]) (Array.mk [4]) false) 1 8 [Value.nilFunc] true),
  some (TI.mk (TypeDesc.func (Array.mk [3, 92]) (Array.mk [4]) false) 1 8 [Value.nilFunc] true),
  some (TI.mk (TypeDesc.func (Array.mk [35, 166]) (Array.mk [4]) false) 1 8 [Value.nilFunc] true),
  some (TI.mk (TypeDesc.func (Array.mk [3, 87]) (Array.mk [4]) false) 1 8 [Value.nilFunc] true),
  some (TI.mk (TypeDesc.func (Array.mk [34, 168]) (Array.mk [4]) false) 1 8 [Value.nilFunc] true),
  some (TI.mk (TypeDesc.func (Array.mk [3, 89]) (Array.mk [4]) false) 1 8 [Value.nilFunc] true),
  some (TI.mk (TypeDesc.func (Array.mk [150]) (Array.mk [54]) false) 1 8 [Value.nilFunc] true),
  some (TI.mk (TypeDesc.func (Array.mk [27]) (Array.mk [3]) false) 1 8 [Value.nilFunc] true),
  some (TI.mk (TypeDesc.func (Array.mk [3]) (Array.mk [147]) false) 1 8 [Value.nilFunc] true),
  some (TI.mk (TypeDesc.func (Array.mk [54, 145]) (Array.mk [4]) false) 1 8 [Value.nilFunc] true),
  some (TI.mk (TypeDesc.func (Array.mk [27, 3]) (Array.mk [3]) false) 1 8 [Value.nilFunc] true),
  some (TI.mk (TypeDesc.func (Array.mk [54, 150]) (Array.mk [54]) false) 1 8 [Value.nilFunc] true),
  some (TI.mk (TypeDesc.func (Array.mk []) (Array.mk [9]) false) 1 8 [Value.nilFunc] true),
  some (TI.mk (TypeDesc.struct (Array.mk [Field.mk "_interface" 17 0 false "" "runtime" 0, Field.mk "concrete" 17 1 false "" "runtime" 8, Field.mk "asserted" 17 2 false "" "runtime" 16, Field.mk "missingMethod" 9 3 false "" "runtime" 24])) 4 40 [Value.pointer none, Value.pointer none, Value.pointer none, Value.string (ByteArray.mk (Array.mk []))] false),
  some (TI.mk (TypeDesc.struct (Array.mk [Field.mk "_interface" 17 0 false "" "runtime" 0, Field.mk "concrete" 17 1 false "" "runtime" 8, Field.mk "asserted" 17 2 false "" "runtime" 16, Field.mk "missingMethod" 9 3 false "" "runtime" 24])) 4 40 [Value.pointer none, Value.pointer none, Value.pointer none, Value.string (ByteArray.mk (Array.mk []))] false),
  some (TI.mk (TypeDesc.array 0 16) 0 0 [] true),
  some (TI.mk (TypeDesc.struct (Array.mk [Field.mk "_" 178 0 false "" "runtime" 0])) 0 0 [] false),
  some (TI.mk (TypeDesc.struct (Array.mk [Field.mk "_" 178 0 false "" "runtime" 0])) 0 0 [] false),
  some (TI.mk (TypeDesc.int IntKind.u32) 1 4 [Value.int IntKind.u32 (Int.ofNat 0)] true),
  some (TI.mk (TypeDesc.int IntKind.u8) 1 1 [Value.int IntKind.u8 (Int.ofNat 0)] true),
  some (TI.mk (TypeDesc.int IntKind.u8) 1 1 [Value.int IntKind.u8 (Int.ofNat 0)] true),
  some (TI.mk (TypeDesc.func (Array.mk [190, 190]) (Array.mk [4]) false) 1 8 [Value.nilFunc] true),
  some (TI.mk (TypeDesc.pointer 5) 1 8 [Value.pointer none] true),
  some (TI.mk (TypeDesc.int IntKind.i32) 1 4 [Value.int IntKind.i32 (Int.ofNat 0)] true),
  some (TI.mk (TypeDesc.int IntKind.i32) 1 4 [Value.int IntKind.i32 (Int.ofNat 0)] true),
  some (TI.mk (TypeDesc.struct (Array.mk [Field.mk "Size_" 12 0 false "" "" 0, Field.mk "PtrBytes" 12 1 false "" "" 8, Field.mk "Hash" 181 2 false "" "" 16, Field.mk "TFlag" 182 3 false "" "" 20, Field.mk "Align_" 5 4 false "" "" 21, Field.mk "FieldAlign_" 5 5 false "" "" 22, Field.mk "Kind_" 183 6 false "" "" 23, Field.mk "Equal" 184 7 false "" "" 24, Field.mk "GCData" 185 8 false "" "" 32, Field.mk "Str" 186 9 false "" "" 40, Field.mk "PtrToThis" 187 10 false "" "" 44])) 11 48 [Value.int IntKind.u64 (Int.ofNat 0), Value.int IntKind.u64 (Int.ofNat 0), Value.int IntKind.u32 (Int.ofNat 0), Value.int IntKind.u8 (Int.ofNat 0), Value.int IntKind.u8 (Int.ofNat 0), Value.int IntKind.u8 (Int.ofNat 0), Value.int IntKind.u8 (Int.ofNat 0), Value.nilFunc, Value.pointer none, Value.int IntKind.i32 (Int.ofNat 0), Value.int IntKind.i32 (Int.ofNat 0)] false),
  some (TI.mk (TypeDesc.struct (Array.mk [Field.mk "Size_" 12 0 false "" "" 0, Field.mk "PtrBytes" 12 1 false "" "" 8, Field.mk "Hash" 181 2 false "" "" 16, Field.mk "TFlag" 182 3 false "" "" 20, Field.mk "Align_" 5 4 false "" "" 21, Field.mk "FieldAlign_" 5 5 false "" "" 22, Field.mk "Kind_" 183 6 false "" "" 23, Field.mk "Equal" 184 7 false "" "" 24, Field.mk "GCData" 185 8 false "" "" 32, Field.mk "Str" 186 9 false "" "" 40, Field.mk "PtrToThis" 187 10 false "" "" 44])) 11 48 [Value.int IntKind.u64 (Int.ofNat 0), Value.int IntKind.u64 (Int.ofNat 0), Value.int IntKind.u32 (Int.ofNat 0), Value.int IntKind.u8 (Int.ofNat 0), Value.int IntKind.u8 (Int.ofNat 0), Value.int IntKind.u8 (Int.ofNat 0), Value.int IntKind.u8 (Int.ofNat 0), Value.nilFunc, Value.pointer none, Value.int IntKind.i32 (Int.ofNat 0), Value.int IntKind.i32 (Int.ofNat 0)] false),
  some (TI.mk TypeDesc.unsafePointer 1 8 [Value.pointer none] true)]
theorem tys_eq : tys = (List.range 191).map (tab Try.prog) := by kernel_rfl
def T : Ti := ofTab tys
theorem tok : TOk Try.prog T := ofTab_ok tys_eq
theorem mixed : Try.prog.follows .mixedOrders = true := by kernel_rfl
theorem en15 : Enters Try.prog 15 := fun args w => Go.Proofs.enters_of Try.func15 (by kernel_rfl) rfl args w
theorem en18 : Enters Try.prog 18 := fun args w => Go.Proofs.enters_of Try.func18 (by kernel_rfl) rfl args w
theorem en19 : Enters Try.prog 19 := fun args w => Go.Proofs.enters_of Try.func19 (by kernel_rfl) rfl args w
theorem en20 : Enters Try.prog 20 := fun args w => Go.Proofs.enters_of Try.func20 (by kernel_rfl) rfl args w
theorem en21 : Enters Try.prog 21 := fun args w => Go.Proofs.enters_of Try.func21 (by kernel_rfl) rfl args w
theorem en23 : Enters Try.prog 23 := fun args w => Go.Proofs.enters_of Try.func23 (by kernel_rfl) rfl args w
theorem en25 : Enters Try.prog 25 := fun args w => Go.Proofs.enters_of Try.func25 (by kernel_rfl) rfl args w
theorem en29 : Enters Try.prog 29 := fun args w => Go.Proofs.enters_of Try.func29 (by kernel_rfl) rfl args w
theorem en30 : Enters Try.prog 30 := fun args w => Go.Proofs.enters_of Try.func30 (by kernel_rfl) rfl args w
theorem en36 : Enters Try.prog 36 := fun args w => Go.Proofs.enters_of Try.func36 (by kernel_rfl) rfl args w
theorem en38 : Enters Try.prog 38 := fun args w => Go.Proofs.enters_of Try.func38 (by kernel_rfl) rfl args w
theorem en39 : Enters Try.prog 39 := fun args w => Go.Proofs.enters_of Try.func39 (by kernel_rfl) rfl args w
theorem en40 : Enters Try.prog 40 := fun args w => Go.Proofs.enters_of Try.func40 (by kernel_rfl) rfl args w
theorem en41 : Enters Try.prog 41 := fun args w => Go.Proofs.enters_of Try.func41 (by kernel_rfl) rfl args w
theorem en43 : Enters Try.prog 43 := fun args w => Go.Proofs.enters_of Try.func43 (by kernel_rfl) rfl args w
theorem en44 : Enters Try.prog 44 := fun args w => Go.Proofs.enters_of Try.func44 (by kernel_rfl) rfl args w
theorem en48 : Enters Try.prog 48 := fun args w => Go.Proofs.enters_of Try.func48 (by kernel_rfl) rfl args w
theorem en49 : Enters Try.prog 49 := fun args w => Go.Proofs.enters_of Try.func49 (by kernel_rfl) rfl args w
theorem en50 : Enters Try.prog 50 := fun args w => Go.Proofs.enters_of Try.func50 (by kernel_rfl) rfl args w
theorem en51 : Enters Try.prog 51 := fun args w => Go.Proofs.enters_of Try.func51 (by kernel_rfl) rfl args w
theorem en52 : Enters Try.prog 52 := fun args w => Go.Proofs.enters_of Try.func52 (by kernel_rfl) rfl args w
theorem en61 : Enters Try.prog 61 := fun args w => Go.Proofs.enters_of Try.func61 (by kernel_rfl) rfl args w
theorem en64 : Enters Try.prog 64 := fun args w => Go.Proofs.enters_of Try.func64 (by kernel_rfl) rfl args w
theorem en66 : Enters Try.prog 66 := fun args w => Go.Proofs.enters_of Try.func66 (by kernel_rfl) rfl args w
theorem en67 : Enters Try.prog 67 := fun args w => Go.Proofs.enters_of Try.func67 (by kernel_rfl) rfl args w
theorem en68 : Enters Try.prog 68 := fun args w => Go.Proofs.enters_of Try.func68 (by kernel_rfl) rfl args w
theorem en69 : Enters Try.prog 69 := fun args w => Go.Proofs.enters_of Try.func69 (by kernel_rfl) rfl args w
theorem en70 : Enters Try.prog 70 := fun args w => Go.Proofs.enters_of Try.func70 (by kernel_rfl) rfl args w
theorem en71 : Enters Try.prog 71 := fun args w => Go.Proofs.enters_of Try.func71 (by kernel_rfl) rfl args w
theorem en72 : Enters Try.prog 72 := fun args w => Go.Proofs.enters_of Try.func72 (by kernel_rfl) rfl args w
theorem en73 : Enters Try.prog 73 := fun args w => Go.Proofs.enters_of Try.func73 (by kernel_rfl) rfl args w
theorem en74 : Enters Try.prog 74 := fun args w => Go.Proofs.enters_of Try.func74 (by kernel_rfl) rfl args w
theorem en77 : Enters Try.prog 77 := fun args w => Go.Proofs.enters_of Try.func77 (by kernel_rfl) rfl args w
theorem en78 : Enters Try.prog 78 := fun args w => Go.Proofs.enters_of Try.func78 (by kernel_rfl) rfl args w
theorem en79 : Enters Try.prog 79 := fun args w => Go.Proofs.enters_of Try.func79 (by kernel_rfl) rfl args w
theorem en80 : Enters Try.prog 80 := fun args w => Go.Proofs.enters_of Try.func80 (by kernel_rfl) rfl args w
theorem en81 : Enters Try.prog 81 := fun args w => Go.Proofs.enters_of Try.func81 (by kernel_rfl) rfl args w
theorem en82 : Enters Try.prog 82 := fun args w => Go.Proofs.enters_of Try.func82 (by kernel_rfl) rfl args w
theorem en83 : Enters Try.prog 83 := fun args w => Go.Proofs.enters_of Try.func83 (by kernel_rfl) rfl args w
theorem en87 : Enters Try.prog 87 := fun args w => Go.Proofs.enters_of Try.func87 (by kernel_rfl) rfl args w
theorem en88 : Enters Try.prog 88 := fun args w => Go.Proofs.enters_of Try.func88 (by kernel_rfl) rfl args w
theorem en89 : Enters Try.prog 89 := fun args w => Go.Proofs.enters_of Try.func89 (by kernel_rfl) rfl args w
theorem en90 : Enters Try.prog 90 := fun args w => Go.Proofs.enters_of Try.func90 (by kernel_rfl) rfl args w
theorem en91 : Enters Try.prog 91 := fun args w => Go.Proofs.enters_of Try.func91 (by kernel_rfl) rfl args w
theorem en92 : Enters Try.prog 92 := fun args w => Go.Proofs.enters_of Try.func92 (by kernel_rfl) rfl args w
theorem en93 : Enters Try.prog 93 := fun args w => Go.Proofs.enters_of Try.func93 (by kernel_rfl) rfl args w
theorem en94 : Enters Try.prog 94 := fun args w => Go.Proofs.enters_of Try.func94 (by kernel_rfl) rfl args w
theorem en95 : Enters Try.prog 95 := fun args w => Go.Proofs.enters_of Try.func95 (by kernel_rfl) rfl args w
theorem en96 : Enters Try.prog 96 := fun args w => Go.Proofs.enters_of Try.func96 (by kernel_rfl) rfl args w
theorem en98 : Enters Try.prog 98 := fun args w => Go.Proofs.enters_of Try.func98 (by kernel_rfl) rfl args w
theorem en99 : Enters Try.prog 99 := fun args w => Go.Proofs.enters_of Try.func99 (by kernel_rfl) rfl args w
theorem en100 : Enters Try.prog 100 := fun args w => Go.Proofs.enters_of Try.func100 (by kernel_rfl) rfl args w
theorem en101 : Enters Try.prog 101 := fun args w => Go.Proofs.enters_of Try.func101 (by kernel_rfl) rfl args w
theorem en105 : Enters Try.prog 105 := fun args w => Go.Proofs.enters_of Try.func105 (by kernel_rfl) rfl args w
theorem en107 : Enters Try.prog 107 := fun args w => Go.Proofs.enters_of Try.func107 (by kernel_rfl) rfl args w
theorem en108 : Enters Try.prog 108 := fun args w => Go.Proofs.enters_of Try.func108 (by kernel_rfl) rfl args w
theorem en109 : Enters Try.prog 109 := fun args w => Go.Proofs.enters_of Try.func109 (by kernel_rfl) rfl args w
theorem en110 : Enters Try.prog 110 := fun args w => Go.Proofs.enters_of Try.func110 (by kernel_rfl) rfl args w
theorem en111 : Enters Try.prog 111 := fun args w => Go.Proofs.enters_of Try.func111 (by kernel_rfl) rfl args w
theorem en112 : Enters Try.prog 112 := fun args w => Go.Proofs.enters_of Try.func112 (by kernel_rfl) rfl args w
theorem en113 : Enters Try.prog 113 := fun args w => Go.Proofs.enters_of Try.func113 (by kernel_rfl) rfl args w
theorem en114 : Enters Try.prog 114 := fun args w => Go.Proofs.enters_of Try.func114 (by kernel_rfl) rfl args w
theorem en115 : Enters Try.prog 115 := fun args w => Go.Proofs.enters_of Try.func115 (by kernel_rfl) rfl args w
theorem en116 : Enters Try.prog 116 := fun args w => Go.Proofs.enters_of Try.func116 (by kernel_rfl) rfl args w
theorem en117 : Enters Try.prog 117 := fun args w => Go.Proofs.enters_of Try.func117 (by kernel_rfl) rfl args w
theorem en118 : Enters Try.prog 118 := fun args w => Go.Proofs.enters_of Try.func118 (by kernel_rfl) rfl args w
theorem en119 : Enters Try.prog 119 := fun args w => Go.Proofs.enters_of Try.func119 (by kernel_rfl) rfl args w
theorem en120 : Enters Try.prog 120 := fun args w => Go.Proofs.enters_of Try.func120 (by kernel_rfl) rfl args w
theorem en121 : Enters Try.prog 121 := fun args w => Go.Proofs.enters_of Try.func121 (by kernel_rfl) rfl args w
theorem en122 : Enters Try.prog 122 := fun args w => Go.Proofs.enters_of Try.func122 (by kernel_rfl) rfl args w
theorem en123 : Enters Try.prog 123 := fun args w => Go.Proofs.enters_of Try.func123 (by kernel_rfl) rfl args w
theorem en124 : Enters Try.prog 124 := fun args w => Go.Proofs.enters_of Try.func124 (by kernel_rfl) rfl args w
theorem en125 : Enters Try.prog 125 := fun args w => Go.Proofs.enters_of Try.func125 (by kernel_rfl) rfl args w
theorem en126 : Enters Try.prog 126 := fun args w => Go.Proofs.enters_of Try.func126 (by kernel_rfl) rfl args w
theorem en127 : Enters Try.prog 127 := fun args w => Go.Proofs.enters_of Try.func127 (by kernel_rfl) rfl args w
theorem en128 : Enters Try.prog 128 := fun args w => Go.Proofs.enters_of Try.func128 (by kernel_rfl) rfl args w
theorem en129 : Enters Try.prog 129 := fun args w => Go.Proofs.enters_of Try.func129 (by kernel_rfl) rfl args w
theorem en130 : Enters Try.prog 130 := fun args w => Go.Proofs.enters_of Try.func130 (by kernel_rfl) rfl args w
theorem en131 : Enters Try.prog 131 := fun args w => Go.Proofs.enters_of Try.func131 (by kernel_rfl) rfl args w
theorem en132 : Enters Try.prog 132 := fun args w => Go.Proofs.enters_of Try.func132 (by kernel_rfl) rfl args w
theorem en133 : Enters Try.prog 133 := fun args w => Go.Proofs.enters_of Try.func133 (by kernel_rfl) rfl args w
theorem en134 : Enters Try.prog 134 := fun args w => Go.Proofs.enters_of Try.func134 (by kernel_rfl) rfl args w
theorem en135 : Enters Try.prog 135 := fun args w => Go.Proofs.enters_of Try.func135 (by kernel_rfl) rfl args w
theorem en136 : Enters Try.prog 136 := fun args w => Go.Proofs.enters_of Try.func136 (by kernel_rfl) rfl args w
theorem en137 : Enters Try.prog 137 := fun args w => Go.Proofs.enters_of Try.func137 (by kernel_rfl) rfl args w
end Go.Fz
