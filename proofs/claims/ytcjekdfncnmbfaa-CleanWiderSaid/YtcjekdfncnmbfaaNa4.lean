/- Own work of the verifier of watercress: Lb4. -/
import Derived.Shelf.Abstract
import Derived.Test.YtcjekdfncnmbfaaProg
import Derived.Test.YtcjekdfncnmbfaaNa3
set_option linter.unusedVariables false
set_option linter.unusedSimpArgs false
namespace Go.Fz
open Go.Proofs
def tys : List (Option TI) :=
 [some (TI.mk (TypeDesc.tuple (Array.mk [])) 1 0 [Value.tuple (Array.mk [])] true),
  some (TI.mk (TypeDesc.func (Array.mk []) (Array.mk []) false) 1 8 [Value.nilFunc] true),
  some (TI.mk (TypeDesc.int IntKind.i64) 1 8 [Value.int IntKind.i64 (Int.ofNat 0)] true),
  some (TI.mk (TypeDesc.int IntKind.i64) 1 8 [Value.int IntKind.i64 (Int.ofNat 0)] true),
  some (TI.mk TypeDesc.bool 1 1 [Value.bool false] true),
  some (TI.mk (TypeDesc.int IntKind.u8) 1 1 [Value.int IntKind.u8 (Int.ofNat 0)] true),
  some (TI.mk (TypeDesc.int IntKind.u8) 1 1 [Value.int IntKind.u8 (Int.ofNat 0)] true),
  some (TI.mk (TypeDesc.struct (Array.mk [Field.mk "x" 2 0 false "" "runtime" 0, Field.mk "y" 3 1 false "" "runtime" 8, Field.mk "signed" 4 2 false "" "runtime" 16, Field.mk "code" 6 3 false "" "runtime" 17])) 4 24 [Value.int IntKind.i64 (Int.ofNat 0), Value.int IntKind.i64 (Int.ofNat 0), Value.bool false, Value.int IntKind.u8 (Int.ofNat 0)] true),
  some (TI.mk (TypeDesc.struct (Array.mk [Field.mk "x" 2 0 false "" "runtime" 0, Field.mk "y" 3 1 false "" "runtime" 8, Field.mk "signed" 4 2 false "" "runtime" 16, Field.mk "code" 6 3 false "" "runtime" 17])) 4 24 [Value.int IntKind.i64 (Int.ofNat 0), Value.int IntKind.i64 (Int.ofNat 0), Value.bool false, Value.int IntKind.u8 (Int.ofNat 0)] true),
  some (TI.mk TypeDesc.string 1 16 [Value.string (ByteArray.mk (Array.mk []))] true),
  some (TI.mk TypeDesc.string 1 16 [Value.string (ByteArray.mk (Array.mk []))] true),
  some (TI.mk TypeDesc.string 1 16 [Value.string (ByteArray.mk (Array.mk []))] true),
  some (TI.mk (TypeDesc.int IntKind.u64) 1 8 [Value.int IntKind.u64 (Int.ofNat 0)] true),
  some (TI.mk (TypeDesc.struct (Array.mk [Field.mk "msg" 9 0 false "" "runtime" 0, Field.mk "addr" 12 1 false "" "runtime" 16])) 2 24 [Value.string (ByteArray.mk (Array.mk [])), Value.int IntKind.u64 (Int.ofNat 0)] false),
  some (TI.mk (TypeDesc.struct (Array.mk [Field.mk "msg" 9 0 false "" "runtime" 0, Field.mk "addr" 12 1 false "" "runtime" 16])) 2 24 [Value.string (ByteArray.mk (Array.mk [])), Value.int IntKind.u64 (Int.ofNat 0)] false),
  some (TI.mk (TypeDesc.pointer 151) 1 8 [Value.pointer none] true),
  some (TI.mk (TypeDesc.pointer 154) 1 8 [Value.pointer none] true),
  some (TI.mk (TypeDesc.pointer 163) 1 8 [Value.pointer none] true),
  some (TI.mk (TypeDesc.struct (Array.mk [Field.mk "typ" 17 0 false "" "internal/runtime/maps" 0])) 1 8 [Value.pointer none] false),
  some (TI.mk (TypeDesc.struct (Array.mk [Field.mk "typ" 17 0 false "" "internal/runtime/maps" 0])) 1 8 [Value.pointer none] false),
  some (TI.mk (TypeDesc.interface (Array.mk [])) 1 16 [Value.nilIface] true),
  some (TI.mk (TypeDesc.int IntKind.i32) 1 4 [Value.int IntKind.i32 (Int.ofNat 0)] true),
  some (TI.mk (TypeDesc.slice 71) 1 24 [Value.slice none 0 0] true),
  some (TI.mk (TypeDesc.slice 76) 1 24 [Value.slice none 0 0] true),
  some (TI.mk (TypeDesc.struct (Array.mk [Field.mk "Last" 3 0 false "" "" 0, Field.mk "Hands" 3 1 false "" "" 8, Field.mk "Beds" 22 2 false "" "" 16, Field.mk "Claims" 23 3 false "" "" 40])) 4 64 [Value.int IntKind.i64 (Int.ofNat 0), Value.int IntKind.i64 (Int.ofNat 0), Value.slice none 0 0, Value.slice none 0 0] true),
  some (TI.mk (TypeDesc.struct (Array.mk [Field.mk "Last" 3 0 false "" "" 0, Field.mk "Hands" 3 1 false "" "" 8, Field.mk "Beds" 22 2 false "" "" 16, Field.mk "Claims" 23 3 false "" "" 40])) 4 64 [Value.int IntKind.i64 (Int.ofNat 0), Value.int IntKind.i64 (Int.ofNat 0), Value.slice none 0 0, Value.slice none 0 0] true),
  some (TI.mk (TypeDesc.slice 3) 1 24 [Value.slice none 0 0] true),
  some (TI.mk (TypeDesc.func (Array.mk [25]) (Array.mk [4]) false) 1 8 [Value.nilFunc] true),
  some (TI.mk (TypeDesc.func (Array.mk []) (Array.mk [4]) false) 1 8 [Value.nilFunc] true),
  some (TI.mk (TypeDesc.int IntKind.i64) 1 8 [Value.int IntKind.i64 (Int.ofNat 0)] true),
  some (TI.mk (TypeDesc.tuple (Array.mk [26, 29])) 1 0 [Value.tuple (Array.mk [Value.slice none 0 0, Value.int IntKind.i64 (Int.ofNat 0)])] true),
  some (TI.mk (TypeDesc.func (Array.mk [35]) (Array.mk [26, 29]) false) 1 8 [Value.nilFunc] true),
  some (TI.mk (TypeDesc.slice 95) 1 24 [Value.slice none 0 0] true),
  some (TI.mk (TypeDesc.slice 97) 1 24 [Value.slice none 0 0] true),
  some (TI.mk (TypeDesc.struct (Array.mk [Field.mk "Last" 3 0 false "" "" 0, Field.mk "Hands" 3 1 false "" "" 8, Field.mk "Beds" 32 2 false "" "" 16, Field.mk "Claims" 33 3 false "" "" 40])) 4 64 [Value.int IntKind.i64 (Int.ofNat 0), Value.int IntKind.i64 (Int.ofNat 0), Value.slice none 0 0, Value.slice none 0 0] true),
  some (TI.mk (TypeDesc.struct (Array.mk [Field.mk "Last" 3 0 false "" "" 0, Field.mk "Hands" 3 1 false "" "" 8, Field.mk "Beds" 32 2 false "" "" 16, Field.mk "Claims" 33 3 false "" "" 40])) 4 64 [Value.int IntKind.i64 (Int.ofNat 0), Value.int IntKind.i64 (Int.ofNat 0), Value.slice none 0 0, Value.slice none 0 0] true),
  some (TI.mk (TypeDesc.func (Array.mk [25]) (Array.mk [35]) false) 1 8 [Value.nilFunc] true),
  some (TI.mk (TypeDesc.func (Array.mk [35, 26]) (Array.mk [4]) false) 1 8 [Value.nilFunc] true),
  some (TI.mk (TypeDesc.func (Array.mk [26]) (Array.mk [26]) false) 1 8 [Value.nilFunc] true),
  some (TI.mk (TypeDesc.func (Array.mk [35]) (Array.mk [29]) false) 1 8 [Value.nilFunc] true),
  some (TI.mk (TypeDesc.func (Array.mk [25]) (Array.mk [29]) false) 1 8 [Value.nilFunc] true),
  some (TI.mk (TypeDesc.func (Array.mk [25, 26]) (Array.mk [4]) false) 1 8 [Value.nilFunc] true),
  some (TI.mk (TypeDesc.slice 26) 1 24 [Value.slice none 0 0] true),
  some (TI.mk (TypeDesc.tuple (Array.mk [42, 29])) 1 0 [Value.tuple (Array.mk [Value.slice none 0 0, Value.int IntKind.i64 (Int.ofNat 0)])] true),
  some (TI.mk (TypeDesc.func (Array.mk [25]) (Array.mk [42, 29]) false) 1 8 [Value.nilFunc] true),
  some (TI.mk (TypeDesc.func (Array.mk [35, 3]) (Array.mk [26, 29]) false) 1 8 [Value.nilFunc] true),
  some (TI.mk (TypeDesc.tuple (Array.mk [3, 29])) 1 0 [Value.tuple (Array.mk [Value.int IntKind.i64 (Int.ofNat 0), Value.int IntKind.i64 (Int.ofNat 0)])] true),
  some (TI.mk (TypeDesc.func (Array.mk [35, 3, 3]) (Array.mk [3, 29]) false) 1 8 [Value.nilFunc] true),
  some (TI.mk (TypeDesc.func (Array.mk [3, 3, 3]) (Array.mk [4]) false) 1 8 [Value.nilFunc] true),
  some (TI.mk (TypeDesc.func (Array.mk [26, 26]) (Array.mk [4]) false) 1 8 [Value.nilFunc] true),
  some (TI.mk (TypeDesc.func (Array.mk [25, 42, 3]) (Array.mk [26]) false) 1 8 [Value.nilFunc] true),
  some (TI.mk (TypeDesc.func (Array.mk [25, 42, 3, 3]) (Array.mk [3]) false) 1 8 [Value.nilFunc] true),
  some (TI.mk (TypeDesc.func (Array.mk [25, 3, 3]) (Array.mk [4]) false) 1 8 [Value.nilFunc] true),
  some (TI.mk (TypeDesc.func (Array.mk [35]) (Array.mk [3, 29]) false) 1 8 [Value.nilFunc] true),
  some (TI.mk (TypeDesc.tuple (Array.mk [3, 4])) 1 0 [Value.tuple (Array.mk [Value.int IntKind.i64 (Int.ofNat 0), Value.bool false])] true),
  some (TI.mk (TypeDesc.func (Array.mk [25, 26]) (Array.mk [3, 4]) false) 1 8 [Value.nilFunc] true),
  some (TI.mk (TypeDesc.func (Array.mk [25, 3]) (Array.mk [4]) false) 1 8 [Value.nilFunc] true),
  some (TI.mk (TypeDesc.func (Array.mk [25]) (Array.mk [3]) false) 1 8 [Value.nilFunc] true),
  some (TI.mk (TypeDesc.tuple (Array.mk [26, 4])) 1 0 [Value.tuple (Array.mk [Value.slice none 0 0, Value.bool false])] true),
  some (TI.mk (TypeDesc.func (Array.mk [25]) (Array.mk [26, 4]) false) 1 8 [Value.nilFunc] true),
  some (TI.mk (TypeDesc.func (Array.mk [25, 42]) (Array.mk [26]) false) 1 8 [Value.nilFunc] true),
  some (TI.mk (TypeDesc.func (Array.mk [25, 42]) (Array.mk [3]) false) 1 8 [Value.nilFunc] true),
  some (TI.mk (TypeDesc.int IntKind.u16) 1 2 [Value.int IntKind.u16 (Int.ofNat 0)] true),
  some (TI.mk (TypeDesc.func (Array.mk [25, 3, 3]) (Array.mk [26]) false) 1 8 [Value.nilFunc] true),
  some (TI.mk (TypeDesc.func (Array.mk [25, 3]) (Array.mk [3]) false) 1 8 [Value.nilFunc] true),
  some (TI.mk (TypeDesc.func (Array.mk [25, 26, 3, 3]) (Array.mk [4]) false) 1 8 [Value.nilFunc] true),
  some (TI.mk (TypeDesc.func (Array.mk [26, 3]) (Array.mk [4]) false) 1 8 [Value.nilFunc] true),
  some (TI.mk (TypeDesc.func (Array.mk [25, 62, 5, 5]) (Array.mk [4]) false) 1 8 [Value.nilFunc] true),
  some (TI.mk (TypeDesc.struct (Array.mk [Field.mk "Lo" 3 0 false "" "" 0, Field.mk "Hi" 3 1 false "" "" 8])) 2 16 [Value.int IntKind.i64 (Int.ofNat 0), Value.int IntKind.i64 (Int.ofNat 0)] true),
  some (TI.mk (TypeDesc.struct (Array.mk [Field.mk "Lo" 3 0 false "" "" 0, Field.mk "Hi" 3 1 false "" "" 8])) 2 16 [Value.int IntKind.i64 (Int.ofNat 0), Value.int IntKind.i64 (Int.ofNat 0)] true),
  some (TI.mk (TypeDesc.struct (Array.mk [Field.mk "Long" 3 0 false "" "" 0, Field.mk "Begin" 69 1 false "" "" 8])) 3 24 [Value.int IntKind.i64 (Int.ofNat 0), Value.int IntKind.i64 (Int.ofNat 0), Value.int IntKind.i64 (Int.ofNat 0)] true),
  some (TI.mk (TypeDesc.struct (Array.mk [Field.mk "Long" 3 0 false "" "" 0, Field.mk "Begin" 69 1 false "" "" 8])) 3 24 [Value.int IntKind.i64 (Int.ofNat 0), Value.int IntKind.i64 (Int.ofNat 0), Value.int IntKind.i64 (Int.ofNat 0)] true),
  some (TI.mk (TypeDesc.func (Array.mk [25, 5, 5]) (Array.mk [4]) false) 1 8 [Value.nilFunc] true),
  some (TI.mk (TypeDesc.func (Array.mk [3]) (Array.mk [26]) false) 1 8 [Value.nilFunc] true),
  some (TI.mk (TypeDesc.int IntKind.u64) 1 8 [Value.int IntKind.u64 (Int.ofNat 0)] true),
  some (TI.mk (TypeDesc.struct (Array.mk [Field.mk "Bed" 3 0 false "" "" 0, Field.mk "Began" 69 1 false "" "" 8])) 3 24 [Value.int IntKind.i64 (Int.ofNat 0), Value.int IntKind.i64 (Int.ofNat 0), Value.int IntKind.i64 (Int.ofNat 0)] true),
  some (TI.mk (TypeDesc.struct (Array.mk [Field.mk "Bed" 3 0 false "" "" 0, Field.mk "Began" 69 1 false "" "" 8])) 3 24 [Value.int IntKind.i64 (Int.ofNat 0), Value.int IntKind.i64 (Int.ofNat 0), Value.int IntKind.i64 (Int.ofNat 0)] true),
  some (TI.mk (TypeDesc.func (Array.mk [25, 76, 5, 5]) (Array.mk [4]) false) 1 8 [Value.nilFunc] true),
  some (TI.mk (TypeDesc.pointer 71) 1 8 [Value.pointer none] true),
  some (TI.mk (TypeDesc.pointer 69) 1 8 [Value.pointer none] true),
  some (TI.mk (TypeDesc.func (Array.mk [25, 5, 5, 5]) (Array.mk [4]) false) 1 8 [Value.nilFunc] true),
  some (TI.mk (TypeDesc.func (Array.mk [25, 3]) (Array.mk [25]) false) 1 8 [Value.nilFunc] true),
  some (TI.mk (TypeDesc.func (Array.mk [25, 5]) (Array.mk [4]) false) 1 8 [Value.nilFunc] true),
  some (TI.mk (TypeDesc.func (Array.mk [25, 71, 5]) (Array.mk [4]) false) 1 8 [Value.nilFunc] true),
  some (TI.mk (TypeDesc.func (Array.mk [33]) (Array.mk [35]) true) 1 8 [Value.nilFunc] true),
  some (TI.mk (TypeDesc.func (Array.mk [3]) (Array.mk [35]) false) 1 8 [Value.nilFunc] true),
  some (TI.mk (TypeDesc.func (Array.mk []) (Array.mk [33]) false) 1 8 [Value.nilFunc] true),
  some (TI.mk (TypeDesc.slice 91) 1 24 [Value.slice none 0 0] true),
  some (TI.mk (TypeDesc.tuple (Array.mk [87, 29])) 1 0 [Value.tuple (Array.mk [Value.slice none 0 0, Value.int IntKind.i64 (Int.ofNat 0)])] true),
  some (TI.mk (TypeDesc.func (Array.mk [35, 4]) (Array.mk [87, 29]) false) 1 8 [Value.nilFunc] true),
  some (TI.mk (TypeDesc.array 6 3) 6 48 [Value.int IntKind.i64 (Int.ofNat 0), Value.int IntKind.i64 (Int.ofNat 0), Value.int IntKind.i64 (Int.ofNat 0), Value.int IntKind.i64 (Int.ofNat 0), Value.int IntKind.i64 (Int.ofNat 0), Value.int IntKind.i64 (Int.ofNat 0)] true),
  some (TI.mk (TypeDesc.array 6 3) 6 48 [Value.int IntKind.i64 (Int.ofNat 0), Value.int IntKind.i64 (Int.ofNat 0), Value.int IntKind.i64 (Int.ofNat 0), Value.int IntKind.i64 (Int.ofNat 0), Value.int IntKind.i64 (Int.ofNat 0), Value.int IntKind.i64 (Int.ofNat 0)] true),
  some (TI.mk (TypeDesc.struct (Array.mk [Field.mk "Lo" 3 0 false "" "" 0, Field.mk "Hi" 3 1 false "" "" 8])) 2 16 [Value.int IntKind.i64 (Int.ofNat 0), Value.int IntKind.i64 (Int.ofNat 0)] true),
  some (TI.mk (TypeDesc.func (Array.mk [69]) (Array.mk [92]) false) 1 8 [Value.nilFunc] true),
  some (TI.mk (TypeDesc.struct (Array.mk [Field.mk "Long" 3 0 false "" "" 0, Field.mk "Begin" 92 1 false "" "" 8])) 3 24 [Value.int IntKind.i64 (Int.ofNat 0), Value.int IntKind.i64 (Int.ofNat 0), Value.int IntKind.i64 (Int.ofNat 0)] true),
  some (TI.mk (TypeDesc.struct (Array.mk [Field.mk "Long" 3 0 false "" "" 0, Field.mk "Begin" 92 1 false "" "" 8])) 3 24 [Value.int IntKind.i64 (Int.ofNat 0), Value.int IntKind.i64 (Int.ofNat 0), Value.int IntKind.i64 (Int.ofNat 0)] true),
  some (TI.mk (TypeDesc.struct (Array.mk [Field.mk "Bed" 3 0 false "" "" 0, Field.mk "Began" 92 1 false "" "" 8])) 3 24 [Value.int IntKind.i64 (Int.ofNat 0), Value.int IntKind.i64 (Int.ofNat 0), Value.int IntKind.i64 (Int.ofNat 0)] true),
  some (TI.mk (TypeDesc.struct (Array.mk [Field.mk "Bed" 3 0 false "" "" 0, Field.mk "Began" 92 1 false "" "" 8])) 3 24 [Value.int IntKind.i64 (Int.ofNat 0), Value.int IntKind.i64 (Int.ofNat 0), Value.int IntKind.i64 (Int.ofNat 0)] true),
  some (TI.mk (TypeDesc.func (Array.mk [87, 91]) (Array.mk [4]) false) 1 8 [Value.nilFunc] true),
  some (TI.mk (TypeDesc.func (Array.mk []) (Array.mk [3]) false) 1 8 [Value.nilFunc] true),
  some (TI.mk (TypeDesc.func (Array.mk [25, 26]) (Array.mk [3]) false) 1 8 [Value.nilFunc] true),
  some (TI.mk (TypeDesc.func (Array.mk [25, 42, 3]) (Array.mk [42]) false) 1 8 [Value.nilFunc] true),
  some (TI.mk (TypeDesc.func (Array.mk [3]) (Array.mk [4]) false) 1 8 [Value.nilFunc] true),
  some (TI.mk (TypeDesc.func (Array.mk [102]) (Array.mk []) false) 1 8 [Value.nilFunc] true),
  some (TI.mk (TypeDesc.func (Array.mk [102]) (Array.mk []) false) 1 8 [Value.nilFunc] true),
  some (TI.mk (TypeDesc.func (Array.mk []) (Array.mk [104]) false) 1 8 [Value.nilFunc] true),
  some (TI.mk (TypeDesc.func (Array.mk [87, 107]) (Array.mk [4]) false) 1 8 [Value.nilFunc] true),
  some (TI.mk (TypeDesc.func (Array.mk [91]) (Array.mk [4]) false) 1 8 [Value.nilFunc] true),
  some (TI.mk (TypeDesc.map 4 4) 1 8 [Value.map none] true),
  some (TI.mk (TypeDesc.func (Array.mk [3]) (Array.mk [92]) false) 1 8 [Value.nilFunc] true),
  some (TI.mk (TypeDesc.func (Array.mk [26]) (Array.mk [4]) false) 1 8 [Value.nilFunc] true),
  some (TI.mk (TypeDesc.func (Array.mk []) (Array.mk [26]) false) 1 8 [Value.nilFunc] true),
  some (TI.mk (TypeDesc.func (Array.mk [110]) (Array.mk []) false) 1 8 [Value.nilFunc] true),
  some (TI.mk (TypeDesc.func (Array.mk [110]) (Array.mk []) false) 1 8 [Value.nilFunc] true),
  some (TI.mk (TypeDesc.func (Array.mk [3]) (Array.mk [113]) false) 1 8 [Value.nilFunc] true),
  some (TI.mk (TypeDesc.func (Array.mk [91]) (Array.mk [3]) false) 1 8 [Value.nilFunc] true),
  some (TI.mk (TypeDesc.func (Array.mk [91]) (Array.mk [26]) false) 1 8 [Value.nilFunc] true),
  some (TI.mk (TypeDesc.func (Array.mk [25]) (Array.mk [42]) false) 1 8 [Value.nilFunc] true),
  some (TI.mk (TypeDesc.func (Array.mk [25, 69]) (Array.mk [4]) false) 1 8 [Value.nilFunc] true),
  some (TI.mk (TypeDesc.func (Array.mk [3, 3]) (Array.mk [92]) false) 1 8 [Value.nilFunc] true),
  some (TI.mk (TypeDesc.func (Array.mk [87, 107]) (Array.mk [87]) false) 1 8 [Value.nilFunc] true),
  some (TI.mk (TypeDesc.func (Array.mk [87, 91]) (Array.mk [3]) false) 1 8 [Value.nilFunc] true),
  some (TI.mk (TypeDesc.func (Array.mk [32, 123]) (Array.mk [4]) false) 1 8 [Value.nilFunc] true),
  some (TI.mk (TypeDesc.func (Array.mk [3, 95]) (Array.mk [4]) false) 1 8 [Value.nilFunc] true),
  some (TI.mk (TypeDesc.func (Array.mk [33, 125]) (Array.mk [4]) false) 1 8 [Value.nilFunc] true),
  some (TI.mk (TypeDesc.func (Array.mk [3, 97]) (Array.mk [4]) false) 1 8 [Value.nilFunc] true),
  some (TI.mk (TypeDesc.func (Array.mk [87, 107]) (Array.mk [3]) false) 1 8 [Value.nilFunc] true),
  some (TI.mk (TypeDesc.func (Array.mk [107]) (Array.mk []) false) 1 8 [Value.nilFunc] true),
  some (TI.mk (TypeDesc.func (Array.mk [107]) (Array.mk []) false) 1 8 [Value.nilFunc] true),
  some (TI.mk (TypeDesc.func (Array.mk [26]) (Array.mk [128]) false) 1 8 [Value.nilFunc] true),
  some (TI.mk (TypeDesc.func (Array.mk [3, 3]) (Array.mk [4]) false) 1 8 [Value.nilFunc] true),
  some (TI.mk (TypeDesc.func (Array.mk [26, 130]) (Array.mk [4]) false) 1 8 [Value.nilFunc] true),
  some (TI.mk (TypeDesc.func (Array.mk [128]) (Array.mk [87]) false) 1 8 [Value.nilFunc] true),
  some (TI.mk (TypeDesc.func (Array.mk [3, 26]) (Array.mk [3]) true) 1 8 [Value.nilFunc] true),
  some (TI.mk (TypeDesc.map 147 4) 1 8 [Value.map none] true),
  some (TI.mk (TypeDesc.struct (Array.mk [Field.mk "Yard" 35 0 true "" "" 0, Field.mk "empty" 134 4 false "" "watercress/clean" 64])) 5 72 [Value.int IntKind.i64 (Int.ofNat 0), Value.int IntKind.i64 (Int.ofNat 0), Value.slice none 0 0, Value.slice none 0 0, Value.map none] true),
  some (TI.mk (TypeDesc.struct (Array.mk [Field.mk "Yard" 35 0 true "" "" 0, Field.mk "empty" 134 4 false "" "watercress/clean" 64])) 5 72 [Value.int IntKind.i64 (Int.ofNat 0), Value.int IntKind.i64 (Int.ofNat 0), Value.slice none 0 0, Value.slice none 0 0, Value.map none] true),
  some (TI.mk (TypeDesc.func (Array.mk [3, 3, 4]) (Array.mk []) false) 1 8 [Value.nilFunc] true),
  some (TI.mk (TypeDesc.func (Array.mk [87, 128]) (Array.mk [87]) false) 1 8 [Value.nilFunc] true),
  some (TI.mk (TypeDesc.func (Array.mk [26, 3]) (Array.mk [3]) false) 1 8 [Value.nilFunc] true),
  some (TI.mk (TypeDesc.func (Array.mk [136, 3, 3]) (Array.mk [4]) false) 1 8 [Value.nilFunc] true),
  some (TI.mk (TypeDesc.struct (Array.mk [Field.mk "is" 140 0 false "" "watercress/clean" 0])) 1 8 [Value.nilFunc] true),
  some (TI.mk (TypeDesc.struct (Array.mk [Field.mk "is" 140 0 false "" "watercress/clean" 0])) 1 8 [Value.nilFunc] true),
  some (TI.mk (TypeDesc.slice 142) 1 24 [Value.slice none 0 0] true),
  some (TI.mk (TypeDesc.func (Array.mk [143, 145]) (Array.mk [4]) false) 1 8 [Value.nilFunc] true),
  some (TI.mk (TypeDesc.func (Array.mk [3, 142]) (Array.mk [4]) false) 1 8 [Value.nilFunc] true),
  some (TI.mk (TypeDesc.struct (Array.mk [Field.mk "bed" 3 0 false "" "watercress/clean" 0, Field.mk "week" 3 1 false "" "watercress/clean" 8])) 2 16 [Value.int IntKind.i64 (Int.ofNat 0), Value.int IntKind.i64 (Int.ofNat 0)] true),
  some (TI.mk (TypeDesc.struct (Array.mk [Field.mk "bed" 3 0 false "" "watercress/clean" 0, Field.mk "week" 3 1 false "" "watercress/clean" 8])) 2 16 [Value.int IntKind.i64 (Int.ofNat 0), Value.int IntKind.i64 (Int.ofNat 0)] true),
  some (TI.mk (TypeDesc.func (Array.mk [3]) (Array.mk [3]) false) 1 8 [Value.nilFunc] true),
  some (TI.mk (TypeDesc.func (Array.mk []) (Array.mk [9]) false) 1 8 [Value.nilFunc] true),
  some (TI.mk (TypeDesc.struct (Array.mk [Field.mk "_interface" 17 0 false "" "runtime" 0, Field.mk "concrete" 17 1 false "" "runtime" 8, Field.mk "asserted" 17 2 false "" "runtime" 16, Field.mk "missingMethod" 9 3 false "" "runtime" 24])) 4 40 [Value.pointer none, Value.pointer none, Value.pointer none, Value.string (ByteArray.mk (Array.mk []))] false),
  some (TI.mk (TypeDesc.struct (Array.mk [Field.mk "_interface" 17 0 false "" "runtime" 0, Field.mk "concrete" 17 1 false "" "runtime" 8, Field.mk "asserted" 17 2 false "" "runtime" 16, Field.mk "missingMethod" 9 3 false "" "runtime" 24])) 4 40 [Value.pointer none, Value.pointer none, Value.pointer none, Value.string (ByteArray.mk (Array.mk []))] false),
  some (TI.mk (TypeDesc.array 0 16) 0 0 [] true),
  some (TI.mk (TypeDesc.struct (Array.mk [Field.mk "_" 152 0 false "" "runtime" 0])) 0 0 [] false),
  some (TI.mk (TypeDesc.struct (Array.mk [Field.mk "_" 152 0 false "" "runtime" 0])) 0 0 [] false),
  some (TI.mk (TypeDesc.int IntKind.u32) 1 4 [Value.int IntKind.u32 (Int.ofNat 0)] true),
  some (TI.mk (TypeDesc.int IntKind.u8) 1 1 [Value.int IntKind.u8 (Int.ofNat 0)] true),
  some (TI.mk (TypeDesc.int IntKind.u8) 1 1 [Value.int IntKind.u8 (Int.ofNat 0)] true),
  some (TI.mk (TypeDesc.func (Array.mk [164, 164]) (Array.mk [4]) false) 1 8 [Value.nilFunc] true),
  some (TI.mk (TypeDesc.pointer 5) 1 8 [Value.pointer none] true),
  some (TI.mk (TypeDesc.int IntKind.i32) 1 4 [Value.int IntKind.i32 (Int.ofNat 0)] true),
  some (TI.mk (TypeDesc.int IntKind.i32) 1 4 [Value.int IntKind.i32 (Int.ofNat 0)] true),
  some (TI.mk (TypeDesc.struct (Array.mk [Field.mk "Size_" 12 0 false "" "" 0, Field.mk "PtrBytes" 12 1 false "" "" 8, Field.mk "Hash" 155 2 false "" "" 16, Field.mk "TFlag" 156 3 false "" "" 20, Field.mk "Align_" 5 4 false "" "" 21, Field.mk "FieldAlign_" 5 5 false "" "" 22, Field.mk "Kind_" 157 6 false "" "" 23, Field.mk "Equal" 158 7 false "" "" 24, Field.mk "GCData" 159 8 false "" "" 32, Field.mk "Str" 160 9 false "" "" 40, Field.mk "PtrToThis" 161 10 false "" "" 44])) 11 48 [Value.int IntKind.u64 (Int.ofNat 0), Value.int IntKind.u64 (Int.ofNat 0), Value.int IntKind.u32 (Int.ofNat 0), Value.int IntKind.u8 (Int.ofNat 0), Value.int IntKind.u8 (Int.ofNat 0), Value.int IntKind.u8 (Int.ofNat 0), Value.int IntKind.u8 (Int.ofNat 0), Value.nilFunc, Value.pointer none, Value.int IntKind.i32 (Int.ofNat 0), Value.int IntKind.i32 (Int.ofNat 0)] false),
  some (TI.mk (TypeDesc.struct (Array.mk [Field.mk "Size_" 12 0 false "" "" 0, Field.mk "PtrBytes" 12 1 false "" "" 8, Field.mk "Hash" 155 2 false "" "" 16, Field.mk "TFlag" 156 3 false "" "" 20, Field.mk "Align_" 5 4 false "" "" 21, Field.mk "FieldAlign_" 5 5 false "" "" 22, Field.mk "Kind_" 157 6 false "" "" 23, Field.mk "Equal" 158 7 false "" "" 24, Field.mk "GCData" 159 8 false "" "" 32, Field.mk "Str" 160 9 false "" "" 40, Field.mk "PtrToThis" 161 10 false "" "" 44])) 11 48 [Value.int IntKind.u64 (Int.ofNat 0), Value.int IntKind.u64 (Int.ofNat 0), Value.int IntKind.u32 (Int.ofNat 0), Value.int IntKind.u8 (Int.ofNat 0), Value.int IntKind.u8 (Int.ofNat 0), Value.int IntKind.u8 (Int.ofNat 0), Value.int IntKind.u8 (Int.ofNat 0), Value.nilFunc, Value.pointer none, Value.int IntKind.i32 (Int.ofNat 0), Value.int IntKind.i32 (Int.ofNat 0)] false),
  some (TI.mk TypeDesc.unsafePointer 1 8 [Value.pointer none] true)]
theorem tys_eq : tys = (List.range 165).map (tab Try.prog) := by kernel_rfl
def T : Ti := ofTab tys
theorem tok : TOk Try.prog T := ofTab_ok tys_eq
theorem mixed : Try.prog.follows .mixedOrders = true := by kernel_rfl
theorem en10 : Enters Try.prog 10 := fun args w => Go.Proofs.enters_of Try.func10 (by kernel_rfl) rfl args w
theorem en17 : Enters Try.prog 17 := fun args w => Go.Proofs.enters_of Try.func17 (by kernel_rfl) rfl args w
theorem en18 : Enters Try.prog 18 := fun args w => Go.Proofs.enters_of Try.func18 (by kernel_rfl) rfl args w
theorem en19 : Enters Try.prog 19 := fun args w => Go.Proofs.enters_of Try.func19 (by kernel_rfl) rfl args w
theorem en20 : Enters Try.prog 20 := fun args w => Go.Proofs.enters_of Try.func20 (by kernel_rfl) rfl args w
theorem en22 : Enters Try.prog 22 := fun args w => Go.Proofs.enters_of Try.func22 (by kernel_rfl) rfl args w
theorem en23 : Enters Try.prog 23 := fun args w => Go.Proofs.enters_of Try.func23 (by kernel_rfl) rfl args w
theorem en24 : Enters Try.prog 24 := fun args w => Go.Proofs.enters_of Try.func24 (by kernel_rfl) rfl args w
theorem en27 : Enters Try.prog 27 := fun args w => Go.Proofs.enters_of Try.func27 (by kernel_rfl) rfl args w
theorem en28 : Enters Try.prog 28 := fun args w => Go.Proofs.enters_of Try.func28 (by kernel_rfl) rfl args w
theorem en29 : Enters Try.prog 29 := fun args w => Go.Proofs.enters_of Try.func29 (by kernel_rfl) rfl args w
theorem en30 : Enters Try.prog 30 := fun args w => Go.Proofs.enters_of Try.func30 (by kernel_rfl) rfl args w
theorem en33 : Enters Try.prog 33 := fun args w => Go.Proofs.enters_of Try.func33 (by kernel_rfl) rfl args w
theorem en34 : Enters Try.prog 34 := fun args w => Go.Proofs.enters_of Try.func34 (by kernel_rfl) rfl args w
theorem en35 : Enters Try.prog 35 := fun args w => Go.Proofs.enters_of Try.func35 (by kernel_rfl) rfl args w
theorem en36 : Enters Try.prog 36 := fun args w => Go.Proofs.enters_of Try.func36 (by kernel_rfl) rfl args w
theorem en41 : Enters Try.prog 41 := fun args w => Go.Proofs.enters_of Try.func41 (by kernel_rfl) rfl args w
theorem en45 : Enters Try.prog 45 := fun args w => Go.Proofs.enters_of Try.func45 (by kernel_rfl) rfl args w
theorem en47 : Enters Try.prog 47 := fun args w => Go.Proofs.enters_of Try.func47 (by kernel_rfl) rfl args w
theorem en48 : Enters Try.prog 48 := fun args w => Go.Proofs.enters_of Try.func48 (by kernel_rfl) rfl args w
theorem en52 : Enters Try.prog 52 := fun args w => Go.Proofs.enters_of Try.func52 (by kernel_rfl) rfl args w
theorem en53 : Enters Try.prog 53 := fun args w => Go.Proofs.enters_of Try.func53 (by kernel_rfl) rfl args w
theorem en56 : Enters Try.prog 56 := fun args w => Go.Proofs.enters_of Try.func56 (by kernel_rfl) rfl args w
theorem en57 : Enters Try.prog 57 := fun args w => Go.Proofs.enters_of Try.func57 (by kernel_rfl) rfl args w
theorem en58 : Enters Try.prog 58 := fun args w => Go.Proofs.enters_of Try.func58 (by kernel_rfl) rfl args w
theorem en59 : Enters Try.prog 59 := fun args w => Go.Proofs.enters_of Try.func59 (by kernel_rfl) rfl args w
theorem en60 : Enters Try.prog 60 := fun args w => Go.Proofs.enters_of Try.func60 (by kernel_rfl) rfl args w
theorem en61 : Enters Try.prog 61 := fun args w => Go.Proofs.enters_of Try.func61 (by kernel_rfl) rfl args w
theorem en62 : Enters Try.prog 62 := fun args w => Go.Proofs.enters_of Try.func62 (by kernel_rfl) rfl args w
theorem en64 : Enters Try.prog 64 := fun args w => Go.Proofs.enters_of Try.func64 (by kernel_rfl) rfl args w
theorem en65 : Enters Try.prog 65 := fun args w => Go.Proofs.enters_of Try.func65 (by kernel_rfl) rfl args w
theorem en66 : Enters Try.prog 66 := fun args w => Go.Proofs.enters_of Try.func66 (by kernel_rfl) rfl args w
theorem en70 : Enters Try.prog 70 := fun args w => Go.Proofs.enters_of Try.func70 (by kernel_rfl) rfl args w
theorem en71 : Enters Try.prog 71 := fun args w => Go.Proofs.enters_of Try.func71 (by kernel_rfl) rfl args w
theorem en72 : Enters Try.prog 72 := fun args w => Go.Proofs.enters_of Try.func72 (by kernel_rfl) rfl args w
theorem en73 : Enters Try.prog 73 := fun args w => Go.Proofs.enters_of Try.func73 (by kernel_rfl) rfl args w
theorem en74 : Enters Try.prog 74 := fun args w => Go.Proofs.enters_of Try.func74 (by kernel_rfl) rfl args w
theorem en75 : Enters Try.prog 75 := fun args w => Go.Proofs.enters_of Try.func75 (by kernel_rfl) rfl args w
theorem en76 : Enters Try.prog 76 := fun args w => Go.Proofs.enters_of Try.func76 (by kernel_rfl) rfl args w
theorem en77 : Enters Try.prog 77 := fun args w => Go.Proofs.enters_of Try.func77 (by kernel_rfl) rfl args w
theorem en78 : Enters Try.prog 78 := fun args w => Go.Proofs.enters_of Try.func78 (by kernel_rfl) rfl args w
theorem en79 : Enters Try.prog 79 := fun args w => Go.Proofs.enters_of Try.func79 (by kernel_rfl) rfl args w
theorem en80 : Enters Try.prog 80 := fun args w => Go.Proofs.enters_of Try.func80 (by kernel_rfl) rfl args w
theorem en81 : Enters Try.prog 81 := fun args w => Go.Proofs.enters_of Try.func81 (by kernel_rfl) rfl args w
theorem en82 : Enters Try.prog 82 := fun args w => Go.Proofs.enters_of Try.func82 (by kernel_rfl) rfl args w
theorem en84 : Enters Try.prog 84 := fun args w => Go.Proofs.enters_of Try.func84 (by kernel_rfl) rfl args w
theorem en85 : Enters Try.prog 85 := fun args w => Go.Proofs.enters_of Try.func85 (by kernel_rfl) rfl args w
theorem en87 : Enters Try.prog 87 := fun args w => Go.Proofs.enters_of Try.func87 (by kernel_rfl) rfl args w
theorem en88 : Enters Try.prog 88 := fun args w => Go.Proofs.enters_of Try.func88 (by kernel_rfl) rfl args w
theorem en89 : Enters Try.prog 89 := fun args w => Go.Proofs.enters_of Try.func89 (by kernel_rfl) rfl args w
theorem en90 : Enters Try.prog 90 := fun args w => Go.Proofs.enters_of Try.func90 (by kernel_rfl) rfl args w
theorem en92 : Enters Try.prog 92 := fun args w => Go.Proofs.enters_of Try.func92 (by kernel_rfl) rfl args w
theorem en93 : Enters Try.prog 93 := fun args w => Go.Proofs.enters_of Try.func93 (by kernel_rfl) rfl args w
theorem en94 : Enters Try.prog 94 := fun args w => Go.Proofs.enters_of Try.func94 (by kernel_rfl) rfl args w
theorem en95 : Enters Try.prog 95 := fun args w => Go.Proofs.enters_of Try.func95 (by kernel_rfl) rfl args w
theorem en96 : Enters Try.prog 96 := fun args w => Go.Proofs.enters_of Try.func96 (by kernel_rfl) rfl args w
theorem en97 : Enters Try.prog 97 := fun args w => Go.Proofs.enters_of Try.func97 (by kernel_rfl) rfl args w
theorem en98 : Enters Try.prog 98 := fun args w => Go.Proofs.enters_of Try.func98 (by kernel_rfl) rfl args w
theorem en99 : Enters Try.prog 99 := fun args w => Go.Proofs.enters_of Try.func99 (by kernel_rfl) rfl args w
theorem en100 : Enters Try.prog 100 := fun args w => Go.Proofs.enters_of Try.func100 (by kernel_rfl) rfl args w
theorem en101 : Enters Try.prog 101 := fun args w => Go.Proofs.enters_of Try.func101 (by kernel_rfl) rfl args w
theorem en102 : Enters Try.prog 102 := fun args w => Go.Proofs.enters_of Try.func102 (by kernel_rfl) rfl args w
theorem en103 : Enters Try.prog 103 := fun args w => Go.Proofs.enters_of Try.func103 (by kernel_rfl) rfl args w
theorem en104 : Enters Try.prog 104 := fun args w => Go.Proofs.enters_of Try.func104 (by kernel_rfl) rfl args w
theorem en106 : Enters Try.prog 106 := fun args w => Go.Proofs.enters_of Try.func106 (by kernel_rfl) rfl args w
theorem en107 : Enters Try.prog 107 := fun args w => Go.Proofs.enters_of Try.func107 (by kernel_rfl) rfl args w
theorem en108 : Enters Try.prog 108 := fun args w => Go.Proofs.enters_of Try.func108 (by kernel_rfl) rfl args w
theorem en109 : Enters Try.prog 109 := fun args w => Go.Proofs.enters_of Try.func109 (by kernel_rfl) rfl args w
theorem en110 : Enters Try.prog 110 := fun args w => Go.Proofs.enters_of Try.func110 (by kernel_rfl) rfl args w
theorem en111 : Enters Try.prog 111 := fun args w => Go.Proofs.enters_of Try.func111 (by kernel_rfl) rfl args w
theorem en112 : Enters Try.prog 112 := fun args w => Go.Proofs.enters_of Try.func112 (by kernel_rfl) rfl args w
theorem en113 : Enters Try.prog 113 := fun args w => Go.Proofs.enters_of Try.func113 (by kernel_rfl) rfl args w
theorem en114 : Enters Try.prog 114 := fun args w => Go.Proofs.enters_of Try.func114 (by kernel_rfl) rfl args w
theorem en115 : Enters Try.prog 115 := fun args w => Go.Proofs.enters_of Try.func115 (by kernel_rfl) rfl args w
theorem en116 : Enters Try.prog 116 := fun args w => Go.Proofs.enters_of Try.func116 (by kernel_rfl) rfl args w
theorem en117 : Enters Try.prog 117 := fun args w => Go.Proofs.enters_of Try.func117 (by kernel_rfl) rfl args w
theorem en118 : Enters Try.prog 118 := fun args w => Go.Proofs.enters_of Try.func118 (by kernel_rfl) rfl args w
theorem en119 : Enters Try.prog 119 := fun args w => Go.Proofs.enters_of Try.func119 (by kernel_rfl) rfl args w
theorem en120 : Enters Try.prog 120 := fun args w => Go.Proofs.enters_of Try.func120 (by kernel_rfl) rfl args w
end Go.Fz
