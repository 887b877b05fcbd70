/-
  THE TABLES OF THIS PROGRAM: its types, its functions. Own work of the verifier of watercress; the table of types is what the program's own table says.
-/
import Derived.Shelf.Abstract
import Derived.Test.YtmoimpajiajacaaProg
import Derived.Test.YtmoimpajiajacaaEvM
namespace Go.Ev
open Go.Proofs

def tys : List (Option TI) :=
 [some (TI.mk (TypeDesc.tuple (Array.mk [])) 1 0 [Value.tuple (Array.mk [])] true),
  some (TI.mk (TypeDesc.func (Array.mk []) (Array.mk []) false) 1 8 [Value.nilFunc] true),
  some (TI.mk (TypeDesc.int IntKind.i64) 1 8 [Value.int IntKind.i64 (Int.ofNat 0)] true),
  some (TI.mk (TypeDesc.int IntKind.i64) 1 8 [Value.int IntKind.i64 (Int.ofNat 0)] true),
  some (TI.mk TypeDesc.bool 1 1 [Value.bool false] true),
  some (TI.mk (TypeDesc.int IntKind.u8) 1 1 [Value.int IntKind.u8 (Int.ofNat 0)] true),
  some (TI.mk (TypeDesc.int IntKind.u8) 1 1 [Value.int IntKind.u8 (Int.ofNat 0)] true),
  some (TI.mk (TypeDesc.struct (Array.mk [Field.mk "x" 2 0 false "" "runtime" 0, Field.mk "y" 3 1 false "" "runtime" 8, Field.mk "signed" 4 2 false "" "runtime" 16, Field.mk "code" 6 3 false "" "runtime" 17])) 4 24 [Value.int IntKind.i64 (Int.ofNat 0), Value.int IntKind.i64 (Int.ofNat 0), Value.bool false, Value.int IntKind.u8 (Int.ofNat 0)] true),
  some (TI.mk (TypeDesc.struct (Array.mk [Field.mk "x" 2 0 false "" "runtime" 0, Field.mk "y" 3 1 false "" "runtime" 8, Field.mk "signed" 4 2 false "" "runtime" 16, Field.mk "code" 6 3 false "" "runtime" 17])) 4 24 [Value.int IntKind.i64 (Int.ofNat 0), Value.int IntKind.i64 (Int.ofNat 0), Value.bool false, Value.int IntKind.u8 (Int.ofNat 0)] true),
  some (TI.mk TypeDesc.string 1 16 [Value.string (ByteArray.mk (Array.mk []))] true),
  some (TI.mk TypeDesc.string 1 16 [Value.string (ByteArray.mk (Array.mk []))] true),
  some (TI.mk TypeDesc.string 1 16 [Value.string (ByteArray.mk (Array.mk []))] true),
  some (TI.mk (TypeDesc.int IntKind.u64) 1 8 [Value.int IntKind.u64 (Int.ofNat 0)] true),
  some (TI.mk (TypeDesc.struct (Array.mk [Field.mk "msg" 9 0 false "" "runtime" 0, Field.mk "addr" 12 1 false "" "runtime" 16])) 2 24 [Value.string (ByteArray.mk (Array.mk [])), Value.int IntKind.u64 (Int.ofNat 0)] false),
  some (TI.mk (TypeDesc.struct (Array.mk [Field.mk "msg" 9 0 false "" "runtime" 0, Field.mk "addr" 12 1 false "" "runtime" 16])) 2 24 [Value.string (ByteArray.mk (Array.mk [])), Value.int IntKind.u64 (Int.ofNat 0)] false),
  some (TI.mk (TypeDesc.pointer 228) 1 8 [Value.pointer none] true),
  some (TI.mk (TypeDesc.pointer 231) 1 8 [Value.pointer none] true),
  some (TI.mk (TypeDesc.pointer 240) 1 8 [Value.pointer none] true),
  some (TI.mk (TypeDesc.struct (Array.mk [Field.mk "typ" 17 0 false "" "internal/runtime/maps" 0])) 1 8 [Value.pointer none] false),
  some (TI.mk (TypeDesc.struct (Array.mk [Field.mk "typ" 17 0 false "" "internal/runtime/maps" 0])) 1 8 [Value.pointer none] false),
  some (TI.mk (TypeDesc.interface (Array.mk [])) 1 16 [Value.nilIface] true),
  some (TI.mk (TypeDesc.int IntKind.i32) 1 4 [Value.int IntKind.i32 (Int.ofNat 0)] true),
  some (TI.mk (TypeDesc.slice 3) 1 24 [Value.slice none 0 0] true),
  some (TI.mk (TypeDesc.slice 78) 1 24 [Value.slice none 0 0] true),
  some (TI.mk (TypeDesc.slice 109) 1 24 [Value.slice none 0 0] true),
  some (TI.mk (TypeDesc.slice 111) 1 24 [Value.slice none 0 0] true),
  some (TI.mk (TypeDesc.struct (Array.mk [Field.mk "Last" 3 0 false "" "" 0, Field.mk "Stub" 3 1 false "" "" 8, Field.mk "Ripe" 3 2 false "" "" 16, Field.mk "Flower" 3 3 false "" "" 24, Field.mk "Knives" 3 4 false "" "" 32, Field.mk "Light" 22 5 false "" "" 40, Field.mk "Warm" 23 6 false "" "" 64, Field.mk "Beds" 24 7 false "" "" 88, Field.mk "Looks" 25 8 false "" "" 112])) 9 136 [Value.int IntKind.i64 (Int.ofNat 0), Value.int IntKind.i64 (Int.ofNat 0), Value.int IntKind.i64 (Int.ofNat 0), Value.int IntKind.i64 (Int.ofNat 0), Value.int IntKind.i64 (Int.ofNat 0), Value.slice none 0 0, Value.slice none 0 0, Value.slice none 0 0, Value.slice none 0 0] true),
  some (TI.mk (TypeDesc.struct (Array.mk [Field.mk "Last" 3 0 false "" "" 0, Field.mk "Stub" 3 1 false "" "" 8, Field.mk "Ripe" 3 2 false "" "" 16, Field.mk "Flower" 3 3 false "" "" 24, Field.mk "Knives" 3 4 false "" "" 32, Field.mk "Light" 22 5 false "" "" 40, Field.mk "Warm" 23 6 false "" "" 64, Field.mk "Beds" 24 7 false "" "" 88, Field.mk "Looks" 25 8 false "" "" 112])) 9 136 [Value.int IntKind.i64 (Int.ofNat 0), Value.int IntKind.i64 (Int.ofNat 0), Value.int IntKind.i64 (Int.ofNat 0), Value.int IntKind.i64 (Int.ofNat 0), Value.int IntKind.i64 (Int.ofNat 0), Value.slice none 0 0, Value.slice none 0 0, Value.slice none 0 0, Value.slice none 0 0] true),
  some (TI.mk (TypeDesc.struct (Array.mk [Field.mk "Warm" 22 0 false "" "" 0, Field.mk "Cuts" 22 1 false "" "" 24])) 2 48 [Value.slice none 0 0, Value.slice none 0 0] true),
  some (TI.mk (TypeDesc.struct (Array.mk [Field.mk "Warm" 22 0 false "" "" 0, Field.mk "Cuts" 22 1 false "" "" 24])) 2 48 [Value.slice none 0 0, Value.slice none 0 0] true),
  some (TI.mk (TypeDesc.slice 22) 1 24 [Value.slice none 0 0] true),
  some (TI.mk (TypeDesc.func (Array.mk [27]) (Array.mk [4]) false) 1 8 [Value.nilFunc] true),
  some (TI.mk (TypeDesc.func (Array.mk [30]) (Array.mk [4]) false) 1 8 [Value.nilFunc] true),
  some (TI.mk (TypeDesc.func (Array.mk []) (Array.mk [4]) false) 1 8 [Value.nilFunc] true),
  some (TI.mk (TypeDesc.int IntKind.i64) 1 8 [Value.int IntKind.i64 (Int.ofNat 0)] true),
  some (TI.mk (TypeDesc.tuple (Array.mk [30, 34])) 1 0 [Value.tuple (Array.mk [Value.slice none 0 0, Value.int IntKind.i64 (Int.ofNat 0)])] true),
  some (TI.mk (TypeDesc.func (Array.mk [41, 43, 30]) (Array.mk [30, 34]) false) 1 8 [Value.nilFunc] true),
  some (TI.mk (TypeDesc.slice 55) 1 24 [Value.slice none 0 0] true),
  some (TI.mk (TypeDesc.slice 70) 1 24 [Value.slice none 0 0] true),
  some (TI.mk (TypeDesc.slice 72) 1 24 [Value.slice none 0 0] true),
  some (TI.mk (TypeDesc.struct (Array.mk [Field.mk "Last" 3 0 false "" "" 0, Field.mk "Stub" 3 1 false "" "" 8, Field.mk "Ripe" 3 2 false "" "" 16, Field.mk "Flower" 3 3 false "" "" 24, Field.mk "Knives" 3 4 false "" "" 32, Field.mk "Light" 22 5 false "" "" 40, Field.mk "Warm" 37 6 false "" "" 64, Field.mk "Beds" 38 7 false "" "" 88, Field.mk "Looks" 39 8 false "" "" 112])) 9 136 [Value.int IntKind.i64 (Int.ofNat 0), Value.int IntKind.i64 (Int.ofNat 0), Value.int IntKind.i64 (Int.ofNat 0), Value.int IntKind.i64 (Int.ofNat 0), Value.int IntKind.i64 (Int.ofNat 0), Value.slice none 0 0, Value.slice none 0 0, Value.slice none 0 0, Value.slice none 0 0] true),
  some (TI.mk (TypeDesc.struct (Array.mk [Field.mk "Last" 3 0 false "" "" 0, Field.mk "Stub" 3 1 false "" "" 8, Field.mk "Ripe" 3 2 false "" "" 16, Field.mk "Flower" 3 3 false "" "" 24, Field.mk "Knives" 3 4 false "" "" 32, Field.mk "Light" 22 5 false "" "" 40, Field.mk "Warm" 37 6 false "" "" 64, Field.mk "Beds" 38 7 false "" "" 88, Field.mk "Looks" 39 8 false "" "" 112])) 9 136 [Value.int IntKind.i64 (Int.ofNat 0), Value.int IntKind.i64 (Int.ofNat 0), Value.int IntKind.i64 (Int.ofNat 0), Value.int IntKind.i64 (Int.ofNat 0), Value.int IntKind.i64 (Int.ofNat 0), Value.slice none 0 0, Value.slice none 0 0, Value.slice none 0 0, Value.slice none 0 0] true),
  some (TI.mk (TypeDesc.func (Array.mk [27]) (Array.mk [41]) false) 1 8 [Value.nilFunc] true),
  some (TI.mk (TypeDesc.struct (Array.mk [Field.mk "Warm" 22 0 false "" "" 0, Field.mk "Cuts" 22 1 false "" "" 24])) 2 48 [Value.slice none 0 0, Value.slice none 0 0] true),
  some (TI.mk (TypeDesc.func (Array.mk [29]) (Array.mk [43]) false) 1 8 [Value.nilFunc] true),
  some (TI.mk (TypeDesc.func (Array.mk [30]) (Array.mk [30]) false) 1 8 [Value.nilFunc] true),
  some (TI.mk (TypeDesc.func (Array.mk [41, 43]) (Array.mk [4]) false) 1 8 [Value.nilFunc] true),
  some (TI.mk (TypeDesc.func (Array.mk [27]) (Array.mk [34]) false) 1 8 [Value.nilFunc] true),
  some (TI.mk (TypeDesc.func (Array.mk [41]) (Array.mk [34]) false) 1 8 [Value.nilFunc] true),
  some (TI.mk (TypeDesc.func (Array.mk [27, 29]) (Array.mk [4]) false) 1 8 [Value.nilFunc] true),
  some (TI.mk (TypeDesc.func (Array.mk [27, 30]) (Array.mk [4]) false) 1 8 [Value.nilFunc] true),
  some (TI.mk (TypeDesc.func (Array.mk [27, 29, 3, 3, 22]) (Array.mk [3]) false) 1 8 [Value.nilFunc] true),
  some (TI.mk (TypeDesc.func (Array.mk [27, 29, 30]) (Array.mk [4]) false) 1 8 [Value.nilFunc] true),
  some (TI.mk (TypeDesc.func (Array.mk [3]) (Array.mk [41]) false) 1 8 [Value.nilFunc] true),
  some (TI.mk (TypeDesc.struct (Array.mk [Field.mk "Lo" 3 0 false "" "" 0, Field.mk "Hi" 3 1 false "" "" 8])) 2 16 [Value.int IntKind.i64 (Int.ofNat 0), Value.int IntKind.i64 (Int.ofNat 0)] true),
  some (TI.mk (TypeDesc.struct (Array.mk [Field.mk "Lo" 3 0 false "" "" 0, Field.mk "Hi" 3 1 false "" "" 8])) 2 16 [Value.int IntKind.i64 (Int.ofNat 0), Value.int IntKind.i64 (Int.ofNat 0)] true),
  some (TI.mk (TypeDesc.tuple (Array.mk [55, 34])) 1 0 [Value.tuple (Array.mk [Value.agg (Array.mk [Value.int IntKind.i64 (Int.ofNat 0), Value.int IntKind.i64 (Int.ofNat 0)]), Value.int IntKind.i64 (Int.ofNat 0)])] true),
  some (TI.mk (TypeDesc.func (Array.mk [41, 3, 3]) (Array.mk [55, 34]) false) 1 8 [Value.nilFunc] true),
  some (TI.mk (TypeDesc.tuple (Array.mk [3, 34])) 1 0 [Value.tuple (Array.mk [Value.int IntKind.i64 (Int.ofNat 0), Value.int IntKind.i64 (Int.ofNat 0)])] true),
  some (TI.mk (TypeDesc.func (Array.mk [41, 3, 3]) (Array.mk [3, 34]) false) 1 8 [Value.nilFunc] true),
  some (TI.mk (TypeDesc.tuple (Array.mk [22, 34])) 1 0 [Value.tuple (Array.mk [Value.slice none 0 0, Value.int IntKind.i64 (Int.ofNat 0)])] true),
  some (TI.mk (TypeDesc.func (Array.mk [41]) (Array.mk [22, 34]) false) 1 8 [Value.nilFunc] true),
  some (TI.mk (TypeDesc.func (Array.mk [22, 22]) (Array.mk [4]) false) 1 8 [Value.nilFunc] true),
  some (TI.mk (TypeDesc.func (Array.mk [3, 3]) (Array.mk [55]) false) 1 8 [Value.nilFunc] true),
  some (TI.mk (TypeDesc.func (Array.mk [41, 30]) (Array.mk [4]) false) 1 8 [Value.nilFunc] true),
  some (TI.mk (TypeDesc.func (Array.mk [41, 30]) (Array.mk [55, 34]) false) 1 8 [Value.nilFunc] true),
  some (TI.mk (TypeDesc.tuple (Array.mk [30, 3, 34])) 1 0 [Value.tuple (Array.mk [Value.slice none 0 0, Value.int IntKind.i64 (Int.ofNat 0), Value.int IntKind.i64 (Int.ofNat 0)])] true),
  some (TI.mk (TypeDesc.func (Array.mk [41]) (Array.mk [30, 3, 34]) false) 1 8 [Value.nilFunc] true),
  some (TI.mk (TypeDesc.func (Array.mk [41]) (Array.mk [3, 34]) false) 1 8 [Value.nilFunc] true),
  some (TI.mk (TypeDesc.struct (Array.mk [Field.mk "Flow" 3 0 false "" "" 0, Field.mk "Cut" 55 1 false "" "" 8])) 3 24 [Value.int IntKind.i64 (Int.ofNat 0), Value.int IntKind.i64 (Int.ofNat 0), Value.int IntKind.i64 (Int.ofNat 0)] true),
  some (TI.mk (TypeDesc.struct (Array.mk [Field.mk "Flow" 3 0 false "" "" 0, Field.mk "Cut" 55 1 false "" "" 8])) 3 24 [Value.int IntKind.i64 (Int.ofNat 0), Value.int IntKind.i64 (Int.ofNat 0), Value.int IntKind.i64 (Int.ofNat 0)] true),
  some (TI.mk (TypeDesc.struct (Array.mk [Field.mk "Bed" 3 0 false "" "" 0, Field.mk "Week" 3 1 false "" "" 8, Field.mk "Height" 55 2 false "" "" 16])) 4 32 [Value.int IntKind.i64 (Int.ofNat 0), Value.int IntKind.i64 (Int.ofNat 0), Value.int IntKind.i64 (Int.ofNat 0), Value.int IntKind.i64 (Int.ofNat 0)] true),
  some (TI.mk (TypeDesc.struct (Array.mk [Field.mk "Bed" 3 0 false "" "" 0, Field.mk "Week" 3 1 false "" "" 8, Field.mk "Height" 55 2 false "" "" 16])) 4 32 [Value.int IntKind.i64 (Int.ofNat 0), Value.int IntKind.i64 (Int.ofNat 0), Value.int IntKind.i64 (Int.ofNat 0), Value.int IntKind.i64 (Int.ofNat 0)] true),
  some (TI.mk (TypeDesc.int IntKind.u16) 1 2 [Value.int IntKind.u16 (Int.ofNat 0)] true),
  some (TI.mk (TypeDesc.slice 73) 1 24 [Value.slice none 0 0] true),
  some (TI.mk (TypeDesc.func (Array.mk [27, 3]) (Array.mk [29]) false) 1 8 [Value.nilFunc] true),
  some (TI.mk (TypeDesc.func (Array.mk [27]) (Array.mk [3]) false) 1 8 [Value.nilFunc] true),
  some (TI.mk (TypeDesc.func (Array.mk [22]) (Array.mk [22]) false) 1 8 [Value.nilFunc] true),
  some (TI.mk (TypeDesc.struct (Array.mk [Field.mk "Lo" 3 0 false "" "" 0, Field.mk "Hi" 3 1 false "" "" 8])) 2 16 [Value.int IntKind.i64 (Int.ofNat 0), Value.int IntKind.i64 (Int.ofNat 0)] true),
  some (TI.mk (TypeDesc.func (Array.mk [27, 74]) (Array.mk [30]) false) 1 8 [Value.nilFunc] true),
  some (TI.mk (TypeDesc.func (Array.mk [27, 73, 5, 5, 74]) (Array.mk [4]) false) 1 8 [Value.nilFunc] true),
  some (TI.mk (TypeDesc.func (Array.mk [85, 3]) (Array.mk [22, 34]) false) 1 8 [Value.nilFunc] true),
  some (TI.mk (TypeDesc.slice 96) 1 24 [Value.slice none 0 0] true),
  some (TI.mk (TypeDesc.slice 98) 1 24 [Value.slice none 0 0] true),
  some (TI.mk (TypeDesc.struct (Array.mk [Field.mk "Last" 3 0 false "" "" 0, Field.mk "Hands" 3 1 false "" "" 8, Field.mk "Beds" 82 2 false "" "" 16, Field.mk "Claims" 83 3 false "" "" 40])) 4 64 [Value.int IntKind.i64 (Int.ofNat 0), Value.int IntKind.i64 (Int.ofNat 0), Value.slice none 0 0, Value.slice none 0 0] true),
  some (TI.mk (TypeDesc.struct (Array.mk [Field.mk "Last" 3 0 false "" "" 0, Field.mk "Hands" 3 1 false "" "" 8, Field.mk "Beds" 82 2 false "" "" 16, Field.mk "Claims" 83 3 false "" "" 40])) 4 64 [Value.int IntKind.i64 (Int.ofNat 0), Value.int IntKind.i64 (Int.ofNat 0), Value.slice none 0 0, Value.slice none 0 0] true),
  some (TI.mk (TypeDesc.func (Array.mk [83]) (Array.mk [85]) true) 1 8 [Value.nilFunc] true),
  some (TI.mk (TypeDesc.func (Array.mk [85, 3, 3]) (Array.mk [3, 34]) false) 1 8 [Value.nilFunc] true),
  some (TI.mk (TypeDesc.func (Array.mk [85]) (Array.mk [3, 34]) false) 1 8 [Value.nilFunc] true),
  some (TI.mk (TypeDesc.func (Array.mk []) (Array.mk [83]) false) 1 8 [Value.nilFunc] true),
  some (TI.mk (TypeDesc.func (Array.mk [85]) (Array.mk [22, 34]) false) 1 8 [Value.nilFunc] true),
  some (TI.mk (TypeDesc.func (Array.mk [85, 22]) (Array.mk [4]) false) 1 8 [Value.nilFunc] true),
  some (TI.mk (TypeDesc.func (Array.mk [3]) (Array.mk [85]) false) 1 8 [Value.nilFunc] true),
  some (TI.mk (TypeDesc.struct (Array.mk [Field.mk "Lo" 3 0 false "" "" 0, Field.mk "Hi" 3 1 false "" "" 8])) 2 16 [Value.int IntKind.i64 (Int.ofNat 0), Value.int IntKind.i64 (Int.ofNat 0)] true),
  some (TI.mk (TypeDesc.func (Array.mk [3, 3]) (Array.mk [93]) false) 1 8 [Value.nilFunc] true),
  some (TI.mk (TypeDesc.struct (Array.mk [Field.mk "Long" 3 0 false "" "" 0, Field.mk "Begin" 93 1 false "" "" 8])) 3 24 [Value.int IntKind.i64 (Int.ofNat 0), Value.int IntKind.i64 (Int.ofNat 0), Value.int IntKind.i64 (Int.ofNat 0)] true),
  some (TI.mk (TypeDesc.struct (Array.mk [Field.mk "Long" 3 0 false "" "" 0, Field.mk "Begin" 93 1 false "" "" 8])) 3 24 [Value.int IntKind.i64 (Int.ofNat 0), Value.int IntKind.i64 (Int.ofNat 0), Value.int IntKind.i64 (Int.ofNat 0)] true),
  some (TI.mk (TypeDesc.struct (Array.mk [Field.mk "Bed" 3 0 false "" "" 0, Field.mk "Began" 93 1 false "" "" 8])) 3 24 [Value.int IntKind.i64 (Int.ofNat 0), Value.int IntKind.i64 (Int.ofNat 0), Value.int IntKind.i64 (Int.ofNat 0)] true),
  some (TI.mk (TypeDesc.struct (Array.mk [Field.mk "Bed" 3 0 false "" "" 0, Field.mk "Began" 93 1 false "" "" 8])) 3 24 [Value.int IntKind.i64 (Int.ofNat 0), Value.int IntKind.i64 (Int.ofNat 0), Value.int IntKind.i64 (Int.ofNat 0)] true),
  some (TI.mk (TypeDesc.func (Array.mk [85]) (Array.mk [34]) false) 1 8 [Value.nilFunc] true),
  some (TI.mk (TypeDesc.func (Array.mk [43]) (Array.mk [4]) false) 1 8 [Value.nilFunc] true),
  some (TI.mk (TypeDesc.func (Array.mk [167]) (Array.mk []) false) 1 8 [Value.nilFunc] true),
  some (TI.mk (TypeDesc.func (Array.mk [167]) (Array.mk []) false) 1 8 [Value.nilFunc] true),
  some (TI.mk (TypeDesc.func (Array.mk [3, 22]) (Array.mk [102]) false) 1 8 [Value.nilFunc] true),
  some (TI.mk (TypeDesc.struct (Array.mk [Field.mk "bed" 3 0 false "" "watercress/grow" 0, Field.mk "cut" 3 1 false "" "watercress/grow" 8, Field.mk "today" 3 2 false "" "watercress/grow" 16])) 3 24 [Value.int IntKind.i64 (Int.ofNat 0), Value.int IntKind.i64 (Int.ofNat 0), Value.int IntKind.i64 (Int.ofNat 0)] true),
  some (TI.mk (TypeDesc.struct (Array.mk [Field.mk "bed" 3 0 false "" "watercress/grow" 0, Field.mk "cut" 3 1 false "" "watercress/grow" 8, Field.mk "today" 3 2 false "" "watercress/grow" 16])) 3 24 [Value.int IntKind.i64 (Int.ofNat 0), Value.int IntKind.i64 (Int.ofNat 0), Value.int IntKind.i64 (Int.ofNat 0)] true),
  some (TI.mk (TypeDesc.func (Array.mk [43, 105]) (Array.mk [3]) false) 1 8 [Value.nilFunc] true),
  some (TI.mk (TypeDesc.func (Array.mk [78]) (Array.mk [55]) false) 1 8 [Value.nilFunc] true),
  some (TI.mk (TypeDesc.struct (Array.mk [Field.mk "Flow" 3 0 false "" "" 0, Field.mk "Cut" 78 1 false "" "" 8])) 3 24 [Value.int IntKind.i64 (Int.ofNat 0), Value.int IntKind.i64 (Int.ofNat 0), Value.int IntKind.i64 (Int.ofNat 0)] true),
  some (TI.mk (TypeDesc.struct (Array.mk [Field.mk "Flow" 3 0 false "" "" 0, Field.mk "Cut" 78 1 false "" "" 8])) 3 24 [Value.int IntKind.i64 (Int.ofNat 0), Value.int IntKind.i64 (Int.ofNat 0), Value.int IntKind.i64 (Int.ofNat 0)] true),
  some (TI.mk (TypeDesc.struct (Array.mk [Field.mk "Bed" 3 0 false "" "" 0, Field.mk "Week" 3 1 false "" "" 8, Field.mk "Height" 78 2 false "" "" 16])) 4 32 [Value.int IntKind.i64 (Int.ofNat 0), Value.int IntKind.i64 (Int.ofNat 0), Value.int IntKind.i64 (Int.ofNat 0), Value.int IntKind.i64 (Int.ofNat 0)] true),
  some (TI.mk (TypeDesc.struct (Array.mk [Field.mk "Bed" 3 0 false "" "" 0, Field.mk "Week" 3 1 false "" "" 8, Field.mk "Height" 78 2 false "" "" 16])) 4 32 [Value.int IntKind.i64 (Int.ofNat 0), Value.int IntKind.i64 (Int.ofNat 0), Value.int IntKind.i64 (Int.ofNat 0), Value.int IntKind.i64 (Int.ofNat 0)] true),
  some (TI.mk (TypeDesc.array 5 4) 5 5 [Value.bool false, Value.bool false, Value.bool false, Value.bool false, Value.bool false] true),
  some (TI.mk (TypeDesc.array 5 4) 5 5 [Value.bool false, Value.bool false, Value.bool false, Value.bool false, Value.bool false] true),
  some (TI.mk (TypeDesc.func (Array.mk [43]) (Array.mk [113]) false) 1 8 [Value.nilFunc] true),
  some (TI.mk (TypeDesc.func (Array.mk []) (Array.mk [3]) false) 1 8 [Value.nilFunc] true),
  some (TI.mk (TypeDesc.func (Array.mk [27, 29, 111]) (Array.mk [4]) false) 1 8 [Value.nilFunc] true),
  some (TI.mk (TypeDesc.func (Array.mk [3, 3, 3]) (Array.mk [4]) false) 1 8 [Value.nilFunc] true),
  some (TI.mk (TypeDesc.func (Array.mk [22, 3]) (Array.mk [4]) false) 1 8 [Value.nilFunc] true),
  some (TI.mk (TypeDesc.slice 43) 1 24 [Value.slice none 0 0] true),
  some (TI.mk (TypeDesc.map 113 4) 1 8 [Value.map none] true),
  some (TI.mk (TypeDesc.map 105 128) 1 8 [Value.map none] true),
  some (TI.mk (TypeDesc.struct (Array.mk [Field.mk "Season" 41 0 true "" "" 0, Field.mk "truths" 119 9 false "" "watercress/grow" 136, Field.mk "wrong" 120 10 false "" "watercress/grow" 160, Field.mk "known" 121 11 false "" "watercress/grow" 168])) 12 176 [Value.int IntKind.i64 (Int.ofNat 0), Value.int IntKind.i64 (Int.ofNat 0), Value.int IntKind.i64 (Int.ofNat 0), Value.int IntKind.i64 (Int.ofNat 0), Value.int IntKind.i64 (Int.ofNat 0), Value.slice none 0 0, Value.slice none 0 0, Value.slice none 0 0, Value.slice none 0 0, Value.slice none 0 0, Value.map none, Value.map none] true),
  some (TI.mk (TypeDesc.struct (Array.mk [Field.mk "Season" 41 0 true "" "" 0, Field.mk "truths" 119 9 false "" "watercress/grow" 136, Field.mk "wrong" 120 10 false "" "watercress/grow" 160, Field.mk "known" 121 11 false "" "watercress/grow" 168])) 12 176 [Value.int IntKind.i64 (Int.ofNat 0), Value.int IntKind.i64 (Int.ofNat 0), Value.int IntKind.i64 (Int.ofNat 0), Value.int IntKind.i64 (Int.ofNat 0), Value.int IntKind.i64 (Int.ofNat 0), Value.slice none 0 0, Value.slice none 0 0, Value.slice none 0 0, Value.slice none 0 0, Value.slice none 0 0, Value.map none, Value.map none] true),
  some (TI.mk (TypeDesc.tuple (Array.mk [123, 34])) 1 0 [Value.tuple (Array.mk [Value.agg (Array.mk [Value.int IntKind.i64 (Int.ofNat 0), Value.int IntKind.i64 (Int.ofNat 0), Value.int IntKind.i64 (Int.ofNat 0), Value.int IntKind.i64 (Int.ofNat 0), Value.int IntKind.i64 (Int.ofNat 0), Value.slice none 0 0, Value.slice none 0 0, Value.slice none 0 0, Value.slice none 0 0, Value.slice none 0 0, Value.map none, Value.map none]), Value.int IntKind.i64 (Int.ofNat 0)])] true),
  some (TI.mk (TypeDesc.func (Array.mk [41, 4]) (Array.mk [123, 34]) false) 1 8 [Value.nilFunc] true),
  some (TI.mk (TypeDesc.func (Array.mk [3]) (Array.mk [4]) false) 1 8 [Value.nilFunc] true),
  some (TI.mk (TypeDesc.func (Array.mk [128]) (Array.mk [55]) false) 1 8 [Value.nilFunc] true),
  some (TI.mk (TypeDesc.map 3 4) 1 8 [Value.map none] true),
  some (TI.mk (TypeDesc.func (Array.mk [105]) (Array.mk [128]) false) 1 8 [Value.nilFunc] true),
  some (TI.mk (TypeDesc.map 4 4) 1 8 [Value.map none] true),
  some (TI.mk (TypeDesc.func (Array.mk [41, 3]) (Array.mk [4]) false) 1 8 [Value.nilFunc] true),
  some (TI.mk (TypeDesc.struct (Array.mk [Field.mk "is" 131 0 false "" "watercress/grow" 0])) 1 8 [Value.nilFunc] true),
  some (TI.mk (TypeDesc.struct (Array.mk [Field.mk "is" 131 0 false "" "watercress/grow" 0])) 1 8 [Value.nilFunc] true),
  some (TI.mk (TypeDesc.func (Array.mk [41, 128]) (Array.mk [130]) false) 1 8 [Value.nilFunc] true),
  some (TI.mk (TypeDesc.func (Array.mk [41]) (Array.mk [123]) false) 1 8 [Value.nilFunc] true),
  some (TI.mk (TypeDesc.func (Array.mk [139]) (Array.mk []) false) 1 8 [Value.nilFunc] true),
  some (TI.mk (TypeDesc.func (Array.mk [139]) (Array.mk []) false) 1 8 [Value.nilFunc] true),
  some (TI.mk (TypeDesc.func (Array.mk [3]) (Array.mk [137]) false) 1 8 [Value.nilFunc] true),
  some (TI.mk (TypeDesc.func (Array.mk [22]) (Array.mk [4]) false) 1 8 [Value.nilFunc] true),
  some (TI.mk (TypeDesc.func (Array.mk [43, 30]) (Array.mk [3]) false) 1 8 [Value.nilFunc] true),
  some (TI.mk (TypeDesc.tuple (Array.mk [30, 4])) 1 0 [Value.tuple (Array.mk [Value.slice none 0 0, Value.bool false])] true),
  some (TI.mk (TypeDesc.func (Array.mk []) (Array.mk [30, 4]) false) 1 8 [Value.nilFunc] true),
  some (TI.mk (TypeDesc.func (Array.mk [78]) (Array.mk [3]) false) 1 8 [Value.nilFunc] true),
  some (TI.mk (TypeDesc.func (Array.mk [3]) (Array.mk [22]) false) 1 8 [Value.nilFunc] true),
  some (TI.mk (TypeDesc.func (Array.mk [74, 3]) (Array.mk [3]) false) 1 8 [Value.nilFunc] true),
  some (TI.mk (TypeDesc.int IntKind.u64) 1 8 [Value.int IntKind.u64 (Int.ofNat 0)] true),
  some (TI.mk (TypeDesc.slice 155) 1 24 [Value.slice none 0 0] true),
  some (TI.mk (TypeDesc.tuple (Array.mk [147, 34])) 1 0 [Value.tuple (Array.mk [Value.slice none 0 0, Value.int IntKind.i64 (Int.ofNat 0)])] true),
  some (TI.mk (TypeDesc.func (Array.mk [85, 4]) (Array.mk [147, 34]) false) 1 8 [Value.nilFunc] true),
  some (TI.mk (TypeDesc.func (Array.mk [126]) (Array.mk []) false) 1 8 [Value.nilFunc] true),
  some (TI.mk (TypeDesc.func (Array.mk [126]) (Array.mk []) false) 1 8 [Value.nilFunc] true),
  some (TI.mk (TypeDesc.func (Array.mk []) (Array.mk [151]) false) 1 8 [Value.nilFunc] true),
  some (TI.mk (TypeDesc.func (Array.mk [147, 156]) (Array.mk [4]) false) 1 8 [Value.nilFunc] true),
  some (TI.mk (TypeDesc.array 6 3) 6 48 [Value.int IntKind.i64 (Int.ofNat 0), Value.int IntKind.i64 (Int.ofNat 0), Value.int IntKind.i64 (Int.ofNat 0), Value.int IntKind.i64 (Int.ofNat 0), Value.int IntKind.i64 (Int.ofNat 0), Value.int IntKind.i64 (Int.ofNat 0)] true),
  some (TI.mk (TypeDesc.array 6 3) 6 48 [Value.int IntKind.i64 (Int.ofNat 0), Value.int IntKind.i64 (Int.ofNat 0), Value.int IntKind.i64 (Int.ofNat 0), Value.int IntKind.i64 (Int.ofNat 0), Value.int IntKind.i64 (Int.ofNat 0), Value.int IntKind.i64 (Int.ofNat 0)] true),
  some (TI.mk (TypeDesc.func (Array.mk [155]) (Array.mk [4]) false) 1 8 [Value.nilFunc] true),
  some (TI.mk (TypeDesc.func (Array.mk [3]) (Array.mk [93]) false) 1 8 [Value.nilFunc] true),
  some (TI.mk (TypeDesc.func (Array.mk [155]) (Array.mk [3]) false) 1 8 [Value.nilFunc] true),
  some (TI.mk (TypeDesc.func (Array.mk [155]) (Array.mk [22]) false) 1 8 [Value.nilFunc] true),
  some (TI.mk (TypeDesc.func (Array.mk [147, 155]) (Array.mk [4]) false) 1 8 [Value.nilFunc] true),
  some (TI.mk (TypeDesc.func (Array.mk []) (Array.mk [22]) false) 1 8 [Value.nilFunc] true),
  some (TI.mk (TypeDesc.func (Array.mk [78, 3, 3]) (Array.mk [4]) false) 1 8 [Value.nilFunc] true),
  some (TI.mk (TypeDesc.func (Array.mk [22, 164]) (Array.mk [4]) false) 1 8 [Value.nilFunc] true),
  some (TI.mk (TypeDesc.func (Array.mk [3, 3]) (Array.mk [4]) false) 1 8 [Value.nilFunc] true),
  some (TI.mk (TypeDesc.func (Array.mk [30, 166]) (Array.mk [4]) false) 1 8 [Value.nilFunc] true),
  some (TI.mk (TypeDesc.func (Array.mk [3, 22]) (Array.mk [4]) false) 1 8 [Value.nilFunc] true),
  some (TI.mk (TypeDesc.func (Array.mk [105, 4]) (Array.mk [4]) false) 1 8 [Value.nilFunc] true),
  some (TI.mk (TypeDesc.func (Array.mk [3, 22]) (Array.mk [3]) true) 1 8 [Value.nilFunc] true),
  some (TI.mk (TypeDesc.func (Array.mk [37, 170]) (Array.mk [4]) false) 1 8 [Value.nilFunc] true),
  some (TI.mk (TypeDesc.func (Array.mk [3, 55]) (Array.mk [4]) false) 1 8 [Value.nilFunc] true),
  some (TI.mk (TypeDesc.func (Array.mk [38, 172]) (Array.mk [4]) false) 1 8 [Value.nilFunc] true),
  some (TI.mk (TypeDesc.func (Array.mk [3, 70]) (Array.mk [4]) false) 1 8 [Value.nilFunc] true),
  some (TI.mk (TypeDesc.func (Array.mk [39, 174]) (Array.mk [4]) false) 1 8 [Value.nilFunc] true),
  some (TI.mk (TypeDesc.func (Array.mk [3, 72]) (Array.mk [4]) false) 1 8 [Value.nilFunc] true),
  some (TI.mk (TypeDesc.func (Array.mk []) (Array.mk [37]) false) 1 8 [Value.nilFunc] true),
  some (TI.mk (TypeDesc.func (Array.mk [151]) (Array.mk [22]) false) 1 8 [Value.nilFunc] true),
  some (TI.mk (TypeDesc.func (Array.mk [128]) (Array.mk [151]) false) 1 8 [Value.nilFunc] true),
  some (TI.mk (TypeDesc.func (Array.mk [22]) (Array.mk [3]) false) 1 8 [Value.nilFunc] true),
  some (TI.mk (TypeDesc.tuple (Array.mk [128, 4])) 1 0 [Value.tuple (Array.mk [Value.map none, Value.bool false])] true),
  some (TI.mk (TypeDesc.func (Array.mk [100]) (Array.mk []) false) 1 8 [Value.nilFunc] true),
  some (TI.mk (TypeDesc.func (Array.mk [100]) (Array.mk []) false) 1 8 [Value.nilFunc] true),
  some (TI.mk (TypeDesc.func (Array.mk []) (Array.mk [181]) false) 1 8 [Value.nilFunc] true),
  some (TI.mk (TypeDesc.func (Array.mk [184, 185]) (Array.mk [4]) false) 1 8 [Value.nilFunc] true),
  some (TI.mk (TypeDesc.slice 4) 1 24 [Value.slice none 0 0] true),
  some (TI.mk (TypeDesc.func (Array.mk [3, 4]) (Array.mk [4]) false) 1 8 [Value.nilFunc] true),
  some (TI.mk (TypeDesc.array 10 3) 10 80 [Value.int IntKind.i64 (Int.ofNat 0), Value.int IntKind.i64 (Int.ofNat 0), Value.int IntKind.i64 (Int.ofNat 0), Value.int IntKind.i64 (Int.ofNat 0), Value.int IntKind.i64 (Int.ofNat 0), Value.int IntKind.i64 (Int.ofNat 0), Value.int IntKind.i64 (Int.ofNat 0), Value.int IntKind.i64 (Int.ofNat 0), Value.int IntKind.i64 (Int.ofNat 0), Value.int IntKind.i64 (Int.ofNat 0)] true),
  some (TI.mk (TypeDesc.slice 188) 1 24 [Value.slice none 0 0] true),
  some (TI.mk (TypeDesc.map 191 193) 1 8 [Value.map none] true),
  some (TI.mk (TypeDesc.func (Array.mk [3, 191]) (Array.mk [193]) false) 1 8 [Value.nilFunc] true),
  some (TI.mk (TypeDesc.array 3 3) 3 24 [Value.int IntKind.i64 (Int.ofNat 0), Value.int IntKind.i64 (Int.ofNat 0), Value.int IntKind.i64 (Int.ofNat 0)] true),
  some (TI.mk (TypeDesc.array 3 3) 3 24 [Value.int IntKind.i64 (Int.ofNat 0), Value.int IntKind.i64 (Int.ofNat 0), Value.int IntKind.i64 (Int.ofNat 0)] true),
  some (TI.mk (TypeDesc.struct (Array.mk [Field.mk "holds" 4 0 false "" "watercress/grow" 0, Field.mk "beds" 22 1 false "" "watercress/grow" 8, Field.mk "cuts" 3 2 false "" "watercress/grow" 32])) 3 40 [Value.bool false, Value.slice none 0 0, Value.int IntKind.i64 (Int.ofNat 0)] true),
  some (TI.mk (TypeDesc.struct (Array.mk [Field.mk "holds" 4 0 false "" "watercress/grow" 0, Field.mk "beds" 22 1 false "" "watercress/grow" 8, Field.mk "cuts" 3 2 false "" "watercress/grow" 32])) 3 40 [Value.bool false, Value.slice none 0 0, Value.int IntKind.i64 (Int.ofNat 0)] true),
  some (TI.mk (TypeDesc.tuple (Array.mk [193, 4])) 1 0 [Value.tuple (Array.mk [Value.agg (Array.mk [Value.bool false, Value.slice none 0 0, Value.int IntKind.i64 (Int.ofNat 0)]), Value.bool false])] true),
  some (TI.mk (TypeDesc.func (Array.mk [3, 191]) (Array.mk [137]) false) 1 8 [Value.nilFunc] true),
  some (TI.mk (TypeDesc.func (Array.mk [22, 3]) (Array.mk [191]) false) 1 8 [Value.nilFunc] true),
  some (TI.mk (TypeDesc.func (Array.mk [189]) (Array.mk [30, 4]) false) 1 8 [Value.nilFunc] true),
  some (TI.mk (TypeDesc.func (Array.mk [147, 156]) (Array.mk [147]) false) 1 8 [Value.nilFunc] true),
  some (TI.mk (TypeDesc.func (Array.mk [147, 156]) (Array.mk [3]) false) 1 8 [Value.nilFunc] true),
  some (TI.mk (TypeDesc.func (Array.mk [202]) (Array.mk [147]) false) 1 8 [Value.nilFunc] true),
  some (TI.mk (TypeDesc.func (Array.mk [156]) (Array.mk []) false) 1 8 [Value.nilFunc] true),
  some (TI.mk (TypeDesc.func (Array.mk [156]) (Array.mk []) false) 1 8 [Value.nilFunc] true),
  some (TI.mk (TypeDesc.func (Array.mk [22]) (Array.mk [202]) false) 1 8 [Value.nilFunc] true),
  some (TI.mk (TypeDesc.func (Array.mk [147, 155]) (Array.mk [3]) false) 1 8 [Value.nilFunc] true),
  some (TI.mk (TypeDesc.func (Array.mk [82, 206]) (Array.mk [4]) false) 1 8 [Value.nilFunc] true),
  some (TI.mk (TypeDesc.func (Array.mk [3, 96]) (Array.mk [4]) false) 1 8 [Value.nilFunc] true),
  some (TI.mk (TypeDesc.func (Array.mk [83, 208]) (Array.mk [4]) false) 1 8 [Value.nilFunc] true),
  some (TI.mk (TypeDesc.func (Array.mk [3, 98]) (Array.mk [4]) false) 1 8 [Value.nilFunc] true),
  some (TI.mk (TypeDesc.func (Array.mk [22, 3]) (Array.mk [3]) false) 1 8 [Value.nilFunc] true),
  some (TI.mk (TypeDesc.func (Array.mk [22, 151]) (Array.mk [22]) false) 1 8 [Value.nilFunc] true),
  some (TI.mk (TypeDesc.func (Array.mk []) (Array.mk [191]) false) 1 8 [Value.nilFunc] true),
  some (TI.mk (TypeDesc.func (Array.mk [147, 202]) (Array.mk [147]) false) 1 8 [Value.nilFunc] true),
  some (TI.mk (TypeDesc.map 224 4) 1 8 [Value.map none] true),
  some (TI.mk (TypeDesc.struct (Array.mk [Field.mk "Yard" 85 0 true "" "" 0, Field.mk "empty" 213 4 false "" "watercress/clean" 64])) 5 72 [Value.int IntKind.i64 (Int.ofNat 0), Value.int IntKind.i64 (Int.ofNat 0), Value.slice none 0 0, Value.slice none 0 0, Value.map none] true),
  some (TI.mk (TypeDesc.struct (Array.mk [Field.mk "Yard" 85 0 true "" "" 0, Field.mk "empty" 213 4 false "" "watercress/clean" 64])) 5 72 [Value.int IntKind.i64 (Int.ofNat 0), Value.int IntKind.i64 (Int.ofNat 0), Value.slice none 0 0, Value.slice none 0 0, Value.map none] true),
  some (TI.mk (TypeDesc.func (Array.mk [3, 3, 4]) (Array.mk []) false) 1 8 [Value.nilFunc] true),
  some (TI.mk (TypeDesc.func (Array.mk [215, 3, 3]) (Array.mk [4]) false) 1 8 [Value.nilFunc] true),
  some (TI.mk (TypeDesc.struct (Array.mk [Field.mk "is" 217 0 false "" "watercress/clean" 0])) 1 8 [Value.nilFunc] true),
  some (TI.mk (TypeDesc.struct (Array.mk [Field.mk "is" 217 0 false "" "watercress/clean" 0])) 1 8 [Value.nilFunc] true),
  some (TI.mk (TypeDesc.slice 219) 1 24 [Value.slice none 0 0] true),
  some (TI.mk (TypeDesc.func (Array.mk [220, 222]) (Array.mk [4]) false) 1 8 [Value.nilFunc] true),
  some (TI.mk (TypeDesc.func (Array.mk [3, 219]) (Array.mk [4]) false) 1 8 [Value.nilFunc] true),
  some (TI.mk (TypeDesc.struct (Array.mk [Field.mk "bed" 3 0 false "" "watercress/clean" 0, Field.mk "week" 3 1 false "" "watercress/clean" 8])) 2 16 [Value.int IntKind.i64 (Int.ofNat 0), Value.int IntKind.i64 (Int.ofNat 0)] true),
  some (TI.mk (TypeDesc.struct (Array.mk [Field.mk "bed" 3 0 false "" "watercress/clean" 0, Field.mk "week" 3 1 false "" "watercress/clean" 8])) 2 16 [Value.int IntKind.i64 (Int.ofNat 0), Value.int IntKind.i64 (Int.ofNat 0)] true),
  some (TI.mk (TypeDesc.func (Array.mk [3]) (Array.mk [3]) false) 1 8 [Value.nilFunc] true),
  some (TI.mk (TypeDesc.func (Array.mk []) (Array.mk [9]) false) 1 8 [Value.nilFunc] true),
  some (TI.mk (TypeDesc.struct (Array.mk [Field.mk "_interface" 17 0 false "" "runtime" 0, Field.mk "concrete" 17 1 false "" "runtime" 8, Field.mk "asserted" 17 2 false "" "runtime" 16, Field.mk "missingMethod" 9 3 false "" "runtime" 24])) 4 40 [Value.pointer none, Value.pointer none, Value.pointer none, Value.string (ByteArray.mk (Array.mk []))] false),
  some (TI.mk (TypeDesc.struct (Array.mk [Field.mk "_interface" 17 0 false "" "runtime" 0, Field.mk "concrete" 17 1 false "" "runtime" 8, Field.mk "asserted" 17 2 false "" "runtime" 16, Field.mk "missingMethod" 9 3 false "" "runtime" 24])) 4 40 [Value.pointer none, Value.pointer none, Value.pointer none, Value.string (ByteArray.mk (Array.mk []))] false),
  some (TI.mk (TypeDesc.array 0 16) 0 0 [] true),
  some (TI.mk (TypeDesc.struct (Array.mk [Field.mk "_" 229 0 false "" "runtime" 0])) 0 0 [] false),
  some (TI.mk (TypeDesc.struct (Array.mk [Field.mk "_" 229 0 false "" "runtime" 0])) 0 0 [] false),
  some (TI.mk (TypeDesc.int IntKind.u32) 1 4 [Value.int IntKind.u32 (Int.ofNat 0)] true),
  some (TI.mk (TypeDesc.int IntKind.u8) 1 1 [Value.int IntKind.u8 (Int.ofNat 0)] true),
  some (TI.mk (TypeDesc.int IntKind.u8) 1 1 [Value.int IntKind.u8 (Int.ofNat 0)] true),
  some (TI.mk (TypeDesc.func (Array.mk [241, 241]) (Array.mk [4]) false) 1 8 [Value.nilFunc] true),
  some (TI.mk (TypeDesc.pointer 5) 1 8 [Value.pointer none] true),
  some (TI.mk (TypeDesc.int IntKind.i32) 1 4 [Value.int IntKind.i32 (Int.ofNat 0)] true),
  some (TI.mk (TypeDesc.int IntKind.i32) 1 4 [Value.int IntKind.i32 (Int.ofNat 0)] true),
  some (TI.mk (TypeDesc.struct (Array.mk [Field.mk "Size_" 12 0 false "" "" 0, Field.mk "PtrBytes" 12 1 false "" "" 8, Field.mk "Hash" 232 2 false "" "" 16, Field.mk "TFlag" 233 3 false "" "" 20, Field.mk "Align_" 5 4 false "" "" 21, Field.mk "FieldAlign_" 5 5 false "" "" 22, Field.mk "Kind_" 234 6 false "" "" 23, Field.mk "Equal" 235 7 false "" "" 24, Field.mk "GCData" 236 8 false "" "" 32, Field.mk "Str" 237 9 false "" "" 40, Field.mk "PtrToThis" 238 10 false "" "" 44])) 11 48 [Value.int IntKind.u64 (Int.ofNat 0), Value.int IntKind.u64 (Int.ofNat 0), Value.int IntKind.u32 (Int.ofNat 0), Value.int IntKind.u8 (Int.ofNat 0), Value.int IntKind.u8 (Int.ofNat 0), Value.int IntKind.u8 (Int.ofNat 0), Value.int IntKind.u8 (Int.ofNat 0), Value.nilFunc, Value.pointer none, Value.int IntKind.i32 (Int.ofNat 0), Value.int IntKind.i32 (Int.ofNat 0)] false),
  some (TI.mk (TypeDesc.struct (Array.mk [Field.mk "Size_" 12 0 false "" "" 0, Field.mk "PtrBytes" 12 1 false "" "" 8, Field.mk "Hash" 232 2 false "" "" 16, Field.mk "TFlag" 233 3 false "" "" 20, Field.mk "Align_" 5 4 false "" "" 21, Field.mk "FieldAlign_" 5 5 false "" "" 22, Field.mk "Kind_" 234 6 false "" "" 23, Field.mk "Equal" 235 7 false "" "" 24, Field.mk "GCData" 236 8 false "" "" 32, Field.mk "Str" 237 9 false "" "" 40, Field.mk "PtrToThis" 238 10 false "" "" 44])) 11 48 [Value.int IntKind.u64 (Int.ofNat 0), Value.int IntKind.u64 (Int.ofNat 0), Value.int IntKind.u32 (Int.ofNat 0), Value.int IntKind.u8 (Int.ofNat 0), Value.int IntKind.u8 (Int.ofNat 0), Value.int IntKind.u8 (Int.ofNat 0), Value.int IntKind.u8 (Int.ofNat 0), Value.nilFunc, Value.pointer none, Value.int IntKind.i32 (Int.ofNat 0), Value.int IntKind.i32 (Int.ofNat 0)] false),
  some (TI.mk TypeDesc.unsafePointer 1 8 [Value.pointer none] true)]

theorem tys_eq : tys = (List.range 242).map (tab Try.prog) := by kernel_rfl
def T : Ti := ofTab tys
theorem tok : TOk Try.prog T := ofTab_ok tys_eq
theorem mixed : Try.prog.follows .mixedOrders = true := by kernel_rfl

theorem en3 : Enters Try.prog 3 := fun args w => Go.Proofs.enters_of Try.func3 (by kernel_rfl) rfl args w
theorem en4 : Enters Try.prog 4 := fun args w => Go.Proofs.enters_of Try.func4 (by kernel_rfl) rfl args w
theorem en5 : Enters Try.prog 5 := fun args w => Go.Proofs.enters_of Try.func5 (by kernel_rfl) rfl args w
theorem en6 : Enters Try.prog 6 := fun args w => Go.Proofs.enters_of Try.func6 (by kernel_rfl) rfl args w
theorem en7 : Enters Try.prog 7 := fun args w => Go.Proofs.enters_of Try.func7 (by kernel_rfl) rfl args w
theorem en8 : Enters Try.prog 8 := fun args w => Go.Proofs.enters_of Try.func8 (by kernel_rfl) rfl args w
theorem en9 : Enters Try.prog 9 := fun args w => Go.Proofs.enters_of Try.func9 (by kernel_rfl) rfl args w
theorem en10 : Enters Try.prog 10 := fun args w => Go.Proofs.enters_of Try.func10 (by kernel_rfl) rfl args w
theorem en11 : Enters Try.prog 11 := fun args w => Go.Proofs.enters_of Try.func11 (by kernel_rfl) rfl args w
theorem en12 : Enters Try.prog 12 := fun args w => Go.Proofs.enters_of Try.func12 (by kernel_rfl) rfl args w
theorem en13 : Enters Try.prog 13 := fun args w => Go.Proofs.enters_of Try.func13 (by kernel_rfl) rfl args w
theorem en14 : Enters Try.prog 14 := fun args w => Go.Proofs.enters_of Try.func14 (by kernel_rfl) rfl args w
theorem en15 : Enters Try.prog 15 := fun args w => Go.Proofs.enters_of Try.func15 (by kernel_rfl) rfl args w
theorem en16 : Enters Try.prog 16 := fun args w => Go.Proofs.enters_of Try.func16 (by kernel_rfl) rfl args w
theorem en17 : Enters Try.prog 17 := fun args w => Go.Proofs.enters_of Try.func17 (by kernel_rfl) rfl args w
theorem en18 : Enters Try.prog 18 := fun args w => Go.Proofs.enters_of Try.func18 (by kernel_rfl) rfl args w
theorem en19 : Enters Try.prog 19 := fun args w => Go.Proofs.enters_of Try.func19 (by kernel_rfl) rfl args w
theorem en20 : Enters Try.prog 20 := fun args w => Go.Proofs.enters_of Try.func20 (by kernel_rfl) rfl args w
theorem en21 : Enters Try.prog 21 := fun args w => Go.Proofs.enters_of Try.func21 (by kernel_rfl) rfl args w
theorem en22 : Enters Try.prog 22 := fun args w => Go.Proofs.enters_of Try.func22 (by kernel_rfl) rfl args w
theorem en23 : Enters Try.prog 23 := fun args w => Go.Proofs.enters_of Try.func23 (by kernel_rfl) rfl args w
theorem en24 : Enters Try.prog 24 := fun args w => Go.Proofs.enters_of Try.func24 (by kernel_rfl) rfl args w
theorem en25 : Enters Try.prog 25 := fun args w => Go.Proofs.enters_of Try.func25 (by kernel_rfl) rfl args w
theorem en26 : Enters Try.prog 26 := fun args w => Go.Proofs.enters_of Try.func26 (by kernel_rfl) rfl args w
theorem en27 : Enters Try.prog 27 := fun args w => Go.Proofs.enters_of Try.func27 (by kernel_rfl) rfl args w
theorem en28 : Enters Try.prog 28 := fun args w => Go.Proofs.enters_of Try.func28 (by kernel_rfl) rfl args w
theorem en29 : Enters Try.prog 29 := fun args w => Go.Proofs.enters_of Try.func29 (by kernel_rfl) rfl args w
theorem en30 : Enters Try.prog 30 := fun args w => Go.Proofs.enters_of Try.func30 (by kernel_rfl) rfl args w
theorem en31 : Enters Try.prog 31 := fun args w => Go.Proofs.enters_of Try.func31 (by kernel_rfl) rfl args w
theorem en32 : Enters Try.prog 32 := fun args w => Go.Proofs.enters_of Try.func32 (by kernel_rfl) rfl args w
theorem en33 : Enters Try.prog 33 := fun args w => Go.Proofs.enters_of Try.func33 (by kernel_rfl) rfl args w
theorem en34 : Enters Try.prog 34 := fun args w => Go.Proofs.enters_of Try.func34 (by kernel_rfl) rfl args w
theorem en35 : Enters Try.prog 35 := fun args w => Go.Proofs.enters_of Try.func35 (by kernel_rfl) rfl args w
theorem en36 : Enters Try.prog 36 := fun args w => Go.Proofs.enters_of Try.func36 (by kernel_rfl) rfl args w
theorem en37 : Enters Try.prog 37 := fun args w => Go.Proofs.enters_of Try.func37 (by kernel_rfl) rfl args w
theorem en38 : Enters Try.prog 38 := fun args w => Go.Proofs.enters_of Try.func38 (by kernel_rfl) rfl args w
theorem en39 : Enters Try.prog 39 := fun args w => Go.Proofs.enters_of Try.func39 (by kernel_rfl) rfl args w
theorem en40 : Enters Try.prog 40 := fun args w => Go.Proofs.enters_of Try.func40 (by kernel_rfl) rfl args w
theorem en41 : Enters Try.prog 41 := fun args w => Go.Proofs.enters_of Try.func41 (by kernel_rfl) rfl args w
theorem en42 : Enters Try.prog 42 := fun args w => Go.Proofs.enters_of Try.func42 (by kernel_rfl) rfl args w
theorem en43 : Enters Try.prog 43 := fun args w => Go.Proofs.enters_of Try.func43 (by kernel_rfl) rfl args w
theorem en44 : Enters Try.prog 44 := fun args w => Go.Proofs.enters_of Try.func44 (by kernel_rfl) rfl args w
theorem en45 : Enters Try.prog 45 := fun args w => Go.Proofs.enters_of Try.func45 (by kernel_rfl) rfl args w
theorem en46 : Enters Try.prog 46 := fun args w => Go.Proofs.enters_of Try.func46 (by kernel_rfl) rfl args w
theorem en47 : Enters Try.prog 47 := fun args w => Go.Proofs.enters_of Try.func47 (by kernel_rfl) rfl args w
theorem en48 : Enters Try.prog 48 := fun args w => Go.Proofs.enters_of Try.func48 (by kernel_rfl) rfl args w
theorem en49 : Enters Try.prog 49 := fun args w => Go.Proofs.enters_of Try.func49 (by kernel_rfl) rfl args w
theorem en50 : Enters Try.prog 50 := fun args w => Go.Proofs.enters_of Try.func50 (by kernel_rfl) rfl args w
theorem en51 : Enters Try.prog 51 := fun args w => Go.Proofs.enters_of Try.func51 (by kernel_rfl) rfl args w
theorem en52 : Enters Try.prog 52 := fun args w => Go.Proofs.enters_of Try.func52 (by kernel_rfl) rfl args w
theorem en53 : Enters Try.prog 53 := fun args w => Go.Proofs.enters_of Try.func53 (by kernel_rfl) rfl args w
theorem en54 : Enters Try.prog 54 := fun args w => Go.Proofs.enters_of Try.func54 (by kernel_rfl) rfl args w
theorem en55 : Enters Try.prog 55 := fun args w => Go.Proofs.enters_of Try.func55 (by kernel_rfl) rfl args w
theorem en56 : Enters Try.prog 56 := fun args w => Go.Proofs.enters_of Try.func56 (by kernel_rfl) rfl args w
theorem en57 : Enters Try.prog 57 := fun args w => Go.Proofs.enters_of Try.func57 (by kernel_rfl) rfl args w
theorem en58 : Enters Try.prog 58 := fun args w => Go.Proofs.enters_of Try.func58 (by kernel_rfl) rfl args w
theorem en59 : Enters Try.prog 59 := fun args w => Go.Proofs.enters_of Try.func59 (by kernel_rfl) rfl args w
theorem en60 : Enters Try.prog 60 := fun args w => Go.Proofs.enters_of Try.func60 (by kernel_rfl) rfl args w
theorem en61 : Enters Try.prog 61 := fun args w => Go.Proofs.enters_of Try.func61 (by kernel_rfl) rfl args w
theorem en62 : Enters Try.prog 62 := fun args w => Go.Proofs.enters_of Try.func62 (by kernel_rfl) rfl args w
theorem en63 : Enters Try.prog 63 := fun args w => Go.Proofs.enters_of Try.func63 (by kernel_rfl) rfl args w
theorem en64 : Enters Try.prog 64 := fun args w => Go.Proofs.enters_of Try.func64 (by kernel_rfl) rfl args w
theorem en65 : Enters Try.prog 65 := fun args w => Go.Proofs.enters_of Try.func65 (by kernel_rfl) rfl args w
theorem en66 : Enters Try.prog 66 := fun args w => Go.Proofs.enters_of Try.func66 (by kernel_rfl) rfl args w
theorem en67 : Enters Try.prog 67 := fun args w => Go.Proofs.enters_of Try.func67 (by kernel_rfl) rfl args w
theorem en68 : Enters Try.prog 68 := fun args w => Go.Proofs.enters_of Try.func68 (by kernel_rfl) rfl args w
theorem en69 : Enters Try.prog 69 := fun args w => Go.Proofs.enters_of Try.func69 (by kernel_rfl) rfl args w
theorem en70 : Enters Try.prog 70 := fun args w => Go.Proofs.enters_of Try.func70 (by kernel_rfl) rfl args w
theorem en71 : Enters Try.prog 71 := fun args w => Go.Proofs.enters_of Try.func71 (by kernel_rfl) rfl args w
theorem en72 : Enters Try.prog 72 := fun args w => Go.Proofs.enters_of Try.func72 (by kernel_rfl) rfl args w
theorem en73 : Enters Try.prog 73 := fun args w => Go.Proofs.enters_of Try.func73 (by kernel_rfl) rfl args w
theorem en74 : Enters Try.prog 74 := fun args w => Go.Proofs.enters_of Try.func74 (by kernel_rfl) rfl args w
theorem en75 : Enters Try.prog 75 := fun args w => Go.Proofs.enters_of Try.func75 (by kernel_rfl) rfl args w
theorem en76 : Enters Try.prog 76 := fun args w => Go.Proofs.enters_of Try.func76 (by kernel_rfl) rfl args w
theorem en77 : Enters Try.prog 77 := fun args w => Go.Proofs.enters_of Try.func77 (by kernel_rfl) rfl args w
theorem en78 : Enters Try.prog 78 := fun args w => Go.Proofs.enters_of Try.func78 (by kernel_rfl) rfl args w
theorem en79 : Enters Try.prog 79 := fun args w => Go.Proofs.enters_of Try.func79 (by kernel_rfl) rfl args w
theorem en80 : Enters Try.prog 80 := fun args w => Go.Proofs.enters_of Try.func80 (by kernel_rfl) rfl args w
theorem en81 : Enters Try.prog 81 := fun args w => Go.Proofs.enters_of Try.func81 (by kernel_rfl) rfl args w
theorem en82 : Enters Try.prog 82 := fun args w => Go.Proofs.enters_of Try.func82 (by kernel_rfl) rfl args w
theorem en83 : Enters Try.prog 83 := fun args w => Go.Proofs.enters_of Try.func83 (by kernel_rfl) rfl args w
theorem en84 : Enters Try.prog 84 := fun args w => Go.Proofs.enters_of Try.func84 (by kernel_rfl) rfl args w
theorem en85 : Enters Try.prog 85 := fun args w => Go.Proofs.enters_of Try.func85 (by kernel_rfl) rfl args w
theorem en86 : Enters Try.prog 86 := fun args w => Go.Proofs.enters_of Try.func86 (by kernel_rfl) rfl args w
theorem en87 : Enters Try.prog 87 := fun args w => Go.Proofs.enters_of Try.func87 (by kernel_rfl) rfl args w
theorem en88 : Enters Try.prog 88 := fun args w => Go.Proofs.enters_of Try.func88 (by kernel_rfl) rfl args w
theorem en89 : Enters Try.prog 89 := fun args w => Go.Proofs.enters_of Try.func89 (by kernel_rfl) rfl args w
theorem en90 : Enters Try.prog 90 := fun args w => Go.Proofs.enters_of Try.func90 (by kernel_rfl) rfl args w
theorem en91 : Enters Try.prog 91 := fun args w => Go.Proofs.enters_of Try.func91 (by kernel_rfl) rfl args w
theorem en92 : Enters Try.prog 92 := fun args w => Go.Proofs.enters_of Try.func92 (by kernel_rfl) rfl args w
theorem en93 : Enters Try.prog 93 := fun args w => Go.Proofs.enters_of Try.func93 (by kernel_rfl) rfl args w
theorem en94 : Enters Try.prog 94 := fun args w => Go.Proofs.enters_of Try.func94 (by kernel_rfl) rfl args w
theorem en95 : Enters Try.prog 95 := fun args w => Go.Proofs.enters_of Try.func95 (by kernel_rfl) rfl args w
theorem en96 : Enters Try.prog 96 := fun args w => Go.Proofs.enters_of Try.func96 (by kernel_rfl) rfl args w
theorem en97 : Enters Try.prog 97 := fun args w => Go.Proofs.enters_of Try.func97 (by kernel_rfl) rfl args w
theorem en98 : Enters Try.prog 98 := fun args w => Go.Proofs.enters_of Try.func98 (by kernel_rfl) rfl args w
theorem en99 : Enters Try.prog 99 := fun args w => Go.Proofs.enters_of Try.func99 (by kernel_rfl) rfl args w
theorem en100 : Enters Try.prog 100 := fun args w => Go.Proofs.enters_of Try.func100 (by kernel_rfl) rfl args w
theorem en101 : Enters Try.prog 101 := fun args w => Go.Proofs.enters_of Try.func101 (by kernel_rfl) rfl args w
theorem en102 : Enters Try.prog 102 := fun args w => Go.Proofs.enters_of Try.func102 (by kernel_rfl) rfl args w
theorem en103 : Enters Try.prog 103 := fun args w => Go.Proofs.enters_of Try.func103 (by kernel_rfl) rfl args w
theorem en104 : Enters Try.prog 104 := fun args w => Go.Proofs.enters_of Try.func104 (by kernel_rfl) rfl args w
theorem en105 : Enters Try.prog 105 := fun args w => Go.Proofs.enters_of Try.func105 (by kernel_rfl) rfl args w
theorem en106 : Enters Try.prog 106 := fun args w => Go.Proofs.enters_of Try.func106 (by kernel_rfl) rfl args w
theorem en107 : Enters Try.prog 107 := fun args w => Go.Proofs.enters_of Try.func107 (by kernel_rfl) rfl args w
theorem en108 : Enters Try.prog 108 := fun args w => Go.Proofs.enters_of Try.func108 (by kernel_rfl) rfl args w
theorem en109 : Enters Try.prog 109 := fun args w => Go.Proofs.enters_of Try.func109 (by kernel_rfl) rfl args w
theorem en110 : Enters Try.prog 110 := fun args w => Go.Proofs.enters_of Try.func110 (by kernel_rfl) rfl args w
theorem en111 : Enters Try.prog 111 := fun args w => Go.Proofs.enters_of Try.func111 (by kernel_rfl) rfl args w
theorem en112 : Enters Try.prog 112 := fun args w => Go.Proofs.enters_of Try.func112 (by kernel_rfl) rfl args w
theorem en113 : Enters Try.prog 113 := fun args w => Go.Proofs.enters_of Try.func113 (by kernel_rfl) rfl args w
theorem en114 : Enters Try.prog 114 := fun args w => Go.Proofs.enters_of Try.func114 (by kernel_rfl) rfl args w
theorem en115 : Enters Try.prog 115 := fun args w => Go.Proofs.enters_of Try.func115 (by kernel_rfl) rfl args w
theorem en116 : Enters Try.prog 116 := fun args w => Go.Proofs.enters_of Try.func116 (by kernel_rfl) rfl args w
theorem en117 : Enters Try.prog 117 := fun args w => Go.Proofs.enters_of Try.func117 (by kernel_rfl) rfl args w
theorem en118 : Enters Try.prog 118 := fun args w => Go.Proofs.enters_of Try.func118 (by kernel_rfl) rfl args w
theorem en119 : Enters Try.prog 119 := fun args w => Go.Proofs.enters_of Try.func119 (by kernel_rfl) rfl args w
theorem en120 : Enters Try.prog 120 := fun args w => Go.Proofs.enters_of Try.func120 (by kernel_rfl) rfl args w
theorem en121 : Enters Try.prog 121 := fun args w => Go.Proofs.enters_of Try.func121 (by kernel_rfl) rfl args w
theorem en122 : Enters Try.prog 122 := fun args w => Go.Proofs.enters_of Try.func122 (by kernel_rfl) rfl args w
theorem en123 : Enters Try.prog 123 := fun args w => Go.Proofs.enters_of Try.func123 (by kernel_rfl) rfl args w
theorem en124 : Enters Try.prog 124 := fun args w => Go.Proofs.enters_of Try.func124 (by kernel_rfl) rfl args w
theorem en125 : Enters Try.prog 125 := fun args w => Go.Proofs.enters_of Try.func125 (by kernel_rfl) rfl args w
theorem en126 : Enters Try.prog 126 := fun args w => Go.Proofs.enters_of Try.func126 (by kernel_rfl) rfl args w
theorem en127 : Enters Try.prog 127 := fun args w => Go.Proofs.enters_of Try.func127 (by kernel_rfl) rfl args w
theorem en128 : Enters Try.prog 128 := fun args w => Go.Proofs.enters_of Try.func128 (by kernel_rfl) rfl args w
theorem en129 : Enters Try.prog 129 := fun args w => Go.Proofs.enters_of Try.func129 (by kernel_rfl) rfl args w
theorem en130 : Enters Try.prog 130 := fun args w => Go.Proofs.enters_of Try.func130 (by kernel_rfl) rfl args w
theorem en131 : Enters Try.prog 131 := fun args w => Go.Proofs.enters_of Try.func131 (by kernel_rfl) rfl args w
theorem en132 : Enters Try.prog 132 := fun args w => Go.Proofs.enters_of Try.func132 (by kernel_rfl) rfl args w
theorem en133 : Enters Try.prog 133 := fun args w => Go.Proofs.enters_of Try.func133 (by kernel_rfl) rfl args w
theorem en134 : Enters Try.prog 134 := fun args w => Go.Proofs.enters_of Try.func134 (by kernel_rfl) rfl args w
theorem en135 : Enters Try.prog 135 := fun args w => Go.Proofs.enters_of Try.func135 (by kernel_rfl) rfl args w
theorem en136 : Enters Try.prog 136 := fun args w => Go.Proofs.enters_of Try.func136 (by kernel_rfl) rfl args w
theorem en137 : Enters Try.prog 137 := fun args w => Go.Proofs.enters_of Try.func137 (by kernel_rfl) rfl args w
theorem en138 : Enters Try.prog 138 := fun args w => Go.Proofs.enters_of Try.func138 (by kernel_rfl) rfl args w
theorem en139 : Enters Try.prog 139 := fun args w => Go.Proofs.enters_of Try.func139 (by kernel_rfl) rfl args w
theorem en140 : Enters Try.prog 140 := fun args w => Go.Proofs.enters_of Try.func140 (by kernel_rfl) rfl args w
theorem en141 : Enters Try.prog 141 := fun args w => Go.Proofs.enters_of Try.func141 (by kernel_rfl) rfl args w
theorem en142 : Enters Try.prog 142 := fun args w => Go.Proofs.enters_of Try.func142 (by kernel_rfl) rfl args w
theorem en143 : Enters Try.prog 143 := fun args w => Go.Proofs.enters_of Try.func143 (by kernel_rfl) rfl args w
theorem en144 : Enters Try.prog 144 := fun args w => Go.Proofs.enters_of Try.func144 (by kernel_rfl) rfl args w
theorem en145 : Enters Try.prog 145 := fun args w => Go.Proofs.enters_of Try.func145 (by kernel_rfl) rfl args w
theorem en146 : Enters Try.prog 146 := fun args w => Go.Proofs.enters_of Try.func146 (by kernel_rfl) rfl args w
theorem en147 : Enters Try.prog 147 := fun args w => Go.Proofs.enters_of Try.func147 (by kernel_rfl) rfl args w
theorem en148 : Enters Try.prog 148 := fun args w => Go.Proofs.enters_of Try.func148 (by kernel_rfl) rfl args w
theorem en149 : Enters Try.prog 149 := fun args w => Go.Proofs.enters_of Try.func149 (by kernel_rfl) rfl args w
theorem en150 : Enters Try.prog 150 := fun args w => Go.Proofs.enters_of Try.func150 (by kernel_rfl) rfl args w
theorem en151 : Enters Try.prog 151 := fun args w => Go.Proofs.enters_of Try.func151 (by kernel_rfl) rfl args w
theorem en152 : Enters Try.prog 152 := fun args w => Go.Proofs.enters_of Try.func152 (by kernel_rfl) rfl args w
theorem en153 : Enters Try.prog 153 := fun args w => Go.Proofs.enters_of Try.func153 (by kernel_rfl) rfl args w
theorem en154 : Enters Try.prog 154 := fun args w => Go.Proofs.enters_of Try.func154 (by kernel_rfl) rfl args w
theorem en155 : Enters Try.prog 155 := fun args w => Go.Proofs.enters_of Try.func155 (by kernel_rfl) rfl args w
theorem en156 : Enters Try.prog 156 := fun args w => Go.Proofs.enters_of Try.func156 (by kernel_rfl) rfl args w
theorem en157 : Enters Try.prog 157 := fun args w => Go.Proofs.enters_of Try.func157 (by kernel_rfl) rfl args w
theorem en158 : Enters Try.prog 158 := fun args w => Go.Proofs.enters_of Try.func158 (by kernel_rfl) rfl args w
theorem en159 : Enters Try.prog 159 := fun args w => Go.Proofs.enters_of Try.func159 (by kernel_rfl) rfl args w
theorem en160 : Enters Try.prog 160 := fun args w => Go.Proofs.enters_of Try.func160 (by kernel_rfl) rfl args w
theorem en161 : Enters Try.prog 161 := fun args w => Go.Proofs.enters_of Try.func161 (by kernel_rfl) rfl args w
theorem en162 : Enters Try.prog 162 := fun args w => Go.Proofs.enters_of Try.func162 (by kernel_rfl) rfl args w
theorem en163 : Enters Try.prog 163 := fun args w => Go.Proofs.enters_of Try.func163 (by kernel_rfl) rfl args w
theorem en164 : Enters Try.prog 164 := fun args w => Go.Proofs.enters_of Try.func164 (by kernel_rfl) rfl args w
theorem en165 : Enters Try.prog 165 := fun args w => Go.Proofs.enters_of Try.func165 (by kernel_rfl) rfl args w
theorem en166 : Enters Try.prog 166 := fun args w => Go.Proofs.enters_of Try.func166 (by kernel_rfl) rfl args w
theorem en167 : Enters Try.prog 167 := fun args w => Go.Proofs.enters_of Try.func167 (by kernel_rfl) rfl args w
theorem en168 : Enters Try.prog 168 := fun args w => Go.Proofs.enters_of Try.func168 (by kernel_rfl) rfl args w
theorem en169 : Enters Try.prog 169 := fun args w => Go.Proofs.enters_of Try.func169 (by kernel_rfl) rfl args w
theorem en170 : Enters Try.prog 170 := fun args w => Go.Proofs.enters_of Try.func170 (by kernel_rfl) rfl args w
theorem en171 : Enters Try.prog 171 := fun args w => Go.Proofs.enters_of Try.func171 (by kernel_rfl) rfl args w
theorem en172 : Enters Try.prog 172 := fun args w => Go.Proofs.enters_of Try.func172 (by kernel_rfl) rfl args w

noncomputable def fns : List (FuncId × Func) := [(3, Try.f3), (4, Try.f4), (5, Try.f5), (6, Try.f6), (7, Try.f7), (8, Try.f8), (9, Try.f9), (10, Try.f10), (11, Try.f11), (12, Try.f12), (13, Try.f13), (14, Try.f14), (15, Try.f15), (16, Try.f16), (17, Try.f17), (18, Try.f18), (19, Try.f19), (20, Try.f20), (21, Try.f21), (22, Try.f22), (23, Try.f23), (24, Try.f24), (25, Try.f25), (26, Try.f26), (27, Try.f27), (28, Try.f28), (29, Try.f29), (30, Try.f30), (31, Try.f31), (32, Try.f32), (33, Try.f33), (34, Try.f34), (35, Try.f35), (36, Try.f36), (37, Try.f37), (38, Try.f38), (39, Try.f39), (40, Try.f40), (41, Try.f41), (42, Try.f42), (43, Try.f43), (44, Try.f44), (45, Try.f45), (46, Try.f46), (47, Try.f47), (48, Try.f48), (49, Try.f49), (50, Try.f50), (51, Try.f51), (52, Try.f52), (53, Try.f53), (54, Try.f54), (55, Try.f55), (56, Try.f56), (57, Try.f57), (58, Try.f58), (59, Try.f59), (60, Try.f60), (61, Try.f61), (62, Try.f62), (63, Try.f63), (64, Try.f64), (65, Try.f65), (66, Try.f66), (67, Try.f67), (68, Try.f68), (69, Try.f69), (70, Try.f70), (71, Try.f71), (72, Try.f72), (73, Try.f73), (74, Try.f74), (75, Try.f75), (76, Try.f76), (77, Try.f77), (78, Try.f78), (79, Try.f79), (80, Try.f80), (81, Try.f81), (82, Try.f82), (83, Try.f83), (84, Try.f84), (85, Try.f85), (86, Try.f86), (87, Try.f87), (88, Try.f88), (89, Try.f89), (90, Try.f90), (91, Try.f91), (92, Try.f92), (93, Try.f93), (94, Try.f94), (95, Try.f95), (96, Try.f96), (97, Try.f97), (98, Try.f98), (99, Try.f99), (100, Try.f100), (101, Try.f101), (102, Try.f102), (103, Try.f103), (104, Try.f104), (105, Try.f105), (106, Try.f106), (107, Try.f107), (108, Try.f108), (109, Try.f109), (110, Try.f110), (111, Try.f111), (112, Try.f112), (113, Try.f113), (114, Try.f114), (115, Try.f115), (116, Try.f116), (117, Try.f117), (118, Try.f118), (119, Try.f119), (120, Try.f120), (121, Try.f121), (122, Try.f122), (123, Try.f123), (124, Try.f124), (125, Try.f125), (126, Try.f126), (127, Try.f127), (128, Try.f128), (129, Try.f129), (130, Try.f130), (131, Try.f131), (132, Try.f132), (133, Try.f133), (134, Try.f134), (135, Try.f135), (136, Try.f136), (137, Try.f137), (138, Try.f138), (139, Try.f139), (140, Try.f140), (141, Try.f141), (142, Try.f142), (143, Try.f143), (144, Try.f144), (145, Try.f145), (146, Try.f146), (147, Try.f147), (148, Try.f148), (149, Try.f149), (150, Try.f150), (151, Try.f151), (152, Try.f152), (153, Try.f153), (154, Try.f154), (155, Try.f155), (156, Try.f156), (157, Try.f157), (158, Try.f158), (159, Try.f159), (160, Try.f160), (161, Try.f161), (162, Try.f162), (163, Try.f163), (164, Try.f164), (165, Try.f165), (166, Try.f166), (167, Try.f167), (168, Try.f168), (169, Try.f169), (170, Try.f170), (171, Try.f171), (172, Try.f172)]

theorem fns_ok : fnsB Try.prog fns := ⟨⟨Try.func3, en3, by kernel_rfl⟩, ⟨Try.func4, en4, by kernel_rfl⟩, ⟨Try.func5, en5, by kernel_rfl⟩, ⟨Try.func6, en6, by kernel_rfl⟩, ⟨Try.func7, en7, by kernel_rfl⟩, ⟨Try.func8, en8, by kernel_rfl⟩, ⟨Try.func9, en9, by kernel_rfl⟩, ⟨Try.func10, en10, by kernel_rfl⟩, ⟨Try.func11, en11, by kernel_rfl⟩, ⟨Try.func12, en12, by kernel_rfl⟩, ⟨Try.func13, en13, by kernel_rfl⟩, ⟨Try.func14, en14, by kernel_rfl⟩, ⟨Try.func15, en15, by kernel_rfl⟩, ⟨Try.func16, en16, by kernel_rfl⟩, ⟨Try.func17, en17, by kernel_rfl⟩, ⟨Try.func18, en18, by kernel_rfl⟩, ⟨Try.func19, en19, by kernel_rfl⟩, ⟨Try.func20, en20, by kernel_rfl⟩, ⟨Try.func21, en21, by kernel_rfl⟩, ⟨Try.func22, en22, by kernel_rfl⟩, ⟨Try.func23, en23, by kernel_rfl⟩, ⟨Try.func24, en24, by kernel_rfl⟩, ⟨Try.func25, en25, by kernel_rfl⟩, ⟨Try.func26, en26, by kernel_rfl⟩, ⟨Try.func27, en27, by kernel_rfl⟩, ⟨Try.func28, en28, by kernel_rfl⟩, ⟨Try.func29, en29, by kernel_rfl⟩, ⟨Try.func30, en30, by kernel_rfl⟩, ⟨Try.func31, en31, by kernel_rfl⟩, ⟨Try.func32, en32, by kernel_rfl⟩, ⟨Try.func33, en33, by kernel_rfl⟩, ⟨Try.func34, en34, by kernel_rfl⟩, ⟨Try.func35, en35, by kernel_rfl⟩, ⟨Try.func36, en36, by kernel_rfl⟩, ⟨Try.func37, en37, by kernel_rfl⟩, ⟨Try.func38, en38, by kernel_rfl⟩, ⟨Try.func39, en39, by kernel_rfl⟩, ⟨Try.func40, en40, by kernel_rfl⟩, ⟨Try.func41, en41, by kernel_rfl⟩, ⟨Try.func42, en42, by kernel_rfl⟩, ⟨Try.func43, en43, by kernel_rfl⟩, ⟨Try.func44, en44, by kernel_rfl⟩, ⟨Try.func45, en45, by kernel_rfl⟩, ⟨Try.func46, en46, by kernel_rfl⟩, ⟨Try.func47, en47, by kernel_rfl⟩, ⟨Try.func48, en48, by kernel_rfl⟩, ⟨Try.func49, en49, by kernel_rfl⟩, ⟨Try.func50, en50, by kernel_rfl⟩, ⟨Try.func51, en51, by kernel_rfl⟩, ⟨Try.func52, en52, by kernel_rfl⟩, ⟨Try.func53, en53, by kernel_rfl⟩, ⟨Try.func54, en54, by kernel_rfl⟩, ⟨Try.func55, en55, by kernel_rfl⟩, ⟨Try.func56, en56, by kernel_rfl⟩, ⟨Try.func57, en57, by kernel_rfl⟩, ⟨Try.func58, en58, by kernel_rfl⟩, ⟨Try.func59, en59, by kernel_rfl⟩, ⟨Try.func60, en60, by kernel_rfl⟩, ⟨Try.func61, en61, by kernel_rfl⟩, ⟨Try.func62, en62, by kernel_rfl⟩, ⟨Try.func63, en63, by kernel_rfl⟩, ⟨Try.func64, en64, by kernel_rfl⟩, ⟨Try.func65, en65, by kernel_rfl⟩, ⟨Try.func66, en66, by kernel_rfl⟩, ⟨Try.func67, en67, by kernel_rfl⟩, ⟨Try.func68, en68, by kernel_rfl⟩, ⟨Try.func69, en69, by kernel_rfl⟩, ⟨Try.func70, en70, by kernel_rfl⟩, ⟨Try.func71, en71, by kernel_rfl⟩, ⟨Try.func72, en72, by kernel_rfl⟩, ⟨Try.func73, en73, by kernel_rfl⟩, ⟨Try.func74, en74, by kernel_rfl⟩, ⟨Try.func75, en75, by kernel_rfl⟩, ⟨Try.func76, en76, by kernel_rfl⟩, ⟨Try.func77, en77, by kernel_rfl⟩, ⟨Try.func78, en78, by kernel_rfl⟩, ⟨Try.func79, en79, by kernel_rfl⟩, ⟨Try.func80, en80, by kernel_rfl⟩, ⟨Try.func81, en81, by kernel_rfl⟩, ⟨Try.func82, en82, by kernel_rfl⟩, ⟨Try.func83, en83, by kernel_rfl⟩, ⟨Try.func84, en84, by kernel_rfl⟩, ⟨Try.func85, en85, by kernel_rfl⟩, ⟨Try.func86, en86, by kernel_rfl⟩, ⟨Try.func87, en87, by kernel_rfl⟩, ⟨Try.func88, en88, by kernel_rfl⟩, ⟨Try.func89, en89, by kernel_rfl⟩, ⟨Try.func90, en90, by kernel_rfl⟩, ⟨Try.func91, en91, by kernel_rfl⟩, ⟨Try.func92, en92, by kernel_rfl⟩, ⟨Try.func93, en93, by kernel_rfl⟩, ⟨Try.func94, en94, by kernel_rfl⟩, ⟨Try.func95, en95, by kernel_rfl⟩, ⟨Try.func96, en96, by kernel_rfl⟩, ⟨Try.func97, en97, by kernel_rfl⟩, ⟨Try.func98, en98, by kernel_rfl⟩, ⟨Try.func99, en99, by kernel_rfl⟩, ⟨Try.func100, en100, by kernel_rfl⟩, ⟨Try.func101, en101, by kernel_rfl⟩, ⟨Try.func102, en102, by kernel_rfl⟩, ⟨Try.func103, en103, by kernel_rfl⟩, ⟨Try.func104, en104, by kernel_rfl⟩, ⟨Try.func105, en105, by kernel_rfl⟩, ⟨Try.func106, en106, by kernel_rfl⟩, ⟨Try.func107, en107, by kernel_rfl⟩, ⟨Try.func108, en108, by kernel_rfl⟩, ⟨Try.func109, en109, by kernel_rfl⟩, ⟨Try.func110, en110, by kernel_rfl⟩, ⟨Try.func111, en111, by kernel_rfl⟩, ⟨Try.func112, en112, by kernel_rfl⟩, ⟨Try.func113, en113, by kernel_rfl⟩, ⟨Try.func114, en114, by kernel_rfl⟩, ⟨Try.func115, en115, by kernel_rfl⟩, ⟨Try.func116, en116, by kernel_rfl⟩, ⟨Try.func117, en117, by kernel_rfl⟩, ⟨Try.func118, en118, by kernel_rfl⟩, ⟨Try.func119, en119, by kernel_rfl⟩, ⟨Try.func120, en120, by kernel_rfl⟩, ⟨Try.func121, en121, by kernel_rfl⟩, ⟨Try.func122, en122, by kernel_rfl⟩, ⟨Try.func123, en123, by kernel_rfl⟩, ⟨Try.func124, en124, by kernel_rfl⟩, ⟨Try.func125, en125, by kernel_rfl⟩, ⟨Try.func126, en126, by kernel_rfl⟩, ⟨Try.func127, en127, by kernel_rfl⟩, ⟨Try.func128, en128, by kernel_rfl⟩, ⟨Try.func129, en129, by kernel_rfl⟩, ⟨Try.func130, en130, by kernel_rfl⟩, ⟨Try.func131, en131, by kernel_rfl⟩, ⟨Try.func132, en132, by kernel_rfl⟩, ⟨Try.func133, en133, by kernel_rfl⟩, ⟨Try.func134, en134, by kernel_rfl⟩, ⟨Try.func135, en135, by kernel_rfl⟩, ⟨Try.func136, en136, by kernel_rfl⟩, ⟨Try.func137, en137, by kernel_rfl⟩, ⟨Try.func138, en138, by kernel_rfl⟩, ⟨Try.func139, en139, by kernel_rfl⟩, ⟨Try.func140, en140, by kernel_rfl⟩, ⟨Try.func141, en141, by kernel_rfl⟩, ⟨Try.func142, en142, by kernel_rfl⟩, ⟨Try.func143, en143, by kernel_rfl⟩, ⟨Try.func144, en144, by kernel_rfl⟩, ⟨Try.func145, en145, by kernel_rfl⟩, ⟨Try.func146, en146, by kernel_rfl⟩, ⟨Try.func147, en147, by kernel_rfl⟩, ⟨Try.func148, en148, by kernel_rfl⟩, ⟨Try.func149, en149, by kernel_rfl⟩, ⟨Try.func150, en150, by kernel_rfl⟩, ⟨Try.func151, en151, by kernel_rfl⟩, ⟨Try.func152, en152, by kernel_rfl⟩, ⟨Try.func153, en153, by kernel_rfl⟩, ⟨Try.func154, en154, by kernel_rfl⟩, ⟨Try.func155, en155, by kernel_rfl⟩, ⟨Try.func156, en156, by kernel_rfl⟩, ⟨Try.func157, en157, by kernel_rfl⟩, ⟨Try.func158, en158, by kernel_rfl⟩, ⟨Try.func159, en159, by kernel_rfl⟩, ⟨Try.func160, en160, by kernel_rfl⟩, ⟨Try.func161, en161, by kernel_rfl⟩, ⟨Try.func162, en162, by kernel_rfl⟩, ⟨Try.func163, en163, by kernel_rfl⟩, ⟨Try.func164, en164, by kernel_rfl⟩, ⟨Try.func165, en165, by kernel_rfl⟩, ⟨Try.func166, en166, by kernel_rfl⟩, ⟨Try.func167, en167, by kernel_rfl⟩, ⟨Try.func168, en168, by kernel_rfl⟩, ⟨Try.func169, en169, by kernel_rfl⟩, ⟨Try.func170, en170, by kernel_rfl⟩, ⟨Try.func171, en171, by kernel_rfl⟩, ⟨Try.func172, en172, by kernel_rfl⟩, trivial⟩
theorem gok : GOk Try.prog (ofFns fns) := ofFns_ok fns_ok

end Go.Ev
