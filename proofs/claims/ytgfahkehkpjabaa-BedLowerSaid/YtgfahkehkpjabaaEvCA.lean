/-
  awake(), STATEMENT BY STATEMENT. Own work of the verifier of watercress; the frames and states are what the evaluator gives.
-/
import Derived.Test.YtgfahkehkpjabaaEvBB
import Derived.Test.YtgfahkehkpjabaaEvV
namespace Go.Ev
open Go.Proofs
set_option maxRecDepth 1000000

noncomputable def aw : Code := bodyOf Try.f19

def awF0 : TF :=
  TF.mk Tr.nil 156 []

def awS0 : St :=
  St.mk [] 0

def awF1 : TF :=
  TF.mk (Tr.node (AV.lit (Value.bool false)) Tr.nil Tr.nil) 156 []

def awS1 : St :=
  St.mk [] 0

def awF2 : TF :=
  TF.mk
  (Tr.node (AV.lit (Value.bool false))
    (Tr.node (AV.sl 4 0 4 3 false)
      (Tr.node (AV.lit (Value.tuple (Array.mk [])))
        (Tr.node (AV.lit (Value.tuple (Array.mk []))) Tr.nil (Tr.node (AV.lit (Value.int IntKind.i64 (Int.ofNat 0))) Tr.nil Tr.nil))
        (Tr.node (AV.lit (Value.tuple (Array.mk []))) (Tr.node (AV.agg [AV.sl 0 0 2 3 true, AV.sl 1 0 4 3 true, AV.sl 2 0 0 4 false]) Tr.nil Tr.nil) Tr.nil))
      (Tr.node (AV.lit (Value.tuple (Array.mk []))) Tr.nil
        (Tr.node (AV.lit (Value.tuple (Array.mk []))) (Tr.node (AV.tup [AV.sl 4 0 4 3 false, AV.lit (Value.int IntKind.i64 (Int.ofNat 0))]) Tr.nil Tr.nil)
          Tr.nil)))
    (Tr.node (AV.lit (Value.int IntKind.i64 (Int.ofNat 0)))
      (Tr.node (AV.lit (Value.tuple (Array.mk []))) Tr.nil (Tr.node (AV.lit (Value.tuple (Array.mk []))) (Tr.node (AV.sl 3 0 2 1 true) Tr.nil Tr.nil) Tr.nil))
      (Tr.node (AV.lit (Value.tuple (Array.mk [])))
        (Tr.node (AV.lit (Value.tuple (Array.mk []))) (Tr.node (AV.tup [AV.sl 4 0 4 3 false, AV.lit (Value.int IntKind.i64 (Int.ofNat 0))]) Tr.nil Tr.nil)
          Tr.nil)
        (Tr.node (AV.lit (Value.tuple (Array.mk []))) (Tr.node (AV.sl 4 0 4 3 false) Tr.nil Tr.nil) Tr.nil))))
  156 []

def awS2 : St :=
  St.mk
  [(4,
      AObj.cells none false
        [AV.lit (Value.int IntKind.i64 (Int.ofNat 4)), AV.lit (Value.int IntKind.i64 (Int.ofNat 2)), AV.lit (Value.int IntKind.i64 (Int.ofNat 2)),
          AV.lit (Value.int IntKind.i64 (Int.ofNat 5)), AV.lit (Value.int IntKind.i64 (Int.ofNat 4)), AV.lit (Value.int IntKind.i64 (Int.ofNat 1)),
          AV.lit (Value.int IntKind.i64 (Int.ofNat 3)), AV.lit (Value.int IntKind.i64 (Int.ofNat 2)), AV.lit (Value.int IntKind.i64 (Int.ofNat 1)),
          AV.lit (Value.int IntKind.i64 (Int.ofNat 1)), AV.lit (Value.int IntKind.i64 (Int.ofNat 1)), AV.lit (Value.int IntKind.i64 (Int.ofNat 0))]),
    (3, AObj.cells none false [AV.lit (Value.int IntKind.i64 (Int.ofNat 4)), AV.lit (Value.int IntKind.i64 (Int.ofNat 5))]),
    (0,
      AObj.cells none false
        [AV.lit (Value.int IntKind.i64 (Int.ofNat 0)), AV.lit (Value.int IntKind.i64 (Int.ofNat 4)), AV.lit (Value.int IntKind.i64 (Int.ofNat 5)),
          AV.lit (Value.int IntKind.i64 (Int.ofNat 1)), AV.lit (Value.int IntKind.i64 (Int.ofNat 5)), AV.lit (Value.int IntKind.i64 (Int.ofNat 6))]),
    (1,
      AObj.cells none false
        [AV.lit (Value.int IntKind.i64 (Int.ofNat 2)), AV.lit (Value.int IntKind.i64 (Int.ofNat 2)), AV.lit (Value.int IntKind.i64 (Int.ofNat 2)),
          AV.lit (Value.int IntKind.i64 (Int.ofNat 3)), AV.lit (Value.int IntKind.i64 (Int.ofNat 4)), AV.lit (Value.int IntKind.i64 (Int.ofNat 2)),
          AV.lit (Value.int IntKind.i64 (Int.ofNat 2)), AV.lit (Value.int IntKind.i64 (Int.ofNat 2)), AV.lit (Value.int IntKind.i64 (Int.ofNat 3)),
          AV.lit (Value.int IntKind.i64 (Int.ofNat 3)), AV.lit (Value.int IntKind.i64 (Int.ofNat 3)), AV.lit (Value.int IntKind.i64 (Int.negSucc 0))]),
    (2,
      AObj.cells none false
        [AV.lit (Value.int IntKind.i64 (Int.ofNat 0)), AV.lit (Value.bool true), AV.lit (Value.int IntKind.i64 (Int.ofNat 3)),
          AV.lit (Value.int IntKind.i64 (Int.ofNat 9)), AV.lit (Value.int IntKind.i64 (Int.ofNat 3)), AV.lit (Value.bool true),
          AV.lit (Value.int IntKind.i64 (Int.ofNat 1)), AV.lit (Value.int IntKind.i64 (Int.ofNat 5))])]
  5

def awF3 : TF :=
  TF.mk
  (Tr.node (AV.lit (Value.bool false))
    (Tr.node (AV.sl 4 0 4 3 false)
      (Tr.node (AV.lit (Value.int IntKind.i64 (Int.ofNat 3)))
        (Tr.node (AV.lit (Value.tuple (Array.mk []))) Tr.nil (Tr.node (AV.lit (Value.int IntKind.i64 (Int.ofNat 0))) Tr.nil Tr.nil))
        (Tr.node (AV.lit (Value.tuple (Array.mk []))) (Tr.node (AV.agg [AV.sl 0 0 2 3 true, AV.sl 1 0 4 3 true, AV.sl 2 0 0 4 false]) Tr.nil Tr.nil)
          (Tr.node (AV.lit (Value.int IntKind.i64 (Int.ofNat 3))) Tr.nil Tr.nil)))
      (Tr.node (AV.lit (Value.tuple (Array.mk [])))
        (Tr.node (AV.lit (Value.tuple (Array.mk []))) Tr.nil (Tr.node (AV.agg [AV.sl 5 0 2 3 true, AV.sl 6 0 4 3 true, AV.sl 7 0 0 4 false]) Tr.nil Tr.nil))
        (Tr.node (AV.lit (Value.tuple (Array.mk []))) (Tr.node (AV.tup [AV.sl 4 0 4 3 false, AV.lit (Value.int IntKind.i64 (Int.ofNat 0))]) Tr.nil Tr.nil)
          Tr.nil)))
    (Tr.node (AV.lit (Value.int IntKind.i64 (Int.ofNat 0)))
      (Tr.node (AV.lit (Value.int IntKind.i64 (Int.ofNat 0)))
        (Tr.node (AV.lit (Value.tuple (Array.mk []))) Tr.nil
          (Tr.node (AV.tup [AV.lit (Value.int IntKind.i64 (Int.ofNat 3)), AV.lit (Value.int IntKind.i64 (Int.ofNat 0))]) Tr.nil Tr.nil))
        (Tr.node (AV.lit (Value.tuple (Array.mk []))) (Tr.node (AV.sl 3 0 2 1 true) Tr.nil Tr.nil)
          (Tr.node (AV.lit (Value.int IntKind.i64 (Int.ofNat 0))) Tr.nil Tr.nil)))
      (Tr.node (AV.lit (Value.tuple (Array.mk [])))
        (Tr.node (AV.lit (Value.tuple (Array.mk []))) (Tr.node (AV.tup [AV.sl 4 0 4 3 false, AV.lit (Value.int IntKind.i64 (Int.ofNat 0))]) Tr.nil Tr.nil)
          (Tr.node (AV.tup [AV.lit (Value.int IntKind.i64 (Int.ofNat 3)), AV.lit (Value.int IntKind.i64 (Int.ofNat 0))]) Tr.nil Tr.nil))
        (Tr.node (AV.lit (Value.tuple (Array.mk []))) (Tr.node (AV.sl 4 0 4 3 false) Tr.nil Tr.nil) Tr.nil))))
  156 []

def awS3 : St :=
  St.mk
  [(5,
      AObj.cells none false
        [AV.lit (Value.int IntKind.i64 (Int.ofNat 0)), AV.lit (Value.int IntKind.i64 (Int.ofNat 4)), AV.lit (Value.int IntKind.i64 (Int.ofNat 5)),
          AV.lit (Value.int IntKind.i64 (Int.ofNat 1)), AV.lit (Value.int IntKind.i64 (Int.ofNat 5)), AV.lit (Value.int IntKind.i64 (Int.ofNat 6))]),
    (6,
      AObj.cells none false
        [AV.lit (Value.int IntKind.i64 (Int.ofNat 2)), AV.lit (Value.int IntKind.i64 (Int.ofNat 2)), AV.lit (Value.int IntKind.i64 (Int.ofNat 2)),
          AV.lit (Value.int IntKind.i64 (Int.ofNat 3)), AV.lit (Value.int IntKind.i64 (Int.ofNat 4)), AV.lit (Value.int IntKind.i64 (Int.ofNat 2)),
          AV.lit (Value.int IntKind.i64 (Int.ofNat 2)), AV.lit (Value.int IntKind.i64 (Int.ofNat 2)), AV.lit (Value.int IntKind.i64 (Int.ofNat 3)),
          AV.lit (Value.int IntKind.i64 (Int.ofNat 3)), AV.lit (Value.int IntKind.i64 (Int.ofNat 3)), AV.lit (Value.int IntKind.i64 (Int.negSucc 0))]),
    (7,
      AObj.cells none false
        [AV.lit (Value.int IntKind.i64 (Int.ofNat 0)), AV.lit (Value.bool true), AV.lit (Value.int IntKind.i64 (Int.ofNat 3)),
          AV.lit (Value.int IntKind.i64 (Int.ofNat 9)), AV.lit (Value.int IntKind.i64 (Int.ofNat 3)), AV.lit (Value.bool true),
          AV.lit (Value.int IntKind.i64 (Int.ofNat 1)), AV.lit (Value.int IntKind.i64 (Int.ofNat 5))]),
    (4,
      AObj.cells none false
        [AV.lit (Value.int IntKind.i64 (Int.ofNat 4)), AV.lit (Value.int IntKind.i64 (Int.ofNat 2)), AV.lit (Value.int IntKind.i64 (Int.ofNat 2)),
          AV.lit (Value.int IntKind.i64 (Int.ofNat 5)), AV.lit (Value.int IntKind.i64 (Int.ofNat 4)), AV.lit (Value.int IntKind.i64 (Int.ofNat 1)),
          AV.lit (Value.int IntKind.i64 (Int.ofNat 3)), AV.lit (Value.int IntKind.i64 (Int.ofNat 2)), AV.lit (Value.int IntKind.i64 (Int.ofNat 1)),
          AV.lit (Value.int IntKind.i64 (Int.ofNat 1)), AV.lit (Value.int IntKind.i64 (Int.ofNat 1)), AV.lit (Value.int IntKind.i64 (Int.ofNat 0))]),
    (3, AObj.cells none false [AV.lit (Value.int IntKind.i64 (Int.ofNat 4)), AV.lit (Value.int IntKind.i64 (Int.ofNat 5))]),
    (0,
      AObj.cells none false
        [AV.lit (Value.int IntKind.i64 (Int.ofNat 0)), AV.lit (Value.int IntKind.i64 (Int.ofNat 4)), AV.lit (Value.int IntKind.i64 (Int.ofNat 5)),
          AV.lit (Value.int IntKind.i64 (Int.ofNat 1)), AV.lit (Value.int IntKind.i64 (Int.ofNat 5)), AV.lit (Value.int IntKind.i64 (Int.ofNat 6))]),
    (1,
      AObj.cells none false
        [AV.lit (Value.int IntKind.i64 (Int.ofNat 2)), AV.lit (Value.int IntKind.i64 (Int.ofNat 2)), AV.lit (Value.int IntKind.i64 (Int.ofNat 2)),
          AV.lit (Value.int IntKind.i64 (Int.ofNat 3)), AV.lit (Value.int IntKind.i64 (Int.ofNat 4)), AV.lit (Value.int IntKind.i64 (Int.ofNat 2)),
          AV.lit (Value.int IntKind.i64 (Int.ofNat 2)), AV.lit (Value.int IntKind.i64 (Int.ofNat 2)), AV.lit (Value.int IntKind.i64 (Int.ofNat 3)),
          AV.lit (Value.int IntKind.i64 (Int.ofNat 3)), AV.lit (Value.int IntKind.i64 (Int.ofNat 3)), AV.lit (Value.int IntKind.i64 (Int.negSucc 0))]),
    (2,
      AObj.cells none false
        [AV.lit (Value.int IntKind.i64 (Int.ofNat 0)), AV.lit (Value.bool true), AV.lit (Value.int IntKind.i64 (Int.ofNat 3)),
          AV.lit (Value.int IntKind.i64 (Int.ofNat 9)), AV.lit (Value.int IntKind.i64 (Int.ofNat 3)), AV.lit (Value.bool true),
          AV.lit (Value.int IntKind.i64 (Int.ofNat 1)), AV.lit (Value.int IntKind.i64 (Int.ofNat 5))])]
  8

def awF4 : TF :=
  TF.mk
  (Tr.node (AV.lit (Value.bool false))
    (Tr.node (AV.sl 4 0 4 3 false)
      (Tr.node (AV.lit (Value.int IntKind.i64 (Int.ofNat 3)))
        (Tr.node (AV.lit (Value.int IntKind.i64 (Int.ofNat 0)))
          (Tr.node (AV.lit (Value.tuple (Array.mk [])))
            (Tr.node (AV.tup [AV.lit (Value.int IntKind.i64 (Int.ofNat 3)), AV.sl 11 0 2 1 false, AV.lit (Value.int IntKind.i64 (Int.ofNat 0))]) Tr.nil Tr.nil)
            Tr.nil)
          (Tr.node (AV.lit (Value.int IntKind.i64 (Int.ofNat 0))) Tr.nil Tr.nil))
        (Tr.node (AV.lit (Value.tuple (Array.mk []))) (Tr.node (AV.agg [AV.sl 0 0 2 3 true, AV.sl 1 0 4 3 true, AV.sl 2 0 0 4 false]) Tr.nil Tr.nil)
          (Tr.node (AV.lit (Value.int IntKind.i64 (Int.ofNat 3))) Tr.nil Tr.nil)))
      (Tr.node (AV.lit (Value.int IntKind.i64 (Int.ofNat 3)))
        (Tr.node (AV.lit (Value.tuple (Array.mk []))) (Tr.node (AV.lit (Value.tuple (Array.mk []))) (Tr.node (AV.sl 11 0 2 1 false) Tr.nil Tr.nil) Tr.nil)
          (Tr.node (AV.agg [AV.sl 5 0 2 3 true, AV.sl 6 0 4 3 true, AV.sl 7 0 0 4 false]) Tr.nil Tr.nil))
        (Tr.node (AV.lit (Value.tuple (Array.mk []))) (Tr.node (AV.tup [AV.sl 4 0 4 3 false, AV.lit (Value.int IntKind.i64 (Int.ofNat 0))]) Tr.nil Tr.nil)
          (Tr.node (AV.tup [AV.lit (Value.int IntKind.i64 (Int.ofNat 3)), AV.sl 11 0 2 1 false, AV.lit (Value.int IntKind.i64 (Int.ofNat 0))]) Tr.nil Tr.nil))))
    (Tr.node (AV.lit (Value.int IntKind.i64 (Int.ofNat 0)))
      (Tr.node (AV.lit (Value.int IntKind.i64 (Int.ofNat 0)))
        (Tr.node (AV.lit (Value.tuple (Array.mk [])))
          (Tr.node (AV.lit (Value.tuple (Array.mk []))) (Tr.node (AV.lit (Value.int IntKind.i64 (Int.ofNat 3))) Tr.nil Tr.nil) Tr.nil)
          (Tr.node (AV.tup [AV.lit (Value.int IntKind.i64 (Int.ofNat 3)), AV.lit (Value.int IntKind.i64 (Int.ofNat 0))]) Tr.nil Tr.nil))
        (Tr.node (AV.lit (Value.tuple (Array.mk []))) (Tr.node (AV.sl 3 0 2 1 true) Tr.nil Tr.nil)
          (Tr.node (AV.lit (Value.int IntKind.i64 (Int.ofNat 0))) Tr.nil Tr.nil)))
      (Tr.node (AV.sl 11 0 2 1 false)
        (Tr.node (AV.lit (Value.tuple (Array.mk [])))
          (Tr.node (AV.tup [AV.sl 4 0 4 3 false, AV.lit (Value.int IntKind.i64 (Int.ofNat 0))])
            (Tr.node (AV.lit (Value.int IntKind.i64 (Int.ofNat 0))) Tr.nil Tr.nil) Tr.nil)
          (Tr.node (AV.tup [AV.lit (Value.int IntKind.i64 (Int.ofNat 3)), AV.lit (Value.int IntKind.i64 (Int.ofNat 0))]) Tr.nil Tr.nil))
        (Tr.node (AV.lit (Value.tuple (Array.mk []))) (Tr.node (AV.sl 4 0 4 3 false) Tr.nil Tr.nil)
          (Tr.node (AV.agg [AV.sl 8 0 2 3 true, AV.sl 9 0 4 3 true, AV.sl 10 0 0 4 false]) Tr.nil Tr.nil)))))
  156 []

def awS4 : St :=
  St.mk
  [(11, AObj.cells none false [AV.lit (Value.int IntKind.i64 (Int.ofNat 4)), AV.lit (Value.int IntKind.i64 (Int.ofNat 5))]),
    (8,
      AObj.cells none false
        [AV.lit (Value.int IntKind.i64 (Int.ofNat 0)), AV.lit (Value.int IntKind.i64 (Int.ofNat 4)), AV.lit (Value.int IntKind.i64 (Int.ofNat 5)),
          AV.lit (Value.int IntKind.i64 (Int.ofNat 1)), AV.lit (Value.int IntKind.i64 (Int.ofNat 5)), AV.lit (Value.int IntKind.i64 (Int.ofNat 6))]),
    (9,
      AObj.cells none false
        [AV.lit (Value.int IntKind.i64 (Int.ofNat 2)), AV.lit (Value.int IntKind.i64 (Int.ofNat 2)), AV.lit (Value.int IntKind.i64 (Int.ofNat 2)),
          AV.lit (Value.int IntKind.i64 (Int.ofNat 3)), AV.lit (Value.int IntKind.i64 (Int.ofNat 4)), AV.lit (Value.int IntKind.i64 (Int.ofNat 2)),
          AV.lit (Value.int IntKind.i64 (Int.ofNat 2)), AV.lit (Value.int IntKind.i64 (Int.ofNat 2)), AV.lit (Value.int IntKind.i64 (Int.ofNat 3)),
          AV.lit (Value.int IntKind.i64 (Int.ofNat 3)), AV.lit (Value.int IntKind.i64 (Int.ofNat 3)), AV.lit (Value.int IntKind.i64 (Int.negSucc 0))]),
    (10,
      AObj.cells none false
        [AV.lit (Value.int IntKind.i64 (Int.ofNat 0)), AV.lit (Value.bool true), AV.lit (Value.int IntKind.i64 (Int.ofNat 3)),
          AV.lit (Value.int IntKind.i64 (Int.ofNat 9)), AV.lit (Value.int IntKind.i64 (Int.ofNat 3)), AV.lit (Value.bool true),
          AV.lit (Value.int IntKind.i64 (Int.ofNat 1)), AV.lit (Value.int IntKind.i64 (Int.ofNat 5))]),
    (5,
      AObj.cells none false
        [AV.lit (Value.int IntKind.i64 (Int.ofNat 0)), AV.lit (Value.int IntKind.i64 (Int.ofNat 4)), AV.lit (Value.int IntKind.i64 (Int.ofNat 5)),
          AV.lit (Value.int IntKind.i64 (Int.ofNat 1)), AV.lit (Value.int IntKind.i64 (Int.ofNat 5)), AV.lit (Value.int IntKind.i64 (Int.ofNat 6))]),
    (6,
      AObj.cells none false
        [AV.lit (Value.int IntKind.i64 (Int.ofNat 2)), AV.lit (Value.int IntKind.i64 (Int.ofNat 2)), AV.lit (Value.int IntKind.i64 (Int.ofNat 2)),
          AV.lit (Value.int IntKind.i64 (Int.ofNat 3)), AV.lit (Value.int IntKind.i64 (Int.ofNat 4)), AV.lit (Value.int IntKind.i64 (Int.ofNat 2)),
          AV.lit (Value.int IntKind.i64 (Int.ofNat 2)), AV.lit (Value.int IntKind.i64 (Int.ofNat 2)), AV.lit (Value.int IntKind.i64 (Int.ofNat 3)),
          AV.lit (Value.int IntKind.i64 (Int.ofNat 3)), AV.lit (Value.int IntKind.i64 (Int.ofNat 3)), AV.lit (Value.int IntKind.i64 (Int.negSucc 0))]),
    (7,
      AObj.cells none false
        [AV.lit (Value.int IntKind.i64 (Int.ofNat 0)), AV.lit (Value.bool true), AV.lit (Value.int IntKind.i64 (Int.ofNat 3)),
          AV.lit (Value.int IntKind.i64 (Int.ofNat 9)), AV.lit (Value.int IntKind.i64 (Int.ofNat 3)), AV.lit (Value.bool true),
          AV.lit (Value.int IntKind.i64 (Int.ofNat 1)), AV.lit (Value.int IntKind.i64 (Int.ofNat 5))]),
    (4,
      AObj.cells none false
        [AV.lit (Value.int IntKind.i64 (Int.ofNat 4)), AV.lit (Value.int IntKind.i64 (Int.ofNat 2)), AV.lit (Value.int IntKind.i64 (Int.ofNat 2)),
          AV.lit (Value.int IntKind.i64 (Int.ofNat 5)), AV.lit (Value.int IntKind.i64 (Int.ofNat 4)), AV.lit (Value.int IntKind.i64 (Int.ofNat 1)),
          AV.lit (Value.int IntKind.i64 (Int.ofNat 3)), AV.lit (Value.int IntKind.i64 (Int.ofNat 2)), AV.lit (Value.int IntKind.i64 (Int.ofNat 1)),
          AV.lit (Value.int IntKind.i64 (Int.ofNat 1)), AV.lit (Value.int IntKind.i64 (Int.ofNat 1)), AV.lit (Value.int IntKind.i64 (Int.ofNat 0))]),
    (3, AObj.cells none false [AV.lit (Value.int IntKind.i64 (Int.ofNat 4)), AV.lit (Value.int IntKind.i64 (Int.ofNat 5))]),
    (0,
      AObj.cells none false
        [AV.lit (Value.int IntKind.i64 (Int.ofNat 0)), AV.lit (Value.int IntKind.i64 (Int.ofNat 4)), AV.lit (Value.int IntKind.i64 (Int.ofNat 5)),
          AV.lit (Value.int IntKind.i64 (Int.ofNat 1)), AV.lit (Value.int IntKind.i64 (Int.ofNat 5)), AV.lit (Value.int IntKind.i64 (Int.ofNat 6))]),
    (1,
      AObj.cells none false
        [AV.lit (Value.int IntKind.i64 (Int.ofNat 2)), AV.lit (Value.int IntKind.i64 (Int.ofNat 2)), AV.lit (Value.int IntKind.i64 (Int.ofNat 2)),
          AV.lit (Value.int IntKind.i64 (Int.ofNat 3)), AV.lit (Value.int IntKind.i64 (Int.ofNat 4)), AV.lit (Value.int IntKind.i64 (Int.ofNat 2)),
          AV.lit (Value.int IntKind.i64 (Int.ofNat 2)), AV.lit (Value.int IntKind.i64 (Int.ofNat 2)), AV.lit (Value.int IntKind.i64 (Int.ofNat 3)),
          AV.lit (Value.int IntKind.i64 (Int.ofNat 3)), AV.lit (Value.int IntKind.i64 (Int.ofNat 3)), AV.lit (Value.int IntKind.i64 (Int.negSucc 0))]),
    (2,
      AObj.cells none false
        [AV.lit (Value.int IntKind.i64 (Int.ofNat 0)), AV.lit (Value.bool true), AV.lit (Value.int IntKind.i64 (Int.ofNat 3)),
          AV.lit (Value.int IntKind.i64 (Int.ofNat 9)), AV.lit (Value.int IntKind.i64 (Int.ofNat 3)), AV.lit (Value.bool true),
          AV.lit (Value.int IntKind.i64 (Int.ofNat 1)), AV.lit (Value.int IntKind.i64 (Int.ofNat 5))])]
  12

def awF5 : TF :=
  TF.mk
  (Tr.node (AV.lit (Value.bool false))
    (Tr.node (AV.sl 4 0 4 3 false)
      (Tr.node (AV.lit (Value.int IntKind.i64 (Int.ofNat 3)))
        (Tr.node (AV.lit (Value.int IntKind.i64 (Int.ofNat 0)))
          (Tr.node (AV.lit (Value.tuple (Array.mk [])))
            (Tr.node (AV.tup [AV.lit (Value.int IntKind.i64 (Int.ofNat 3)), AV.sl 11 0 2 1 false, AV.lit (Value.int IntKind.i64 (Int.ofNat 0))]) Tr.nil Tr.nil)
            Tr.nil)
          (Tr.node (AV.lit (Value.int IntKind.i64 (Int.ofNat 0))) (Tr.node (AV.lit (Value.int IntKind.i64 (Int.ofNat 0))) Tr.nil Tr.nil) Tr.nil))
        (Tr.node (AV.lit (Value.tuple (Array.mk [])))
          (Tr.node (AV.agg [AV.sl 0 0 2 3 true, AV.sl 1 0 4 3 true, AV.sl 2 0 0 4 false])
            (Tr.node (AV.tup [AV.sl 15 0 4 6 false, AV.lit (Value.int IntKind.i64 (Int.ofNat 0))]) Tr.nil Tr.nil) Tr.nil)
          (Tr.node (AV.lit (Value.int IntKind.i64 (Int.ofNat 3))) Tr.nil Tr.nil)))
      (Tr.node (AV.lit (Value.int IntKind.i64 (Int.ofNat 3)))
        (Tr.node (AV.lit (Value.int IntKind.i64 (Int.ofNat 0)))
          (Tr.node (AV.lit (Value.tuple (Array.mk []))) (Tr.node (AV.sl 11 0 2 1 false) Tr.nil Tr.nil) Tr.nil)
          (Tr.node (AV.agg [AV.sl 5 0 2 3 true, AV.sl 6 0 4 3 true, AV.sl 7 0 0 4 false]) Tr.nil Tr.nil))
        (Tr.node (AV.lit (Value.tuple (Array.mk [])))
          (Tr.node (AV.tup [AV.sl 4 0 4 3 false, AV.lit (Value.int IntKind.i64 (Int.ofNat 0))])
            (Tr.node (AV.tup [AV.sl 15 0 4 6 false, AV.lit (Value.int IntKind.i64 (Int.ofNat 0))]) Tr.nil Tr.nil) Tr.nil)
          (Tr.node (AV.tup [AV.lit (Value.int IntKind.i64 (Int.ofNat 3)), AV.sl 11 0 2 1 false, AV.lit (Value.int IntKind.i64 (Int.ofNat 0))]) Tr.nil Tr.nil))))
    (Tr.node (AV.lit (Value.int IntKind.i64 (Int.ofNat 0)))
      (Tr.node (AV.lit (Value.int IntKind.i64 (Int.ofNat 0)))
        (Tr.node (AV.sl 15 0 4 6 false)
          (Tr.node (AV.lit (Value.tuple (Array.mk []))) (Tr.node (AV.lit (Value.int IntKind.i64 (Int.ofNat 3))) Tr.nil Tr.nil) Tr.nil)
          (Tr.node (AV.tup [AV.lit (Value.int IntKind.i64 (Int.ofNat 3)), AV.lit (Value.int IntKind.i64 (Int.ofNat 0))]) Tr.nil Tr.nil))
        (Tr.node (AV.lit (Value.tuple (Array.mk [])))
          (Tr.node (AV.sl 3 0 2 1 true) (Tr.node (AV.agg [AV.sl 12 0 2 3 true, AV.sl 13 0 4 3 true, AV.sl 14 0 1 4 false]) Tr.nil Tr.nil) Tr.nil)
          (Tr.node (AV.lit (Value.int IntKind.i64 (Int.ofNat 0))) Tr.nil Tr.nil)))
      (Tr.node (AV.sl 11 0 2 1 false)
        (Tr.node (AV.lit (Value.tuple (Array.mk [])))
          (Tr.node (AV.tup [AV.sl 4 0 4 3 false, AV.lit (Value.int IntKind.i64 (Int.ofNat 0))])
            (Tr.node (AV.lit (Value.int IntKind.i64 (Int.ofNat 0))) Tr.nil Tr.nil) Tr.nil)
          (Tr.node (AV.tup [AV.lit (Value.int IntKind.i64 (Int.ofNat 3)), AV.lit (Value.int IntKind.i64 (Int.ofNat 0))]) Tr.nil Tr.nil))
        (Tr.node (AV.lit (Value.tuple (Array.mk []))) (Tr.node (AV.sl 4 0 4 3 false) (Tr.node (AV.sl 15 0 4 6 false) Tr.nil Tr.nil) Tr.nil)
          (Tr.node (AV.agg [AV.sl 8 0 2 3 true, AV.sl 9 0 4 3 true, AV.sl 10 0 0 4 false]) Tr.nil Tr.nil)))))
  156 []

def awS5 : St :=
  St.mk
  [(15,
      AObj.cells (some 16) false
        [AV.lit (Value.int IntKind.i64 (Int.ofNat 5)), AV.lit (Value.int IntKind.i64 (Int.ofNat 5)), AV.lit (Value.int IntKind.i64 (Int.ofNat 2)),
          AV.lit (Value.int IntKind.i64 (Int.ofNat 2)), AV.lit (Value.int IntKind.i64 (Int.ofNat 3)), AV.lit (Value.int IntKind.i64 (Int.ofNat 3)),
          AV.lit (Value.int IntKind.i64 (Int.ofNat 5)), AV.lit (Value.int IntKind.i64 (Int.ofNat 6)), AV.lit (Value.int IntKind.i64 (Int.ofNat 4)),
          AV.lit (Value.int IntKind.i64 (Int.ofNat 4)), AV.lit (Value.int IntKind.i64 (Int.ofNat 1)), AV.lit (Value.int IntKind.i64 (Int.ofNat 2)),
          AV.lit (Value.int IntKind.i64 (Int.ofNat 4)), AV.lit (Value.int IntKind.i64 (Int.ofNat 5)), AV.lit (Value.int IntKind.i64 (Int.ofNat 2)),
          AV.lit (Value.int IntKind.i64 (Int.ofNat 2)), AV.lit (Value.int IntKind.i64 (Int.ofNat 2)), AV.lit (Value.int IntKind.i64 (Int.ofNat 3)),
          AV.lit (Value.int IntKind.i64 (Int.ofNat 2)), AV.lit (Value.int IntKind.i64 (Int.ofNat 3)), AV.lit (Value.int IntKind.i64 (Int.ofNat 2)),
          AV.lit (Value.int IntKind.i64 (Int.ofNat 3)), AV.lit (Value.int IntKind.i64 (Int.ofNat 0)), AV.lit (Value.int IntKind.i64 (Int.ofNat 0))]),
    (16,
      AObj.cells (some 16) false
        [AV.lit (Value.int IntKind.i64 (Int.ofNat 5)), AV.lit (Value.int IntKind.i64 (Int.ofNat 5)), AV.lit (Value.int IntKind.i64 (Int.ofNat 2)),
          AV.lit (Value.int IntKind.i64 (Int.ofNat 2)), AV.lit (Value.int IntKind.i64 (Int.ofNat 3)), AV.lit (Value.int IntKind.i64 (Int.ofNat 3))]),
    (12,
      AObj.cells none false
        [AV.lit (Value.int IntKind.i64 (Int.ofNat 0)), AV.lit (Value.int IntKind.i64 (Int.ofNat 4)), AV.lit (Value.int IntKind.i64 (Int.ofNat 5)),
          AV.lit (Value.int IntKind.i64 (Int.ofNat 1)), AV.lit (Value.int IntKind.i64 (Int.ofNat 5)), AV.lit (Value.int IntKind.i64 (Int.ofNat 6))]),
    (13,
      AObj.cells none false
        [AV.lit (Value.int IntKind.i64 (Int.ofNat 2)), AV.lit (Value.int IntKind.i64 (Int.ofNat 2)), AV.lit (Value.int IntKind.i64 (Int.ofNat 2)),
          AV.lit (Value.int IntKind.i64 (Int.ofNat 3)), AV.lit (Value.int IntKind.i64 (Int.ofNat 4)), AV.lit (Value.int IntKind.i64 (Int.ofNat 2)),
          AV.lit (Value.int IntKind.i64 (Int.ofNat 2)), AV.lit (Value.int IntKind.i64 (Int.ofNat 2)), AV.lit (Value.int IntKind.i64 (Int.ofNat 3)),
          AV.lit (Value.int IntKind.i64 (Int.ofNat 3)), AV.lit (Value.int IntKind.i64 (Int.ofNat 3)), AV.lit (Value.int IntKind.i64 (Int.negSucc 0))]),
    (14,
      AObj.cells none false
        [AV.lit (Value.int IntKind.i64 (Int.ofNat 0)), AV.lit (Value.bool true), AV.lit (Value.int IntKind.i64 (Int.ofNat 3)),
          AV.lit (Value.int IntKind.i64 (Int.ofNat 9)), AV.lit (Value.int IntKind.i64 (Int.ofNat 3)), AV.lit (Value.bool true),
          AV.lit (Value.int IntKind.i64 (Int.ofNat 1)), AV.lit (Value.int IntKind.i64 (Int.ofNat 5))]),
    (11, AObj.cells none false [AV.lit (Value.int IntKind.i64 (Int.ofNat 4)), AV.lit (Value.int IntKind.i64 (Int.ofNat 5))]),
    (8,
      AObj.cells none false
        [AV.lit (Value.int IntKind.i64 (Int.ofNat 0)), AV.lit (Value.int IntKind.i64 (Int.ofNat 4)), AV.lit (Value.int IntKind.i64 (Int.ofNat 5)),
          AV.lit (Value.int IntKind.i64 (Int.ofNat 1)), AV.lit (Value.int IntKind.i64 (Int.ofNat 5)), AV.lit (Value.int IntKind.i64 (Int.ofNat 6))]),
    (9,
      AObj.cells none false
        [AV.lit (Value.int IntKind.i64 (Int.ofNat 2)), AV.lit (Value.int IntKind.i64 (Int.ofNat 2)), AV.lit (Value.int IntKind.i64 (Int.ofNat 2)),
          AV.lit (Value.int IntKind.i64 (Int.ofNat 3)), AV.lit (Value.int IntKind.i64 (Int.ofNat 4)), AV.lit (Value.int IntKind.i64 (Int.ofNat 2)),
          AV.lit (Value.int IntKind.i64 (Int.ofNat 2)), AV.lit (Value.int IntKind.i64 (Int.ofNat 2)), AV.lit (Value.int IntKind.i64 (Int.ofNat 3)),
          AV.lit (Value.int IntKind.i64 (Int.ofNat 3)), AV.lit (Value.int IntKind.i64 (Int.ofNat 3)), AV.lit (Value.int IntKind.i64 (Int.negSucc 0))]),
    (10,
      AObj.cells none false
        [AV.lit (Value.int IntKind.i64 (Int.ofNat 0)), AV.lit (Value.bool true), AV.lit (Value.int IntKind.i64 (Int.ofNat 3)),
          AV.lit (Value.int IntKind.i64 (Int.ofNat 9)), AV.lit (Value.int IntKind.i64 (Int.ofNat 3)), AV.lit (Value.bool true),
          AV.lit (Value.int IntKind.i64 (Int.ofNat 1)), AV.lit (Value.int IntKind.i64 (Int.ofNat 5))]),
    (5,
      AObj.cells none false
        [AV.lit (Value.int IntKind.i64 (Int.ofNat 0)), AV.lit (Value.int IntKind.i64 (Int.ofNat 4)), AV.lit (Value.int IntKind.i64 (Int.ofNat 5)),
          AV.lit (Value.int IntKind.i64 (Int.ofNat 1)), AV.lit (Value.int IntKind.i64 (Int.ofNat 5)), AV.lit (Value.int IntKind.i64 (Int.ofNat 6))]),
    (6,
      AObj.cells none false
        [AV.lit (Value.int IntKind.i64 (Int.ofNat 2)), AV.lit (Value.int IntKind.i64 (Int.ofNat 2)), AV.lit (Value.int IntKind.i64 (Int.ofNat 2)),
          AV.lit (Value.int IntKind.i64 (Int.ofNat 3)), AV.lit (Value.int IntKind.i64 (Int.ofNat 4)), AV.lit (Value.int IntKind.i64 (Int.ofNat 2)),
          AV.lit (Value.int IntKind.i64 (Int.ofNat 2)), AV.lit (Value.int IntKind.i64 (Int.ofNat 2)), AV.lit (Value.int IntKind.i64 (Int.ofNat 3)),
          AV.lit (Value.int IntKind.i64 (Int.ofNat 3)), AV.lit (Value.int IntKind.i64 (Int.ofNat 3)), AV.lit (Value.int IntKind.i64 (Int.negSucc 0))]),
    (7,
      AObj.cells none false
        [AV.lit (Value.int IntKind.i64 (Int.ofNat 0)), AV.lit (Value.bool true), AV.lit (Value.int IntKind.i64 (Int.ofNat 3)),
          AV.lit (Value.int IntKind.i64 (Int.ofNat 9)), AV.lit (Value.int IntKind.i64 (Int.ofNat 3)), AV.lit (Value.bool true),
          AV.lit (Value.int IntKind.i64 (Int.ofNat 1)), AV.lit (Value.int IntKind.i64 (Int.ofNat 5))]),
    (4,
      AObj.cells none false
        [AV.lit (Value.int IntKind.i64 (Int.ofNat 4)), AV.lit (Value.int IntKind.i64 (Int.ofNat 2)), AV.lit (Value.int IntKind.i64 (Int.ofNat 2)),
          AV.lit (Value.int IntKind.i64 (Int.ofNat 5)), AV.lit (Value.int IntKind.i64 (Int.ofNat 4)), AV.lit (Value.int IntKind.i64 (Int.ofNat 1)),
          AV.lit (Value.int IntKind.i64 (Int.ofNat 3)), AV.lit (Value.int IntKind.i64 (Int.ofNat 2)), AV.lit (Value.int IntKind.i64 (Int.ofNat 1)),
          AV.lit (Value.int IntKind.i64 (Int.ofNat 1)), AV.lit (Value.int IntKind.i64 (Int.ofNat 1)), AV.lit (Value.int IntKind.i64 (Int.ofNat 0))]),
    (3, AObj.cells none false [AV.lit (Value.int IntKind.i64 (Int.ofNat 4)), AV.lit (Value.int IntKind.i64 (Int.ofNat 5))]),
    (0,
      AObj.cells none false
        [AV.lit (Value.int IntKind.i64 (Int.ofNat 0)), AV.lit (Value.int IntKind.i64 (Int.ofNat 4)), AV.lit (Value.int IntKind.i64 (Int.ofNat 5)),
          AV.lit (Value.int IntKind.i64 (Int.ofNat 1)), AV.lit (Value.int IntKind.i64 (Int.ofNat 5)), AV.lit (Value.int IntKind.i64 (Int.ofNat 6))]),
    (1,
      AObj.cells none false
        [AV.lit (Value.int IntKind.i64 (Int.ofNat 2)), AV.lit (Value.int IntKind.i64 (Int.ofNat 2)), AV.lit (Value.int IntKind.i64 (Int.ofNat 2)),
          AV.lit (Value.int IntKind.i64 (Int.ofNat 3)), AV.lit (Value.int IntKind.i64 (Int.ofNat 4)), AV.lit (Value.int IntKind.i64 (Int.ofNat 2)),
          AV.lit (Value.int IntKind.i64 (Int.ofNat 2)), AV.lit (Value.int IntKind.i64 (Int.ofNat 2)), AV.lit (Value.int IntKind.i64 (Int.ofNat 3)),
          AV.lit (Value.int IntKind.i64 (Int.ofNat 3)), AV.lit (Value.int IntKind.i64 (Int.ofNat 3)), AV.lit (Value.int IntKind.i64 (Int.negSucc 0))]),
    (2,
      AObj.cells none false
        [AV.lit (Value.int IntKind.i64 (Int.ofNat 0)), AV.lit (Value.bool true), AV.lit (Value.int IntKind.i64 (Int.ofNat 3)),
          AV.lit (Value.int IntKind.i64 (Int.ofNat 9)), AV.lit (Value.int IntKind.i64 (Int.ofNat 3)), AV.lit (Value.bool true),
          AV.lit (Value.int IntKind.i64 (Int.ofNat 1)), AV.lit (Value.int IntKind.i64 (Int.ofNat 5))])]
  17

def awF6 : TF :=
  TF.mk
  (Tr.node (AV.lit (Value.bool false))
    (Tr.node (AV.sl 4 0 4 3 false)
      (Tr.node (AV.lit (Value.int IntKind.i64 (Int.ofNat 3)))
        (Tr.node (AV.lit (Value.int IntKind.i64 (Int.ofNat 0)))
          (Tr.node (AV.lit (Value.tuple (Array.mk [])))
            (Tr.node (AV.tup [AV.lit (Value.int IntKind.i64 (Int.ofNat 3)), AV.sl 11 0 2 1 false, AV.lit (Value.int IntKind.i64 (Int.ofNat 0))]) Tr.nil Tr.nil)
            Tr.nil)
          (Tr.node (AV.lit (Value.int IntKind.i64 (Int.ofNat 0))) (Tr.node (AV.lit (Value.int IntKind.i64 (Int.ofNat 0))) Tr.nil Tr.nil) Tr.nil))
        (Tr.node (AV.lit (Value.int IntKind.i64 (Int.ofNat 0)))
          (Tr.node (AV.agg [AV.sl 0 0 2 3 true, AV.sl 1 0 4 3 true, AV.sl 2 0 0 4 false])
            (Tr.node (AV.tup [AV.sl 15 0 4 6 false, AV.lit (Value.int IntKind.i64 (Int.ofNat 0))]) Tr.nil Tr.nil) Tr.nil)
          (Tr.node (AV.lit (Value.int IntKind.i64 (Int.ofNat 3))) (Tr.node (AV.sl 20 0 1 1 false) Tr.nil Tr.nil) Tr.nil)))
      (Tr.node (AV.lit (Value.int IntKind.i64 (Int.ofNat 3)))
        (Tr.node (AV.lit (Value.int IntKind.i64 (Int.ofNat 0)))
          (Tr.node (AV.lit (Value.tuple (Array.mk []))) (Tr.node (AV.sl 11 0 2 1 false) Tr.nil Tr.nil) Tr.nil)
          (Tr.node (AV.agg [AV.sl 5 0 2 3 true, AV.sl 6 0 4 3 true, AV.sl 7 0 0 4 false])
            (Tr.node (AV.agg [AV.sl 17 0 2 3 true, AV.sl 18 0 4 3 true, AV.sl 19 0 1 4 false]) Tr.nil Tr.nil) Tr.nil))
        (Tr.node (AV.lit (Value.tuple (Array.mk [])))
          (Tr.node (AV.tup [AV.sl 4 0 4 3 false, AV.lit (Value.int IntKind.i64 (Int.ofNat 0))])
            (Tr.node (AV.tup [AV.sl 15 0 4 6 false, AV.lit (Value.int IntKind.i64 (Int.ofNat 0))]) Tr.nil Tr.nil) Tr.nil)
          (Tr.node (AV.tup [AV.lit (Value.int IntKind.i64 (Int.ofNat 3)), AV.sl 11 0 2 1 false, AV.lit (Value.int IntKind.i64 (Int.ofNat 0))]) Tr.nil Tr.nil))))
    (Tr.node (AV.lit (Value.int IntKind.i64 (Int.ofNat 0)))
      (Tr.node (AV.lit (Value.int IntKind.i64 (Int.ofNat 0)))
        (Tr.node (AV.sl 15 0 4 6 false)
          (Tr.node (AV.lit (Value.tuple (Array.mk []))) (Tr.node (AV.lit (Value.int IntKind.i64 (Int.ofNat 3))) Tr.nil Tr.nil) Tr.nil)
          (Tr.node (AV.tup [AV.lit (Value.int IntKind.i64 (Int.ofNat 3)), AV.lit (Value.int IntKind.i64 (Int.ofNat 0))])
            (Tr.node (AV.tup [AV.sl 20 0 1 1 false, AV.lit (Value.int IntKind.i64 (Int.ofNat 0))]) Tr.nil Tr.nil) Tr.nil))
        (Tr.node (AV.lit (Value.tuple (Array.mk [])))
          (Tr.node (AV.sl 3 0 2 1 true) (Tr.node (AV.agg [AV.sl 12 0 2 3 true, AV.sl 13 0 4 3 true, AV.sl 14 0 1 4 false]) Tr.nil Tr.nil) Tr.nil)
          (Tr.node (AV.lit (Value.int IntKind.i64 (Int.ofNat 0))) (Tr.node (AV.lit (Value.int IntKind.i64 (Int.ofNat 0))) Tr.nil Tr.nil) Tr.nil)))
      (Tr.node (AV.sl 11 0 2 1 false)
        (Tr.node (AV.sl 20 0 1 1 false)
          (Tr.node (AV.tup [AV.sl 4 0 4 3 false, AV.lit (Value.int IntKind.i64 (Int.ofNat 0))])
            (Tr.node (AV.lit (Value.int IntKind.i64 (Int.ofNat 0))) Tr.nil Tr.nil) Tr.nil)
          (Tr.node (AV.tup [AV.lit (Value.int IntKind.i64 (Int.ofNat 3)), AV.lit (Value.int IntKind.i64 (Int.ofNat 0))])
            (Tr.node (AV.tup [AV.sl 20 0 1 1 false, AV.lit (Value.int IntKind.i64 (Int.ofNat 0))]) Tr.nil Tr.nil) Tr.nil))
        (Tr.node (AV.lit (Value.tuple (Array.mk []))) (Tr.node (AV.sl 4 0 4 3 false) (Tr.node (AV.sl 15 0 4 6 false) Tr.nil Tr.nil) Tr.nil)
          (Tr.node (AV.agg [AV.sl 8 0 2 3 true, AV.sl 9 0 4 3 true, AV.sl 10 0 0 4 false]) Tr.nil Tr.nil)))))
  156 []

def awS6 : St :=
  St.mk
  [(20, AObj.cells none false [AV.lit (Value.int IntKind.i64 (Int.ofNat 1))]),
    (17,
      AObj.cells none false
        [AV.lit (Value.int IntKind.i64 (Int.ofNat 0)), AV.lit (Value.int IntKind.i64 (Int.ofNat 4)), AV.lit (Value.int IntKind.i64 (Int.ofNat 5)),
          AV.lit (Value.int IntKind.i64 (Int.ofNat 1)), AV.lit (Value.int IntKind.i64 (Int.ofNat 5)), AV.lit (Value.int IntKind.i64 (Int.ofNat 6))]),
    (18,
      AObj.cells none false
        [AV.lit (Value.int IntKind.i64 (Int.ofNat 2)), AV.lit (Value.int IntKind.i64 (Int.ofNat 2)), AV.lit (Value.int IntKind.i64 (Int.ofNat 2)),
          AV.lit (Value.int IntKind.i64 (Int.ofNat 3)), AV.lit (Value.int IntKind.i64 (Int.ofNat 4)), AV.lit (Value.int IntKind.i64 (Int.ofNat 2)),
          AV.lit (Value.int IntKind.i64 (Int.ofNat 2)), AV.lit (Value.int IntKind.i64 (Int.ofNat 2)), AV.lit (Value.int IntKind.i64 (Int.ofNat 3)),
          AV.lit (Value.int IntKind.i64 (Int.ofNat 3)), AV.lit (Value.int IntKind.i64 (Int.ofNat 3)), AV.lit (Value.int IntKind.i64 (Int.negSucc 0))]),
    (19,
      AObj.cells none false
        [AV.lit (Value.int IntKind.i64 (Int.ofNat 0)), AV.lit (Value.bool true), AV.lit (Value.int IntKind.i64 (Int.ofNat 3)),
          AV.lit (Value.int IntKind.i64 (Int.ofNat 9)), AV.lit (Value.int IntKind.i64 (Int.ofNat 3)), AV.lit (Value.bool true),
          AV.lit (Value.int IntKind.i64 (Int.ofNat 1)), AV.lit (Value.int IntKind.i64 (Int.ofNat 5))]),
    (15,
      AObj.cells (some 16) false
        [AV.lit (Value.int IntKind.i64 (Int.ofNat 5)), AV.lit (Value.int IntKind.i64 (Int.ofNat 5)), AV.lit (Value.int IntKind.i64 (Int.ofNat 2)),
          AV.lit (Value.int IntKind.i64 (Int.ofNat 2)), AV.lit (Value.int IntKind.i64 (Int.ofNat 3)), AV.lit (Value.int IntKind.i64 (Int.ofNat 3)),
          AV.lit (Value.int IntKind.i64 (Int.ofNat 5)), AV.lit (Value.int IntKind.i64 (Int.ofNat 6)), AV.lit (Value.int IntKind.i64 (Int.ofNat 4)),
          AV.lit (Value.int IntKind.i64 (Int.ofNat 4)), AV.lit (Value.int IntKind.i64 (Int.ofNat 1)), AV.lit (Value.int IntKind.i64 (Int.ofNat 2)),
          AV.lit (Value.int IntKind.i64 (Int.ofNat 4)), AV.lit (Value.int IntKind.i64 (Int.ofNat 5)), AV.lit (Value.int IntKind.i64 (Int.ofNat 2)),
          AV.lit (Value.int IntKind.i64 (Int.ofNat 2)), AV.lit (Value.int IntKind.i64 (Int.ofNat 2)), AV.lit (Value.int IntKind.i64 (Int.ofNat 3)),
          AV.lit (Value.int IntKind.i64 (Int.ofNat 2)), AV.lit (Value.int IntKind.i64 (Int.ofNat 3)), AV.lit (Value.int IntKind.i64 (Int.ofNat 2)),
          AV.lit (Value.int IntKind.i64 (Int.ofNat 3)), AV.lit (Value.int IntKind.i64 (Int.ofNat 0)), AV.lit (Value.int IntKind.i64 (Int.ofNat 0))]),
    (16,
      AObj.cells (some 16) false
        [AV.lit (Value.int IntKind.i64 (Int.ofNat 5)), AV.lit (Value.int IntKind.i64 (Int.ofNat 5)), AV.lit (Value.int IntKind.i64 (Int.ofNat 2)),
          AV.lit (Value.int IntKind.i64 (Int.ofNat 2)), AV.lit (Value.int IntKind.i64 (Int.ofNat 3)), AV.lit (Value.int IntKind.i64 (Int.ofNat 3))]),
    (12,
      AObj.cells none false
        [AV.lit (Value.int IntKind.i64 (Int.ofNat 0)), AV.lit (Value.int IntKind.i64 (Int.ofNat 4)), AV.lit (Value.int IntKind.i64 (Int.ofNat 5)),
          AV.lit (Value.int IntKind.i64 (Int.ofNat 1)), AV.lit (Value.int IntKind.i64 (Int.ofNat 5)), AV.lit (Value.int IntKind.i64 (Int.ofNat 6))]),
    (13,
      AObj.cells none false
        [AV.lit (Value.int IntKind.i64 (Int.ofNat 2)), AV.lit (Value.int IntKind.i64 (Int.ofNat 2)), AV.lit (Value.int IntKind.i64 (Int.ofNat 2)),
          AV.lit (Value.int IntKind.i64 (Int.ofNat 3)), AV.lit (Value.int IntKind.i64 (Int.ofNat 4)), AV.lit (Value.int IntKind.i64 (Int.ofNat 2)),
          AV.lit (Value.int IntKind.i64 (Int.ofNat 2)), AV.lit (Value.int IntKind.i64 (Int.ofNat 2)), AV.lit (Value.int IntKind.i64 (Int.ofNat 3)),
          AV.lit (Value.int IntKind.i64 (Int.ofNat 3)), AV.lit (Value.int IntKind.i64 (Int.ofNat 3)), AV.lit (Value.int IntKind.i64 (Int.negSucc 0))]),
    (14,
      AObj.cells none false
        [AV.lit (Value.int IntKind.i64 (Int.ofNat 0)), AV.lit (Value.bool true), AV.lit (Value.int IntKind.i64 (Int.ofNat 3)),
          AV.lit (Value.int IntKind.i64 (Int.ofNat 9)), AV.lit (Value.int IntKind.i64 (Int.ofNat 3)), AV.lit (Value.bool true),
          AV.lit (Value.int IntKind.i64 (Int.ofNat 1)), AV.lit (Value.int IntKind.i64 (Int.ofNat 5))]),
    (11, AObj.cells none false [AV.lit (Value.int IntKind.i64 (Int.ofNat 4)), AV.lit (Value.int IntKind.i64 (Int.ofNat 5))]),
    (8,
      AObj.cells none false
        [AV.lit (Value.int IntKind.i64 (Int.ofNat 0)), AV.lit (Value.int IntKind.i64 (Int.ofNat 4)), AV.lit (Value.int IntKind.i64 (Int.ofNat 5)),
          AV.lit (Value.int IntKind.i64 (Int.ofNat 1)), AV.lit (Value.int IntKind.i64 (Int.ofNat 5)), AV.lit (Value.int IntKind.i64 (Int.ofNat 6))]),
    (9,
      AObj.cells none false
        [AV.lit (Value.int IntKind.i64 (Int.ofNat 2)), AV.lit (Value.int IntKind.i64 (Int.ofNat 2)), AV.lit (Value.int IntKind.i64 (Int.ofNat 2)),
          AV.lit (Value.int IntKind.i64 (Int.ofNat 3)), AV.lit (Value.int IntKind.i64 (Int.ofNat 4)), AV.lit (Value.int IntKind.i64 (Int.ofNat 2)),
          AV.lit (Value.int IntKind.i64 (Int.ofNat 2)), AV.lit (Value.int IntKind.i64 (Int.ofNat 2)), AV.lit (Value.int IntKind.i64 (Int.ofNat 3)),
          AV.lit (Value.int IntKind.i64 (Int.ofNat 3)), AV.lit (Value.int IntKind.i64 (Int.ofNat 3)), AV.lit (Value.int IntKind.i64 (Int.negSucc 0))]),
    (10,
      AObj.cells none false
        [AV.lit (Value.int IntKind.i64 (Int.ofNat 0)), AV.lit (Value.bool true), AV.lit (Value.int IntKind.i64 (Int.ofNat 3)),
          AV.lit (Value.int IntKind.i64 (Int.ofNat 9)), AV.lit (Value.int IntKind.i64 (Int.ofNat 3)), AV.lit (Value.bool true),
          AV.lit (Value.int IntKind.i64 (Int.ofNat 1)), AV.lit (Value.int IntKind.i64 (Int.ofNat 5))]),
    (5,
      AObj.cells none false
        [AV.lit (Value.int IntKind.i64 (Int.ofNat 0)), AV.lit (Value.int IntKind.i64 (Int.ofNat 4)), AV.lit (Value.int IntKind.i64 (Int.ofNat 5)),
          AV.lit (Value.int IntKind.i64 (Int.ofNat 1)), AV.lit (Value.int IntKind.i64 (Int.ofNat 5)), AV.lit (Value.int IntKind.i64 (Int.ofNat 6))]),
    (6,
      AObj.cells none false
        [AV.lit (Value.int IntKind.i64 (Int.ofNat 2)), AV.lit (Value.int IntKind.i64 (Int.ofNat 2)), AV.lit (Value.int IntKind.i64 (Int.ofNat 2)),
          AV.lit (Value.int IntKind.i64 (Int.ofNat 3)), AV.lit (Value.int IntKind.i64 (Int.ofNat 4)), AV.lit (Value.int IntKind.i64 (Int.ofNat 2)),
          AV.lit (Value.int IntKind.i64 (Int.ofNat 2)), AV.lit (Value.int IntKind.i64 (Int.ofNat 2)), AV.lit (Value.int IntKind.i64 (Int.ofNat 3)),
          AV.lit (Value.int IntKind.i64 (Int.ofNat 3)), AV.lit (Value.int IntKind.i64 (Int.ofNat 3)), AV.lit (Value.int IntKind.i64 (Int.negSucc 0))]),
    (7,
      AObj.cells none false
        [AV.lit (Value.int IntKind.i64 (Int.ofNat 0)), AV.lit (Value.bool true), AV.lit (Value.int IntKind.i64 (Int.ofNat 3)),
          AV.lit (Value.int IntKind.i64 (Int.ofNat 9)), AV.lit (Value.int IntKind.i64 (Int.ofNat 3)), AV.lit (Value.bool true),
          AV.lit (Value.int IntKind.i64 (Int.ofNat 1)), AV.lit (Value.int IntKind.i64 (Int.ofNat 5))]),
    (4,
      AObj.cells none false
        [AV.lit (Value.int IntKind.i64 (Int.ofNat 4)), AV.lit (Value.int IntKind.i64 (Int.ofNat 2)), AV.lit (Value.int IntKind.i64 (Int.ofNat 2)),
          AV.lit (Value.int IntKind.i64 (Int.ofNat 5)), AV.lit (Value.int IntKind.i64 (Int.ofNat 4)), AV.lit (Value.int IntKind.i64 (Int.ofNat 1)),
          AV.lit (Value.int IntKind.i64 (Int.ofNat 3)), AV.lit (Value.int IntKind.i64 (Int.ofNat 2)), AV.lit (Value.int IntKind.i64 (Int.ofNat 1)),
          AV.lit (Value.int IntKind.i64 (Int.ofNat 1)), AV.lit (Value.int IntKind.i64 (Int.ofNat 1)), AV.lit (Value.int IntKind.i64 (Int.ofNat 0))]),
    (3, AObj.cells none false [AV.lit (Value.int IntKind.i64 (Int.ofNat 4)), AV.lit (Value.int IntKind.i64 (Int.ofNat 5))]),
    (0,
      AObj.cells none false
        [AV.lit (Value.int IntKind.i64 (Int.ofNat 0)), AV.lit (Value.int IntKind.i64 (Int.ofNat 4)), AV.lit (Value.int IntKind.i64 (Int.ofNat 5)),
          AV.lit (Value.int IntKind.i64 (Int.ofNat 1)), AV.lit (Value.int IntKind.i64 (Int.ofNat 5)), AV.lit (Value.int IntKind.i64 (Int.ofNat 6))]),
    (1,
      AObj.cells none false
        [AV.lit (Value.int IntKind.i64 (Int.ofNat 2)), AV.lit (Value.int IntKind.i64 (Int.ofNat 2)), AV.lit (Value.int IntKind.i64 (Int.ofNat 2)),
          AV.lit (Value.int IntKind.i64 (Int.ofNat 3)), AV.lit (Value.int IntKind.i64 (Int.ofNat 4)), AV.lit (Value.int IntKind.i64 (Int.ofNat 2)),
          AV.lit (Value.int IntKind.i64 (Int.ofNat 2)), AV.lit (Value.int IntKind.i64 (Int.ofNat 2)), AV.lit (Value.int IntKind.i64 (Int.ofNat 3)),
          AV.lit (Value.int IntKind.i64 (Int.ofNat 3)), AV.lit (Value.int IntKind.i64 (Int.ofNat 3)), AV.lit (Value.int IntKind.i64 (Int.negSucc 0))]),
    (2,
      AObj.cells none false
        [AV.lit (Value.int IntKind.i64 (Int.ofNat 0)), AV.lit (Value.bool true), AV.lit (Value.int IntKind.i64 (Int.ofNat 3)),
          AV.lit (Value.int IntKind.i64 (Int.ofNat 9)), AV.lit (Value.int IntKind.i64 (Int.ofNat 3)), AV.lit (Value.bool true),
          AV.lit (Value.int IntKind.i64 (Int.ofNat 1)), AV.lit (Value.int IntKind.i64 (Int.ofNat 5))])]
  21

def awF7 : TF :=
  TF.mk
  (Tr.node (AV.lit (Value.bool false))
    (Tr.node (AV.sl 4 0 4 3 false)
      (Tr.node (AV.lit (Value.int IntKind.i64 (Int.ofNat 3)))
        (Tr.node (AV.lit (Value.int IntKind.i64 (Int.ofNat 0)))
          (Tr.node (AV.lit (Value.tuple (Array.mk [])))
            (Tr.node (AV.tup [AV.lit (Value.int IntKind.i64 (Int.ofNat 3)), AV.sl 11 0 2 1 false, AV.lit (Value.int IntKind.i64 (Int.ofNat 0))]) Tr.nil Tr.nil)
            (Tr.node (AV.tup [AV.sl 24 0 1 1 false, AV.lit (Value.int IntKind.i64 (Int.ofNat 0))]) Tr.nil Tr.nil))
          (Tr.node (AV.lit (Value.int IntKind.i64 (Int.ofNat 0))) (Tr.node (AV.lit (Value.int IntKind.i64 (Int.ofNat 0))) Tr.nil Tr.nil) Tr.nil))
        (Tr.node (AV.lit (Value.int IntKind.i64 (Int.ofNat 0)))
          (Tr.node (AV.agg [AV.sl 0 0 2 3 true, AV.sl 1 0 4 3 true, AV.sl 2 0 0 4 false])
            (Tr.node (AV.tup [AV.sl 15 0 4 6 false, AV.lit (Value.int IntKind.i64 (Int.ofNat 0))]) Tr.nil Tr.nil) Tr.nil)
          (Tr.node (AV.lit (Value.int IntKind.i64 (Int.ofNat 3))) (Tr.node (AV.sl 20 0 1 1 false) Tr.nil Tr.nil) Tr.nil)))
      (Tr.node (AV.lit (Value.int IntKind.i64 (Int.ofNat 3)))
        (Tr.node (AV.lit (Value.int IntKind.i64 (Int.ofNat 0)))
          (Tr.node (AV.lit (Value.tuple (Array.mk []))) (Tr.node (AV.sl 11 0 2 1 false) Tr.nil Tr.nil)
            (Tr.node (AV.lit (Value.int IntKind.i64 (Int.ofNat 0))) Tr.nil Tr.nil))
          (Tr.node (AV.agg [AV.sl 5 0 2 3 true, AV.sl 6 0 4 3 true, AV.sl 7 0 0 4 false])
            (Tr.node (AV.agg [AV.sl 17 0 2 3 true, AV.sl 18 0 4 3 true, AV.sl 19 0 1 4 false]) Tr.nil Tr.nil) Tr.nil))
        (Tr.node (AV.lit (Value.int IntKind.i64 (Int.ofNat 0)))
          (Tr.node (AV.tup [AV.sl 4 0 4 3 false, AV.lit (Value.int IntKind.i64 (Int.ofNat 0))])
            (Tr.node (AV.tup [AV.sl 15 0 4 6 false, AV.lit (Value.int IntKind.i64 (Int.ofNat 0))]) Tr.nil Tr.nil) Tr.nil)
          (Tr.node (AV.tup [AV.lit (Value.int IntKind.i64 (Int.ofNat 3)), AV.sl 11 0 2 1 false, AV.lit (Value.int IntKind.i64 (Int.ofNat 0))])
            (Tr.node (AV.tup [AV.sl 24 0 1 1 false, AV.lit (Value.int IntKind.i64 (Int.ofNat 0))]) Tr.nil Tr.nil) Tr.nil))))
    (Tr.node (AV.lit (Value.int IntKind.i64 (Int.ofNat 0)))
      (Tr.node (AV.lit (Value.int IntKind.i64 (Int.ofNat 0)))
        (Tr.node (AV.sl 15 0 4 6 false)
          (Tr.node (AV.lit (Value.tuple (Array.mk []))) (Tr.node (AV.lit (Value.int IntKind.i64 (Int.ofNat 3))) Tr.nil Tr.nil)
            (Tr.node (AV.sl 24 0 1 1 false) Tr.nil Tr.nil))
          (Tr.node (AV.tup [AV.lit (Value.int IntKind.i64 (Int.ofNat 3)), AV.lit (Value.int IntKind.i64 (Int.ofNat 0))])
            (Tr.node (AV.tup [AV.sl 20 0 1 1 false, AV.lit (Value.int IntKind.i64 (Int.ofNat 0))]) Tr.nil Tr.nil) Tr.nil))
        (Tr.node (AV.sl 24 0 1 1 false)
          (Tr.node (AV.sl 3 0 2 1 true) (Tr.node (AV.agg [AV.sl 12 0 2 3 true, AV.sl 13 0 4 3 true, AV.sl 14 0 1 4 false]) Tr.nil Tr.nil) Tr.nil)
          (Tr.node (AV.lit (Value.int IntKind.i64 (Int.ofNat 0))) (Tr.node (AV.lit (Value.int IntKind.i64 (Int.ofNat 0))) Tr.nil Tr.nil) Tr.nil)))
      (Tr.node (AV.sl 11 0 2 1 false)
        (Tr.node (AV.sl 20 0 1 1 false)
          (Tr.node (AV.tup [AV.sl 4 0 4 3 false, AV.lit (Value.int IntKind.i64 (Int.ofNat 0))])
            (Tr.node (AV.lit (Value.int IntKind.i64 (Int.ofNat 0))) Tr.nil Tr.nil) Tr.nil)
          (Tr.node (AV.tup [AV.lit (Value.int IntKind.i64 (Int.ofNat 3)), AV.lit (Value.int IntKind.i64 (Int.ofNat 0))])
            (Tr.node (AV.tup [AV.sl 20 0 1 1 false, AV.lit (Value.int IntKind.i64 (Int.ofNat 0))]) Tr.nil Tr.nil) Tr.nil))
        (Tr.node (AV.lit (Value.tuple (Array.mk []))) (Tr.node (AV.sl 4 0 4 3 false) (Tr.node (AV.sl 15 0 4 6 false) Tr.nil Tr.nil) Tr.nil)
          (Tr.node (AV.agg [AV.sl 8 0 2 3 true, AV.sl 9 0 4 3 true, AV.sl 10 0 0 4 false])
            (Tr.node (AV.agg [AV.sl 21 0 2 3 true, AV.sl 22 0 4 3 true, AV.sl 23 0 1 4 false]) Tr.nil Tr.nil) Tr.nil)))))
  156 []

def awS7 : St :=
  St.mk
  [(24, AObj.cells none false [AV.lit (Value.int IntKind.i64 (Int.ofNat 2))]),
    (21,
      AObj.cells none false
        [AV.lit (Value.int IntKind.i64 (Int.ofNat 0)), AV.lit (Value.int IntKind.i64 (Int.ofNat 4)), AV.lit (Value.int IntKind.i64 (Int.ofNat 5)),
          AV.lit (Value.int IntKind.i64 (Int.ofNat 1)), AV.lit (Value.int IntKind.i64 (Int.ofNat 5)), AV.lit (Value.int IntKind.i64 (Int.ofNat 6))]),
    (22,
      AObj.cells none false
        [AV.lit (Value.int IntKind.i64 (Int.ofNat 2)), AV.lit (Value.int IntKind.i64 (Int.ofNat 2)), AV.lit (Value.int IntKind.i64 (Int.ofNat 2)),
          AV.lit (Value.int IntKind.i64 (Int.ofNat 3)), AV.lit (Value.int IntKind.i64 (Int.ofNat 4)), AV.lit (Value.int IntKind.i64 (Int.ofNat 2)),
          AV.lit (Value.int IntKind.i64 (Int.ofNat 2)), AV.lit (Value.int IntKind.i64 (Int.ofNat 2)), AV.lit (Value.int IntKind.i64 (Int.ofNat 3)),
          AV.lit (Value.int IntKind.i64 (Int.ofNat 3)), AV.lit (Value.int IntKind.i64 (Int.ofNat 3)), AV.lit (Value.int IntKind.i64 (Int.negSucc 0))]),
    (23,
      AObj.cells none false
        [AV.lit (Value.int IntKind.i64 (Int.ofNat 0)), AV.lit (Value.bool true), AV.lit (Value.int IntKind.i64 (Int.ofNat 3)),
          AV.lit (Value.int IntKind.i64 (Int.ofNat 9)), AV.lit (Value.int IntKind.i64 (Int.ofNat 3)), AV.lit (Value.bool true),
          AV.lit (Value.int IntKind.i64 (Int.ofNat 1)), AV.lit (Value.int IntKind.i64 (Int.ofNat 5))]),
    (20, AObj.cells none false [AV.lit (Value.int IntKind.i64 (Int.ofNat 1))]),
    (17,
      AObj.cells none false
        [AV.lit (Value.int IntKind.i64 (Int.ofNat 0)), AV.lit (Value.int IntKind.i64 (Int.ofNat 4)), AV.lit (Value.int IntKind.i64 (Int.ofNat 5)),
          AV.lit (Value.int IntKind.i64 (Int.ofNat 1)), AV.lit (Value.int IntKind.i64 (Int.ofNat 5)), AV.lit (Value.int IntKind.i64 (Int.ofNat 6))]),
    (18,
      AObj.cells none false
        [AV.lit (Value.int IntKind.i64 (Int.ofNat 2)), AV.lit (Value.int IntKind.i64 (Int.ofNat 2)), AV.lit (Value.int IntKind.i64 (Int.ofNat 2)),
          AV.lit (Value.int IntKind.i64 (Int.ofNat 3)), AV.lit (Value.int IntKind.i64 (Int.ofNat 4)), AV.lit (Value.int IntKind.i64 (Int.ofNat 2)),
          AV.lit (Value.int IntKind.i64 (Int.ofNat 2)), AV.lit (Value.int IntKind.i64 (Int.ofNat 2)), AV.lit (Value.int IntKind.i64 (Int.ofNat 3)),
          AV.lit (Value.int IntKind.i64 (Int.ofNat 3)), AV.lit (Value.int IntKind.i64 (Int.ofNat 3)), AV.lit (Value.int IntKind.i64 (Int.negSucc 0))]),
    (19,
      AObj.cells none false
        [AV.lit (Value.int IntKind.i64 (Int.ofNat 0)), AV.lit (Value.bool true), AV.lit (Value.int IntKind.i64 (Int.ofNat 3)),
          AV.lit (Value.int IntKind.i64 (Int.ofNat 9)), AV.lit (Value.int IntKind.i64 (Int.ofNat 3)), AV.lit (Value.bool true),
          AV.lit (Value.int IntKind.i64 (Int.ofNat 1)), AV.lit (Value.int IntKind.i64 (Int.ofNat 5))]),
    (15,
      AObj.cells (some 16) false
        [AV.lit (Value.int IntKind.i64 (Int.ofNat 5)), AV.lit (Value.int IntKind.i64 (Int.ofNat 5)), AV.lit (Value.int IntKind.i64 (Int.ofNat 2)),
          AV.lit (Value.int IntKind.i64 (Int.ofNat 2)), AV.lit (Value.int IntKind.i64 (Int.ofNat 3)), AV.lit (Value.int IntKind.i64 (Int.ofNat 3)),
          AV.lit (Value.int IntKind.i64 (Int.ofNat 5)), AV.lit (Value.int IntKind.i64 (Int.ofNat 6)), AV.lit (Value.int IntKind.i64 (Int.ofNat 4)),
          AV.lit (Value.int IntKind.i64 (Int.ofNat 4)), AV.lit (Value.int IntKind.i64 (Int.ofNat 1)), AV.lit (Value.int IntKind.i64 (Int.ofNat 2)),
          AV.lit (Value.int IntKind.i64 (Int.ofNat 4)), AV.lit (Value.int IntKind.i64 (Int.ofNat 5)), AV.lit (Value.int IntKind.i64 (Int.ofNat 2)),
          AV.lit (Value.int IntKind.i64 (Int.ofNat 2)), AV.lit (Value.int IntKind.i64 (Int.ofNat 2)), AV.lit (Value.int IntKind.i64 (Int.ofNat 3)),
          AV.lit (Value.int IntKind.i64 (Int.ofNat 2)), AV.lit (Value.int IntKind.i64 (Int.ofNat 3)), AV.lit (Value.int IntKind.i64 (Int.ofNat 2)),
          AV.lit (Value.int IntKind.i64 (Int.ofNat 3)), AV.lit (Value.int IntKind.i64 (Int.ofNat 0)), AV.lit (Value.int IntKind.i64 (Int.ofNat 0))]),
    (16,
      AObj.cells (some 16) false
        [AV.lit (Value.int IntKind.i64 (Int.ofNat 5)), AV.lit (Value.int IntKind.i64 (Int.ofNat 5)), AV.lit (Value.int IntKind.i64 (Int.ofNat 2)),
          AV.lit (Value.int IntKind.i64 (Int.ofNat 2)), AV.lit (Value.int IntKind.i64 (Int.ofNat 3)), AV.lit (Value.int IntKind.i64 (Int.ofNat 3))]),
    (12,
      AObj.cells none false
        [AV.lit (Value.int IntKind.i64 (Int.ofNat 0)), AV.lit (Value.int IntKind.i64 (Int.ofNat 4)), AV.lit (Value.int IntKind.i64 (Int.ofNat 5)),
          AV.lit (Value.int IntKind.i64 (Int.ofNat 1)), AV.lit (Value.int IntKind.i64 (Int.ofNat 5)), AV.lit (Value.int IntKind.i64 (Int.ofNat 6))]),
    (13,
      AObj.cells none false
        [AV.lit (Value.int IntKind.i64 (Int.ofNat 2)), AV.lit (Value.int IntKind.i64 (Int.ofNat 2)), AV.lit (Value.int IntKind.i64 (Int.ofNat 2)),
          AV.lit (Value.int IntKind.i64 (Int.ofNat 3)), AV.lit (Value.int IntKind.i64 (Int.ofNat 4)), AV.lit (Value.int IntKind.i64 (Int.ofNat 2)),
          AV.lit (Value.int IntKind.i64 (Int.ofNat 2)), AV.lit (Value.int IntKind.i64 (Int.ofNat 2)), AV.lit (Value.int IntKind.i64 (Int.ofNat 3)),
          AV.lit (Value.int IntKind.i64 (Int.ofNat 3)), AV.lit (Value.int IntKind.i64 (Int.ofNat 3)), AV.lit (Value.int IntKind.i64 (Int.negSucc 0))]),
    (14,
      AObj.cells none false
        [AV.lit (Value.int IntKind.i64 (Int.ofNat 0)), AV.lit (Value.bool true), AV.lit (Value.int IntKind.i64 (Int.ofNat 3)),
          AV.lit (Value.int IntKind.i64 (Int.ofNat 9)), AV.lit (Value.int IntKind.i64 (Int.ofNat 3)), AV.lit (Value.bool true),
          AV.lit (Value.int IntKind.i64 (Int.ofNat 1)), AV.lit (Value.int IntKind.i64 (Int.ofNat 5))]),
    (11, AObj.cells none false [AV.lit (Value.int IntKind.i64 (Int.ofNat 4)), AV.lit (Value.int IntKind.i64 (Int.ofNat 5))]),
    (8,
      AObj.cells none false
        [AV.lit (Value.int IntKind.i64 (Int.ofNat 0)), AV.lit (Value.int IntKind.i64 (Int.ofNat 4)), AV.lit (Value.int IntKind.i64 (Int.ofNat 5)),
          AV.lit (Value.int IntKind.i64 (Int.ofNat 1)), AV.lit (Value.int IntKind.i64 (Int.ofNat 5)), AV.lit (Value.int IntKind.i64 (Int.ofNat 6))]),
    (9,
      AObj.cells none false
        [AV.lit (Value.int IntKind.i64 (Int.ofNat 2)), AV.lit (Value.int IntKind.i64 (Int.ofNat 2)), AV.lit (Value.int IntKind.i64 (Int.ofNat 2)),
          AV.lit (Value.int IntKind.i64 (Int.ofNat 3)), AV.lit (Value.int IntKind.i64 (Int.ofNat 4)), AV.lit (Value.int IntKind.i64 (Int.ofNat 2)),
          AV.lit (Value.int IntKind.i64 (Int.ofNat 2)), AV.lit (Value.int IntKind.i64 (Int.ofNat 2)), AV.lit (Value.int IntKind.i64 (Int.ofNat 3)),
          AV.lit (Value.int IntKind.i64 (Int.ofNat 3)), AV.lit (Value.int IntKind.i64 (Int.ofNat 3)), AV.lit (Value.int IntKind.i64 (Int.negSucc 0))]),
    (10,
      AObj.cells none false
        [AV.lit (Value.int IntKind.i64 (Int.ofNat 0)), AV.lit (Value.bool true), AV.lit (Value.int IntKind.i64 (Int.ofNat 3)),
          AV.lit (Value.int IntKind.i64 (Int.ofNat 9)), AV.lit (Value.int IntKind.i64 (Int.ofNat 3)), AV.lit (Value.bool true),
          AV.lit (Value.int IntKind.i64 (Int.ofNat 1)), AV.lit (Value.int IntKind.i64 (Int.ofNat 5))]),
    (5,
      AObj.cells none false
        [AV.lit (Value.int IntKind.i64 (Int.ofNat 0)), AV.lit (Value.int IntKind.i64 (Int.ofNat 4)), AV.lit (Value.int IntKind.i64 (Int.ofNat 5)),
          AV.lit (Value.int IntKind.i64 (Int.ofNat 1)), AV.lit (Value.int IntKind.i64 (Int.ofNat 5)), AV.lit (Value.int IntKind.i64 (Int.ofNat 6))]),
    (6,
      AObj.cells none false
        [AV.lit (Value.int IntKind.i64 (Int.ofNat 2)), AV.lit (Value.int IntKind.i64 (Int.ofNat 2)), AV.lit (Value.int IntKind.i64 (Int.ofNat 2)),
          AV.lit (Value.int IntKind.i64 (Int.ofNat 3)), AV.lit (Value.int IntKind.i64 (Int.ofNat 4)), AV.lit (Value.int IntKind.i64 (Int.ofNat 2)),
          AV.lit (Value.int IntKind.i64 (Int.ofNat 2)), AV.lit (Value.int IntKind.i64 (Int.ofNat 2)), AV.lit (Value.int IntKind.i64 (Int.ofNat 3)),
          AV.lit (Value.int IntKind.i64 (Int.ofNat 3)), AV.lit (Value.int IntKind.i64 (Int.ofNat 3)), AV.lit (Value.int IntKind.i64 (Int.negSucc 0))]),
    (7,
      AObj.cells none false
        [AV.lit (Value.int IntKind.i64 (Int.ofNat 0)), AV.lit (Value.bool true), AV.lit (Value.int IntKind.i64 (Int.ofNat 3)),
          AV.lit (Value.int IntKind.i64 (Int.ofNat 9)), AV.lit (Value.int IntKind.i64 (Int.ofNat 3)), AV.lit (Value.bool true),
          AV.lit (Value.int IntKind.i64 (Int.ofNat 1)), AV.lit (Value.int IntKind.i64 (Int.ofNat 5))]),
    (4,
      AObj.cells none false
        [AV.lit (Value.int IntKind.i64 (Int.ofNat 4)), AV.lit (Value.int IntKind.i64 (Int.ofNat 2)), AV.lit (Value.int IntKind.i64 (Int.ofNat 2)),
          AV.lit (Value.int IntKind.i64 (Int.ofNat 5)), AV.lit (Value.int IntKind.i64 (Int.ofNat 4)), AV.lit (Value.int IntKind.i64 (Int.ofNat 1)),
          AV.lit (Value.int IntKind.i64 (Int.ofNat 3)), AV.lit (Value.int IntKind.i64 (Int.ofNat 2)), AV.lit (Value.int IntKind.i64 (Int.ofNat 1)),
          AV.lit (Value.int IntKind.i64 (Int.ofNat 1)), AV.lit (Value.int IntKind.i64 (Int.ofNat 1)), AV.lit (Value.int IntKind.i64 (Int.ofNat 0))]),
    (3, AObj.cells none false [AV.lit (Value.int IntKind.i64 (Int.ofNat 4)), AV.lit (Value.int IntKind.i64 (Int.ofNat 5))]),
    (0,
      AObj.cells none false
        [AV.lit (Value.int IntKind.i64 (Int.ofNat 0)), AV.lit (Value.int IntKind.i64 (Int.ofNat 4)), AV.lit (Value.int IntKind.i64 (Int.ofNat 5)),
          AV.lit (Value.int IntKind.i64 (Int.ofNat 1)), AV.lit (Value.int IntKind.i64 (Int.ofNat 5)), AV.lit (Value.int IntKind.i64 (Int.ofNat 6))]),
    (1,
      AObj.cells none false
        [AV.lit (Value.int IntKind.i64 (Int.ofNat 2)), AV.lit (Value.int IntKind.i64 (Int.ofNat 2)), AV.lit (Value.int IntKind.i64 (Int.ofNat 2)),
          AV.lit (Value.int IntKind.i64 (Int.ofNat 3)), AV.lit (Value.int IntKind.i64 (Int.ofNat 4)), AV.lit (Value.int IntKind.i64 (Int.ofNat 2)),
          AV.lit (Value.int IntKind.i64 (Int.ofNat 2)), AV.lit (Value.int IntKind.i64 (Int.ofNat 2)), AV.lit (Value.int IntKind.i64 (Int.ofNat 3)),
          AV.lit (Value.int IntKind.i64 (Int.ofNat 3)), AV.lit (Value.int IntKind.i64 (Int.ofNat 3)), AV.lit (Value.int IntKind.i64 (Int.negSucc 0))]),
    (2,
      AObj.cells none false
        [AV.lit (Value.int IntKind.i64 (Int.ofNat 0)), AV.lit (Value.bool true), AV.lit (Value.int IntKind.i64 (Int.ofNat 3)),
          AV.lit (Value.int IntKind.i64 (Int.ofNat 9)), AV.lit (Value.int IntKind.i64 (Int.ofNat 3)), AV.lit (Value.bool true),
          AV.lit (Value.int IntKind.i64 (Int.ofNat 1)), AV.lit (Value.int IntKind.i64 (Int.ofNat 5))])]
  25

def awF8 : TF :=
  TF.mk
  (Tr.node (AV.lit (Value.bool false))
    (Tr.node (AV.sl 4 0 4 3 false)
      (Tr.node (AV.lit (Value.int IntKind.i64 (Int.ofNat 3)))
        (Tr.node (AV.lit (Value.int IntKind.i64 (Int.ofNat 0)))
          (Tr.node (AV.lit (Value.int IntKind.i64 (Int.ofNat 0)))
            (Tr.node (AV.tup [AV.lit (Value.int IntKind.i64 (Int.ofNat 3)), AV.sl 11 0 2 1 false, AV.lit (Value.int IntKind.i64 (Int.ofNat 0))]) Tr.nil Tr.nil)
            (Tr.node (AV.tup [AV.sl 24 0 1 1 false, AV.lit (Value.int IntKind.i64 (Int.ofNat 0))]) Tr.nil Tr.nil))
          (Tr.node (AV.lit (Value.int IntKind.i64 (Int.ofNat 0))) (Tr.node (AV.lit (Value.int IntKind.i64 (Int.ofNat 0))) Tr.nil Tr.nil) Tr.nil))
        (Tr.node (AV.lit (Value.int IntKind.i64 (Int.ofNat 0)))
          (Tr.node (AV.agg [AV.sl 0 0 2 3 true, AV.sl 1 0 4 3 true, AV.sl 2 0 0 4 false])
            (Tr.node (AV.tup [AV.sl 15 0 4 6 false, AV.lit (Value.int IntKind.i64 (Int.ofNat 0))]) Tr.nil Tr.nil)
            (Tr.node (AV.agg [AV.sl 25 0 2 3 true, AV.sl 26 0 4 3 true, AV.sl 27 0 2 4 true]) Tr.nil Tr.nil))
          (Tr.node (AV.lit (Value.int IntKind.i64 (Int.ofNat 3))) (Tr.node (AV.sl 20 0 1 1 false) Tr.nil Tr.nil) Tr.nil)))
      (Tr.node (AV.lit (Value.int IntKind.i64 (Int.ofNat 3)))
        (Tr.node (AV.lit (Value.int IntKind.i64 (Int.ofNat 0)))
          (Tr.node (AV.lit (Value.tuple (Array.mk []))) (Tr.node (AV.sl 11 0 2 1 false) Tr.nil Tr.nil)
            (Tr.node (AV.lit (Value.int IntKind.i64 (Int.ofNat 0))) Tr.nil Tr.nil))
          (Tr.node (AV.agg [AV.sl 5 0 2 3 true, AV.sl 6 0 4 3 true, AV.sl 7 0 0 4 false])
            (Tr.node (AV.agg [AV.sl 17 0 2 3 true, AV.sl 18 0 4 3 true, AV.sl 19 0 1 4 false]) Tr.nil Tr.nil) Tr.nil))
        (Tr.node (AV.lit (Value.int IntKind.i64 (Int.ofNat 0)))
          (Tr.node (AV.tup [AV.sl 4 0 4 3 false, AV.lit (Value.int IntKind.i64 (Int.ofNat 0))])
            (Tr.node (AV.tup [AV.sl 15 0 4 6 false, AV.lit (Value.int IntKind.i64 (Int.ofNat 0))]) Tr.nil Tr.nil)
            (Tr.node (AV.lit (Value.int IntKind.i64 (Int.ofNat 1))) Tr.nil Tr.nil))
          (Tr.node (AV.tup [AV.lit (Value.int IntKind.i64 (Int.ofNat 3)), AV.sl 11 0 2 1 false, AV.lit (Value.int IntKind.i64 (Int.ofNat 0))])
            (Tr.node (AV.tup [AV.sl 24 0 1 1 false, AV.lit (Value.int IntKind.i64 (Int.ofNat 0))]) Tr.nil Tr.nil) Tr.nil))))
    (Tr.node (AV.lit (Value.int IntKind.i64 (Int.ofNat 0)))
      (Tr.node (AV.lit (Value.int IntKind.i64 (Int.ofNat 0)))
        (Tr.node (AV.sl 15 0 4 6 false)
          (Tr.node (AV.lit (Value.tuple (Array.mk []))) (Tr.node (AV.lit (Value.int IntKind.i64 (Int.ofNat 3))) Tr.nil Tr.nil)
            (Tr.node (AV.sl 24 0 1 1 false) Tr.nil Tr.nil))
          (Tr.node (AV.tup [AV.lit (Value.int IntKind.i64 (Int.ofNat 3)), AV.lit (Value.int IntKind.i64 (Int.ofNat 0))])
            (Tr.node (AV.tup [AV.sl 20 0 1 1 false, AV.lit (Value.int IntKind.i64 (Int.ofNat 0))]) Tr.nil Tr.nil) Tr.nil))
        (Tr.node (AV.sl 24 0 1 1 false)
          (Tr.node (AV.sl 3 0 2 1 true) (Tr.node (AV.agg [AV.sl 12 0 2 3 true, AV.sl 13 0 4 3 true, AV.sl 14 0 1 4 false]) Tr.nil Tr.nil)
            (Tr.node (AV.tup [AV.lit (Value.int IntKind.i64 (Int.ofNat 1)), AV.lit (Value.int IntKind.i64 (Int.ofNat 0))]) Tr.nil Tr.nil))
          (Tr.node (AV.lit (Value.int IntKind.i64 (Int.ofNat 0))) (Tr.node (AV.lit (Value.int IntKind.i64 (Int.ofNat 0))) Tr.nil Tr.nil) Tr.nil)))
      (Tr.node (AV.sl 11 0 2 1 false)
        (Tr.node (AV.sl 20 0 1 1 false)
          (Tr.node (AV.tup [AV.sl 4 0 4 3 false, AV.lit (Value.int IntKind.i64 (Int.ofNat 0))])
            (Tr.node (AV.lit (Value.int IntKind.i64 (Int.ofNat 0))) Tr.nil Tr.nil)
            (Tr.node (AV.tup [AV.lit (Value.int IntKind.i64 (Int.ofNat 1)), AV.lit (Value.int IntKind.i64 (Int.ofNat 0))]) Tr.nil Tr.nil))
          (Tr.node (AV.tup [AV.lit (Value.int IntKind.i64 (Int.ofNat 3)), AV.lit (Value.int IntKind.i64 (Int.ofNat 0))])
            (Tr.node (AV.tup [AV.sl 20 0 1 1 false, AV.lit (Value.int IntKind.i64 (Int.ofNat 0))]) Tr.nil Tr.nil) Tr.nil))
        (Tr.node (AV.lit (Value.int IntKind.i64 (Int.ofNat 1)))
          (Tr.node (AV.sl 4 0 4 3 false) (Tr.node (AV.sl 15 0 4 6 false) Tr.nil Tr.nil) (Tr.node (AV.lit (Value.int IntKind.i64 (Int.ofNat 0))) Tr.nil Tr.nil))
          (Tr.node (AV.agg [AV.sl 8 0 2 3 true, AV.sl 9 0 4 3 true, AV.sl 10 0 0 4 false])
            (Tr.node (AV.agg [AV.sl 21 0 2 3 true, AV.sl 22 0 4 3 true, AV.sl 23 0 1 4 false]) Tr.nil Tr.nil) Tr.nil)))))
  156 []

def awS8 : St :=
  St.mk
  [(25,
      AObj.cells none false
        [AV.lit (Value.int IntKind.i64 (Int.ofNat 0)), AV.lit (Value.int IntKind.i64 (Int.ofNat 4)), AV.lit (Value.int IntKind.i64 (Int.ofNat 5)),
          AV.lit (Value.int IntKind.i64 (Int.ofNat 1)), AV.lit (Value.int IntKind.i64 (Int.ofNat 5)), AV.lit (Value.int IntKind.i64 (Int.ofNat 6))]),
    (26,
      AObj.cells none false
        [AV.lit (Value.int IntKind.i64 (Int.ofNat 2)), AV.lit (Value.int IntKind.i64 (Int.ofNat 2)), AV.lit (Value.int IntKind.i64 (Int.ofNat 2)),
          AV.lit (Value.int IntKind.i64 (Int.ofNat 3)), AV.lit (Value.int IntKind.i64 (Int.ofNat 4)), AV.lit (Value.int IntKind.i64 (Int.ofNat 2)),
          AV.lit (Value.int IntKind.i64 (Int.ofNat 2)), AV.lit (Value.int IntKind.i64 (Int.ofNat 2)), AV.lit (Value.int IntKind.i64 (Int.ofNat 3)),
          AV.lit (Value.int IntKind.i64 (Int.ofNat 3)), AV.lit (Value.int IntKind.i64 (Int.ofNat 3)), AV.lit (Value.int IntKind.i64 (Int.negSucc 0))]),
    (27,
      AObj.cells none false
        [AV.lit (Value.int IntKind.i64 (Int.ofNat 0)), AV.lit (Value.bool true), AV.lit (Value.int IntKind.i64 (Int.ofNat 3)),
          AV.lit (Value.int IntKind.i64 (Int.ofNat 9)), AV.lit (Value.int IntKind.i64 (Int.ofNat 3)), AV.lit (Value.bool true),
          AV.lit (Value.int IntKind.i64 (Int.ofNat 1)), AV.lit (Value.int IntKind.i64 (Int.ofNat 5))]),
    (24, AObj.cells none false [AV.lit (Value.int IntKind.i64 (Int.ofNat 2))]),
    (21,
      AObj.cells none false
        [AV.lit (Value.int IntKind.i64 (Int.ofNat 0)), AV.lit (Value.int IntKind.i64 (Int.ofNat 4)), AV.lit (Value.int IntKind.i64 (Int.ofNat 5)),
          AV.lit (Value.int IntKind.i64 (Int.ofNat 1)), AV.lit (Value.int IntKind.i64 (Int.ofNat 5)), AV.lit (Value.int IntKind.i64 (Int.ofNat 6))]),
    (22,
      AObj.cells none false
        [AV.lit (Value.int IntKind.i64 (Int.ofNat 2)), AV.lit (Value.int IntKind.i64 (Int.ofNat 2)), AV.lit (Value.int IntKind.i64 (Int.ofNat 2)),
          AV.lit (Value.int IntKind.i64 (Int.ofNat 3)), AV.lit (Value.int IntKind.i64 (Int.ofNat 4)), AV.lit (Value.int IntKind.i64 (Int.ofNat 2)),
          AV.lit (Value.int IntKind.i64 (Int.ofNat 2)), AV.lit (Value.int IntKind.i64 (Int.ofNat 2)), AV.lit (Value.int IntKind.i64 (Int.ofNat 3)),
          AV.lit (Value.int IntKind.i64 (Int.ofNat 3)), AV.lit (Value.int IntKind.i64 (Int.ofNat 3)), AV.lit (Value.int IntKind.i64 (Int.negSucc 0))]),
    (23,
      AObj.cells none false
        [AV.lit (Value.int IntKind.i64 (Int.ofNat 0)), AV.lit (Value.bool true), AV.lit (Value.int IntKind.i64 (Int.ofNat 3)),
          AV.lit (Value.int IntKind.i64 (Int.ofNat 9)), AV.lit (Value.int IntKind.i64 (Int.ofNat 3)), AV.lit (Value.bool true),
          AV.lit (Value.int IntKind.i64 (Int.ofNat 1)), AV.lit (Value.int IntKind.i64 (Int.ofNat 5))]),
    (20, AObj.cells none false [AV.lit (Value.int IntKind.i64 (Int.ofNat 1))]),
    (17,
      AObj.cells none false
        [AV.lit (Value.int IntKind.i64 (Int.ofNat 0)), AV.lit (Value.int IntKind.i64 (Int.ofNat 4)), AV.lit (Value.int IntKind.i64 (Int.ofNat 5)),
          AV.lit (Value.int IntKind.i64 (Int.ofNat 1)), AV.lit (Value.int IntKind.i64 (Int.ofNat 5)), AV.lit (Value.int IntKind.i64 (Int.ofNat 6))]),
    (18,
      AObj.cells none false
        [AV.lit (Value.int IntKind.i64 (Int.ofNat 2)), AV.lit (Value.int IntKind.i64 (Int.ofNat 2)), AV.lit (Value.int IntKind.i64 (Int.ofNat 2)),
          AV.lit (Value.int IntKind.i64 (Int.ofNat 3)), AV.lit (Value.int IntKind.i64 (Int.ofNat 4)), AV.lit (Value.int IntKind.i64 (Int.ofNat 2)),
          AV.lit (Value.int IntKind.i64 (Int.ofNat 2)), AV.lit (Value.int IntKind.i64 (Int.ofNat 2)), AV.lit (Value.int IntKind.i64 (Int.ofNat 3)),
          AV.lit (Value.int IntKind.i64 (Int.ofNat 3)), AV.lit (Value.int IntKind.i64 (Int.ofNat 3)), AV.lit (Value.int IntKind.i64 (Int.negSucc 0))]),
    (19,
      AObj.cells none false
        [AV.lit (Value.int IntKind.i64 (Int.ofNat 0)), AV.lit (Value.bool true), AV.lit (Value.int IntKind.i64 (Int.ofNat 3)),
          AV.lit (Value.int IntKind.i64 (Int.ofNat 9)), AV.lit (Value.int IntKind.i64 (Int.ofNat 3)), AV.lit (Value.bool true),
          AV.lit (Value.int IntKind.i64 (Int.ofNat 1)), AV.lit (Value.int IntKind.i64 (Int.ofNat 5))]),
    (15,
      AObj.cells (some 16) false
        [AV.lit (Value.int IntKind.i64 (Int.ofNat 5)), AV.lit (Value.int IntKind.i64 (Int.ofNat 5)), AV.lit (Value.int IntKind.i64 (Int.ofNat 2)),
          AV.lit (Value.int IntKind.i64 (Int.ofNat 2)), AV.lit (Value.int IntKind.i64 (Int.ofNat 3)), AV.lit (Value.int IntKind.i64 (Int.ofNat 3)),
          AV.lit (Value.int IntKind.i64 (Int.ofNat 5)), AV.lit (Value.int IntKind.i64 (Int.ofNat 6)), AV.lit (Value.int IntKind.i64 (Int.ofNat 4)),
          AV.lit (Value.int IntKind.i64 (Int.ofNat 4)), AV.lit (Value.int IntKind.i64 (Int.ofNat 1)), AV.lit (Value.int IntKind.i64 (Int.ofNat 2)),
          AV.lit (Value.int IntKind.i64 (Int.ofNat 4)), AV.lit (Value.int IntKind.i64 (Int.ofNat 5)), AV.lit (Value.int IntKind.i64 (Int.ofNat 2)),
          AV.lit (Value.int IntKind.i64 (Int.ofNat 2)), AV.lit (Value.int IntKind.i64 (Int.ofNat 2)), AV.lit (Value.int IntKind.i64 (Int.ofNat 3)),
          AV.lit (Value.int IntKind.i64 (Int.ofNat 2)), AV.lit (Value.int IntKind.i64 (Int.ofNat 3)), AV.lit (Value.int IntKind.i64 (Int.ofNat 2)),
          AV.lit (Value.int IntKind.i64 (Int.ofNat 3)), AV.lit (Value.int IntKind.i64 (Int.ofNat 0)), AV.lit (Value.int IntKind.i64 (Int.ofNat 0))]),
    (16,
      AObj.cells (some 16) false
        [AV.lit (Value.int IntKind.i64 (Int.ofNat 5)), AV.lit (Value.int IntKind.i64 (Int.ofNat 5)), AV.lit (Value.int IntKind.i64 (Int.ofNat 2)),
          AV.lit (Value.int IntKind.i64 (Int.ofNat 2)), AV.lit (Value.int IntKind.i64 (Int.ofNat 3)), AV.lit (Value.int IntKind.i64 (Int.ofNat 3))]),
    (12,
      AObj.cells none false
        [AV.lit (Value.int IntKind.i64 (Int.ofNat 0)), AV.lit (Value.int IntKind.i64 (Int.ofNat 4)), AV.lit (Value.int IntKind.i64 (Int.ofNat 5)),
          AV.lit (Value.int IntKind.i64 (Int.ofNat 1)), AV.lit (Value.int IntKind.i64 (Int.ofNat 5)), AV.lit (Value.int IntKind.i64 (Int.ofNat 6))]),
    (13,
      AObj.cells none false
        [AV.lit (Value.int IntKind.i64 (Int.ofNat 2)), AV.lit (Value.int IntKind.i64 (Int.ofNat 2)), AV.lit (Value.int IntKind.i64 (Int.ofNat 2)),
          AV.lit (Value.int IntKind.i64 (Int.ofNat 3)), AV.lit (Value.int IntKind.i64 (Int.ofNat 4)), AV.lit (Value.int IntKind.i64 (Int.ofNat 2)),
          AV.lit (Value.int IntKind.i64 (Int.ofNat 2)), AV.lit (Value.int IntKind.i64 (Int.ofNat 2)), AV.lit (Value.int IntKind.i64 (Int.ofNat 3)),
          AV.lit (Value.int IntKind.i64 (Int.ofNat 3)), AV.lit (Value.int IntKind.i64 (Int.ofNat 3)), AV.lit (Value.int IntKind.i64 (Int.negSucc 0))]),
    (14,
      AObj.cells none false
        [AV.lit (Value.int IntKind.i64 (Int.ofNat 0)), AV.lit (Value.bool true), AV.lit (Value.int IntKind.i64 (Int.ofNat 3)),
          AV.lit (Value.int IntKind.i64 (Int.ofNat 9)), AV.lit (Value.int IntKind.i64 (Int.ofNat 3)), AV.lit (Value.bool true),
          AV.lit (Value.int IntKind.i64 (Int.ofNat 1)), AV.lit (Value.int IntKind.i64 (Int.ofNat 5))]),
    (11, AObj.cells none false [AV.lit (Value.int IntKind.i64 (Int.ofNat 4)), AV.lit (Value.int IntKind.i64 (Int.ofNat 5))]),
    (8,
      AObj.cells none false
        [AV.lit (Value.int IntKind.i64 (Int.ofNat 0)), AV.lit (Value.int IntKind.i64 (Int.ofNat 4)), AV.lit (Value.int IntKind.i64 (Int.ofNat 5)),
          AV.lit (Value.int IntKind.i64 (Int.ofNat 1)), AV.lit (Value.int IntKind.i64 (Int.ofNat 5)), AV.lit (Value.int IntKind.i64 (Int.ofNat 6))]),
    (9,
      AObj.cells none false
        [AV.lit (Value.int IntKind.i64 (Int.ofNat 2)), AV.lit (Value.int IntKind.i64 (Int.ofNat 2)), AV.lit (Value.int IntKind.i64 (Int.ofNat 2)),
          AV.lit (Value.int IntKind.i64 (Int.ofNat 3)), AV.lit (Value.int IntKind.i64 (Int.ofNat 4)), AV.lit (Value.int IntKind.i64 (Int.ofNat 2)),
          AV.lit (Value.int IntKind.i64 (Int.ofNat 2)), AV.lit (Value.int IntKind.i64 (Int.ofNat 2)), AV.lit (Value.int IntKind.i64 (Int.ofNat 3)),
          AV.lit (Value.int IntKind.i64 (Int.ofNat 3)), AV.lit (Value.int IntKind.i64 (Int.ofNat 3)), AV.lit (Value.int IntKind.i64 (Int.negSucc 0))]),
    (10,
      AObj.cells none false
        [AV.lit (Value.int IntKind.i64 (Int.ofNat 0)), AV.lit (Value.bool true), AV.lit (Value.int IntKind.i64 (Int.ofNat 3)),
          AV.lit (Value.int IntKind.i64 (Int.ofNat 9)), AV.lit (Value.int IntKind.i64 (Int.ofNat 3)), AV.lit (Value.bool true),
          AV.lit (Value.int IntKind.i64 (Int.ofNat 1)), AV.lit (Value.int IntKind.i64 (Int.ofNat 5))]),
    (5,
      AObj.cells none false
        [AV.lit (Value.int IntKind.i64 (Int.ofNat 0)), AV.lit (Value.int IntKind.i64 (Int.ofNat 4)), AV.lit (Value.int IntKind.i64 (Int.ofNat 5)),
          AV.lit (Value.int IntKind.i64 (Int.ofNat 1)), AV.lit (Value.int IntKind.i64 (Int.ofNat 5)), AV.lit (Value.int IntKind.i64 (Int.ofNat 6))]),
    (6,
      AObj.cells none false
        [AV.lit (Value.int IntKind.i64 (Int.ofNat 2)), AV.lit (Value.int IntKind.i64 (Int.ofNat 2)), AV.lit (Value.int IntKind.i64 (Int.ofNat 2)),
          AV.lit (Value.int IntKind.i64 (Int.ofNat 3)), AV.lit (Value.int IntKind.i64 (Int.ofNat 4)), AV.lit (Value.int IntKind.i64 (Int.ofNat 2)),
          AV.lit (Value.int IntKind.i64 (Int.ofNat 2)), AV.lit (Value.int IntKind.i64 (Int.ofNat 2)), AV.lit (Value.int IntKind.i64 (Int.ofNat 3)),
          AV.lit (Value.int IntKind.i64 (Int.ofNat 3)), AV.lit (Value.int IntKind.i64 (Int.ofNat 3)), AV.lit (Value.int IntKind.i64 (Int.negSucc 0))]),
    (7,
      AObj.cells none false
        [AV.lit (Value.int IntKind.i64 (Int.ofNat 0)), AV.lit (Value.bool true), AV.lit (Value.int IntKind.i64 (Int.ofNat 3)),
          AV.lit (Value.int IntKind.i64 (Int.ofNat 9)), AV.lit (Value.int IntKind.i64 (Int.ofNat 3)), AV.lit (Value.bool true),
          AV.lit (Value.int IntKind.i64 (Int.ofNat 1)), AV.lit (Value.int IntKind.i64 (Int.ofNat 5))]),
    (4,
      AObj.cells none false
        [AV.lit (Value.int IntKind.i64 (Int.ofNat 4)), AV.lit (Value.int IntKind.i64 (Int.ofNat 2)), AV.lit (Value.int IntKind.i64 (Int.ofNat 2)),
          AV.lit (Value.int IntKind.i64 (Int.ofNat 5)), AV.lit (Value.int IntKind.i64 (Int.ofNat 4)), AV.lit (Value.int IntKind.i64 (Int.ofNat 1)),
          AV.lit (Value.int IntKind.i64 (Int.ofNat 3)), AV.lit (Value.int IntKind.i64 (Int.ofNat 2)), AV.lit (Value.int IntKind.i64 (Int.ofNat 1)),
          AV.lit (Value.int IntKind.i64 (Int.ofNat 1)), AV.lit (Value.int IntKind.i64 (Int.ofNat 1)), AV.lit (Value.int IntKind.i64 (Int.ofNat 0))]),
    (3, AObj.cells none false [AV.lit (Value.int IntKind.i64 (Int.ofNat 4)), AV.lit (Value.int IntKind.i64 (Int.ofNat 5))]),
    (0,
      AObj.cells none false
        [AV.lit (Value.int IntKind.i64 (Int.ofNat 0)), AV.lit (Value.int IntKind.i64 (Int.ofNat 4)), AV.lit (Value.int IntKind.i64 (Int.ofNat 5)),
          AV.lit (Value.int IntKind.i64 (Int.ofNat 1)), AV.lit (Value.int IntKind.i64 (Int.ofNat 5)), AV.lit (Value.int IntKind.i64 (Int.ofNat 6))]),
    (1,
      AObj.cells none false
        [AV.lit (Value.int IntKind.i64 (Int.ofNat 2)), AV.lit (Value.int IntKind.i64 (Int.ofNat 2)), AV.lit (Value.int IntKind.i64 (Int.ofNat 2)),
          AV.lit (Value.int IntKind.i64 (Int.ofNat 3)), AV.lit (Value.int IntKind.i64 (Int.ofNat 4)), AV.lit (Value.int IntKind.i64 (Int.ofNat 2)),
          AV.lit (Value.int IntKind.i64 (Int.ofNat 2)), AV.lit (Value.int IntKind.i64 (Int.ofNat 2)), AV.lit (Value.int IntKind.i64 (Int.ofNat 3)),
          AV.lit (Value.int IntKind.i64 (Int.ofNat 3)), AV.lit (Value.int IntKind.i64 (Int.ofNat 3)), AV.lit (Value.int IntKind.i64 (Int.negSucc 0))]),
    (2,
      AObj.cells none false
        [AV.lit (Value.int IntKind.i64 (Int.ofNat 0)), AV.lit (Value.bool true), AV.lit (Value.int IntKind.i64 (Int.ofNat 3)),
          AV.lit (Value.int IntKind.i64 (Int.ofNat 9)), AV.lit (Value.int IntKind.i64 (Int.ofNat 3)), AV.lit (Value.bool true),
          AV.lit (Value.int IntKind.i64 (Int.ofNat 1)), AV.lit (Value.int IntKind.i64 (Int.ofNat 5))])]
  28

def awF9 : TF :=
  TF.mk
  (Tr.node (AV.lit (Value.bool false))
    (Tr.node (AV.sl 4 0 4 3 false)
      (Tr.node (AV.lit (Value.int IntKind.i64 (Int.ofNat 3)))
        (Tr.node (AV.lit (Value.int IntKind.i64 (Int.ofNat 0)))
          (Tr.node (AV.lit (Value.int IntKind.i64 (Int.ofNat 0)))
            (Tr.node (AV.tup [AV.lit (Value.int IntKind.i64 (Int.ofNat 3)), AV.sl 11 0 2 1 false, AV.lit (Value.int IntKind.i64 (Int.ofNat 0))]) Tr.nil Tr.nil)
            (Tr.node (AV.tup [AV.sl 24 0 1 1 false, AV.lit (Value.int IntKind.i64 (Int.ofNat 0))]) Tr.nil Tr.nil))
          (Tr.node (AV.lit (Value.int IntKind.i64 (Int.ofNat 0))) (Tr.node (AV.lit (Value.int IntKind.i64 (Int.ofNat 0))) Tr.nil Tr.nil)
            (Tr.node (AV.tup [AV.sl 31 0 1 1 false, AV.lit (Value.int IntKind.i64 (Int.ofNat 0))]) Tr.nil Tr.nil)))
        (Tr.node (AV.lit (Value.int IntKind.i64 (Int.ofNat 0)))
          (Tr.node (AV.agg [AV.sl 0 0 2 3 true, AV.sl 1 0 4 3 true, AV.sl 2 0 0 4 false])
            (Tr.node (AV.tup [AV.sl 15 0 4 6 false, AV.lit (Value.int IntKind.i64 (Int.ofNat 0))]) Tr.nil Tr.nil)
            (Tr.node (AV.agg [AV.sl 25 0 2 3 true, AV.sl 26 0 4 3 true, AV.sl 27 0 2 4 true]) Tr.nil Tr.nil))
          (Tr.node (AV.lit (Value.int IntKind.i64 (Int.ofNat 3))) (Tr.node (AV.sl 20 0 1 1 false) Tr.nil Tr.nil)
            (Tr.node (AV.lit (Value.int IntKind.i64 (Int.ofNat 0))) Tr.nil Tr.nil))))
      (Tr.node (AV.lit (Value.int IntKind.i64 (Int.ofNat 3)))
        (Tr.node (AV.lit (Value.int IntKind.i64 (Int.ofNat 0)))
          (Tr.node (AV.lit (Value.int IntKind.i64 (Int.ofNat 0))) (Tr.node (AV.sl 11 0 2 1 false) Tr.nil Tr.nil)
            (Tr.node (AV.lit (Value.int IntKind.i64 (Int.ofNat 0))) Tr.nil Tr.nil))
          (Tr.node (AV.agg [AV.sl 5 0 2 3 true, AV.sl 6 0 4 3 true, AV.sl 7 0 0 4 false])
            (Tr.node (AV.agg [AV.sl 17 0 2 3 true, AV.sl 18 0 4 3 true, AV.sl 19 0 1 4 false]) Tr.nil Tr.nil)
            (Tr.node (AV.tup [AV.sl 31 0 1 1 false, AV.lit (Value.int IntKind.i64 (Int.ofNat 0))]) Tr.nil Tr.nil)))
        (Tr.node (AV.lit (Value.int IntKind.i64 (Int.ofNat 0)))
          (Tr.node (AV.tup [AV.sl 4 0 4 3 false, AV.lit (Value.int IntKind.i64 (Int.ofNat 0))])
            (Tr.node (AV.tup [AV.sl 15 0 4 6 false, AV.lit (Value.int IntKind.i64 (Int.ofNat 0))]) Tr.nil Tr.nil)
            (Tr.node (AV.lit (Value.int IntKind.i64 (Int.ofNat 1))) Tr.nil Tr.nil))
          (Tr.node (AV.tup [AV.lit (Value.int IntKind.i64 (Int.ofNat 3)), AV.sl 11 0 2 1 false, AV.lit (Value.int IntKind.i64 (Int.ofNat 0))])
            (Tr.node (AV.tup [AV.sl 24 0 1 1 false, AV.lit (Value.int IntKind.i64 (Int.ofNat 0))]) Tr.nil Tr.nil) Tr.nil))))
    (Tr.node (AV.lit (Value.int IntKind.i64 (Int.ofNat 0)))
      (Tr.node (AV.lit (Value.int IntKind.i64 (Int.ofNat 0)))
        (Tr.node (AV.sl 15 0 4 6 false)
          (Tr.node (AV.sl 31 0 1 1 false) (Tr.node (AV.lit (Value.int IntKind.i64 (Int.ofNat 3))) Tr.nil Tr.nil) (Tr.node (AV.sl 24 0 1 1 false) Tr.nil Tr.nil))
          (Tr.node (AV.tup [AV.lit (Value.int IntKind.i64 (Int.ofNat 3)), AV.lit (Value.int IntKind.i64 (Int.ofNat 0))])
            (Tr.node (AV.tup [AV.sl 20 0 1 1 false, AV.lit (Value.int IntKind.i64 (Int.ofNat 0))]) Tr.nil Tr.nil)
            (Tr.node (AV.agg [AV.sl 28 0 2 3 true, AV.sl 29 0 4 3 true, AV.sl 30 0 2 4 true]) Tr.nil Tr.nil)))
        (Tr.node (AV.sl 24 0 1 1 false)
          (Tr.node (AV.sl 3 0 2 1 true) (Tr.node (AV.agg [AV.sl 12 0 2 3 true, AV.sl 13 0 4 3 true, AV.sl 14 0 1 4 false]) Tr.nil Tr.nil)
            (Tr.node (AV.tup [AV.lit (Value.int IntKind.i64 (Int.ofNat 1)), AV.lit (Value.int IntKind.i64 (Int.ofNat 0))]) Tr.nil Tr.nil))
          (Tr.node (AV.lit (Value.int IntKind.i64 (Int.ofNat 0))) (Tr.node (AV.lit (Value.int IntKind.i64 (Int.ofNat 0))) Tr.nil Tr.nil) Tr.nil)))
      (Tr.node (AV.sl 11 0 2 1 false)
        (Tr.node (AV.sl 20 0 1 1 false)
          (Tr.node (AV.tup [AV.sl 4 0 4 3 false, AV.lit (Value.int IntKind.i64 (Int.ofNat 0))])
            (Tr.node (AV.lit (Value.int IntKind.i64 (Int.ofNat 0))) Tr.nil Tr.nil)
            (Tr.node (AV.tup [AV.lit (Value.int IntKind.i64 (Int.ofNat 1)), AV.lit (Value.int IntKind.i64 (Int.ofNat 0))]) Tr.nil Tr.nil))
          (Tr.node (AV.tup [AV.lit (Value.int IntKind.i64 (Int.ofNat 3)), AV.lit (Value.int IntKind.i64 (Int.ofNat 0))])
            (Tr.node (AV.tup [AV.sl 20 0 1 1 false, AV.lit (Value.int IntKind.i64 (Int.ofNat 0))]) Tr.nil Tr.nil)
            (Tr.node (AV.sl 31 0 1 1 false) Tr.nil Tr.nil)))
        (Tr.node (AV.lit (Value.int IntKind.i64 (Int.ofNat 1)))
          (Tr.node (AV.sl 4 0 4 3 false) (Tr.node (AV.sl 15 0 4 6 false) Tr.nil Tr.nil) (Tr.node (AV.lit (Value.int IntKind.i64 (Int.ofNat 0))) Tr.nil Tr.nil))
          (Tr.node (AV.agg [AV.sl 8 0 2 3 true, AV.sl 9 0 4 3 true, AV.sl 10 0 0 4 false])
            (Tr.node (AV.agg [AV.sl 21 0 2 3 true, AV.sl 22 0 4 3 true, AV.sl 23 0 1 4 false]) Tr.nil Tr.nil) Tr.nil)))))
  156 []

def awS9 : St :=
  St.mk
  [(31, AObj.cells none false [AV.lit (Value.int IntKind.i64 (Int.ofNat 1))]),
    (28,
      AObj.cells none false
        [AV.lit (Value.int IntKind.i64 (Int.ofNat 0)), AV.lit (Value.int IntKind.i64 (Int.ofNat 4)), AV.lit (Value.int IntKind.i64 (Int.ofNat 5)),
          AV.lit (Value.int IntKind.i64 (Int.ofNat 1)), AV.lit (Value.int IntKind.i64 (Int.ofNat 5)), AV.lit (Value.int IntKind.i64 (Int.ofNat 6))]),
    (29,
      AObj.cells none false
        [AV.lit (Value.int IntKind.i64 (Int.ofNat 2)), AV.lit (Value.int IntKind.i64 (Int.ofNat 2)), AV.lit (Value.int IntKind.i64 (Int.ofNat 2)),
          AV.lit (Value.int IntKind.i64 (Int.ofNat 3)), AV.lit (Value.int IntKind.i64 (Int.ofNat 4)), AV.lit (Value.int IntKind.i64 (Int.ofNat 2)),
          AV.lit (Value.int IntKind.i64 (Int.ofNat 2)), AV.lit (Value.int IntKind.i64 (Int.ofNat 2)), AV.lit (Value.int IntKind.i64 (Int.ofNat 3)),
          AV.lit (Value.int IntKind.i64 (Int.ofNat 3)), AV.lit (Value.int IntKind.i64 (Int.ofNat 3)), AV.lit (Value.int IntKind.i64 (Int.negSucc 0))]),
    (30,
      AObj.cells none false
        [AV.lit (Value.int IntKind.i64 (Int.ofNat 0)), AV.lit (Value.bool true), AV.lit (Value.int IntKind.i64 (Int.ofNat 3)),
          AV.lit (Value.int IntKind.i64 (Int.ofNat 9)), AV.lit (Value.int IntKind.i64 (Int.ofNat 3)), AV.lit (Value.bool true),
          AV.lit (Value.int IntKind.i64 (Int.ofNat 1)), AV.lit (Value.int IntKind.i64 (Int.ofNat 5))]),
    (25,
      AObj.cells none false
        [AV.lit (Value.int IntKind.i64 (Int.ofNat 0)), AV.lit (Value.int IntKind.i64 (Int.ofNat 4)), AV.lit (Value.int IntKind.i64 (Int.ofNat 5)),
          AV.lit (Value.int IntKind.i64 (Int.ofNat 1)), AV.lit (Value.int IntKind.i64 (Int.ofNat 5)), AV.lit (Value.int IntKind.i64 (Int.ofNat 6))]),
    (26,
      AObj.cells none false
        [AV.lit (Value.int IntKind.i64 (Int.ofNat 2)), AV.lit (Value.int IntKind.i64 (Int.ofNat 2)), AV.lit (Value.int IntKind.i64 (Int.ofNat 2)),
          AV.lit (Value.int IntKind.i64 (Int.ofNat 3)), AV.lit (Value.int IntKind.i64 (Int.ofNat 4)), AV.lit (Value.int IntKind.i64 (Int.ofNat 2)),
          AV.lit (Value.int IntKind.i64 (Int.ofNat 2)), AV.lit (Value.int IntKind.i64 (Int.ofNat 2)), AV.lit (Value.int IntKind.i64 (Int.ofNat 3)),
          AV.lit (Value.int IntKind.i64 (Int.ofNat 3)), AV.lit (Value.int IntKind.i64 (Int.ofNat 3)), AV.lit (Value.int IntKind.i64 (Int.negSucc 0))]),
    (27,
      AObj.cells none false
        [AV.lit (Value.int IntKind.i64 (Int.ofNat 0)), AV.lit (Value.bool true), AV.lit (Value.int IntKind.i64 (Int.ofNat 3)),
          AV.lit (Value.int IntKind.i64 (Int.ofNat 9)), AV.lit (Value.int IntKind.i64 (Int.ofNat 3)), AV.lit (Value.bool true),
          AV.lit (Value.int IntKind.i64 (Int.ofNat 1)), AV.lit (Value.int IntKind.i64 (Int.ofNat 5))]),
    (24, AObj.cells none false [AV.lit (Value.int IntKind.i64 (Int.ofNat 2))]),
    (21,
      AObj.cells none false
        [AV.lit (Value.int IntKind.i64 (Int.ofNat 0)), AV.lit (Value.int IntKind.i64 (Int.ofNat 4)), AV.lit (Value.int IntKind.i64 (Int.ofNat 5)),
          AV.lit (Value.int IntKind.i64 (Int.ofNat 1)), AV.lit (Value.int IntKind.i64 (Int.ofNat 5)), AV.lit (Value.int IntKind.i64 (Int.ofNat 6))]),
    (22,
      AObj.cells none false
        [AV.lit (Value.int IntKind.i64 (Int.ofNat 2)), AV.lit (Value.int IntKind.i64 (Int.ofNat 2)), AV.lit (Value.int IntKind.i64 (Int.ofNat 2)),
          AV.lit (Value.int IntKind.i64 (Int.ofNat 3)), AV.lit (Value.int IntKind.i64 (Int.ofNat 4)), AV.lit (Value.int IntKind.i64 (Int.ofNat 2)),
          AV.lit (Value.int IntKind.i64 (Int.ofNat 2)), AV.lit (Value.int IntKind.i64 (Int.ofNat 2)), AV.lit (Value.int IntKind.i64 (Int.ofNat 3)),
          AV.lit (Value.int IntKind.i64 (Int.ofNat 3)), AV.lit (Value.int IntKind.i64 (Int.ofNat 3)), AV.lit (Value.int IntKind.i64 (Int.negSucc 0))]),
    (23,
      AObj.cells none false
        [AV.lit (Value.int IntKind.i64 (Int.ofNat 0)), AV.lit (Value.bool true), AV.lit (Value.int IntKind.i64 (Int.ofNat 3)),
          AV.lit (Value.int IntKind.i64 (Int.ofNat 9)), AV.lit (Value.int IntKind.i64 (Int.ofNat 3)), AV.lit (Value.bool true),
          AV.lit (Value.int IntKind.i64 (Int.ofNat 1)), AV.lit (Value.int IntKind.i64 (Int.ofNat 5))]),
    (20, AObj.cells none false [AV.lit (Value.int IntKind.i64 (Int.ofNat 1))]),
    (17,
      AObj.cells none false
        [AV.lit (Value.int IntKind.i64 (Int.ofNat 0)), AV.lit (Value.int IntKind.i64 (Int.ofNat 4)), AV.lit (Value.int IntKind.i64 (Int.ofNat 5)),
          AV.lit (Value.int IntKind.i64 (Int.ofNat 1)), AV.lit (Value.int IntKind.i64 (Int.ofNat 5)), AV.lit (Value.int IntKind.i64 (Int.ofNat 6))]),
    (18,
      AObj.cells none false
        [AV.lit (Value.int IntKind.i64 (Int.ofNat 2)), AV.lit (Value.int IntKind.i64 (Int.ofNat 2)), AV.lit (Value.int IntKind.i64 (Int.ofNat 2)),
          AV.lit (Value.int IntKind.i64 (Int.ofNat 3)), AV.lit (Value.int IntKind.i64 (Int.ofNat 4)), AV.lit (Value.int IntKind.i64 (Int.ofNat 2)),
          AV.lit (Value.int IntKind.i64 (Int.ofNat 2)), AV.lit (Value.int IntKind.i64 (Int.ofNat 2)), AV.lit (Value.int IntKind.i64 (Int.ofNat 3)),
          AV.lit (Value.int IntKind.i64 (Int.ofNat 3)), AV.lit (Value.int IntKind.i64 (Int.ofNat 3)), AV.lit (Value.int IntKind.i64 (Int.negSucc 0))]),
    (19,
      AObj.cells none false
        [AV.lit (Value.int IntKind.i64 (Int.ofNat 0)), AV.lit (Value.bool true), AV.lit (Value.int IntKind.i64 (Int.ofNat 3)),
          AV.lit (Value.int IntKind.i64 (Int.ofNat 9)), AV.lit (Value.int IntKind.i64 (Int.ofNat 3)), AV.lit (Value.bool true),
          AV.lit (Value.int IntKind.i64 (Int.ofNat 1)), AV.lit (Value.int IntKind.i64 (Int.ofNat 5))]),
    (15,
      AObj.cells (some 16) false
        [AV.lit (Value.int IntKind.i64 (Int.ofNat 5)), AV.lit (Value.int IntKind.i64 (Int.ofNat 5)), AV.lit (Value.int IntKind.i64 (Int.ofNat 2)),
          AV.lit (Value.int IntKind.i64 (Int.ofNat 2)), AV.lit (Value.int IntKind.i64 (Int.ofNat 3)), AV.lit (Value.int IntKind.i64 (Int.ofNat 3)),
          AV.lit (Value.int IntKind.i64 (Int.ofNat 5)), AV.lit (Value.int IntKind.i64 (Int.ofNat 6)), AV.lit (Value.int IntKind.i64 (Int.ofNat 4)),
          AV.lit (Value.int IntKind.i64 (Int.ofNat 4)), AV.lit (Value.int IntKind.i64 (Int.ofNat 1)), AV.lit (Value.int IntKind.i64 (Int.ofNat 2)),
          AV.lit (Value.int IntKind.i64 (Int.ofNat 4)), AV.lit (Value.int IntKind.i64 (Int.ofNat 5)), AV.lit (Value.int IntKind.i64 (Int.ofNat 2)),
          AV.lit (Value.int IntKind.i64 (Int.ofNat 2)), AV.lit (Value.int IntKind.i64 (Int.ofNat 2)), AV.lit (Value.int IntKind.i64 (Int.ofNat 3)),
          AV.lit (Value.int IntKind.i64 (Int.ofNat 2)), AV.lit (Value.int IntKind.i64 (Int.ofNat 3)), AV.lit (Value.int IntKind.i64 (Int.ofNat 2)),
          AV.lit (Value.int IntKind.i64 (Int.ofNat 3)), AV.lit (Value.int IntKind.i64 (Int.ofNat 0)), AV.lit (Value.int IntKind.i64 (Int.ofNat 0))]),
    (16,
      AObj.cells (some 16) false
        [AV.lit (Value.int IntKind.i64 (Int.ofNat 5)), AV.lit (Value.int IntKind.i64 (Int.ofNat 5)), AV.lit (Value.int IntKind.i64 (Int.ofNat 2)),
          AV.lit (Value.int IntKind.i64 (Int.ofNat 2)), AV.lit (Value.int IntKind.i64 (Int.ofNat 3)), AV.lit (Value.int IntKind.i64 (Int.ofNat 3))]),
    (12,
      AObj.cells none false
        [AV.lit (Value.int IntKind.i64 (Int.ofNat 0)), AV.lit (Value.int IntKind.i64 (Int.ofNat 4)), AV.lit (Value.int IntKind.i64 (Int.ofNat 5)),
          AV.lit (Value.int IntKind.i64 (Int.ofNat 1)), AV.lit (Value.int IntKind.i64 (Int.ofNat 5)), AV.lit (Value.int IntKind.i64 (Int.ofNat 6))]),
    (13,
      AObj.cells none false
        [AV.lit (Value.int IntKind.i64 (Int.ofNat 2)), AV.lit (Value.int IntKind.i64 (Int.ofNat 2)), AV.lit (Value.int IntKind.i64 (Int.ofNat 2)),
          AV.lit (Value.int IntKind.i64 (Int.ofNat 3)), AV.lit (Value.int IntKind.i64 (Int.ofNat 4)), AV.lit (Value.int IntKind.i64 (Int.ofNat 2)),
          AV.lit (Value.int IntKind.i64 (Int.ofNat 2)), AV.lit (Value.int IntKind.i64 (Int.ofNat 2)), AV.lit (Value.int IntKind.i64 (Int.ofNat 3)),
          AV.lit (Value.int IntKind.i64 (Int.ofNat 3)), AV.lit (Value.int IntKind.i64 (Int.ofNat 3)), AV.lit (Value.int IntKind.i64 (Int.negSucc 0))]),
    (14,
      AObj.cells none false
        [AV.lit (Value.int IntKind.i64 (Int.ofNat 0)), AV.lit (Value.bool true), AV.lit (Value.int IntKind.i64 (Int.ofNat 3)),
          AV.lit (Value.int IntKind.i64 (Int.ofNat 9)), AV.lit (Value.int IntKind.i64 (Int.ofNat 3)), AV.lit (Value.bool true),
          AV.lit (Value.int IntKind.i64 (Int.ofNat 1)), AV.lit (Value.int IntKind.i64 (Int.ofNat 5))]),
    (11, AObj.cells none false [AV.lit (Value.int IntKind.i64 (Int.ofNat 4)), AV.lit (Value.int IntKind.i64 (Int.ofNat 5))]),
    (8,
      AObj.cells none false
        [AV.lit (Value.int IntKind.i64 (Int.ofNat 0)), AV.lit (Value.int IntKind.i64 (Int.ofNat 4)), AV.lit (Value.int IntKind.i64 (Int.ofNat 5)),
          AV.lit (Value.int IntKind.i64 (Int.ofNat 1)), AV.lit (Value.int IntKind.i64 (Int.ofNat 5)), AV.lit (Value.int IntKind.i64 (Int.ofNat 6))]),
    (9,
      AObj.cells none false
        [AV.lit (Value.int IntKind.i64 (Int.ofNat 2)), AV.lit (Value.int IntKind.i64 (Int.ofNat 2)), AV.lit (Value.int IntKind.i64 (Int.ofNat 2)),
          AV.lit (Value.int IntKind.i64 (Int.ofNat 3)), AV.lit (Value.int IntKind.i64 (Int.ofNat 4)), AV.lit (Value.int IntKind.i64 (Int.ofNat 2)),
          AV.lit (Value.int IntKind.i64 (Int.ofNat 2)), AV.lit (Value.int IntKind.i64 (Int.ofNat 2)), AV.lit (Value.int IntKind.i64 (Int.ofNat 3)),
          AV.lit (Value.int IntKind.i64 (Int.ofNat 3)), AV.lit (Value.int IntKind.i64 (Int.ofNat 3)), AV.lit (Value.int IntKind.i64 (Int.negSucc 0))]),
    (10,
      AObj.cells none false
        [AV.lit (Value.int IntKind.i64 (Int.ofNat 0)), AV.lit (Value.bool true), AV.lit (Value.int IntKind.i64 (Int.ofNat 3)),
          AV.lit (Value.int IntKind.i64 (Int.ofNat 9)), AV.lit (Value.int IntKind.i64 (Int.ofNat 3)), AV.lit (Value.bool true),
          AV.lit (Value.int IntKind.i64 (Int.ofNat 1)), AV.lit (Value.int IntKind.i64 (Int.ofNat 5))]),
    (5,
      AObj.cells none false
        [AV.lit (Value.int IntKind.i64 (Int.ofNat 0)), AV.lit (Value.int IntKind.i64 (Int.ofNat 4)), AV.lit (Value.int IntKind.i64 (Int.ofNat 5)),
          AV.lit (Value.int IntKind.i64 (Int.ofNat 1)), AV.lit (Value.int IntKind.i64 (Int.ofNat 5)), AV.lit (Value.int IntKind.i64 (Int.ofNat 6))]),
    (6,
      AObj.cells none false
        [AV.lit (Value.int IntKind.i64 (Int.ofNat 2)), AV.lit (Value.int IntKind.i64 (Int.ofNat 2)), AV.lit (Value.int IntKind.i64 (Int.ofNat 2)),
          AV.lit (Value.int IntKind.i64 (Int.ofNat 3)), AV.lit (Value.int IntKind.i64 (Int.ofNat 4)), AV.lit (Value.int IntKind.i64 (Int.ofNat 2)),
          AV.lit (Value.int IntKind.i64 (Int.ofNat 2)), AV.lit (Value.int IntKind.i64 (Int.ofNat 2)), AV.lit (Value.int IntKind.i64 (Int.ofNat 3)),
          AV.lit (Value.int IntKind.i64 (Int.ofNat 3)), AV.lit (Value.int IntKind.i64 (Int.ofNat 3)), AV.lit (Value.int IntKind.i64 (Int.negSucc 0))]),
    (7,
      AObj.cells none false
        [AV.lit (Value.int IntKind.i64 (Int.ofNat 0)), AV.lit (Value.bool true), AV.lit (Value.int IntKind.i64 (Int.ofNat 3)),
          AV.lit (Value.int IntKind.i64 (Int.ofNat 9)), AV.lit (Value.int IntKind.i64 (Int.ofNat 3)), AV.lit (Value.bool true),
          AV.lit (Value.int IntKind.i64 (Int.ofNat 1)), AV.lit (Value.int IntKind.i64 (Int.ofNat 5))]),
    (4,
      AObj.cells none false
        [AV.lit (Value.int IntKind.i64 (Int.ofNat 4)), AV.lit (Value.int IntKind.i64 (Int.ofNat 2)), AV.lit (Value.int IntKind.i64 (Int.ofNat 2)),
          AV.lit (Value.int IntKind.i64 (Int.ofNat 5)), AV.lit (Value.int IntKind.i64 (Int.ofNat 4)), AV.lit (Value.int IntKind.i64 (Int.ofNat 1)),
          AV.lit (Value.int IntKind.i64 (Int.ofNat 3)), AV.lit (Value.int IntKind.i64 (Int.ofNat 2)), AV.lit (Value.int IntKind.i64 (Int.ofNat 1)),
          AV.lit (Value.int IntKind.i64 (Int.ofNat 1)), AV.lit (Value.int IntKind.i64 (Int.ofNat 1)), AV.lit (Value.int IntKind.i64 (Int.ofNat 0))]),
    (3, AObj.cells none false [AV.lit (Value.int IntKind.i64 (Int.ofNat 4)), AV.lit (Value.int IntKind.i64 (Int.ofNat 5))]),
    (0,
      AObj.cells none false
        [AV.lit (Value.int IntKind.i64 (Int.ofNat 0)), AV.lit (Value.int IntKind.i64 (Int.ofNat 4)), AV.lit (Value.int IntKind.i64 (Int.ofNat 5)),
          AV.lit (Value.int IntKind.i64 (Int.ofNat 1)), AV.lit (Value.int IntKind.i64 (Int.ofNat 5)), AV.lit (Value.int IntKind.i64 (Int.ofNat 6))]),
    (1,
      AObj.cells none false
        [AV.lit (Value.int IntKind.i64 (Int.ofNat 2)), AV.lit (Value.int IntKind.i64 (Int.ofNat 2)), AV.lit (Value.int IntKind.i64 (Int.ofNat 2)),
          AV.lit (Value.int IntKind.i64 (Int.ofNat 3)), AV.lit (Value.int IntKind.i64 (Int.ofNat 4)), AV.lit (Value.int IntKind.i64 (Int.ofNat 2)),
          AV.lit (Value.int IntKind.i64 (Int.ofNat 2)), AV.lit (Value.int IntKind.i64 (Int.ofNat 2)), AV.lit (Value.int IntKind.i64 (Int.ofNat 3)),
          AV.lit (Value.int IntKind.i64 (Int.ofNat 3)), AV.lit (Value.int IntKind.i64 (Int.ofNat 3)), AV.lit (Value.int IntKind.i64 (Int.negSucc 0))]),
    (2,
      AObj.cells none false
        [AV.lit (Value.int IntKind.i64 (Int.ofNat 0)), AV.lit (Value.bool true), AV.lit (Value.int IntKind.i64 (Int.ofNat 3)),
          AV.lit (Value.int IntKind.i64 (Int.ofNat 9)), AV.lit (Value.int IntKind.i64 (Int.ofNat 3)), AV.lit (Value.bool true),
          AV.lit (Value.int IntKind.i64 (Int.ofNat 1)), AV.lit (Value.int IntKind.i64 (Int.ofNat 5))])]
  32

def awF10 : TF :=
  TF.mk
  (Tr.node (AV.lit (Value.bool true))
    (Tr.node (AV.sl 4 0 4 3 false)
      (Tr.node (AV.lit (Value.int IntKind.i64 (Int.ofNat 3)))
        (Tr.node (AV.lit (Value.int IntKind.i64 (Int.ofNat 0)))
          (Tr.node (AV.lit (Value.int IntKind.i64 (Int.ofNat 0)))
            (Tr.node (AV.tup [AV.lit (Value.int IntKind.i64 (Int.ofNat 3)), AV.sl 11 0 2 1 false, AV.lit (Value.int IntKind.i64 (Int.ofNat 0))])
              (Tr.node (AV.sl 4 0 4 3 false) (Tr.node (AV.sl 35 0 1 1 true) Tr.nil Tr.nil) Tr.nil) (Tr.node (AV.lit (Value.bool true)) Tr.nil Tr.nil))
            (Tr.node (AV.tup [AV.sl 24 0 1 1 false, AV.lit (Value.int IntKind.i64 (Int.ofNat 0))])
              (Tr.node (AV.lit (Value.bool true)) (Tr.node (AV.lit (Value.bool true)) Tr.nil Tr.nil) Tr.nil)
              (Tr.node (AV.lit (Value.bool true)) Tr.nil Tr.nil)))
          (Tr.node (AV.lit (Value.int IntKind.i64 (Int.ofNat 0)))
            (Tr.node (AV.lit (Value.int IntKind.i64 (Int.ofNat 0)))
              (Tr.node
                (AV.agg
                  [AV.lit (Value.int IntKind.i64 (Int.ofNat 5)), AV.lit (Value.int IntKind.i64 (Int.ofNat 4)), AV.lit (Value.int IntKind.i64 (Int.ofNat 1))])
                (Tr.node (AV.sl 24 0 1 1 false) Tr.nil Tr.nil) Tr.nil)
              (Tr.node (AV.lit (Value.int IntKind.i64 (Int.ofNat 0))) Tr.nil Tr.nil))
            (Tr.node (AV.tup [AV.sl 31 0 1 1 false, AV.lit (Value.int IntKind.i64 (Int.ofNat 0))])
              (Tr.node (AV.lit (Value.bool true)) (Tr.node (AV.lit (Value.bool true)) Tr.nil Tr.nil) Tr.nil)
              (Tr.node (AV.lit (Value.bool true)) Tr.nil Tr.nil))))
        (Tr.node (AV.lit (Value.int IntKind.i64 (Int.ofNat 0)))
          (Tr.node (AV.agg [AV.sl 0 0 2 3 true, AV.sl 1 0 4 3 true, AV.sl 2 0 0 4 false])
            (Tr.node (AV.tup [AV.sl 15 0 4 6 false, AV.lit (Value.int IntKind.i64 (Int.ofNat 0))])
              (Tr.node (AV.lit (Value.bool true)) (Tr.node (AV.lit (Value.int IntKind.i64 (Int.ofNat 0))) Tr.nil Tr.nil) Tr.nil)
              (Tr.node (AV.sl 11 0 2 1 false) Tr.nil Tr.nil))
            (Tr.node (AV.agg [AV.sl 25 0 2 3 true, AV.sl 26 0 4 3 true, AV.sl 27 0 2 4 true])
              (Tr.node (AV.lit (Value.bool true)) (Tr.node (AV.lit (Value.bool true)) Tr.nil Tr.nil) Tr.nil)
              (Tr.node (AV.agg [AV.lit (Value.int IntKind.i64 (Int.ofNat 4)), AV.lit (Value.int IntKind.i64 (Int.ofNat 5))]) Tr.nil Tr.nil)))
          (Tr.node (AV.lit (Value.int IntKind.i64 (Int.ofNat 3)))
            (Tr.node (AV.sl 20 0 1 1 false) (Tr.node (AV.sl 4 0 4 3 false) (Tr.node (AV.lit (Value.bool true)) Tr.nil Tr.nil) Tr.nil)
              (Tr.node (AV.sl 15 0 4 6 false) Tr.nil Tr.nil))
            (Tr.node (AV.lit (Value.int IntKind.i64 (Int.ofNat 0)))
              (Tr.node (AV.lit (Value.bool true)) (Tr.node (AV.lit (Value.bool true)) Tr.nil Tr.nil) Tr.nil)
              (Tr.node (AV.lit (Value.bool true)) Tr.nil Tr.nil)))))
      (Tr.node (AV.lit (Value.int IntKind.i64 (Int.ofNat 3)))
        (Tr.node (AV.lit (Value.int IntKind.i64 (Int.ofNat 0)))
          (Tr.node (AV.lit (Value.int IntKind.i64 (Int.ofNat 0)))
            (Tr.node (AV.sl 11 0 2 1 false) (Tr.node (AV.lit (Value.bool true)) (Tr.node (AV.lit (Value.bool true)) Tr.nil Tr.nil) Tr.nil)
              (Tr.node (AV.lit (Value.bool true)) Tr.nil Tr.nil))
            (Tr.node (AV.lit (Value.int IntKind.i64 (Int.ofNat 0)))
              (Tr.node (AV.lit (Value.bool true)) (Tr.node (AV.lit (Value.bool true)) Tr.nil Tr.nil) Tr.nil) (Tr.node (AV.ptr 15 12) Tr.nil Tr.nil)))
          (Tr.node (AV.agg [AV.sl 5 0 2 3 true, AV.sl 6 0 4 3 true, AV.sl 7 0 0 4 false])
            (Tr.node (AV.agg [AV.sl 17 0 2 3 true, AV.sl 18 0 4 3 true, AV.sl 19 0 1 4 false])
              (Tr.node (AV.lit (Value.bool true)) (Tr.node (AV.lit (Value.bool true)) Tr.nil Tr.nil) Tr.nil) (Tr.node (AV.lit (Value.bool true)) Tr.nil Tr.nil))
            (Tr.node (AV.tup [AV.sl 31 0 1 1 false, AV.lit (Value.int IntKind.i64 (Int.ofNat 0))])
              (Tr.node (AV.lit (Value.bool true)) (Tr.node (AV.sl 37 0 1 1 true) Tr.nil Tr.nil) Tr.nil) (Tr.node (AV.lit (Value.bool true)) Tr.nil Tr.nil))))
        (Tr.node (AV.lit (Value.int IntKind.i64 (Int.ofNat 0)))
          (Tr.node (AV.tup [AV.sl 4 0 4 3 false, AV.lit (Value.int IntKind.i64 (Int.ofNat 0))])
            (Tr.node (AV.tup [AV.sl 15 0 4 6 false, AV.lit (Value.int IntKind.i64 (Int.ofNat 0))])
              (Tr.node (AV.ptr 4 3) (Tr.node (AV.lit (Value.bool true)) Tr.nil Tr.nil) Tr.nil) (Tr.node (AV.lit (Value.bool true)) Tr.nil Tr.nil))
            (Tr.node (AV.lit (Value.int IntKind.i64 (Int.ofNat 1)))
              (Tr.node (AV.lit (Value.bool true)) (Tr.node (AV.lit (Value.bool true)) Tr.nil Tr.nil) Tr.nil)
              (Tr.node (AV.agg [AV.lit (Value.int IntKind.i64 (Int.ofNat 2)), AV.lit (Value.int IntKind.i64 (Int.ofNat 3))]) Tr.nil Tr.nil)))
          (Tr.node (AV.tup [AV.lit (Value.int IntKind.i64 (Int.ofNat 3)), AV.sl 11 0 2 1 false, AV.lit (Value.int IntKind.i64 (Int.ofNat 0))])
            (Tr.node (AV.tup [AV.sl 24 0 1 1 false, AV.lit (Value.int IntKind.i64 (Int.ofNat 0))])
              (Tr.node
                (AV.agg
                  [AV.lit (Value.int IntKind.i64 (Int.ofNat 1)), AV.lit (Value.int IntKind.i64 (Int.ofNat 1)), AV.lit (Value.int IntKind.i64 (Int.ofNat 0))])
                (Tr.node (AV.lit (Value.bool true)) Tr.nil Tr.nil) Tr.nil)
              (Tr.node (AV.lit (Value.bool true)) Tr.nil Tr.nil))
            (Tr.node (AV.lit (Value.bool true)) (Tr.node (AV.lit (Value.bool true)) Tr.nil Tr.nil) (Tr.node (AV.lit (Value.bool true)) Tr.nil Tr.nil))))))
    (Tr.node (AV.lit (Value.int IntKind.i64 (Int.ofNat 0)))
      (Tr.node (AV.lit (Value.int IntKind.i64 (Int.ofNat 0)))
        (Tr.node (AV.sl 15 0 4 6 false)
          (Tr.node (AV.sl 31 0 1 1 false)
            (Tr.node (AV.lit (Value.int IntKind.i64 (Int.ofNat 3)))
              (Tr.node (AV.lit (Value.int IntKind.i64 (Int.ofNat 4))) (Tr.node (AV.lit (Value.bool true)) Tr.nil Tr.nil) Tr.nil)
              (Tr.node (AV.lit (Value.bool true)) Tr.nil Tr.nil))
            (Tr.node (AV.sl 24 0 1 1 false) (Tr.node (AV.lit (Value.bool true)) (Tr.node (AV.lit (Value.int IntKind.i64 (Int.ofNat 1))) Tr.nil Tr.nil) Tr.nil)
              (Tr.node (AV.sl 15 0 4 6 false) Tr.nil Tr.nil)))
          (Tr.node (AV.tup [AV.lit (Value.int IntKind.i64 (Int.ofNat 3)), AV.lit (Value.int IntKind.i64 (Int.ofNat 0))])
            (Tr.node (AV.tup [AV.sl 20 0 1 1 false, AV.lit (Value.int IntKind.i64 (Int.ofNat 0))])
              (Tr.node (AV.lit (Value.bool true)) (Tr.node (AV.sl 36 0 1 1 true) Tr.nil Tr.nil) Tr.nil) (Tr.node (AV.lit (Value.bool true)) Tr.nil Tr.nil))
            (Tr.node (AV.agg [AV.sl 28 0 2 3 true, AV.sl 29 0 4 3 true, AV.sl 30 0 2 4 true])
              (Tr.node (AV.lit (Value.bool true)) (Tr.node (AV.sl 31 0 1 1 false) Tr.nil Tr.nil) Tr.nil) (Tr.node (AV.lit (Value.bool true)) Tr.nil Tr.nil))))
        (Tr.node (AV.sl 24 0 1 1 false)
          (Tr.node (AV.sl 3 0 2 1 true)
            (Tr.node (AV.agg [AV.sl 12 0 2 3 true, AV.sl 13 0 4 3 true, AV.sl 14 0 1 4 false])
              (Tr.node (AV.sl 4 0 4 3 false) (Tr.node (AV.lit (Value.bool true)) Tr.nil Tr.nil) Tr.nil) (Tr.node (AV.lit (Value.bool true)) Tr.nil Tr.nil))
            (Tr.node (AV.tup [AV.lit (Value.int IntKind.i64 (Int.ofNat 1)), AV.lit (Value.int IntKind.i64 (Int.ofNat 0))])
              (Tr.node (AV.lit (Value.bool true)) (Tr.node (AV.lit (Value.int IntKind.i64 (Int.ofNat 0))) Tr.nil Tr.nil) Tr.nil)
              (Tr.node (AV.agg [AV.lit (Value.int IntKind.i64 (Int.ofNat 2)), AV.lit (Value.int IntKind.i64 (Int.ofNat 2))]) Tr.nil Tr.nil)))
          (Tr.node (AV.lit (Value.int IntKind.i64 (Int.ofNat 0)))
            (Tr.node (AV.lit (Value.int IntKind.i64 (Int.ofNat 0)))
              (Tr.node (AV.ptr 4 9) (Tr.node (AV.lit (Value.int IntKind.i64 (Int.ofNat 0))) Tr.nil Tr.nil) Tr.nil)
              (Tr.node (AV.lit (Value.int IntKind.i64 (Int.ofNat 4))) Tr.nil Tr.nil))
            (Tr.node (AV.lit (Value.int IntKind.i64 (Int.ofNat 0))) (Tr.node (AV.lit (Value.bool true)) Tr.nil Tr.nil)
              (Tr.node (AV.lit (Value.bool true)) Tr.nil Tr.nil)))))
      (Tr.node (AV.sl 11 0 2 1 false)
        (Tr.node (AV.sl 20 0 1 1 false)
          (Tr.node (AV.tup [AV.sl 4 0 4 3 false, AV.lit (Value.int IntKind.i64 (Int.ofNat 0))])
            (Tr.node (AV.lit (Value.int IntKind.i64 (Int.ofNat 0)))
              (Tr.node (AV.lit (Value.bool true)) (Tr.node (AV.lit (Value.bool true)) Tr.nil Tr.nil) Tr.nil)
              (Tr.node (AV.agg [AV.sl 32 0 2 3 true, AV.sl 33 0 4 3 true, AV.sl 34 0 0 4 false]) Tr.nil Tr.nil))
            (Tr.node (AV.tup [AV.lit (Value.int IntKind.i64 (Int.ofNat 1)), AV.lit (Value.int IntKind.i64 (Int.ofNat 0))])
              (Tr.node (AV.lit (Value.int IntKind.i64 (Int.ofNat 0))) (Tr.node (AV.lit (Value.bool true)) Tr.nil Tr.nil) Tr.nil)
              (Tr.node
                (AV.agg
                  [AV.lit (Value.int IntKind.i64 (Int.ofNat 4)), AV.lit (Value.int IntKind.i64 (Int.ofNat 5)), AV.lit (Value.int IntKind.i64 (Int.ofNat 2)),
                    AV.lit (Value.int IntKind.i64 (Int.ofNat 2)), AV.lit (Value.int IntKind.i64 (Int.ofNat 2)), AV.lit (Value.int IntKind.i64 (Int.ofNat 3))])
                Tr.nil Tr.nil)))
          (Tr.node (AV.tup [AV.lit (Value.int IntKind.i64 (Int.ofNat 3)), AV.lit (Value.int IntKind.i64 (Int.ofNat 0))])
            (Tr.node (AV.tup [AV.sl 20 0 1 1 false, AV.lit (Value.int IntKind.i64 (Int.ofNat 0))])
              (Tr.node (AV.lit (Value.bool true)) (Tr.node (AV.lit (Value.bool true)) Tr.nil Tr.nil) Tr.nil) (Tr.node (AV.lit (Value.bool true)) Tr.nil Tr.nil))
            (Tr.node (AV.sl 31 0 1 1 false) (Tr.node (AV.lit (Value.int IntKind.i64 (Int.ofNat 0))) (Tr.node (AV.lit (Value.bool true)) Tr.nil Tr.nil) Tr.nil)
              (Tr.node (AV.lit (Value.int IntKind.i64 (Int.ofNat 0))) Tr.nil Tr.nil))))
        (Tr.node (AV.lit (Value.int IntKind.i64 (Int.ofNat 1)))
          (Tr.node (AV.sl 4 0 4 3 false)
            (Tr.node (AV.sl 15 0 4 6 false)
              (Tr.node
                (AV.agg
                  [AV.lit (Value.int IntKind.i64 (Int.ofNat 5)), AV.lit (Value.int IntKind.i64 (Int.ofNat 4)), AV.lit (Value.int IntKind.i64 (Int.ofNat 1))])
                (Tr.node (AV.lit (Value.bool true)) Tr.nil Tr.nil) Tr.nil)
              (Tr.node (AV.lit (Value.bool true)) Tr.nil Tr.nil))
            (Tr.node (AV.lit (Value.int IntKind.i64 (Int.ofNat 0)))
              (Tr.node (AV.lit (Value.int IntKind.i64 (Int.ofNat 3))) (Tr.node (AV.lit (Value.bool true)) Tr.nil Tr.nil) Tr.nil)
              (Tr.node
                (AV.agg
                  [AV.lit (Value.int IntKind.i64 (Int.ofNat 4)), AV.lit (Value.int IntKind.i64 (Int.ofNat 5)), AV.lit (Value.int IntKind.i64 (Int.ofNat 2)),
                    AV.lit (Value.int IntKind.i64 (Int.ofNat 2)), AV.lit (Value.int IntKind.i64 (Int.ofNat 2)), AV.lit (Value.int IntKind.i64 (Int.ofNat 3))])
                Tr.nil Tr.nil)))
          (Tr.node (AV.agg [AV.sl 8 0 2 3 true, AV.sl 9 0 4 3 true, AV.sl 10 0 0 4 false])
            (Tr.node (AV.agg [AV.sl 21 0 2 3 true, AV.sl 22 0 4 3 true, AV.sl 23 0 1 4 false])
              (Tr.node
                (AV.agg
                  [AV.lit (Value.int IntKind.i64 (Int.ofNat 1)), AV.lit (Value.int IntKind.i64 (Int.ofNat 1)), AV.lit (Value.int IntKind.i64 (Int.ofNat 0))])
                (Tr.node (AV.lit (Value.bool true)) Tr.nil Tr.nil) Tr.nil)
              (Tr.node (AV.lit (Value.bool true)) Tr.nil Tr.nil))
            (Tr.node (AV.lit (Value.bool true)) (Tr.node (AV.lit (Value.int IntKind.i64 (Int.ofNat 3))) Tr.nil Tr.nil)
              (Tr.node (AV.sl 20 0 1 1 false) Tr.nil Tr.nil)))))))
  156 []

def awS10 : St :=
  St.mk
  [(37, AObj.cells none false [AV.lit (Value.int IntKind.i64 (Int.ofNat 1))]), (36, AObj.cells none false [AV.lit (Value.int IntKind.i64 (Int.ofNat 2))]),
    (35, AObj.cells none false [AV.lit (Value.int IntKind.i64 (Int.ofNat 1))]),
    (32,
      AObj.cells none false
        [AV.lit (Value.int IntKind.i64 (Int.ofNat 0)), AV.lit (Value.int IntKind.i64 (Int.ofNat 4)), AV.lit (Value.int IntKind.i64 (Int.ofNat 5)),
          AV.lit (Value.int IntKind.i64 (Int.ofNat 1)), AV.lit (Value.int IntKind.i64 (Int.ofNat 5)), AV.lit (Value.int IntKind.i64 (Int.ofNat 6))]),
    (33,
      AObj.cells none false
        [AV.lit (Value.int IntKind.i64 (Int.ofNat 2)), AV.lit (Value.int IntKind.i64 (Int.ofNat 2)), AV.lit (Value.int IntKind.i64 (Int.ofNat 2)),
          AV.lit (Value.int IntKind.i64 (Int.ofNat 3)), AV.lit (Value.int IntKind.i64 (Int.ofNat 4)), AV.lit (Value.int IntKind.i64 (Int.ofNat 2)),
          AV.lit (Value.int IntKind.i64 (Int.ofNat 2)), AV.lit (Value.int IntKind.i64 (Int.ofNat 2)), AV.lit (Value.int IntKind.i64 (Int.ofNat 3)),
          AV.lit (Value.int IntKind.i64 (Int.ofNat 3)), AV.lit (Value.int IntKind.i64 (Int.ofNat 3)), AV.lit (Value.int IntKind.i64 (Int.negSucc 0))]),
    (34,
      AObj.cells none false
        [AV.lit (Value.int IntKind.i64 (Int.ofNat 0)), AV.lit (Value.bool true), AV.lit (Value.int IntKind.i64 (Int.ofNat 3)),
          AV.lit (Value.int IntKind.i64 (Int.ofNat 9)), AV.lit (Value.int IntKind.i64 (Int.ofNat 3)), AV.lit (Value.bool true),
          AV.lit (Value.int IntKind.i64 (Int.ofNat 1)), AV.lit (Value.int IntKind.i64 (Int.ofNat 5))]),
    (31, AObj.cells none false [AV.lit (Value.int IntKind.i64 (Int.ofNat 1))]),
    (28,
      AObj.cells none false
        [AV.lit (Value.int IntKind.i64 (Int.ofNat 0)), AV.lit (Value.int IntKind.i64 (Int.ofNat 4)), AV.lit (Value.int IntKind.i64 (Int.ofNat 5)),
          AV.lit (Value.int IntKind.i64 (Int.ofNat 1)), AV.lit (Value.int IntKind.i64 (Int.ofNat 5)), AV.lit (Value.int IntKind.i64 (Int.ofNat 6))]),
    (29,
      AObj.cells none false
        [AV.lit (Value.int IntKind.i64 (Int.ofNat 2)), AV.lit (Value.int IntKind.i64 (Int.ofNat 2)), AV.lit (Value.int IntKind.i64 (Int.ofNat 2)),
          AV.lit (Value.int IntKind.i64 (Int.ofNat 3)), AV.lit (Value.int IntKind.i64 (Int.ofNat 4)), AV.lit (Value.int IntKind.i64 (Int.ofNat 2)),
          AV.lit (Value.int IntKind.i64 (Int.ofNat 2)), AV.lit (Value.int IntKind.i64 (Int.ofNat 2)), AV.lit (Value.int IntKind.i64 (Int.ofNat 3)),
          AV.lit (Value.int IntKind.i64 (Int.ofNat 3)), AV.lit (Value.int IntKind.i64 (Int.ofNat 3)), AV.lit (Value.int IntKind.i64 (Int.negSucc 0))]),
    (30,
      AObj.cells none false
        [AV.lit (Value.int IntKind.i64 (Int.ofNat 0)), AV.lit (Value.bool true), AV.lit (Value.int IntKind.i64 (Int.ofNat 3)),
          AV.lit (Value.int IntKind.i64 (Int.ofNat 9)), AV.lit (Value.int IntKind.i64 (Int.ofNat 3)), AV.lit (Value.bool true),
          AV.lit (Value.int IntKind.i64 (Int.ofNat 1)), AV.lit (Value.int IntKind.i64 (Int.ofNat 5))]),
    (25,
      AObj.cells none false
        [AV.lit (Value.int IntKind.i64 (Int.ofNat 0)), AV.lit (Value.int IntKind.i64 (Int.ofNat 4)), AV.lit (Value.int IntKind.i64 (Int.ofNat 5)),
          AV.lit (Value.int IntKind.i64 (Int.ofNat 1)), AV.lit (Value.int IntKind.i64 (Int.ofNat 5)), AV.lit (Value.int IntKind.i64 (Int.ofNat 6))]),
    (26,
      AObj.cells none false
        [AV.lit (Value.int IntKind.i64 (Int.ofNat 2)), AV.lit (Value.int IntKind.i64 (Int.ofNat 2)), AV.lit (Value.int IntKind.i64 (Int.ofNat 2)),
          AV.lit (Value.int IntKind.i64 (Int.ofNat 3)), AV.lit (Value.int IntKind.i64 (Int.ofNat 4)), AV.lit (Value.int IntKind.i64 (Int.ofNat 2)),
          AV.lit (Value.int IntKind.i64 (Int.ofNat 2)), AV.lit (Value.int IntKind.i64 (Int.ofNat 2)), AV.lit (Value.int IntKind.i64 (Int.ofNat 3)),
          AV.lit (Value.int IntKind.i64 (Int.ofNat 3)), AV.lit (Value.int IntKind.i64 (Int.ofNat 3)), AV.lit (Value.int IntKind.i64 (Int.negSucc 0))]),
    (27,
      AObj.cells none false
        [AV.lit (Value.int IntKind.i64 (Int.ofNat 0)), AV.lit (Value.bool true), AV.lit (Value.int IntKind.i64 (Int.ofNat 3)),
          AV.lit (Value.int IntKind.i64 (Int.ofNat 9)), AV.lit (Value.int IntKind.i64 (Int.ofNat 3)), AV.lit (Value.bool true),
          AV.lit (Value.int IntKind.i64 (Int.ofNat 1)), AV.lit (Value.int IntKind.i64 (Int.ofNat 5))]),
    (24, AObj.cells none false [AV.lit (Value.int IntKind.i64 (Int.ofNat 2))]),
    (21,
      AObj.cells none false
        [AV.lit (Value.int IntKind.i64 (Int.ofNat 0)), AV.lit (Value.int IntKind.i64 (Int.ofNat 4)), AV.lit (Value.int IntKind.i64 (Int.ofNat 5)),
          AV.lit (Value.int IntKind.i64 (Int.ofNat 1)), AV.lit (Value.int IntKind.i64 (Int.ofNat 5)), AV.lit (Value.int IntKind.i64 (Int.ofNat 6))]),
    (22,
      AObj.cells none false
        [AV.lit (Value.int IntKind.i64 (Int.ofNat 2)), AV.lit (Value.int IntKind.i64 (Int.ofNat 2)), AV.lit (Value.int IntKind.i64 (Int.ofNat 2)),
          AV.lit (Value.int IntKind.i64 (Int.ofNat 3)), AV.lit (Value.int IntKind.i64 (Int.ofNat 4)), AV.lit (Value.int IntKind.i64 (Int.ofNat 2)),
          AV.lit (Value.int IntKind.i64 (Int.ofNat 2)), AV.lit (Value.int IntKind.i64 (Int.ofNat 2)), AV.lit (Value.int IntKind.i64 (Int.ofNat 3)),
          AV.lit (Value.int IntKind.i64 (Int.ofNat 3)), AV.lit (Value.int IntKind.i64 (Int.ofNat 3)), AV.lit (Value.int IntKind.i64 (Int.negSucc 0))]),
    (23,
      AObj.cells none false
        [AV.lit (Value.int IntKind.i64 (Int.ofNat 0)), AV.lit (Value.bool true), AV.lit (Value.int IntKind.i64 (Int.ofNat 3)),
          AV.lit (Value.int IntKind.i64 (Int.ofNat 9)), AV.lit (Value.int IntKind.i64 (Int.ofNat 3)), AV.lit (Value.bool true),
          AV.lit (Value.int IntKind.i64 (Int.ofNat 1)), AV.lit (Value.int IntKind.i64 (Int.ofNat 5))]),
    (20, AObj.cells none false [AV.lit (Value.int IntKind.i64 (Int.ofNat 1))]),
    (17,
      AObj.cells none false
        [AV.lit (Value.int IntKind.i64 (Int.ofNat 0)), AV.lit (Value.int IntKind.i64 (Int.ofNat 4)), AV.lit (Value.int IntKind.i64 (Int.ofNat 5)),
          AV.lit (Value.int IntKind.i64 (Int.ofNat 1)), AV.lit (Value.int IntKind.i64 (Int.ofNat 5)), AV.lit (Value.int IntKind.i64 (Int.ofNat 6))]),
    (18,
      AObj.cells none false
        [AV.lit (Value.int IntKind.i64 (Int.ofNat 2)), AV.lit (Value.int IntKind.i64 (Int.ofNat 2)), AV.lit (Value.int IntKind.i64 (Int.ofNat 2)),
          AV.lit (Value.int IntKind.i64 (Int.ofNat 3)), AV.lit (Value.int IntKind.i64 (Int.ofNat 4)), AV.lit (Value.int IntKind.i64 (Int.ofNat 2)),
          AV.lit (Value.int IntKind.i64 (Int.ofNat 2)), AV.lit (Value.int IntKind.i64 (Int.ofNat 2)), AV.lit (Value.int IntKind.i64 (Int.ofNat 3)),
          AV.lit (Value.int IntKind.i64 (Int.ofNat 3)), AV.lit (Value.int IntKind.i64 (Int.ofNat 3)), AV.lit (Value.int IntKind.i64 (Int.negSucc 0))]),
    (19,
      AObj.cells none false
        [AV.lit (Value.int IntKind.i64 (Int.ofNat 0)), AV.lit (Value.bool true), AV.lit (Value.int IntKind.i64 (Int.ofNat 3)),
          AV.lit (Value.int IntKind.i64 (Int.ofNat 9)), AV.lit (Value.int IntKind.i64 (Int.ofNat 3)), AV.lit (Value.bool true),
          AV.lit (Value.int IntKind.i64 (Int.ofNat 1)), AV.lit (Value.int IntKind.i64 (Int.ofNat 5))]),
    (15,
      AObj.cells (some 16) false
        [AV.lit (Value.int IntKind.i64 (Int.ofNat 5)), AV.lit (Value.int IntKind.i64 (Int.ofNat 5)), AV.lit (Value.int IntKind.i64 (Int.ofNat 2)),
          AV.lit (Value.int IntKind.i64 (Int.ofNat 2)), AV.lit (Value.int IntKind.i64 (Int.ofNat 3)), AV.lit (Value.int IntKind.i64 (Int.ofNat 3)),
          AV.lit (Value.int IntKind.i64 (Int.ofNat 5)), AV.lit (Value.int IntKind.i64 (Int.ofNat 6)), AV.lit (Value.int IntKind.i64 (Int.ofNat 4)),
          AV.lit (Value.int IntKind.i64 (Int.ofNat 4)), AV.lit (Value.int IntKind.i64 (Int.ofNat 1)), AV.lit (Value.int IntKind.i64 (Int.ofNat 2)),
          AV.lit (Value.int IntKind.i64 (Int.ofNat 4)), AV.lit (Value.int IntKind.i64 (Int.ofNat 5)), AV.lit (Value.int IntKind.i64 (Int.ofNat 2)),
          AV.lit (Value.int IntKind.i64 (Int.ofNat 2)), AV.lit (Value.int IntKind.i64 (Int.ofNat 2)), AV.lit (Value.int IntKind.i64 (Int.ofNat 3)),
          AV.lit (Value.int IntKind.i64 (Int.ofNat 2)), AV.lit (Value.int IntKind.i64 (Int.ofNat 3)), AV.lit (Value.int IntKind.i64 (Int.ofNat 2)),
          AV.lit (Value.int IntKind.i64 (Int.ofNat 3)), AV.lit (Value.int IntKind.i64 (Int.ofNat 0)), AV.lit (Value.int IntKind.i64 (Int.ofNat 0))]),
    (16,
      AObj.cells (some 16) false
        [AV.lit (Value.int IntKind.i64 (Int.ofNat 5)), AV.lit (Value.int IntKind.i64 (Int.ofNat 5)), AV.lit (Value.int IntKind.i64 (Int.ofNat 2)),
          AV.lit (Value.int IntKind.i64 (Int.ofNat 2)), AV.lit (Value.int IntKind.i64 (Int.ofNat 3)), AV.lit (Value.int IntKind.i64 (Int.ofNat 3))]),
    (12,
      AObj.cells none false
        [AV.lit (Value.int IntKind.i64 (Int.ofNat 0)), AV.lit (Value.int IntKind.i64 (Int.ofNat 4)), AV.lit (Value.int IntKind.i64 (Int.ofNat 5)),
          AV.lit (Value.int IntKind.i64 (Int.ofNat 1)), AV.lit (Value.int IntKind.i64 (Int.ofNat 5)), AV.lit (Value.int IntKind.i64 (Int.ofNat 6))]),
    (13,
      AObj.cells none false
        [AV.lit (Value.int IntKind.i64 (Int.ofNat 2)), AV.lit (Value.int IntKind.i64 (Int.ofNat 2)), AV.lit (Value.int IntKind.i64 (Int.ofNat 2)),
          AV.lit (Value.int IntKind.i64 (Int.ofNat 3)), AV.lit (Value.int IntKind.i64 (Int.ofNat 4)), AV.lit (Value.int IntKind.i64 (Int.ofNat 2)),
          AV.lit (Value.int IntKind.i64 (Int.ofNat 2)), AV.lit (Value.int IntKind.i64 (Int.ofNat 2)), AV.lit (Value.int IntKind.i64 (Int.ofNat 3)),
          AV.lit (Value.int IntKind.i64 (Int.ofNat 3)), AV.lit (Value.int IntKind.i64 (Int.ofNat 3)), AV.lit (Value.int IntKind.i64 (Int.negSucc 0))]),
    (14,
      AObj.cells none false
        [AV.lit (Value.int IntKind.i64 (Int.ofNat 0)), AV.lit (Value.bool true), AV.lit (Value.int IntKind.i64 (Int.ofNat 3)),
          AV.lit (Value.int IntKind.i64 (Int.ofNat 9)), AV.lit (Value.int IntKind.i64 (Int.ofNat 3)), AV.lit (Value.bool true),
          AV.lit (Value.int IntKind.i64 (Int.ofNat 1)), AV.lit (Value.int IntKind.i64 (Int.ofNat 5))]),
    (11, AObj.cells none false [AV.lit (Value.int IntKind.i64 (Int.ofNat 4)), AV.lit (Value.int IntKind.i64 (Int.ofNat 5))]),
    (8,
      AObj.cells none false
        [AV.lit (Value.int IntKind.i64 (Int.ofNat 0)), AV.lit (Value.int IntKind.i64 (Int.ofNat 4)), AV.lit (Value.int IntKind.i64 (Int.ofNat 5)),
          AV.lit (Value.int IntKind.i64 (Int.ofNat 1)), AV.lit (Value.int IntKind.i64 (Int.ofNat 5)), AV.lit (Value.int IntKind.i64 (Int.ofNat 6))]),
    (9,
      AObj.cells none false
        [AV.lit (Value.int IntKind.i64 (Int.ofNat 2)), AV.lit (Value.int IntKind.i64 (Int.ofNat 2)), AV.lit (Value.int IntKind.i64 (Int.ofNat 2)),
          AV.lit (Value.int IntKind.i64 (Int.ofNat 3)), AV.lit (Value.int IntKind.i64 (Int.ofNat 4)), AV.lit (Value.int IntKind.i64 (Int.ofNat 2)),
          AV.lit (Value.int IntKind.i64 (Int.ofNat 2)), AV.lit (Value.int IntKind.i64 (Int.ofNat 2)), AV.lit (Value.int IntKind.i64 (Int.ofNat 3)),
          AV.lit (Value.int IntKind.i64 (Int.ofNat 3)), AV.lit (Value.int IntKind.i64 (Int.ofNat 3)), AV.lit (Value.int IntKind.i64 (Int.negSucc 0))]),
    (10,
      AObj.cells none false
        [AV.lit (Value.int IntKind.i64 (Int.ofNat 0)), AV.lit (Value.bool true), AV.lit (Value.int IntKind.i64 (Int.ofNat 3)),
          AV.lit (Value.int IntKind.i64 (Int.ofNat 9)), AV.lit (Value.int IntKind.i64 (Int.ofNat 3)), AV.lit (Value.bool true),
          AV.lit (Value.int IntKind.i64 (Int.ofNat 1)), AV.lit (Value.int IntKind.i64 (Int.ofNat 5))]),
    (5,
      AObj.cells none false
        [AV.lit (Value.int IntKind.i64 (Int.ofNat 0)), AV.lit (Value.int IntKind.i64 (Int.ofNat 4)), AV.lit (Value.int IntKind.i64 (Int.ofNat 5)),
          AV.lit (Value.int IntKind.i64 (Int.ofNat 1)), AV.lit (Value.int IntKind.i64 (Int.ofNat 5)), AV.lit (Value.int IntKind.i64 (Int.ofNat 6))]),
    (6,
      AObj.cells none false
        [AV.lit (Value.int IntKind.i64 (Int.ofNat 2)), AV.lit (Value.int IntKind.i64 (Int.ofNat 2)), AV.lit (Value.int IntKind.i64 (Int.ofNat 2)),
          AV.lit (Value.int IntKind.i64 (Int.ofNat 3)), AV.lit (Value.int IntKind.i64 (Int.ofNat 4)), AV.lit (Value.int IntKind.i64 (Int.ofNat 2)),
          AV.lit (Value.int IntKind.i64 (Int.ofNat 2)), AV.lit (Value.int IntKind.i64 (Int.ofNat 2)), AV.lit (Value.int IntKind.i64 (Int.ofNat 3)),
          AV.lit (Value.int IntKind.i64 (Int.ofNat 3)), AV.lit (Value.int IntKind.i64 (Int.ofNat 3)), AV.lit (Value.int IntKind.i64 (Int.negSucc 0))]),
    (7,
      AObj.cells none false
        [AV.lit (Value.int IntKind.i64 (Int.ofNat 0)), AV.lit (Value.bool true), AV.lit (Value.int IntKind.i64 (Int.ofNat 3)),
          AV.lit (Value.int IntKind.i64 (Int.ofNat 9)), AV.lit (Value.int IntKind.i64 (Int.ofNat 3)), AV.lit (Value.bool true),
          AV.lit (Value.int IntKind.i64 (Int.ofNat 1)), AV.lit (Value.int IntKind.i64 (Int.ofNat 5))]),
    (4,
      AObj.cells none false
        [AV.lit (Value.int IntKind.i64 (Int.ofNat 4)), AV.lit (Value.int IntKind.i64 (Int.ofNat 2)), AV.lit (Value.int IntKind.i64 (Int.ofNat 2)),
          AV.lit (Value.int IntKind.i64 (Int.ofNat 5)), AV.lit (Value.int IntKind.i64 (Int.ofNat 4)), AV.lit (Value.int IntKind.i64 (Int.ofNat 1)),
          AV.lit (Value.int IntKind.i64 (Int.ofNat 3)), AV.lit (Value.int IntKind.i64 (Int.ofNat 2)), AV.lit (Value.int IntKind.i64 (Int.ofNat 1)),
          AV.lit (Value.int IntKind.i64 (Int.ofNat 1)), AV.lit (Value.int IntKind.i64 (Int.ofNat 1)), AV.lit (Value.int IntKind.i64 (Int.ofNat 0))]),
    (3, AObj.cells none false [AV.lit (Value.int IntKind.i64 (Int.ofNat 4)), AV.lit (Value.int IntKind.i64 (Int.ofNat 5))]),
    (0,
      AObj.cells none false
        [AV.lit (Value.int IntKind.i64 (Int.ofNat 0)), AV.lit (Value.int IntKind.i64 (Int.ofNat 4)), AV.lit (Value.int IntKind.i64 (Int.ofNat 5)),
          AV.lit (Value.int IntKind.i64 (Int.ofNat 1)), AV.lit (Value.int IntKind.i64 (Int.ofNat 5)), AV.lit (Value.int IntKind.i64 (Int.ofNat 6))]),
    (1,
      AObj.cells none false
        [AV.lit (Value.int IntKind.i64 (Int.ofNat 2)), AV.lit (Value.int IntKind.i64 (Int.ofNat 2)), AV.lit (Value.int IntKind.i64 (Int.ofNat 2)),
          AV.lit (Value.int IntKind.i64 (Int.ofNat 3)), AV.lit (Value.int IntKind.i64 (Int.ofNat 4)), AV.lit (Value.int IntKind.i64 (Int.ofNat 2)),
          AV.lit (Value.int IntKind.i64 (Int.ofNat 2)), AV.lit (Value.int IntKind.i64 (Int.ofNat 2)), AV.lit (Value.int IntKind.i64 (Int.ofNat 3)),
          AV.lit (Value.int IntKind.i64 (Int.ofNat 3)), AV.lit (Value.int IntKind.i64 (Int.ofNat 3)), AV.lit (Value.int IntKind.i64 (Int.negSucc 0))]),
    (2,
      AObj.cells none false
        [AV.lit (Value.int IntKind.i64 (Int.ofNat 0)), AV.lit (Value.bool true), AV.lit (Value.int IntKind.i64 (Int.ofNat 3)),
          AV.lit (Value.int IntKind.i64 (Int.ofNat 9)), AV.lit (Value.int IntKind.i64 (Int.ofNat 3)), AV.lit (Value.bool true),
          AV.lit (Value.int IntKind.i64 (Int.ofNat 1)), AV.lit (Value.int IntKind.i64 (Int.ofNat 5))])]
  38

def awF11 : TF :=
  TF.mk
  (Tr.node (AV.lit (Value.bool true))
    (Tr.node (AV.sl 4 0 4 3 false)
      (Tr.node (AV.lit (Value.int IntKind.i64 (Int.ofNat 3)))
        (Tr.node (AV.lit (Value.int IntKind.i64 (Int.ofNat 0)))
          (Tr.node (AV.lit (Value.int IntKind.i64 (Int.ofNat 0)))
            (Tr.node (AV.tup [AV.lit (Value.int IntKind.i64 (Int.ofNat 3)), AV.sl 11 0 2 1 false, AV.lit (Value.int IntKind.i64 (Int.ofNat 0))])
              (Tr.node (AV.sl 4 0 4 3 false) (Tr.node (AV.sl 35 0 1 1 true) Tr.nil Tr.nil) Tr.nil) (Tr.node (AV.lit (Value.bool true)) Tr.nil Tr.nil))
            (Tr.node (AV.tup [AV.sl 24 0 1 1 false, AV.lit (Value.int IntKind.i64 (Int.ofNat 0))])
              (Tr.node (AV.lit (Value.bool true)) (Tr.node (AV.lit (Value.bool true)) Tr.nil Tr.nil) Tr.nil)
              (Tr.node (AV.lit (Value.bool true)) Tr.nil Tr.nil)))
          (Tr.node (AV.lit (Value.int IntKind.i64 (Int.ofNat 0)))
            (Tr.node (AV.lit (Value.int IntKind.i64 (Int.ofNat 0)))
              (Tr.node
                (AV.agg
                  [AV.lit (Value.int IntKind.i64 (Int.ofNat 5)), AV.lit (Value.int IntKind.i64 (Int.ofNat 4)), AV.lit (Value.int IntKind.i64 (Int.ofNat 1))])
                (Tr.node (AV.sl 24 0 1 1 false) Tr.nil Tr.nil) Tr.nil)
              (Tr.node (AV.lit (Value.int IntKind.i64 (Int.ofNat 0))) Tr.nil Tr.nil))
            (Tr.node (AV.tup [AV.sl 31 0 1 1 false, AV.lit (Value.int IntKind.i64 (Int.ofNat 0))])
              (Tr.node (AV.lit (Value.bool true)) (Tr.node (AV.lit (Value.bool true)) Tr.nil Tr.nil) Tr.nil)
              (Tr.node (AV.lit (Value.bool true)) Tr.nil Tr.nil))))
        (Tr.node (AV.lit (Value.int IntKind.i64 (Int.ofNat 0)))
          (Tr.node (AV.agg [AV.sl 0 0 2 3 true, AV.sl 1 0 4 3 true, AV.sl 2 0 0 4 false])
            (Tr.node (AV.tup [AV.sl 15 0 4 6 false, AV.lit (Value.int IntKind.i64 (Int.ofNat 0))])
              (Tr.node (AV.lit (Value.bool true)) (Tr.node (AV.lit (Value.int IntKind.i64 (Int.ofNat 0))) Tr.nil Tr.nil) Tr.nil)
              (Tr.node (AV.sl 11 0 2 1 false) Tr.nil Tr.nil))
            (Tr.node (AV.agg [AV.sl 25 0 2 3 true, AV.sl 26 0 4 3 true, AV.sl 27 0 2 4 true])
              (Tr.node (AV.lit (Value.bool true)) (Tr.node (AV.lit (Value.bool true)) Tr.nil Tr.nil) Tr.nil)
              (Tr.node (AV.agg [AV.lit (Value.int IntKind.i64 (Int.ofNat 4)), AV.lit (Value.int IntKind.i64 (Int.ofNat 5))]) Tr.nil Tr.nil)))
          (Tr.node (AV.lit (Value.int IntKind.i64 (Int.ofNat 3)))
            (Tr.node (AV.sl 20 0 1 1 false) (Tr.node (AV.sl 4 0 4 3 false) (Tr.node (AV.lit (Value.bool true)) Tr.nil Tr.nil) Tr.nil)
              (Tr.node (AV.sl 15 0 4 6 false) Tr.nil Tr.nil))
            (Tr.node (AV.lit (Value.int IntKind.i64 (Int.ofNat 0)))
              (Tr.node (AV.lit (Value.bool true)) (Tr.node (AV.lit (Value.bool true)) Tr.nil Tr.nil) Tr.nil)
              (Tr.node (AV.lit (Value.bool true)) Tr.nil Tr.nil)))))
      (Tr.node (AV.lit (Value.int IntKind.i64 (Int.ofNat 3)))
        (Tr.node (AV.lit (Value.int IntKind.i64 (Int.ofNat 0)))
          (Tr.node (AV.lit (Value.int IntKind.i64 (Int.ofNat 0)))
            (Tr.node (AV.sl 11 0 2 1 false) (Tr.node (AV.lit (Value.bool true)) (Tr.node (AV.lit (Value.bool true)) Tr.nil Tr.nil) Tr.nil)
              (Tr.node (AV.lit (Value.bool true)) Tr.nil Tr.nil))
            (Tr.node (AV.lit (Value.int IntKind.i64 (Int.ofNat 0)))
              (Tr.node (AV.lit (Value.bool true)) (Tr.node (AV.lit (Value.bool true)) Tr.nil Tr.nil) Tr.nil) (Tr.node (AV.ptr 15 12) Tr.nil Tr.nil)))
          (Tr.node (AV.agg [AV.sl 5 0 2 3 true, AV.sl 6 0 4 3 true, AV.sl 7 0 0 4 false])
            (Tr.node (AV.agg [AV.sl 17 0 2 3 true, AV.sl 18 0 4 3 true, AV.sl 19 0 1 4 false])
              (Tr.node (AV.lit (Value.bool true)) (Tr.node (AV.lit (Value.bool true)) Tr.nil Tr.nil) Tr.nil) (Tr.node (AV.lit (Value.bool true)) Tr.nil Tr.nil))
            (Tr.node (AV.tup [AV.sl 31 0 1 1 false, AV.lit (Value.int IntKind.i64 (Int.ofNat 0))])
              (Tr.node (AV.lit (Value.bool true)) (Tr.node (AV.sl 37 0 1 1 true) Tr.nil Tr.nil) Tr.nil) (Tr.node (AV.lit (Value.bool true)) Tr.nil Tr.nil))))
        (Tr.node (AV.lit (Value.int IntKind.i64 (Int.ofNat 0)))
          (Tr.node (AV.tup [AV.sl 4 0 4 3 false, AV.lit (Value.int IntKind.i64 (Int.ofNat 0))])
            (Tr.node (AV.tup [AV.sl 15 0 4 6 false, AV.lit (Value.int IntKind.i64 (Int.ofNat 0))])
              (Tr.node (AV.ptr 4 3) (Tr.node (AV.lit (Value.bool true)) Tr.nil Tr.nil) Tr.nil) (Tr.node (AV.lit (Value.bool true)) Tr.nil Tr.nil))
            (Tr.node (AV.lit (Value.int IntKind.i64 (Int.ofNat 1)))
              (Tr.node (AV.lit (Value.bool true)) (Tr.node (AV.lit (Value.bool true)) Tr.nil Tr.nil) Tr.nil)
              (Tr.node (AV.agg [AV.lit (Value.int IntKind.i64 (Int.ofNat 2)), AV.lit (Value.int IntKind.i64 (Int.ofNat 3))]) Tr.nil Tr.nil)))
          (Tr.node (AV.tup [AV.lit (Value.int IntKind.i64 (Int.ofNat 3)), AV.sl 11 0 2 1 false, AV.lit (Value.int IntKind.i64 (Int.ofNat 0))])
            (Tr.node (AV.tup [AV.sl 24 0 1 1 false, AV.lit (Value.int IntKind.i64 (Int.ofNat 0))])
              (Tr.node
                (AV.agg
                  [AV.lit (Value.int IntKind.i64 (Int.ofNat 1)), AV.lit (Value.int IntKind.i64 (Int.ofNat 1)), AV.lit (Value.int IntKind.i64 (Int.ofNat 0))])
                (Tr.node (AV.lit (Value.bool true)) Tr.nil Tr.nil) Tr.nil)
              (Tr.node (AV.lit (Value.bool true)) Tr.nil Tr.nil))
            (Tr.node (AV.lit (Value.bool true)) (Tr.node (AV.lit (Value.bool true)) Tr.nil Tr.nil) (Tr.node (AV.lit (Value.bool true)) Tr.nil Tr.nil))))))
    (Tr.node (AV.lit (Value.int IntKind.i64 (Int.ofNat 0)))
      (Tr.node (AV.lit (Value.int IntKind.i64 (Int.ofNat 0)))
        (Tr.node (AV.sl 15 0 4 6 false)
          (Tr.node (AV.sl 31 0 1 1 false)
            (Tr.node (AV.lit (Value.int IntKind.i64 (Int.ofNat 3)))
              (Tr.node (AV.lit (Value.int IntKind.i64 (Int.ofNat 4))) (Tr.node (AV.lit (Value.bool true)) Tr.nil Tr.nil) Tr.nil)
              (Tr.node (AV.lit (Value.bool true)) Tr.nil Tr.nil))
            (Tr.node (AV.sl 24 0 1 1 false) (Tr.node (AV.lit (Value.bool true)) (Tr.node (AV.lit (Value.int IntKind.i64 (Int.ofNat 1))) Tr.nil Tr.nil) Tr.nil)
              (Tr.node (AV.sl 15 0 4 6 false) Tr.nil Tr.nil)))
          (Tr.node (AV.tup [AV.lit (Value.int IntKind.i64 (Int.ofNat 3)), AV.lit (Value.int IntKind.i64 (Int.ofNat 0))])
            (Tr.node (AV.tup [AV.sl 20 0 1 1 false, AV.lit (Value.int IntKind.i64 (Int.ofNat 0))])
              (Tr.node (AV.lit (Value.bool true)) (Tr.node (AV.sl 36 0 1 1 true) Tr.nil Tr.nil) Tr.nil) (Tr.node (AV.lit (Value.bool true)) Tr.nil Tr.nil))
            (Tr.node (AV.agg [AV.sl 28 0 2 3 true, AV.sl 29 0 4 3 true, AV.sl 30 0 2 4 true])
              (Tr.node (AV.lit (Value.bool true)) (Tr.node (AV.sl 31 0 1 1 false) Tr.nil Tr.nil) Tr.nil) (Tr.node (AV.lit (Value.bool true)) Tr.nil Tr.nil))))
        (Tr.node (AV.sl 24 0 1 1 false)
          (Tr.node (AV.sl 3 0 2 1 true)
            (Tr.node (AV.agg [AV.sl 12 0 2 3 true, AV.sl 13 0 4 3 true, AV.sl 14 0 1 4 false])
              (Tr.node (AV.sl 4 0 4 3 false) (Tr.node (AV.lit (Value.bool true)) Tr.nil Tr.nil) Tr.nil) (Tr.node (AV.lit (Value.bool true)) Tr.nil Tr.nil))
            (Tr.node (AV.tup [AV.lit (Value.int IntKind.i64 (Int.ofNat 1)), AV.lit (Value.int IntKind.i64 (Int.ofNat 0))])
              (Tr.node (AV.lit (Value.bool true)) (Tr.node (AV.lit (Value.int IntKind.i64 (Int.ofNat 0))) Tr.nil Tr.nil) Tr.nil)
              (Tr.node (AV.agg [AV.lit (Value.int IntKind.i64 (Int.ofNat 2)), AV.lit (Value.int IntKind.i64 (Int.ofNat 2))]) Tr.nil Tr.nil)))
          (Tr.node (AV.lit (Value.int IntKind.i64 (Int.ofNat 0)))
            (Tr.node (AV.lit (Value.int IntKind.i64 (Int.ofNat 0)))
              (Tr.node (AV.ptr 4 9) (Tr.node (AV.lit (Value.int IntKind.i64 (Int.ofNat 0))) Tr.nil Tr.nil) Tr.nil)
              (Tr.node (AV.lit (Value.int IntKind.i64 (Int.ofNat 4))) Tr.nil Tr.nil))
            (Tr.node (AV.lit (Value.int IntKind.i64 (Int.ofNat 0))) (Tr.node (AV.lit (Value.bool true)) Tr.nil Tr.nil)
              (Tr.node (AV.lit (Value.bool true)) Tr.nil Tr.nil)))))
      (Tr.node (AV.sl 11 0 2 1 false)
        (Tr.node (AV.sl 20 0 1 1 false)
          (Tr.node (AV.tup [AV.sl 4 0 4 3 false, AV.lit (Value.int IntKind.i64 (Int.ofNat 0))])
            (Tr.node (AV.lit (Value.int IntKind.i64 (Int.ofNat 0)))
              (Tr.node (AV.lit (Value.bool true)) (Tr.node (AV.lit (Value.bool true)) Tr.nil Tr.nil) Tr.nil)
              (Tr.node (AV.agg [AV.sl 32 0 2 3 true, AV.sl 33 0 4 3 true, AV.sl 34 0 0 4 false]) Tr.nil Tr.nil))
            (Tr.node (AV.tup [AV.lit (Value.int IntKind.i64 (Int.ofNat 1)), AV.lit (Value.int IntKind.i64 (Int.ofNat 0))])
              (Tr.node (AV.lit (Value.int IntKind.i64 (Int.ofNat 0))) (Tr.node (AV.lit (Value.bool true)) Tr.nil Tr.nil) Tr.nil)
              (Tr.node
                (AV.agg
                  [AV.lit (Value.int IntKind.i64 (Int.ofNat 4)), AV.lit (Value.int IntKind.i64 (Int.ofNat 5)), AV.lit (Value.int IntKind.i64 (Int.ofNat 2)),
                    AV.lit (Value.int IntKind.i64 (Int.ofNat 2)), AV.lit (Value.int IntKind.i64 (Int.ofNat 2)), AV.lit (Value.int IntKind.i64 (Int.ofNat 3))])
                Tr.nil Tr.nil)))
          (Tr.node (AV.tup [AV.lit (Value.int IntKind.i64 (Int.ofNat 3)), AV.lit (Value.int IntKind.i64 (Int.ofNat 0))])
            (Tr.node (AV.tup [AV.sl 20 0 1 1 false, AV.lit (Value.int IntKind.i64 (Int.ofNat 0))])
              (Tr.node (AV.lit (Value.bool true)) (Tr.node (AV.lit (Value.bool true)) Tr.nil Tr.nil) Tr.nil) (Tr.node (AV.lit (Value.bool true)) Tr.nil Tr.nil))
            (Tr.node (AV.sl 31 0 1 1 false) (Tr.node (AV.lit (Value.int IntKind.i64 (Int.ofNat 0))) (Tr.node (AV.lit (Value.bool true)) Tr.nil Tr.nil) Tr.nil)
              (Tr.node (AV.lit (Value.int IntKind.i64 (Int.ofNat 0))) Tr.nil Tr.nil))))
        (Tr.node (AV.lit (Value.int IntKind.i64 (Int.ofNat 1)))
          (Tr.node (AV.sl 4 0 4 3 false)
            (Tr.node (AV.sl 15 0 4 6 false)
              (Tr.node
                (AV.agg
                  [AV.lit (Value.int IntKind.i64 (Int.ofNat 5)), AV.lit (Value.int IntKind.i64 (Int.ofNat 4)), AV.lit (Value.int IntKind.i64 (Int.ofNat 1))])
                (Tr.node (AV.lit (Value.bool true)) Tr.nil Tr.nil) Tr.nil)
              (Tr.node (AV.lit (Value.bool true)) Tr.nil Tr.nil))
            (Tr.node (AV.lit (Value.int IntKind.i64 (Int.ofNat 0)))
              (Tr.node (AV.lit (Value.int IntKind.i64 (Int.ofNat 3))) (Tr.node (AV.lit (Value.bool true)) Tr.nil Tr.nil) Tr.nil)
              (Tr.node
                (AV.agg
                  [AV.lit (Value.int IntKind.i64 (Int.ofNat 4)), AV.lit (Value.int IntKind.i64 (Int.ofNat 5)), AV.lit (Value.int IntKind.i64 (Int.ofNat 2)),
                    AV.lit (Value.int IntKind.i64 (Int.ofNat 2)), AV.lit (Value.int IntKind.i64 (Int.ofNat 2)), AV.lit (Value.int IntKind.i64 (Int.ofNat 3))])
                Tr.nil Tr.nil)))
          (Tr.node (AV.agg [AV.sl 8 0 2 3 true, AV.sl 9 0 4 3 true, AV.sl 10 0 0 4 false])
            (Tr.node (AV.agg [AV.sl 21 0 2 3 true, AV.sl 22 0 4 3 true, AV.sl 23 0 1 4 false])
              (Tr.node
                (AV.agg
                  [AV.lit (Value.int IntKind.i64 (Int.ofNat 1)), AV.lit (Value.int IntKind.i64 (Int.ofNat 1)), AV.lit (Value.int IntKind.i64 (Int.ofNat 0))])
                (Tr.node (AV.lit (Value.bool true)) Tr.nil Tr.nil) Tr.nil)
              (Tr.node (AV.lit (Value.bool true)) Tr.nil Tr.nil))
            (Tr.node (AV.lit (Value.bool true)) (Tr.node (AV.lit (Value.int IntKind.i64 (Int.ofNat 3))) Tr.nil Tr.nil)
              (Tr.node (AV.sl 20 0 1 1 false) Tr.nil Tr.nil)))))))
  156 []

def awS11 : St :=
  St.mk
  [(37, AObj.cells none false [AV.lit (Value.int IntKind.i64 (Int.ofNat 1))]), (36, AObj.cells none false [AV.lit (Value.int IntKind.i64 (Int.ofNat 2))]),
    (35, AObj.cells none false [AV.lit (Value.int IntKind.i64 (Int.ofNat 1))]),
    (32,
      AObj.cells none false
        [AV.lit (Value.int IntKind.i64 (Int.ofNat 0)), AV.lit (Value.int IntKind.i64 (Int.ofNat 4)), AV.lit (Value.int IntKind.i64 (Int.ofNat 5)),
          AV.lit (Value.int IntKind.i64 (Int.ofNat 1)), AV.lit (Value.int IntKind.i64 (Int.ofNat 5)), AV.lit (Value.int IntKind.i64 (Int.ofNat 6))]),
    (33,
      AObj.cells none false
        [AV.lit (Value.int IntKind.i64 (Int.ofNat 2)), AV.lit (Value.int IntKind.i64 (Int.ofNat 2)), AV.lit (Value.int IntKind.i64 (Int.ofNat 2)),
          AV.lit (Value.int IntKind.i64 (Int.ofNat 3)), AV.lit (Value.int IntKind.i64 (Int.ofNat 4)), AV.lit (Value.int IntKind.i64 (Int.ofNat 2)),
          AV.lit (Value.int IntKind.i64 (Int.ofNat 2)), AV.lit (Value.int IntKind.i64 (Int.ofNat 2)), AV.lit (Value.int IntKind.i64 (Int.ofNat 3)),
          AV.lit (Value.int IntKind.i64 (Int.ofNat 3)), AV.lit (Value.int IntKind.i64 (Int.ofNat 3)), AV.lit (Value.int IntKind.i64 (Int.negSucc 0))]),
    (34,
      AObj.cells none false
        [AV.lit (Value.int IntKind.i64 (Int.ofNat 0)), AV.lit (Value.bool true), AV.lit (Value.int IntKind.i64 (Int.ofNat 3)),
          AV.lit (Value.int IntKind.i64 (Int.ofNat 9)), AV.lit (Value.int IntKind.i64 (Int.ofNat 3)), AV.lit (Value.bool true),
          AV.lit (Value.int IntKind.i64 (Int.ofNat 1)), AV.lit (Value.int IntKind.i64 (Int.ofNat 5))]),
    (31, AObj.cells none false [AV.lit (Value.int IntKind.i64 (Int.ofNat 1))]),
    (28,
      AObj.cells none false
        [AV.lit (Value.int IntKind.i64 (Int.ofNat 0)), AV.lit (Value.int IntKind.i64 (Int.ofNat 4)), AV.lit (Value.int IntKind.i64 (Int.ofNat 5)),
          AV.lit (Value.int IntKind.i64 (Int.ofNat 1)), AV.lit (Value.int IntKind.i64 (Int.ofNat 5)), AV.lit (Value.int IntKind.i64 (Int.ofNat 6))]),
    (29,
      AObj.cells none false
        [AV.lit (Value.int IntKind.i64 (Int.ofNat 2)), AV.lit (Value.int IntKind.i64 (Int.ofNat 2)), AV.lit (Value.int IntKind.i64 (Int.ofNat 2)),
          AV.lit (Value.int IntKind.i64 (Int.ofNat 3)), AV.lit (Value.int IntKind.i64 (Int.ofNat 4)), AV.lit (Value.int IntKind.i64 (Int.ofNat 2)),
          AV.lit (Value.int IntKind.i64 (Int.ofNat 2)), AV.lit (Value.int IntKind.i64 (Int.ofNat 2)), AV.lit (Value.int IntKind.i64 (Int.ofNat 3)),
          AV.lit (Value.int IntKind.i64 (Int.ofNat 3)), AV.lit (Value.int IntKind.i64 (Int.ofNat 3)), AV.lit (Value.int IntKind.i64 (Int.negSucc 0))]),
    (30,
      AObj.cells none false
        [AV.lit (Value.int IntKind.i64 (Int.ofNat 0)), AV.lit (Value.bool true), AV.lit (Value.int IntKind.i64 (Int.ofNat 3)),
          AV.lit (Value.int IntKind.i64 (Int.ofNat 9)), AV.lit (Value.int IntKind.i64 (Int.ofNat 3)), AV.lit (Value.bool true),
          AV.lit (Value.int IntKind.i64 (Int.ofNat 1)), AV.lit (Value.int IntKind.i64 (Int.ofNat 5))]),
    (25,
      AObj.cells none false
        [AV.lit (Value.int IntKind.i64 (Int.ofNat 0)), AV.lit (Value.int IntKind.i64 (Int.ofNat 4)), AV.lit (Value.int IntKind.i64 (Int.ofNat 5)),
          AV.lit (Value.int IntKind.i64 (Int.ofNat 1)), AV.lit (Value.int IntKind.i64 (Int.ofNat 5)), AV.lit (Value.int IntKind.i64 (Int.ofNat 6))]),
    (26,
      AObj.cells none false
        [AV.lit (Value.int IntKind.i64 (Int.ofNat 2)), AV.lit (Value.int IntKind.i64 (Int.ofNat 2)), AV.lit (Value.int IntKind.i64 (Int.ofNat 2)),
          AV.lit (Value.int IntKind.i64 (Int.ofNat 3)), AV.lit (Value.int IntKind.i64 (Int.ofNat 4)), AV.lit (Value.int IntKind.i64 (Int.ofNat 2)),
          AV.lit (Value.int IntKind.i64 (Int.ofNat 2)), AV.lit (Value.int IntKind.i64 (Int.ofNat 2)), AV.lit (Value.int IntKind.i64 (Int.ofNat 3)),
          AV.lit (Value.int IntKind.i64 (Int.ofNat 3)), AV.lit (Value.int IntKind.i64 (Int.ofNat 3)), AV.lit (Value.int IntKind.i64 (Int.negSucc 0))]),
    (27,
      AObj.cells none false
        [AV.lit (Value.int IntKind.i64 (Int.ofNat 0)), AV.lit (Value.bool true), AV.lit (Value.int IntKind.i64 (Int.ofNat 3)),
          AV.lit (Value.int IntKind.i64 (Int.ofNat 9)), AV.lit (Value.int IntKind.i64 (Int.ofNat 3)), AV.lit (Value.bool true),
          AV.lit (Value.int IntKind.i64 (Int.ofNat 1)), AV.lit (Value.int IntKind.i64 (Int.ofNat 5))]),
    (24, AObj.cells none false [AV.lit (Value.int IntKind.i64 (Int.ofNat 2))]),
    (21,
      AObj.cells none false
        [AV.lit (Value.int IntKind.i64 (Int.ofNat 0)), AV.lit (Value.int IntKind.i64 (Int.ofNat 4)), AV.lit (Value.int IntKind.i64 (Int.ofNat 5)),
          AV.lit (Value.int IntKind.i64 (Int.ofNat 1)), AV.lit (Value.int IntKind.i64 (Int.ofNat 5)), AV.lit (Value.int IntKind.i64 (Int.ofNat 6))]),
    (22,
      AObj.cells none false
        [AV.lit (Value.int IntKind.i64 (Int.ofNat 2)), AV.lit (Value.int IntKind.i64 (Int.ofNat 2)), AV.lit (Value.int IntKind.i64 (Int.ofNat 2)),
          AV.lit (Value.int IntKind.i64 (Int.ofNat 3)), AV.lit (Value.int IntKind.i64 (Int.ofNat 4)), AV.lit (Value.int IntKind.i64 (Int.ofNat 2)),
          AV.lit (Value.int IntKind.i64 (Int.ofNat 2)), AV.lit (Value.int IntKind.i64 (Int.ofNat 2)), AV.lit (Value.int IntKind.i64 (Int.ofNat 3)),
          AV.lit (Value.int IntKind.i64 (Int.ofNat 3)), AV.lit (Value.int IntKind.i64 (Int.ofNat 3)), AV.lit (Value.int IntKind.i64 (Int.negSucc 0))]),
    (23,
      AObj.cells none false
        [AV.lit (Value.int IntKind.i64 (Int.ofNat 0)), AV.lit (Value.bool true), AV.lit (Value.int IntKind.i64 (Int.ofNat 3)),
          AV.lit (Value.int IntKind.i64 (Int.ofNat 9)), AV.lit (Value.int IntKind.i64 (Int.ofNat 3)), AV.lit (Value.bool true),
          AV.lit (Value.int IntKind.i64 (Int.ofNat 1)), AV.lit (Value.int IntKind.i64 (Int.ofNat 5))]),
    (20, AObj.cells none false [AV.lit (Value.int IntKind.i64 (Int.ofNat 1))]),
    (17,
      AObj.cells none false
        [AV.lit (Value.int IntKind.i64 (Int.ofNat 0)), AV.lit (Value.int IntKind.i64 (Int.ofNat 4)), AV.lit (Value.int IntKind.i64 (Int.ofNat 5)),
          AV.lit (Value.int IntKind.i64 (Int.ofNat 1)), AV.lit (Value.int IntKind.i64 (Int.ofNat 5)), AV.lit (Value.int IntKind.i64 (Int.ofNat 6))]),
    (18,
      AObj.cells none false
        [AV.lit (Value.int IntKind.i64 (Int.ofNat 2)), AV.lit (Value.int IntKind.i64 (Int.ofNat 2)), AV.lit (Value.int IntKind.i64 (Int.ofNat 2)),
          AV.lit (Value.int IntKind.i64 (Int.ofNat 3)), AV.lit (Value.int IntKind.i64 (Int.ofNat 4)), AV.lit (Value.int IntKind.i64 (Int.ofNat 2)),
          AV.lit (Value.int IntKind.i64 (Int.ofNat 2)), AV.lit (Value.int IntKind.i64 (Int.ofNat 2)), AV.lit (Value.int IntKind.i64 (Int.ofNat 3)),
          AV.lit (Value.int IntKind.i64 (Int.ofNat 3)), AV.lit (Value.int IntKind.i64 (Int.ofNat 3)), AV.lit (Value.int IntKind.i64 (Int.negSucc 0))]),
    (19,
      AObj.cells none false
        [AV.lit (Value.int IntKind.i64 (Int.ofNat 0)), AV.lit (Value.bool true), AV.lit (Value.int IntKind.i64 (Int.ofNat 3)),
          AV.lit (Value.int IntKind.i64 (Int.ofNat 9)), AV.lit (Value.int IntKind.i64 (Int.ofNat 3)), AV.lit (Value.bool true),
          AV.lit (Value.int IntKind.i64 (Int.ofNat 1)), AV.lit (Value.int IntKind.i64 (Int.ofNat 5))]),
    (15,
      AObj.cells (some 16) false
        [AV.lit (Value.int IntKind.i64 (Int.ofNat 5)), AV.lit (Value.int IntKind.i64 (Int.ofNat 5)), AV.lit (Value.int IntKind.i64 (Int.ofNat 2)),
          AV.lit (Value.int IntKind.i64 (Int.ofNat 2)), AV.lit (Value.int IntKind.i64 (Int.ofNat 3)), AV.lit (Value.int IntKind.i64 (Int.ofNat 3)),
          AV.lit (Value.int IntKind.i64 (Int.ofNat 5)), AV.lit (Value.int IntKind.i64 (Int.ofNat 6)), AV.lit (Value.int IntKind.i64 (Int.ofNat 4)),
          AV.lit (Value.int IntKind.i64 (Int.ofNat 4)), AV.lit (Value.int IntKind.i64 (Int.ofNat 1)), AV.lit (Value.int IntKind.i64 (Int.ofNat 2)),
          AV.lit (Value.int IntKind.i64 (Int.ofNat 4)), AV.lit (Value.int IntKind.i64 (Int.ofNat 5)), AV.lit (Value.int IntKind.i64 (Int.ofNat 2)),
          AV.lit (Value.int IntKind.i64 (Int.ofNat 2)), AV.lit (Value.int IntKind.i64 (Int.ofNat 2)), AV.lit (Value.int IntKind.i64 (Int.ofNat 3)),
          AV.lit (Value.int IntKind.i64 (Int.ofNat 2)), AV.lit (Value.int IntKind.i64 (Int.ofNat 3)), AV.lit (Value.int IntKind.i64 (Int.ofNat 2)),
          AV.lit (Value.int IntKind.i64 (Int.ofNat 3)), AV.lit (Value.int IntKind.i64 (Int.ofNat 0)), AV.lit (Value.int IntKind.i64 (Int.ofNat 0))]),
    (16,
      AObj.cells (some 16) false
        [AV.lit (Value.int IntKind.i64 (Int.ofNat 5)), AV.lit (Value.int IntKind.i64 (Int.ofNat 5)), AV.lit (Value.int IntKind.i64 (Int.ofNat 2)),
          AV.lit (Value.int IntKind.i64 (Int.ofNat 2)), AV.lit (Value.int IntKind.i64 (Int.ofNat 3)), AV.lit (Value.int IntKind.i64 (Int.ofNat 3))]),
    (12,
      AObj.cells none false
        [AV.lit (Value.int IntKind.i64 (Int.ofNat 0)), AV.lit (Value.int IntKind.i64 (Int.ofNat 4)), AV.lit (Value.int IntKind.i64 (Int.ofNat 5)),
          AV.lit (Value.int IntKind.i64 (Int.ofNat 1)), AV.lit (Value.int IntKind.i64 (Int.ofNat 5)), AV.lit (Value.int IntKind.i64 (Int.ofNat 6))]),
    (13,
      AObj.cells none false
        [AV.lit (Value.int IntKind.i64 (Int.ofNat 2)), AV.lit (Value.int IntKind.i64 (Int.ofNat 2)), AV.lit (Value.int IntKind.i64 (Int.ofNat 2)),
          AV.lit (Value.int IntKind.i64 (Int.ofNat 3)), AV.lit (Value.int IntKind.i64 (Int.ofNat 4)), AV.lit (Value.int IntKind.i64 (Int.ofNat 2)),
          AV.lit (Value.int IntKind.i64 (Int.ofNat 2)), AV.lit (Value.int IntKind.i64 (Int.ofNat 2)), AV.lit (Value.int IntKind.i64 (Int.ofNat 3)),
          AV.lit (Value.int IntKind.i64 (Int.ofNat 3)), AV.lit (Value.int IntKind.i64 (Int.ofNat 3)), AV.lit (Value.int IntKind.i64 (Int.negSucc 0))]),
    (14,
      AObj.cells none false
        [AV.lit (Value.int IntKind.i64 (Int.ofNat 0)), AV.lit (Value.bool true), AV.lit (Value.int IntKind.i64 (Int.ofNat 3)),
          AV.lit (Value.int IntKind.i64 (Int.ofNat 9)), AV.lit (Value.int IntKind.i64 (Int.ofNat 3)), AV.lit (Value.bool true),
          AV.lit (Value.int IntKind.i64 (Int.ofNat 1)), AV.lit (Value.int IntKind.i64 (Int.ofNat 5))]),
    (11, AObj.cells none false [AV.lit (Value.int IntKind.i64 (Int.ofNat 4)), AV.lit (Value.int IntKind.i64 (Int.ofNat 5))]),
    (8,
      AObj.cells none false
        [AV.lit (Value.int IntKind.i64 (Int.ofNat 0)), AV.lit (Value.int IntKind.i64 (Int.ofNat 4)), AV.lit (Value.int IntKind.i64 (Int.ofNat 5)),
          AV.lit (Value.int IntKind.i64 (Int.ofNat 1)), AV.lit (Value.int IntKind.i64 (Int.ofNat 5)), AV.lit (Value.int IntKind.i64 (Int.ofNat 6))]),
    (9,
      AObj.cells none false
        [AV.lit (Value.int IntKind.i64 (Int.ofNat 2)), AV.lit (Value.int IntKind.i64 (Int.ofNat 2)), AV.lit (Value.int IntKind.i64 (Int.ofNat 2)),
          AV.lit (Value.int IntKind.i64 (Int.ofNat 3)), AV.lit (Value.int IntKind.i64 (Int.ofNat 4)), AV.lit (Value.int IntKind.i64 (Int.ofNat 2)),
          AV.lit (Value.int IntKind.i64 (Int.ofNat 2)), AV.lit (Value.int IntKind.i64 (Int.ofNat 2)), AV.lit (Value.int IntKind.i64 (Int.ofNat 3)),
          AV.lit (Value.int IntKind.i64 (Int.ofNat 3)), AV.lit (Value.int IntKind.i64 (Int.ofNat 3)), AV.lit (Value.int IntKind.i64 (Int.negSucc 0))]),
    (10,
      AObj.cells none false
        [AV.lit (Value.int IntKind.i64 (Int.ofNat 0)), AV.lit (Value.bool true), AV.lit (Value.int IntKind.i64 (Int.ofNat 3)),
          AV.lit (Value.int IntKind.i64 (Int.ofNat 9)), AV.lit (Value.int IntKind.i64 (Int.ofNat 3)), AV.lit (Value.bool true),
          AV.lit (Value.int IntKind.i64 (Int.ofNat 1)), AV.lit (Value.int IntKind.i64 (Int.ofNat 5))]),
    (5,
      AObj.cells none false
        [AV.lit (Value.int IntKind.i64 (Int.ofNat 0)), AV.lit (Value.int IntKind.i64 (Int.ofNat 4)), AV.lit (Value.int IntKind.i64 (Int.ofNat 5)),
          AV.lit (Value.int IntKind.i64 (Int.ofNat 1)), AV.lit (Value.int IntKind.i64 (Int.ofNat 5)), AV.lit (Value.int IntKind.i64 (Int.ofNat 6))]),
    (6,
      AObj.cells none false
        [AV.lit (Value.int IntKind.i64 (Int.ofNat 2)), AV.lit (Value.int IntKind.i64 (Int.ofNat 2)), AV.lit (Value.int IntKind.i64 (Int.ofNat 2)),
          AV.lit (Value.int IntKind.i64 (Int.ofNat 3)), AV.lit (Value.int IntKind.i64 (Int.ofNat 4)), AV.lit (Value.int IntKind.i64 (Int.ofNat 2)),
          AV.lit (Value.int IntKind.i64 (Int.ofNat 2)), AV.lit (Value.int IntKind.i64 (Int.ofNat 2)), AV.lit (Value.int IntKind.i64 (Int.ofNat 3)),
          AV.lit (Value.int IntKind.i64 (Int.ofNat 3)), AV.lit (Value.int IntKind.i64 (Int.ofNat 3)), AV.lit (Value.int IntKind.i64 (Int.negSucc 0))]),
    (7,
      AObj.cells none false
        [AV.lit (Value.int IntKind.i64 (Int.ofNat 0)), AV.lit (Value.bool true), AV.lit (Value.int IntKind.i64 (Int.ofNat 3)),
          AV.lit (Value.int IntKind.i64 (Int.ofNat 9)), AV.lit (Value.int IntKind.i64 (Int.ofNat 3)), AV.lit (Value.bool true),
          AV.lit (Value.int IntKind.i64 (Int.ofNat 1)), AV.lit (Value.int IntKind.i64 (Int.ofNat 5))]),
    (4,
      AObj.cells none false
        [AV.lit (Value.int IntKind.i64 (Int.ofNat 4)), AV.lit (Value.int IntKind.i64 (Int.ofNat 2)), AV.lit (Value.int IntKind.i64 (Int.ofNat 2)),
          AV.lit (Value.int IntKind.i64 (Int.ofNat 5)), AV.lit (Value.int IntKind.i64 (Int.ofNat 4)), AV.lit (Value.int IntKind.i64 (Int.ofNat 1)),
          AV.lit (Value.int IntKind.i64 (Int.ofNat 3)), AV.lit (Value.int IntKind.i64 (Int.ofNat 2)), AV.lit (Value.int IntKind.i64 (Int.ofNat 1)),
          AV.lit (Value.int IntKind.i64 (Int.ofNat 1)), AV.lit (Value.int IntKind.i64 (Int.ofNat 1)), AV.lit (Value.int IntKind.i64 (Int.ofNat 0))]),
    (3, AObj.cells none false [AV.lit (Value.int IntKind.i64 (Int.ofNat 4)), AV.lit (Value.int IntKind.i64 (Int.ofNat 5))]),
    (0,
      AObj.cells none false
        [AV.lit (Value.int IntKind.i64 (Int.ofNat 0)), AV.lit (Value.int IntKind.i64 (Int.ofNat 4)), AV.lit (Value.int IntKind.i64 (Int.ofNat 5)),
          AV.lit (Value.int IntKind.i64 (Int.ofNat 1)), AV.lit (Value.int IntKind.i64 (Int.ofNat 5)), AV.lit (Value.int IntKind.i64 (Int.ofNat 6))]),
    (1,
      AObj.cells none false
        [AV.lit (Value.int IntKind.i64 (Int.ofNat 2)), AV.lit (Value.int IntKind.i64 (Int.ofNat 2)), AV.lit (Value.int IntKind.i64 (Int.ofNat 2)),
          AV.lit (Value.int IntKind.i64 (Int.ofNat 3)), AV.lit (Value.int IntKind.i64 (Int.ofNat 4)), AV.lit (Value.int IntKind.i64 (Int.ofNat 2)),
          AV.lit (Value.int IntKind.i64 (Int.ofNat 2)), AV.lit (Value.int IntKind.i64 (Int.ofNat 2)), AV.lit (Value.int IntKind.i64 (Int.ofNat 3)),
          AV.lit (Value.int IntKind.i64 (Int.ofNat 3)), AV.lit (Value.int IntKind.i64 (Int.ofNat 3)), AV.lit (Value.int IntKind.i64 (Int.negSucc 0))]),
    (2,
      AObj.cells none false
        [AV.lit (Value.int IntKind.i64 (Int.ofNat 0)), AV.lit (Value.bool true), AV.lit (Value.int IntKind.i64 (Int.ofNat 3)),
          AV.lit (Value.int IntKind.i64 (Int.ofNat 9)), AV.lit (Value.int IntKind.i64 (Int.ofNat 3)), AV.lit (Value.bool true),
          AV.lit (Value.int IntKind.i64 (Int.ofNat 1)), AV.lit (Value.int IntKind.i64 (Int.ofNat 5))])]
  38


end Go.Ev
