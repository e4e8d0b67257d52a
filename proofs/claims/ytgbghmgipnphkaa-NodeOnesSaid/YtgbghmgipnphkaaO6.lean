import Derived.Test.YtgbghmgipnphkaaV11

/- The laws on piles, walked over the calls' contracts: PileReads. -/
set_option maxRecDepth 10000
set_option maxRecDepth 10000
namespace Go.Proofs.Ytgbghmgipnphkaa
open Go.RowKit

/-- A step of a plain region, told by the slot that it writes. -/
theorem wpList_valD {P : Program} {ops : Array Oper} {rest : List Oper} {o : Oper} {a : Act} {w w' : World} {Q : Exit → Act → World → Prop} (d : Tmp) (_hd : o.dst = some d) (v : Value)
    (hrun : (execOp a.eval o).run P w = .ok (.value v) w') (hw : Region.wanted o (yielded ops a.tmps) = true) (h : wpList P ops Q rest (a.put o.dst v) w') : wpList P ops Q (o :: rest) a w := wpList_val hw v hrun h
section
end
end Go.Proofs.Ytgbghmgipnphkaa
