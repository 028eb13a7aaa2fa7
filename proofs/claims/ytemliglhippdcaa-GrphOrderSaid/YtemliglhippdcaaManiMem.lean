/- What is stored in the document's parser leaves its rules alone. -/
import Derived.Test.YtemliglhippdcaaManiRef2
import Derived.Test.YtemliglhippdcaaManiMem0
namespace Go.Proofs.Ytemliglhippdcaa
set_option maxRecDepth 100000
open Go.ChangeShapes Go.WideShapes Go.ChangeAt Go.RowKit

/-- Whatever is stored in the parser's own block, its rules stand. -/
theorem SlR.parser {w w' : World} {v : Value} {l : List Mn.Rule} {g : Nat} {rv dv lv fv : Value} {e : Mn.F} (h : SlR w v l) (hp : Pb w g rv dv lv fv e) (hg : w.grownBy w' (some g)) : SlR w' v l :=
  h.keep (Keep.grown hg (Blk.ty hp) (by unfold RuleTy; decide))
end Go.Proofs.Ytemliglhippdcaa
