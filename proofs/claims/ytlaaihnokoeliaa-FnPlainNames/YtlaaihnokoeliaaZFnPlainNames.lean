
/- For every input, laws.FnPlainNames returns true, and each argument reads afterwards as it read before. No condition. -/
import Derived.Test.YtlaaihnokoeliaaLFnPlainNames1
import Derived.Test.YtlaaihnokoeliaaKMat20
namespace Go.Proofs.Ytlaaihnokoeliaa
open Go.ChangeShapes Go.WideShapes Go.ChangeAt Go.RowKit

theorem fnPlainNames_holds : Rows.FnPlainNamesSaid := fnPlainNames_over
#print axioms fnPlainNames_holds
end Go.Proofs.Ytlaaihnokoeliaa
