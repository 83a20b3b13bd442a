
/- For every input, laws.FnPlainSize returns true, and each argument reads afterwards as it read before. No condition. -/
import Derived.Test.YtlaaihnokoeliaaLFnPlainSize1
import Derived.Test.YtlaaihnokoeliaaKMat20
namespace Go.Proofs.Ytlaaihnokoeliaa
open Go.ChangeShapes Go.WideShapes Go.ChangeAt Go.RowKit

theorem fnPlainSize_holds : Rows.FnPlainSizeSaid := fnPlainSize_over
#print axioms fnPlainSize_holds
end Go.Proofs.Ytlaaihnokoeliaa
