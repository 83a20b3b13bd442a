
/- For every input, laws.FnPlainTwice returns true, and each argument reads afterwards as it read before. No condition. -/
import Derived.Test.YtlaaihnokoeliaaLFnPlainTwice1
import Derived.Test.YtlaaihnokoeliaaKMat20
namespace Go.Proofs.Ytlaaihnokoeliaa
open Go.ChangeShapes Go.WideShapes Go.ChangeAt Go.RowKit

theorem fnPlainTwice_holds : Rows.FnPlainTwiceSaid := fnPlainTwice_over
#print axioms fnPlainTwice_holds
end Go.Proofs.Ytlaaihnokoeliaa
